/- What decodes a block: the reader's steps. -/
import Derived.Test.YtmjjjdikpnhpiaaCodB
import Derived.Test.YtmjjjdikpnhpiaaMsg0
import Derived.Test.YtmjjjdikpnhpiaaShort
import Derived.Deep.RegionHeld3
import Derived.Deep.AppendLies
import Derived.Test.YtmjjjdikpnhpiaaBufA
import Derived.Test.YtmjjjdikpnhpiaaLfC
import Derived.Test.YtmjjjdikpnhpiaaBufQ
namespace Go.Proofs.Ytmjjjdikpnhpiaa
set_option linter.unusedVariables false
set_option linter.unusedSimpArgs false
set_option maxRecDepth 100000
open Go.RowKit
/-- The reader in block g has r before it, in blocks below B. -/
def Rd (w : World) (B g : Nat) (r : List Int) : Prop := ∃ b off n c, Arr w g 46 #[.slice (some ⟨b, off, none⟩) n c] ∧ Has w B (some ⟨b, off, none⟩) (u8s r) ∧ r.length = n ∧ n ≤ c ∧ n ≤ 100000 ∧ b < B ∧ B ≤ g
/-- All but block g has stayed. -/
def KpG (w : World) (g : Nat) (w' : World) : Prop := w.grownBy w' (some g)
theorem KpG.refl (w : World) (g : Nat) : KpG w g w := World.grownBy.refl w _
theorem KpG.trans {w w1 w2 : World} {g : Nat} (h : KpG w g w1) (k : KpG w1 g w2) : KpG w g w2 := World.grownBy.trans h k
theorem KpG.fr {w w1 w2 : World} {g : Nat} (h : KpG w g w1) (k : Fr w1 w2) : KpG w g w2 := h.trans ⟨k.os, k.tape, k.output, k.size, fun j hj _ => k.block j hj⟩
theorem KpG.of_fr {w w1 : World} (g : Nat) (k : Fr w w1) : KpG w g w1 := (KpG.refl w g).fr k
theorem KpG.below {a w w1 : World} {g B : Nat} (h : KpG w g w1) (hb : Below B a w) (hB : B ≤ w.heap.size) (hg : B ≤ g) : Below B a w1 := hb.grown h hB fun k hk => by injection hk with hk; omega
theorem KpG.arr {w w1 : World} {g k T : Nat} {cs : Array Value} (h : KpG w g w1) (ha : Arr w k T cs) (hne : k ≠ g) : Arr w1 k T cs := (h.block k ha.lt (fun e => hne (by injection e))).trans ha
theorem Has.kpg {w w1 : World} {g B : Nat} {A : Option Addr} {xs : List Value} (h : Has w B A xs) (k : KpG w g w1) (hB : B ≤ g) (hs : B ≤ w.heap.size) : Has w1 B A xs := h.lift fun p hp => k.cell_far p (by omega) (fun e => by injection e with e; omega)
theorem Rd.lt {w : World} {B g : Nat} {r : List Int} (h : Rd w B g r) : g < w.heap.size := by
  obtain ⟨b, off, n, c, ha, _⟩ := h; exact ha.lt
theorem Rd.fr {w w1 : World} {B g : Nat} {r : List Int} (h : Rd w B g r) (k : Fr w w1) : Rd w1 B g r := by
  have hl := h.lt
  obtain ⟨b, off, n, c, ha, hh, h1, h2, h3, h4, h5⟩ := h
  exact ⟨b, off, n, c, ha.below k hl, hh.lift fun p hp => k.cell (by omega), h1, h2, h3, h4, h5⟩
/-- What the reader takes: k bytes, the first ones. -/
def TkR (w : World) (B g : Nat) (r : List Int) (k : Nat) (e : Ending) (w' : World) : Prop :=
  ∃ A' n' c', e = .returned (.slice A' n' c') ∧ Hid (n' = min k r.length ∧ Has w' B A' (u8s (r.take k)) ∧ n' ≤ c' ∧ Rd w' B g (r.drop k) ∧ KpG w g w')
theorem kpg_set {w : World} {g T j : Nat} {cs : Array Value} (ha : Arr w g T cs) (v : Value) : Arr (w.setCell ⟨g, j, none⟩ v) g T (cs.setIfInBounds j v) ∧ KpG w g (w.setCell ⟨g, j, none⟩ v) := ⟨ha.set j v, ⟨rfl, rfl, rfl, by simp [World.setCell], fun k _ hk => Below.heap_setCell _ _ _ _ (fun e => hk (by simp [e]))⟩⟩
theorem tk_mk {w : World} {B g b off n c k N : Nat} {r : List Int} {A : Option Addr} {c2 : Nat} (hc : n ≤ c) (h5 : n ≤ 100000) (hb : b < B) (hB : B ≤ g) (hn : r.length = n) (ha : Arr w g 46 #[.slice (some ⟨b, off, none⟩) n c]) (hh : Has w B (some ⟨b, off, none⟩) (u8s r)) (hk : k = min N n)
    (hA : (c = k ∧ A = some ⟨b, off, none⟩ ∧ c2 = 0) ∨ (c ≠ k ∧ A = some ⟨b, off + k, none⟩ ∧ c2 = c - k)) : 
    Has (w.setCell ⟨g, 0, none⟩ (.slice A (n - k) c2)) B (some ⟨b, off, none⟩) (u8s (r.take N)) ∧ Rd (w.setCell ⟨g, 0, none⟩ (.slice A (n - k) c2)) B g (r.drop N) ∧ KpG w g (w.setCell ⟨g, 0, none⟩ (.slice A (n - k) c2)) := by
  obtain ⟨a1, k1⟩ := kpg_set (j := 0) ha (.slice A (n - k) c2)
  have hs : B ≤ w.heap.size := Nat.le_trans hB (Nat.le_of_lt ha.lt)
  have h1 := hh.kpg k1 hB hs
  refine ⟨?_, ?_, k1⟩
  · rw [show u8s (r.take N) = (u8s r).take N from List.map_take]; exact h1.take N
  · rcases hA with ⟨e1, rfl, rfl⟩ | ⟨e1, rfl, rfl⟩
    · have e2 : r.drop N = [] := List.drop_of_length_le (by omega)
      rw [e2]
      exact ⟨b, off, n - k, 0, a1, Has.nil, by simp; omega, by omega, by omega, hb, hB⟩
    · refine ⟨b, off + k, n - k, c - k, a1, ?_, by simp; omega, by omega, by omega, hb, hB⟩
      by_cases hNn : N ≤ n
      · obtain rfl : k = N := by omega
        rw [show u8s (r.drop k) = (u8s r).drop k from List.map_drop]; exact h1.drop k
      · rw [List.drop_of_length_le (by omega)]; exact Has.nil
set_option maxHeartbeats 1000000 in
theorem rbytes_at {w : World} {B g : Nat} {r : List Int} (h : Rd w B g r) (N : Nat) (hN : N ≤ 1000) :
    Calls Try.prog 33 #[.pointer (some ⟨g, 0, none⟩), .int .i64 (N : Int)] w (TkR w B g r N) := by
  obtain ⟨b, off, n, c, ha, hh, hn, hc, h5, hb, hB⟩ := h
  obtain ⟨k, hk, hkn⟩ : ∃ k : Nat, k = min N n ∧ k ≤ n := ⟨min N n, rfl, Nat.min_le_right _ _⟩
  have hmin : min (N : Int) (n : Int) = (k : Int) := by omega
  have c0 : w.cell? ⟨g, 0, none⟩ = some (.slice (some ⟨b, off, none⟩) n c) := by rw [ha.cell]; rfl
  have hf := ha.free 0
  have M := fun A c2 => tk_mk (A := A) (c2 := c2) hc h5 hb hB hn ha hh hk
  have Hk := zb hk
  have Hn := zb hn
  clear hk ha hh hn
  by_cases hck : c = k
  all_goals
    go_enter Try.func33, Try.ntmps33
    go_wp2_with fail
    go_ret
  · obtain ⟨m1, m2, m3⟩ := M _ _ (.inl ⟨hck, rfl, rfl⟩)
    exact ⟨_, k, _, rfl, zb ⟨by rw [Hn.out]; exact Hk.out, m1, by omega, m2, m3⟩⟩
  · obtain ⟨m1, m2, m3⟩ := M _ _ (.inr ⟨hck, rfl, rfl⟩)
    exact ⟨_, k, _, rfl, zb ⟨by rw [Hn.out]; exact Hk.out, m1, by omega, m2, m3⟩⟩
theorem okW_no (w : Int) (h : ¬ (1 ≤ w ∧ w ≤ 8)) : okW w = false := by
  cases hb : okW w with
  | false => rfl
  | true => exact absurd ((okW_iff w).1 hb) h
set_option maxHeartbeats 400000 in
theorem num_bad (A : Option Addr) (n c : Nat) (p k : Int) (hn : n ≤ 100000) (h : ¬ (1 ≤ k ∧ k ≤ 8 ∧ 0 ≤ p ∧ p ≤ n - k)) (w : World) :
    Calls Try.prog 10 #[.slice A n c, .int .i64 p, .int .i64 k] w fun e w' => e = .returned (.tuple #[.int .u64 0, .bool false]) ∧ w = w' := by
  by_cases hk : 1 ≤ k ∧ k ≤ 8
  · have hok : okW k = true := (okW_iff k).2 hk
    obtain ⟨hk1, hk2⟩ := hk
    rcases (show p < 0 ∨ (0 ≤ p ∧ (n : Int) - k < p) from by omega) with h1 | ⟨h0, h1⟩
    all_goals
      clear h
      go_enter Try.func10, Try.ntmps10
      go_wp2_with (first | (go_at_call 27; refine (zmZ _ _).mono ?_; rintro e w' ⟨rfl, rfl⟩))
      go_ret2
      exact ⟨rfl, rfl⟩
  · have hok : okW k = false := okW_no k hk
    clear h hk
    go_enter Try.func10, Try.ntmps10
    go_wp2_with (first | (go_at_call 27; refine (zmZ _ _).mono ?_; rintro e w' ⟨rfl, rfl⟩))
    go_ret2
    exact ⟨rfl, rfl⟩

theorem nmP_bd {w : Nat} {r : List Int} (h : zdi r) : 0 ≤ nmP w r ∧ nmP w r < 256 ^ w := by
  unfold nmP
  split
  · rename_i hw
    have := zmx (r.take w) (zdD h w)
    rw [List.length_take, Nat.min_eq_left hw] at this
    exact this
  · exact ⟨Int.le_refl _, Int.pow_pos (by decide)⟩
theorem ctP_eq {r : List Int} (h : zdi r) : nmP 1 r = (ctP r : Int) ∧ ctP r ≤ 255 := by
  have := nmP_bd (w := 1) h
  unfold ctP
  rw [show (256 : Int) ^ 1 = 256 from by decide] at this
  omega
theorem Rd.size {w : World} {B g : Nat} {r : List Int} (h : Rd w B g r) : B ≤ g ∧ g < w.heap.size := by
  have := h.lt
  obtain ⟨b, off, n, c, ha, hh, h1, h2, h3, h4, h5⟩ := h
  exact ⟨h5, this⟩
theorem Rd.len {w : World} {B g : Nat} {r : List Int} (h : Rd w B g r) : r.length ≤ 100000 := by
  obtain ⟨b, off, n, c, ha, hh, h1, h2, h3, h4, h5⟩ := h
  omega
/-- A number is read. -/
def NmR (w : World) (B g : Nat) (r : List Int) (v : Value) (k : Nat) (e : Ending) (w' : World) : Prop := e = .returned v ∧ Hid (Rd w' B g (r.drop k) ∧ KpG w g w')
set_option maxHeartbeats 1000000 in
theorem rnumber_at {w : World} {B g : Nat} {r : List Int} (h : Rd w B g r) (hby : zdi r) (K : Nat) (h1 : 1 ≤ K) (h8 : K ≤ 8) :
    Calls Try.prog 58 #[.pointer (some ⟨g, 0, none⟩), .int .i64 (K : Int)] w (NmR w B g r (.int .u64 (nmP K r)) K) := by
  have hl := h.len
  go_enter Try.func58, Try.ntmps58
  go_wp2_with fail
  refine (rbytes_at h K (by omega)).mono ?_
  rintro e w1 ⟨A1, n1, c1, rfl, h9⟩
  obtain ⟨e1, e2, e3, e4, e5⟩ := h9.out
  have hz := e4.size
  by_cases hK : K ≤ r.length
  · have cN := num_ok A1 n1 c1 (r.take K) (by rw [List.length_take]; omega) (by omega) e3 (zdD hby K) 0 K h1 h8 (by omega) w1 (e2.mono (by omega))
    rw [List.drop_zero, List.take_of_length_le (l := r.take K) (by rw [List.length_take]; omega)] at cN
    rw [show ((0 : Nat) : Int) = 0 from rfl] at cN
    have en : leN (r.take K) = nmP K r := by unfold nmP; rw [if_pos hK]
    rw [en] at cN
    clear en e1 e2 e3 hby h hK h9 hz
    go_wp2_with fail
    refine cN.mono ?_
    rintro e w2 ⟨rfl, rfl⟩
    go_wp2_with fail
    go_ret
    exact ⟨rfl, zb ⟨e4, e5⟩⟩
  · have cN := num_bad A1 n1 c1 0 K (by omega) (by omega) w1
    have en : nmP K r = 0 := by unfold nmP; rw [if_neg hK]
    have En := zb en
    clear en e1 e2 e3 hby h hK h9 hz
    go_wp2_with fail
    refine cN.mono ?_
    rintro e w2 ⟨rfl, rfl⟩
    go_wp2_with fail
    go_ret
    exact ⟨by rw [En.out]; rfl, zb ⟨e4, e5⟩⟩
set_option maxHeartbeats 1000000 in
theorem rcount_at {w : World} {B g : Nat} {r : List Int} (h : Rd w B g r) (hby : zdi r) :
    Calls Try.prog 32 #[.pointer (some ⟨g, 0, none⟩)] w (NmR w B g r (.int .i64 (ctP r : Int)) 1) := by
  have cN := rnumber_at h hby 1 (by decide) (by decide)
  obtain ⟨en, e5⟩ := ctP_eq hby
  rw [en] at cN
  rw [show ((1 : Nat) : Int) = 1 from rfl] at cN
  clear en
  go_enter Try.func32, Try.ntmps32
  go_wp2_with fail
  refine cN.mono ?_
  rintro e w1 ⟨rfl, h1⟩
  go_wp2_with fail
  go_ret
  exact ⟨rfl, h1⟩
set_option maxHeartbeats 1000000 in
theorem rkid_at' {w : World} {B g : Nat} {r : List Int} (h : Rd w B g r) (hby : zdi r) :
    Calls Try.prog 37 #[.pointer (some ⟨g, 0, none⟩)] w (NmR w B g r (.int .i64 (nmP 4 r)) 4) := by
  have cN := rnumber_at h hby 4 (by decide) (by decide)
  have hb := nmP_bd (w := 4) hby
  rw [show (256 : Int) ^ 4 = 4294967296 from by decide] at hb
  obtain ⟨b1, b2⟩ := hb
  generalize nmP 4 r = z at *
  rw [show ((4 : Nat) : Int) = 4 from rfl] at cN
  go_enter Try.func37, Try.ntmps37
  go_wp2_with fail
  refine cN.mono ?_
  rintro e w1 ⟨rfl, h1⟩
  go_wp2_with fail
  go_ret
  exact ⟨rfl, h1⟩
open Go.RowKit in
theorem kpg_setRow {w : World} {g : Nat} (cs : Array Value) : KpG w g (w.setRow g cs) := ⟨rfl, rfl, rfl, by simp [World.setRow], fun k _ hk => setRow_other w g k cs (fun e => hk (by rw [e]))⟩
/-- 'copy' into a block of the call's own, from cells elsewhere. -/
theorem wpList_copy_keep {P : Program} {w : World} {ops : Array Oper} {rest : List Oper} {o : Oper} {a : Act} {Q : Exit → Act → World → Prop} (hgd : o.guard = none) (d s : Operand) (dT sT : TypeId)
    (ho : o.op = .call { callee := .builtin .copy, args := #[d, s], argTypes := #[dT, sT] }) (elem : TypeId) (hu : P.underlying dT = some (.slice elem)) (hsz : (P.info? elem).map (·.size) = some 1)
    {dp sp : Option Addr} {dLen dCap sLen sCap : Nat} (hd : a.eval d = .slice dp dLen dCap) (hs : a.eval s = .slice sp sLen sCap)
    (g off : Nat) {cur : List Value} {t : TypeId} (hg : Arr w g t cur.toArray) {cs : List Value} (hn : cs.length = min sLen dLen)
    (hdp : dp = some ⟨g, off, none⟩) {C : Nat} (hsp : Has w C sp cs)
    (hfit : off + cs.length ≤ cur.length) (h1 : ∀ v ∈ cs, v.oneCell' = true)
    (h : ∀ w' r, Arr w' g t (splice cur off cs).toArray → KpG w g w' → wpList P ops Q rest (a.put o.dst r) w') :
    wpList P ops Q (o :: rest) a w := by
  by_cases h0 : cs.length = 0
  · obtain rfl : cs = [] := List.eq_nil_of_length_eq_zero h0
    refine wpList_copy_nothing hgd d s dT sT ho elem hu hsz dp sp dLen dCap sLen sCap hd hs (by simpa using hn.symm) ?_
    exact h w _ (by simpa [splice] using hg) (KpG.refl _ _)
  · obtain ⟨b, o2, rfl, -, hsrc⟩ := hsp.form (by intro e; rw [e] at h0; exact h0 rfl)
    subst hdp
    refine wpList_copy_own hgd d s dT sT ho elem hu hsz g off dLen dCap ⟨b, o2, none⟩ sLen sCap hd hs cur.toArray t hg cs hn (fun j v hv => by rw [Addr.add_lit]; exact hsrc j v hv) (by simpa using hfit) h1 ?_
    exact h _ _ (by simpa [splice, Arr] using setRow_heap w g _ _ t _ hg) (kpg_setRow _)
/-- A text is read into cells. -/
def TxR (w : World) (B g gk T M : Nat) (cur : List Value) (r : List Int) (e : Ending) (w' : World) : Prop :=
  e = .returned (.int .i64 (ctP r : Int)) ∧ Hid (Arr w' gk T (splice cur 1 (u8s (((r.drop 1).take (ctP r)).take M))).toArray ∧ Rd w' B g ((r.drop 1).drop (ctP r)) ∧ (∀ a, KpG a g w → a.heap.size ≤ gk → KpG a g w') ∧ (∀ k T cs, Arr w k T cs → k ≠ g → k ≠ gk → Arr w' k T cs))
theorem KpG.set {a w w' : World} {g k : Nat} (h : KpG a g w) (h2 : KpG w k w') (hk : a.heap.size ≤ k) : KpG a g w' :=
  ⟨h2.os.trans h.os, h2.tape.trans h.tape, h2.output.trans h.output, Nat.le_trans h.size h2.size, fun j hj hne => (h2.block j (Nat.lt_of_lt_of_le hj h.size) (fun e => by injection e with e; omega)).trans (h.block j hj hne)⟩
set_option maxHeartbeats 1000000 in
theorem rtext_at {w : World} {B g : Nat} {r : List Int} (h : Rd w B g r) (hby : zdi r) {gk T M : Nat} {cur : List Value} (ha : Arr w gk T cur.toArray) (hne : gk ≠ g) (hBk : B ≤ gk) (hM : 1 + M = cur.length) :
    Calls Try.prog 60 #[.pointer (some ⟨g, 0, none⟩), .slice (some ⟨gk, 1, none⟩) M M] w (TxR w B g gk T M cur r) := by
  have h255 := (ctP_eq hby).2
  have cC := rcount_at h hby
  go_enter Try.func60, Try.ntmps60
  go_wp2_with fail
  refine cC.mono ?_
  rintro e w1 ⟨rfl, h1⟩
  obtain ⟨r1, k1⟩ := h1.out
  go_wp2_with fail
  refine (rbytes_at r1 (ctP r) (by omega)).mono ?_
  rintro e w2 ⟨A2, n2, c2, rfl, h2⟩
  obtain ⟨f1, f2, f3, f4, f5⟩ := h2.out
  have a1 := k1.arr ha hne
  have a2 := f5.arr a1 hne
  have hlen : (u8s (((r.drop 1).take (ctP r)).take M)).length = min n2 M := by rw [List.length_map, List.length_take, List.length_take, f1, Nat.min_comm]
  have hs2 : Has w2 B A2 (u8s (((r.drop 1).take (ctP r)).take M)) := by
    rw [show u8s (((r.drop 1).take (ctP r)).take M) = (u8s ((r.drop 1).take (ctP r))).take M from List.map_take]
    exact f2.take M
  generalize hu : u8s (((r.drop 1).take (ctP r)).take M) = us at *
  have h1c : ∀ v ∈ us, v.oneCell' = true := by rw [← hu]; exact zgJ _
  have hfit : 1 + us.length ≤ cur.length := by omega
  have Hu := zb hu
  clear hu cC f1 f2 f3 h2 h1 hby
  go_wp2_with (first
    | (refine wpList_copy_keep rfl (.tmp 8) (.tmp 11) 22 22 rfl 5 Try.underlying22 zhx rfl rfl gk 1 a2 hlen rfl hs2 hfit h1c ?_; intro w3 v3 a3 k3)
    | fail)
  go_ret
  have hz := f4.size
  refine ⟨rfl, zb ⟨by rw [Hu.out]; exact a3, ?_, fun a k hk => ((k.trans k1).trans f5).set k3 hk, fun k T cs hk h3 h4 => k3.arr (f5.arr (k1.arr hk h3) h3) h4⟩⟩
  obtain ⟨b, off, n, c, q1, q2, q3, q4, q5, q6, q7⟩ := f4
  exact ⟨b, off, n, c, k3.arr q1 (fun e => hne e.symm), q2.kpg k3 hBk (by omega), q3, q4, q5, q6, q7⟩
end Go.Proofs.Ytmjjjdikpnhpiaa
/- What decodes a block, two: keys, values, messages. -/
namespace Go.Proofs.Ytmjjjdikpnhpiaa
set_option linter.unusedVariables false
set_option linter.unusedSimpArgs false
set_option maxRecDepth 100000
open Go.RowKit
/-- A store into block g: all others stay. -/
theorem wpList_put {P : Program} {w : World} {ops : Array Oper} {rest : List Oper} {o : Oper} {a : Act} {Q : Exit → Act → World → Prop} {T n : Nat} (hs : (P.info? T).map (·.size) = some n) (hgd : o.guard = none) (x y : Operand) (ho : o.op = .store T x y)
    (g off : Nat) (hx : a.eval x = .pointer (some ⟨g, off, none⟩)) {ds : List Value} (hv : (a.eval y).cells.toList = ds) (hl : ds.length = n) (h1 : One ds)
    {T' : Nat} {cs : List Value} (ha : Arr w g T' cs.toArray) (hf : off + n ≤ cs.length) {cs' : List Value} (hc : splice cs off ds = cs')
    (h : ∀ W, Arr W g T' cs'.toArray → KpG w g W → wpList P ops Q rest (a.put o.dst undef) W) : wpList P ops Q (o :: rest) a w :=
  wpList_plain hgd fun K hK => by
    unfold Oper.wp execOp
    simp only [ho, hx, Instr.storeAt, Instr.sureAddr, Sem.run_bind, Sem.run_pure, Result.andThen_ok, zcm hs hv hl h1 ha hf, hc]
    exact hK _ _ (h _ (ha.setRow _) (kpg_setRow _))
theorem Rd.put {w W : World} {B g k : Nat} {r : List Int} (h : Rd w B g r) (hk : KpG w k W) (hne : k ≠ g) (hB : B ≤ k) : Rd W B g r := by
  have hz := h.size
  obtain ⟨b, off, n, c, q1, q2, q3, q4, q5, q6, q7⟩ := h
  exact ⟨b, off, n, c, hk.arr q1 (fun e => hne e.symm), q2.kpg hk hB (by omega), q3, q4, q5, q6, q7⟩
theorem splice_key (l : List Int) : splice (kc zr) 1 (u8s (l.take 8)) = kc (keyL 0 l) := by
  match l with
  | [] => rfl
  | [_] => rfl
  | [_, _] => rfl
  | [_, _, _] => rfl
  | [_, _, _, _] => rfl
  | [_, _, _, _, _] => rfl
  | [_, _, _, _, _, _] => rfl
  | [_, _, _, _, _, _, _] => rfl
  | _ :: _ :: _ :: _ :: _ :: _ :: _ :: _ :: _ => rfl
theorem splice_val (l : List Int) : splice (vc zE) 1 (u8s (l.take 16)) = vc (valL 0 l) := by
  unfold splice vc valL zE
  rw [List.take_succ_cons, List.take_zero, List.cons_append, List.nil_append, Nat.add_comm, List.drop_succ_cons]
  congr 1
  rw [show u8s (List.replicate 16 0) = List.replicate 16 (Value.int .u8 0) from by simp]
  rw [List.drop_replicate, show u8s (l.take 16 ++ List.replicate (16 - l.length) 0) = u8s (l.take 16) ++ u8s (List.replicate (16 - l.length) 0) from List.map_append]
  congr 1
  rw [show u8s (List.replicate (16 - l.length) 0) = List.replicate (16 - l.length) (Value.int .u8 0) from by simp]
  congr 1
  rw [List.length_map, List.length_take]
  omega
theorem val_set0 (n : Int) (l : List Int) : splice (vc (valL 0 l)) 0 [.int .i64 n] = vc (valL n l) := by
  unfold splice vc valL
  simp
theorem valL_len (n : Int) (l : List Int) : (vc (valL n l)).length = 17 := by unfold vc valL; simp; omega
theorem cint_info : (Try.prog.info? 3).map (·.size) = some 1 := by kernel_rfl
theorem u64_info' : (Try.prog.info? 40).map (·.size) = some 1 := by kernel_rfl
/-- A part is read: v; q is left. -/
def PrR (w : World) (B g : Nat) (v : Value) (q : List Int) (e : Ending) (w' : World) : Prop := e = .returned v ∧ Hid (Rd w' B g q ∧ KpG w g w')
attribute [local go_sem ↓] zw zt zae
set_option maxHeartbeats 2000000 in
theorem rkey_at {w : World} {B g : Nat} {r : List Int} (h : Rd w B g r) (hby : zdi r) :
    Calls Try.prog 39 #[.pointer (some ⟨g, 0, none⟩)] w (PrR w B g (kv (kyP r).1) (kyP r).2) := by
  obtain ⟨Y, hY, fY, aY, bY⟩ : ∃ Y, (w.alloc (.cells (kc zr).toArray 69)).alloc (.cells (kc zr).toArray 69) = Y ∧ Fr w Y ∧ Arr Y w.heap.size 69 (kc zr).toArray ∧ Arr Y (w.heap.size + 1) 69 (kc zr).toArray :=
    ⟨_, rfl, zf (zf (ze _) _) _, (Arr.new _ _ _).alloc _, zbr _ _ _ _ (by simp)⟩
  change (w.alloc (.cells #[.int .i64 0, .int .u8 0, .int .u8 0, .int .u8 0, .int .u8 0, .int .u8 0, .int .u8 0, .int .u8 0, .int .u8 0] 69)).alloc (.cells #[.int .i64 0, .int .u8 0, .int .u8 0, .int .u8 0, .int .u8 0, .int .u8 0, .int .u8 0, .int .u8 0, .int .u8 0] 69) = Y at hY
  have hz := h.size
  have cT := rtext_at (M := 8) (h.fr fY) hby bY (by omega) (by omega) rfl
  have kY := KpG.of_fr g fY
  go_enter Try.func39, Try.ntmps39
  go_wp2_with fail
  refine cT.mono ?_
  rintro e w1 ⟨rfl, h1⟩
  obtain ⟨a1, r1, k1, o1⟩ := h1.out
  have b1 := o1 _ _ _ aY (by omega) (by omega)
  have K1 := k1 w kY (by omega)
  rw [splice_key] at a1
  have el : (kyP r) = (keyL (ctP r) ((r.drop 1).take (ctP r)), (r.drop 1).drop (ctP r)) := rfl
  have El := zb el
  generalize (r.drop 1).take (ctP r) = l at *
  generalize (r.drop 1).drop (ctP r) = q at *
  generalize ctP r = n at *
  have Kn := zb K1
  have tok1 : Hid (0 < 1) := zb (by decide)
  have tok2 : Hid (0 < 1) := zb (by decide)
  clear el cT h1 k1 o1 aY bY hby h kY hY K1
  go_wp2_with (first
    | (clear tok1; refine wpList_put (ds := [.int .i64 (n : Int)]) cint_info rfl (.tmp 8) (.tmp 7) rfl (w.heap.size + 1) 0 rfl rfl rfl (zdv _ rfl) a1 (Nat.le_of_ble_eq_true rfl) (cs' := kc (keyL n l)) rfl ?_; intro w2 a2 k2
       have K2 := zb (Kn.out.set k2 (by omega))
       have b2 := k2.arr b1 (by omega)
       have r2 := r1.put k2 (by omega) (by omega)
       have l2 : (ldS 69 (.pointer (some ⟨w.heap.size + 1, 0, none⟩))).run Try.prog w2 = .ok (.agg (kc (keyL n l)).toArray) w2 := zaf.ld (zl _) a2)
    | (clear tok2; refine wpList_put (ds := kc (keyL n l)) zC rfl (.tmp 2) (.tmp 9) rfl w.heap.size 0 rfl rfl (zl _) (zU _) b2 (Nat.le_of_ble_eq_true rfl) (zk _ _ (Nat.le_of_eq rfl)) ?_; intro w3 a3 k3)
    | fail)
  exact bodyPost_ret (zaf.result rfl _ w.heap.size rfl (zl _) a3) rfl ⟨by rw [El.out], zb ⟨by rw [El.out]; exact r2.put k3 (by omega) (by omega), K2.out.set k3 (Nat.le_refl _)⟩⟩
set_option maxHeartbeats 2000000 in
theorem rvalue_at {w : World} {B g : Nat} {r : List Int} (h : Rd w B g r) (hby : zdi r) :
    Calls Try.prog 59 #[.pointer (some ⟨g, 0, none⟩)] w (PrR w B g (vv (vlP r).1) (vlP r).2) := by
  obtain ⟨Y, hY, fY, aY, bY⟩ : ∃ Y, (w.alloc (.cells (vc zE).toArray 72)).alloc (.cells (vc zE).toArray 72) = Y ∧ Fr w Y ∧ Arr Y w.heap.size 72 (vc zE).toArray ∧ Arr Y (w.heap.size + 1) 72 (vc zE).toArray :=
    ⟨_, rfl, zf (zf (ze _) _) _, (Arr.new _ _ _).alloc _, zbr _ _ _ _ (by simp)⟩
  rw [show (vc zE).toArray = #[.int .i64 0, .int .u8 0, .int .u8 0, .int .u8 0, .int .u8 0, .int .u8 0, .int .u8 0, .int .u8 0, .int .u8 0, .int .u8 0, .int .u8 0, .int .u8 0, .int .u8 0, .int .u8 0, .int .u8 0, .int .u8 0, .int .u8 0] from rfl] at hY
  have hz := h.size
  have cT := rtext_at (M := 16) (h.fr fY) hby bY (by omega) (by omega) rfl
  have kY := KpG.of_fr g fY
  go_enter Try.func59, Try.ntmps59
  go_wp2_with fail
  refine cT.mono ?_
  rintro e w1 ⟨rfl, h1⟩
  obtain ⟨a1, r1, k1, o1⟩ := h1.out
  have b1 := o1 _ _ _ aY (by omega) (by omega)
  have K1 := k1 w kY (by omega)
  rw [splice_val] at a1
  have el : (vlP r) = (valL (ctP r) ((r.drop 1).take (ctP r)), (r.drop 1).drop (ctP r)) := rfl
  have El := zb el
  generalize (r.drop 1).take (ctP r) = l at *
  generalize (r.drop 1).drop (ctP r) = q at *
  generalize ctP r = n at *
  have Kn := zb K1
  have tok1 : Hid (0 < 1) := zb (by decide)
  have tok2 : Hid (0 < 1) := zb (by decide)
  have z17 := valL_len n l
  have y17 := valL_len 0 l
  have hset := val_set0 n l
  generalize valL n l = v at *
  generalize valL 0 l = v0 at *
  have Y17 := zb y17
  have Z17 := zb z17
  have Hset := zb hset
  have x17 : Hid ((vc zE).length = 17) := zb rfl
  clear el cT h1 k1 o1 aY bY hby h kY hY K1 y17 z17 hset
  go_wp2_with (first
    | (clear tok1; refine wpList_put (ds := [.int .i64 (n : Int)]) cint_info rfl (.tmp 8) (.tmp 7) rfl (w.heap.size + 1) 0 rfl rfl rfl (zdv _ rfl) a1 (by rw [Y17.out]; decide) Hset.out ?_; intro w2 a2 k2
       have K2 := zb (Kn.out.set k2 (by omega))
       have b2 := k2.arr b1 (by omega)
       have r2 := r1.put k2 (by omega) (by omega)
       have l2 : (ldS 72 (.pointer (some ⟨w.heap.size + 1, 0, none⟩))).run Try.prog w2 = .ok (.agg (vc v).toArray) w2 := zbs.ld Z17.out a2)
    | (clear tok2; refine wpList_put (ds := vc v) zad rfl (.tmp 2) (.tmp 9) rfl w.heap.size 0 rfl rfl Z17.out (zar _) b2 (Nat.le_of_eq x17.out.symm) (zk _ _ (Nat.le_of_eq (x17.out.trans Z17.out.symm))) ?_; intro w3 a3 k3)
    | fail)
  exact bodyPost_ret (zbs.result rfl _ w.heap.size rfl Z17.out a3) rfl ⟨by rw [El.out], zb ⟨by rw [El.out]; exact r2.put k3 (by omega) (by omega), K2.out.set k3 (Nat.le_refl _)⟩⟩
theorem hdP_mk (r : List Int) : hdP r = (⟨ctP r, nmP 8 (r.drop 1), (kyP ((r.drop 1).drop 8)).1, zE, 0⟩, (kyP ((r.drop 1).drop 8)).2) := rfl
theorem bytes_kyP {r : List Int} (h : zdi r) : (kyP r).1.wf ∧ zdi (kyP r).2 := by
  have := (ctP_eq h).2
  exact ⟨keyL_wf (by unfold zal; omega) (zdD (bytes_drop h 1) _), bytes_drop (bytes_drop h 1) _⟩
theorem bytes_vlP {r : List Int} (h : zdi r) : (vlP r).1.wf ∧ zdi (vlP r).2 := by
  have := (ctP_eq h).2
  exact ⟨valL_wf (by unfold zal; omega) (zdD (bytes_drop h 1) _), bytes_drop (bytes_drop h 1) _⟩
theorem nm8_u64 {r : List Int} (h : zdi r) : zeb (nmP 8 r) := by
  have := nmP_bd (w := 8) h
  rw [show (256 : Int) ^ 8 = 18446744073709551616 from by decide] at this
  exact this
theorem bytes_hdP {r : List Int} (h : zdi r) : (hdP r).1.wf ∧ zdi (hdP r).2 := by
  have := (ctP_eq h).2
  rw [hdP_mk]
  exact ⟨⟨by unfold zal; dsimp only; omega, nm8_u64 (bytes_drop h 1), (bytes_kyP (bytes_drop (bytes_drop h 1) 8)).1, zcA, by unfold zeb; dsimp only; omega⟩, (bytes_kyP (bytes_drop (bytes_drop h 1) 8)).2⟩
theorem bytes_msP {r : List Int} (h : zdi r) : (msP r).1.wf ∧ zdi (msP r).2 := by
  obtain ⟨w, b⟩ := bytes_hdP h
  unfold msP
  split
  · exact ⟨⟨w.hk, w.hs, w.key, (bytes_vlP b).1, w.hi⟩, (bytes_vlP b).2⟩
  · split
    · exact ⟨⟨w.hk, w.hs, w.key, w.val, nm8_u64 b⟩, bytes_drop b 8⟩
    · exact ⟨w, b⟩
theorem bytes_kdP {r : List Int} (h : zdi r) : zal (kdP r).1 ∧ zdi (kdP r).2 := by
  have := nmP_bd (w := 4) h
  rw [show (256 : Int) ^ 4 = 4294967296 from by decide] at this
  exact ⟨by unfold zal kdP; dsimp only; omega, bytes_drop h 4⟩
theorem mc_setV {m : RM} (h : m.val.bs.length = 16) {v : RV} (hv : (vc v).length = 17) : splice (mc m) 11 (vc v) = mc { m with val := v } := zcb h (by unfold vc at hv; simpa using hv)
theorem mc_setI {m : RM} (h : m.val.bs.length = 16) (z : Int) : splice (mc m) 28 [.int .u64 z] = mc { m with inc := z } := by rw [zbl _ _ _ (by rw [zP h]; decide), zeQ h]
set_option maxHeartbeats 4000000 in
theorem rmsg_gen {w : World} {B g n : Nat} {s i : Int} {k : RK} {v : RV} {q q2 q3 rb ra : List Int} (hB : B ≤ g) (hg : g < w.heap.size) (hv : v.wf)
    (cC : ∀ Y, Fr w Y → Calls Try.prog 32 #[.pointer (some ⟨g, 0, none⟩)] Y (PrR Y B g (.int .i64 (n : Int)) ra))
    (cN : ∀ w, Rd w B g ra → Calls Try.prog 58 #[.pointer (some ⟨g, 0, none⟩), .int .i64 8] w (PrR w B g (.int .u64 s) rb))
    (cK : ∀ w, Rd w B g rb → Calls Try.prog 39 #[.pointer (some ⟨g, 0, none⟩)] w (PrR w B g (kv k) q))
    (cV : ∀ w, Rd w B g q → Calls Try.prog 59 #[.pointer (some ⟨g, 0, none⟩)] w (PrR w B g (vv v) q2))
    (cI : ∀ w, Rd w B g q → Calls Try.prog 58 #[.pointer (some ⟨g, 0, none⟩), .int .i64 8] w (PrR w B g (.int .u64 i) q3)) 
    {m : RM} {qq : List Int} (hm : Hid ((m, qq) = if n = 1 then ((⟨n, s, k, v, 0⟩ : RM), q2) else if n = 3 then (⟨n, s, k, zE, i⟩, q3) else (⟨n, s, k, zE, 0⟩, q))) :
    Calls Try.prog 41 #[.pointer (some ⟨g, 0, none⟩)] w (PrR w B g (mm m) qq) := by
  obtain ⟨Y, hY, fY, aY⟩ : ∃ Y, w.alloc (.cells (mc za0).toArray 81) = Y ∧ Fr w Y ∧ Arr Y w.heap.size 81 (mc za0).toArray := ⟨_, rfl, zf (ze _) _, Arr.new _ _ _⟩
  rw [zdM] at hY
  have kY := KpG.of_fr g fY
  have hz29 : Hid ((mc za0).length = 29) := zb rfl
  have hl29 : Hid ((mc (⟨n, s, k, zE, 0⟩ : RM)).length = 29) := zb rfl
  have hv17 := zb (zD hv.hl)
  have hvl := zb hv.hl
  have o17 := zar v
  have h1 : ((n : Int) == 1) = decide (n = 1) := by rw [Bool.eq_iff_iff]; simp; omega
  have h3 : ((n : Int) == 3) = decide (n = 3) := by rw [Bool.eq_iff_iff]; simp; omega
  go_enter Try.func41, Try.ntmps41
  go_wp2_with fail
  refine (cC _ fY).mono ?_
  rintro e w1 ⟨rfl, p1⟩
  obtain ⟨r1, k1⟩ := p1.out
  go_wp2_with fail
  refine (cN _ r1).mono ?_
  rintro e w2 ⟨rfl, p2⟩
  obtain ⟨r2, k2⟩ := p2.out
  go_wp2_with fail
  refine (cK _ r2).mono ?_
  rintro e w3 ⟨rfl, p3⟩
  obtain ⟨r3, k3⟩ := p3.out
  have K3 := zb (((kY.trans k1).trans k2).trans k3)
  have a3 := k3.arr (k2.arr (k1.arr aY (by omega)) (by omega)) (by omega)
  have r3 := zb r3
  clear cC cN cK r1 r2 k1 k2 k3 p1 p2 p3 hY kY aY fY
  obtain ⟨V, hV, fV, aV⟩ : ∃ V, w3.alloc (.cells (mc za0).toArray 81) = V ∧ Fr w3 V ∧ Arr V w3.heap.size 81 (mc za0).toArray := ⟨_, rfl, zf (ze _) _, Arr.new _ _ _⟩
  rw [zdM] at hV
  have tok1 : Hid (0 < 1) := zb (by decide)
  have z3 := K3.out.size
  have hw3 : w.heap.size < w3.heap.size := a3.lt
  go_upto_region 2 with (first
    | (clear tok1; refine wpList_put (ds := mc ⟨n, s, k, zE, 0⟩) zX rfl (.tmp 3) (.tmp 10) rfl w3.heap.size 0 rfl rfl hl29.out (zay _) aV (Nat.le_of_eq hz29.out.symm) (zk _ _ (Nat.le_of_eq (hz29.out.trans hl29.out.symm))) ?_; intro w4 a4 k4)
    | fail)
  try simp only [Act.put]
  have K4 := zb ((K3.out.fr fV).set k4 (by omega))
  have b4 := k4.arr (a3.below fV a3.lt) (by omega)
  have r4 := (r3.out.fr fV).put k4 (by omega) (by omega)
  have c0 : w4.cell? ⟨w3.heap.size, 0, none⟩ = some (.int .i64 (n : Int)) := by rw [a4.cell]; rfl
  have fin : ∀ (m' : RM) (q' : List Int), (m, qq) = (m', q') → m = m' ∧ qq = q' := fun m' q' e => by injection e with e1 e2; exact ⟨e1, e2⟩
  clear a3 aV k4 fV hV r3 K3
  by_cases e1 : n = 1
  · obtain ⟨rfl, rfl⟩ := fin _ _ (hm.out.trans (if_pos e1))
    have e1d : decide (n = 1) = true := by rw [e1]; rfl
    rw [e1d] at h1
    clear hm fin h3 e1d cI
    have E1 := zb e1
    clear e1
    go_wp2_with fail
    refine (cV _ r4).mono ?_
    rintro e w5 ⟨rfl, p5⟩
    obtain ⟨r5, k5⟩ := p5.out
    have K5 := zb (K4.out.trans k5)
    have a5 := k5.arr a4 (by omega)
    have b5 := k5.arr b4 (by omega)
    have z5 := K5.out.size
    have hl5 : Hid ((mc (⟨n, s, k, v, 0⟩ : RM)).length = 29) := zb (zP hvl.out)
    have hs5 := zb (mc_setV (m := ⟨n, s, k, zE, 0⟩) rfl hv17.out)
    have tok1 : Hid (0 < 1) := zb (by decide)
    have tok2 : Hid (0 < 1) := zb (by decide)
    clear p5 k5 a4 b4 K4 r4 cV
    go_wp2_with (first
      | (clear tok1; refine wpList_put (ds := vc v) zad rfl (.tmp 17) (.tmp 16) rfl w3.heap.size 11 rfl rfl hv17.out o17 a5 (by rw [hl29.out]; decide) hs5.out ?_; intro w6 a6 k6
         have K6 := zb (K5.out.set k6 (by omega))
         have b6 := k6.arr b5 (by omega)
         have r6 := r5.put k6 (by omega) (by omega)
         have l6 : (ldS 81 (.pointer (some ⟨w3.heap.size, 0, none⟩))).run Try.prog w6 = .ok (.agg (mc ⟨n, s, k, v, 0⟩).toArray) w6 := za4.ld hl5.out a6)
      | (clear tok2; refine wpList_put (ds := mc ⟨n, s, k, v, 0⟩) zX rfl (.tmp 2) (.tmp 23) rfl w.heap.size 0 rfl rfl hl5.out (zay _) b6 (Nat.le_of_eq hz29.out.symm) (zk _ _ (Nat.le_of_eq (hz29.out.trans hl5.out.symm))) ?_; intro w7 a7 k7)
      | fail)
    exact bodyPost_ret (za4.result rfl _ w.heap.size rfl hl5.out a7) rfl ⟨rfl, zb ⟨r6.put k7 (by omega) (by omega), K6.out.set k7 (Nat.le_refl _)⟩⟩
  · have e1d : decide (n = 1) = false := by simpa using e1
    rw [e1d] at h1
    by_cases e3 : n = 3
    · obtain ⟨rfl, rfl⟩ := fin _ _ (hm.out.trans ((if_neg e1).trans (if_pos e3)))
      have e3d : decide (n = 3) = true := by rw [e3]; rfl
      rw [e3d] at h3
      clear hm fin e1d e3d cV
      have E1 := zb e1
      have E3 := zb e3
      clear e1 e3
      go_wp2_with fail
      refine (cI _ r4).mono ?_
      rintro e w5 ⟨rfl, p5⟩
      obtain ⟨r5, k5⟩ := p5.out
      have K5 := zb (K4.out.trans k5)
      have a5 := k5.arr a4 (by omega)
      have b5 := k5.arr b4 (by omega)
      have z5 := K5.out.size
      have hl5 : Hid ((mc (⟨n, s, k, zE, i⟩ : RM)).length = 29) := zb rfl
      have hs5 := zb (mc_setI (m := ⟨n, s, k, zE, 0⟩) rfl i)
      have tok1 : Hid (0 < 1) := zb (by decide)
      have tok2 : Hid (0 < 1) := zb (by decide)
      clear p5 k5 a4 b4 K4 r4 cI
      go_wp2_with (first
        | (clear tok1; refine wpList_put (ds := [.int .u64 i]) u64_info' rfl (.tmp 22) (.tmp 21) rfl w3.heap.size 28 rfl rfl rfl (zdv _ rfl) a5 (by rw [hl29.out]; decide) hs5.out ?_; intro w6 a6 k6
           have K6 := zb (K5.out.set k6 (by omega))
           have b6 := k6.arr b5 (by omega)
           have r6 := r5.put k6 (by omega) (by omega)
           have l6 : (ldS 81 (.pointer (some ⟨w3.heap.size, 0, none⟩))).run Try.prog w6 = .ok (.agg (mc ⟨n, s, k, zE, i⟩).toArray) w6 := za4.ld hl5.out a6)
        | (clear tok2; refine wpList_put (ds := mc ⟨n, s, k, zE, i⟩) zX rfl (.tmp 2) (.tmp 23) rfl w.heap.size 0 rfl rfl hl5.out (zay _) b6 (Nat.le_of_eq hz29.out.symm) (zk _ _ (Nat.le_of_eq (hz29.out.trans hl5.out.symm))) ?_; intro w7 a7 k7)
        | fail)
      exact bodyPost_ret (za4.result rfl _ w.heap.size rfl hl5.out a7) rfl ⟨rfl, zb ⟨r6.put k7 (by omega) (by omega), K6.out.set k7 (Nat.le_refl _)⟩⟩
    · obtain ⟨rfl, rfl⟩ := fin _ _ (hm.out.trans ((if_neg e1).trans (if_neg e3)))
      have e3d : decide (n = 3) = false := by simpa using e3
      rw [e3d] at h3
      clear hm fin e1d e3d cV cI
      have E1 := zb e1
      have E3 := zb e3
      clear e1 e3
      have l4 : (ldS 81 (.pointer (some ⟨w3.heap.size, 0, none⟩))).run Try.prog w4 = .ok (.agg (mc ⟨n, s, k, zE, 0⟩).toArray) w4 := za4.ld hl29.out a4
      have tok2 : Hid (0 < 1) := zb (by decide)
      go_wp2_with (first
        | (clear tok2; refine wpList_put (ds := mc ⟨n, s, k, zE, 0⟩) zX rfl (.tmp 2) (.tmp 23) rfl w.heap.size 0 rfl rfl hl29.out (zay _) b4 (Nat.le_of_eq hz29.out.symm) (zk _ _ (Nat.le_of_eq (hz29.out.trans hl29.out.symm))) ?_; intro w7 a7 k7)
        | fail)
      exact bodyPost_ret (za4.result rfl _ w.heap.size rfl hl29.out a7) rfl ⟨rfl, zb ⟨r4.put k7 (by omega) (by omega), K4.out.set k7 (Nat.le_refl _)⟩⟩
theorem rmsg_at {w : World} {B g : Nat} {r : List Int} (h : Rd w B g r) (hby : zdi r) :
    Calls Try.prog 41 #[.pointer (some ⟨g, 0, none⟩)] w (PrR w B g (mm (msP r).1) (msP r).2) := by
  have b1 := bytes_drop hby 1
  have b9 := bytes_drop b1 8
  obtain ⟨wh, bh⟩ := bytes_hdP hby
  exact rmsg_gen h.size.1 h.size.2 (bytes_vlP bh).1 (fun Y f => rcount_at (h.fr f) hby) (fun w h => rnumber_at h b1 8 (by decide) (by decide)) (fun w h => rkey_at h b9) (fun w h => rvalue_at h bh) (fun w h => rnumber_at h bh 8 (by decide) (by decide)) (zb rfl)
end Go.Proofs.Ytmjjjdikpnhpiaa
/- What decodes a block, three: entries, and zm of parts. -/
namespace Go.Proofs.Ytmjjjdikpnhpiaa
set_option linter.unusedVariables false
set_option linter.unusedSimpArgs false
set_option maxRecDepth 100000
open Go.RowKit
/-- An entry is read. -/
def enP (r : List Int) : RE × List Int := (⟨(kyP r).1, (vlP (kyP r).2).1⟩, (vlP (kyP r).2).2)
theorem bytes_enP {r : List Int} (h : zdi r) : (enP r).1.wf ∧ zdi (enP r).2 := ⟨⟨(bytes_kyP h).1, (bytes_vlP (bytes_kyP h).2).1⟩, (bytes_vlP (bytes_kyP h).2).2⟩
attribute [local go_sem ↓] zw zt zae zbh
set_option maxHeartbeats 2000000 in
theorem rentry_gen {w : World} {B g : Nat} {k : RK} {v : RV} {q1 q2 : List Int} (hB : B ≤ g) (hg : g < w.heap.size) (hv : v.wf)
    (cK : ∀ Y, Fr w Y → Calls Try.prog 39 #[.pointer (some ⟨g, 0, none⟩)] Y (PrR Y B g (kv k) q1))
    (cV : ∀ w, Rd w B g q1 → Calls Try.prog 59 #[.pointer (some ⟨g, 0, none⟩)] w (PrR w B g (vv v) q2)) :
    Calls Try.prog 35 #[.pointer (some ⟨g, 0, none⟩)] w (PrR w B g (ev ⟨k, v⟩) q2) := by
  obtain ⟨Y, hY, fY, aY⟩ : ∃ Y, w.alloc (.cells (ec zea).toArray 74) = Y ∧ Fr w Y ∧ Arr Y w.heap.size 74 (ec zea).toArray := ⟨_, rfl, zf (ze _) _, Arr.new _ _ _⟩
  rw [zkV] at hY
  have kY := KpG.of_fr g fY
  have hz26 : Hid ((ec zea).length = 26) := zb rfl
  have hv26 := zb (zD hv.hl)
  have hl26 : Hid ((ec (⟨k, v⟩ : RE)).length = 26) := zb (zbT hv.hl)
  have hb := ziK k hv.hl
  have hv17 : (vc v).length = 17 := zD hv.hl
  go_enter Try.func35, Try.ntmps35
  go_wp2_with fail
  refine (cK _ fY).mono ?_
  rintro e w1 ⟨rfl, p1⟩
  obtain ⟨r1, k1⟩ := p1.out
  go_wp2_with fail
  refine (cV _ r1).mono ?_
  rintro e w2 ⟨rfl, p2⟩
  obtain ⟨r2, k2⟩ := p2.out
  have K2 := zb ((kY.trans k1).trans k2)
  have a2 := k2.arr (k1.arr aY (by omega)) (by omega)
  clear cK cV r1 k1 k2 p1 p2 hY kY aY fY
  have tok1 : Hid (0 < 1) := zb (by decide)
  go_wp2_with (first
    | (clear tok1; refine wpList_put (ds := ec ⟨k, v⟩) zdA rfl (.tmp 2) (.tmp 7) rfl w.heap.size 0 rfl rfl hl26.out (zdw _) a2 (Nat.le_of_eq hz26.out.symm) (zk _ _ (Nat.le_of_eq (hz26.out.trans hl26.out.symm))) ?_; intro w4 a4 k4)
    | fail)
  exact bodyPost_ret (zh4.result rfl _ w.heap.size rfl hl26.out a4) rfl ⟨rfl, zb ⟨r2.put k4 (by omega) (by omega), K2.out.set k4 (Nat.le_refl _)⟩⟩
theorem rentry_at {w : World} {B g : Nat} {r : List Int} (h : Rd w B g r) (hby : zdi r) :
    Calls Try.prog 35 #[.pointer (some ⟨g, 0, none⟩)] w (PrR w B g (ev (enP r).1) (enP r).2) :=
  rentry_gen h.size.1 h.size.2 (bytes_vlP (bytes_kyP hby).2).1 (fun Y f => by
    refine (rkey_at (h.fr f) hby).mono ?_
    rintro e w' ⟨he, p⟩
    exact ⟨he, p⟩) (fun w h => rvalue_at h (bytes_kyP hby).2)
theorem bytes_many {α : Type} {p : List Int → α × List Int} {ok : α → Prop} (hp : ∀ r, zdi r → ok (p r).1 ∧ zdi (p r).2) {r : List Int} (h : zdi r) : ∀ n, (∀ x ∈ (manyP p n r).1, ok x) ∧ zdi (manyP p n r).2
  | 0 => ⟨fun x hx => by simp [manyP] at hx, h⟩
  | n + 1 => by
    obtain ⟨i1, i2⟩ := bytes_many hp h n
    refine ⟨fun x hx => ?_, (hp _ i2).2⟩
    rcases List.mem_append.1 hx with hx | hx
    · exact i1 x hx
    · rw [List.mem_singleton.1 hx]; exact (hp _ i2).1
theorem KpG.grow {a w w' : World} {g : Nat} {row : Option Nat} (h : KpG a g w) (h2 : w.grownBy w' row) (hr : ∀ k, row = some k → a.heap.size ≤ k) : KpG a g w' :=
  ⟨h2.os.trans h.os, h2.tape.trans h.tape, h2.output.trans h.output, Nat.le_trans h.size h2.size, fun j hj hne => (h2.block j (Nat.lt_of_lt_of_le hj h.size) (fun e => by have := hr j e.symm; omega)).trans (h.block j hj hne)⟩
theorem Rd.grow {w W : World} {B g : Nat} {row : Option Nat} {r : List Int} (h : Rd w B g r) (hk : w.grownBy W row) (hr : ∀ k, row = some k → g < k) : Rd W B g r := by
  have hz := h.size
  obtain ⟨b, off, n, c, q1, q2, q3, q4, q5, q6, q7⟩ := h
  exact ⟨b, off, n, c, (hk.block g hz.2 (fun e => by have := hr g e.symm; omega)).trans q1, q2.lift fun p hp => World.cell?_of_block (hk.block p.block (by omega) (fun e => by have := hr _ e.symm; omega)), q3, q4, q5, q6, q7⟩
theorem wpList_append_el {P : Program} {w : World} {ops : Array Oper} {rest : List Oper} {o : Oper} {a : Act} {Q : Exit → Act → World → Prop} {t e size bytes : Nat} (E : zgM P e size bytes) (ht : P.underlying t = some (.slice e)) (hsz : 0 < size) (hgd : o.guard = none) (s x : Operand)
    (hop : o.op = .call { callee := .builtin .append, args := #[s, x], argTypes := #[t, t] }) {B : Nat} {A : Option Addr} {n c1 : Nat} {xs : List Value} (hs : a.eval s = .slice A n c1) (ho : Own w B e size A n c1 xs)
    {C : Nat} {A2 : Option Addr} {m c2 : Nat} {news : List Value} (hx : a.eval x = .slice A2 m c2) (hl : news.length = m * size) (hn : Has w C A2 news) (h1 : One news)
    (h63 : n + m ≤ maxLen) (hbytes : (n + m) * bytes ≤ 140737488355328) (hB : B ≤ w.heap.size)
    (h : ∀ A' c' w', Own w' B e size A' (n + m) c' (xs ++ news) → w.grownBy w' (blk A) → wpList P ops Q rest (a.put o.dst (.slice A' (n + m) c')) w') :
    wpList P ops Q (o :: rest) a w := by
  obtain ⟨i, z, hi, hz, hsize, hby, hzs⟩ := E.row
  refine zbV w hgd s x t hop B e i z size bytes ht hi hz hsize hby hzs hsz A n c1 xs hs ho C A2 m c2 news hx hl hn h1 h63 hbytes hB ?_
  intro A' c' w' h1 h2 h3
  exact h A' c' w' h1 h2
/-- A row of parts is read. -/
def LsR (w : World) (B g T size : Nat) (k : Nat) (xs : List Value) (q : List Int) (e : Ending) (w' : World) : Prop :=
  ∃ A' n' c', e = .returned (.slice A' n' c') ∧ Hid (n' = k ∧ Own w' w.heap.size T size A' n' c' xs ∧ Rd w' B g q ∧ KpG w g w')
theorem int_elem' : zgM Try.prog 3 1 8 := zgM.of (z := .int .i64 0) (by kernel_rfl) (by kernel_rfl) (by kernel_rfl) rfl
theorem key_elem' : zgM Try.prog 69 9 16 := zgM.of (z := kv zr) (by kernel_rfl) (by kernel_rfl) (by kernel_rfl) rfl
theorem ints_und' : Try.prog.underlying 25 = some (.slice 3) := by kernel_rfl
theorem keys_und' : Try.prog.underlying 26 = some (.slice 69) := by kernel_rfl
theorem rkid_pr {w : World} {B g : Nat} {r : List Int} (h : Rd w B g r) (hby : zdi r) :
    Calls Try.prog 37 #[.pointer (some ⟨g, 0, none⟩)] w (PrR w B g (.int .i64 (kdP r).1) (kdP r).2) := rkid_at' h hby
abbrev ic (z : Int) : List Value := [.int .i64 z]
set_option maxHeartbeats 4000000 in
theorem list_ents {w : World} {B g : Nat} {r : List Int} (h : Rd w B g r) (hby : zdi r) {z : Int} {N : Nat} (hN : N = z.toNat) (h1 : -1 ≤ z) (h300 : z ≤ 300) :
    Calls Try.prog 34 #[.int .i64 z, .func (.func 35) #[.pointer (some ⟨g, 0, none⟩)] #[]] w (LsR w B g 74 26 N (zm ec (manyP enP N r).1) (manyP enP N r).2) := by
  have hsz := h.size
  have H0 := zb h
  clear h
  go_enter Try.func34, Try.ntmps34
  go_wp2_with fail
  go_loopg [5, 7] N (fun gg s5 s7 wr => ∃ (j : Nat) (A : Option Addr) (c : Nat), j + gg = N ∧ s7 = .int .i64 j ∧ s5 = .slice A j c ∧ Hid (Own wr w.heap.size 74 26 A j c (zm ec (manyP enP j r).1)) ∧ Hid (Rd wr B g (manyP enP j r).2) ∧ Hid (KpG w g wr))
  case atStart => exact ⟨0, none, 0, by omega, rfl, rfl, zb (Own.nil _ _ _ _), H0, zb (KpG.refl _ _)⟩
  case round =>
    obtain ⟨j, A, c, hj, rfl, rfl, hO, hR, hK⟩ := hrel
    by_cases hlt : j < N
    · have hjz : (j : Int) < z := by omega
      obtain ⟨-, hbq⟩ := bytes_many (p := enP) (ok := fun x => x.wf) (fun r h => bytes_enP h) hby j
      have em : manyP enP (j + 1) r = ((manyP enP j r).1 ++ [(enP (manyP enP j r).2).1], (enP (manyP enP j r).2).2) := rfl
      have wx := (bytes_enP hbq).1
      have cS := rentry_at hR.out hbq
      have Em := zb em
      clear em
      generalize (manyP enP j r).2 = q at *
      generalize (manyP enP j r).1 = l at *
      generalize (enP q).2 = q2 at *
      generalize (enP q).1 = x at *
      have hfo := zge (e := x) wx.val.hl
      have he26 : (ec x).length = 26 := zbT wx.val.hl
      have hj300 : j ≤ 300 := by omega
      have Hj := zb (And.intro hj hlt)
      have HN := zb hN
      clear hj hN hlt hbq
      go_wp2_with fail
      refine cS.mono ?_
      rintro e w1 ⟨rfl, p1⟩
      obtain ⟨r1, k1⟩ := p1.out
      have O1 := Own.kept hO.out k1 (.inr fun e => by have := (hO.out.lt g e).1; omega)
      have K1 := zb (hK.out.trans k1)
      have z1 := K1.out.size
      have bA := fun k e => (O1.lt k e).1
      have tok1 : Hid (0 < 1) := zb (by decide)
      go_wp2_with (first
        | (clear tok1; refine wpList_append_el zcN zaA (by decide) rfl (.tmp 9) (.tmp 12) rfl rfl (O1.alloc _) (m := 1) (news := ec x) rfl (zbT wx.val.hl) (zax _ (Arr.new _ _ _)) (zdw x) (by unfold maxLen; omega) (by omega) (Nat.le_trans z1 (zf (ze w1) _).size) ?_; intro A2 c2 w2 o2 g2)
        | fail)
      go_roundg (gk - 1)
      case measure => have := Hj.out.1; have := Hj.out.2; omega
      case rel => exact ⟨j + 1, A2, c2, by have := Hj.out.1; have := Hj.out.2; omega, by go_num, rfl, zb (by rw [Em.out, zas, zbj]; exact o2), zb (by rw [Em.out]; exact (r1.fr (zf (ze _) _)).grow g2 fun k e => by have := bA k e; omega), zb ((K1.out.fr (zf (ze _) _)).grow g2 bA)⟩
    · have hjz : ¬ (j : Int) < z := by omega
      obtain rfl : j = N := by omega
      clear hj hN
      go_wp2_with fail
      go_ret
      exact ⟨A, _, c, rfl, zb ⟨rfl, hO.out, hR.out, hK.out⟩⟩
set_option maxHeartbeats 4000000 in
theorem list_kids {w : World} {B g : Nat} {r : List Int} (h : Rd w B g r) (hby : zdi r) {z : Int} {N : Nat} (hN : N = z.toNat) (h1 : -1 ≤ z) (h300 : z ≤ 300) :
    Calls Try.prog 36 #[.int .i64 z, .func (.func 37) #[.pointer (some ⟨g, 0, none⟩)] #[]] w (LsR w B g 3 1 N (zm ic (manyP kdP N r).1) (manyP kdP N r).2) := by
  have hsz := h.size
  have H0 := zb h
  clear h
  go_enter Try.func36, Try.ntmps36
  go_wp2_with fail
  go_loopg [5, 7] N (fun gg s5 s7 wr => ∃ (j : Nat) (A : Option Addr) (c : Nat), j + gg = N ∧ s7 = .int .i64 j ∧ s5 = .slice A j c ∧ Hid (Own wr w.heap.size 3 1 A j c (zm ic (manyP kdP j r).1)) ∧ Hid (Rd wr B g (manyP kdP j r).2) ∧ Hid (KpG w g wr))
  case atStart => exact ⟨0, none, 0, by omega, rfl, rfl, zb (Own.nil _ _ _ _), H0, zb (KpG.refl _ _)⟩
  case round =>
    obtain ⟨j, A, c, hj, rfl, rfl, hO, hR, hK⟩ := hrel
    by_cases hlt : j < N
    · have hjz : (j : Int) < z := by omega
      obtain ⟨-, hbq⟩ := bytes_many (p := kdP) (ok := fun x => zal x) (fun r h => bytes_kdP h) hby j
      have em : manyP kdP (j + 1) r = ((manyP kdP j r).1 ++ [(kdP (manyP kdP j r).2).1], (kdP (manyP kdP j r).2).2) := rfl
      have wx := (bytes_kdP hbq).1
      have cS := rkid_pr hR.out hbq
      have Em := zb em
      clear em
      generalize (manyP kdP j r).2 = q at *
      generalize (manyP kdP j r).1 = l at *
      generalize (kdP q).2 = q2 at *
      generalize (kdP q).1 = x at *

      have hj300 : j ≤ 300 := by omega
      have Hj := zb (And.intro hj hlt)
      have HN := zb hN
      clear hj hN hlt hbq
      go_wp2_with fail
      refine cS.mono ?_
      rintro e w1 ⟨rfl, p1⟩
      obtain ⟨r1, k1⟩ := p1.out
      have O1 := Own.kept hO.out k1 (.inr fun e => by have := (hO.out.lt g e).1; omega)
      have K1 := zb (hK.out.trans k1)
      have z1 := K1.out.size
      have bA := fun k e => (O1.lt k e).1
      have tok1 : Hid (0 < 1) := zb (by decide)
      go_wp2_with (first
        | (clear tok1; refine wpList_append_el int_elem' ints_und' (by decide) rfl (.tmp 9) (.tmp 12) rfl rfl (O1.alloc _) (m := 1) (news := ic x) rfl rfl (zax _ (Arr.new _ _ _)) (zdv _ rfl) (by unfold maxLen; omega) (by omega) (Nat.le_trans z1 (zf (ze w1) _).size) ?_; intro A2 c2 w2 o2 g2)
        | fail)
      go_roundg (gk - 1)
      case measure => have := Hj.out.1; have := Hj.out.2; omega
      case rel => exact ⟨j + 1, A2, c2, by have := Hj.out.1; have := Hj.out.2; omega, by go_num, rfl, zb (by rw [Em.out, zas, zbj]; exact o2), zb (by rw [Em.out]; exact (r1.fr (zf (ze _) _)).grow g2 fun k e => by have := bA k e; omega), zb ((K1.out.fr (zf (ze _) _)).grow g2 bA)⟩
    · have hjz : ¬ (j : Int) < z := by omega
      obtain rfl : j = N := by omega
      clear hj hN
      go_wp2_with fail
      go_ret
      exact ⟨A, _, c, rfl, zb ⟨rfl, hO.out, hR.out, hK.out⟩⟩
set_option maxHeartbeats 4000000 in
theorem list_keys {w : World} {B g : Nat} {r : List Int} (h : Rd w B g r) (hby : zdi r) {z : Int} {N : Nat} (hN : N = z.toNat) (h1 : -1 ≤ z) (h300 : z ≤ 300) :
    Calls Try.prog 38 #[.int .i64 z, .func (.func 39) #[.pointer (some ⟨g, 0, none⟩)] #[]] w (LsR w B g 69 9 N (zm kc (manyP kyP N r).1) (manyP kyP N r).2) := by
  have hsz := h.size
  have H0 := zb h
  clear h
  go_enter Try.func38, Try.ntmps38
  go_wp2_with fail
  go_loopg [5, 7] N (fun gg s5 s7 wr => ∃ (j : Nat) (A : Option Addr) (c : Nat), j + gg = N ∧ s7 = .int .i64 j ∧ s5 = .slice A j c ∧ Hid (Own wr w.heap.size 69 9 A j c (zm kc (manyP kyP j r).1)) ∧ Hid (Rd wr B g (manyP kyP j r).2) ∧ Hid (KpG w g wr))
  case atStart => exact ⟨0, none, 0, by omega, rfl, rfl, zb (Own.nil _ _ _ _), H0, zb (KpG.refl _ _)⟩
  case round =>
    obtain ⟨j, A, c, hj, rfl, rfl, hO, hR, hK⟩ := hrel
    by_cases hlt : j < N
    · have hjz : (j : Int) < z := by omega
      obtain ⟨-, hbq⟩ := bytes_many (p := kyP) (ok := fun x => x.wf) (fun r h => bytes_kyP h) hby j
      have em : manyP kyP (j + 1) r = ((manyP kyP j r).1 ++ [(kyP (manyP kyP j r).2).1], (kyP (manyP kyP j r).2).2) := rfl
      have wx := (bytes_kyP hbq).1
      have cS := rkey_at hR.out hbq
      have Em := zb em
      clear em
      generalize (manyP kyP j r).2 = q at *
      generalize (manyP kyP j r).1 = l at *
      generalize (kyP q).2 = q2 at *
      generalize (kyP q).1 = x at *

      have hj300 : j ≤ 300 := by omega
      have Hj := zb (And.intro hj hlt)
      have HN := zb hN
      clear hj hN hlt hbq
      go_wp2_with fail
      refine cS.mono ?_
      rintro e w1 ⟨rfl, p1⟩
      obtain ⟨r1, k1⟩ := p1.out
      have O1 := Own.kept hO.out k1 (.inr fun e => by have := (hO.out.lt g e).1; omega)
      have K1 := zb (hK.out.trans k1)
      have z1 := K1.out.size
      have bA := fun k e => (O1.lt k e).1
      have tok1 : Hid (0 < 1) := zb (by decide)
      go_wp2_with (first
        | (clear tok1; refine wpList_append_el key_elem' keys_und' (by decide) rfl (.tmp 9) (.tmp 12) rfl rfl (O1.alloc _) (m := 1) (news := kc x) rfl rfl (zax _ (Arr.new _ _ _)) (zU x) (by unfold maxLen; omega) (by omega) (Nat.le_trans z1 (zf (ze w1) _).size) ?_; intro A2 c2 w2 o2 g2)
        | fail)
      go_roundg (gk - 1)
      case measure => have := Hj.out.1; have := Hj.out.2; omega
      case rel => exact ⟨j + 1, A2, c2, by have := Hj.out.1; have := Hj.out.2; omega, by go_num, rfl, zb (by rw [Em.out, zas, zbj]; exact o2), zb (by rw [Em.out]; exact (r1.fr (zf (ze _) _)).grow g2 fun k e => by have := bA k e; omega), zb ((K1.out.fr (zf (ze _) _)).grow g2 bA)⟩
    · have hjz : ¬ (j : Int) < z := by omega
      obtain rfl : j = N := by omega
      clear hj hN
      go_wp2_with fail
      go_ret
      exact ⟨A, _, c, rfl, zb ⟨rfl, hO.out, hR.out, hK.out⟩⟩
set_option maxHeartbeats 4000000 in
theorem list_msgs {w : World} {B g : Nat} {r : List Int} (h : Rd w B g r) (hby : zdi r) {z : Int} {N : Nat} (hN : N = z.toNat) (h1 : -1 ≤ z) (h300 : z ≤ 300) :
    Calls Try.prog 40 #[.int .i64 z, .func (.func 41) #[.pointer (some ⟨g, 0, none⟩)] #[]] w (LsR w B g 81 29 N (zm mc (manyP msP N r).1) (manyP msP N r).2) := by
  have hsz := h.size
  have H0 := zb h
  clear h
  go_enter Try.func40, Try.ntmps40
  go_wp2_with fail
  go_loopg [5, 7] N (fun gg s5 s7 wr => ∃ (j : Nat) (A : Option Addr) (c : Nat), j + gg = N ∧ s7 = .int .i64 j ∧ s5 = .slice A j c ∧ Hid (Own wr w.heap.size 81 29 A j c (zm mc (manyP msP j r).1)) ∧ Hid (Rd wr B g (manyP msP j r).2) ∧ Hid (KpG w g wr))
  case atStart => exact ⟨0, none, 0, by omega, rfl, rfl, zb (Own.nil _ _ _ _), H0, zb (KpG.refl _ _)⟩
  case round =>
    obtain ⟨j, A, c, hj, rfl, rfl, hO, hR, hK⟩ := hrel
    by_cases hlt : j < N
    · have hjz : (j : Int) < z := by omega
      obtain ⟨-, hbq⟩ := bytes_many (p := msP) (ok := fun x => x.wf) (fun r h => bytes_msP h) hby j
      have em : manyP msP (j + 1) r = ((manyP msP j r).1 ++ [(msP (manyP msP j r).2).1], (msP (manyP msP j r).2).2) := rfl
      have wx := (bytes_msP hbq).1
      have cS := rmsg_at hR.out hbq
      have Em := zb em
      clear em
      generalize (manyP msP j r).2 = q at *
      generalize (manyP msP j r).1 = l at *
      generalize (msP q).2 = q2 at *
      generalize (msP q).1 = x at *
      have hfo := zdO wx
      have he29 : (mc x).length = 29 := zP wx.val.hl
      have hj300 : j ≤ 300 := by omega
      have Hj := zb (And.intro hj hlt)
      have HN := zb hN
      clear hj hN hlt hbq
      go_wp2_with fail
      refine cS.mono ?_
      rintro e w1 ⟨rfl, p1⟩
      obtain ⟨r1, k1⟩ := p1.out
      have O1 := Own.kept hO.out k1 (.inr fun e => by have := (hO.out.lt g e).1; omega)
      have K1 := zb (hK.out.trans k1)
      have z1 := K1.out.size
      have bA := fun k e => (O1.lt k e).1
      have tok1 : Hid (0 < 1) := zb (by decide)
      go_wp2_with (first
        | (clear tok1; refine wpList_append_el ze3 za9 (by decide) rfl (.tmp 9) (.tmp 12) rfl rfl (O1.alloc _) (m := 1) (news := mc x) rfl (zP wx.val.hl) (zax _ (Arr.new _ _ _)) (zay x) (by unfold maxLen; omega) (by omega) (Nat.le_trans z1 (zf (ze w1) _).size) ?_; intro A2 c2 w2 o2 g2)
        | fail)
      go_roundg (gk - 1)
      case measure => have := Hj.out.1; have := Hj.out.2; omega
      case rel => exact ⟨j + 1, A2, c2, by have := Hj.out.1; have := Hj.out.2; omega, by go_num, rfl, zb (by rw [Em.out, zas, zbj]; exact o2), zb (by rw [Em.out]; exact (r1.fr (zf (ze _) _)).grow g2 fun k e => by have := bA k e; omega), zb ((K1.out.fr (zf (ze _) _)).grow g2 bA)⟩
    · have hjz : ¬ (j : Int) < z := by omega
      obtain rfl : j = N := by omega
      clear hj hN
      go_wp2_with fail
      go_ret
      exact ⟨A, _, c, rfl, zb ⟨rfl, hO.out, hR.out, hK.out⟩⟩
end Go.Proofs.Ytmjjjdikpnhpiaa
