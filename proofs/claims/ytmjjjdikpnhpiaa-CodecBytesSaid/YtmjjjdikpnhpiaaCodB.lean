/- Blocks: what a node's parts are as bytes, and two ways of reading them again. No program text. -/
import Derived.Test.YtmjjjdikpnhpiaaMsg0
import Derived.Test.YtmjjjdikpnhpiaaKeyA
import Derived.Test.YtmjjjdikpnhpiaaBInts
import Derived.Test.YtmjjjdikpnhpiaaBase
import Derived.Handy
import Derived.Test.YtmjjjdikpnhpiaaShort
import Derived.Deep.RegionHeld3
namespace Go.Proofs.Ytmjjjdikpnhpiaa
set_option maxRecDepth 100000
open Go.RowKit
set_option linter.unusedVariables false
/-- A key, a value, an entry, a message as bytes. -/
def kB (k : RK) : List Int := k.n :: (kbs k).take k.n.toNat
def vB (v : RV) : List Int := v.n :: v.bs.take v.n.toNat
def tB (m : RM) : List Int := if m.kind = 1 then vB m.val else if m.kind = 3 then leB m.inc 8 else []
def mB (m : RM) : List Int := m.kind :: (leB m.seq 8 ++ (kB m.key ++ tB m))
def iB (id : Int) : List Int := leB id 4
/-- The key whose bytes are l, of which n is told. -/
def keyL (n : Int) (l : List Int) : RK := ⟨n, l.getD 0 0, l.getD 1 0, l.getD 2 0, l.getD 3 0, l.getD 4 0, l.getD 5 0, l.getD 6 0, l.getD 7 0⟩
def valL (n : Int) (l : List Int) : RV := ⟨n, l.take 16 ++ List.replicate (16 - l.length) 0⟩
theorem keyL_of {k : RK} (h : okB k = true) : keyL k.n ((kbs k).take k.n.toNat) = k := by
  obtain ⟨m, hm, hn, hk⟩ := zi4 h
  rw [hn, Int.toNat_natCast]
  rw [hk]
  obtain ⟨n, b0, b1, b2, b3, b4, b5, b6, b7⟩ := k
  unfold keyL zbe kbs
  match m, hm with
  | 0, _ => rfl
  | 1, _ => rfl
  | 2, _ => rfl
  | 3, _ => rfl
  | 4, _ => rfl
  | 5, _ => rfl
  | 6, _ => rfl
  | 7, _ => rfl
  | 8, _ => rfl
theorem valL_of {v : RV} (h : okV v = true) (hl : v.bs.length = 16) : valL v.n (v.bs.take v.n.toNat) = v := by
  obtain ⟨m, hm, hn, hv⟩ := ziC h
  have e : (v.bs.take m).length = m := by rw [List.length_take]; omega
  rw [hn, Int.toNat_natCast]
  unfold valL
  rw [List.take_of_length_le (by omega)]
  conv => rhs; rw [hv]
  unfold mkV
  rw [e]
theorem keyL_wf {n : Int} (hn : zal n) {l : List Int} (h : zdi l) : (keyL n l).wf := by
  have g : ∀ i, Byt (l.getD i 0) := fun i => by
    unfold Byt
    rcases Nat.lt_or_ge i l.length with hi | hi
    · have : l.getD i 0 = l[i] := by simp [List.getD, hi]
      rw [this]; exact h _ (List.getElem_mem hi)
    · have : l.getD i 0 = 0 := by simp [List.getD, Nat.not_lt.2 hi]
      rw [this]; omega
  exact ⟨hn, g 0, g 1, g 2, g 3, g 4, g 5, g 6, g 7⟩
theorem valL_wf {n : Int} (hn : zal n) {l : List Int} (h : zdi l) : (valL n l).wf := by
  refine ⟨hn, ?_, fun z hz => ?_⟩
  · unfold valL; simp; omega
  · rcases List.mem_append.1 hz with hz | hz
    · exact h z (List.mem_of_mem_take hz)
    · exact zeR _ z hz
/-- The bytes are bytes. -/
theorem bytes_kB {k : RK} (w : k.wf) (h : okB k = true) : zdi (kB k) := fun z hz => by
  obtain ⟨m, hm, hn, hk⟩ := zi4 h
  rcases List.mem_cons.1 hz with rfl | hz
  · omega
  · have := List.mem_of_mem_take hz
    have g : ∀ b, Byt b → 0 ≤ b ∧ b ≤ 255 := fun b h => h
    simp only [kbs, List.mem_cons, List.not_mem_nil, or_false] at this
    rcases this with rfl | rfl | rfl | rfl | rfl | rfl | rfl | rfl
    all_goals first | exact g _ w.h0 | exact g _ w.h1 | exact g _ w.h2 | exact g _ w.h3 | exact g _ w.h4 | exact g _ w.h5 | exact g _ w.h6 | exact g _ w.h7
theorem kB_len {k : RK} (h : okB k = true) : ((kB k).length : Int) = 1 + k.n := by
  obtain ⟨m, hm, hn, hk⟩ := zi4 h
  unfold kB
  rw [List.length_cons, List.length_take, hn, Int.toNat_natCast]
  have : (kbs k).length = 8 := rfl
  omega
theorem bytes_vB {v : RV} (w : v.wf) (h : okV v = true) : zdi (vB v) := fun z hz => by
  obtain ⟨m, hm, hn, hk⟩ := ziC h
  rcases List.mem_cons.1 hz with rfl | hz
  · omega
  · exact w.hb z (List.mem_of_mem_take hz)
theorem vB_len {v : RV} (w : v.wf) (h : okV v = true) : ((vB v).length : Int) = 1 + v.n := by
  obtain ⟨m, hm, hn, hk⟩ := ziC h
  unfold vB
  rw [List.length_cons, List.length_take, hn, Int.toNat_natCast, w.hl]
  omega
theorem bytes_app {a b : List Int} (h : zdi a) (k : zdi b) : zdi (a ++ b) := fun z hz => by
  rcases List.mem_append.1 hz with hz | hz
  · exact h z hz
  · exact k z hz
theorem bytes_nil : zdi [] := fun z hz => by simp at hz
theorem bytes_drop {l : List Int} (h : zdi l) (k : Nat) : zdi (l.drop k) := fun z hz => h z (List.mem_of_mem_drop hz)
/-! The program's reader: it refuses nothing. -/
def nmP (w : Nat) (r : List Int) : Int := if w ≤ r.length then leN (r.take w) else 0
def ctP (r : List Int) : Nat := (nmP 1 r).toNat
def kyP (r : List Int) : RK × List Int := (keyL (ctP r) ((r.drop 1).take (ctP r)), (r.drop 1).drop (ctP r))
def vlP (r : List Int) : RV × List Int := (valL (ctP r) ((r.drop 1).take (ctP r)), (r.drop 1).drop (ctP r))
def kdP (r : List Int) : Int × List Int := (nmP 4 r, r.drop 4)
/-- A message: kind, Seq, key, and what its kind has. -/
def hdP (r : List Int) : RM × List Int := (⟨ctP r, nmP 8 (r.drop 1), (kyP ((r.drop 1).drop 8)).1, zE, 0⟩, (kyP ((r.drop 1).drop 8)).2)
def msP (r : List Int) : RM × List Int :=
  if ctP r = 1 then ({ (hdP r).1 with val := (vlP (hdP r).2).1 }, (vlP (hdP r).2).2)
  else if ctP r = 3 then ({ (hdP r).1 with inc := nmP 8 (hdP r).2 }, (hdP r).2.drop 8) else hdP r
def manyP {α : Type} (p : List Int → α × List Int) : Nat → List Int → List α × List Int
  | 0, r => ([], r)
  | n + 1, r => ((manyP p n r).1 ++ [(p (manyP p n r).2).1], (p (manyP p n r).2).2)
theorem manyP_len {α : Type} (p : List Int → α × List Int) (n : Nat) (r : List Int) : (manyP p n r).1.length = n := by
  induction n with
  | zero => rfl
  | succ n ih => simp [manyP, ih]
/-- What is read of what was written, part by part. -/
theorem manyP_of {α : Type} {p : List Int → α × List Int} {f : α → List Int} (l : List α) (h : ∀ x ∈ l, ∀ r, p (f x ++ r) = (x, r)) (r : List Int) : ∀ n, n ≤ l.length → manyP p n (l.flatMap f ++ r) = (l.take n, (l.drop n).flatMap f ++ r)
  | 0, _ => by simp [manyP]
  | n + 1, hn => by
    have ih := manyP_of l h r n (by omega)
    have hx : l[n]? = some (l[n]'(by omega)) := List.getElem?_eq_getElem _
    have hd : l.drop n = l[n]'(by omega) :: l.drop (n + 1) := List.drop_eq_getElem_cons _
    unfold manyP
    rw [ih]
    dsimp only
    rw [hd, List.flatMap_cons, List.append_assoc, h _ (List.getElem_mem _), List.take_add_one, hx]
    rfl
theorem leN_one (z : Int) : leN [z] = z := by simp [leN]
theorem nmP_app {l r : List Int} {w : Nat} (h : l.length = w) : nmP w (l ++ r) = leN l := by
  unfold nmP
  rw [if_pos (by simp; omega), ← h, List.take_left]
theorem ctP_cons {z : Int} (hz : 0 ≤ z) (r : List Int) : (ctP (z :: r) : Int) = z := by
  have := nmP_app (l := [z]) (r := r) (w := 1) rfl
  unfold ctP
  rw [show z :: r = [z] ++ r from rfl, this, leN_one]
  omega
theorem kyP_of {k : RK} (h : okB k = true) (r : List Int) : kyP (kB k ++ r) = (k, r) := by
  obtain ⟨m, hm, hn, hk⟩ := zi4 h
  have h8 : (kbs k).length = 8 := rfl
  have hc : (ctP (kB k ++ r) : Int) = k.n := ctP_cons (by omega) _
  have hc' : ctP (kB k ++ r) = k.n.toNat := by omega
  have hl : ((kbs k).take k.n.toNat).length = k.n.toNat := by rw [List.length_take, h8]; omega
  unfold kyP
  rw [hc, hc']
  unfold kB
  rw [List.cons_append, List.drop_one, List.tail_cons, List.take_append_of_le_length (by omega), List.take_of_length_le (by omega), List.drop_append_of_le_length (by omega), List.drop_of_length_le (by omega), keyL_of h]
  rfl
theorem vlP_of {v : RV} (w : v.wf) (h : okV v = true) (r : List Int) : vlP (vB v ++ r) = (v, r) := by
  obtain ⟨m, hm, hn, hk⟩ := ziC h
  have h8 := w.hl
  have hc : (ctP (vB v ++ r) : Int) = v.n := ctP_cons (by omega) _
  have hc' : ctP (vB v ++ r) = v.n.toNat := by omega
  have hl : (v.bs.take v.n.toNat).length = v.n.toNat := by rw [List.length_take, h8]; omega
  unfold vlP
  rw [hc, hc']
  unfold vB
  rw [List.cons_append, List.drop_one, List.tail_cons, List.take_append_of_le_length (by omega), List.take_of_length_le (by omega), List.drop_append_of_le_length (by omega), List.drop_of_length_le (by omega), valL_of h w.hl]
  rfl
theorem kdP_of {z : Int} (h : 0 ≤ z) (h2 : z < 4294967296) (r : List Int) : kdP (iB z ++ r) = (z, r) := by
  unfold kdP iB
  rw [nmP_app (zcP 4 z), leN_leB 4 z h, List.drop_append_of_le_length (by rw [zcP]; decide), List.drop_of_length_le (by rw [zcP]; decide)]
  rw [show (256 : Int) ^ 4 = 4294967296 from by decide, Int.emod_eq_of_lt h h2]
  rfl
theorem leN8 {z : Int} (h : zeb z) : leN (leB z 8) = z := by
  unfold zeb at h
  rw [leN_leB 8 z h.1, show (256 : Int) ^ 8 = 18446744073709551616 from by decide, Int.emod_eq_of_lt h.1 h.2]
theorem drop_leB (z : Int) (k : Nat) (r : List Int) : (leB z k ++ r).drop k = r := by
  rw [List.drop_append_of_le_length (by rw [zcP]; exact Nat.le_refl _), List.drop_of_length_le (by rw [zcP]; exact Nat.le_refl _)]
  rfl
theorem okM_kind {m : RM} (h : okM m = true) : m.kind = 1 ∨ m.kind = 2 ∨ m.kind = 3 := by
  unfold okM at h
  by_cases h1 : m.kind = 1
  · exact .inl h1
  · by_cases h2 : m.kind = 2
    · exact .inr (.inl h2)
    · by_cases h3 : m.kind = 3
      · exact .inr (.inr h3)
      · rw [if_neg h1, if_neg h2, if_neg h3] at h; cases h
theorem okM_one {m : RM} (h : okM m = true) (hk : m.kind = 1) : m.inc = 0 ∧ okB m.key = true ∧ okV m.val = true := by
  unfold okM at h; rw [if_pos hk] at h; simpa using h
theorem okM_two {m : RM} (h : okM m = true) (hk : m.kind = 2) : m.inc = 0 ∧ okB m.key = true ∧ m.val = zE := by
  unfold okM at h; rw [if_neg (by omega), if_pos hk] at h; simpa using h
theorem okM_three {m : RM} (h : okM m = true) (hk : m.kind = 3) : okB m.key = true ∧ m.val = zE := by
  unfold okM at h; rw [if_neg (by omega), if_neg (by omega), if_pos hk] at h; simpa using h
theorem okM_okB {m : RM} (h : okM m = true) : okB m.key = true := by
  rcases okM_kind h with hk | hk | hk
  · exact (okM_one h hk).2.1
  · exact (okM_two h hk).2.1
  · exact (okM_three h hk).1
theorem hdP_of {m : RM} (w : m.wf) (h : okM m = true) (r : List Int) : (ctP (mB m ++ r) : Int) = m.kind ∧ hdP (mB m ++ r) = (⟨m.kind, m.seq, m.key, zE, 0⟩, tB m ++ r) := by
  have hk := okM_kind h
  have hc : (ctP (mB m ++ r) : Int) = m.kind := ctP_cons (by omega) _
  refine ⟨hc, ?_⟩
  unfold hdP
  rw [hc]
  have e1 : (mB m ++ r).drop 1 = leB m.seq 8 ++ (kB m.key ++ (tB m ++ r)) := by
    unfold mB
    rw [List.cons_append, List.drop_one, List.tail_cons, List.append_assoc, List.append_assoc]
  rw [e1, nmP_app (zcP 8 m.seq), leN8 w.hs, drop_leB, kyP_of (okM_okB h)]
theorem msP_of {m : RM} (w : m.wf) (h : okM m = true) (r : List Int) : msP (mB m ++ r) = (m, r) := by
  obtain ⟨hc, hh⟩ := hdP_of w h r
  have hk := okM_kind h
  unfold msP
  rw [hh]
  dsimp only
  obtain ⟨kd, sq, ky, vl, ic⟩ := m
  dsimp only at hc hk ⊢
  rcases hk with rfl | rfl | rfl
  · obtain ⟨e1, e2, e3⟩ := okM_one h rfl
    dsimp only at e1 e2 e3
    subst e1
    rw [if_pos (by omega)]
    have et : tB ⟨1, sq, ky, vl, 0⟩ = vB vl := rfl
    rw [et, vlP_of w.val e3]
  · obtain ⟨e1, e2, e3⟩ := okM_two h rfl
    dsimp only at e1 e2 e3
    subst e1 e3
    rw [if_neg (by omega), if_neg (by omega)]
    rfl
  · obtain ⟨e2, e3⟩ := okM_three h rfl
    dsimp only at e2 e3
    subst e3
    rw [if_neg (by omega), if_pos (by omega)]
    have et : tB ⟨3, sq, ky, zE, ic⟩ = leB ic 8 := rfl
    rw [et, nmP_app (zcP 8 ic), leN8 w.hi, drop_leB]
end Go.Proofs.Ytmjjjdikpnhpiaa
/- What encodes a block: bytes put behind bytes of the call's own. -/
namespace Go.Proofs.Ytmjjjdikpnhpiaa
set_option linter.unusedVariables false
set_option linter.unusedSimpArgs false
set_option maxRecDepth 100000
open Go.RowKit
/-- From w on all that was there has stayed, but for the row at A, which is the one at A' now. -/
def Grw (w : World) (A : Option Addr) (w' : World) (A' : Option Addr) : Prop := w.grownBy w' (blk A) ∧ (blk A' = blk A ∨ ∀ k, blk A' = some k → w.heap.size ≤ k)
theorem Grw.refl (w : World) (A : Option Addr) : Grw w A w A := ⟨World.grownBy.refl w _, .inl rfl⟩
theorem Grw.trans {w w1 w2 : World} {A A1 A2 : Option Addr} (h : Grw w A w1 A1) (k : Grw w1 A1 w2 A2) : Grw w A w2 A2 := by
  refine ⟨⟨k.1.os.trans h.1.os, k.1.tape.trans h.1.tape, k.1.output.trans h.1.output, Nat.le_trans h.1.size k.1.size, fun j hj hne => (k.1.block j (Nat.lt_of_lt_of_le hj h.1.size) (fun e => ?_)).trans (h.1.block j hj hne)⟩, ?_⟩
  · rcases h.2 with h2 | h2
    · exact hne (e.trans h2)
    · have := h2 j e.symm; omega
  · rcases k.2 with k2 | k2
    · rw [k2]; exact h.2
    · exact .inr fun j hj => Nat.le_trans h.1.size (k2 j hj)
theorem Grw.fr {w w1 w2 : World} {A A1 : Option Addr} (h : Grw w A w1 A1) (k : Fr w1 w2) : Grw w A w2 A1 :=
  h.trans ⟨⟨k.os, k.tape, k.output, k.size, fun j hj _ => k.block j hj⟩, .inl rfl⟩
theorem Grw.of_fr {w w1 : World} (A : Option Addr) (k : Fr w w1) : Grw w A w1 A := (Grw.refl w A).fr k
theorem Grw.step {w w1 w2 : World} {A A1 A2 : Option Addr} (h : Grw w A w1 A1) (g : w1.grownBy w2 (blk A1)) (e : blk A2 = blk A1 ∨ blk A2 = some w1.heap.size) : Grw w A w2 A2 :=
  h.trans ⟨g, e.imp id fun e k hk => by rw [e] at hk; injection hk with hk; omega⟩
theorem Grw.size {w w1 : World} {A A1 : Option Addr} (h : Grw w A w1 A1) : w.heap.size ≤ w1.heap.size := h.1.size
theorem Grw.arr {w w1 : World} {A A1 : Option Addr} (h : Grw w A w1 A1) {g T : Nat} {cs : Array Value} (ha : Arr w g T cs) (hne : blk A ≠ some g) : Arr w1 g T cs := (h.1.block g ha.lt (fun e => hne e.symm)).trans ha
theorem Grw.ne {w w1 : World} {A A1 : Option Addr} (h : Grw w A w1 A1) {g : Nat} (hg : g < w.heap.size) (hne : blk A ≠ some g) : blk A1 ≠ some g := by
  rcases h.2 with h2 | h2
  · rw [h2]; exact hne
  · intro e; have := h2 g e; omega
theorem Grw.below {a w w1 : World} {A A1 : Option Addr} {B : Nat} (h : Grw w A w1 A1) (hb : Below B a w) (hB : B ≤ w.heap.size) (hA : ∀ k, blk A = some k → B ≤ k) : Below B a w1 := hb.grown h.1 hB hA
theorem has_sub {w : World} {g T o : Nat} {cs zs : List Value} (ha : Arr w g T cs.toArray) (hz : ∀ j u, zs[j]? = some u → cs[o + j]? = some u) : Has w (g + 1) (some ⟨g, o, none⟩) zs := fun j u hu => ⟨g, o, rfl, Nat.lt_succ_self _, by rw [ha.cell]; simpa using hz j u hu⟩
/-- What each of these hands back: its row with zs behind. -/
def AddR (w : World) (B : Nat) (A : Option Addr) (n : Nat) (xs zs : List Int) (e : Ending) (w' : World) : Prop :=
  ∃ A' c' N, e = .returned (.slice A' N c') ∧ Hid (N = n + zs.length ∧ Own w' B 5 1 A' N c' (u8s (xs ++ zs)) ∧ Grw w A w' A')
set_option maxHeartbeats 1000000 in
theorem addText_at {w : World} {B n c : Nat} {A : Option Addr} {xs : List Int} (ho : Own w B 5 1 A n c (u8s xs)) (hB : B ≤ w.heap.size) (hn : n ≤ 5000)
    {g o m c2 T : Nat} {cs : List Value} {zs : List Int} (ha : Arr w g T cs.toArray) (hne : blk A ≠ some g) (hz : ∀ j u, (u8s zs)[j]? = some u → cs[o + j]? = some u) (hm : zs.length = m) (h255 : m ≤ 255) :
    Calls Try.prog 70 #[.slice A n c, .slice (some ⟨g, o, none⟩) m c2] w (AddR w B A n xs ((m : Int) :: zs)) := by
  have g0 : ∀ o, Grw w A (w.alloc o) A := fun o => Grw.of_fr A (zf (ze w) o)
  have ha0 : ∀ o, Arr (w.alloc o) g T cs.toArray := fun o => ha.alloc o
  have tok1 : Hid (0 < 1) := zb (by decide)
  have tok2 : Hid (0 < 1) := zb (by decide)
  go_enter Try.func70, Try.ntmps70
  go_wp2_with (first
    | (clear tok1; refine zfh rfl (.tmp 5) (.tmp 9) rfl B A n c xs rfl (ho.alloc _) _ _ 1 1 [(m : Int)] rfl rfl (zev _ _ _) (by omega) (Nat.le_trans hB (g0 _).size) ?_; intro A1 c1 w1 o1 g1 k1
       have G1 := Grw.step (g0 _) g1 k1
       have a1 := Grw.arr ⟨g1, .inl rfl⟩ (ha0 _) hne
       have hB1 := Nat.le_trans hB G1.size)
    | (clear tok2; refine zfh rfl (.tmp 10) (.tmp 11) rfl B A1 (n + 1) c1 _ rfl o1 _ _ m c2 zs rfl hm (has_sub a1 hz) (by omega) hB1 ?_; intro A2 c3 w2 o2 g2 k2)
    | fail)
  go_ret
  exact ⟨A2, c3, _, rfl, zb ⟨by rw [List.length_cons, hm]; omega, by simpa using o2, G1.step g2 k2⟩⟩
end Go.Proofs.Ytmjjjdikpnhpiaa
/- What encodes a block, two: keys, values, messages. -/
namespace Go.Proofs.Ytmjjjdikpnhpiaa
set_option linter.unusedVariables false
set_option linter.unusedSimpArgs false
set_option maxRecDepth 100000
open Go.RowKit
theorem AddR.of_fr {w Z : World} {B n : Nat} {A : Option Addr} {xs zs : List Int} {e : Ending} {w' : World} (h : AddR Z B A n xs zs e w') (k : Fr w Z) : AddR w B A n xs zs e w' := by
  obtain ⟨A1, c1, N, he, h1⟩ := h
  exact ⟨A1, c1, N, he, zb ⟨h1.out.1, h1.out.2.1, (Grw.of_fr A k).trans h1.out.2.2⟩⟩
theorem own_ne {w : World} {B e s n c : Nat} {A : Option Addr} {xs : List Value} (ho : Own w B e s A n c xs) : blk A ≠ some w.heap.size := fun h => by
  have := (ho.lt _ h).2; omega
set_option maxHeartbeats 1000000 in
theorem addKey_at {w : World} {B n c : Nat} {A : Option Addr} {xs : List Int} (ho : Own w B 5 1 A n c (u8s xs)) (hB : B ≤ w.heap.size) (hn : n ≤ 5000) {k : RK} (ok : okB k = true) :
    Calls Try.prog 53 #[.slice A n c, kv k] w (AddR w B A n xs (kB k)) := by
  obtain ⟨m, hm, hk, -⟩ := zi4 ok
  obtain ⟨Z, hZ, fZ, aZ⟩ : ∃ Z, w.alloc (.cells (kc k).toArray 69) = Z ∧ Fr w Z ∧ Arr Z w.heap.size 69 (kc k).toArray := ⟨_, rfl, zf (ze _) _, Arr.new _ _ _⟩
  have c0 : Z.cell? ⟨w.heap.size, 0, none⟩ = some (.int .i64 (m : Int)) := by rw [aZ.cell, ← hk]; rfl
  have hs := slice8 m hm w.heap.size
  have cA := (addText_at (m := m) (c2 := 8) (g := w.heap.size) (o := 1) (cs := kc k) (zs := (kbs k).take m) (ho.below fZ (Nat.le_refl _)) (Nat.le_trans hB fZ.size) hn aZ (own_ne ho) (fun j u hu => kc_byte k m j u hu) (by simp [kbs]; omega) (by omega))
  have he : (m : Int) :: (kbs k).take m = kB k := by unfold kB; rw [hk, Int.toNat_natCast]
  rw [he] at cA
  clear he aZ ok hB ho
  have Hk := zb hk
  clear hk
  go_enter Try.func53, Try.ntmps53
  go_wp2_with fail
  refine cA.mono ?_
  rintro e w1 ⟨A1, c1, N, rfl, h1⟩
  go_wp2_with fail
  go_ret
  exact AddR.of_fr ⟨A1, c1, N, rfl, h1⟩ fZ
set_option maxHeartbeats 1000000 in
theorem addValue_at {w : World} {B n c : Nat} {A : Option Addr} {xs : List Int} (ho : Own w B 5 1 A n c (u8s xs)) (hB : B ≤ w.heap.size) (hn : n ≤ 5000) {v : RV} (wv : v.wf) (ok : okV v = true) :
    Calls Try.prog 52 #[.slice A n c, vv v] w (AddR w B A n xs (vB v)) := by
  obtain ⟨m, hm, hk, -⟩ := ziC ok
  have hl := wv.hl
  obtain ⟨Z, hZ, fZ, aZ⟩ : ∃ Z, w.alloc (.cells (vc v).toArray 72) = Z ∧ Fr w Z ∧ Arr Z w.heap.size 72 (vc v).toArray := ⟨_, rfl, zf (ze _) _, Arr.new _ _ _⟩
  have c0 : Z.cell? ⟨w.heap.size, 0, none⟩ = some (.int .i64 (m : Int)) := by rw [aZ.cell, ← hk]; rfl
  have hs := zhE m hm w.heap.size
  have cA := (addText_at (m := m) (c2 := 16) (g := w.heap.size) (o := 1) (cs := vc v) (zs := v.bs.take m) (ho.below fZ (Nat.le_refl _)) (Nat.le_trans hB fZ.size) hn aZ (own_ne ho) (fun j u hu => by
    have hj : j < m := by have := (List.getElem?_eq_some_iff.1 hu).1; simp at this; omega
    rw [Nat.add_comm]
    show (u8s v.bs)[j]? = some u
    rw [← hu, show u8s (v.bs.take m) = (u8s v.bs).take m from List.map_take, List.getElem?_take_of_lt hj]) (by rw [List.length_take]; omega) (by omega))
  have he : (m : Int) :: v.bs.take m = vB v := by unfold vB; rw [hk, Int.toNat_natCast]
  rw [he] at cA
  clear he aZ ok hB ho wv hl
  have Hk := zb hk
  clear hk
  go_enter Try.func52, Try.ntmps52
  go_wp2_with fail
  refine cA.mono ?_
  rintro e w1 ⟨A1, c1, N, rfl, h1⟩
  go_wp2_with fail
  go_ret
  exact AddR.of_fr ⟨A1, c1, N, rfl, h1⟩ fZ
/-- Package bits' Put, in these words. -/
theorem cput_at {w : World} {B n c : Nat} {A : Option Addr} {xs : List Int} (ho : Own w B 5 1 A n c (u8s xs)) (hB : B ≤ w.heap.size) (hn : n ≤ 5000) {x K : Int} (hx : 0 ≤ x) (k : Nat) (hK : K = k) (h1 : 1 ≤ k) (h8 : k ≤ 8) :
    Calls Try.prog 26 #[.slice A n c, .int .u64 x, .int .i64 K] w (AddR w B A n xs (leB x k)) := by
  subst hK
  have hl : xs.length = n := by have := ho.len; simpa using this
  refine (put_ok A n c xs hl (by omega) x k hx (by omega) (by omega) w ho.has).mono ?_
  rintro e w1 ⟨A1, c1, rfl, o1, f1⟩
  rw [Int.toNat_natCast] at o1 ⊢
  exact ⟨A1, c1, _, rfl, zb ⟨by rw [zcP], o1.mono hB, ⟨f1.os, f1.tape, f1.output, f1.size, fun j hj _ => f1.block j hj⟩, .inr fun j hj => (o1.lt j hj).1⟩⟩
theorem step_app_run {P : Program} {w : World} {ops : Array Oper} {o : Oper} {a : Act} {K : Act → World → Prop} {Q : Exit → Act → World → Prop} {E : Prop} (hw : Region.wanted o (yielded ops a.tmps) = true) (d s : Operand) (t t' : TypeId)
    (ho : o.op = .call { callee := .builtin .append, args := #[d, s], argTypes := #[t, t'] }) (v u : Value) (hd : a.eval d = v) (hs : a.eval s = u) {v' : Value} {w' : World}
    (hr : (Builtin.append_ #[t, t'] o.type #[v, u]).run P w = .ok v' w') (hK : K (a.put o.dst v') w') : if Region.wanted o (yielded ops a.tmps) = true then Oper.wp P o a w K Q else E := by
  rw [if_pos hw]
  unfold Oper.wp execOp
  simp only [ho, resolve, invoke, builtin, Sem.run_bind, Sem.run_pure, Result.andThen_ok, List.map_toArray, List.map_cons, List.map_nil, hd, hs, hr]
  exact hK
theorem step_app_u8 {w : World} {ops : Array Oper} {o : Oper} {a : Act} {K : Act → World → Prop} {Q : Exit → Act → World → Prop} {E : Prop} (hgd : o.guard = none) (d s : Operand)
    (hop : o.op = .call { callee := .builtin .append, args := #[d, s], argTypes := #[22, 22] }) {B : Nat} {A : Option Addr} {n c : Nat} {zs : List Int} (hd : a.eval d = .slice A n c) (ho : Own w B 5 1 A n c (u8s zs))
    {C : Nat} {A2 : Option Addr} {m c2 : Nat} {ys : List Int} (hs : a.eval s = .slice A2 m c2) (hl : ys.length = m) (hn : Has w C A2 (u8s ys)) (hb : n + m ≤ 1000000) (hB : B ≤ w.heap.size)
    (h : ∀ A' c' w', Own w' B 5 1 A' (n + m) c' (u8s (zs ++ ys)) → w.grownBy w' (blk A) → (blk A' = blk A ∨ blk A' = some w.heap.size) → K (a.put o.dst (.slice A' (n + m) c')) w') :
    if Region.wanted o (yielded ops a.tmps) = true then Oper.wp Try.prog o a w K Q else E := by
  obtain ⟨i0, hi0, hz0, hz1, hz2⟩ := info_parts zkk
  obtain ⟨A', c', w', hr, h1, h2, h3⟩ := zcM (P := Try.prog) w B 22 o.type 5 i0 _ 1 1 Try.underlying22 hi0 hz0 hz1 hz2 rfl (by omega) A n c (u8s zs) ho C A2 m c2 (u8s ys) (by simpa using hl) hn (ints_oneCell _ _) (by unfold maxLen; omega) (by omega) hB
  exact step_app_run (by simp [Region.wanted, hgd]) d s _ _ hop _ _ hd hs hr (h A' c' w' (by simpa using h1) h2 h3)
/-- Whatever row it is by now: all else has stayed. -/
def GrS (w : World) (A : Option Addr) (w' : World) : Prop := ∃ A', Grw w A w' A'
attribute [local go_sem ↓] zw zt zae
theorem msg_sum {m : RM} {k : Int} {zs : List Int} {n N2 N3 N4 : Nat} (hz : tB m = zs) (hk : m.kind = k) (h2 : N2 = n + 1 + (leB m.seq 8).length) (h3 : N3 = N2 + (kB m.key).length) (h4 : N4 = N3 + zs.length) : N4 = n + (mB m).length := by
  unfold mB
  simp only [List.length_cons, List.length_append, hz]
  omega
theorem msg_own {w : World} {B N c : Nat} {A : Option Addr} {xs zs : List Int} {m : RM} {k : Int} (hz : tB m = zs) (hk : m.kind = k) (h : Own w B 5 1 A N c (u8s (xs ++ [k] ++ leB m.seq 8 ++ kB m.key ++ zs))) : Own w B 5 1 A N c (u8s (xs ++ mB m)) := by
  unfold mB
  rw [hz, hk]
  simpa using h
set_option maxHeartbeats 2000000 in
theorem addMsg_1 {w : World} {B n c : Nat} {A : Option Addr} {xs : List Int} (ho : Own w B 5 1 A n c (u8s xs)) (hB : B ≤ w.heap.size) (hn : n ≤ 4000) {m : RM} (wm : m.wf) (om : okM m = true) (hk : m.kind = 1) :
    Calls Try.prog 54 #[.slice A n c, mm m] w (AddR w B A n xs (mB m)) := by
  have hl := wm.val.hl
  have ok' := okM_okB om
  have ws := wm.hs
  have wi := wm.hi
  unfold zeb at ws wi
  obtain ⟨Z, hZ, fZ, aZ⟩ : ∃ Z, w.alloc (.cells (mc m).toArray 81) = Z ∧ Fr w Z ∧ Arr Z w.heap.size 81 (mc m).toArray := ⟨_, rfl, zf (ze _) _, Arr.new _ _ _⟩
  have hne := own_ne ho
  have aW : ∀ W, GrS Z A W → Arr W w.heap.size 81 (mc m).toArray := fun W h => by
    obtain ⟨A', h⟩ := h
    exact h.arr aZ hne
  have c0 : ∀ W, GrS Z A W → W.cell? ⟨w.heap.size, 0, none⟩ = some (.int .i64 1) := fun W h => by rw [(aW W h).cell, ← hk]; rfl
  have c1 : ∀ W, GrS Z A W → W.cell? ⟨w.heap.size, 1, none⟩ = some (.int .u64 m.seq) := fun W h => by rw [(aW W h).cell]; rfl
  have c28 : ∀ W, GrS Z A W → W.cell? ⟨w.heap.size, 28, none⟩ = some (.int .u64 m.inc) := fun W h => (zbt (aW W h) 28 (zdT hl)) W (ze _)
  have lK : ∀ W, GrS Z A W → (ldS 69 (.pointer (some ⟨w.heap.size, 2, none⟩))).run Try.prog W = .ok (.agg (kc m.key).toArray) W := fun W h => zaN (aW W h) W (ze _)
  have lV : ∀ W, GrS Z A W → (ldS 72 (.pointer (some ⟨w.heap.size, 11, none⟩))).run Try.prog W = .ok (.agg (vc m.val).toArray) W := fun W h => zcG (aW W h) hl W (ze _)
  have oZ := ho.below fZ (Nat.le_refl _)
  have hBZ := Nat.le_trans hB fZ.size
  have GZ : GrS Z A Z := ⟨A, Grw.refl _ _⟩
  have hwk : IntKind.u8.wrap 1 = 1 := by decide
  have GD : GrS Z A Z.drew := ⟨A, Grw.of_fr A (zn (ze Z))⟩
  have gD : Grw Z A Z.drew A := Grw.of_fr A (zn (ze Z))
  have oD := oZ.below (zn (ze Z)) (Nat.le_refl _)
  have hBD := Nat.le_trans hBZ gD.size
  have Ho := zb ho
  have HB := zb hB
  have Hk := zb hk
  have Hl := zb hl
  have AW := zb aW
  clear ho hB hk hl aW oZ
  go_enter Try.func54, Try.ntmps54
  go_wp2_with fail
  refine wp_region_noPanic ?_
  refine wp_region_held_drew (S := fun w' => GrS Z A w') (by kernel_rfl) GD (fun hHeld => ?_)
  change wpAnyH _ _ _ _ _ _ _ _ _
  generalize Z.drew = X0 at *
  have gX := gD
  have GX := GD
  have oX := oD
  have hBX := hBD
  refine wpAnyH_take (i := 0) (v := ?_) rfl (by kernel_rfl) (by kernel_rfl) (by kernel_rfl) (fun _ _ _ h => h) (Or.inl ⟨by rfl, ?_⟩) (by assumption) ?_
  rotate_left
  · intro w' hSw
    try dsimp only at hSw
    go_simp
    try with_reducible rfl
  try simp only [List.getElem_toArray, List.getElem_cons_zero, Act.put, List.setIfInBounds_toArray, List.set_cons_zero, List.set_cons_succ]
  refine wpAnyH_take (i := 1) (v := ?_) rfl (by kernel_rfl) (by kernel_rfl) (by kernel_rfl) (fun _ _ _ h => h) (Or.inl ⟨by rfl, ?_⟩) (by assumption) ?_
  rotate_left
  · intro w' hSw
    try dsimp only at hSw
    go_simp
    try with_reducible rfl
  try simp only [List.getElem_toArray, List.getElem_cons_succ, List.getElem_cons_zero, Act.put, List.setIfInBounds_toArray, List.set_cons_zero, List.set_cons_succ]
  refine wpAnyH_take (i := 2) (v := ?_) rfl (by kernel_rfl) (by kernel_rfl) (by kernel_rfl) (fun _ _ _ h => h) (Or.inl ⟨by rfl, ?_⟩) (by assumption) ?_
  rotate_left
  · intro w' hSw
    try dsimp only at hSw
    go_simp
    try with_reducible rfl
  try simp only [List.getElem_toArray, List.getElem_cons_succ, List.getElem_cons_zero, Act.put, List.setIfInBounds_toArray, List.set_cons_zero, List.set_cons_succ]
  refine wpAnyH_take (i := 6) (v := ?_) rfl (by kernel_rfl) (by kernel_rfl) (by kernel_rfl) (fun _ _ _ h => h) (Or.inl ⟨by rfl, ?_⟩) (by assumption) ?_
  rotate_left
  · intro w' hSw
    try dsimp only at hSw
    go_simp
    try with_reducible rfl
  try simp only [List.getElem_toArray, List.getElem_cons_succ, List.getElem_cons_zero, Act.put, List.setIfInBounds_toArray, List.set_cons_zero, List.set_cons_succ]
  refine wpAnyH_take (i := 7) (v := ?_) rfl (by kernel_rfl) (by kernel_rfl) (by kernel_rfl) (fun _ _ _ h => h) (Or.inl ⟨by rfl, ?_⟩) (by assumption) ?_
  rotate_left
  · intro w' hSw
    try dsimp only at hSw
    go_simp
    try with_reducible rfl
  try simp only [List.getElem_toArray, List.getElem_cons_succ, List.getElem_cons_zero, Act.put, List.setIfInBounds_toArray, List.set_cons_zero, List.set_cons_succ]
  refine wpAnyH_ready (rs := [3]) (by kernel_rfl) (by simp) ?_
  refine AllReadyH.cons rfl (fun K hK0 => ?_) AllReadyH.nil
  go_simp
  refine hK0.out _ _ GX (fun _ => ?_)
  clear hK0 K
  try simp only [List.getElem_toArray, List.getElem_cons_succ, List.getElem_cons_zero, Act.put, List.setIfInBounds_toArray, List.set_cons_zero, List.set_cons_succ]
  refine wpAnyH_ready (rs := [4]) (by kernel_rfl) (by simp) ?_
  refine AllReadyH.cons rfl (fun K hK0 => ?_) AllReadyH.nil
  go_simp
  have gY := gX.fr (zf (ze X0) (.cells #[.int .u8 1] 5))
  have GY : GrS Z A _ := ⟨A, gY⟩
  refine hK0.out _ _ GY (fun _ => ?_)
  clear hK0 K
  try simp only [List.getElem_toArray, List.getElem_cons_succ, List.getElem_cons_zero, Act.put, List.setIfInBounds_toArray, List.set_cons_zero, List.set_cons_succ]
  refine wpAnyH_ready (rs := [5]) (by kernel_rfl) (by simp) ?_
  refine AllReadyH.cons rfl (fun K hK0 => ?_) AllReadyH.nil
  refine step_app_u8 rfl (.tmp 5) (.tmp 9) rfl rfl (oX.alloc _) rfl (ys := [1]) rfl (zev _ _ _) (by omega) (Nat.le_trans hBX (zf (ze X0) _).size) ?_
  intro A1 c1' w1 o1 g1 k1
  have G1 := gY.step g1 k1
  have S1 : GrS Z A w1 := ⟨A1, G1⟩
  have hB1 := Nat.le_trans hBZ G1.size
  refine hK0.out _ _ S1 (fun _ => ?_)
  clear hK0 K
  try simp only [List.getElem_toArray, List.getElem_cons_succ, List.getElem_cons_zero, Act.put, List.setIfInBounds_toArray, List.set_cons_zero, List.set_cons_succ]
  refine wpAnyH_ready (rs := [8]) (by kernel_rfl) (by simp) ?_
  refine AllReadyH.cons rfl (fun K hK0 => ?_) AllReadyH.nil
  go_simp
  refine (cput_at o1 hB1 (by omega) ws.1 8 rfl (by decide) (by decide)).mono ?_
  rintro e w2 ⟨A2, c2, N2, rfl, h2⟩
  have G2 := G1.trans h2.out.2.2
  have S2 : GrS Z A w2 := ⟨A2, G2⟩
  go_simp
  refine hK0.out _ _ S2 (fun _ => ?_)
  clear hK0 K
  try simp only [List.getElem_toArray, List.getElem_cons_succ, List.getElem_cons_zero, Act.put, List.setIfInBounds_toArray, List.set_cons_zero, List.set_cons_succ]
  refine wpAnyH_take (i := 9) (v := ?_) rfl (by kernel_rfl) (by kernel_rfl) (by kernel_rfl) (fun _ _ _ h => h) (Or.inl ⟨by rfl, ?_⟩) (by assumption) ?_
  rotate_left
  · intro w' hSw
    try dsimp only at hSw
    go_simp
    try with_reducible rfl
  try simp only [List.getElem_toArray, List.getElem_cons_succ, List.getElem_cons_zero, Act.put, List.setIfInBounds_toArray, List.set_cons_zero, List.set_cons_succ]
  refine wpAnyH_done (by kernel_rfl) ?_ _
  refine NoPanic.normal ?_
  have hB2 := Nat.le_trans hBZ G2.size
  have hN2 : N2 ≤ n + 9 := by have := h2.out.1; rw [zcP] at this; omega
  have l0 := c0 w2 S2
  have lk := lK w2 S2
  go_wp2_with fail
  refine (addKey_at h2.out.2.1 hB2 (by omega) ok').mono ?_
  rintro e w3 ⟨A3, c3, N3, rfl, h3⟩
  have G3 := G2.trans h3.out.2.2
  have S3 : GrS Z A w3 := ⟨A3, G3⟩
  have hB3 := Nat.le_trans hBZ G3.size
  have hk9 := kB_len ok'
  obtain ⟨mk, hmk, hmn, -⟩ := zi4 ok'
  have hN3 : N3 ≤ n + 18 := by have := h3.out.1; omega
  clear hk9 hmn
  have l0 := c0 w3 S3
  have lv := lV w3 S3
  have l28 := c28 w3 S3
  clear c0 c1 c28 lK lV
  go_wp2_with fail
  refine (addValue_at h3.out.2.1 hB3 (by omega) wm.val (okM_one om Hk.out).2.2).mono ?_
  rintro e w4 ⟨A4, c4, N4, rfl, h4⟩
  go_wp2_with fail
  go_ret
  exact ⟨A4, c4, N4, rfl, zb ⟨msg_sum (by unfold tB; rw [if_pos Hk.out]) Hk.out h2.out.1 h3.out.1 h4.out.1, msg_own (by unfold tB; rw [if_pos Hk.out]) Hk.out h4.out.2.1, (Grw.of_fr A fZ).trans (G3.trans h4.out.2.2)⟩⟩
set_option maxHeartbeats 2000000 in
theorem addMsg_2 {w : World} {B n c : Nat} {A : Option Addr} {xs : List Int} (ho : Own w B 5 1 A n c (u8s xs)) (hB : B ≤ w.heap.size) (hn : n ≤ 4000) {m : RM} (wm : m.wf) (om : okM m = true) (hk : m.kind = 2) :
    Calls Try.prog 54 #[.slice A n c, mm m] w (AddR w B A n xs (mB m)) := by
  have hl := wm.val.hl
  have ok' := okM_okB om
  have ws := wm.hs
  have wi := wm.hi
  unfold zeb at ws wi
  obtain ⟨Z, hZ, fZ, aZ⟩ : ∃ Z, w.alloc (.cells (mc m).toArray 81) = Z ∧ Fr w Z ∧ Arr Z w.heap.size 81 (mc m).toArray := ⟨_, rfl, zf (ze _) _, Arr.new _ _ _⟩
  have hne := own_ne ho
  have aW : ∀ W, GrS Z A W → Arr W w.heap.size 81 (mc m).toArray := fun W h => by
    obtain ⟨A', h⟩ := h
    exact h.arr aZ hne
  have c0 : ∀ W, GrS Z A W → W.cell? ⟨w.heap.size, 0, none⟩ = some (.int .i64 2) := fun W h => by rw [(aW W h).cell, ← hk]; rfl
  have c1 : ∀ W, GrS Z A W → W.cell? ⟨w.heap.size, 1, none⟩ = some (.int .u64 m.seq) := fun W h => by rw [(aW W h).cell]; rfl
  have c28 : ∀ W, GrS Z A W → W.cell? ⟨w.heap.size, 28, none⟩ = some (.int .u64 m.inc) := fun W h => (zbt (aW W h) 28 (zdT hl)) W (ze _)
  have lK : ∀ W, GrS Z A W → (ldS 69 (.pointer (some ⟨w.heap.size, 2, none⟩))).run Try.prog W = .ok (.agg (kc m.key).toArray) W := fun W h => zaN (aW W h) W (ze _)
  have lV : ∀ W, GrS Z A W → (ldS 72 (.pointer (some ⟨w.heap.size, 11, none⟩))).run Try.prog W = .ok (.agg (vc m.val).toArray) W := fun W h => zcG (aW W h) hl W (ze _)
  have oZ := ho.below fZ (Nat.le_refl _)
  have hBZ := Nat.le_trans hB fZ.size
  have GZ : GrS Z A Z := ⟨A, Grw.refl _ _⟩
  have hwk : IntKind.u8.wrap 2 = 2 := by decide
  have GD : GrS Z A Z.drew := ⟨A, Grw.of_fr A (zn (ze Z))⟩
  have gD : Grw Z A Z.drew A := Grw.of_fr A (zn (ze Z))
  have oD := oZ.below (zn (ze Z)) (Nat.le_refl _)
  have hBD := Nat.le_trans hBZ gD.size
  have Ho := zb ho
  have HB := zb hB
  have Hk := zb hk
  have Hl := zb hl
  have AW := zb aW
  clear ho hB hk hl aW oZ
  go_enter Try.func54, Try.ntmps54
  go_wp2_with fail
  refine wp_region_noPanic ?_
  refine wp_region_held_drew (S := fun w' => GrS Z A w') (by kernel_rfl) GD (fun hHeld => ?_)
  change wpAnyH _ _ _ _ _ _ _ _ _
  generalize Z.drew = X0 at *
  have gX := gD
  have GX := GD
  have oX := oD
  have hBX := hBD
  refine wpAnyH_take (i := 0) (v := ?_) rfl (by kernel_rfl) (by kernel_rfl) (by kernel_rfl) (fun _ _ _ h => h) (Or.inl ⟨by rfl, ?_⟩) (by assumption) ?_
  rotate_left
  · intro w' hSw
    try dsimp only at hSw
    go_simp
    try with_reducible rfl
  try simp only [List.getElem_toArray, List.getElem_cons_zero, Act.put, List.setIfInBounds_toArray, List.set_cons_zero, List.set_cons_succ]
  refine wpAnyH_take (i := 1) (v := ?_) rfl (by kernel_rfl) (by kernel_rfl) (by kernel_rfl) (fun _ _ _ h => h) (Or.inl ⟨by rfl, ?_⟩) (by assumption) ?_
  rotate_left
  · intro w' hSw
    try dsimp only at hSw
    go_simp
    try with_reducible rfl
  try simp only [List.getElem_toArray, List.getElem_cons_succ, List.getElem_cons_zero, Act.put, List.setIfInBounds_toArray, List.set_cons_zero, List.set_cons_succ]
  refine wpAnyH_take (i := 2) (v := ?_) rfl (by kernel_rfl) (by kernel_rfl) (by kernel_rfl) (fun _ _ _ h => h) (Or.inl ⟨by rfl, ?_⟩) (by assumption) ?_
  rotate_left
  · intro w' hSw
    try dsimp only at hSw
    go_simp
    try with_reducible rfl
  try simp only [List.getElem_toArray, List.getElem_cons_succ, List.getElem_cons_zero, Act.put, List.setIfInBounds_toArray, List.set_cons_zero, List.set_cons_succ]
  refine wpAnyH_take (i := 6) (v := ?_) rfl (by kernel_rfl) (by kernel_rfl) (by kernel_rfl) (fun _ _ _ h => h) (Or.inl ⟨by rfl, ?_⟩) (by assumption) ?_
  rotate_left
  · intro w' hSw
    try dsimp only at hSw
    go_simp
    try with_reducible rfl
  try simp only [List.getElem_toArray, List.getElem_cons_succ, List.getElem_cons_zero, Act.put, List.setIfInBounds_toArray, List.set_cons_zero, List.set_cons_succ]
  refine wpAnyH_take (i := 7) (v := ?_) rfl (by kernel_rfl) (by kernel_rfl) (by kernel_rfl) (fun _ _ _ h => h) (Or.inl ⟨by rfl, ?_⟩) (by assumption) ?_
  rotate_left
  · intro w' hSw
    try dsimp only at hSw
    go_simp
    try with_reducible rfl
  try simp only [List.getElem_toArray, List.getElem_cons_succ, List.getElem_cons_zero, Act.put, List.setIfInBounds_toArray, List.set_cons_zero, List.set_cons_succ]
  refine wpAnyH_ready (rs := [3]) (by kernel_rfl) (by simp) ?_
  refine AllReadyH.cons rfl (fun K hK0 => ?_) AllReadyH.nil
  go_simp
  refine hK0.out _ _ GX (fun _ => ?_)
  clear hK0 K
  try simp only [List.getElem_toArray, List.getElem_cons_succ, List.getElem_cons_zero, Act.put, List.setIfInBounds_toArray, List.set_cons_zero, List.set_cons_succ]
  refine wpAnyH_ready (rs := [4]) (by kernel_rfl) (by simp) ?_
  refine AllReadyH.cons rfl (fun K hK0 => ?_) AllReadyH.nil
  go_simp
  have gY := gX.fr (zf (ze X0) (.cells #[.int .u8 2] 5))
  have GY : GrS Z A _ := ⟨A, gY⟩
  refine hK0.out _ _ GY (fun _ => ?_)
  clear hK0 K
  try simp only [List.getElem_toArray, List.getElem_cons_succ, List.getElem_cons_zero, Act.put, List.setIfInBounds_toArray, List.set_cons_zero, List.set_cons_succ]
  refine wpAnyH_ready (rs := [5]) (by kernel_rfl) (by simp) ?_
  refine AllReadyH.cons rfl (fun K hK0 => ?_) AllReadyH.nil
  refine step_app_u8 rfl (.tmp 5) (.tmp 9) rfl rfl (oX.alloc _) rfl (ys := [2]) rfl (zev _ _ _) (by omega) (Nat.le_trans hBX (zf (ze X0) _).size) ?_
  intro A1 c1' w1 o1 g1 k1
  have G1 := gY.step g1 k1
  have S1 : GrS Z A w1 := ⟨A1, G1⟩
  have hB1 := Nat.le_trans hBZ G1.size
  refine hK0.out _ _ S1 (fun _ => ?_)
  clear hK0 K
  try simp only [List.getElem_toArray, List.getElem_cons_succ, List.getElem_cons_zero, Act.put, List.setIfInBounds_toArray, List.set_cons_zero, List.set_cons_succ]
  refine wpAnyH_ready (rs := [8]) (by kernel_rfl) (by simp) ?_
  refine AllReadyH.cons rfl (fun K hK0 => ?_) AllReadyH.nil
  go_simp
  refine (cput_at o1 hB1 (by omega) ws.1 8 rfl (by decide) (by decide)).mono ?_
  rintro e w2 ⟨A2, c2, N2, rfl, h2⟩
  have G2 := G1.trans h2.out.2.2
  have S2 : GrS Z A w2 := ⟨A2, G2⟩
  go_simp
  refine hK0.out _ _ S2 (fun _ => ?_)
  clear hK0 K
  try simp only [List.getElem_toArray, List.getElem_cons_succ, List.getElem_cons_zero, Act.put, List.setIfInBounds_toArray, List.set_cons_zero, List.set_cons_succ]
  refine wpAnyH_take (i := 9) (v := ?_) rfl (by kernel_rfl) (by kernel_rfl) (by kernel_rfl) (fun _ _ _ h => h) (Or.inl ⟨by rfl, ?_⟩) (by assumption) ?_
  rotate_left
  · intro w' hSw
    try dsimp only at hSw
    go_simp
    try with_reducible rfl
  try simp only [List.getElem_toArray, List.getElem_cons_succ, List.getElem_cons_zero, Act.put, List.setIfInBounds_toArray, List.set_cons_zero, List.set_cons_succ]
  refine wpAnyH_done (by kernel_rfl) ?_ _
  refine NoPanic.normal ?_
  have hB2 := Nat.le_trans hBZ G2.size
  have hN2 : N2 ≤ n + 9 := by have := h2.out.1; rw [zcP] at this; omega
  have l0 := c0 w2 S2
  have lk := lK w2 S2
  go_wp2_with fail
  refine (addKey_at h2.out.2.1 hB2 (by omega) ok').mono ?_
  rintro e w3 ⟨A3, c3, N3, rfl, h3⟩
  have G3 := G2.trans h3.out.2.2
  have S3 : GrS Z A w3 := ⟨A3, G3⟩
  have hB3 := Nat.le_trans hBZ G3.size
  have hk9 := kB_len ok'
  obtain ⟨mk, hmk, hmn, -⟩ := zi4 ok'
  have hN3 : N3 ≤ n + 18 := by have := h3.out.1; omega
  clear hk9 hmn
  have l0 := c0 w3 S3
  have lv := lV w3 S3
  have l28 := c28 w3 S3
  clear c0 c1 c28 lK lV
  go_wp2_with fail
  go_ret
  exact ⟨A3, c3, N3, rfl, zb ⟨msg_sum (zs := []) (by unfold tB; rw [if_neg (by have := Hk.out; omega), if_neg (by have := Hk.out; omega)]) Hk.out h2.out.1 h3.out.1 rfl, msg_own (zs := []) (by unfold tB; rw [if_neg (by have := Hk.out; omega), if_neg (by have := Hk.out; omega)]) Hk.out (by simpa using h3.out.2.1), (Grw.of_fr A fZ).trans G3⟩⟩
set_option maxHeartbeats 2000000 in
theorem addMsg_3 {w : World} {B n c : Nat} {A : Option Addr} {xs : List Int} (ho : Own w B 5 1 A n c (u8s xs)) (hB : B ≤ w.heap.size) (hn : n ≤ 4000) {m : RM} (wm : m.wf) (om : okM m = true) (hk : m.kind = 3) :
    Calls Try.prog 54 #[.slice A n c, mm m] w (AddR w B A n xs (mB m)) := by
  have hl := wm.val.hl
  have ok' := okM_okB om
  have ws := wm.hs
  have wi := wm.hi
  unfold zeb at ws wi
  obtain ⟨Z, hZ, fZ, aZ⟩ : ∃ Z, w.alloc (.cells (mc m).toArray 81) = Z ∧ Fr w Z ∧ Arr Z w.heap.size 81 (mc m).toArray := ⟨_, rfl, zf (ze _) _, Arr.new _ _ _⟩
  have hne := own_ne ho
  have aW : ∀ W, GrS Z A W → Arr W w.heap.size 81 (mc m).toArray := fun W h => by
    obtain ⟨A', h⟩ := h
    exact h.arr aZ hne
  have c0 : ∀ W, GrS Z A W → W.cell? ⟨w.heap.size, 0, none⟩ = some (.int .i64 3) := fun W h => by rw [(aW W h).cell, ← hk]; rfl
  have c1 : ∀ W, GrS Z A W → W.cell? ⟨w.heap.size, 1, none⟩ = some (.int .u64 m.seq) := fun W h => by rw [(aW W h).cell]; rfl
  have c28 : ∀ W, GrS Z A W → W.cell? ⟨w.heap.size, 28, none⟩ = some (.int .u64 m.inc) := fun W h => (zbt (aW W h) 28 (zdT hl)) W (ze _)
  have lK : ∀ W, GrS Z A W → (ldS 69 (.pointer (some ⟨w.heap.size, 2, none⟩))).run Try.prog W = .ok (.agg (kc m.key).toArray) W := fun W h => zaN (aW W h) W (ze _)
  have lV : ∀ W, GrS Z A W → (ldS 72 (.pointer (some ⟨w.heap.size, 11, none⟩))).run Try.prog W = .ok (.agg (vc m.val).toArray) W := fun W h => zcG (aW W h) hl W (ze _)
  have oZ := ho.below fZ (Nat.le_refl _)
  have hBZ := Nat.le_trans hB fZ.size
  have GZ : GrS Z A Z := ⟨A, Grw.refl _ _⟩
  have hwk : IntKind.u8.wrap 3 = 3 := by decide
  have GD : GrS Z A Z.drew := ⟨A, Grw.of_fr A (zn (ze Z))⟩
  have gD : Grw Z A Z.drew A := Grw.of_fr A (zn (ze Z))
  have oD := oZ.below (zn (ze Z)) (Nat.le_refl _)
  have hBD := Nat.le_trans hBZ gD.size
  have Ho := zb ho
  have HB := zb hB
  have Hk := zb hk
  have Hl := zb hl
  have AW := zb aW
  clear ho hB hk hl aW oZ
  go_enter Try.func54, Try.ntmps54
  go_wp2_with fail
  refine wp_region_noPanic ?_
  refine wp_region_held_drew (S := fun w' => GrS Z A w') (by kernel_rfl) GD (fun hHeld => ?_)
  change wpAnyH _ _ _ _ _ _ _ _ _
  generalize Z.drew = X0 at *
  have gX := gD
  have GX := GD
  have oX := oD
  have hBX := hBD
  refine wpAnyH_take (i := 0) (v := ?_) rfl (by kernel_rfl) (by kernel_rfl) (by kernel_rfl) (fun _ _ _ h => h) (Or.inl ⟨by rfl, ?_⟩) (by assumption) ?_
  rotate_left
  · intro w' hSw
    try dsimp only at hSw
    go_simp
    try with_reducible rfl
  try simp only [List.getElem_toArray, List.getElem_cons_zero, Act.put, List.setIfInBounds_toArray, List.set_cons_zero, List.set_cons_succ]
  refine wpAnyH_take (i := 1) (v := ?_) rfl (by kernel_rfl) (by kernel_rfl) (by kernel_rfl) (fun _ _ _ h => h) (Or.inl ⟨by rfl, ?_⟩) (by assumption) ?_
  rotate_left
  · intro w' hSw
    try dsimp only at hSw
    go_simp
    try with_reducible rfl
  try simp only [List.getElem_toArray, List.getElem_cons_succ, List.getElem_cons_zero, Act.put, List.setIfInBounds_toArray, List.set_cons_zero, List.set_cons_succ]
  refine wpAnyH_take (i := 2) (v := ?_) rfl (by kernel_rfl) (by kernel_rfl) (by kernel_rfl) (fun _ _ _ h => h) (Or.inl ⟨by rfl, ?_⟩) (by assumption) ?_
  rotate_left
  · intro w' hSw
    try dsimp only at hSw
    go_simp
    try with_reducible rfl
  try simp only [List.getElem_toArray, List.getElem_cons_succ, List.getElem_cons_zero, Act.put, List.setIfInBounds_toArray, List.set_cons_zero, List.set_cons_succ]
  refine wpAnyH_take (i := 6) (v := ?_) rfl (by kernel_rfl) (by kernel_rfl) (by kernel_rfl) (fun _ _ _ h => h) (Or.inl ⟨by rfl, ?_⟩) (by assumption) ?_
  rotate_left
  · intro w' hSw
    try dsimp only at hSw
    go_simp
    try with_reducible rfl
  try simp only [List.getElem_toArray, List.getElem_cons_succ, List.getElem_cons_zero, Act.put, List.setIfInBounds_toArray, List.set_cons_zero, List.set_cons_succ]
  refine wpAnyH_take (i := 7) (v := ?_) rfl (by kernel_rfl) (by kernel_rfl) (by kernel_rfl) (fun _ _ _ h => h) (Or.inl ⟨by rfl, ?_⟩) (by assumption) ?_
  rotate_left
  · intro w' hSw
    try dsimp only at hSw
    go_simp
    try with_reducible rfl
  try simp only [List.getElem_toArray, List.getElem_cons_succ, List.getElem_cons_zero, Act.put, List.setIfInBounds_toArray, List.set_cons_zero, List.set_cons_succ]
  refine wpAnyH_ready (rs := [3]) (by kernel_rfl) (by simp) ?_
  refine AllReadyH.cons rfl (fun K hK0 => ?_) AllReadyH.nil
  go_simp
  refine hK0.out _ _ GX (fun _ => ?_)
  clear hK0 K
  try simp only [List.getElem_toArray, List.getElem_cons_succ, List.getElem_cons_zero, Act.put, List.setIfInBounds_toArray, List.set_cons_zero, List.set_cons_succ]
  refine wpAnyH_ready (rs := [4]) (by kernel_rfl) (by simp) ?_
  refine AllReadyH.cons rfl (fun K hK0 => ?_) AllReadyH.nil
  go_simp
  have gY := gX.fr (zf (ze X0) (.cells #[.int .u8 3] 5))
  have GY : GrS Z A _ := ⟨A, gY⟩
  refine hK0.out _ _ GY (fun _ => ?_)
  clear hK0 K
  try simp only [List.getElem_toArray, List.getElem_cons_succ, List.getElem_cons_zero, Act.put, List.setIfInBounds_toArray, List.set_cons_zero, List.set_cons_succ]
  refine wpAnyH_ready (rs := [5]) (by kernel_rfl) (by simp) ?_
  refine AllReadyH.cons rfl (fun K hK0 => ?_) AllReadyH.nil
  refine step_app_u8 rfl (.tmp 5) (.tmp 9) rfl rfl (oX.alloc _) rfl (ys := [3]) rfl (zev _ _ _) (by omega) (Nat.le_trans hBX (zf (ze X0) _).size) ?_
  intro A1 c1' w1 o1 g1 k1
  have G1 := gY.step g1 k1
  have S1 : GrS Z A w1 := ⟨A1, G1⟩
  have hB1 := Nat.le_trans hBZ G1.size
  refine hK0.out _ _ S1 (fun _ => ?_)
  clear hK0 K
  try simp only [List.getElem_toArray, List.getElem_cons_succ, List.getElem_cons_zero, Act.put, List.setIfInBounds_toArray, List.set_cons_zero, List.set_cons_succ]
  refine wpAnyH_ready (rs := [8]) (by kernel_rfl) (by simp) ?_
  refine AllReadyH.cons rfl (fun K hK0 => ?_) AllReadyH.nil
  go_simp
  refine (cput_at o1 hB1 (by omega) ws.1 8 rfl (by decide) (by decide)).mono ?_
  rintro e w2 ⟨A2, c2, N2, rfl, h2⟩
  have G2 := G1.trans h2.out.2.2
  have S2 : GrS Z A w2 := ⟨A2, G2⟩
  go_simp
  refine hK0.out _ _ S2 (fun _ => ?_)
  clear hK0 K
  try simp only [List.getElem_toArray, List.getElem_cons_succ, List.getElem_cons_zero, Act.put, List.setIfInBounds_toArray, List.set_cons_zero, List.set_cons_succ]
  refine wpAnyH_take (i := 9) (v := ?_) rfl (by kernel_rfl) (by kernel_rfl) (by kernel_rfl) (fun _ _ _ h => h) (Or.inl ⟨by rfl, ?_⟩) (by assumption) ?_
  rotate_left
  · intro w' hSw
    try dsimp only at hSw
    go_simp
    try with_reducible rfl
  try simp only [List.getElem_toArray, List.getElem_cons_succ, List.getElem_cons_zero, Act.put, List.setIfInBounds_toArray, List.set_cons_zero, List.set_cons_succ]
  refine wpAnyH_done (by kernel_rfl) ?_ _
  refine NoPanic.normal ?_
  have hB2 := Nat.le_trans hBZ G2.size
  have hN2 : N2 ≤ n + 9 := by have := h2.out.1; rw [zcP] at this; omega
  have l0 := c0 w2 S2
  have lk := lK w2 S2
  go_wp2_with fail
  refine (addKey_at h2.out.2.1 hB2 (by omega) ok').mono ?_
  rintro e w3 ⟨A3, c3, N3, rfl, h3⟩
  have G3 := G2.trans h3.out.2.2
  have S3 : GrS Z A w3 := ⟨A3, G3⟩
  have hB3 := Nat.le_trans hBZ G3.size
  have hk9 := kB_len ok'
  obtain ⟨mk, hmk, hmn, -⟩ := zi4 ok'
  have hN3 : N3 ≤ n + 18 := by have := h3.out.1; omega
  clear hk9 hmn
  have l0 := c0 w3 S3
  have lv := lV w3 S3
  have l28 := c28 w3 S3
  clear c0 c1 c28 lK lV
  go_wp2_with fail
  refine (cput_at h3.out.2.1 hB3 (by omega) wi.1 8 rfl (by decide) (by decide)).mono ?_
  rintro e w4 ⟨A4, c4, N4, rfl, h4⟩
  go_wp2_with fail
  go_ret
  exact ⟨A4, c4, N4, rfl, zb ⟨msg_sum (by unfold tB; rw [if_neg (by have := Hk.out; omega), if_pos Hk.out]) Hk.out h2.out.1 h3.out.1 h4.out.1, msg_own (by unfold tB; rw [if_neg (by have := Hk.out; omega), if_pos Hk.out]) Hk.out h4.out.2.1, (Grw.of_fr A fZ).trans (G3.trans h4.out.2.2)⟩⟩
theorem addMsg_at {w : World} {B n c : Nat} {A : Option Addr} {xs : List Int} (ho : Own w B 5 1 A n c (u8s xs)) (hB : B ≤ w.heap.size) (hn : n ≤ 4000) {m : RM} (wm : m.wf) (om : okM m = true) :
    Calls Try.prog 54 #[.slice A n c, mm m] w (AddR w B A n xs (mB m)) := by
  rcases okM_kind om with hk | hk | hk
  · exact addMsg_1 ho hB hn wm om hk
  · exact addMsg_2 ho hB hn wm om hk
  · exact addMsg_3 ho hB hn wm om hk
end Go.Proofs.Ytmjjjdikpnhpiaa
