/- Rows one behind the other; a kid more, by the program. -/
import Derived.Test.YtnfoebcfhldemaaFnA
namespace Go.Proofs.Ytnfoebcfhldemaa
set_option maxRecDepth 100000
open Go.RowKit
set_option linter.unusedVariables false
attribute [local go_sem ↓] key_ld msg_ld
theorem int_elem : Elem Try.prog 3 1 8 := Elem.of (z := .int .i64 0) (by kernel_rfl) (by kernel_rfl) (by kernel_rfl) rfl
theorem key_elem : Elem Try.prog 27 9 16 := Elem.of (z := kv zeroK) (by kernel_rfl) (by kernel_rfl) (by kernel_rfl) rfl
theorem ints_und : Try.prog.underlying 22 = some (.slice 3) := by kernel_rfl
theorem keys_und : Try.prog.underlying 29 = some (.slice 27) := by kernel_rfl
theorem ints_one (l : List Int) : One (ints l) := fun v hv => by
  obtain ⟨x, _, rfl⟩ := List.mem_map.1 hv
  rfl
theorem ints_len1 (l : List Int) : (ints l).length = l.length * 1 := by simp [ints]
theorem keys_one (l : List RK) : One (rows kc l) := flat_one l
theorem rowk_len (l : List RK) : (rows kc l).length = l.length * 9 := rows_len (kwid l)
section
variable {P : Program} {w : World} {t e size bytes B : Nat}
/-- 'append(s, x...)' of cells, s the call's own. -/
theorem wpList_append_vals {w0 : World} {ops : Array Oper} {rest : List Oper} {o : Oper} {a : Act} {Q : Exit → Act → World → Prop} (E : Elem P e size bytes) (ht : P.underlying t = some (.slice e)) (hsz : 0 < size) (hgd : o.guard = none) (s x : Operand)
    (hop : o.op = .call { callee := .builtin .append, args := #[s, x], argTypes := #[t, t] }) (h0 : Fr w0 w)
    (A : Option Addr) (n c1 : Nat) (xs : List Value) (hs : a.eval s = .slice A n c1) (ho : Own w w0.heap.size e size A n c1 xs)
    (C : Nat) (A2 : Option Addr) (m c2 : Nat) (news : List Value) (hx : a.eval x = .slice A2 m c2) (hl : news.length = m * size) (hn : Has w C A2 news) (h1 : One news)
    (h63 : n + m ≤ maxLen) (hbytes : (n + m) * bytes ≤ 140737488355328)
    (h : ∀ A' c' w', Own w' w0.heap.size e size A' (n + m) c' (xs ++ news) → Fr w0 w' → wpList P ops Q rest (a.put o.dst (.slice A' (n + m) c')) w') :
    wpList P ops Q (o :: rest) a w := by
  obtain ⟨i, z, hi, hz, hsize, hby, hzs⟩ := E.row
  refine wpList_append_has w hgd s x t hop w0.heap.size e i z size bytes ht hi hz hsize hby hzs hsz A n c1 xs hs ho C A2 m c2 news hx hl hn h1 h63 hbytes h0.size ?_
  intro A' c' w' h1 h2 h3
  exact h A' c' w' h1 (below_grown h0 ho h2 h0.size (Nat.le_refl _))
end
/-- A slice as a value, with the row that it has. -/
structure SI where
  A : Option Addr
  n : Nat
  c : Nat
  l : List Int
abbrev SI.v (s : SI) : Value := .slice s.A s.n s.c
structure SK where
  A : Option Addr
  n : Nat
  c : Nat
  l : List RK
abbrev SK.v (s : SK) : Value := .slice s.A s.n s.c
theorem map_get {α : Type} {f : α → Value} {l : List α} {j : Nat} {x : α} (h : l[j]? = some x) : (l.map f)[j]? = some (f x) := by rw [List.getElem?_map, h]; rfl
/-- The rows of slices, one behind the other. -/
def catSI (xs : List SI) : List Int := xs.flatMap (·.l)
theorem catSI_one {xs : List SI} {j : Nat} {s : SI} (h : xs[j]? = some s) : catSI (xs.take (j + 1)) = catSI (xs.take j) ++ s.l := by
  rw [take_one h]
  simp [catSI]
set_option maxHeartbeats 1000000 in
theorem joini_at {W0 w : World} {A : Option Addr} {m cc B : Nat} {xs : List SI} (hb : Has w B A (xs.map SI.v)) (hB : B ≤ w.heap.size) (hm : xs.length = m) (hm3 : m ≤ 8) (hx : ∀ s ∈ xs, Has w w.heap.size s.A (ints s.l) ∧ s.l.length = s.n ∧ s.n ≤ 100000) (h0 : Fr W0 w) :
    Calls Try.prog 66 #[.slice A m cc] w fun e w' => ∃ A' c', e = .returned (.slice A' (catSI xs).length c') ∧ Own w' w.heap.size 3 1 A' (catSI xs).length c' (ints (catSI xs)) ∧ Fr W0 w' := by
  have Hb := keep hb
  have Hm := keep hm
  have Hx := keep hx
  have H0 := keep h0
  have hww := fr_refl w
  clear hb hm hx h0
  go_enter Try.func66, Try.ntmps66
  go_wp2_with fail
  go_loopg [3, 8] m (fun g s3 s8 wr => ∃ (j : Nat) (D : Option Addr) (d k : Nat), j + g = m ∧ s8 = .int .i64 j ∧ s3 = .slice D k d ∧ k ≤ j * 100000 ∧ Hid (k = (catSI (xs.take j)).length) ∧ Hid (Own wr w.heap.size 3 1 D k d (ints (catSI (xs.take j)))) ∧ Hid (Fr w wr))
  case atStart => exact ⟨0, none, 0, 0, by omega, rfl, rfl, by omega, keep rfl, keep (Own.nil _ _ _ _), keep hww⟩
  case round =>
    obtain ⟨j, D, d, k, hj, rfl, rfl, hkj, hk, hO, hW⟩ := hrel
    by_cases hlt : j < m
    · have hs : xs[j]? = some (xs[j]'(by rw [Hm.out]; exact hlt)) := List.getElem?_eq_getElem _
      generalize xs[j]'(by rw [Hm.out]; exact hlt) = s at hs
      obtain ⟨b, off, rfl, hb1, hc⟩ := Hb.out j _ (map_get hs)
      obtain ⟨q1, q2, q3⟩ := Hx.out s (List.mem_of_getElem? hs)
      have hWW := hW.out
      have cell : wr.cell? ⟨b, off + j, none⟩ = some (.slice s.A s.n s.c) := (hWW.cell (by show b < w.heap.size; omega)).trans hc
      have hjz : (j : Int) < (m : Int) := by omega
      have Hstep := keep (catSI_one hs)
      have hh := keep (q1.fr (Nat.le_refl _) hWW)
      have hll : Hid ((ints s.l).length = s.n * 1) := keep (by rw [ints_len1, q2])
      have Hq2 := keep q2
      clear hs hc hlt q1 q2
      go_wp2_with (first
        | (refine wpList_append_vals (w0 := w) int_elem ints_und (by decide) rfl (.tmp 12) (.tmp 13) rfl hWW D k d (ints (catSI (xs.take j))) rfl hO.out w.heap.size s.A s.n s.c (ints s.l) rfl hll.out hh.out (ints_one _) (by unfold maxLen; omega) (by omega) ?_; intro D2 d2 w2 ho2 hf2)
        | fail)
      go_roundg (gk - 1)
      case measure => omega
      case rel => exact ⟨j + 1, D2, d2, k + s.n, by omega, rfl, rfl, by omega, by rw [Hstep.out, List.length_append, ← hk.out, Hq2.out]; exact keep rfl, by rw [Hstep.out, ints_app]; exact keep ho2, keep hf2⟩
    · have hjn : j = m := by omega
      have hjz : ¬ (j : Int) < (m : Int) := by omega
      have hall : xs.take j = xs := List.take_of_length_le (by rw [Hm.out]; omega)
      rw [hall] at hk hO
      clear hlt hjn hall
      go_wp2_with fail
      go_ret
      rw [← hk.out]
      exact ⟨D, d, rfl, hO.out, fr_step H0.out hW.out⟩
/-- The rows of slices, one behind the other. -/
def catSK (xs : List SK) : List RK := xs.flatMap (·.l)
theorem catSK_one {xs : List SK} {j : Nat} {s : SK} (h : xs[j]? = some s) : catSK (xs.take (j + 1)) = catSK (xs.take j) ++ s.l := by
  rw [take_one h]
  simp [catSK]
set_option maxHeartbeats 1000000 in
theorem joink_at {W0 w : World} {A : Option Addr} {m cc B : Nat} {xs : List SK} (hb : Has w B A (xs.map SK.v)) (hB : B ≤ w.heap.size) (hm : xs.length = m) (hm3 : m ≤ 8) (hx : ∀ s ∈ xs, Has w w.heap.size s.A (rows kc s.l) ∧ s.l.length = s.n ∧ s.n ≤ 100000) (h0 : Fr W0 w) :
    Calls Try.prog 67 #[.slice A m cc] w fun e w' => ∃ A' c', e = .returned (.slice A' (catSK xs).length c') ∧ Own w' w.heap.size 27 9 A' (catSK xs).length c' (rows kc (catSK xs)) ∧ Fr W0 w' := by
  have Hb := keep hb
  have Hm := keep hm
  have Hx := keep hx
  have H0 := keep h0
  have hww := fr_refl w
  clear hb hm hx h0
  go_enter Try.func67, Try.ntmps67
  go_wp2_with fail
  go_loopg [3, 8] m (fun g s3 s8 wr => ∃ (j : Nat) (D : Option Addr) (d k : Nat), j + g = m ∧ s8 = .int .i64 j ∧ s3 = .slice D k d ∧ k ≤ j * 100000 ∧ Hid (k = (catSK (xs.take j)).length) ∧ Hid (Own wr w.heap.size 27 9 D k d (rows kc (catSK (xs.take j)))) ∧ Hid (Fr w wr))
  case atStart => exact ⟨0, none, 0, 0, by omega, rfl, rfl, by omega, keep rfl, keep (Own.nil _ _ _ _), keep hww⟩
  case round =>
    obtain ⟨j, D, d, k, hj, rfl, rfl, hkj, hk, hO, hW⟩ := hrel
    by_cases hlt : j < m
    · have hs : xs[j]? = some (xs[j]'(by rw [Hm.out]; exact hlt)) := List.getElem?_eq_getElem _
      generalize xs[j]'(by rw [Hm.out]; exact hlt) = s at hs
      obtain ⟨b, off, rfl, hb1, hc⟩ := Hb.out j _ (map_get hs)
      obtain ⟨q1, q2, q3⟩ := Hx.out s (List.mem_of_getElem? hs)
      have hWW := hW.out
      have cell : wr.cell? ⟨b, off + j, none⟩ = some (.slice s.A s.n s.c) := (hWW.cell (by show b < w.heap.size; omega)).trans hc
      have hjz : (j : Int) < (m : Int) := by omega
      have Hstep := keep (catSK_one hs)
      have hh := keep (q1.fr (Nat.le_refl _) hWW)
      have hll : Hid ((rows kc s.l).length = s.n * 9) := keep (by rw [rowk_len, q2])
      have Hq2 := keep q2
      clear hs hc hlt q1 q2
      go_wp2_with (first
        | (refine wpList_append_vals (w0 := w) key_elem keys_und (by decide) rfl (.tmp 12) (.tmp 13) rfl hWW D k d (rows kc (catSK (xs.take j))) rfl hO.out w.heap.size s.A s.n s.c (rows kc s.l) rfl hll.out hh.out (keys_one _) (by unfold maxLen; omega) (by omega) ?_; intro D2 d2 w2 ho2 hf2)
        | fail)
      go_roundg (gk - 1)
      case measure => omega
      case rel => exact ⟨j + 1, D2, d2, k + s.n, by omega, rfl, rfl, by omega, by rw [Hstep.out, List.length_append, ← hk.out, Hq2.out]; exact keep rfl, by rw [Hstep.out, rows_append]; exact keep ho2, keep hf2⟩
    · have hjn : j = m := by omega
      have hjz : ¬ (j : Int) < (m : Int) := by omega
      have hall : xs.take j = xs := List.take_of_length_le (by rw [Hm.out]; omega)
      rw [hall] at hk hO
      clear hlt hjn hall
      go_wp2_with fail
      go_ret
      rw [← hk.out]
      exact ⟨D, d, rfl, hO.out, fr_step H0.out hW.out⟩
end Go.Proofs.Ytnfoebcfhldemaa
/- A kid more, by the program and by the document. -/
namespace Go.Proofs.Ytnfoebcfhldemaa
set_option maxRecDepth 100000
open Go.RowKit
set_option linter.unusedVariables false
attribute [local go_sem ↓] key_ld msg_ld
theorem alloc_named (w : World) (cs : List Value) (T : TypeId) : ∃ Z, w.alloc (.cells cs.toArray T) = Z ∧ Fr w Z ∧ Arr Z w.heap.size T cs.toArray := ⟨_, rfl, fr_new (fr_refl w) _, Arr.new _ _ _⟩
theorem wpAnyH_world {P : Program} {ops : Array Oper} {Q : Exit → Act → World → Prop} {md : Region.Mode} {S : World → Prop} {fuel : Nat} {listed : Array Bool} {a : Act} {w w' : World} (e : w = w') (h : wpAnyH P md ops Q S fuel listed a w') : wpAnyH P md ops Q S fuel listed a w := e ▸ h
theorem Has.step {w W : World} {A : Option Addr} {xs : List Value} (h : Has w w.heap.size A xs) (f : Fr w W) : Has W W.heap.size A xs := (h.fr (Nat.le_refl _) f).mono f.size
theorem has_blk {W : World} {g T : Nat} {cs : List Value} (h : Arr W g T cs.toArray) : Has W W.heap.size (some ⟨g, 0, none⟩) cs := (arr_has _ h).mono h.lt
def lowI (A : Option Addr) (cap t : Nat) : Option Addr := if cap = t then A else A.map (·.add t)
theorem ints_slice_lo (A : Option Addr) (n c t : Nat) (ht : t ≤ n) (hc : n ≤ c) (W : World) : (Instr.slice 22 (.slice A n c) (some (.int .i64 (t : Int))) none none).run Try.prog W = .ok (.slice (lowI A c t) (n - t) (c - t)) W := by
  rw [run_slice_l (P := Try.prog) (w := W) (t := 22) (ht := ints_under) A n c .i64 (t : Int) (by omega) (by omega), ints_size_elem]
  simp only [Result.andThen, sliced, Int.toNat_natCast, lowI, Nat.mul_one]
theorem ints_sliceAt_hi (A : Option Addr) (n c t : Nat) (ht : t ≤ n) (hc : n ≤ c) (W : World) : (Instr.sliceAt 22 (.slice A n c) none (some (.int .i64 (t : Int))) none).run Try.prog W = .ok (.slice A t c) W := by
  rw [run_sliceAt_slice (P := Try.prog) (w := W) (h := ints_under), ints_slice_hi A n c t ht hc]
theorem ints_sliceAt_lo (A : Option Addr) (n c t : Nat) (ht : t ≤ n) (hc : n ≤ c) (W : World) : (Instr.sliceAt 22 (.slice A n c) (some (.int .i64 (t : Int))) none none).run Try.prog W = .ok (.slice (lowI A c t) (n - t) (c - t)) W := by
  rw [run_sliceAt_slice (P := Try.prog) (w := W) (h := ints_under), ints_slice_lo A n c t ht hc]
theorem has_ilow {W : World} {B : Nat} {A : Option Addr} {os : List Int} {c t : Nat} (h : Has W B A (ints os)) (ht : t ≤ os.length) (hc : os.length ≤ c) : Has W B (lowI A c t) (ints (os.drop t)) := by
  by_cases he : os.drop t = []
  · rw [he]; exact Has.nil
  · have hlt : t < os.length := by
      rcases Nat.lt_or_ge t os.length with h1 | h1
      · exact h1
      · exact absurd (List.drop_eq_nil_of_le h1) he
    obtain ⟨b, off, rfl, hb, hc2⟩ := h.form (fun e => by have := ints_len os; rw [e] at this; simp at this; omega)
    unfold lowI
    rw [if_neg (by omega), ints_drop]
    have h2 := Has.drop h t
    simpa [Addr.add_lit] using h2
theorem slice_val {A A' : Option Addr} {n c : Nat} (h : A = A') : Value.slice A n c = Value.slice A' n c := by rw [h]
def insI (ks : List Int) (i id : Int) : List Int := if 0 ≤ i ∧ i < ks.length then ks.take (i.toNat + 1) ++ id :: ks.drop (i.toNat + 1) else ks
def insV (n : Nat) (ps : List RK) (i : Int) (x : RK) : List RK := if 0 ≤ i ∧ i < n then ps.take i.toNat ++ x :: ps.drop i.toNat else ps
theorem insI_no {ks : List Int} {i id : Int} (h : i < 0 ∨ (ks.length : Int) ≤ i) : insI ks i id = ks := by unfold insI; rw [if_neg (by omega)]
theorem insV_no {n : Nat} {ps : List RK} {i : Int} {x : RK} (h : i < 0 ∨ (n : Int) ≤ i) : insV n ps i x = ps := by unfold insV; rw [if_neg (by omega)]
theorem insI_yes {ks : List Int} {q : Nat} {id : Int} (h : q < ks.length) : insI ks (q : Int) id = ks.take (q + 1) ++ id :: ks.drop (q + 1) := by unfold insI; rw [if_pos (by omega)]; rfl
theorem insV_yes {n : Nat} {ps : List RK} {q : Nat} {x : RK} (h : q < n) : insV n ps (q : Int) x = ps.take q ++ x :: ps.drop q := by unfold insV; rw [if_pos (by omega)]; rfl
theorem insI_len (ks : List Int) (i id : Int) : (insI ks i id).length ≤ ks.length + 1 := by
  unfold insI
  split
  · simp; omega
  · omega
theorem insV_len (n : Nat) (ps : List RK) (i : Int) (x : RK) : (insV n ps i x).length ≤ ps.length + 1 := by
  unfold insV
  split
  · simp; omega
  · omega
abbrev OwnI (w : World) (B : Nat) (A : Option Addr) (c : Nat) (l : List Int) : Prop := Own w B 3 1 A l.length c (ints l)
abbrev OwnK (w : World) (B : Nat) (A : Option Addr) (c : Nat) (l : List RK) : Prop := Own w B 27 9 A l.length c (rows kc l)
def InsOut (W0 : World) (a : List Int) (b : List RK) (e : Ending) (w' : World) : Prop := ∃ A3 c3 A4 c4, e = .returned (.tuple #[.slice A3 a.length c3, .slice A4 b.length c4]) ∧ Hid (OwnI w' 0 A3 c3 a) ∧ Hid (OwnK w' 0 A4 c4 b) ∧ Fr W0 w'
theorem cat1I (A : Option Addr) (n c : Nat) (l : List Int) : catSI [⟨A, n, c, l⟩] = l := by simp [catSI]
theorem cat1K (A : Option Addr) (n c : Nat) (l : List RK) : catSK [⟨A, n, c, l⟩] = l := by simp [catSK]
theorem joini1 {W0 w : World} {A : Option Addr} {n c g T : Nat} {l : List Int} (hb : Has w w.heap.size (some ⟨g, 0, none⟩) [.slice A n c]) (hl : Has w w.heap.size A (ints l)) (hn : l.length = n) (hs : n ≤ 100000) (h0 : Fr W0 w) :
    Calls Try.prog 66 #[.slice (some ⟨g, 0, none⟩) 1 1] w fun e w' => ∃ A' c', e = .returned (.slice A' n c') ∧ Hid (Own w' 0 3 1 A' n c' (ints l)) ∧ Fr W0 w' :=
  (joini_at (cc := 1) (xs := [⟨A, n, c, l⟩]) hb (Nat.le_refl _) rfl (by simp) (fun s hs' => by simp at hs'; subst hs'; exact ⟨hl, hn, hs⟩) h0).mono fun e w' h => by
    obtain ⟨A', c', e1, h1, h2⟩ := h
    rw [cat1I, hn] at e1 h1
    exact ⟨A', c', e1, keep (h1.mono (Nat.zero_le _)), h2⟩
theorem joink1 {W0 w : World} {A : Option Addr} {n c g T : Nat} {l : List RK} (hb : Has w w.heap.size (some ⟨g, 0, none⟩) [.slice A n c]) (hl : Has w w.heap.size A (rows kc l)) (hn : l.length = n) (hs : n ≤ 100000) (h0 : Fr W0 w) :
    Calls Try.prog 67 #[.slice (some ⟨g, 0, none⟩) 1 1] w fun e w' => ∃ A' c', e = .returned (.slice A' n c') ∧ Hid (Own w' 0 27 9 A' n c' (rows kc l)) ∧ Fr W0 w' :=
  (joink_at (cc := 1) (xs := [⟨A, n, c, l⟩]) hb (Nat.le_refl _) rfl (by simp) (fun s hs' => by simp at hs'; subst hs'; exact ⟨hl, hn, hs⟩) h0).mono fun e w' h => by
    obtain ⟨A', c', e1, h1, h2⟩ := h
    rw [cat1K, hn] at e1 h1
    exact ⟨A', c', e1, keep (h1.mono (Nat.zero_le _)), h2⟩
theorem joini3 {W0 w : World} {A1 A2 A3 : Option Addr} {n1 c1 n2 c2 n3 c3 g n : Nat} {l1 l2 l3 l : List Int} (hb : Has w w.heap.size (some ⟨g, 0, none⟩) [.slice A1 n1 c1, .slice A2 n2 c2, .slice A3 n3 c3]) (h1 : Has w w.heap.size A1 (ints l1)) (h2 : Has w w.heap.size A2 (ints l2)) (h3 : Has w w.heap.size A3 (ints l3)) (e1 : l1.length = n1) (e2 : l2.length = n2) (e3 : l3.length = n3) (hs : n1 ≤ 100000 ∧ n2 ≤ 100000 ∧ n3 ≤ 100000) (hl : l1 ++ (l2 ++ l3) = l) (hn : l.length = n) (h0 : Fr W0 w) :
    Calls Try.prog 66 #[.slice (some ⟨g, 0, none⟩) 3 3] w fun e w' => ∃ A' c', e = .returned (.slice A' n c') ∧ Hid (Own w' 0 3 1 A' n c' (ints l)) ∧ Fr W0 w' :=
  (joini_at (cc := 3) (xs := [⟨A1, n1, c1, l1⟩, ⟨A2, n2, c2, l2⟩, ⟨A3, n3, c3, l3⟩]) hb (Nat.le_refl _) rfl (by simp) (fun s hs' => by
    simp at hs'
    rcases hs' with rfl | rfl | rfl
    · exact ⟨h1, e1, hs.1⟩
    · exact ⟨h2, e2, hs.2.1⟩
    · exact ⟨h3, e3, hs.2.2⟩) h0).mono fun e w' h => by
    obtain ⟨A', c', q1, q2, q3⟩ := h
    have hc : catSI [⟨A1, n1, c1, l1⟩, ⟨A2, n2, c2, l2⟩, ⟨A3, n3, c3, l3⟩] = l := by rw [← hl]; simp [catSI]
    rw [hc, hn] at q1 q2
    exact ⟨A', c', q1, keep (q2.mono (Nat.zero_le _)), q3⟩
theorem joink3 {W0 w : World} {A1 A2 A3 : Option Addr} {n1 c1 n2 c2 n3 c3 g n : Nat} {l1 l2 l3 l : List RK} (hb : Has w w.heap.size (some ⟨g, 0, none⟩) [.slice A1 n1 c1, .slice A2 n2 c2, .slice A3 n3 c3]) (h1 : Has w w.heap.size A1 (rows kc l1)) (h2 : Has w w.heap.size A2 (rows kc l2)) (h3 : Has w w.heap.size A3 (rows kc l3)) (e1 : l1.length = n1) (e2 : l2.length = n2) (e3 : l3.length = n3) (hs : n1 ≤ 100000 ∧ n2 ≤ 100000 ∧ n3 ≤ 100000) (hl : l1 ++ (l2 ++ l3) = l) (hn : l.length = n) (h0 : Fr W0 w) :
    Calls Try.prog 67 #[.slice (some ⟨g, 0, none⟩) 3 3] w fun e w' => ∃ A' c', e = .returned (.slice A' n c') ∧ Hid (Own w' 0 27 9 A' n c' (rows kc l)) ∧ Fr W0 w' :=
  (joink_at (cc := 3) (xs := [⟨A1, n1, c1, l1⟩, ⟨A2, n2, c2, l2⟩, ⟨A3, n3, c3, l3⟩]) hb (Nat.le_refl _) rfl (by simp) (fun s hs' => by
    simp at hs'
    rcases hs' with rfl | rfl | rfl
    · exact ⟨h1, e1, hs.1⟩
    · exact ⟨h2, e2, hs.2.1⟩
    · exact ⟨h3, e3, hs.2.2⟩) h0).mono fun e w' h => by
    obtain ⟨A', c', q1, q2, q3⟩ := h
    have hc : catSK [⟨A1, n1, c1, l1⟩, ⟨A2, n2, c2, l2⟩, ⟨A3, n3, c3, l3⟩] = l := by rw [← hl]; simp [catSK]
    rw [hc, hn] at q1 q2
    exact ⟨A', c', q1, keep (q2.mono (Nat.zero_le _)), q3⟩
set_option maxHeartbeats 4000000 in
theorem finsert_at {W0 w : World} {A A2 : Option Addr} {n c B n2 c2 B2 : Nat} {ks : List Int} {ps : List RK} {x : RK} {i id : Int} (hk : Has w B A (ints ks)) (hB : B ≤ w.heap.size) (hn : ks.length = n) (hc : n ≤ c) (hsm : n ≤ 10000) (hp : Has w B2 A2 (rows kc ps)) (hB2 : B2 ≤ w.heap.size) (hn2 : ps.length = n2) (hc2 : n2 ≤ c2) (hlen : n2 + 1 = n) (hi : Is64 i) (h0 : Fr W0 w) :
    Calls Try.prog 34 #[.slice A n c, .slice A2 n2 c2, .int .i64 i, kv x, .int .i64 id] w (InsOut W0 (insI ks i id) (insV n ps i x)) := by
  obtain ⟨Z, hZ, hF, hZZ, lk⟩ := key_boxed1 w x
  have hkZ := (hk.fr hB hF).mono (Nat.le_trans hB hF.size)
  have hpZ := (hp.fr hB2 hF).mono (Nat.le_trans hB2 hF.size)
  have HF := keep (fr_step h0 hF)
  have Hn := keep hn
  have Hn2 := keep hn2
  have Hlen := keep hlen
  clear hk hp hF h0 hn hn2 hB hB2 hlen
  unfold InsOut
  by_cases hneg : i < 0
  · have HI : Hid (insI ks i id = ks) := keep (insI_no (.inl hneg))
    have HV : Hid (insV n ps i x = ps) := keep (insV_no (.inl hneg))
    go_enter Try.func34, Try.ntmps34
    have tok : Hid (0 < 1) := keep (by decide)
    go_wp2_with (first
      | (go_at_call 66; (with_reducible refine (joini1 (T := 0) (has_blk (Arr.new Z [.slice A n c].toArray 22)) (hkZ.step (fr_new hZZ _)) Hn.out (by omega) (fr_new hZZ _)).mono ?_); rintro e w1 ⟨A3, c3, rfl, o1, h1⟩; have hp1 := hpZ.step h1)
      | (go_at_call 67; (with_reducible refine (joink1 (T := 0) (has_blk (Arr.new w1 [.slice A2 n2 c2].toArray 29)) (hp1.step (fr_new (fr_refl w1) _)) Hn2.out (by have := Hlen.out; omega) (fr_new (fr_refl w1) _)).mono ?_); rintro e w2 ⟨A4, c4, rfl, o2, h2⟩)
      | fail)
    go_ret2
    rw [HI.out, HV.out]
    exact ⟨A3, c3, A4, c4, by simp [Hn.out, Hn2.out], by have := o1.out.below h2 (Nat.le_refl _); rw [← Hn.out] at this; exact keep this, by rw [← Hn2.out] at o2; exact o2, fr_step HF.out (fr_step h1 h2)⟩
  by_cases hge : (n : Int) ≤ i
  · have HI : Hid (insI ks i id = ks) := keep (insI_no (.inr (by rw [Hn.out]; exact hge)))
    have HV : Hid (insV n ps i x = ps) := keep (insV_no (.inr hge))
    go_enter Try.func34, Try.ntmps34
    have tok : Hid (0 < 1) := keep (by decide)
    go_wp2_with (first
      | (go_at_call 66; (with_reducible refine (joini1 (T := 0) (has_blk (Arr.new Z [.slice A n c].toArray 22)) (hkZ.step (fr_new hZZ _)) Hn.out (by omega) (fr_new hZZ _)).mono ?_); rintro e w1 ⟨A3, c3, rfl, o1, h1⟩; have hp1 := hpZ.step h1)
      | (go_at_call 67; (with_reducible refine (joink1 (T := 0) (has_blk (Arr.new w1 [.slice A2 n2 c2].toArray 29)) (hp1.step (fr_new (fr_refl w1) _)) Hn2.out (by have := Hlen.out; omega) (fr_new (fr_refl w1) _)).mono ?_); rintro e w2 ⟨A4, c4, rfl, o2, h2⟩)
      | fail)
    go_ret2
    rw [HI.out, HV.out]
    exact ⟨A3, c3, A4, c4, by simp [Hn.out, Hn2.out], by have := o1.out.below h2 (Nat.le_refl _); rw [← Hn.out] at this; exact keep this, by rw [← Hn2.out] at o2; exact o2, fr_step HF.out (fr_step h1 h2)⟩
  · obtain ⟨q, rfl⟩ : ∃ q : Nat, i = q := ⟨i.toNat, by omega⟩
    have hq : q < n := by omega
    have hmin : min (q : Int) (n2 : Int) = (q : Int) := by have := Hlen.out; omega
    obtain ⟨p, hpq⟩ : ∃ p, p = q + 1 := ⟨_, rfl⟩
    have hw : IntKind.i64.wrap ((q : Int) + 1) = (p : Int) := by rw [IntKind.wrap_i64]; omega
    have hw2 : (q : Int) + 1 = (p : Int) := by omega
    have hpn : p ≤ n := by omega
    have hqn : q ≤ n2 := by have := Hlen.out; omega
    have HeI : Hid (ks.take p ++ ([id] ++ ks.drop p) = insI ks q id) := keep (by rw [insI_yes (by rw [Hn.out]; exact hq), hpq]; rfl)
    have HeV : Hid (ps.take q ++ ([x] ++ ps.drop q) = insV n ps q x) := keep (by rw [insV_yes hq]; rfl)
    have HnI : Hid ((insI ks q id).length = n + 1) := keep (by rw [← HeI.out]; simp; have := Hn.out; omega)
    have HnV : Hid ((insV n ps q x).length = n2 + 1) := keep (by rw [← HeV.out]; simp; have := Hn2.out; omega)
    have Hl1 : Hid ((ks.take p).length = p) := keep (by rw [List.length_take, Hn.out]; omega)
    have Hl3 : Hid ((ks.drop p).length = n - p) := keep (by rw [List.length_drop, Hn.out])
    have Hm1 : Hid ((ps.take q).length = q) := keep (by rw [List.length_take, Hn2.out]; omega)
    have Hm3 : Hid ((ps.drop q).length = n2 - q) := keep (by rw [List.length_drop, Hn2.out])
    have q1 := ints_slice_hi A n c p hpn hc
    have q2 := ints_slice_lo A n c p hpn hc
    have q3 := ints_sliceAt_hi A n c p hpn hc
    have q4 := ints_sliceAt_lo A n c p hpn hc
    have q5 := key_slice_hi A2 n2 c2 q hqn hc2
    have q6 := key_slice_lo A2 n2 c2 q hqn hc2
    have q7 := key_sliceAt_hi A2 n2 c2 q hqn hc2
    have q8 := key_sliceAt_lo A2 n2 c2 q hqn hc2
    have r1 := has_take_ints hkZ p
    have r3 := has_ilow (c := c) hkZ (t := p) (by rw [Hn.out]; exact hpn) (by rw [Hn.out]; exact hc)
    have k1 : Has Z Z.heap.size A2 (rows kc (ps.take q)) := has_hi hpZ q
    have k3 : Has Z Z.heap.size (lowA A2 c2 q) (rows kc (ps.drop q)) := has_klow (c := c2) hpZ (t := q) (by rw [Hn2.out]; exact hqn) (by rw [Hn2.out]; exact hc2)
    have hrD := fr_drew hZZ
    clear hkZ hpZ hpq hneg hge hw2
    go_enter Try.func34, Try.ntmps34
    go_wp2_with fail
    refine wp_region_noPanic ?_
    refine wp_region_held_drew (S := fun w' => Fr Z w') (by kernel_rfl) hrD (fun hHeld => ?_)
    change wpAnyH _ _ _ _ _ _ _ _ _
    clear hHeld
    generalize Z.drew = X0 at *
    replace r1 := r1.step hrD
    replace r3 := r3.step hrD
    replace k1 := k1.step hrD
    replace k3 := k3.step hrD
    refine wpAnyH_take (i := 0) (v := ?_) rfl (by kernel_rfl) (by kernel_rfl) (by kernel_rfl) (fun _ _ _ h => h) (Or.inl ⟨by rfl, ?_⟩) (by assumption) ?_
    rotate_left
    · intro w' hSw
      try dsimp only at hSw
      go_simp
      try with_reducible rfl
    try simp only [List.getElem_toArray, List.getElem_cons_zero, Act.put, List.setIfInBounds_toArray, List.set_cons_zero, List.set_cons_succ]
    refine wpAnyH_take (i := 1) (v := ?_) rfl (by kernel_rfl) (by kernel_rfl) (by kernel_rfl) (fun _ _ _ h => h) (Or.inl ⟨by rfl, ?_⟩) (by assumption) ?_
    rotate_left
    · intro w' hSw
      try dsimp only at hSw
      go_simp
      try with_reducible rfl
    try simp only [List.getElem_toArray, List.getElem_cons_succ, List.getElem_cons_zero, Act.put, List.setIfInBounds_toArray, List.set_cons_zero, List.set_cons_succ]
    refine wpAnyH_take (i := 2) (v := ?_) rfl (by kernel_rfl) (by kernel_rfl) (by kernel_rfl) (fun _ _ _ h => h) (Or.inl ⟨by rfl, ?_⟩) (by assumption) ?_
    rotate_left
    · intro w' hSw
      try dsimp only at hSw
      go_simp
      try with_reducible rfl
    try simp only [List.getElem_toArray, List.getElem_cons_succ, List.getElem_cons_zero, Act.put, List.setIfInBounds_toArray, List.set_cons_zero, List.set_cons_succ]
    refine wpAnyH_take (i := 3) (v := ?_) rfl (by kernel_rfl) (by kernel_rfl) (by kernel_rfl) (fun _ _ _ h => h) (Or.inl ⟨by rfl, ?_⟩) (by assumption) ?_
    rotate_left
    · intro w' hSw
      try dsimp only at hSw
      go_simp
      try with_reducible rfl
    try simp only [List.getElem_toArray, List.getElem_cons_succ, List.getElem_cons_zero, Act.put, List.setIfInBounds_toArray, List.set_cons_zero, List.set_cons_succ]
    refine wpAnyH_take (i := 4) (v := ?_) rfl (by kernel_rfl) (by kernel_rfl) (by kernel_rfl) (fun _ _ _ h => h) (Or.inl ⟨by rfl, ?_⟩) (by assumption) ?_
    rotate_left
    · intro w' hSw
      try dsimp only at hSw
      go_simp
      try with_reducible rfl
    try simp only [List.getElem_toArray, List.getElem_cons_succ, List.getElem_cons_zero, Act.put, List.setIfInBounds_toArray, List.set_cons_zero, List.set_cons_succ]
    refine wpAnyH_take (i := 6) (v := ?_) rfl (by kernel_rfl) (by kernel_rfl) (by kernel_rfl) (fun _ _ _ h => h) (Or.inl ⟨by rfl, ?_⟩) (by assumption) ?_
    rotate_left
    · intro w' hSw
      try dsimp only at hSw
      go_simp
      try with_reducible rfl
    try simp only [List.getElem_toArray, List.getElem_cons_succ, List.getElem_cons_zero, Act.put, List.setIfInBounds_toArray, List.set_cons_zero, List.set_cons_succ]
    refine wpAnyH_take (i := 7) (v := ?_) rfl (by kernel_rfl) (by kernel_rfl) (by kernel_rfl) (fun _ _ _ h => h) (Or.inl ⟨by rfl, ?_⟩) (by assumption) ?_
    rotate_left
    · intro w' hSw
      try dsimp only at hSw
      go_simp
      try with_reducible rfl
    try simp only [List.getElem_toArray, List.getElem_cons_succ, List.getElem_cons_zero, Act.put, List.setIfInBounds_toArray, List.set_cons_zero, List.set_cons_succ]
    refine wpAnyH_take (i := 8) (v := ?_) rfl (by kernel_rfl) (by kernel_rfl) (by kernel_rfl) (fun _ _ _ h => h) (Or.inl ⟨by rfl, ?_⟩) (by assumption) ?_
    rotate_left
    · intro w' hSw
      try dsimp only at hSw
      go_simp
      try with_reducible rfl
    try simp only [List.getElem_toArray, List.getElem_cons_succ, List.getElem_cons_zero, Act.put, List.setIfInBounds_toArray, List.set_cons_zero, List.set_cons_succ]
    refine wpAnyH_take (i := 9) (v := ?_) rfl (by kernel_rfl) (by kernel_rfl) (by kernel_rfl) (fun _ _ _ h => h) (Or.inl ⟨by rfl, ?_⟩) (by assumption) ?_
    rotate_left
    · intro w' hSw
      try dsimp only at hSw
      go_simp
      try with_reducible rfl
    try simp only [List.getElem_toArray, List.getElem_cons_succ, List.getElem_cons_zero, Act.put, List.setIfInBounds_toArray, List.set_cons_zero, List.set_cons_succ]
    refine wpAnyH_take (i := 12) (v := ?_) rfl (by kernel_rfl) (by kernel_rfl) (by kernel_rfl) (fun _ _ _ h => h) (Or.inl ⟨by rfl, ?_⟩) (by assumption) ?_
    rotate_left
    · intro w' hSw
      try dsimp only at hSw
      go_simp
      try with_reducible rfl
    try simp only [List.getElem_toArray, List.getElem_cons_succ, List.getElem_cons_zero, Act.put, List.setIfInBounds_toArray, List.set_cons_zero, List.set_cons_succ]
    refine wpAnyH_take (i := 13) (v := ?_) rfl (by kernel_rfl) (by kernel_rfl) (by kernel_rfl) (fun _ _ _ h => h) (Or.inl ⟨by rfl, ?_⟩) (by assumption) ?_
    rotate_left
    · intro w' hSw
      try dsimp only at hSw
      go_simp
      try with_reducible rfl
    try simp only [List.getElem_toArray, List.getElem_cons_succ, List.getElem_cons_zero, Act.put, List.setIfInBounds_toArray, List.set_cons_zero, List.set_cons_succ]
    refine wpAnyH_take (i := 14) (v := ?_) rfl (by kernel_rfl) (by kernel_rfl) (by kernel_rfl) (fun _ _ _ h => h) (Or.inl ⟨by rfl, ?_⟩) (by assumption) ?_
    rotate_left
    · intro w' hSw
      try dsimp only at hSw
      go_simp
      try with_reducible rfl
    try simp only [List.getElem_toArray, List.getElem_cons_succ, List.getElem_cons_zero, Act.put, List.setIfInBounds_toArray, List.set_cons_zero, List.set_cons_succ]
    refine wpAnyH_take (i := 15) (v := ?_) rfl (by kernel_rfl) (by kernel_rfl) (by kernel_rfl) (fun _ _ _ h => h) (Or.inl ⟨by rfl, ?_⟩) (by assumption) ?_
    rotate_left
    · intro w' hSw
      try dsimp only at hSw
      go_simp
      try with_reducible rfl
    try simp only [List.getElem_toArray, List.getElem_cons_succ, List.getElem_cons_zero, Act.put, List.setIfInBounds_toArray, List.set_cons_zero, List.set_cons_succ]
    refine wpAnyH_take (i := 17) (v := ?_) rfl (by kernel_rfl) (by kernel_rfl) (by kernel_rfl) (fun _ _ _ h => h) (Or.inl ⟨by rfl, ?_⟩) (by assumption) ?_
    rotate_left
    · intro w' hSw
      try dsimp only at hSw
      go_simp
      try with_reducible rfl
    try simp only [List.getElem_toArray, List.getElem_cons_succ, List.getElem_cons_zero, Act.put, List.setIfInBounds_toArray, List.set_cons_zero, List.set_cons_succ]
    refine wpAnyH_take (i := 18) (v := ?_) rfl (by kernel_rfl) (by kernel_rfl) (by kernel_rfl) (fun _ _ _ h => h) (Or.inl ⟨by rfl, ?_⟩) (by assumption) ?_
    rotate_left
    · intro w' hSw
      try dsimp only at hSw
      go_simp
      try with_reducible rfl
    try simp only [List.getElem_toArray, List.getElem_cons_succ, List.getElem_cons_zero, Act.put, List.setIfInBounds_toArray, List.set_cons_zero, List.set_cons_succ]
    refine wpAnyH_take (i := 19) (v := ?_) rfl (by kernel_rfl) (by kernel_rfl) (by kernel_rfl) (fun _ _ _ h => h) (Or.inl ⟨by rfl, ?_⟩) (by assumption) ?_
    rotate_left
    · intro w' hSw
      try dsimp only at hSw
      go_simp
      try with_reducible rfl
    try simp only [List.getElem_toArray, List.getElem_cons_succ, List.getElem_cons_zero, Act.put, List.setIfInBounds_toArray, List.set_cons_zero, List.set_cons_succ]
    refine wpAnyH_ready (rs := [5, 16]) (by kernel_rfl) (by simp) ?_
    refine AllReadyH.cons rfl (fun K hK0 => ?_) (AllReadyH.cons rfl (fun K hK0 => ?_) (AllReadyH.nil))
    · go_simp
      obtain ⟨Y1, eY1, sY1, aY1⟩ := alloc_named X0 ([.int .i64 id]) 3
      refine hK0.out _ _ (fr_new hrD _) (fun _ => ?_)
      refine wpAnyH_world eY1 ?_
      clear eY1
      have fY1 : Fr Z Y1 := fr_step hrD sY1
      replace r1 := r1.step sY1
      replace r3 := r3.step sY1
      replace k1 := k1.step sY1
      replace k3 := k3.step sY1
      have r36 := has_blk aY1
      clear aY1 sY1
      clear hK0 K
      try simp only [List.getElem_toArray, List.getElem_cons_succ, List.getElem_cons_zero, Act.put, List.setIfInBounds_toArray, List.set_cons_zero, List.set_cons_succ]
      refine wpAnyH_ready (rs := [10, 16]) (by kernel_rfl) (by simp) ?_
      refine AllReadyH.cons rfl (fun K hK0 => ?_) (AllReadyH.cons rfl (fun K hK0 => ?_) (AllReadyH.nil))
      · go_simp
        obtain ⟨Y2, eY2, sY2, aY2⟩ := alloc_named Y1 ([.slice A p c, .slice (some ⟨X0.heap.size, 0, none⟩) 1 1, .slice (lowI A c p) (n - p) (c - p)]) 22
        refine hK0.out _ _ (fr_new fY1 _) (fun _ => ?_)
        refine wpAnyH_world eY2 ?_
        clear eY2
        have fY2 : Fr Z Y2 := fr_step fY1 sY2
        replace r1 := r1.step sY2
        replace r3 := r3.step sY2
        replace k1 := k1.step sY2
        replace k3 := k3.step sY2
        replace r36 := r36.step sY2
        have r41 := has_blk aY2
        clear aY2 sY2
        clear hK0 K
        try simp only [List.getElem_toArray, List.getElem_cons_succ, List.getElem_cons_zero, Act.put, List.setIfInBounds_toArray, List.set_cons_zero, List.set_cons_succ]
        refine wpAnyH_ready (rs := [11, 16]) (by kernel_rfl) (by simp) ?_
        refine AllReadyH.cons rfl (fun K hK0 => ?_) (AllReadyH.cons rfl (fun K hK0 => ?_) (AllReadyH.nil))
        · go_simp
          refine (joini3 (n := n + 1) (l := insI ks q id) r41 r1 (show Has Y2 Y2.heap.size _ (ints [id]) from r36) r3 Hl1.out rfl Hl3.out (by omega) HeI.out HnI.out (fr_refl Y2)).mono ?_
          rintro e Y3 ⟨A3, c3, rfl, o42, sY3⟩
          go_simp
          refine hK0.out _ _ (fr_step fY2 sY3) (fun _ => ?_)
          have fY3 : Fr Z Y3 := fr_step fY2 sY3
          replace r1 := r1.step sY3
          replace r3 := r3.step sY3
          replace k1 := k1.step sY3
          replace k3 := k3.step sY3
          replace r36 := r36.step sY3
          replace r41 := r41.step sY3
          clear sY3
          clear hK0 K
          try simp only [List.getElem_toArray, List.getElem_cons_succ, List.getElem_cons_zero, Act.put, List.setIfInBounds_toArray, List.set_cons_zero, List.set_cons_succ]
          refine wpAnyH_ready (rs := [16]) (by kernel_rfl) (by simp) ?_
          refine AllReadyH.cons rfl (fun K hK0 => ?_) AllReadyH.nil
          go_simp
          obtain ⟨Y4, eY4, sY4, aY4⟩ := alloc_named Y3 (kc x) 27
          refine hK0.out _ _ (fr_new fY3 _) (fun _ => ?_)
          refine wpAnyH_world eY4 ?_
          clear eY4
          have fY4 : Fr Z Y4 := fr_step fY3 sY4
          replace r1 := r1.step sY4
          replace r3 := r3.step sY4
          replace k1 := k1.step sY4
          replace k3 := k3.step sY4
          replace r36 := r36.step sY4
          replace r41 := r41.step sY4
          replace o42 := keep (Own.below o42.out sY4 (Nat.le_refl _))
          have r47 := has_blk aY4
          clear aY4 sY4
          clear hK0 K
          try simp only [List.getElem_toArray, List.getElem_cons_succ, List.getElem_cons_zero, Act.put, List.setIfInBounds_toArray, List.set_cons_zero, List.set_cons_succ]
          refine wpAnyH_ready (rs := [20]) (by kernel_rfl) (by simp) ?_
          refine AllReadyH.cons rfl (fun K hK0 => ?_) AllReadyH.nil
          go_simp
          obtain ⟨Y5, eY5, sY5, aY5⟩ := alloc_named Y4 ([.slice A2 q c2, .slice (some ⟨Y3.heap.size, 0, none⟩) 1 1, .slice (lowA A2 c2 q) (n2 - q) (c2 - q)]) 29
          refine hK0.out _ _ (fr_new fY4 _) (fun _ => ?_)
          refine wpAnyH_world eY5 ?_
          clear eY5
          have fY5 : Fr Z Y5 := fr_step fY4 sY5
          replace r1 := r1.step sY5
          replace r3 := r3.step sY5
          replace k1 := k1.step sY5
          replace k3 := k3.step sY5
          replace r36 := r36.step sY5
          replace r41 := r41.step sY5
          replace r47 := r47.step sY5
          replace o42 := keep (Own.below o42.out sY5 (Nat.le_refl _))
          have r51 := has_blk aY5
          clear aY5 sY5
          clear hK0 K
          try simp only [List.getElem_toArray, List.getElem_cons_succ, List.getElem_cons_zero, Act.put, List.setIfInBounds_toArray, List.set_cons_zero, List.set_cons_succ]
          refine wpAnyH_ready (rs := [21]) (by kernel_rfl) (by simp) ?_
          refine AllReadyH.cons rfl (fun K hK0 => ?_) AllReadyH.nil
          go_simp
          refine (joink3 (n := n2 + 1) (l := insV n ps q x) r51 k1 (show Has Y5 Y5.heap.size _ (rows kc [x]) from by simpa [rows] using r47) k3 Hm1.out rfl Hm3.out (by have := Hlen.out; omega) HeV.out HnV.out (fr_refl Y5)).mono ?_
          rintro e Y6 ⟨A4, c4, rfl, o52, sY6⟩
          go_simp
          refine hK0.out _ _ (fr_step fY5 sY6) (fun _ => ?_)
          have fY6 : Fr Z Y6 := fr_step fY5 sY6
          replace r1 := r1.step sY6
          replace r3 := r3.step sY6
          replace k1 := k1.step sY6
          replace k3 := k3.step sY6
          replace r36 := r36.step sY6
          replace r41 := r41.step sY6
          replace r47 := r47.step sY6
          replace r51 := r51.step sY6
          replace o42 := keep (Own.below o42.out sY6 (Nat.le_refl _))
          clear sY6
          clear hK0 K
          try simp only [List.getElem_toArray, List.getElem_cons_succ, List.getElem_cons_zero, Act.put, List.setIfInBounds_toArray, List.set_cons_zero, List.set_cons_succ]
          refine wpAnyH_take (i := 22) (v := ?_) rfl (by kernel_rfl) (by kernel_rfl) (by kernel_rfl) (fun _ _ _ h => h) (Or.inl ⟨by rfl, ?_⟩) (by assumption) ?_
          rotate_left
          · intro w' hSw
            try dsimp only at hSw
            go_simp
            try with_reducible rfl
          try simp only [List.getElem_toArray, List.getElem_cons_succ, List.getElem_cons_zero, Act.put, List.setIfInBounds_toArray, List.set_cons_zero, List.set_cons_succ]
          refine wpAnyH_take (i := 23) (v := ?_) rfl (by kernel_rfl) (by kernel_rfl) (by kernel_rfl) (fun _ _ _ h => h) (Or.inl ⟨by rfl, ?_⟩) (by assumption) ?_
          rotate_left
          · intro w' hSw
            try dsimp only at hSw
            go_simp
            try with_reducible rfl
          try simp only [List.getElem_toArray, List.getElem_cons_succ, List.getElem_cons_zero, Act.put, List.setIfInBounds_toArray, List.set_cons_zero, List.set_cons_succ]
          refine wpAnyH_done (by kernel_rfl) ?_ _
          refine NoPanic.normal ?_
          go_wp2_with fail
          go_ret2
          exact ⟨A3, c3, A4, c4, by simp [HnI.out, HnV.out], by rw [← HnI.out] at o42; exact o42, by rw [← HnV.out] at o52; exact o52, fr_step HF.out fY6⟩
        · go_simp
          obtain ⟨Y3, eY3, sY3, aY3⟩ := alloc_named Y2 (kc x) 27
          refine hK0.out _ _ (fr_new fY2 _) (fun _ => ?_)
          refine wpAnyH_world eY3 ?_
          clear eY3
          have fY3 : Fr Z Y3 := fr_step fY2 sY3
          replace r1 := r1.step sY3
          replace r3 := r3.step sY3
          replace k1 := k1.step sY3
          replace k3 := k3.step sY3
          replace r36 := r36.step sY3
          replace r41 := r41.step sY3
          have r47 := has_blk aY3
          clear aY3 sY3
          clear hK0 K
          try simp only [List.getElem_toArray, List.getElem_cons_succ, List.getElem_cons_zero, Act.put, List.setIfInBounds_toArray, List.set_cons_zero, List.set_cons_succ]
          refine wpAnyH_ready (rs := [11, 20]) (by kernel_rfl) (by simp) ?_
          refine AllReadyH.cons rfl (fun K hK0 => ?_) (AllReadyH.cons rfl (fun K hK0 => ?_) (AllReadyH.nil))
          · go_simp
            refine (joini3 (n := n + 1) (l := insI ks q id) r41 r1 (show Has Y3 Y3.heap.size _ (ints [id]) from r36) r3 Hl1.out rfl Hl3.out (by omega) HeI.out HnI.out (fr_refl Y3)).mono ?_
            rintro e Y4 ⟨A3, c3, rfl, o42, sY4⟩
            go_simp
            refine hK0.out _ _ (fr_step fY3 sY4) (fun _ => ?_)
            have fY4 : Fr Z Y4 := fr_step fY3 sY4
            replace r1 := r1.step sY4
            replace r3 := r3.step sY4
            replace k1 := k1.step sY4
            replace k3 := k3.step sY4
            replace r36 := r36.step sY4
            replace r41 := r41.step sY4
            replace r47 := r47.step sY4
            clear sY4
            clear hK0 K
            try simp only [List.getElem_toArray, List.getElem_cons_succ, List.getElem_cons_zero, Act.put, List.setIfInBounds_toArray, List.set_cons_zero, List.set_cons_succ]
            refine wpAnyH_ready (rs := [20]) (by kernel_rfl) (by simp) ?_
            refine AllReadyH.cons rfl (fun K hK0 => ?_) AllReadyH.nil
            go_simp
            obtain ⟨Y5, eY5, sY5, aY5⟩ := alloc_named Y4 ([.slice A2 q c2, .slice (some ⟨Y2.heap.size, 0, none⟩) 1 1, .slice (lowA A2 c2 q) (n2 - q) (c2 - q)]) 29
            refine hK0.out _ _ (fr_new fY4 _) (fun _ => ?_)
            refine wpAnyH_world eY5 ?_
            clear eY5
            have fY5 : Fr Z Y5 := fr_step fY4 sY5
            replace r1 := r1.step sY5
            replace r3 := r3.step sY5
            replace k1 := k1.step sY5
            replace k3 := k3.step sY5
            replace r36 := r36.step sY5
            replace r41 := r41.step sY5
            replace r47 := r47.step sY5
            replace o42 := keep (Own.below o42.out sY5 (Nat.le_refl _))
            have r51 := has_blk aY5
            clear aY5 sY5
            clear hK0 K
            try simp only [List.getElem_toArray, List.getElem_cons_succ, List.getElem_cons_zero, Act.put, List.setIfInBounds_toArray, List.set_cons_zero, List.set_cons_succ]
            refine wpAnyH_ready (rs := [21]) (by kernel_rfl) (by simp) ?_
            refine AllReadyH.cons rfl (fun K hK0 => ?_) AllReadyH.nil
            go_simp
            refine (joink3 (n := n2 + 1) (l := insV n ps q x) r51 k1 (show Has Y5 Y5.heap.size _ (rows kc [x]) from by simpa [rows] using r47) k3 Hm1.out rfl Hm3.out (by have := Hlen.out; omega) HeV.out HnV.out (fr_refl Y5)).mono ?_
            rintro e Y6 ⟨A4, c4, rfl, o52, sY6⟩
            go_simp
            refine hK0.out _ _ (fr_step fY5 sY6) (fun _ => ?_)
            have fY6 : Fr Z Y6 := fr_step fY5 sY6
            replace r1 := r1.step sY6
            replace r3 := r3.step sY6
            replace k1 := k1.step sY6
            replace k3 := k3.step sY6
            replace r36 := r36.step sY6
            replace r41 := r41.step sY6
            replace r47 := r47.step sY6
            replace r51 := r51.step sY6
            replace o42 := keep (Own.below o42.out sY6 (Nat.le_refl _))
            clear sY6
            clear hK0 K
            try simp only [List.getElem_toArray, List.getElem_cons_succ, List.getElem_cons_zero, Act.put, List.setIfInBounds_toArray, List.set_cons_zero, List.set_cons_succ]
            refine wpAnyH_take (i := 22) (v := ?_) rfl (by kernel_rfl) (by kernel_rfl) (by kernel_rfl) (fun _ _ _ h => h) (Or.inl ⟨by rfl, ?_⟩) (by assumption) ?_
            rotate_left
            · intro w' hSw
              try dsimp only at hSw
              go_simp
              try with_reducible rfl
            try simp only [List.getElem_toArray, List.getElem_cons_succ, List.getElem_cons_zero, Act.put, List.setIfInBounds_toArray, List.set_cons_zero, List.set_cons_succ]
            refine wpAnyH_take (i := 23) (v := ?_) rfl (by kernel_rfl) (by kernel_rfl) (by kernel_rfl) (fun _ _ _ h => h) (Or.inl ⟨by rfl, ?_⟩) (by assumption) ?_
            rotate_left
            · intro w' hSw
              try dsimp only at hSw
              go_simp
              try with_reducible rfl
            try simp only [List.getElem_toArray, List.getElem_cons_succ, List.getElem_cons_zero, Act.put, List.setIfInBounds_toArray, List.set_cons_zero, List.set_cons_succ]
            refine wpAnyH_done (by kernel_rfl) ?_ _
            refine NoPanic.normal ?_
            go_wp2_with fail
            go_ret2
            exact ⟨A3, c3, A4, c4, by simp [HnI.out, HnV.out], by rw [← HnI.out] at o42; exact o42, by rw [← HnV.out] at o52; exact o52, fr_step HF.out fY6⟩
          · go_simp
            obtain ⟨Y4, eY4, sY4, aY4⟩ := alloc_named Y3 ([.slice A2 q c2, .slice (some ⟨Y2.heap.size, 0, none⟩) 1 1, .slice (lowA A2 c2 q) (n2 - q) (c2 - q)]) 29
            refine hK0.out _ _ (fr_new fY3 _) (fun _ => ?_)
            refine wpAnyH_world eY4 ?_
            clear eY4
            have fY4 : Fr Z Y4 := fr_step fY3 sY4
            replace r1 := r1.step sY4
            replace r3 := r3.step sY4
            replace k1 := k1.step sY4
            replace k3 := k3.step sY4
            replace r36 := r36.step sY4
            replace r41 := r41.step sY4
            replace r47 := r47.step sY4
            have r51 := has_blk aY4
            clear aY4 sY4
            clear hK0 K
            try simp only [List.getElem_toArray, List.getElem_cons_succ, List.getElem_cons_zero, Act.put, List.setIfInBounds_toArray, List.set_cons_zero, List.set_cons_succ]
            refine wpAnyH_ready (rs := [11]) (by kernel_rfl) (by simp) ?_
            refine AllReadyH.cons rfl (fun K hK0 => ?_) AllReadyH.nil
            go_simp
            refine (joini3 (n := n + 1) (l := insI ks q id) r41 r1 (show Has Y4 Y4.heap.size _ (ints [id]) from r36) r3 Hl1.out rfl Hl3.out (by omega) HeI.out HnI.out (fr_refl Y4)).mono ?_
            rintro e Y5 ⟨A3, c3, rfl, o42, sY5⟩
            go_simp
            refine hK0.out _ _ (fr_step fY4 sY5) (fun _ => ?_)
            have fY5 : Fr Z Y5 := fr_step fY4 sY5
            replace r1 := r1.step sY5
            replace r3 := r3.step sY5
            replace k1 := k1.step sY5
            replace k3 := k3.step sY5
            replace r36 := r36.step sY5
            replace r41 := r41.step sY5
            replace r47 := r47.step sY5
            replace r51 := r51.step sY5
            clear sY5
            clear hK0 K
            try simp only [List.getElem_toArray, List.getElem_cons_succ, List.getElem_cons_zero, Act.put, List.setIfInBounds_toArray, List.set_cons_zero, List.set_cons_succ]
            refine wpAnyH_ready (rs := [21]) (by kernel_rfl) (by simp) ?_
            refine AllReadyH.cons rfl (fun K hK0 => ?_) AllReadyH.nil
            go_simp
            refine (joink3 (n := n2 + 1) (l := insV n ps q x) r51 k1 (show Has Y5 Y5.heap.size _ (rows kc [x]) from by simpa [rows] using r47) k3 Hm1.out rfl Hm3.out (by have := Hlen.out; omega) HeV.out HnV.out (fr_refl Y5)).mono ?_
            rintro e Y6 ⟨A4, c4, rfl, o52, sY6⟩
            go_simp
            refine hK0.out _ _ (fr_step fY5 sY6) (fun _ => ?_)
            have fY6 : Fr Z Y6 := fr_step fY5 sY6
            replace r1 := r1.step sY6
            replace r3 := r3.step sY6
            replace k1 := k1.step sY6
            replace k3 := k3.step sY6
            replace r36 := r36.step sY6
            replace r41 := r41.step sY6
            replace r47 := r47.step sY6
            replace r51 := r51.step sY6
            replace o42 := keep (Own.below o42.out sY6 (Nat.le_refl _))
            clear sY6
            clear hK0 K
            try simp only [List.getElem_toArray, List.getElem_cons_succ, List.getElem_cons_zero, Act.put, List.setIfInBounds_toArray, List.set_cons_zero, List.set_cons_succ]
            refine wpAnyH_take (i := 22) (v := ?_) rfl (by kernel_rfl) (by kernel_rfl) (by kernel_rfl) (fun _ _ _ h => h) (Or.inl ⟨by rfl, ?_⟩) (by assumption) ?_
            rotate_left
            · intro w' hSw
              try dsimp only at hSw
              go_simp
              try with_reducible rfl
            try simp only [List.getElem_toArray, List.getElem_cons_succ, List.getElem_cons_zero, Act.put, List.setIfInBounds_toArray, List.set_cons_zero, List.set_cons_succ]
            refine wpAnyH_take (i := 23) (v := ?_) rfl (by kernel_rfl) (by kernel_rfl) (by kernel_rfl) (fun _ _ _ h => h) (Or.inl ⟨by rfl, ?_⟩) (by assumption) ?_
            rotate_left
            · intro w' hSw
              try dsimp only at hSw
              go_simp
              try with_reducible rfl
            try simp only [List.getElem_toArray, List.getElem_cons_succ, List.getElem_cons_zero, Act.put, List.setIfInBounds_toArray, List.set_cons_zero, List.set_cons_succ]
            refine wpAnyH_done (by kernel_rfl) ?_ _
            refine NoPanic.normal ?_
            go_wp2_with fail
            go_ret2
            exact ⟨A3, c3, A4, c4, by simp [HnI.out, HnV.out], by rw [← HnI.out] at o42; exact o42, by rw [← HnV.out] at o52; exact o52, fr_step HF.out fY6⟩
      · go_simp
        obtain ⟨Y2, eY2, sY2, aY2⟩ := alloc_named Y1 (kc x) 27
        refine hK0.out _ _ (fr_new fY1 _) (fun _ => ?_)
        refine wpAnyH_world eY2 ?_
        clear eY2
        have fY2 : Fr Z Y2 := fr_step fY1 sY2
        replace r1 := r1.step sY2
        replace r3 := r3.step sY2
        replace k1 := k1.step sY2
        replace k3 := k3.step sY2
        replace r36 := r36.step sY2
        have r47 := has_blk aY2
        clear aY2 sY2
        clear hK0 K
        try simp only [List.getElem_toArray, List.getElem_cons_succ, List.getElem_cons_zero, Act.put, List.setIfInBounds_toArray, List.set_cons_zero, List.set_cons_succ]
        refine wpAnyH_ready (rs := [10, 20]) (by kernel_rfl) (by simp) ?_
        refine AllReadyH.cons rfl (fun K hK0 => ?_) (AllReadyH.cons rfl (fun K hK0 => ?_) (AllReadyH.nil))
        · go_simp
          obtain ⟨Y3, eY3, sY3, aY3⟩ := alloc_named Y2 ([.slice A p c, .slice (some ⟨X0.heap.size, 0, none⟩) 1 1, .slice (lowI A c p) (n - p) (c - p)]) 22
          refine hK0.out _ _ (fr_new fY2 _) (fun _ => ?_)
          refine wpAnyH_world eY3 ?_
          clear eY3
          have fY3 : Fr Z Y3 := fr_step fY2 sY3
          replace r1 := r1.step sY3
          replace r3 := r3.step sY3
          replace k1 := k1.step sY3
          replace k3 := k3.step sY3
          replace r36 := r36.step sY3
          replace r47 := r47.step sY3
          have r41 := has_blk aY3
          clear aY3 sY3
          clear hK0 K
          try simp only [List.getElem_toArray, List.getElem_cons_succ, List.getElem_cons_zero, Act.put, List.setIfInBounds_toArray, List.set_cons_zero, List.set_cons_succ]
          refine wpAnyH_ready (rs := [11, 20]) (by kernel_rfl) (by simp) ?_
          refine AllReadyH.cons rfl (fun K hK0 => ?_) (AllReadyH.cons rfl (fun K hK0 => ?_) (AllReadyH.nil))
          · go_simp
            refine (joini3 (n := n + 1) (l := insI ks q id) r41 r1 (show Has Y3 Y3.heap.size _ (ints [id]) from r36) r3 Hl1.out rfl Hl3.out (by omega) HeI.out HnI.out (fr_refl Y3)).mono ?_
            rintro e Y4 ⟨A3, c3, rfl, o42, sY4⟩
            go_simp
            refine hK0.out _ _ (fr_step fY3 sY4) (fun _ => ?_)
            have fY4 : Fr Z Y4 := fr_step fY3 sY4
            replace r1 := r1.step sY4
            replace r3 := r3.step sY4
            replace k1 := k1.step sY4
            replace k3 := k3.step sY4
            replace r36 := r36.step sY4
            replace r47 := r47.step sY4
            replace r41 := r41.step sY4
            clear sY4
            clear hK0 K
            try simp only [List.getElem_toArray, List.getElem_cons_succ, List.getElem_cons_zero, Act.put, List.setIfInBounds_toArray, List.set_cons_zero, List.set_cons_succ]
            refine wpAnyH_ready (rs := [20]) (by kernel_rfl) (by simp) ?_
            refine AllReadyH.cons rfl (fun K hK0 => ?_) AllReadyH.nil
            go_simp
            obtain ⟨Y5, eY5, sY5, aY5⟩ := alloc_named Y4 ([.slice A2 q c2, .slice (some ⟨Y1.heap.size, 0, none⟩) 1 1, .slice (lowA A2 c2 q) (n2 - q) (c2 - q)]) 29
            refine hK0.out _ _ (fr_new fY4 _) (fun _ => ?_)
            refine wpAnyH_world eY5 ?_
            clear eY5
            have fY5 : Fr Z Y5 := fr_step fY4 sY5
            replace r1 := r1.step sY5
            replace r3 := r3.step sY5
            replace k1 := k1.step sY5
            replace k3 := k3.step sY5
            replace r36 := r36.step sY5
            replace r47 := r47.step sY5
            replace r41 := r41.step sY5
            replace o42 := keep (Own.below o42.out sY5 (Nat.le_refl _))
            have r51 := has_blk aY5
            clear aY5 sY5
            clear hK0 K
            try simp only [List.getElem_toArray, List.getElem_cons_succ, List.getElem_cons_zero, Act.put, List.setIfInBounds_toArray, List.set_cons_zero, List.set_cons_succ]
            refine wpAnyH_ready (rs := [21]) (by kernel_rfl) (by simp) ?_
            refine AllReadyH.cons rfl (fun K hK0 => ?_) AllReadyH.nil
            go_simp
            refine (joink3 (n := n2 + 1) (l := insV n ps q x) r51 k1 (show Has Y5 Y5.heap.size _ (rows kc [x]) from by simpa [rows] using r47) k3 Hm1.out rfl Hm3.out (by have := Hlen.out; omega) HeV.out HnV.out (fr_refl Y5)).mono ?_
            rintro e Y6 ⟨A4, c4, rfl, o52, sY6⟩
            go_simp
            refine hK0.out _ _ (fr_step fY5 sY6) (fun _ => ?_)
            have fY6 : Fr Z Y6 := fr_step fY5 sY6
            replace r1 := r1.step sY6
            replace r3 := r3.step sY6
            replace k1 := k1.step sY6
            replace k3 := k3.step sY6
            replace r36 := r36.step sY6
            replace r47 := r47.step sY6
            replace r41 := r41.step sY6
            replace r51 := r51.step sY6
            replace o42 := keep (Own.below o42.out sY6 (Nat.le_refl _))
            clear sY6
            clear hK0 K
            try simp only [List.getElem_toArray, List.getElem_cons_succ, List.getElem_cons_zero, Act.put, List.setIfInBounds_toArray, List.set_cons_zero, List.set_cons_succ]
            refine wpAnyH_take (i := 22) (v := ?_) rfl (by kernel_rfl) (by kernel_rfl) (by kernel_rfl) (fun _ _ _ h => h) (Or.inl ⟨by rfl, ?_⟩) (by assumption) ?_
            rotate_left
            · intro w' hSw
              try dsimp only at hSw
              go_simp
              try with_reducible rfl
            try simp only [List.getElem_toArray, List.getElem_cons_succ, List.getElem_cons_zero, Act.put, List.setIfInBounds_toArray, List.set_cons_zero, List.set_cons_succ]
            refine wpAnyH_take (i := 23) (v := ?_) rfl (by kernel_rfl) (by kernel_rfl) (by kernel_rfl) (fun _ _ _ h => h) (Or.inl ⟨by rfl, ?_⟩) (by assumption) ?_
            rotate_left
            · intro w' hSw
              try dsimp only at hSw
              go_simp
              try with_reducible rfl
            try simp only [List.getElem_toArray, List.getElem_cons_succ, List.getElem_cons_zero, Act.put, List.setIfInBounds_toArray, List.set_cons_zero, List.set_cons_succ]
            refine wpAnyH_done (by kernel_rfl) ?_ _
            refine NoPanic.normal ?_
            go_wp2_with fail
            go_ret2
            exact ⟨A3, c3, A4, c4, by simp [HnI.out, HnV.out], by rw [← HnI.out] at o42; exact o42, by rw [← HnV.out] at o52; exact o52, fr_step HF.out fY6⟩
          · go_simp
            obtain ⟨Y4, eY4, sY4, aY4⟩ := alloc_named Y3 ([.slice A2 q c2, .slice (some ⟨Y1.heap.size, 0, none⟩) 1 1, .slice (lowA A2 c2 q) (n2 - q) (c2 - q)]) 29
            refine hK0.out _ _ (fr_new fY3 _) (fun _ => ?_)
            refine wpAnyH_world eY4 ?_
            clear eY4
            have fY4 : Fr Z Y4 := fr_step fY3 sY4
            replace r1 := r1.step sY4
            replace r3 := r3.step sY4
            replace k1 := k1.step sY4
            replace k3 := k3.step sY4
            replace r36 := r36.step sY4
            replace r47 := r47.step sY4
            replace r41 := r41.step sY4
            have r51 := has_blk aY4
            clear aY4 sY4
            clear hK0 K
            try simp only [List.getElem_toArray, List.getElem_cons_succ, List.getElem_cons_zero, Act.put, List.setIfInBounds_toArray, List.set_cons_zero, List.set_cons_succ]
            refine wpAnyH_ready (rs := [11]) (by kernel_rfl) (by simp) ?_
            refine AllReadyH.cons rfl (fun K hK0 => ?_) AllReadyH.nil
            go_simp
            refine (joini3 (n := n + 1) (l := insI ks q id) r41 r1 (show Has Y4 Y4.heap.size _ (ints [id]) from r36) r3 Hl1.out rfl Hl3.out (by omega) HeI.out HnI.out (fr_refl Y4)).mono ?_
            rintro e Y5 ⟨A3, c3, rfl, o42, sY5⟩
            go_simp
            refine hK0.out _ _ (fr_step fY4 sY5) (fun _ => ?_)
            have fY5 : Fr Z Y5 := fr_step fY4 sY5
            replace r1 := r1.step sY5
            replace r3 := r3.step sY5
            replace k1 := k1.step sY5
            replace k3 := k3.step sY5
            replace r36 := r36.step sY5
            replace r47 := r47.step sY5
            replace r41 := r41.step sY5
            replace r51 := r51.step sY5
            clear sY5
            clear hK0 K
            try simp only [List.getElem_toArray, List.getElem_cons_succ, List.getElem_cons_zero, Act.put, List.setIfInBounds_toArray, List.set_cons_zero, List.set_cons_succ]
            refine wpAnyH_ready (rs := [21]) (by kernel_rfl) (by simp) ?_
            refine AllReadyH.cons rfl (fun K hK0 => ?_) AllReadyH.nil
            go_simp
            refine (joink3 (n := n2 + 1) (l := insV n ps q x) r51 k1 (show Has Y5 Y5.heap.size _ (rows kc [x]) from by simpa [rows] using r47) k3 Hm1.out rfl Hm3.out (by have := Hlen.out; omega) HeV.out HnV.out (fr_refl Y5)).mono ?_
            rintro e Y6 ⟨A4, c4, rfl, o52, sY6⟩
            go_simp
            refine hK0.out _ _ (fr_step fY5 sY6) (fun _ => ?_)
            have fY6 : Fr Z Y6 := fr_step fY5 sY6
            replace r1 := r1.step sY6
            replace r3 := r3.step sY6
            replace k1 := k1.step sY6
            replace k3 := k3.step sY6
            replace r36 := r36.step sY6
            replace r47 := r47.step sY6
            replace r41 := r41.step sY6
            replace r51 := r51.step sY6
            replace o42 := keep (Own.below o42.out sY6 (Nat.le_refl _))
            clear sY6
            clear hK0 K
            try simp only [List.getElem_toArray, List.getElem_cons_succ, List.getElem_cons_zero, Act.put, List.setIfInBounds_toArray, List.set_cons_zero, List.set_cons_succ]
            refine wpAnyH_take (i := 22) (v := ?_) rfl (by kernel_rfl) (by kernel_rfl) (by kernel_rfl) (fun _ _ _ h => h) (Or.inl ⟨by rfl, ?_⟩) (by assumption) ?_
            rotate_left
            · intro w' hSw
              try dsimp only at hSw
              go_simp
              try with_reducible rfl
            try simp only [List.getElem_toArray, List.getElem_cons_succ, List.getElem_cons_zero, Act.put, List.setIfInBounds_toArray, List.set_cons_zero, List.set_cons_succ]
            refine wpAnyH_take (i := 23) (v := ?_) rfl (by kernel_rfl) (by kernel_rfl) (by kernel_rfl) (fun _ _ _ h => h) (Or.inl ⟨by rfl, ?_⟩) (by assumption) ?_
            rotate_left
            · intro w' hSw
              try dsimp only at hSw
              go_simp
              try with_reducible rfl
            try simp only [List.getElem_toArray, List.getElem_cons_succ, List.getElem_cons_zero, Act.put, List.setIfInBounds_toArray, List.set_cons_zero, List.set_cons_succ]
            refine wpAnyH_done (by kernel_rfl) ?_ _
            refine NoPanic.normal ?_
            go_wp2_with fail
            go_ret2
            exact ⟨A3, c3, A4, c4, by simp [HnI.out, HnV.out], by rw [← HnI.out] at o42; exact o42, by rw [← HnV.out] at o52; exact o52, fr_step HF.out fY6⟩
        · go_simp
          obtain ⟨Y3, eY3, sY3, aY3⟩ := alloc_named Y2 ([.slice A2 q c2, .slice (some ⟨Y1.heap.size, 0, none⟩) 1 1, .slice (lowA A2 c2 q) (n2 - q) (c2 - q)]) 29
          refine hK0.out _ _ (fr_new fY2 _) (fun _ => ?_)
          refine wpAnyH_world eY3 ?_
          clear eY3
          have fY3 : Fr Z Y3 := fr_step fY2 sY3
          replace r1 := r1.step sY3
          replace r3 := r3.step sY3
          replace k1 := k1.step sY3
          replace k3 := k3.step sY3
          replace r36 := r36.step sY3
          replace r47 := r47.step sY3
          have r51 := has_blk aY3
          clear aY3 sY3
          clear hK0 K
          try simp only [List.getElem_toArray, List.getElem_cons_succ, List.getElem_cons_zero, Act.put, List.setIfInBounds_toArray, List.set_cons_zero, List.set_cons_succ]
          refine wpAnyH_ready (rs := [10]) (by kernel_rfl) (by simp) ?_
          refine AllReadyH.cons rfl (fun K hK0 => ?_) AllReadyH.nil
          go_simp
          obtain ⟨Y4, eY4, sY4, aY4⟩ := alloc_named Y3 ([.slice A p c, .slice (some ⟨X0.heap.size, 0, none⟩) 1 1, .slice (lowI A c p) (n - p) (c - p)]) 22
          refine hK0.out _ _ (fr_new fY3 _) (fun _ => ?_)
          refine wpAnyH_world eY4 ?_
          clear eY4
          have fY4 : Fr Z Y4 := fr_step fY3 sY4
          replace r1 := r1.step sY4
          replace r3 := r3.step sY4
          replace k1 := k1.step sY4
          replace k3 := k3.step sY4
          replace r36 := r36.step sY4
          replace r47 := r47.step sY4
          replace r51 := r51.step sY4
          have r41 := has_blk aY4
          clear aY4 sY4
          clear hK0 K
          try simp only [List.getElem_toArray, List.getElem_cons_succ, List.getElem_cons_zero, Act.put, List.setIfInBounds_toArray, List.set_cons_zero, List.set_cons_succ]
          refine wpAnyH_ready (rs := [11]) (by kernel_rfl) (by simp) ?_
          refine AllReadyH.cons rfl (fun K hK0 => ?_) AllReadyH.nil
          go_simp
          refine (joini3 (n := n + 1) (l := insI ks q id) r41 r1 (show Has Y4 Y4.heap.size _ (ints [id]) from r36) r3 Hl1.out rfl Hl3.out (by omega) HeI.out HnI.out (fr_refl Y4)).mono ?_
          rintro e Y5 ⟨A3, c3, rfl, o42, sY5⟩
          go_simp
          refine hK0.out _ _ (fr_step fY4 sY5) (fun _ => ?_)
          have fY5 : Fr Z Y5 := fr_step fY4 sY5
          replace r1 := r1.step sY5
          replace r3 := r3.step sY5
          replace k1 := k1.step sY5
          replace k3 := k3.step sY5
          replace r36 := r36.step sY5
          replace r47 := r47.step sY5
          replace r51 := r51.step sY5
          replace r41 := r41.step sY5
          clear sY5
          clear hK0 K
          try simp only [List.getElem_toArray, List.getElem_cons_succ, List.getElem_cons_zero, Act.put, List.setIfInBounds_toArray, List.set_cons_zero, List.set_cons_succ]
          refine wpAnyH_ready (rs := [21]) (by kernel_rfl) (by simp) ?_
          refine AllReadyH.cons rfl (fun K hK0 => ?_) AllReadyH.nil
          go_simp
          refine (joink3 (n := n2 + 1) (l := insV n ps q x) r51 k1 (show Has Y5 Y5.heap.size _ (rows kc [x]) from by simpa [rows] using r47) k3 Hm1.out rfl Hm3.out (by have := Hlen.out; omega) HeV.out HnV.out (fr_refl Y5)).mono ?_
          rintro e Y6 ⟨A4, c4, rfl, o52, sY6⟩
          go_simp
          refine hK0.out _ _ (fr_step fY5 sY6) (fun _ => ?_)
          have fY6 : Fr Z Y6 := fr_step fY5 sY6
          replace r1 := r1.step sY6
          replace r3 := r3.step sY6
          replace k1 := k1.step sY6
          replace k3 := k3.step sY6
          replace r36 := r36.step sY6
          replace r47 := r47.step sY6
          replace r51 := r51.step sY6
          replace r41 := r41.step sY6
          replace o42 := keep (Own.below o42.out sY6 (Nat.le_refl _))
          clear sY6
          clear hK0 K
          try simp only [List.getElem_toArray, List.getElem_cons_succ, List.getElem_cons_zero, Act.put, List.setIfInBounds_toArray, List.set_cons_zero, List.set_cons_succ]
          refine wpAnyH_take (i := 22) (v := ?_) rfl (by kernel_rfl) (by kernel_rfl) (by kernel_rfl) (fun _ _ _ h => h) (Or.inl ⟨by rfl, ?_⟩) (by assumption) ?_
          rotate_left
          · intro w' hSw
            try dsimp only at hSw
            go_simp
            try with_reducible rfl
          try simp only [List.getElem_toArray, List.getElem_cons_succ, List.getElem_cons_zero, Act.put, List.setIfInBounds_toArray, List.set_cons_zero, List.set_cons_succ]
          refine wpAnyH_take (i := 23) (v := ?_) rfl (by kernel_rfl) (by kernel_rfl) (by kernel_rfl) (fun _ _ _ h => h) (Or.inl ⟨by rfl, ?_⟩) (by assumption) ?_
          rotate_left
          · intro w' hSw
            try dsimp only at hSw
            go_simp
            try with_reducible rfl
          try simp only [List.getElem_toArray, List.getElem_cons_succ, List.getElem_cons_zero, Act.put, List.setIfInBounds_toArray, List.set_cons_zero, List.set_cons_succ]
          refine wpAnyH_done (by kernel_rfl) ?_ _
          refine NoPanic.normal ?_
          go_wp2_with fail
          go_ret2
          exact ⟨A3, c3, A4, c4, by simp [HnI.out, HnV.out], by rw [← HnI.out] at o42; exact o42, by rw [← HnV.out] at o52; exact o52, fr_step HF.out fY6⟩
    · go_simp
      obtain ⟨Y1, eY1, sY1, aY1⟩ := alloc_named X0 (kc x) 27
      refine hK0.out _ _ (fr_new hrD _) (fun _ => ?_)
      refine wpAnyH_world eY1 ?_
      clear eY1
      have fY1 : Fr Z Y1 := fr_step hrD sY1
      replace r1 := r1.step sY1
      replace r3 := r3.step sY1
      replace k1 := k1.step sY1
      replace k3 := k3.step sY1
      have r47 := has_blk aY1
      clear aY1 sY1
      clear hK0 K
      try simp only [List.getElem_toArray, List.getElem_cons_succ, List.getElem_cons_zero, Act.put, List.setIfInBounds_toArray, List.set_cons_zero, List.set_cons_succ]
      refine wpAnyH_ready (rs := [5, 20]) (by kernel_rfl) (by simp) ?_
      refine AllReadyH.cons rfl (fun K hK0 => ?_) (AllReadyH.cons rfl (fun K hK0 => ?_) (AllReadyH.nil))
      · go_simp
        obtain ⟨Y2, eY2, sY2, aY2⟩ := alloc_named Y1 ([.int .i64 id]) 3
        refine hK0.out _ _ (fr_new fY1 _) (fun _ => ?_)
        refine wpAnyH_world eY2 ?_
        clear eY2
        have fY2 : Fr Z Y2 := fr_step fY1 sY2
        replace r1 := r1.step sY2
        replace r3 := r3.step sY2
        replace k1 := k1.step sY2
        replace k3 := k3.step sY2
        replace r47 := r47.step sY2
        have r36 := has_blk aY2
        clear aY2 sY2
        clear hK0 K
        try simp only [List.getElem_toArray, List.getElem_cons_succ, List.getElem_cons_zero, Act.put, List.setIfInBounds_toArray, List.set_cons_zero, List.set_cons_succ]
        refine wpAnyH_ready (rs := [10, 20]) (by kernel_rfl) (by simp) ?_
        refine AllReadyH.cons rfl (fun K hK0 => ?_) (AllReadyH.cons rfl (fun K hK0 => ?_) (AllReadyH.nil))
        · go_simp
          obtain ⟨Y3, eY3, sY3, aY3⟩ := alloc_named Y2 ([.slice A p c, .slice (some ⟨Y1.heap.size, 0, none⟩) 1 1, .slice (lowI A c p) (n - p) (c - p)]) 22
          refine hK0.out _ _ (fr_new fY2 _) (fun _ => ?_)
          refine wpAnyH_world eY3 ?_
          clear eY3
          have fY3 : Fr Z Y3 := fr_step fY2 sY3
          replace r1 := r1.step sY3
          replace r3 := r3.step sY3
          replace k1 := k1.step sY3
          replace k3 := k3.step sY3
          replace r47 := r47.step sY3
          replace r36 := r36.step sY3
          have r41 := has_blk aY3
          clear aY3 sY3
          clear hK0 K
          try simp only [List.getElem_toArray, List.getElem_cons_succ, List.getElem_cons_zero, Act.put, List.setIfInBounds_toArray, List.set_cons_zero, List.set_cons_succ]
          refine wpAnyH_ready (rs := [11, 20]) (by kernel_rfl) (by simp) ?_
          refine AllReadyH.cons rfl (fun K hK0 => ?_) (AllReadyH.cons rfl (fun K hK0 => ?_) (AllReadyH.nil))
          · go_simp
            refine (joini3 (n := n + 1) (l := insI ks q id) r41 r1 (show Has Y3 Y3.heap.size _ (ints [id]) from r36) r3 Hl1.out rfl Hl3.out (by omega) HeI.out HnI.out (fr_refl Y3)).mono ?_
            rintro e Y4 ⟨A3, c3, rfl, o42, sY4⟩
            go_simp
            refine hK0.out _ _ (fr_step fY3 sY4) (fun _ => ?_)
            have fY4 : Fr Z Y4 := fr_step fY3 sY4
            replace r1 := r1.step sY4
            replace r3 := r3.step sY4
            replace k1 := k1.step sY4
            replace k3 := k3.step sY4
            replace r47 := r47.step sY4
            replace r36 := r36.step sY4
            replace r41 := r41.step sY4
            clear sY4
            clear hK0 K
            try simp only [List.getElem_toArray, List.getElem_cons_succ, List.getElem_cons_zero, Act.put, List.setIfInBounds_toArray, List.set_cons_zero, List.set_cons_succ]
            refine wpAnyH_ready (rs := [20]) (by kernel_rfl) (by simp) ?_
            refine AllReadyH.cons rfl (fun K hK0 => ?_) AllReadyH.nil
            go_simp
            obtain ⟨Y5, eY5, sY5, aY5⟩ := alloc_named Y4 ([.slice A2 q c2, .slice (some ⟨X0.heap.size, 0, none⟩) 1 1, .slice (lowA A2 c2 q) (n2 - q) (c2 - q)]) 29
            refine hK0.out _ _ (fr_new fY4 _) (fun _ => ?_)
            refine wpAnyH_world eY5 ?_
            clear eY5
            have fY5 : Fr Z Y5 := fr_step fY4 sY5
            replace r1 := r1.step sY5
            replace r3 := r3.step sY5
            replace k1 := k1.step sY5
            replace k3 := k3.step sY5
            replace r47 := r47.step sY5
            replace r36 := r36.step sY5
            replace r41 := r41.step sY5
            replace o42 := keep (Own.below o42.out sY5 (Nat.le_refl _))
            have r51 := has_blk aY5
            clear aY5 sY5
            clear hK0 K
            try simp only [List.getElem_toArray, List.getElem_cons_succ, List.getElem_cons_zero, Act.put, List.setIfInBounds_toArray, List.set_cons_zero, List.set_cons_succ]
            refine wpAnyH_ready (rs := [21]) (by kernel_rfl) (by simp) ?_
            refine AllReadyH.cons rfl (fun K hK0 => ?_) AllReadyH.nil
            go_simp
            refine (joink3 (n := n2 + 1) (l := insV n ps q x) r51 k1 (show Has Y5 Y5.heap.size _ (rows kc [x]) from by simpa [rows] using r47) k3 Hm1.out rfl Hm3.out (by have := Hlen.out; omega) HeV.out HnV.out (fr_refl Y5)).mono ?_
            rintro e Y6 ⟨A4, c4, rfl, o52, sY6⟩
            go_simp
            refine hK0.out _ _ (fr_step fY5 sY6) (fun _ => ?_)
            have fY6 : Fr Z Y6 := fr_step fY5 sY6
            replace r1 := r1.step sY6
            replace r3 := r3.step sY6
            replace k1 := k1.step sY6
            replace k3 := k3.step sY6
            replace r47 := r47.step sY6
            replace r36 := r36.step sY6
            replace r41 := r41.step sY6
            replace r51 := r51.step sY6
            replace o42 := keep (Own.below o42.out sY6 (Nat.le_refl _))
            clear sY6
            clear hK0 K
            try simp only [List.getElem_toArray, List.getElem_cons_succ, List.getElem_cons_zero, Act.put, List.setIfInBounds_toArray, List.set_cons_zero, List.set_cons_succ]
            refine wpAnyH_take (i := 22) (v := ?_) rfl (by kernel_rfl) (by kernel_rfl) (by kernel_rfl) (fun _ _ _ h => h) (Or.inl ⟨by rfl, ?_⟩) (by assumption) ?_
            rotate_left
            · intro w' hSw
              try dsimp only at hSw
              go_simp
              try with_reducible rfl
            try simp only [List.getElem_toArray, List.getElem_cons_succ, List.getElem_cons_zero, Act.put, List.setIfInBounds_toArray, List.set_cons_zero, List.set_cons_succ]
            refine wpAnyH_take (i := 23) (v := ?_) rfl (by kernel_rfl) (by kernel_rfl) (by kernel_rfl) (fun _ _ _ h => h) (Or.inl ⟨by rfl, ?_⟩) (by assumption) ?_
            rotate_left
            · intro w' hSw
              try dsimp only at hSw
              go_simp
              try with_reducible rfl
            try simp only [List.getElem_toArray, List.getElem_cons_succ, List.getElem_cons_zero, Act.put, List.setIfInBounds_toArray, List.set_cons_zero, List.set_cons_succ]
            refine wpAnyH_done (by kernel_rfl) ?_ _
            refine NoPanic.normal ?_
            go_wp2_with fail
            go_ret2
            exact ⟨A3, c3, A4, c4, by simp [HnI.out, HnV.out], by rw [← HnI.out] at o42; exact o42, by rw [← HnV.out] at o52; exact o52, fr_step HF.out fY6⟩
          · go_simp
            obtain ⟨Y4, eY4, sY4, aY4⟩ := alloc_named Y3 ([.slice A2 q c2, .slice (some ⟨X0.heap.size, 0, none⟩) 1 1, .slice (lowA A2 c2 q) (n2 - q) (c2 - q)]) 29
            refine hK0.out _ _ (fr_new fY3 _) (fun _ => ?_)
            refine wpAnyH_world eY4 ?_
            clear eY4
            have fY4 : Fr Z Y4 := fr_step fY3 sY4
            replace r1 := r1.step sY4
            replace r3 := r3.step sY4
            replace k1 := k1.step sY4
            replace k3 := k3.step sY4
            replace r47 := r47.step sY4
            replace r36 := r36.step sY4
            replace r41 := r41.step sY4
            have r51 := has_blk aY4
            clear aY4 sY4
            clear hK0 K
            try simp only [List.getElem_toArray, List.getElem_cons_succ, List.getElem_cons_zero, Act.put, List.setIfInBounds_toArray, List.set_cons_zero, List.set_cons_succ]
            refine wpAnyH_ready (rs := [11]) (by kernel_rfl) (by simp) ?_
            refine AllReadyH.cons rfl (fun K hK0 => ?_) AllReadyH.nil
            go_simp
            refine (joini3 (n := n + 1) (l := insI ks q id) r41 r1 (show Has Y4 Y4.heap.size _ (ints [id]) from r36) r3 Hl1.out rfl Hl3.out (by omega) HeI.out HnI.out (fr_refl Y4)).mono ?_
            rintro e Y5 ⟨A3, c3, rfl, o42, sY5⟩
            go_simp
            refine hK0.out _ _ (fr_step fY4 sY5) (fun _ => ?_)
            have fY5 : Fr Z Y5 := fr_step fY4 sY5
            replace r1 := r1.step sY5
            replace r3 := r3.step sY5
            replace k1 := k1.step sY5
            replace k3 := k3.step sY5
            replace r47 := r47.step sY5
            replace r36 := r36.step sY5
            replace r41 := r41.step sY5
            replace r51 := r51.step sY5
            clear sY5
            clear hK0 K
            try simp only [List.getElem_toArray, List.getElem_cons_succ, List.getElem_cons_zero, Act.put, List.setIfInBounds_toArray, List.set_cons_zero, List.set_cons_succ]
            refine wpAnyH_ready (rs := [21]) (by kernel_rfl) (by simp) ?_
            refine AllReadyH.cons rfl (fun K hK0 => ?_) AllReadyH.nil
            go_simp
            refine (joink3 (n := n2 + 1) (l := insV n ps q x) r51 k1 (show Has Y5 Y5.heap.size _ (rows kc [x]) from by simpa [rows] using r47) k3 Hm1.out rfl Hm3.out (by have := Hlen.out; omega) HeV.out HnV.out (fr_refl Y5)).mono ?_
            rintro e Y6 ⟨A4, c4, rfl, o52, sY6⟩
            go_simp
            refine hK0.out _ _ (fr_step fY5 sY6) (fun _ => ?_)
            have fY6 : Fr Z Y6 := fr_step fY5 sY6
            replace r1 := r1.step sY6
            replace r3 := r3.step sY6
            replace k1 := k1.step sY6
            replace k3 := k3.step sY6
            replace r47 := r47.step sY6
            replace r36 := r36.step sY6
            replace r41 := r41.step sY6
            replace r51 := r51.step sY6
            replace o42 := keep (Own.below o42.out sY6 (Nat.le_refl _))
            clear sY6
            clear hK0 K
            try simp only [List.getElem_toArray, List.getElem_cons_succ, List.getElem_cons_zero, Act.put, List.setIfInBounds_toArray, List.set_cons_zero, List.set_cons_succ]
            refine wpAnyH_take (i := 22) (v := ?_) rfl (by kernel_rfl) (by kernel_rfl) (by kernel_rfl) (fun _ _ _ h => h) (Or.inl ⟨by rfl, ?_⟩) (by assumption) ?_
            rotate_left
            · intro w' hSw
              try dsimp only at hSw
              go_simp
              try with_reducible rfl
            try simp only [List.getElem_toArray, List.getElem_cons_succ, List.getElem_cons_zero, Act.put, List.setIfInBounds_toArray, List.set_cons_zero, List.set_cons_succ]
            refine wpAnyH_take (i := 23) (v := ?_) rfl (by kernel_rfl) (by kernel_rfl) (by kernel_rfl) (fun _ _ _ h => h) (Or.inl ⟨by rfl, ?_⟩) (by assumption) ?_
            rotate_left
            · intro w' hSw
              try dsimp only at hSw
              go_simp
              try with_reducible rfl
            try simp only [List.getElem_toArray, List.getElem_cons_succ, List.getElem_cons_zero, Act.put, List.setIfInBounds_toArray, List.set_cons_zero, List.set_cons_succ]
            refine wpAnyH_done (by kernel_rfl) ?_ _
            refine NoPanic.normal ?_
            go_wp2_with fail
            go_ret2
            exact ⟨A3, c3, A4, c4, by simp [HnI.out, HnV.out], by rw [← HnI.out] at o42; exact o42, by rw [← HnV.out] at o52; exact o52, fr_step HF.out fY6⟩
        · go_simp
          obtain ⟨Y3, eY3, sY3, aY3⟩ := alloc_named Y2 ([.slice A2 q c2, .slice (some ⟨X0.heap.size, 0, none⟩) 1 1, .slice (lowA A2 c2 q) (n2 - q) (c2 - q)]) 29
          refine hK0.out _ _ (fr_new fY2 _) (fun _ => ?_)
          refine wpAnyH_world eY3 ?_
          clear eY3
          have fY3 : Fr Z Y3 := fr_step fY2 sY3
          replace r1 := r1.step sY3
          replace r3 := r3.step sY3
          replace k1 := k1.step sY3
          replace k3 := k3.step sY3
          replace r47 := r47.step sY3
          replace r36 := r36.step sY3
          have r51 := has_blk aY3
          clear aY3 sY3
          clear hK0 K
          try simp only [List.getElem_toArray, List.getElem_cons_succ, List.getElem_cons_zero, Act.put, List.setIfInBounds_toArray, List.set_cons_zero, List.set_cons_succ]
          refine wpAnyH_ready (rs := [10]) (by kernel_rfl) (by simp) ?_
          refine AllReadyH.cons rfl (fun K hK0 => ?_) AllReadyH.nil
          go_simp
          obtain ⟨Y4, eY4, sY4, aY4⟩ := alloc_named Y3 ([.slice A p c, .slice (some ⟨Y1.heap.size, 0, none⟩) 1 1, .slice (lowI A c p) (n - p) (c - p)]) 22
          refine hK0.out _ _ (fr_new fY3 _) (fun _ => ?_)
          refine wpAnyH_world eY4 ?_
          clear eY4
          have fY4 : Fr Z Y4 := fr_step fY3 sY4
          replace r1 := r1.step sY4
          replace r3 := r3.step sY4
          replace k1 := k1.step sY4
          replace k3 := k3.step sY4
          replace r47 := r47.step sY4
          replace r36 := r36.step sY4
          replace r51 := r51.step sY4
          have r41 := has_blk aY4
          clear aY4 sY4
          clear hK0 K
          try simp only [List.getElem_toArray, List.getElem_cons_succ, List.getElem_cons_zero, Act.put, List.setIfInBounds_toArray, List.set_cons_zero, List.set_cons_succ]
          refine wpAnyH_ready (rs := [11]) (by kernel_rfl) (by simp) ?_
          refine AllReadyH.cons rfl (fun K hK0 => ?_) AllReadyH.nil
          go_simp
          refine (joini3 (n := n + 1) (l := insI ks q id) r41 r1 (show Has Y4 Y4.heap.size _ (ints [id]) from r36) r3 Hl1.out rfl Hl3.out (by omega) HeI.out HnI.out (fr_refl Y4)).mono ?_
          rintro e Y5 ⟨A3, c3, rfl, o42, sY5⟩
          go_simp
          refine hK0.out _ _ (fr_step fY4 sY5) (fun _ => ?_)
          have fY5 : Fr Z Y5 := fr_step fY4 sY5
          replace r1 := r1.step sY5
          replace r3 := r3.step sY5
          replace k1 := k1.step sY5
          replace k3 := k3.step sY5
          replace r47 := r47.step sY5
          replace r36 := r36.step sY5
          replace r51 := r51.step sY5
          replace r41 := r41.step sY5
          clear sY5
          clear hK0 K
          try simp only [List.getElem_toArray, List.getElem_cons_succ, List.getElem_cons_zero, Act.put, List.setIfInBounds_toArray, List.set_cons_zero, List.set_cons_succ]
          refine wpAnyH_ready (rs := [21]) (by kernel_rfl) (by simp) ?_
          refine AllReadyH.cons rfl (fun K hK0 => ?_) AllReadyH.nil
          go_simp
          refine (joink3 (n := n2 + 1) (l := insV n ps q x) r51 k1 (show Has Y5 Y5.heap.size _ (rows kc [x]) from by simpa [rows] using r47) k3 Hm1.out rfl Hm3.out (by have := Hlen.out; omega) HeV.out HnV.out (fr_refl Y5)).mono ?_
          rintro e Y6 ⟨A4, c4, rfl, o52, sY6⟩
          go_simp
          refine hK0.out _ _ (fr_step fY5 sY6) (fun _ => ?_)
          have fY6 : Fr Z Y6 := fr_step fY5 sY6
          replace r1 := r1.step sY6
          replace r3 := r3.step sY6
          replace k1 := k1.step sY6
          replace k3 := k3.step sY6
          replace r47 := r47.step sY6
          replace r36 := r36.step sY6
          replace r51 := r51.step sY6
          replace r41 := r41.step sY6
          replace o42 := keep (Own.below o42.out sY6 (Nat.le_refl _))
          clear sY6
          clear hK0 K
          try simp only [List.getElem_toArray, List.getElem_cons_succ, List.getElem_cons_zero, Act.put, List.setIfInBounds_toArray, List.set_cons_zero, List.set_cons_succ]
          refine wpAnyH_take (i := 22) (v := ?_) rfl (by kernel_rfl) (by kernel_rfl) (by kernel_rfl) (fun _ _ _ h => h) (Or.inl ⟨by rfl, ?_⟩) (by assumption) ?_
          rotate_left
          · intro w' hSw
            try dsimp only at hSw
            go_simp
            try with_reducible rfl
          try simp only [List.getElem_toArray, List.getElem_cons_succ, List.getElem_cons_zero, Act.put, List.setIfInBounds_toArray, List.set_cons_zero, List.set_cons_succ]
          refine wpAnyH_take (i := 23) (v := ?_) rfl (by kernel_rfl) (by kernel_rfl) (by kernel_rfl) (fun _ _ _ h => h) (Or.inl ⟨by rfl, ?_⟩) (by assumption) ?_
          rotate_left
          · intro w' hSw
            try dsimp only at hSw
            go_simp
            try with_reducible rfl
          try simp only [List.getElem_toArray, List.getElem_cons_succ, List.getElem_cons_zero, Act.put, List.setIfInBounds_toArray, List.set_cons_zero, List.set_cons_succ]
          refine wpAnyH_done (by kernel_rfl) ?_ _
          refine NoPanic.normal ?_
          go_wp2_with fail
          go_ret2
          exact ⟨A3, c3, A4, c4, by simp [HnI.out, HnV.out], by rw [← HnI.out] at o42; exact o42, by rw [← HnV.out] at o52; exact o52, fr_step HF.out fY6⟩
      · go_simp
        obtain ⟨Y2, eY2, sY2, aY2⟩ := alloc_named Y1 ([.slice A2 q c2, .slice (some ⟨X0.heap.size, 0, none⟩) 1 1, .slice (lowA A2 c2 q) (n2 - q) (c2 - q)]) 29
        refine hK0.out _ _ (fr_new fY1 _) (fun _ => ?_)
        refine wpAnyH_world eY2 ?_
        clear eY2
        have fY2 : Fr Z Y2 := fr_step fY1 sY2
        replace r1 := r1.step sY2
        replace r3 := r3.step sY2
        replace k1 := k1.step sY2
        replace k3 := k3.step sY2
        replace r47 := r47.step sY2
        have r51 := has_blk aY2
        clear aY2 sY2
        clear hK0 K
        try simp only [List.getElem_toArray, List.getElem_cons_succ, List.getElem_cons_zero, Act.put, List.setIfInBounds_toArray, List.set_cons_zero, List.set_cons_succ]
        refine wpAnyH_ready (rs := [5]) (by kernel_rfl) (by simp) ?_
        refine AllReadyH.cons rfl (fun K hK0 => ?_) AllReadyH.nil
        go_simp
        obtain ⟨Y3, eY3, sY3, aY3⟩ := alloc_named Y2 ([.int .i64 id]) 3
        refine hK0.out _ _ (fr_new fY2 _) (fun _ => ?_)
        refine wpAnyH_world eY3 ?_
        clear eY3
        have fY3 : Fr Z Y3 := fr_step fY2 sY3
        replace r1 := r1.step sY3
        replace r3 := r3.step sY3
        replace k1 := k1.step sY3
        replace k3 := k3.step sY3
        replace r47 := r47.step sY3
        replace r51 := r51.step sY3
        have r36 := has_blk aY3
        clear aY3 sY3
        clear hK0 K
        try simp only [List.getElem_toArray, List.getElem_cons_succ, List.getElem_cons_zero, Act.put, List.setIfInBounds_toArray, List.set_cons_zero, List.set_cons_succ]
        refine wpAnyH_ready (rs := [10]) (by kernel_rfl) (by simp) ?_
        refine AllReadyH.cons rfl (fun K hK0 => ?_) AllReadyH.nil
        go_simp
        obtain ⟨Y4, eY4, sY4, aY4⟩ := alloc_named Y3 ([.slice A p c, .slice (some ⟨Y2.heap.size, 0, none⟩) 1 1, .slice (lowI A c p) (n - p) (c - p)]) 22
        refine hK0.out _ _ (fr_new fY3 _) (fun _ => ?_)
        refine wpAnyH_world eY4 ?_
        clear eY4
        have fY4 : Fr Z Y4 := fr_step fY3 sY4
        replace r1 := r1.step sY4
        replace r3 := r3.step sY4
        replace k1 := k1.step sY4
        replace k3 := k3.step sY4
        replace r47 := r47.step sY4
        replace r51 := r51.step sY4
        replace r36 := r36.step sY4
        have r41 := has_blk aY4
        clear aY4 sY4
        clear hK0 K
        try simp only [List.getElem_toArray, List.getElem_cons_succ, List.getElem_cons_zero, Act.put, List.setIfInBounds_toArray, List.set_cons_zero, List.set_cons_succ]
        refine wpAnyH_ready (rs := [11]) (by kernel_rfl) (by simp) ?_
        refine AllReadyH.cons rfl (fun K hK0 => ?_) AllReadyH.nil
        go_simp
        refine (joini3 (n := n + 1) (l := insI ks q id) r41 r1 (show Has Y4 Y4.heap.size _ (ints [id]) from r36) r3 Hl1.out rfl Hl3.out (by omega) HeI.out HnI.out (fr_refl Y4)).mono ?_
        rintro e Y5 ⟨A3, c3, rfl, o42, sY5⟩
        go_simp
        refine hK0.out _ _ (fr_step fY4 sY5) (fun _ => ?_)
        have fY5 : Fr Z Y5 := fr_step fY4 sY5
        replace r1 := r1.step sY5
        replace r3 := r3.step sY5
        replace k1 := k1.step sY5
        replace k3 := k3.step sY5
        replace r47 := r47.step sY5
        replace r51 := r51.step sY5
        replace r36 := r36.step sY5
        replace r41 := r41.step sY5
        clear sY5
        clear hK0 K
        try simp only [List.getElem_toArray, List.getElem_cons_succ, List.getElem_cons_zero, Act.put, List.setIfInBounds_toArray, List.set_cons_zero, List.set_cons_succ]
        refine wpAnyH_ready (rs := [21]) (by kernel_rfl) (by simp) ?_
        refine AllReadyH.cons rfl (fun K hK0 => ?_) AllReadyH.nil
        go_simp
        refine (joink3 (n := n2 + 1) (l := insV n ps q x) r51 k1 (show Has Y5 Y5.heap.size _ (rows kc [x]) from by simpa [rows] using r47) k3 Hm1.out rfl Hm3.out (by have := Hlen.out; omega) HeV.out HnV.out (fr_refl Y5)).mono ?_
        rintro e Y6 ⟨A4, c4, rfl, o52, sY6⟩
        go_simp
        refine hK0.out _ _ (fr_step fY5 sY6) (fun _ => ?_)
        have fY6 : Fr Z Y6 := fr_step fY5 sY6
        replace r1 := r1.step sY6
        replace r3 := r3.step sY6
        replace k1 := k1.step sY6
        replace k3 := k3.step sY6
        replace r47 := r47.step sY6
        replace r51 := r51.step sY6
        replace r36 := r36.step sY6
        replace r41 := r41.step sY6
        replace o42 := keep (Own.below o42.out sY6 (Nat.le_refl _))
        clear sY6
        clear hK0 K
        try simp only [List.getElem_toArray, List.getElem_cons_succ, List.getElem_cons_zero, Act.put, List.setIfInBounds_toArray, List.set_cons_zero, List.set_cons_succ]
        refine wpAnyH_take (i := 22) (v := ?_) rfl (by kernel_rfl) (by kernel_rfl) (by kernel_rfl) (fun _ _ _ h => h) (Or.inl ⟨by rfl, ?_⟩) (by assumption) ?_
        rotate_left
        · intro w' hSw
          try dsimp only at hSw
          go_simp
          try with_reducible rfl
        try simp only [List.getElem_toArray, List.getElem_cons_succ, List.getElem_cons_zero, Act.put, List.setIfInBounds_toArray, List.set_cons_zero, List.set_cons_succ]
        refine wpAnyH_take (i := 23) (v := ?_) rfl (by kernel_rfl) (by kernel_rfl) (by kernel_rfl) (fun _ _ _ h => h) (Or.inl ⟨by rfl, ?_⟩) (by assumption) ?_
        rotate_left
        · intro w' hSw
          try dsimp only at hSw
          go_simp
          try with_reducible rfl
        try simp only [List.getElem_toArray, List.getElem_cons_succ, List.getElem_cons_zero, Act.put, List.setIfInBounds_toArray, List.set_cons_zero, List.set_cons_succ]
        refine wpAnyH_done (by kernel_rfl) ?_ _
        refine NoPanic.normal ?_
        go_wp2_with fail
        go_ret2
        exact ⟨A3, c3, A4, c4, by simp [HnI.out, HnV.out], by rw [← HnI.out] at o42; exact o42, by rw [← HnV.out] at o52; exact o52, fr_step HF.out fY6⟩
end Go.Proofs.Ytnfoebcfhldemaa
/- A kid more, by the document. -/
namespace Go.Proofs.Ytnfoebcfhldemaa
set_option maxRecDepth 100000
open Go.RowKit
set_option linter.unusedVariables false
attribute [local go_sem ↓] key_ld msg_ld
theorem insI_one (l : List Int) (x i id : Int) : insI (l ++ [x]) i id = insI l i id ++ [x] ++ (if i = (l.length : Int) then [id] else []) := by
  by_cases h0 : i < 0
  · rw [insI_no (.inl h0), insI_no (.inl h0), if_neg (by omega), List.append_nil]
  · obtain ⟨q, rfl⟩ : ∃ q : Nat, i = q := ⟨i.toNat, by omega⟩
    rcases Nat.lt_trichotomy q l.length with h | h | h
    · rw [insI_yes (by simp; omega), insI_yes h, if_neg (by omega), List.append_nil, List.take_append_of_le_length (by omega), List.drop_append_of_le_length (by omega)]
      simp
    · rw [insI_yes (by simp; omega), insI_no (.inr (by omega)), if_pos (by omega), List.take_of_length_le (by simp; omega), List.drop_eq_nil_of_le (by simp; omega)]
    · rw [insI_no (.inr (by simp; omega)), insI_no (.inr (by omega)), if_neg (by omega), List.append_nil]
/-- The pivots so far, with one more put ahead of place i. -/
def insW (l : List RK) (i : Int) (x : RK) : List RK := if 0 ≤ i ∧ i < l.length then l.take i.toNat ++ x :: l.drop i.toNat else l
theorem insW_no {l : List RK} {i : Int} {x : RK} (h : i < 0 ∨ (l.length : Int) ≤ i) : insW l i x = l := by unfold insW; rw [if_neg (by omega)]
theorem insW_yes {l : List RK} {q : Nat} {x : RK} (h : q < l.length) : insW l (q : Int) x = l.take q ++ x :: l.drop q := by unfold insW; rw [if_pos (by omega)]; rfl
theorem insW_one (l : List RK) (p x : RK) (i : Int) : insW (l ++ [p]) i x = insW l i x ++ (if i = (l.length : Int) then [x] else []) ++ [p] := by
  by_cases h0 : i < 0
  · rw [insW_no (.inl h0), insW_no (.inl h0), if_neg (by omega), List.append_nil]
  · obtain ⟨q, rfl⟩ : ∃ q : Nat, i = q := ⟨i.toNat, by omega⟩
    rcases Nat.lt_trichotomy q l.length with h | h | h
    · rw [insW_yes (by simp; omega), insW_yes h, if_neg (by omega), List.append_nil, List.take_append_of_le_length (by omega), List.drop_append_of_le_length (by omega)]
      simp
    · rw [insW_yes (by simp; omega), insW_no (.inr (by omega)), if_pos (by omega), List.take_append_of_le_length (by omega), List.take_of_length_le (by omega), List.drop_append_of_le_length (by omega), List.drop_eq_nil_of_le (by omega)]
      simp
    · rw [insW_no (.inr (by simp; omega)), insW_no (.inr (by omega)), if_neg (by omega), List.append_nil]
theorem insW_end {ps : List RK} {i : Int} {x : RK} {n n2 : Nat} (hn2 : ps.length = n2) (hlen : n2 + 1 = n) : insV n ps i x = insW ps i x ++ (if i = (n2 : Int) then [x] else []) := by
  by_cases h0 : i < 0
  · rw [insV_no (.inl h0), insW_no (.inl h0), if_neg (by omega), List.append_nil]
  · obtain ⟨q, rfl⟩ : ∃ q : Nat, i = q := ⟨i.toNat, by omega⟩
    rcases Nat.lt_trichotomy q n2 with h | h | h
    · rw [insV_yes (by omega), insW_yes (by omega), if_neg (by omega), List.append_nil]
    · rw [insV_yes (by omega), insW_no (.inr (by omega)), if_pos (by omega), List.take_of_length_le (by omega), List.drop_eq_nil_of_le (by omega)]
    · rw [insV_no (.inr (by omega)), insW_no (.inr (by omega)), if_neg (by omega), List.append_nil]
theorem insW_len (ps : List RK) (i : Int) (x : RK) : (insW ps i x).length ≤ ps.length + 1 := by
  unfold insW
  split
  · simp; omega
  · omega
set_option maxHeartbeats 4000000 in
theorem rinsert_at {W0 w : World} {A A2 : Option Addr} {n c B n2 c2 B2 : Nat} {ks : List Int} {ps : List RK} {x : RK} {i id : Int} (hk : Has w B A (ints ks)) (hB : B ≤ w.heap.size) (hn : ks.length = n) (hsm : n ≤ 10000) (hp : Has w B2 A2 (rows kc ps)) (hB2 : B2 ≤ w.heap.size) (hn2 : ps.length = n2) (hlen : n2 + 1 = n) (hi : Is64 i) (h0 : Fr W0 w) :
    Calls Try.prog 35 #[.slice A n c, .slice A2 n2 c2, .int .i64 i, kv x, .int .i64 id] w (InsOut W0 (insI ks i id) (insV n ps i x)) := by
  obtain ⟨Z, hZ, hF, hZZ, lk⟩ := key_boxed1 w x
  have hkZ := keep ((hk.fr hB hF).mono (Nat.le_trans hB hF.size))
  have hpZ := keep ((hp.fr hB2 hF).mono (Nat.le_trans hB2 hF.size))
  have HF := keep (fr_step h0 hF)
  have Hn := keep hn
  have Hn2 := keep hn2
  have Hlen := keep hlen
  have hnn : n2 < n := by omega
  clear hk hp hF h0 hn hn2 hB hB2 hlen
  unfold InsOut
  go_enter Try.func35, Try.ntmps35
  go_wp2_with fail
  go_loopg [12, 14] n (fun g s12 s14 wr => ∃ (j : Nat) (D : Option Addr) (d k : Nat), j + g = n ∧ s14 = .int .i64 j ∧ s12 = .slice D k d ∧ k ≤ 2 * j ∧ Hid ((insI (ks.take j) i id).length = k) ∧ Hid (Own wr Z.heap.size 3 1 D k d (ints (insI (ks.take j) i id))) ∧ Hid (Fr Z wr))
  case atStart => exact ⟨0, none, 0, 0, by omega, rfl, rfl, by omega, keep (by rw [List.take_zero, insI_no (by simp; omega)]; rfl), keep (by rw [List.take_zero, insI_no (by simp; omega)]; exact Own.nil _ _ _ _), keep hZZ⟩
  case round =>
    obtain ⟨j, D, d, k, hj, rfl, rfl, hkj, hk, hO, hW⟩ := hrel
    by_cases hlt : j < n
    · have hm : ks[j]? = some (ks[j]'(by rw [Hn.out]; exact hlt)) := List.getElem?_eq_getElem _
      generalize ks[j]'(by rw [Hn.out]; exact hlt) = v at hm
      obtain ⟨b, off, rfl, hb, hc⟩ := hkZ.out j _ (ints_get hm)
      have hWW := hW.out
      have hrr := fr_refl wr
      have cell : wr.cell? ⟨b, off + j, none⟩ = some (.int .i64 v) := (hWW.cell (by show b < Z.heap.size; omega)).trans hc
      have hjz : (j : Int) < (n : Int) := by omega
      have hlj : (ks.take j).length = j := by rw [List.length_take, Hn.out]; omega
      have hstep : insI (ks.take (j + 1)) i id = insI (ks.take j) i id ++ [v] ++ (if i = (j : Int) then [id] else []) := by rw [take_one hm, insI_one, hlj]
      generalize insI (ks.take j) i id = xs at *
      clear hm hc hlt hlj
      by_cases hij : i = (j : Int)
      · rw [if_pos hij] at hstep
        have Hs := keep hstep
        have q1 : ((j : Int) == i) = true := by simp [hij]
        clear hstep hij
        have tok : Hid (0 < 1) := keep (by decide)
        have tok2 : Hid (0 < 1) := keep (by decide)
        go_wp2_with (first
          | (clear tok; refine wpList_append_vals (w0 := Z) int_elem ints_und (by decide) rfl (.tmp 22) (.tmp 27) rfl (fr_new hWW _) D k d (ints xs) rfl (hO.out.alloc _) (wr.heap.size + 1) (some ⟨wr.heap.size, 0, none⟩) 1 1 (ints [v]) rfl rfl (has_one wr _ _) (ints_one _) (by unfold maxLen; omega) (by omega) ?_; intro D2 d2 w2 ho2 hf2)
          | (clear tok2; refine wpList_append_vals (w0 := Z) int_elem ints_und (by decide) rfl (.tmp 32) (.tmp 34) rfl (fr_new hf2 _) D2 (k + 1) d2 (ints xs ++ ints [v]) rfl (ho2.alloc _) (w2.heap.size + 1) (some ⟨w2.heap.size, 0, none⟩) 1 1 (ints [id]) rfl rfl (has_one w2 _ _) (ints_one _) (by unfold maxLen; omega) (by omega) ?_; intro D3 d3 w3 ho3 hf3)
          | fail)
        go_roundg (gk - 1)
        case measure => omega
        case rel => exact ⟨j + 1, D3, d3, k + 1 + 1, by omega, rfl, rfl, by omega, keep (by rw [Hs.out]; simp; exact hk.out), keep (by rw [Hs.out, ints_app, ints_app]; exact ho3), keep hf3⟩
      · rw [if_neg hij, List.append_nil] at hstep
        have Hs := keep hstep
        have q1 : ((j : Int) == i) = false := by simpa using fun e : (j : Int) = i => hij e.symm
        clear hstep hij
        have tok : Hid (0 < 1) := keep (by decide)
        go_wp2_with (first
          | (clear tok; refine wpList_append_vals (w0 := Z) int_elem ints_und (by decide) rfl (.tmp 22) (.tmp 27) rfl (fr_new hWW _) D k d (ints xs) rfl (hO.out.alloc _) (wr.heap.size + 1) (some ⟨wr.heap.size, 0, none⟩) 1 1 (ints [v]) rfl rfl (has_one wr _ _) (ints_one _) (by unfold maxLen; omega) (by omega) ?_; intro D2 d2 w2 ho2 hf2)
          | fail)
        go_roundg (gk - 1)
        case measure => omega
        case rel => exact ⟨j + 1, D2, d2, k + 1, by omega, rfl, rfl, by omega, keep (by rw [Hs.out]; simp; exact hk.out), keep (by rw [Hs.out, ints_app]; exact ho2), keep hf2⟩
    · have hjn : j = n := by omega
      have hjz : ¬ (j : Int) < (n : Int) := by omega
      have hall : ks.take j = ks := List.take_of_length_le (by rw [Hn.out]; omega)
      rw [hall] at hk hO
      generalize hxs : insI ks i id = xs at *
      have HXs := keep hxs
      clear hxs
      have hFo := hW.out
      have hO1 := hO
      have hk1 := hk
      have hkb : k ≤ 2 * n := by omega
      obtain ⟨D0, hD0⟩ : ∃ D0, D0 = D := ⟨_, rfl⟩
      obtain ⟨d0, hd0⟩ : ∃ d0, d0 = d := ⟨_, rfl⟩
      obtain ⟨k0, hk0⟩ : ∃ k0, k0 = k := ⟨_, rfl⟩
      rw [← hD0, ← hd0, ← hk0]
      rw [← hD0, ← hd0, ← hk0] at hO1
      rw [← hk0] at hk1
      clear hall hlt hjn hj hW hO hk hD0 hd0 hk0 hkj hkb
      obtain ⟨go0, rfl⟩ : ∃ go0 : Nat, go0 = gk := ⟨_, rfl⟩
      obtain ⟨wo, rfl⟩ : ∃ wo : World, wo = wr := ⟨_, rfl⟩
      go_wp2_with fail
      go_loopg [13, 15] n2 (fun g s13 s15 wr => ∃ (j : Nat) (D : Option Addr) (d k : Nat), j + g = n2 ∧ s15 = .int .i64 j ∧ s13 = .slice D k d ∧ k ≤ 2 * j ∧ Hid ((insW (ps.take j) i x).length = k) ∧ Hid (Own wr wo.heap.size 27 9 D k d (rows kc (insW (ps.take j) i x))) ∧ Hid (Fr wo wr))
      case atStart => exact ⟨0, none, 0, 0, by omega, rfl, rfl, by omega, keep (by rw [List.take_zero, insW_no (by simp; omega)]; rfl), keep (by rw [List.take_zero, insW_no (by simp; omega)]; exact Own.nil _ _ _ _), keep (fr_refl _)⟩
      case round =>
        obtain ⟨j, D, d, k, hj, rfl, rfl, hkj, hk, hO, hW⟩ := hrel
        have hWW := hW.out
        have lk2 := fun W (h : Fr wo W) => lk W (fr_step hFo h)
        by_cases hlt : j < n2
        · have hm : ps[j]? = some (ps[j]'(by rw [Hn2.out]; exact hlt)) := List.getElem?_eq_getElem _
          generalize ps[j]'(by rw [Hn2.out]; exact hlt) = p at hm
          obtain ⟨b, off, rfl, hb1, hr⟩ := has_rows hpZ.out (kwid ps) (by decide) (by intro e; rw [e] at hm; simp at hm)
          have lX0 := elem_ld keyS hr (kwid ps) (by omega) hm
          have lX := fun W (h : Fr wo W) => lX0 W (fr_step hFo h)
          have hjz : (j : Int) < (n2 : Int) := by omega
          have hlj : (ps.take j).length = j := by rw [List.length_take, Hn2.out]; omega
          have hstep : insW (ps.take (j + 1)) i x = insW (ps.take j) i x ++ (if i = (j : Int) then [x] else []) ++ [p] := by rw [take_one hm, insW_one, hlj]
          generalize insW (ps.take j) i x = vs at *
          clear hm hr hlt hlj lX0
          by_cases hij : i = (j : Int)
          · rw [if_pos hij] at hstep
            have Hs := keep hstep
            have q1 : ((j : Int) == i) = true := by simp [hij]
            have q2 : i < (n : Int) := by omega
            clear hstep hij
            have tok : Hid (0 < 1) := keep (by decide)
            have tok2 : Hid (0 < 1) := keep (by decide)
            go_wp2_with (first
              | (clear tok; refine wpList_append_vals (w0 := wo) key_elem keys_und (by decide) rfl (.tmp 51) (.tmp 53) rfl (fr_new hWW _) D k d (rows kc vs) rfl (hO.out.alloc _) (wr.heap.size + 1) (some ⟨wr.heap.size, 0, none⟩) 1 1 (kc x) rfl rfl (has_key_new wr x _) (kc_one _) (by unfold maxLen; omega) (by omega) ?_; intro D2 d2 w2 ho2 hf2)
              | (clear tok2; refine wpList_append_vals (w0 := wo) key_elem keys_und (by decide) rfl (.tmp 55) (.tmp 60) rfl (fr_new hf2 _) D2 (k + 1) d2 (rows kc vs ++ kc x) rfl (ho2.alloc _) (w2.heap.size + 1) (some ⟨w2.heap.size, 0, none⟩) 1 1 (kc p) rfl rfl (has_key_new w2 p _) (kc_one _) (by unfold maxLen; omega) (by omega) ?_; intro D3 d3 w3 ho3 hf3)
              | fail)
            go_roundg (gk - 1)
            case measure => omega
            case rel => exact ⟨j + 1, D3, d3, k + 1 + 1, by omega, rfl, rfl, by omega, keep (by rw [Hs.out]; simp; exact hk.out), keep (by rw [Hs.out, rows_append, rows_append, rows_single, rows_single]; exact ho3), keep hf3⟩
          · rw [if_neg hij, List.append_nil] at hstep
            have Hs := keep hstep
            have q1 : ((j : Int) == i) = false := by simpa using fun e : (j : Int) = i => hij e.symm
            clear hstep hij
            have tok : Hid (0 < 1) := keep (by decide)
            go_wp2_with (first
              | (clear tok; refine wpList_append_vals (w0 := wo) key_elem keys_und (by decide) rfl (.tmp 55) (.tmp 60) rfl (fr_new hWW _) D k d (rows kc vs) rfl (hO.out.alloc _) (wr.heap.size + 1) (some ⟨wr.heap.size, 0, none⟩) 1 1 (kc p) rfl rfl (has_key_new wr p _) (kc_one _) (by unfold maxLen; omega) (by omega) ?_; intro D2 d2 w2 ho2 hf2)
              | fail)
            go_roundg (gk - 1)
            case measure => omega
            case rel => exact ⟨j + 1, D2, d2, k + 1, by omega, rfl, rfl, by omega, keep (by rw [Hs.out]; simp; exact hk.out), keep (by rw [Hs.out, rows_append, rows_single]; exact ho2), keep hf2⟩
        · have hjn : j = n2 := by omega
          have hjz : ¬ (j : Int) < (n2 : Int) := by omega
          have hall : ps.take j = ps := List.take_of_length_le (by rw [Hn2.out]; omega)
          rw [hall] at hk hO
          have hend := insW_end (i := i) (x := x) Hn2.out Hlen.out
          have hcap : k ≤ 2 * n2 := by omega
          generalize insW ps i x = vs at *
          clear hall hlt hjn hj hkj
          by_cases hin : i = (n2 : Int)
          · rw [if_pos hin] at hend
            have He := keep hend
            have q1 : (i == (n2 : Int)) = true := by simp [hin]
            have q2 : 0 ≤ i := by omega
            have q3 : i < (n : Int) := by omega
            have hkk := hk
            clear hend hin
            have tok : Hid (0 < 1) := keep (by decide)
            go_wp2_with (first
              | (clear tok; refine wpList_append_vals (w0 := wo) key_elem keys_und (by decide) rfl (.tmp 76) (.tmp 78) rfl (fr_new hWW _) D k d (rows kc vs) rfl (hO.out.alloc _) (wr.heap.size + 1) (some ⟨wr.heap.size, 0, none⟩) 1 1 (kc x) rfl rfl (has_key_new wr x _) (kc_one _) (by unfold maxLen; omega) (by omega) ?_; intro D2 d2 w2 ho2 hf2)
              | fail)
            go_ret2
            rw [HXs.out, He.out]
            exact ⟨D0, d0, D2, d2, by simp [hk1.out, hk.out], by have := (hO1.out.mono (Nat.zero_le _)).below hf2 (Nat.le_refl _); rw [← hk1.out] at this; exact keep this, by have := ho2.mono (Nat.zero_le _); rw [← hk.out] at this; exact keep (by unfold OwnK; rw [List.length_append, rows_append, rows_single]; exact this), fr_step HF.out (fr_step hFo hf2)⟩
          · rw [if_neg hin, List.append_nil] at hend
            have He := keep hend
            have q1 : (i == (n2 : Int)) = false := by simpa using hin
            clear hend hin
            go_wp2_with fail
            go_ret2
            rw [HXs.out, He.out]
            exact ⟨D0, d0, D, d, by simp [hk1.out, hk.out], by have := (hO1.out.mono (Nat.zero_le _)).below hW.out (Nat.le_refl _); rw [← hk1.out] at this; exact keep this, by have := hO.out.mono (Nat.zero_le _); rw [← hk.out] at this; exact keep this, fr_step HF.out (fr_step hFo hWW)⟩
end Go.Proofs.Ytnfoebcfhldemaa
