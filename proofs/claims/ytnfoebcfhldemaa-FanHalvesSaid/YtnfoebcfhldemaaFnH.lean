/- Both halves of the kids, by the program. -/
import Derived.Test.YtnfoebcfhldemaaFnE
namespace Go.Proofs.Ytnfoebcfhldemaa
set_option maxRecDepth 100000
open Go.RowKit
set_option linter.unusedVariables false
attribute [local go_sem ↓] key_ld msg_ld key_st
theorem wpAnyH_memo {P : Program} {ops : Array Oper} {Q : Exit → Act → World → Prop} {md : Region.Mode} {S : World → Prop} {fuel : Nat} {listed : Array Bool} {a : Act} {w : World}
    (h : ∀ F : Nat → Array Bool → Act → World → Prop, (∀ fuel listed a w, F fuel listed a w → wpAnyH P md ops Q S fuel listed a w) → (∀ fuel listed a w, wpAnyH P md ops Q S fuel listed a w → F fuel listed a w) → F fuel listed a w) : wpAnyH P md ops Q S fuel listed a w :=
  h _ (fun _ _ _ _ h => h) (fun _ _ _ _ h => h)
theorem Sty.result6 {P : Program} {T n : Nat} {w : World} (S : Sty P T n) {fn : Func} {a b p c d t : Tmp} (h : fn.results = #[.tmp a, .tmp b, .cell p T, .tmp c, .tmp d, .tmp t]) (tmps : Array Value) (g : Nat) (hp : tmps.getD p undef = .pointer (some ⟨g, 0, none⟩)) {T' : Nat} {cs : List Value} (hl : cs.length = n) (ha : Arr w g T' cs.toArray) :
    (results fn tmps).run P w = .ok (.tuple #[tmps.getD a undef, tmps.getD b undef, .agg cs.toArray, tmps.getD c undef, tmps.getD d undef, tmps.getD t undef]) w := by
  have hp' : tmps[p]?.getD undef = .pointer (some ⟨g, 0, none⟩) := by simpa using hp
  simp [results, h, hp', asAddr, S.load hl ha]
theorem own_setRow {w : World} {B e size n c k : Nat} {A : Option Addr} {xs : List Value} (h : Own w B e size A n c xs) (hk : k < B) (ds : Array Value) : Own (w.setRow k ds) B e size A n c xs :=
  h.kept (row := some k) ⟨rfl, rfl, rfl, by simp [World.setRow], fun j _ hj => setRow_other w k j _ (fun e => hj (by rw [e]))⟩ (by
    cases hA : blk A with
    | none => exact .inl rfl
    | some b =>
      have := (h.lt b hA).1
      exact .inr (fun e => by injection e with e; omega))
theorem zeroK_box (w : World) : ∃ Z, w.alloc (.cells (kc zeroK).toArray 27) = Z ∧ Fr w Z ∧ Fr Z Z ∧ Arr Z w.heap.size 27 (kc zeroK).toArray ∧ Z.heap.size = w.heap.size + 1 := ⟨_, rfl, fr_new (fr_refl w) _, fr_refl _, Arr.new w _ _, by simp⟩
theorem joini1z {W0 w : World} {A : Option Addr} {B n c g : Nat} {l : List Int} (hB : B ≤ w.heap.size) (hb : Has w w.heap.size (some ⟨g, 0, none⟩) [.slice A n c]) (hl : Has w w.heap.size A (ints l)) (hn : l.length = n) (hs : n ≤ 100000) (h0 : Fr W0 w) :
    Calls Try.prog 66 #[.slice (some ⟨g, 0, none⟩) 1 1] w fun e w' => ∃ A' c', e = .returned (.slice A' n c') ∧ Hid (Own w' B 3 1 A' n c' (ints l)) ∧ Fr W0 w' :=
  (joini_at (cc := 1) (xs := [⟨A, n, c, l⟩]) hb (Nat.le_refl _) rfl (by simp) (fun s hs' => by simp at hs'; subst hs'; exact ⟨hl, hn, hs⟩) h0).mono fun e w' h => by
    obtain ⟨A', c', e1, h1, h2⟩ := h
    rw [cat1I, hn] at e1 h1
    exact ⟨A', c', e1, keep (h1.mono hB), h2⟩
theorem joink1z {W0 w : World} {A : Option Addr} {B n c g : Nat} {l : List RK} (hB : B ≤ w.heap.size) (hb : Has w w.heap.size (some ⟨g, 0, none⟩) [.slice A n c]) (hl : Has w w.heap.size A (rows kc l)) (hn : l.length = n) (hs : n ≤ 100000) (h0 : Fr W0 w) :
    Calls Try.prog 67 #[.slice (some ⟨g, 0, none⟩) 1 1] w fun e w' => ∃ A' c', e = .returned (.slice A' n c') ∧ Hid (Own w' B 27 9 A' n c' (rows kc l)) ∧ Fr W0 w' :=
  (joink_at (cc := 1) (xs := [⟨A, n, c, l⟩]) hb (Nat.le_refl _) rfl (by simp) (fun s hs' => by simp at hs'; subst hs'; exact ⟨hl, hn, hs⟩) h0).mono fun e w' h => by
    obtain ⟨A', c', e1, h1, h2⟩ := h
    rw [cat1K, hn] at e1 h1
    exact ⟨A', c', e1, keep (h1.mono hB), h2⟩
def HalfNo : Value := .tuple #[.slice none 0 0, .slice none 0 0, kv zeroK, .slice none 0 0, .slice none 0 0, .bool false]
def HalfOut (W0 : World) (ks : List Int) (ps : List RK) (m : RK) (e : Ending) (w' : World) : Prop := ∃ A1 c1 A2 c2 A3 c3 A4 c4, e = .returned (.tuple #[.slice A1 2 c1, .slice A2 1 c2, kv m, .slice A3 2 c3, .slice A4 1 c4, .bool true]) ∧ Hid (Own w' 0 3 1 A1 2 c1 (ints (ks.take 2))) ∧ Hid (Own w' 0 27 9 A2 1 c2 (rows kc (ps.take 1))) ∧ Hid (Own w' 0 3 1 A3 2 c3 (ints (ks.drop 2))) ∧ Hid (Own w' 0 27 9 A4 1 c4 (rows kc (ps.drop 2))) ∧ Fr W0 w'
set_option maxHeartbeats 2000000 in
theorem fhalves_no {W0 w : World} {A A2 : Option Addr} {n c n2 c2 : Nat} (hn : n < 4) (h0 : Fr W0 w) :
    Calls Try.prog 38 #[.slice A n c, .slice A2 n2 c2] w fun e w' => e = .returned HalfNo ∧ Fr W0 w' := by
  obtain ⟨Z, hZ, hF, hZZ, hK, hS⟩ := zeroK_box w
  rw [zeroK_cells] at hZ
  have H0 := keep h0
  have q1 : ((n : Int) == 4) = false := by simp; omega
  have q2 : ((n : Int) != 4) = true := by simp; omega
  clear h0
  unfold HalfNo
  go_enter Try.func38, Try.ntmps38
  go_wp2_with (first
    | (refine wpList_store_at (ds := kc zeroK) key_info rfl (.tmp 6) (.tmp 18) rfl w.heap.size 0 rfl rfl (kc_len _) (kc_one _) hK (by decide) (splice_all _ _ (by decide)) ?_; intro W5 hM5 hk5; have hF5 := hk5.fr hF (Nat.le_refl _); clear hk5)
    | fail)
  exact bodyPost_ret (keyS.result6 rfl _ w.heap.size rfl (kc_len _) hM5) rfl ⟨rfl, fr_step H0.out hF5⟩
set_option maxHeartbeats 4000000 in
theorem fhalves_at {W0 w : World} {A A2 : Option Addr} {c c2 B B2 : Nat} {ks : List Int} {ps : List RK} {m : RK} (hk : Has w B A (ints ks)) (hB : B ≤ w.heap.size) (hn : ks.length = 4) (hc : 4 ≤ c) (hp : Has w B2 A2 (rows kc ps)) (hB2 : B2 ≤ w.heap.size) (hn2 : ps.length = 3) (hc2 : 3 ≤ c2) (hm : ps[1]? = some m) (h0 : Fr W0 w) :
    Calls Try.prog 38 #[.slice A 4 c, .slice A2 3 c2] w (HalfOut W0 ks ps m) := by
  obtain ⟨Z, hZ, hF, hZZ, hK, hS⟩ := zeroK_box w
  rw [zeroK_cells] at hZ
  have HW0 := keep h0
  have hkZ := (hk.fr hB hF).mono (Nat.le_trans hB hF.size)
  have hpZ := (hp.fr hB2 hF).mono (Nat.le_trans hB2 hF.size)
  obtain ⟨b2, off2, rfl, hb1, hr⟩ := has_rows hp (kwid ps) (by decide) (by intro e; rw [e] at hm; simp at hm)
  have lM := elem_ld keyS hr (kwid ps) (by omega) hm
  simp only [Nat.one_mul] at lM
  have q1 : ∀ W, (Instr.slice 22 (.slice A 4 c) none (some (.int .i64 2)) none).run Try.prog W = .ok (.slice A 2 c) W := ints_slice_hi A 4 c 2 (by decide) hc
  have q2 : ∀ W, (Instr.slice 22 (.slice A 4 c) (some (.int .i64 2)) none none).run Try.prog W = .ok (.slice (lowI A c 2) 2 (c - 2)) W := ints_slice_lo A 4 c 2 (by decide) hc
  have q3 : ∀ W, (Instr.sliceAt 22 (.slice A 4 c) none (some (.int .i64 2)) none).run Try.prog W = .ok (.slice A 2 c) W := ints_sliceAt_hi A 4 c 2 (by decide) hc
  have q4 : ∀ W, (Instr.sliceAt 22 (.slice A 4 c) (some (.int .i64 2)) none none).run Try.prog W = .ok (.slice (lowI A c 2) 2 (c - 2)) W := ints_sliceAt_lo A 4 c 2 (by decide) hc
  have q5 : ∀ W, (Instr.slice 29 (.slice (some ⟨b2, off2, none⟩) 3 c2) none (some (.int .i64 1)) none).run Try.prog W = .ok (.slice (some ⟨b2, off2, none⟩) 1 c2) W := key_slice_hi _ 3 c2 1 (by decide) hc2
  have q6 : ∀ W, (Instr.slice 29 (.slice (some ⟨b2, off2, none⟩) 3 c2) (some (.int .i64 2)) none none).run Try.prog W = .ok (.slice (lowA (some ⟨b2, off2, none⟩) c2 2) 1 (c2 - 2)) W := key_slice_lo _ 3 c2 2 (by decide) hc2
  have q7 : ∀ W, (Instr.sliceAt 29 (.slice (some ⟨b2, off2, none⟩) 3 c2) none (some (.int .i64 1)) none).run Try.prog W = .ok (.slice (some ⟨b2, off2, none⟩) 1 c2) W := key_sliceAt_hi _ 3 c2 1 (by decide) hc2
  have q8 : ∀ W, (Instr.sliceAt 29 (.slice (some ⟨b2, off2, none⟩) 3 c2) (some (.int .i64 2)) none none).run Try.prog W = .ok (.slice (lowA (some ⟨b2, off2, none⟩) c2 2) 1 (c2 - 2)) W := key_sliceAt_lo _ 3 c2 2 (by decide) hc2
  have r1 := has_take_ints hkZ 2
  have r3 := has_ilow (c := c) hkZ (t := 2) (by rw [hn]; decide) (by rw [hn]; exact hc)
  have k1 : Has Z Z.heap.size (some ⟨b2, off2, none⟩) (rows kc (ps.take 1)) := has_hi hpZ 1
  have k3 : Has Z Z.heap.size (lowA (some ⟨b2, off2, none⟩) c2 2) (rows kc (ps.drop 2)) := has_klow (c := c2) hpZ (t := 2) (by rw [hn2]; decide) (by rw [hn2]; exact hc2)
  have e1 : (ks.take 2).length = 2 := by rw [List.length_take, hn]; rfl
  have e3 : (ks.drop 2).length = 2 := by rw [List.length_drop, hn]
  have f1 : (ps.take 1).length = 1 := by rw [List.length_take, hn2]; rfl
  have f3 : (ps.drop 2).length = 1 := by rw [List.length_drop, hn2]
  have cJ1 : ∀ W g, Fr Z W → Has W W.heap.size (some ⟨g, 0, none⟩) [.slice A 2 c] → Calls Try.prog 66 #[.slice (some ⟨g, 0, none⟩) 1 1] W fun e w' => ∃ A' c', e = .returned (.slice A' 2 c') ∧ Hid (Own w' Z.heap.size 3 1 A' 2 c' (ints (ks.take 2))) ∧ Fr W w' := fun W g h hb => joini1z h.size hb (r1.step h) e1 (by decide) (fr_refl W)
  have cJ3 : ∀ W g, Fr Z W → Has W W.heap.size (some ⟨g, 0, none⟩) [.slice (lowI A c 2) 2 (c - 2)] → Calls Try.prog 66 #[.slice (some ⟨g, 0, none⟩) 1 1] W fun e w' => ∃ A' c', e = .returned (.slice A' 2 c') ∧ Hid (Own w' Z.heap.size 3 1 A' 2 c' (ints (ks.drop 2))) ∧ Fr W w' := fun W g h hb => joini1z h.size hb (r3.step h) e3 (by decide) (fr_refl W)
  have cK1 : ∀ W g, Fr Z W → Has W W.heap.size (some ⟨g, 0, none⟩) [.slice (some ⟨b2, off2, none⟩) 1 c2] → Calls Try.prog 67 #[.slice (some ⟨g, 0, none⟩) 1 1] W fun e w' => ∃ A' c', e = .returned (.slice A' 1 c') ∧ Hid (Own w' Z.heap.size 27 9 A' 1 c' (rows kc (ps.take 1))) ∧ Fr W w' := fun W g h hb => joink1z h.size hb (k1.step h) f1 (by decide) (fr_refl W)
  have cK3 : ∀ W g, Fr Z W → Has W W.heap.size (some ⟨g, 0, none⟩) [.slice (lowA (some ⟨b2, off2, none⟩) c2 2) 1 (c2 - 2)] → Calls Try.prog 67 #[.slice (some ⟨g, 0, none⟩) 1 1] W fun e w' => ∃ A' c', e = .returned (.slice A' 1 c') ∧ Hid (Own w' Z.heap.size 27 9 A' 1 c' (rows kc (ps.drop 2))) ∧ Fr W w' := fun W g h hb => joink1z h.size hb (k3.step h) f3 (by decide) (fr_refl W)
  have hrD := fr_drew hZZ
  have hFw := hF
  have hwD := fr_drew hF
  have hKZ := keep hK
  have hSz := keep hS
  clear hk hp hkZ hpZ hr hm hn hn2 hF h0 r1 r3 k1 k3 e1 e3 f1 f3 hB hB2 hK hS
  unfold HalfOut
  go_enter Try.func38, Try.ntmps38
  go_wp2_with fail
  refine wp_region_noPanic ?_
  refine wp_region_held_drew (S := fun w' => Fr w w') (by kernel_rfl) hwD (fun hHeld => ?_)
  change wpAnyH _ _ _ _ _ _ _ _ _
  clear hHeld
  generalize Z.drew = X0 at *
  refine wpAnyH_take (i := 0) (v := ?_) rfl (by kernel_rfl) (by kernel_rfl) (by kernel_rfl) (fun _ _ _ h => h) (Or.inl ⟨by rfl, ?_⟩) (by assumption) ?_
  rotate_left
  · intro w' hSw
    try dsimp only at hSw
    go_simp
    try with_reducible rfl
  try simp only [List.getElem_toArray, List.getElem_cons_zero, Act.put, List.setIfInBounds_toArray, List.set_cons_zero, List.set_cons_succ]
  refine wpAnyH_take (i := 1) (v := ?_) rfl (by kernel_rfl) (by kernel_rfl) (by kernel_rfl) (fun _ _ _ h => h) (Or.inl ⟨by rfl, ?_⟩) (by assumption) ?_
  rotate_left
  · intro w' hSw
    try dsimp only at hSw
    go_simp
    try with_reducible rfl
  try simp only [List.getElem_toArray, List.getElem_cons_succ, List.getElem_cons_zero, Act.put, List.setIfInBounds_toArray, List.set_cons_zero, List.set_cons_succ]
  refine wpAnyH_take (i := 4) (v := ?_) rfl (by kernel_rfl) (by kernel_rfl) (by kernel_rfl) (fun _ _ _ h => h) (Or.inl ⟨by rfl, ?_⟩) (by assumption) ?_
  rotate_left
  · intro w' hSw
    try dsimp only at hSw
    go_simp
    try with_reducible rfl
  try simp only [List.getElem_toArray, List.getElem_cons_succ, List.getElem_cons_zero, Act.put, List.setIfInBounds_toArray, List.set_cons_zero, List.set_cons_succ]
  refine wpAnyH_take (i := 5) (v := ?_) rfl (by kernel_rfl) (by kernel_rfl) (by kernel_rfl) (fun _ _ _ h => h) (Or.inl ⟨by rfl, ?_⟩) (by assumption) ?_
  rotate_left
  · intro w' hSw
    try dsimp only at hSw
    go_simp
    try with_reducible rfl
  try simp only [List.getElem_toArray, List.getElem_cons_succ, List.getElem_cons_zero, Act.put, List.setIfInBounds_toArray, List.set_cons_zero, List.set_cons_succ]
  refine wpAnyH_take (i := 8) (v := ?_) rfl (by kernel_rfl) (by kernel_rfl) (by kernel_rfl) (fun _ _ _ h => h) (Or.inl ⟨by rfl, ?_⟩) (by assumption) ?_
  rotate_left
  · intro w' hSw
    try dsimp only at hSw
    go_simp
    try with_reducible rfl
  try simp only [List.getElem_toArray, List.getElem_cons_succ, List.getElem_cons_zero, Act.put, List.setIfInBounds_toArray, List.set_cons_zero, List.set_cons_succ]
  refine wpAnyH_take (i := 9) (v := ?_) rfl (by kernel_rfl) (by kernel_rfl) (by kernel_rfl) (fun _ _ _ h => h) (Or.inl ⟨by rfl, ?_⟩) (by assumption) ?_
  rotate_left
  · intro w' hSw
    try dsimp only at hSw
    go_simp
    try with_reducible rfl
  try simp only [List.getElem_toArray, List.getElem_cons_succ, List.getElem_cons_zero, Act.put, List.setIfInBounds_toArray, List.set_cons_zero, List.set_cons_succ]
  refine wpAnyH_take (i := 10) (v := ?_) rfl (by kernel_rfl) (by kernel_rfl) (by kernel_rfl) (fun _ _ _ h => h) (Or.inl ⟨by rfl, ?_⟩) (by assumption) ?_
  rotate_left
  · intro w' hSw
    try dsimp only at hSw
    go_simp
    try with_reducible rfl
  try simp only [List.getElem_toArray, List.getElem_cons_succ, List.getElem_cons_zero, Act.put, List.setIfInBounds_toArray, List.set_cons_zero, List.set_cons_succ]
  refine wpAnyH_take (i := 11) (v := ?_) rfl (by kernel_rfl) (by kernel_rfl) (by kernel_rfl) (fun _ _ _ h => h) (Or.inl ⟨by rfl, ?_⟩) (by assumption) ?_
  rotate_left
  · intro w' hSw
    try dsimp only at hSw
    go_simp
    try with_reducible rfl
  try simp only [List.getElem_toArray, List.getElem_cons_succ, List.getElem_cons_zero, Act.put, List.setIfInBounds_toArray, List.set_cons_zero, List.set_cons_succ]
  refine wpAnyH_take (i := 12) (v := ?_) rfl (by kernel_rfl) (by kernel_rfl) (by kernel_rfl) (fun _ _ _ h => h) (Or.inl ⟨by rfl, ?_⟩) (by assumption) ?_
  rotate_left
  · intro w' hSw
    try dsimp only at hSw
    go_simp
    try with_reducible rfl
  try simp only [List.getElem_toArray, List.getElem_cons_succ, List.getElem_cons_zero, Act.put, List.setIfInBounds_toArray, List.set_cons_zero, List.set_cons_succ]
  refine wpAnyH_take (i := 15) (v := ?_) rfl (by kernel_rfl) (by kernel_rfl) (by kernel_rfl) (fun _ _ _ h => h) (Or.inl ⟨by rfl, ?_⟩) (by assumption) ?_
  rotate_left
  · intro w' hSw
    try dsimp only at hSw
    go_simp
    try with_reducible rfl
  try simp only [List.getElem_toArray, List.getElem_cons_succ, List.getElem_cons_zero, Act.put, List.setIfInBounds_toArray, List.set_cons_zero, List.set_cons_succ]
  refine wpAnyH_take (i := 16) (v := ?_) rfl (by kernel_rfl) (by kernel_rfl) (by kernel_rfl) (fun _ _ _ h => h) (Or.inl ⟨by rfl, ?_⟩) (by assumption) ?_
  rotate_left
  · intro w' hSw
    try dsimp only at hSw
    go_simp
    try with_reducible rfl
  try simp only [List.getElem_toArray, List.getElem_cons_succ, List.getElem_cons_zero, Act.put, List.setIfInBounds_toArray, List.set_cons_zero, List.set_cons_succ]
  refine wpAnyH_memo ?_
  intro F hF hB
  have M_2_3_6_7_13_14_17_18 : ∀ (g2 : Nat) (A3 : Option Addr) (c3 : Nat) (g6 : Nat) (A7 : Option Addr) (c7 : Nat) (g13 : Nat) (A14 : Option Addr) (c14 : Nat) (g17 : Nat) (A18 : Option Addr) (c18 : Nat) (W : World) (ls : Array Bool), ls = #[true, true, true, true, true, true, true, true, true, true, true, true, true, true, true, true, true, true, true, false, false, false, false, false, false] → Fr Z W → Hid (Own W Z.heap.size 3 1 A3 2 c3 (ints (ks.take 2))) → Hid (Own W Z.heap.size 27 9 A7 1 c7 (rows kc (ps.take 1))) → Hid (Own W Z.heap.size 3 1 A14 2 c14 (ints (ks.drop 2))) → Hid (Own W Z.heap.size 27 9 A18 1 c18 (rows kc (ps.drop 2))) → F 6 ls ⟨#[.slice A 4 c, .slice (some ⟨b2, off2, none⟩) 3 c2, undef, undef, .slice none 0 0, .slice none 0 0, .pointer (some ⟨w.heap.size, 0, none⟩), .slice none 0 0, .slice none 0 0, .bool false, .slice A 4 c, .int .i64 4, .bool false, .bool false, .slice (some ⟨b2, off2, none⟩) 3 c2, .int .i64 3, .bool false, .bool false, undef, .slice A 4 c, .slice A 2 c, .slice (some ⟨g2, 0, none⟩) 1 1, .slice A3 2 c3, .slice (some ⟨b2, off2, none⟩) 3 c2, .slice (some ⟨b2, off2, none⟩) 1 c2, .slice (some ⟨g6, 0, none⟩) 1 1, .slice A7 1 c7, .slice (some ⟨b2, off2, none⟩) 3 c2, .pointer (some ⟨b2, off2 + 9, none⟩), .agg (kc m).toArray, .slice A 4 c, .slice (lowI A c 2) 2 (c - 2), .slice (some ⟨g13, 0, none⟩) 1 1, .slice A14 2 c14, .slice (some ⟨b2, off2, none⟩) 3 c2, .slice (lowA (some ⟨b2, off2, none⟩) c2 2) 1 (c2 - 2), .slice (some ⟨g17, 0, none⟩) 1 1, .slice A18 1 c18], []⟩ W := by
    intro g2 A3 c3 g6 A7 c7 g13 A14 c14 g17 A18 c18 W ls hls hw r3 r7 r14 r18
    subst hls
    refine hB _ _ _ _ ?_
    have hwW := fr_step hFw hw
    have hob : OwnB W w.heap.size 27 9 := OwnB.of (hKZ.out.below hw hKZ.out.lt) (kc_len _)
    have st : (stS 27 (.pointer (some ⟨w.heap.size, 0, none⟩)) (.agg (kc m).toArray)).run Try.prog W = .ok () (W.setRow w.heap.size (kc m).toArray) := st_run key_info hob (kc_len _) (kc_one _)
    have hset : Fr w (W.setRow w.heap.size (kc m).toArray) := fr_setRow hwW (Nat.le_refl _) _
    refine wpAnyH_take (i := 19) (v := ?_) rfl (by kernel_rfl) (by kernel_rfl) (by kernel_rfl) (fun _ _ _ h => h) (Or.inl ⟨by rfl, ?_⟩) (by assumption) ?_
    rotate_left
    · intro w' hSw
      try dsimp only at hSw
      go_simp
      try with_reducible rfl
    try simp only [List.getElem_toArray, List.getElem_cons_succ, List.getElem_cons_zero, Act.put, List.setIfInBounds_toArray, List.set_cons_zero, List.set_cons_succ]
    refine wpAnyH_take (i := 20) (v := ?_) rfl (by kernel_rfl) (by kernel_rfl) (by kernel_rfl) (fun _ _ _ h => h) (Or.inl ⟨by rfl, ?_⟩) (by assumption) ?_
    rotate_left
    · intro w' hSw
      try dsimp only at hSw
      go_simp
      try with_reducible rfl
    try simp only [List.getElem_toArray, List.getElem_cons_succ, List.getElem_cons_zero, Act.put, List.setIfInBounds_toArray, List.set_cons_zero, List.set_cons_succ]
    refine wpAnyH_ready (rs := [21]) (by kernel_rfl) (by simp) ?_
    refine AllReadyH.cons rfl (fun K hK0 => ?_) AllReadyH.nil
    go_simp
    refine hK0.out _ _ hset (fun _ => ?_)
    clear hK0 K
    try simp only [List.setIfInBounds_toArray, List.set_cons_zero, List.set_cons_succ]
    refine wpAnyH_take (i := 22) (v := ?_) rfl (by kernel_rfl) (by kernel_rfl) (by kernel_rfl) (fun _ _ _ h => h) (Or.inl ⟨by rfl, ?_⟩) (by assumption) ?_
    rotate_left
    · intro w' hSw
      try dsimp only at hSw
      go_simp
      try with_reducible rfl
    try simp only [List.getElem_toArray, List.getElem_cons_succ, List.getElem_cons_zero, Act.put, List.setIfInBounds_toArray, List.set_cons_zero, List.set_cons_succ]
    refine wpAnyH_take (i := 23) (v := ?_) rfl (by kernel_rfl) (by kernel_rfl) (by kernel_rfl) (fun _ _ _ h => h) (Or.inl ⟨by rfl, ?_⟩) (by assumption) ?_
    rotate_left
    · intro w' hSw
      try dsimp only at hSw
      go_simp
      try with_reducible rfl
    try simp only [List.getElem_toArray, List.getElem_cons_succ, List.getElem_cons_zero, Act.put, List.setIfInBounds_toArray, List.set_cons_zero, List.set_cons_succ]
    refine wpAnyH_take (i := 24) (v := ?_) rfl (by kernel_rfl) (by kernel_rfl) (by kernel_rfl) (fun _ _ _ h => h) (Or.inl ⟨by rfl, ?_⟩) (by assumption) ?_
    rotate_left
    · intro w' hSw
      try dsimp only at hSw
      go_simp
      try with_reducible rfl
    try simp only [List.getElem_toArray, List.getElem_cons_succ, List.getElem_cons_zero, Act.put, List.setIfInBounds_toArray, List.set_cons_zero, List.set_cons_succ]
    refine wpAnyH_done (by kernel_rfl) ?_ _
    refine NoPanic.normal ?_
    go_wp2_with fail
    refine bodyPost_ret (keyS.result6 (cs := kc m) rfl _ w.heap.size rfl (kc_len _) (OwnB.put hob _)) rfl ?_
    have hlt : w.heap.size < Z.heap.size := by rw [hSz.out]; omega
    exact ⟨A3, c3, A7, c7, A14, c14, A18, c18, rfl, keep ((own_setRow r3.out hlt _).mono (Nat.zero_le _)), keep ((own_setRow r7.out hlt _).mono (Nat.zero_le _)), keep ((own_setRow r14.out hlt _).mono (Nat.zero_le _)), keep ((own_setRow r18.out hlt _).mono (Nat.zero_le _)), fr_step HW0.out hset⟩
  have M_2_3_6_7_13_14_17 : ∀ (g2 : Nat) (A3 : Option Addr) (c3 : Nat) (g6 : Nat) (A7 : Option Addr) (c7 : Nat) (g13 : Nat) (A14 : Option Addr) (c14 : Nat) (g17 : Nat) (W : World) (ls : Array Bool), ls = #[true, true, true, true, true, true, true, true, true, true, true, true, true, true, true, true, true, true, false, false, false, false, false, false, false] → Fr Z W → Hid (Own W Z.heap.size 3 1 A3 2 c3 (ints (ks.take 2))) → Hid (Own W Z.heap.size 27 9 A7 1 c7 (rows kc (ps.take 1))) → Hid (Own W Z.heap.size 3 1 A14 2 c14 (ints (ks.drop 2))) → Has W W.heap.size (some ⟨g17, 0, none⟩) [.slice (lowA (some ⟨b2, off2, none⟩) c2 2) 1 (c2 - 2)] → F 7 ls ⟨#[.slice A 4 c, .slice (some ⟨b2, off2, none⟩) 3 c2, undef, undef, .slice none 0 0, .slice none 0 0, .pointer (some ⟨w.heap.size, 0, none⟩), .slice none 0 0, .slice none 0 0, .bool false, .slice A 4 c, .int .i64 4, .bool false, .bool false, .slice (some ⟨b2, off2, none⟩) 3 c2, .int .i64 3, .bool false, .bool false, undef, .slice A 4 c, .slice A 2 c, .slice (some ⟨g2, 0, none⟩) 1 1, .slice A3 2 c3, .slice (some ⟨b2, off2, none⟩) 3 c2, .slice (some ⟨b2, off2, none⟩) 1 c2, .slice (some ⟨g6, 0, none⟩) 1 1, .slice A7 1 c7, .slice (some ⟨b2, off2, none⟩) 3 c2, .pointer (some ⟨b2, off2 + 9, none⟩), .agg (kc m).toArray, .slice A 4 c, .slice (lowI A c 2) 2 (c - 2), .slice (some ⟨g13, 0, none⟩) 1 1, .slice A14 2 c14, .slice (some ⟨b2, off2, none⟩) 3 c2, .slice (lowA (some ⟨b2, off2, none⟩) c2 2) 1 (c2 - 2), .slice (some ⟨g17, 0, none⟩) 1 1, undef], []⟩ W := by
    intro g2 A3 c3 g6 A7 c7 g13 A14 c14 g17 W ls hls hw r3 r7 r14 r17
    subst hls
    refine hB _ _ _ _ ?_
    refine wpAnyH_ready (rs := [18]) (by kernel_rfl) (by simp) ?_
    refine AllReadyH.cons rfl (fun K hK0 => ?_) (AllReadyH.nil)
    · go_simp
      refine (cK3 W g17 hw r17).mono ?_
      rintro e W2 ⟨A18, c18, rfl, r18, s2⟩
      go_simp
      refine hK0.out _ _ (fr_step hFw (fr_step hw s2)) (fun _ => ?_)
      clear hK0 K
      try simp only [List.setIfInBounds_toArray, List.set_cons_zero, List.set_cons_succ]
      exact hF _ _ _ _ (M_2_3_6_7_13_14_17_18 g2 A3 c3 g6 A7 c7 g13 A14 c14 g17 A18 c18 W2 _ (by kernel_rfl) (fr_step hw s2) (keep (Own.below r3.out s2 (Nat.le_refl _))) (keep (Own.below r7.out s2 (Nat.le_refl _))) (keep (Own.below r14.out s2 (Nat.le_refl _))) (r18))
  have M_2_3_6_7_13_14 : ∀ (g2 : Nat) (A3 : Option Addr) (c3 : Nat) (g6 : Nat) (A7 : Option Addr) (c7 : Nat) (g13 : Nat) (A14 : Option Addr) (c14 : Nat) (W : World) (ls : Array Bool), ls = #[true, true, true, true, true, true, true, true, true, true, true, true, true, true, true, true, true, false, false, false, false, false, false, false, false] → Fr Z W → Hid (Own W Z.heap.size 3 1 A3 2 c3 (ints (ks.take 2))) → Hid (Own W Z.heap.size 27 9 A7 1 c7 (rows kc (ps.take 1))) → Hid (Own W Z.heap.size 3 1 A14 2 c14 (ints (ks.drop 2))) → F 8 ls ⟨#[.slice A 4 c, .slice (some ⟨b2, off2, none⟩) 3 c2, undef, undef, .slice none 0 0, .slice none 0 0, .pointer (some ⟨w.heap.size, 0, none⟩), .slice none 0 0, .slice none 0 0, .bool false, .slice A 4 c, .int .i64 4, .bool false, .bool false, .slice (some ⟨b2, off2, none⟩) 3 c2, .int .i64 3, .bool false, .bool false, undef, .slice A 4 c, .slice A 2 c, .slice (some ⟨g2, 0, none⟩) 1 1, .slice A3 2 c3, .slice (some ⟨b2, off2, none⟩) 3 c2, .slice (some ⟨b2, off2, none⟩) 1 c2, .slice (some ⟨g6, 0, none⟩) 1 1, .slice A7 1 c7, .slice (some ⟨b2, off2, none⟩) 3 c2, .pointer (some ⟨b2, off2 + 9, none⟩), .agg (kc m).toArray, .slice A 4 c, .slice (lowI A c 2) 2 (c - 2), .slice (some ⟨g13, 0, none⟩) 1 1, .slice A14 2 c14, .slice (some ⟨b2, off2, none⟩) 3 c2, .slice (lowA (some ⟨b2, off2, none⟩) c2 2) 1 (c2 - 2), undef, undef], []⟩ W := by
    intro g2 A3 c3 g6 A7 c7 g13 A14 c14 W ls hls hw r3 r7 r14
    subst hls
    refine hB _ _ _ _ ?_
    refine wpAnyH_ready (rs := [17]) (by kernel_rfl) (by simp) ?_
    refine AllReadyH.cons rfl (fun K hK0 => ?_) (AllReadyH.nil)
    · go_simp
      refine hK0.out _ _ (fr_step hFw (fr_new hw _)) (fun _ => ?_)
      clear hK0 K
      try simp only [List.setIfInBounds_toArray, List.set_cons_zero, List.set_cons_succ]
      exact hF _ _ _ _ (M_2_3_6_7_13_14_17 g2 A3 c3 g6 A7 c7 g13 A14 c14 W.heap.size (W.alloc (.cells [.slice (lowA (some ⟨b2, off2, none⟩) c2 2) 1 (c2 - 2)].toArray 29)) _ (by kernel_rfl) (fr_step hw (fr_new (fr_refl W) _)) (keep (Own.below r3.out (fr_new (fr_refl W) _) (Nat.le_refl _))) (keep (Own.below r7.out (fr_new (fr_refl W) _) (Nat.le_refl _))) (keep (Own.below r14.out (fr_new (fr_refl W) _) (Nat.le_refl _))) (has_blk (Arr.new W [.slice (lowA (some ⟨b2, off2, none⟩) c2 2) 1 (c2 - 2)].toArray 29)))
  have M_2_3_6_7_13_17 : ∀ (g2 : Nat) (A3 : Option Addr) (c3 : Nat) (g6 : Nat) (A7 : Option Addr) (c7 : Nat) (g13 : Nat) (g17 : Nat) (W : World) (ls : Array Bool), ls = #[true, true, true, true, true, true, true, true, true, true, true, true, true, true, false, true, true, true, false, false, false, false, false, false, false] → Fr Z W → Hid (Own W Z.heap.size 3 1 A3 2 c3 (ints (ks.take 2))) → Hid (Own W Z.heap.size 27 9 A7 1 c7 (rows kc (ps.take 1))) → Has W W.heap.size (some ⟨g13, 0, none⟩) [.slice (lowI A c 2) 2 (c - 2)] → Has W W.heap.size (some ⟨g17, 0, none⟩) [.slice (lowA (some ⟨b2, off2, none⟩) c2 2) 1 (c2 - 2)] → F 8 ls ⟨#[.slice A 4 c, .slice (some ⟨b2, off2, none⟩) 3 c2, undef, undef, .slice none 0 0, .slice none 0 0, .pointer (some ⟨w.heap.size, 0, none⟩), .slice none 0 0, .slice none 0 0, .bool false, .slice A 4 c, .int .i64 4, .bool false, .bool false, .slice (some ⟨b2, off2, none⟩) 3 c2, .int .i64 3, .bool false, .bool false, undef, .slice A 4 c, .slice A 2 c, .slice (some ⟨g2, 0, none⟩) 1 1, .slice A3 2 c3, .slice (some ⟨b2, off2, none⟩) 3 c2, .slice (some ⟨b2, off2, none⟩) 1 c2, .slice (some ⟨g6, 0, none⟩) 1 1, .slice A7 1 c7, .slice (some ⟨b2, off2, none⟩) 3 c2, .pointer (some ⟨b2, off2 + 9, none⟩), .agg (kc m).toArray, .slice A 4 c, .slice (lowI A c 2) 2 (c - 2), .slice (some ⟨g13, 0, none⟩) 1 1, undef, .slice (some ⟨b2, off2, none⟩) 3 c2, .slice (lowA (some ⟨b2, off2, none⟩) c2 2) 1 (c2 - 2), .slice (some ⟨g17, 0, none⟩) 1 1, undef], []⟩ W := by
    intro g2 A3 c3 g6 A7 c7 g13 g17 W ls hls hw r3 r7 r13 r17
    subst hls
    refine hB _ _ _ _ ?_
    refine wpAnyH_ready (rs := [14]) (by kernel_rfl) (by simp) ?_
    refine AllReadyH.cons rfl (fun K hK0 => ?_) (AllReadyH.nil)
    · go_simp
      refine (cJ3 W g13 hw r13).mono ?_
      rintro e W2 ⟨A14, c14, rfl, r14, s2⟩
      go_simp
      refine hK0.out _ _ (fr_step hFw (fr_step hw s2)) (fun _ => ?_)
      clear hK0 K
      try simp only [List.setIfInBounds_toArray, List.set_cons_zero, List.set_cons_succ]
      exact hF _ _ _ _ (M_2_3_6_7_13_14_17 g2 A3 c3 g6 A7 c7 g13 A14 c14 g17 W2 _ (by kernel_rfl) (fr_step hw s2) (keep (Own.below r3.out s2 (Nat.le_refl _))) (keep (Own.below r7.out s2 (Nat.le_refl _))) (r14) (r17.step s2))
  have M_2_3_6_7_13 : ∀ (g2 : Nat) (A3 : Option Addr) (c3 : Nat) (g6 : Nat) (A7 : Option Addr) (c7 : Nat) (g13 : Nat) (W : World) (ls : Array Bool), ls = #[true, true, true, true, true, true, true, true, true, true, true, true, true, true, false, true, true, false, false, false, false, false, false, false, false] → Fr Z W → Hid (Own W Z.heap.size 3 1 A3 2 c3 (ints (ks.take 2))) → Hid (Own W Z.heap.size 27 9 A7 1 c7 (rows kc (ps.take 1))) → Has W W.heap.size (some ⟨g13, 0, none⟩) [.slice (lowI A c 2) 2 (c - 2)] → F 9 ls ⟨#[.slice A 4 c, .slice (some ⟨b2, off2, none⟩) 3 c2, undef, undef, .slice none 0 0, .slice none 0 0, .pointer (some ⟨w.heap.size, 0, none⟩), .slice none 0 0, .slice none 0 0, .bool false, .slice A 4 c, .int .i64 4, .bool false, .bool false, .slice (some ⟨b2, off2, none⟩) 3 c2, .int .i64 3, .bool false, .bool false, undef, .slice A 4 c, .slice A 2 c, .slice (some ⟨g2, 0, none⟩) 1 1, .slice A3 2 c3, .slice (some ⟨b2, off2, none⟩) 3 c2, .slice (some ⟨b2, off2, none⟩) 1 c2, .slice (some ⟨g6, 0, none⟩) 1 1, .slice A7 1 c7, .slice (some ⟨b2, off2, none⟩) 3 c2, .pointer (some ⟨b2, off2 + 9, none⟩), .agg (kc m).toArray, .slice A 4 c, .slice (lowI A c 2) 2 (c - 2), .slice (some ⟨g13, 0, none⟩) 1 1, undef, .slice (some ⟨b2, off2, none⟩) 3 c2, .slice (lowA (some ⟨b2, off2, none⟩) c2 2) 1 (c2 - 2), undef, undef], []⟩ W := by
    intro g2 A3 c3 g6 A7 c7 g13 W ls hls hw r3 r7 r13
    subst hls
    refine hB _ _ _ _ ?_
    refine wpAnyH_ready (rs := [14, 17]) (by kernel_rfl) (by simp) ?_
    refine AllReadyH.cons rfl (fun K hK0 => ?_) (AllReadyH.cons rfl (fun K hK0 => ?_) (AllReadyH.nil))
    · go_simp
      refine (cJ3 W g13 hw r13).mono ?_
      rintro e W2 ⟨A14, c14, rfl, r14, s2⟩
      go_simp
      refine hK0.out _ _ (fr_step hFw (fr_step hw s2)) (fun _ => ?_)
      clear hK0 K
      try simp only [List.setIfInBounds_toArray, List.set_cons_zero, List.set_cons_succ]
      exact hF _ _ _ _ (M_2_3_6_7_13_14 g2 A3 c3 g6 A7 c7 g13 A14 c14 W2 _ (by kernel_rfl) (fr_step hw s2) (keep (Own.below r3.out s2 (Nat.le_refl _))) (keep (Own.below r7.out s2 (Nat.le_refl _))) (r14))
    · go_simp
      refine hK0.out _ _ (fr_step hFw (fr_new hw _)) (fun _ => ?_)
      clear hK0 K
      try simp only [List.setIfInBounds_toArray, List.set_cons_zero, List.set_cons_succ]
      exact hF _ _ _ _ (M_2_3_6_7_13_17 g2 A3 c3 g6 A7 c7 g13 W.heap.size (W.alloc (.cells [.slice (lowA (some ⟨b2, off2, none⟩) c2 2) 1 (c2 - 2)].toArray 29)) _ (by kernel_rfl) (fr_step hw (fr_new (fr_refl W) _)) (keep (Own.below r3.out (fr_new (fr_refl W) _) (Nat.le_refl _))) (keep (Own.below r7.out (fr_new (fr_refl W) _) (Nat.le_refl _))) (r13.step (fr_new (fr_refl W) _)) (has_blk (Arr.new W [.slice (lowA (some ⟨b2, off2, none⟩) c2 2) 1 (c2 - 2)].toArray 29)))
  have M_2_3_6_7_17 : ∀ (g2 : Nat) (A3 : Option Addr) (c3 : Nat) (g6 : Nat) (A7 : Option Addr) (c7 : Nat) (g17 : Nat) (W : World) (ls : Array Bool), ls = #[true, true, true, true, true, true, true, true, true, true, true, true, true, false, false, true, true, true, false, false, false, false, false, false, false] → Fr Z W → Hid (Own W Z.heap.size 3 1 A3 2 c3 (ints (ks.take 2))) → Hid (Own W Z.heap.size 27 9 A7 1 c7 (rows kc (ps.take 1))) → Has W W.heap.size (some ⟨g17, 0, none⟩) [.slice (lowA (some ⟨b2, off2, none⟩) c2 2) 1 (c2 - 2)] → F 9 ls ⟨#[.slice A 4 c, .slice (some ⟨b2, off2, none⟩) 3 c2, undef, undef, .slice none 0 0, .slice none 0 0, .pointer (some ⟨w.heap.size, 0, none⟩), .slice none 0 0, .slice none 0 0, .bool false, .slice A 4 c, .int .i64 4, .bool false, .bool false, .slice (some ⟨b2, off2, none⟩) 3 c2, .int .i64 3, .bool false, .bool false, undef, .slice A 4 c, .slice A 2 c, .slice (some ⟨g2, 0, none⟩) 1 1, .slice A3 2 c3, .slice (some ⟨b2, off2, none⟩) 3 c2, .slice (some ⟨b2, off2, none⟩) 1 c2, .slice (some ⟨g6, 0, none⟩) 1 1, .slice A7 1 c7, .slice (some ⟨b2, off2, none⟩) 3 c2, .pointer (some ⟨b2, off2 + 9, none⟩), .agg (kc m).toArray, .slice A 4 c, .slice (lowI A c 2) 2 (c - 2), undef, undef, .slice (some ⟨b2, off2, none⟩) 3 c2, .slice (lowA (some ⟨b2, off2, none⟩) c2 2) 1 (c2 - 2), .slice (some ⟨g17, 0, none⟩) 1 1, undef], []⟩ W := by
    intro g2 A3 c3 g6 A7 c7 g17 W ls hls hw r3 r7 r17
    subst hls
    refine hB _ _ _ _ ?_
    refine wpAnyH_ready (rs := [13]) (by kernel_rfl) (by simp) ?_
    refine AllReadyH.cons rfl (fun K hK0 => ?_) (AllReadyH.nil)
    · go_simp
      refine hK0.out _ _ (fr_step hFw (fr_new hw _)) (fun _ => ?_)
      clear hK0 K
      try simp only [List.setIfInBounds_toArray, List.set_cons_zero, List.set_cons_succ]
      exact hF _ _ _ _ (M_2_3_6_7_13_17 g2 A3 c3 g6 A7 c7 W.heap.size g17 (W.alloc (.cells [.slice (lowI A c 2) 2 (c - 2)].toArray 22)) _ (by kernel_rfl) (fr_step hw (fr_new (fr_refl W) _)) (keep (Own.below r3.out (fr_new (fr_refl W) _) (Nat.le_refl _))) (keep (Own.below r7.out (fr_new (fr_refl W) _) (Nat.le_refl _))) (has_blk (Arr.new W [.slice (lowI A c 2) 2 (c - 2)].toArray 22)) (r17.step (fr_new (fr_refl W) _)))
  have M_2_3_6_13_17 : ∀ (g2 : Nat) (A3 : Option Addr) (c3 : Nat) (g6 : Nat) (g13 : Nat) (g17 : Nat) (W : World) (ls : Array Bool), ls = #[true, true, true, true, true, true, true, false, true, true, true, true, true, true, false, true, true, true, false, false, false, false, false, false, false] → Fr Z W → Hid (Own W Z.heap.size 3 1 A3 2 c3 (ints (ks.take 2))) → Has W W.heap.size (some ⟨g6, 0, none⟩) [.slice (some ⟨b2, off2, none⟩) 1 c2] → Has W W.heap.size (some ⟨g13, 0, none⟩) [.slice (lowI A c 2) 2 (c - 2)] → Has W W.heap.size (some ⟨g17, 0, none⟩) [.slice (lowA (some ⟨b2, off2, none⟩) c2 2) 1 (c2 - 2)] → F 9 ls ⟨#[.slice A 4 c, .slice (some ⟨b2, off2, none⟩) 3 c2, undef, undef, .slice none 0 0, .slice none 0 0, .pointer (some ⟨w.heap.size, 0, none⟩), .slice none 0 0, .slice none 0 0, .bool false, .slice A 4 c, .int .i64 4, .bool false, .bool false, .slice (some ⟨b2, off2, none⟩) 3 c2, .int .i64 3, .bool false, .bool false, undef, .slice A 4 c, .slice A 2 c, .slice (some ⟨g2, 0, none⟩) 1 1, .slice A3 2 c3, .slice (some ⟨b2, off2, none⟩) 3 c2, .slice (some ⟨b2, off2, none⟩) 1 c2, .slice (some ⟨g6, 0, none⟩) 1 1, undef, .slice (some ⟨b2, off2, none⟩) 3 c2, .pointer (some ⟨b2, off2 + 9, none⟩), .agg (kc m).toArray, .slice A 4 c, .slice (lowI A c 2) 2 (c - 2), .slice (some ⟨g13, 0, none⟩) 1 1, undef, .slice (some ⟨b2, off2, none⟩) 3 c2, .slice (lowA (some ⟨b2, off2, none⟩) c2 2) 1 (c2 - 2), .slice (some ⟨g17, 0, none⟩) 1 1, undef], []⟩ W := by
    intro g2 A3 c3 g6 g13 g17 W ls hls hw r3 r6 r13 r17
    subst hls
    refine hB _ _ _ _ ?_
    refine wpAnyH_ready (rs := [7]) (by kernel_rfl) (by simp) ?_
    refine AllReadyH.cons rfl (fun K hK0 => ?_) (AllReadyH.nil)
    · go_simp
      refine (cK1 W g6 hw r6).mono ?_
      rintro e W2 ⟨A7, c7, rfl, r7, s2⟩
      go_simp
      refine hK0.out _ _ (fr_step hFw (fr_step hw s2)) (fun _ => ?_)
      clear hK0 K
      try simp only [List.setIfInBounds_toArray, List.set_cons_zero, List.set_cons_succ]
      exact hF _ _ _ _ (M_2_3_6_7_13_17 g2 A3 c3 g6 A7 c7 g13 g17 W2 _ (by kernel_rfl) (fr_step hw s2) (keep (Own.below r3.out s2 (Nat.le_refl _))) (r7) (r13.step s2) (r17.step s2))
  have M_2_3_6_7 : ∀ (g2 : Nat) (A3 : Option Addr) (c3 : Nat) (g6 : Nat) (A7 : Option Addr) (c7 : Nat) (W : World) (ls : Array Bool), ls = #[true, true, true, true, true, true, true, true, true, true, true, true, true, false, false, true, true, false, false, false, false, false, false, false, false] → Fr Z W → Hid (Own W Z.heap.size 3 1 A3 2 c3 (ints (ks.take 2))) → Hid (Own W Z.heap.size 27 9 A7 1 c7 (rows kc (ps.take 1))) → F 10 ls ⟨#[.slice A 4 c, .slice (some ⟨b2, off2, none⟩) 3 c2, undef, undef, .slice none 0 0, .slice none 0 0, .pointer (some ⟨w.heap.size, 0, none⟩), .slice none 0 0, .slice none 0 0, .bool false, .slice A 4 c, .int .i64 4, .bool false, .bool false, .slice (some ⟨b2, off2, none⟩) 3 c2, .int .i64 3, .bool false, .bool false, undef, .slice A 4 c, .slice A 2 c, .slice (some ⟨g2, 0, none⟩) 1 1, .slice A3 2 c3, .slice (some ⟨b2, off2, none⟩) 3 c2, .slice (some ⟨b2, off2, none⟩) 1 c2, .slice (some ⟨g6, 0, none⟩) 1 1, .slice A7 1 c7, .slice (some ⟨b2, off2, none⟩) 3 c2, .pointer (some ⟨b2, off2 + 9, none⟩), .agg (kc m).toArray, .slice A 4 c, .slice (lowI A c 2) 2 (c - 2), undef, undef, .slice (some ⟨b2, off2, none⟩) 3 c2, .slice (lowA (some ⟨b2, off2, none⟩) c2 2) 1 (c2 - 2), undef, undef], []⟩ W := by
    intro g2 A3 c3 g6 A7 c7 W ls hls hw r3 r7
    subst hls
    refine hB _ _ _ _ ?_
    refine wpAnyH_ready (rs := [13, 17]) (by kernel_rfl) (by simp) ?_
    refine AllReadyH.cons rfl (fun K hK0 => ?_) (AllReadyH.cons rfl (fun K hK0 => ?_) (AllReadyH.nil))
    · go_simp
      refine hK0.out _ _ (fr_step hFw (fr_new hw _)) (fun _ => ?_)
      clear hK0 K
      try simp only [List.setIfInBounds_toArray, List.set_cons_zero, List.set_cons_succ]
      exact hF _ _ _ _ (M_2_3_6_7_13 g2 A3 c3 g6 A7 c7 W.heap.size (W.alloc (.cells [.slice (lowI A c 2) 2 (c - 2)].toArray 22)) _ (by kernel_rfl) (fr_step hw (fr_new (fr_refl W) _)) (keep (Own.below r3.out (fr_new (fr_refl W) _) (Nat.le_refl _))) (keep (Own.below r7.out (fr_new (fr_refl W) _) (Nat.le_refl _))) (has_blk (Arr.new W [.slice (lowI A c 2) 2 (c - 2)].toArray 22)))
    · go_simp
      refine hK0.out _ _ (fr_step hFw (fr_new hw _)) (fun _ => ?_)
      clear hK0 K
      try simp only [List.setIfInBounds_toArray, List.set_cons_zero, List.set_cons_succ]
      exact hF _ _ _ _ (M_2_3_6_7_17 g2 A3 c3 g6 A7 c7 W.heap.size (W.alloc (.cells [.slice (lowA (some ⟨b2, off2, none⟩) c2 2) 1 (c2 - 2)].toArray 29)) _ (by kernel_rfl) (fr_step hw (fr_new (fr_refl W) _)) (keep (Own.below r3.out (fr_new (fr_refl W) _) (Nat.le_refl _))) (keep (Own.below r7.out (fr_new (fr_refl W) _) (Nat.le_refl _))) (has_blk (Arr.new W [.slice (lowA (some ⟨b2, off2, none⟩) c2 2) 1 (c2 - 2)].toArray 29)))
  have M_2_3_6_13 : ∀ (g2 : Nat) (A3 : Option Addr) (c3 : Nat) (g6 : Nat) (g13 : Nat) (W : World) (ls : Array Bool), ls = #[true, true, true, true, true, true, true, false, true, true, true, true, true, true, false, true, true, false, false, false, false, false, false, false, false] → Fr Z W → Hid (Own W Z.heap.size 3 1 A3 2 c3 (ints (ks.take 2))) → Has W W.heap.size (some ⟨g6, 0, none⟩) [.slice (some ⟨b2, off2, none⟩) 1 c2] → Has W W.heap.size (some ⟨g13, 0, none⟩) [.slice (lowI A c 2) 2 (c - 2)] → F 10 ls ⟨#[.slice A 4 c, .slice (some ⟨b2, off2, none⟩) 3 c2, undef, undef, .slice none 0 0, .slice none 0 0, .pointer (some ⟨w.heap.size, 0, none⟩), .slice none 0 0, .slice none 0 0, .bool false, .slice A 4 c, .int .i64 4, .bool false, .bool false, .slice (some ⟨b2, off2, none⟩) 3 c2, .int .i64 3, .bool false, .bool false, undef, .slice A 4 c, .slice A 2 c, .slice (some ⟨g2, 0, none⟩) 1 1, .slice A3 2 c3, .slice (some ⟨b2, off2, none⟩) 3 c2, .slice (some ⟨b2, off2, none⟩) 1 c2, .slice (some ⟨g6, 0, none⟩) 1 1, undef, .slice (some ⟨b2, off2, none⟩) 3 c2, .pointer (some ⟨b2, off2 + 9, none⟩), .agg (kc m).toArray, .slice A 4 c, .slice (lowI A c 2) 2 (c - 2), .slice (some ⟨g13, 0, none⟩) 1 1, undef, .slice (some ⟨b2, off2, none⟩) 3 c2, .slice (lowA (some ⟨b2, off2, none⟩) c2 2) 1 (c2 - 2), undef, undef], []⟩ W := by
    intro g2 A3 c3 g6 g13 W ls hls hw r3 r6 r13
    subst hls
    refine hB _ _ _ _ ?_
    refine wpAnyH_ready (rs := [7, 17]) (by kernel_rfl) (by simp) ?_
    refine AllReadyH.cons rfl (fun K hK0 => ?_) (AllReadyH.cons rfl (fun K hK0 => ?_) (AllReadyH.nil))
    · go_simp
      refine (cK1 W g6 hw r6).mono ?_
      rintro e W2 ⟨A7, c7, rfl, r7, s2⟩
      go_simp
      refine hK0.out _ _ (fr_step hFw (fr_step hw s2)) (fun _ => ?_)
      clear hK0 K
      try simp only [List.setIfInBounds_toArray, List.set_cons_zero, List.set_cons_succ]
      exact hF _ _ _ _ (M_2_3_6_7_13 g2 A3 c3 g6 A7 c7 g13 W2 _ (by kernel_rfl) (fr_step hw s2) (keep (Own.below r3.out s2 (Nat.le_refl _))) (r7) (r13.step s2))
    · go_simp
      refine hK0.out _ _ (fr_step hFw (fr_new hw _)) (fun _ => ?_)
      clear hK0 K
      try simp only [List.setIfInBounds_toArray, List.set_cons_zero, List.set_cons_succ]
      exact hF _ _ _ _ (M_2_3_6_13_17 g2 A3 c3 g6 g13 W.heap.size (W.alloc (.cells [.slice (lowA (some ⟨b2, off2, none⟩) c2 2) 1 (c2 - 2)].toArray 29)) _ (by kernel_rfl) (fr_step hw (fr_new (fr_refl W) _)) (keep (Own.below r3.out (fr_new (fr_refl W) _) (Nat.le_refl _))) (r6.step (fr_new (fr_refl W) _)) (r13.step (fr_new (fr_refl W) _)) (has_blk (Arr.new W [.slice (lowA (some ⟨b2, off2, none⟩) c2 2) 1 (c2 - 2)].toArray 29)))
  have M_2_3_6_17 : ∀ (g2 : Nat) (A3 : Option Addr) (c3 : Nat) (g6 : Nat) (g17 : Nat) (W : World) (ls : Array Bool), ls = #[true, true, true, true, true, true, true, false, true, true, true, true, true, false, false, true, true, true, false, false, false, false, false, false, false] → Fr Z W → Hid (Own W Z.heap.size 3 1 A3 2 c3 (ints (ks.take 2))) → Has W W.heap.size (some ⟨g6, 0, none⟩) [.slice (some ⟨b2, off2, none⟩) 1 c2] → Has W W.heap.size (some ⟨g17, 0, none⟩) [.slice (lowA (some ⟨b2, off2, none⟩) c2 2) 1 (c2 - 2)] → F 10 ls ⟨#[.slice A 4 c, .slice (some ⟨b2, off2, none⟩) 3 c2, undef, undef, .slice none 0 0, .slice none 0 0, .pointer (some ⟨w.heap.size, 0, none⟩), .slice none 0 0, .slice none 0 0, .bool false, .slice A 4 c, .int .i64 4, .bool false, .bool false, .slice (some ⟨b2, off2, none⟩) 3 c2, .int .i64 3, .bool false, .bool false, undef, .slice A 4 c, .slice A 2 c, .slice (some ⟨g2, 0, none⟩) 1 1, .slice A3 2 c3, .slice (some ⟨b2, off2, none⟩) 3 c2, .slice (some ⟨b2, off2, none⟩) 1 c2, .slice (some ⟨g6, 0, none⟩) 1 1, undef, .slice (some ⟨b2, off2, none⟩) 3 c2, .pointer (some ⟨b2, off2 + 9, none⟩), .agg (kc m).toArray, .slice A 4 c, .slice (lowI A c 2) 2 (c - 2), undef, undef, .slice (some ⟨b2, off2, none⟩) 3 c2, .slice (lowA (some ⟨b2, off2, none⟩) c2 2) 1 (c2 - 2), .slice (some ⟨g17, 0, none⟩) 1 1, undef], []⟩ W := by
    intro g2 A3 c3 g6 g17 W ls hls hw r3 r6 r17
    subst hls
    refine hB _ _ _ _ ?_
    refine wpAnyH_ready (rs := [7, 13]) (by kernel_rfl) (by simp) ?_
    refine AllReadyH.cons rfl (fun K hK0 => ?_) (AllReadyH.cons rfl (fun K hK0 => ?_) (AllReadyH.nil))
    · go_simp
      refine (cK1 W g6 hw r6).mono ?_
      rintro e W2 ⟨A7, c7, rfl, r7, s2⟩
      go_simp
      refine hK0.out _ _ (fr_step hFw (fr_step hw s2)) (fun _ => ?_)
      clear hK0 K
      try simp only [List.setIfInBounds_toArray, List.set_cons_zero, List.set_cons_succ]
      exact hF _ _ _ _ (M_2_3_6_7_17 g2 A3 c3 g6 A7 c7 g17 W2 _ (by kernel_rfl) (fr_step hw s2) (keep (Own.below r3.out s2 (Nat.le_refl _))) (r7) (r17.step s2))
    · go_simp
      refine hK0.out _ _ (fr_step hFw (fr_new hw _)) (fun _ => ?_)
      clear hK0 K
      try simp only [List.setIfInBounds_toArray, List.set_cons_zero, List.set_cons_succ]
      exact hF _ _ _ _ (M_2_3_6_13_17 g2 A3 c3 g6 W.heap.size g17 (W.alloc (.cells [.slice (lowI A c 2) 2 (c - 2)].toArray 22)) _ (by kernel_rfl) (fr_step hw (fr_new (fr_refl W) _)) (keep (Own.below r3.out (fr_new (fr_refl W) _) (Nat.le_refl _))) (r6.step (fr_new (fr_refl W) _)) (has_blk (Arr.new W [.slice (lowI A c 2) 2 (c - 2)].toArray 22)) (r17.step (fr_new (fr_refl W) _)))
  have M_2_3_13_17 : ∀ (g2 : Nat) (A3 : Option Addr) (c3 : Nat) (g13 : Nat) (g17 : Nat) (W : World) (ls : Array Bool), ls = #[true, true, true, true, true, true, false, false, true, true, true, true, true, true, false, true, true, true, false, false, false, false, false, false, false] → Fr Z W → Hid (Own W Z.heap.size 3 1 A3 2 c3 (ints (ks.take 2))) → Has W W.heap.size (some ⟨g13, 0, none⟩) [.slice (lowI A c 2) 2 (c - 2)] → Has W W.heap.size (some ⟨g17, 0, none⟩) [.slice (lowA (some ⟨b2, off2, none⟩) c2 2) 1 (c2 - 2)] → F 10 ls ⟨#[.slice A 4 c, .slice (some ⟨b2, off2, none⟩) 3 c2, undef, undef, .slice none 0 0, .slice none 0 0, .pointer (some ⟨w.heap.size, 0, none⟩), .slice none 0 0, .slice none 0 0, .bool false, .slice A 4 c, .int .i64 4, .bool false, .bool false, .slice (some ⟨b2, off2, none⟩) 3 c2, .int .i64 3, .bool false, .bool false, undef, .slice A 4 c, .slice A 2 c, .slice (some ⟨g2, 0, none⟩) 1 1, .slice A3 2 c3, .slice (some ⟨b2, off2, none⟩) 3 c2, .slice (some ⟨b2, off2, none⟩) 1 c2, undef, undef, .slice (some ⟨b2, off2, none⟩) 3 c2, .pointer (some ⟨b2, off2 + 9, none⟩), .agg (kc m).toArray, .slice A 4 c, .slice (lowI A c 2) 2 (c - 2), .slice (some ⟨g13, 0, none⟩) 1 1, undef, .slice (some ⟨b2, off2, none⟩) 3 c2, .slice (lowA (some ⟨b2, off2, none⟩) c2 2) 1 (c2 - 2), .slice (some ⟨g17, 0, none⟩) 1 1, undef], []⟩ W := by
    intro g2 A3 c3 g13 g17 W ls hls hw r3 r13 r17
    subst hls
    refine hB _ _ _ _ ?_
    refine wpAnyH_ready (rs := [6]) (by kernel_rfl) (by simp) ?_
    refine AllReadyH.cons rfl (fun K hK0 => ?_) (AllReadyH.nil)
    · go_simp
      refine hK0.out _ _ (fr_step hFw (fr_new hw _)) (fun _ => ?_)
      clear hK0 K
      try simp only [List.setIfInBounds_toArray, List.set_cons_zero, List.set_cons_succ]
      exact hF _ _ _ _ (M_2_3_6_13_17 g2 A3 c3 W.heap.size g13 g17 (W.alloc (.cells [.slice (some ⟨b2, off2, none⟩) 1 c2].toArray 29)) _ (by kernel_rfl) (fr_step hw (fr_new (fr_refl W) _)) (keep (Own.below r3.out (fr_new (fr_refl W) _) (Nat.le_refl _))) (has_blk (Arr.new W [.slice (some ⟨b2, off2, none⟩) 1 c2].toArray 29)) (r13.step (fr_new (fr_refl W) _)) (r17.step (fr_new (fr_refl W) _)))
  have M_2_6_13_17 : ∀ (g2 : Nat) (g6 : Nat) (g13 : Nat) (g17 : Nat) (W : World) (ls : Array Bool), ls = #[true, true, true, false, true, true, true, false, true, true, true, true, true, true, false, true, true, true, false, false, false, false, false, false, false] → Fr Z W → Has W W.heap.size (some ⟨g2, 0, none⟩) [.slice A 2 c] → Has W W.heap.size (some ⟨g6, 0, none⟩) [.slice (some ⟨b2, off2, none⟩) 1 c2] → Has W W.heap.size (some ⟨g13, 0, none⟩) [.slice (lowI A c 2) 2 (c - 2)] → Has W W.heap.size (some ⟨g17, 0, none⟩) [.slice (lowA (some ⟨b2, off2, none⟩) c2 2) 1 (c2 - 2)] → F 10 ls ⟨#[.slice A 4 c, .slice (some ⟨b2, off2, none⟩) 3 c2, undef, undef, .slice none 0 0, .slice none 0 0, .pointer (some ⟨w.heap.size, 0, none⟩), .slice none 0 0, .slice none 0 0, .bool false, .slice A 4 c, .int .i64 4, .bool false, .bool false, .slice (some ⟨b2, off2, none⟩) 3 c2, .int .i64 3, .bool false, .bool false, undef, .slice A 4 c, .slice A 2 c, .slice (some ⟨g2, 0, none⟩) 1 1, undef, .slice (some ⟨b2, off2, none⟩) 3 c2, .slice (some ⟨b2, off2, none⟩) 1 c2, .slice (some ⟨g6, 0, none⟩) 1 1, undef, .slice (some ⟨b2, off2, none⟩) 3 c2, .pointer (some ⟨b2, off2 + 9, none⟩), .agg (kc m).toArray, .slice A 4 c, .slice (lowI A c 2) 2 (c - 2), .slice (some ⟨g13, 0, none⟩) 1 1, undef, .slice (some ⟨b2, off2, none⟩) 3 c2, .slice (lowA (some ⟨b2, off2, none⟩) c2 2) 1 (c2 - 2), .slice (some ⟨g17, 0, none⟩) 1 1, undef], []⟩ W := by
    intro g2 g6 g13 g17 W ls hls hw r2 r6 r13 r17
    subst hls
    refine hB _ _ _ _ ?_
    refine wpAnyH_ready (rs := [3]) (by kernel_rfl) (by simp) ?_
    refine AllReadyH.cons rfl (fun K hK0 => ?_) (AllReadyH.nil)
    · go_simp
      refine (cJ1 W g2 hw r2).mono ?_
      rintro e W2 ⟨A3, c3, rfl, r3, s2⟩
      go_simp
      refine hK0.out _ _ (fr_step hFw (fr_step hw s2)) (fun _ => ?_)
      clear hK0 K
      try simp only [List.setIfInBounds_toArray, List.set_cons_zero, List.set_cons_succ]
      exact hF _ _ _ _ (M_2_3_6_13_17 g2 A3 c3 g6 g13 g17 W2 _ (by kernel_rfl) (fr_step hw s2) (r3) (r6.step s2) (r13.step s2) (r17.step s2))
  have M_2_3_6 : ∀ (g2 : Nat) (A3 : Option Addr) (c3 : Nat) (g6 : Nat) (W : World) (ls : Array Bool), ls = #[true, true, true, true, true, true, true, false, true, true, true, true, true, false, false, true, true, false, false, false, false, false, false, false, false] → Fr Z W → Hid (Own W Z.heap.size 3 1 A3 2 c3 (ints (ks.take 2))) → Has W W.heap.size (some ⟨g6, 0, none⟩) [.slice (some ⟨b2, off2, none⟩) 1 c2] → F 11 ls ⟨#[.slice A 4 c, .slice (some ⟨b2, off2, none⟩) 3 c2, undef, undef, .slice none 0 0, .slice none 0 0, .pointer (some ⟨w.heap.size, 0, none⟩), .slice none 0 0, .slice none 0 0, .bool false, .slice A 4 c, .int .i64 4, .bool false, .bool false, .slice (some ⟨b2, off2, none⟩) 3 c2, .int .i64 3, .bool false, .bool false, undef, .slice A 4 c, .slice A 2 c, .slice (some ⟨g2, 0, none⟩) 1 1, .slice A3 2 c3, .slice (some ⟨b2, off2, none⟩) 3 c2, .slice (some ⟨b2, off2, none⟩) 1 c2, .slice (some ⟨g6, 0, none⟩) 1 1, undef, .slice (some ⟨b2, off2, none⟩) 3 c2, .pointer (some ⟨b2, off2 + 9, none⟩), .agg (kc m).toArray, .slice A 4 c, .slice (lowI A c 2) 2 (c - 2), undef, undef, .slice (some ⟨b2, off2, none⟩) 3 c2, .slice (lowA (some ⟨b2, off2, none⟩) c2 2) 1 (c2 - 2), undef, undef], []⟩ W := by
    intro g2 A3 c3 g6 W ls hls hw r3 r6
    subst hls
    refine hB _ _ _ _ ?_
    refine wpAnyH_ready (rs := [7, 13, 17]) (by kernel_rfl) (by simp) ?_
    refine AllReadyH.cons rfl (fun K hK0 => ?_) (AllReadyH.cons rfl (fun K hK0 => ?_) (AllReadyH.cons rfl (fun K hK0 => ?_) (AllReadyH.nil)))
    · go_simp
      refine (cK1 W g6 hw r6).mono ?_
      rintro e W2 ⟨A7, c7, rfl, r7, s2⟩
      go_simp
      refine hK0.out _ _ (fr_step hFw (fr_step hw s2)) (fun _ => ?_)
      clear hK0 K
      try simp only [List.setIfInBounds_toArray, List.set_cons_zero, List.set_cons_succ]
      exact hF _ _ _ _ (M_2_3_6_7 g2 A3 c3 g6 A7 c7 W2 _ (by kernel_rfl) (fr_step hw s2) (keep (Own.below r3.out s2 (Nat.le_refl _))) (r7))
    · go_simp
      refine hK0.out _ _ (fr_step hFw (fr_new hw _)) (fun _ => ?_)
      clear hK0 K
      try simp only [List.setIfInBounds_toArray, List.set_cons_zero, List.set_cons_succ]
      exact hF _ _ _ _ (M_2_3_6_13 g2 A3 c3 g6 W.heap.size (W.alloc (.cells [.slice (lowI A c 2) 2 (c - 2)].toArray 22)) _ (by kernel_rfl) (fr_step hw (fr_new (fr_refl W) _)) (keep (Own.below r3.out (fr_new (fr_refl W) _) (Nat.le_refl _))) (r6.step (fr_new (fr_refl W) _)) (has_blk (Arr.new W [.slice (lowI A c 2) 2 (c - 2)].toArray 22)))
    · go_simp
      refine hK0.out _ _ (fr_step hFw (fr_new hw _)) (fun _ => ?_)
      clear hK0 K
      try simp only [List.setIfInBounds_toArray, List.set_cons_zero, List.set_cons_succ]
      exact hF _ _ _ _ (M_2_3_6_17 g2 A3 c3 g6 W.heap.size (W.alloc (.cells [.slice (lowA (some ⟨b2, off2, none⟩) c2 2) 1 (c2 - 2)].toArray 29)) _ (by kernel_rfl) (fr_step hw (fr_new (fr_refl W) _)) (keep (Own.below r3.out (fr_new (fr_refl W) _) (Nat.le_refl _))) (r6.step (fr_new (fr_refl W) _)) (has_blk (Arr.new W [.slice (lowA (some ⟨b2, off2, none⟩) c2 2) 1 (c2 - 2)].toArray 29)))
  have M_2_3_13 : ∀ (g2 : Nat) (A3 : Option Addr) (c3 : Nat) (g13 : Nat) (W : World) (ls : Array Bool), ls = #[true, true, true, true, true, true, false, false, true, true, true, true, true, true, false, true, true, false, false, false, false, false, false, false, false] → Fr Z W → Hid (Own W Z.heap.size 3 1 A3 2 c3 (ints (ks.take 2))) → Has W W.heap.size (some ⟨g13, 0, none⟩) [.slice (lowI A c 2) 2 (c - 2)] → F 11 ls ⟨#[.slice A 4 c, .slice (some ⟨b2, off2, none⟩) 3 c2, undef, undef, .slice none 0 0, .slice none 0 0, .pointer (some ⟨w.heap.size, 0, none⟩), .slice none 0 0, .slice none 0 0, .bool false, .slice A 4 c, .int .i64 4, .bool false, .bool false, .slice (some ⟨b2, off2, none⟩) 3 c2, .int .i64 3, .bool false, .bool false, undef, .slice A 4 c, .slice A 2 c, .slice (some ⟨g2, 0, none⟩) 1 1, .slice A3 2 c3, .slice (some ⟨b2, off2, none⟩) 3 c2, .slice (some ⟨b2, off2, none⟩) 1 c2, undef, undef, .slice (some ⟨b2, off2, none⟩) 3 c2, .pointer (some ⟨b2, off2 + 9, none⟩), .agg (kc m).toArray, .slice A 4 c, .slice (lowI A c 2) 2 (c - 2), .slice (some ⟨g13, 0, none⟩) 1 1, undef, .slice (some ⟨b2, off2, none⟩) 3 c2, .slice (lowA (some ⟨b2, off2, none⟩) c2 2) 1 (c2 - 2), undef, undef], []⟩ W := by
    intro g2 A3 c3 g13 W ls hls hw r3 r13
    subst hls
    refine hB _ _ _ _ ?_
    refine wpAnyH_ready (rs := [6, 17]) (by kernel_rfl) (by simp) ?_
    refine AllReadyH.cons rfl (fun K hK0 => ?_) (AllReadyH.cons rfl (fun K hK0 => ?_) (AllReadyH.nil))
    · go_simp
      refine hK0.out _ _ (fr_step hFw (fr_new hw _)) (fun _ => ?_)
      clear hK0 K
      try simp only [List.setIfInBounds_toArray, List.set_cons_zero, List.set_cons_succ]
      exact hF _ _ _ _ (M_2_3_6_13 g2 A3 c3 W.heap.size g13 (W.alloc (.cells [.slice (some ⟨b2, off2, none⟩) 1 c2].toArray 29)) _ (by kernel_rfl) (fr_step hw (fr_new (fr_refl W) _)) (keep (Own.below r3.out (fr_new (fr_refl W) _) (Nat.le_refl _))) (has_blk (Arr.new W [.slice (some ⟨b2, off2, none⟩) 1 c2].toArray 29)) (r13.step (fr_new (fr_refl W) _)))
    · go_simp
      refine hK0.out _ _ (fr_step hFw (fr_new hw _)) (fun _ => ?_)
      clear hK0 K
      try simp only [List.setIfInBounds_toArray, List.set_cons_zero, List.set_cons_succ]
      exact hF _ _ _ _ (M_2_3_13_17 g2 A3 c3 g13 W.heap.size (W.alloc (.cells [.slice (lowA (some ⟨b2, off2, none⟩) c2 2) 1 (c2 - 2)].toArray 29)) _ (by kernel_rfl) (fr_step hw (fr_new (fr_refl W) _)) (keep (Own.below r3.out (fr_new (fr_refl W) _) (Nat.le_refl _))) (r13.step (fr_new (fr_refl W) _)) (has_blk (Arr.new W [.slice (lowA (some ⟨b2, off2, none⟩) c2 2) 1 (c2 - 2)].toArray 29)))
  have M_2_3_17 : ∀ (g2 : Nat) (A3 : Option Addr) (c3 : Nat) (g17 : Nat) (W : World) (ls : Array Bool), ls = #[true, true, true, true, true, true, false, false, true, true, true, true, true, false, false, true, true, true, false, false, false, false, false, false, false] → Fr Z W → Hid (Own W Z.heap.size 3 1 A3 2 c3 (ints (ks.take 2))) → Has W W.heap.size (some ⟨g17, 0, none⟩) [.slice (lowA (some ⟨b2, off2, none⟩) c2 2) 1 (c2 - 2)] → F 11 ls ⟨#[.slice A 4 c, .slice (some ⟨b2, off2, none⟩) 3 c2, undef, undef, .slice none 0 0, .slice none 0 0, .pointer (some ⟨w.heap.size, 0, none⟩), .slice none 0 0, .slice none 0 0, .bool false, .slice A 4 c, .int .i64 4, .bool false, .bool false, .slice (some ⟨b2, off2, none⟩) 3 c2, .int .i64 3, .bool false, .bool false, undef, .slice A 4 c, .slice A 2 c, .slice (some ⟨g2, 0, none⟩) 1 1, .slice A3 2 c3, .slice (some ⟨b2, off2, none⟩) 3 c2, .slice (some ⟨b2, off2, none⟩) 1 c2, undef, undef, .slice (some ⟨b2, off2, none⟩) 3 c2, .pointer (some ⟨b2, off2 + 9, none⟩), .agg (kc m).toArray, .slice A 4 c, .slice (lowI A c 2) 2 (c - 2), undef, undef, .slice (some ⟨b2, off2, none⟩) 3 c2, .slice (lowA (some ⟨b2, off2, none⟩) c2 2) 1 (c2 - 2), .slice (some ⟨g17, 0, none⟩) 1 1, undef], []⟩ W := by
    intro g2 A3 c3 g17 W ls hls hw r3 r17
    subst hls
    refine hB _ _ _ _ ?_
    refine wpAnyH_ready (rs := [6, 13]) (by kernel_rfl) (by simp) ?_
    refine AllReadyH.cons rfl (fun K hK0 => ?_) (AllReadyH.cons rfl (fun K hK0 => ?_) (AllReadyH.nil))
    · go_simp
      refine hK0.out _ _ (fr_step hFw (fr_new hw _)) (fun _ => ?_)
      clear hK0 K
      try simp only [List.setIfInBounds_toArray, List.set_cons_zero, List.set_cons_succ]
      exact hF _ _ _ _ (M_2_3_6_17 g2 A3 c3 W.heap.size g17 (W.alloc (.cells [.slice (some ⟨b2, off2, none⟩) 1 c2].toArray 29)) _ (by kernel_rfl) (fr_step hw (fr_new (fr_refl W) _)) (keep (Own.below r3.out (fr_new (fr_refl W) _) (Nat.le_refl _))) (has_blk (Arr.new W [.slice (some ⟨b2, off2, none⟩) 1 c2].toArray 29)) (r17.step (fr_new (fr_refl W) _)))
    · go_simp
      refine hK0.out _ _ (fr_step hFw (fr_new hw _)) (fun _ => ?_)
      clear hK0 K
      try simp only [List.setIfInBounds_toArray, List.set_cons_zero, List.set_cons_succ]
      exact hF _ _ _ _ (M_2_3_13_17 g2 A3 c3 W.heap.size g17 (W.alloc (.cells [.slice (lowI A c 2) 2 (c - 2)].toArray 22)) _ (by kernel_rfl) (fr_step hw (fr_new (fr_refl W) _)) (keep (Own.below r3.out (fr_new (fr_refl W) _) (Nat.le_refl _))) (has_blk (Arr.new W [.slice (lowI A c 2) 2 (c - 2)].toArray 22)) (r17.step (fr_new (fr_refl W) _)))
  have M_2_6_13 : ∀ (g2 : Nat) (g6 : Nat) (g13 : Nat) (W : World) (ls : Array Bool), ls = #[true, true, true, false, true, true, true, false, true, true, true, true, true, true, false, true, true, false, false, false, false, false, false, false, false] → Fr Z W → Has W W.heap.size (some ⟨g2, 0, none⟩) [.slice A 2 c] → Has W W.heap.size (some ⟨g6, 0, none⟩) [.slice (some ⟨b2, off2, none⟩) 1 c2] → Has W W.heap.size (some ⟨g13, 0, none⟩) [.slice (lowI A c 2) 2 (c - 2)] → F 11 ls ⟨#[.slice A 4 c, .slice (some ⟨b2, off2, none⟩) 3 c2, undef, undef, .slice none 0 0, .slice none 0 0, .pointer (some ⟨w.heap.size, 0, none⟩), .slice none 0 0, .slice none 0 0, .bool false, .slice A 4 c, .int .i64 4, .bool false, .bool false, .slice (some ⟨b2, off2, none⟩) 3 c2, .int .i64 3, .bool false, .bool false, undef, .slice A 4 c, .slice A 2 c, .slice (some ⟨g2, 0, none⟩) 1 1, undef, .slice (some ⟨b2, off2, none⟩) 3 c2, .slice (some ⟨b2, off2, none⟩) 1 c2, .slice (some ⟨g6, 0, none⟩) 1 1, undef, .slice (some ⟨b2, off2, none⟩) 3 c2, .pointer (some ⟨b2, off2 + 9, none⟩), .agg (kc m).toArray, .slice A 4 c, .slice (lowI A c 2) 2 (c - 2), .slice (some ⟨g13, 0, none⟩) 1 1, undef, .slice (some ⟨b2, off2, none⟩) 3 c2, .slice (lowA (some ⟨b2, off2, none⟩) c2 2) 1 (c2 - 2), undef, undef], []⟩ W := by
    intro g2 g6 g13 W ls hls hw r2 r6 r13
    subst hls
    refine hB _ _ _ _ ?_
    refine wpAnyH_ready (rs := [3, 17]) (by kernel_rfl) (by simp) ?_
    refine AllReadyH.cons rfl (fun K hK0 => ?_) (AllReadyH.cons rfl (fun K hK0 => ?_) (AllReadyH.nil))
    · go_simp
      refine (cJ1 W g2 hw r2).mono ?_
      rintro e W2 ⟨A3, c3, rfl, r3, s2⟩
      go_simp
      refine hK0.out _ _ (fr_step hFw (fr_step hw s2)) (fun _ => ?_)
      clear hK0 K
      try simp only [List.setIfInBounds_toArray, List.set_cons_zero, List.set_cons_succ]
      exact hF _ _ _ _ (M_2_3_6_13 g2 A3 c3 g6 g13 W2 _ (by kernel_rfl) (fr_step hw s2) (r3) (r6.step s2) (r13.step s2))
    · go_simp
      refine hK0.out _ _ (fr_step hFw (fr_new hw _)) (fun _ => ?_)
      clear hK0 K
      try simp only [List.setIfInBounds_toArray, List.set_cons_zero, List.set_cons_succ]
      exact hF _ _ _ _ (M_2_6_13_17 g2 g6 g13 W.heap.size (W.alloc (.cells [.slice (lowA (some ⟨b2, off2, none⟩) c2 2) 1 (c2 - 2)].toArray 29)) _ (by kernel_rfl) (fr_step hw (fr_new (fr_refl W) _)) (r2.step (fr_new (fr_refl W) _)) (r6.step (fr_new (fr_refl W) _)) (r13.step (fr_new (fr_refl W) _)) (has_blk (Arr.new W [.slice (lowA (some ⟨b2, off2, none⟩) c2 2) 1 (c2 - 2)].toArray 29)))
  have M_2_6_17 : ∀ (g2 : Nat) (g6 : Nat) (g17 : Nat) (W : World) (ls : Array Bool), ls = #[true, true, true, false, true, true, true, false, true, true, true, true, true, false, false, true, true, true, false, false, false, false, false, false, false] → Fr Z W → Has W W.heap.size (some ⟨g2, 0, none⟩) [.slice A 2 c] → Has W W.heap.size (some ⟨g6, 0, none⟩) [.slice (some ⟨b2, off2, none⟩) 1 c2] → Has W W.heap.size (some ⟨g17, 0, none⟩) [.slice (lowA (some ⟨b2, off2, none⟩) c2 2) 1 (c2 - 2)] → F 11 ls ⟨#[.slice A 4 c, .slice (some ⟨b2, off2, none⟩) 3 c2, undef, undef, .slice none 0 0, .slice none 0 0, .pointer (some ⟨w.heap.size, 0, none⟩), .slice none 0 0, .slice none 0 0, .bool false, .slice A 4 c, .int .i64 4, .bool false, .bool false, .slice (some ⟨b2, off2, none⟩) 3 c2, .int .i64 3, .bool false, .bool false, undef, .slice A 4 c, .slice A 2 c, .slice (some ⟨g2, 0, none⟩) 1 1, undef, .slice (some ⟨b2, off2, none⟩) 3 c2, .slice (some ⟨b2, off2, none⟩) 1 c2, .slice (some ⟨g6, 0, none⟩) 1 1, undef, .slice (some ⟨b2, off2, none⟩) 3 c2, .pointer (some ⟨b2, off2 + 9, none⟩), .agg (kc m).toArray, .slice A 4 c, .slice (lowI A c 2) 2 (c - 2), undef, undef, .slice (some ⟨b2, off2, none⟩) 3 c2, .slice (lowA (some ⟨b2, off2, none⟩) c2 2) 1 (c2 - 2), .slice (some ⟨g17, 0, none⟩) 1 1, undef], []⟩ W := by
    intro g2 g6 g17 W ls hls hw r2 r6 r17
    subst hls
    refine hB _ _ _ _ ?_
    refine wpAnyH_ready (rs := [3, 13]) (by kernel_rfl) (by simp) ?_
    refine AllReadyH.cons rfl (fun K hK0 => ?_) (AllReadyH.cons rfl (fun K hK0 => ?_) (AllReadyH.nil))
    · go_simp
      refine (cJ1 W g2 hw r2).mono ?_
      rintro e W2 ⟨A3, c3, rfl, r3, s2⟩
      go_simp
      refine hK0.out _ _ (fr_step hFw (fr_step hw s2)) (fun _ => ?_)
      clear hK0 K
      try simp only [List.setIfInBounds_toArray, List.set_cons_zero, List.set_cons_succ]
      exact hF _ _ _ _ (M_2_3_6_17 g2 A3 c3 g6 g17 W2 _ (by kernel_rfl) (fr_step hw s2) (r3) (r6.step s2) (r17.step s2))
    · go_simp
      refine hK0.out _ _ (fr_step hFw (fr_new hw _)) (fun _ => ?_)
      clear hK0 K
      try simp only [List.setIfInBounds_toArray, List.set_cons_zero, List.set_cons_succ]
      exact hF _ _ _ _ (M_2_6_13_17 g2 g6 W.heap.size g17 (W.alloc (.cells [.slice (lowI A c 2) 2 (c - 2)].toArray 22)) _ (by kernel_rfl) (fr_step hw (fr_new (fr_refl W) _)) (r2.step (fr_new (fr_refl W) _)) (r6.step (fr_new (fr_refl W) _)) (has_blk (Arr.new W [.slice (lowI A c 2) 2 (c - 2)].toArray 22)) (r17.step (fr_new (fr_refl W) _)))
  have M_2_13_17 : ∀ (g2 : Nat) (g13 : Nat) (g17 : Nat) (W : World) (ls : Array Bool), ls = #[true, true, true, false, true, true, false, false, true, true, true, true, true, true, false, true, true, true, false, false, false, false, false, false, false] → Fr Z W → Has W W.heap.size (some ⟨g2, 0, none⟩) [.slice A 2 c] → Has W W.heap.size (some ⟨g13, 0, none⟩) [.slice (lowI A c 2) 2 (c - 2)] → Has W W.heap.size (some ⟨g17, 0, none⟩) [.slice (lowA (some ⟨b2, off2, none⟩) c2 2) 1 (c2 - 2)] → F 11 ls ⟨#[.slice A 4 c, .slice (some ⟨b2, off2, none⟩) 3 c2, undef, undef, .slice none 0 0, .slice none 0 0, .pointer (some ⟨w.heap.size, 0, none⟩), .slice none 0 0, .slice none 0 0, .bool false, .slice A 4 c, .int .i64 4, .bool false, .bool false, .slice (some ⟨b2, off2, none⟩) 3 c2, .int .i64 3, .bool false, .bool false, undef, .slice A 4 c, .slice A 2 c, .slice (some ⟨g2, 0, none⟩) 1 1, undef, .slice (some ⟨b2, off2, none⟩) 3 c2, .slice (some ⟨b2, off2, none⟩) 1 c2, undef, undef, .slice (some ⟨b2, off2, none⟩) 3 c2, .pointer (some ⟨b2, off2 + 9, none⟩), .agg (kc m).toArray, .slice A 4 c, .slice (lowI A c 2) 2 (c - 2), .slice (some ⟨g13, 0, none⟩) 1 1, undef, .slice (some ⟨b2, off2, none⟩) 3 c2, .slice (lowA (some ⟨b2, off2, none⟩) c2 2) 1 (c2 - 2), .slice (some ⟨g17, 0, none⟩) 1 1, undef], []⟩ W := by
    intro g2 g13 g17 W ls hls hw r2 r13 r17
    subst hls
    refine hB _ _ _ _ ?_
    refine wpAnyH_ready (rs := [3, 6]) (by kernel_rfl) (by simp) ?_
    refine AllReadyH.cons rfl (fun K hK0 => ?_) (AllReadyH.cons rfl (fun K hK0 => ?_) (AllReadyH.nil))
    · go_simp
      refine (cJ1 W g2 hw r2).mono ?_
      rintro e W2 ⟨A3, c3, rfl, r3, s2⟩
      go_simp
      refine hK0.out _ _ (fr_step hFw (fr_step hw s2)) (fun _ => ?_)
      clear hK0 K
      try simp only [List.setIfInBounds_toArray, List.set_cons_zero, List.set_cons_succ]
      exact hF _ _ _ _ (M_2_3_13_17 g2 A3 c3 g13 g17 W2 _ (by kernel_rfl) (fr_step hw s2) (r3) (r13.step s2) (r17.step s2))
    · go_simp
      refine hK0.out _ _ (fr_step hFw (fr_new hw _)) (fun _ => ?_)
      clear hK0 K
      try simp only [List.setIfInBounds_toArray, List.set_cons_zero, List.set_cons_succ]
      exact hF _ _ _ _ (M_2_6_13_17 g2 W.heap.size g13 g17 (W.alloc (.cells [.slice (some ⟨b2, off2, none⟩) 1 c2].toArray 29)) _ (by kernel_rfl) (fr_step hw (fr_new (fr_refl W) _)) (r2.step (fr_new (fr_refl W) _)) (has_blk (Arr.new W [.slice (some ⟨b2, off2, none⟩) 1 c2].toArray 29)) (r13.step (fr_new (fr_refl W) _)) (r17.step (fr_new (fr_refl W) _)))
  have M_6_13_17 : ∀ (g6 : Nat) (g13 : Nat) (g17 : Nat) (W : World) (ls : Array Bool), ls = #[true, true, false, false, true, true, true, false, true, true, true, true, true, true, false, true, true, true, false, false, false, false, false, false, false] → Fr Z W → Has W W.heap.size (some ⟨g6, 0, none⟩) [.slice (some ⟨b2, off2, none⟩) 1 c2] → Has W W.heap.size (some ⟨g13, 0, none⟩) [.slice (lowI A c 2) 2 (c - 2)] → Has W W.heap.size (some ⟨g17, 0, none⟩) [.slice (lowA (some ⟨b2, off2, none⟩) c2 2) 1 (c2 - 2)] → F 11 ls ⟨#[.slice A 4 c, .slice (some ⟨b2, off2, none⟩) 3 c2, undef, undef, .slice none 0 0, .slice none 0 0, .pointer (some ⟨w.heap.size, 0, none⟩), .slice none 0 0, .slice none 0 0, .bool false, .slice A 4 c, .int .i64 4, .bool false, .bool false, .slice (some ⟨b2, off2, none⟩) 3 c2, .int .i64 3, .bool false, .bool false, undef, .slice A 4 c, .slice A 2 c, undef, undef, .slice (some ⟨b2, off2, none⟩) 3 c2, .slice (some ⟨b2, off2, none⟩) 1 c2, .slice (some ⟨g6, 0, none⟩) 1 1, undef, .slice (some ⟨b2, off2, none⟩) 3 c2, .pointer (some ⟨b2, off2 + 9, none⟩), .agg (kc m).toArray, .slice A 4 c, .slice (lowI A c 2) 2 (c - 2), .slice (some ⟨g13, 0, none⟩) 1 1, undef, .slice (some ⟨b2, off2, none⟩) 3 c2, .slice (lowA (some ⟨b2, off2, none⟩) c2 2) 1 (c2 - 2), .slice (some ⟨g17, 0, none⟩) 1 1, undef], []⟩ W := by
    intro g6 g13 g17 W ls hls hw r6 r13 r17
    subst hls
    refine hB _ _ _ _ ?_
    refine wpAnyH_ready (rs := [2]) (by kernel_rfl) (by simp) ?_
    refine AllReadyH.cons rfl (fun K hK0 => ?_) (AllReadyH.nil)
    · go_simp
      refine hK0.out _ _ (fr_step hFw (fr_new hw _)) (fun _ => ?_)
      clear hK0 K
      try simp only [List.setIfInBounds_toArray, List.set_cons_zero, List.set_cons_succ]
      exact hF _ _ _ _ (M_2_6_13_17 W.heap.size g6 g13 g17 (W.alloc (.cells [.slice A 2 c].toArray 22)) _ (by kernel_rfl) (fr_step hw (fr_new (fr_refl W) _)) (has_blk (Arr.new W [.slice A 2 c].toArray 22)) (r6.step (fr_new (fr_refl W) _)) (r13.step (fr_new (fr_refl W) _)) (r17.step (fr_new (fr_refl W) _)))
  have M_2_3 : ∀ (g2 : Nat) (A3 : Option Addr) (c3 : Nat) (W : World) (ls : Array Bool), ls = #[true, true, true, true, true, true, false, false, true, true, true, true, true, false, false, true, true, false, false, false, false, false, false, false, false] → Fr Z W → Hid (Own W Z.heap.size 3 1 A3 2 c3 (ints (ks.take 2))) → F 12 ls ⟨#[.slice A 4 c, .slice (some ⟨b2, off2, none⟩) 3 c2, undef, undef, .slice none 0 0, .slice none 0 0, .pointer (some ⟨w.heap.size, 0, none⟩), .slice none 0 0, .slice none 0 0, .bool false, .slice A 4 c, .int .i64 4, .bool false, .bool false, .slice (some ⟨b2, off2, none⟩) 3 c2, .int .i64 3, .bool false, .bool false, undef, .slice A 4 c, .slice A 2 c, .slice (some ⟨g2, 0, none⟩) 1 1, .slice A3 2 c3, .slice (some ⟨b2, off2, none⟩) 3 c2, .slice (some ⟨b2, off2, none⟩) 1 c2, undef, undef, .slice (some ⟨b2, off2, none⟩) 3 c2, .pointer (some ⟨b2, off2 + 9, none⟩), .agg (kc m).toArray, .slice A 4 c, .slice (lowI A c 2) 2 (c - 2), undef, undef, .slice (some ⟨b2, off2, none⟩) 3 c2, .slice (lowA (some ⟨b2, off2, none⟩) c2 2) 1 (c2 - 2), undef, undef], []⟩ W := by
    intro g2 A3 c3 W ls hls hw r3
    subst hls
    refine hB _ _ _ _ ?_
    refine wpAnyH_ready (rs := [6, 13, 17]) (by kernel_rfl) (by simp) ?_
    refine AllReadyH.cons rfl (fun K hK0 => ?_) (AllReadyH.cons rfl (fun K hK0 => ?_) (AllReadyH.cons rfl (fun K hK0 => ?_) (AllReadyH.nil)))
    · go_simp
      refine hK0.out _ _ (fr_step hFw (fr_new hw _)) (fun _ => ?_)
      clear hK0 K
      try simp only [List.setIfInBounds_toArray, List.set_cons_zero, List.set_cons_succ]
      exact hF _ _ _ _ (M_2_3_6 g2 A3 c3 W.heap.size (W.alloc (.cells [.slice (some ⟨b2, off2, none⟩) 1 c2].toArray 29)) _ (by kernel_rfl) (fr_step hw (fr_new (fr_refl W) _)) (keep (Own.below r3.out (fr_new (fr_refl W) _) (Nat.le_refl _))) (has_blk (Arr.new W [.slice (some ⟨b2, off2, none⟩) 1 c2].toArray 29)))
    · go_simp
      refine hK0.out _ _ (fr_step hFw (fr_new hw _)) (fun _ => ?_)
      clear hK0 K
      try simp only [List.setIfInBounds_toArray, List.set_cons_zero, List.set_cons_succ]
      exact hF _ _ _ _ (M_2_3_13 g2 A3 c3 W.heap.size (W.alloc (.cells [.slice (lowI A c 2) 2 (c - 2)].toArray 22)) _ (by kernel_rfl) (fr_step hw (fr_new (fr_refl W) _)) (keep (Own.below r3.out (fr_new (fr_refl W) _) (Nat.le_refl _))) (has_blk (Arr.new W [.slice (lowI A c 2) 2 (c - 2)].toArray 22)))
    · go_simp
      refine hK0.out _ _ (fr_step hFw (fr_new hw _)) (fun _ => ?_)
      clear hK0 K
      try simp only [List.setIfInBounds_toArray, List.set_cons_zero, List.set_cons_succ]
      exact hF _ _ _ _ (M_2_3_17 g2 A3 c3 W.heap.size (W.alloc (.cells [.slice (lowA (some ⟨b2, off2, none⟩) c2 2) 1 (c2 - 2)].toArray 29)) _ (by kernel_rfl) (fr_step hw (fr_new (fr_refl W) _)) (keep (Own.below r3.out (fr_new (fr_refl W) _) (Nat.le_refl _))) (has_blk (Arr.new W [.slice (lowA (some ⟨b2, off2, none⟩) c2 2) 1 (c2 - 2)].toArray 29)))
  have M_2_6 : ∀ (g2 : Nat) (g6 : Nat) (W : World) (ls : Array Bool), ls = #[true, true, true, false, true, true, true, false, true, true, true, true, true, false, false, true, true, false, false, false, false, false, false, false, false] → Fr Z W → Has W W.heap.size (some ⟨g2, 0, none⟩) [.slice A 2 c] → Has W W.heap.size (some ⟨g6, 0, none⟩) [.slice (some ⟨b2, off2, none⟩) 1 c2] → F 12 ls ⟨#[.slice A 4 c, .slice (some ⟨b2, off2, none⟩) 3 c2, undef, undef, .slice none 0 0, .slice none 0 0, .pointer (some ⟨w.heap.size, 0, none⟩), .slice none 0 0, .slice none 0 0, .bool false, .slice A 4 c, .int .i64 4, .bool false, .bool false, .slice (some ⟨b2, off2, none⟩) 3 c2, .int .i64 3, .bool false, .bool false, undef, .slice A 4 c, .slice A 2 c, .slice (some ⟨g2, 0, none⟩) 1 1, undef, .slice (some ⟨b2, off2, none⟩) 3 c2, .slice (some ⟨b2, off2, none⟩) 1 c2, .slice (some ⟨g6, 0, none⟩) 1 1, undef, .slice (some ⟨b2, off2, none⟩) 3 c2, .pointer (some ⟨b2, off2 + 9, none⟩), .agg (kc m).toArray, .slice A 4 c, .slice (lowI A c 2) 2 (c - 2), undef, undef, .slice (some ⟨b2, off2, none⟩) 3 c2, .slice (lowA (some ⟨b2, off2, none⟩) c2 2) 1 (c2 - 2), undef, undef], []⟩ W := by
    intro g2 g6 W ls hls hw r2 r6
    subst hls
    refine hB _ _ _ _ ?_
    refine wpAnyH_ready (rs := [3, 13, 17]) (by kernel_rfl) (by simp) ?_
    refine AllReadyH.cons rfl (fun K hK0 => ?_) (AllReadyH.cons rfl (fun K hK0 => ?_) (AllReadyH.cons rfl (fun K hK0 => ?_) (AllReadyH.nil)))
    · go_simp
      refine (cJ1 W g2 hw r2).mono ?_
      rintro e W2 ⟨A3, c3, rfl, r3, s2⟩
      go_simp
      refine hK0.out _ _ (fr_step hFw (fr_step hw s2)) (fun _ => ?_)
      clear hK0 K
      try simp only [List.setIfInBounds_toArray, List.set_cons_zero, List.set_cons_succ]
      exact hF _ _ _ _ (M_2_3_6 g2 A3 c3 g6 W2 _ (by kernel_rfl) (fr_step hw s2) (r3) (r6.step s2))
    · go_simp
      refine hK0.out _ _ (fr_step hFw (fr_new hw _)) (fun _ => ?_)
      clear hK0 K
      try simp only [List.setIfInBounds_toArray, List.set_cons_zero, List.set_cons_succ]
      exact hF _ _ _ _ (M_2_6_13 g2 g6 W.heap.size (W.alloc (.cells [.slice (lowI A c 2) 2 (c - 2)].toArray 22)) _ (by kernel_rfl) (fr_step hw (fr_new (fr_refl W) _)) (r2.step (fr_new (fr_refl W) _)) (r6.step (fr_new (fr_refl W) _)) (has_blk (Arr.new W [.slice (lowI A c 2) 2 (c - 2)].toArray 22)))
    · go_simp
      refine hK0.out _ _ (fr_step hFw (fr_new hw _)) (fun _ => ?_)
      clear hK0 K
      try simp only [List.setIfInBounds_toArray, List.set_cons_zero, List.set_cons_succ]
      exact hF _ _ _ _ (M_2_6_17 g2 g6 W.heap.size (W.alloc (.cells [.slice (lowA (some ⟨b2, off2, none⟩) c2 2) 1 (c2 - 2)].toArray 29)) _ (by kernel_rfl) (fr_step hw (fr_new (fr_refl W) _)) (r2.step (fr_new (fr_refl W) _)) (r6.step (fr_new (fr_refl W) _)) (has_blk (Arr.new W [.slice (lowA (some ⟨b2, off2, none⟩) c2 2) 1 (c2 - 2)].toArray 29)))
  have M_2_13 : ∀ (g2 : Nat) (g13 : Nat) (W : World) (ls : Array Bool), ls = #[true, true, true, false, true, true, false, false, true, true, true, true, true, true, false, true, true, false, false, false, false, false, false, false, false] → Fr Z W → Has W W.heap.size (some ⟨g2, 0, none⟩) [.slice A 2 c] → Has W W.heap.size (some ⟨g13, 0, none⟩) [.slice (lowI A c 2) 2 (c - 2)] → F 12 ls ⟨#[.slice A 4 c, .slice (some ⟨b2, off2, none⟩) 3 c2, undef, undef, .slice none 0 0, .slice none 0 0, .pointer (some ⟨w.heap.size, 0, none⟩), .slice none 0 0, .slice none 0 0, .bool false, .slice A 4 c, .int .i64 4, .bool false, .bool false, .slice (some ⟨b2, off2, none⟩) 3 c2, .int .i64 3, .bool false, .bool false, undef, .slice A 4 c, .slice A 2 c, .slice (some ⟨g2, 0, none⟩) 1 1, undef, .slice (some ⟨b2, off2, none⟩) 3 c2, .slice (some ⟨b2, off2, none⟩) 1 c2, undef, undef, .slice (some ⟨b2, off2, none⟩) 3 c2, .pointer (some ⟨b2, off2 + 9, none⟩), .agg (kc m).toArray, .slice A 4 c, .slice (lowI A c 2) 2 (c - 2), .slice (some ⟨g13, 0, none⟩) 1 1, undef, .slice (some ⟨b2, off2, none⟩) 3 c2, .slice (lowA (some ⟨b2, off2, none⟩) c2 2) 1 (c2 - 2), undef, undef], []⟩ W := by
    intro g2 g13 W ls hls hw r2 r13
    subst hls
    refine hB _ _ _ _ ?_
    refine wpAnyH_ready (rs := [3, 6, 17]) (by kernel_rfl) (by simp) ?_
    refine AllReadyH.cons rfl (fun K hK0 => ?_) (AllReadyH.cons rfl (fun K hK0 => ?_) (AllReadyH.cons rfl (fun K hK0 => ?_) (AllReadyH.nil)))
    · go_simp
      refine (cJ1 W g2 hw r2).mono ?_
      rintro e W2 ⟨A3, c3, rfl, r3, s2⟩
      go_simp
      refine hK0.out _ _ (fr_step hFw (fr_step hw s2)) (fun _ => ?_)
      clear hK0 K
      try simp only [List.setIfInBounds_toArray, List.set_cons_zero, List.set_cons_succ]
      exact hF _ _ _ _ (M_2_3_13 g2 A3 c3 g13 W2 _ (by kernel_rfl) (fr_step hw s2) (r3) (r13.step s2))
    · go_simp
      refine hK0.out _ _ (fr_step hFw (fr_new hw _)) (fun _ => ?_)
      clear hK0 K
      try simp only [List.setIfInBounds_toArray, List.set_cons_zero, List.set_cons_succ]
      exact hF _ _ _ _ (M_2_6_13 g2 W.heap.size g13 (W.alloc (.cells [.slice (some ⟨b2, off2, none⟩) 1 c2].toArray 29)) _ (by kernel_rfl) (fr_step hw (fr_new (fr_refl W) _)) (r2.step (fr_new (fr_refl W) _)) (has_blk (Arr.new W [.slice (some ⟨b2, off2, none⟩) 1 c2].toArray 29)) (r13.step (fr_new (fr_refl W) _)))
    · go_simp
      refine hK0.out _ _ (fr_step hFw (fr_new hw _)) (fun _ => ?_)
      clear hK0 K
      try simp only [List.setIfInBounds_toArray, List.set_cons_zero, List.set_cons_succ]
      exact hF _ _ _ _ (M_2_13_17 g2 g13 W.heap.size (W.alloc (.cells [.slice (lowA (some ⟨b2, off2, none⟩) c2 2) 1 (c2 - 2)].toArray 29)) _ (by kernel_rfl) (fr_step hw (fr_new (fr_refl W) _)) (r2.step (fr_new (fr_refl W) _)) (r13.step (fr_new (fr_refl W) _)) (has_blk (Arr.new W [.slice (lowA (some ⟨b2, off2, none⟩) c2 2) 1 (c2 - 2)].toArray 29)))
  have M_2_17 : ∀ (g2 : Nat) (g17 : Nat) (W : World) (ls : Array Bool), ls = #[true, true, true, false, true, true, false, false, true, true, true, true, true, false, false, true, true, true, false, false, false, false, false, false, false] → Fr Z W → Has W W.heap.size (some ⟨g2, 0, none⟩) [.slice A 2 c] → Has W W.heap.size (some ⟨g17, 0, none⟩) [.slice (lowA (some ⟨b2, off2, none⟩) c2 2) 1 (c2 - 2)] → F 12 ls ⟨#[.slice A 4 c, .slice (some ⟨b2, off2, none⟩) 3 c2, undef, undef, .slice none 0 0, .slice none 0 0, .pointer (some ⟨w.heap.size, 0, none⟩), .slice none 0 0, .slice none 0 0, .bool false, .slice A 4 c, .int .i64 4, .bool false, .bool false, .slice (some ⟨b2, off2, none⟩) 3 c2, .int .i64 3, .bool false, .bool false, undef, .slice A 4 c, .slice A 2 c, .slice (some ⟨g2, 0, none⟩) 1 1, undef, .slice (some ⟨b2, off2, none⟩) 3 c2, .slice (some ⟨b2, off2, none⟩) 1 c2, undef, undef, .slice (some ⟨b2, off2, none⟩) 3 c2, .pointer (some ⟨b2, off2 + 9, none⟩), .agg (kc m).toArray, .slice A 4 c, .slice (lowI A c 2) 2 (c - 2), undef, undef, .slice (some ⟨b2, off2, none⟩) 3 c2, .slice (lowA (some ⟨b2, off2, none⟩) c2 2) 1 (c2 - 2), .slice (some ⟨g17, 0, none⟩) 1 1, undef], []⟩ W := by
    intro g2 g17 W ls hls hw r2 r17
    subst hls
    refine hB _ _ _ _ ?_
    refine wpAnyH_ready (rs := [3, 6, 13]) (by kernel_rfl) (by simp) ?_
    refine AllReadyH.cons rfl (fun K hK0 => ?_) (AllReadyH.cons rfl (fun K hK0 => ?_) (AllReadyH.cons rfl (fun K hK0 => ?_) (AllReadyH.nil)))
    · go_simp
      refine (cJ1 W g2 hw r2).mono ?_
      rintro e W2 ⟨A3, c3, rfl, r3, s2⟩
      go_simp
      refine hK0.out _ _ (fr_step hFw (fr_step hw s2)) (fun _ => ?_)
      clear hK0 K
      try simp only [List.setIfInBounds_toArray, List.set_cons_zero, List.set_cons_succ]
      exact hF _ _ _ _ (M_2_3_17 g2 A3 c3 g17 W2 _ (by kernel_rfl) (fr_step hw s2) (r3) (r17.step s2))
    · go_simp
      refine hK0.out _ _ (fr_step hFw (fr_new hw _)) (fun _ => ?_)
      clear hK0 K
      try simp only [List.setIfInBounds_toArray, List.set_cons_zero, List.set_cons_succ]
      exact hF _ _ _ _ (M_2_6_17 g2 W.heap.size g17 (W.alloc (.cells [.slice (some ⟨b2, off2, none⟩) 1 c2].toArray 29)) _ (by kernel_rfl) (fr_step hw (fr_new (fr_refl W) _)) (r2.step (fr_new (fr_refl W) _)) (has_blk (Arr.new W [.slice (some ⟨b2, off2, none⟩) 1 c2].toArray 29)) (r17.step (fr_new (fr_refl W) _)))
    · go_simp
      refine hK0.out _ _ (fr_step hFw (fr_new hw _)) (fun _ => ?_)
      clear hK0 K
      try simp only [List.setIfInBounds_toArray, List.set_cons_zero, List.set_cons_succ]
      exact hF _ _ _ _ (M_2_13_17 g2 W.heap.size g17 (W.alloc (.cells [.slice (lowI A c 2) 2 (c - 2)].toArray 22)) _ (by kernel_rfl) (fr_step hw (fr_new (fr_refl W) _)) (r2.step (fr_new (fr_refl W) _)) (has_blk (Arr.new W [.slice (lowI A c 2) 2 (c - 2)].toArray 22)) (r17.step (fr_new (fr_refl W) _)))
  have M_6_13 : ∀ (g6 : Nat) (g13 : Nat) (W : World) (ls : Array Bool), ls = #[true, true, false, false, true, true, true, false, true, true, true, true, true, true, false, true, true, false, false, false, false, false, false, false, false] → Fr Z W → Has W W.heap.size (some ⟨g6, 0, none⟩) [.slice (some ⟨b2, off2, none⟩) 1 c2] → Has W W.heap.size (some ⟨g13, 0, none⟩) [.slice (lowI A c 2) 2 (c - 2)] → F 12 ls ⟨#[.slice A 4 c, .slice (some ⟨b2, off2, none⟩) 3 c2, undef, undef, .slice none 0 0, .slice none 0 0, .pointer (some ⟨w.heap.size, 0, none⟩), .slice none 0 0, .slice none 0 0, .bool false, .slice A 4 c, .int .i64 4, .bool false, .bool false, .slice (some ⟨b2, off2, none⟩) 3 c2, .int .i64 3, .bool false, .bool false, undef, .slice A 4 c, .slice A 2 c, undef, undef, .slice (some ⟨b2, off2, none⟩) 3 c2, .slice (some ⟨b2, off2, none⟩) 1 c2, .slice (some ⟨g6, 0, none⟩) 1 1, undef, .slice (some ⟨b2, off2, none⟩) 3 c2, .pointer (some ⟨b2, off2 + 9, none⟩), .agg (kc m).toArray, .slice A 4 c, .slice (lowI A c 2) 2 (c - 2), .slice (some ⟨g13, 0, none⟩) 1 1, undef, .slice (some ⟨b2, off2, none⟩) 3 c2, .slice (lowA (some ⟨b2, off2, none⟩) c2 2) 1 (c2 - 2), undef, undef], []⟩ W := by
    intro g6 g13 W ls hls hw r6 r13
    subst hls
    refine hB _ _ _ _ ?_
    refine wpAnyH_ready (rs := [2, 17]) (by kernel_rfl) (by simp) ?_
    refine AllReadyH.cons rfl (fun K hK0 => ?_) (AllReadyH.cons rfl (fun K hK0 => ?_) (AllReadyH.nil))
    · go_simp
      refine hK0.out _ _ (fr_step hFw (fr_new hw _)) (fun _ => ?_)
      clear hK0 K
      try simp only [List.setIfInBounds_toArray, List.set_cons_zero, List.set_cons_succ]
      exact hF _ _ _ _ (M_2_6_13 W.heap.size g6 g13 (W.alloc (.cells [.slice A 2 c].toArray 22)) _ (by kernel_rfl) (fr_step hw (fr_new (fr_refl W) _)) (has_blk (Arr.new W [.slice A 2 c].toArray 22)) (r6.step (fr_new (fr_refl W) _)) (r13.step (fr_new (fr_refl W) _)))
    · go_simp
      refine hK0.out _ _ (fr_step hFw (fr_new hw _)) (fun _ => ?_)
      clear hK0 K
      try simp only [List.setIfInBounds_toArray, List.set_cons_zero, List.set_cons_succ]
      exact hF _ _ _ _ (M_6_13_17 g6 g13 W.heap.size (W.alloc (.cells [.slice (lowA (some ⟨b2, off2, none⟩) c2 2) 1 (c2 - 2)].toArray 29)) _ (by kernel_rfl) (fr_step hw (fr_new (fr_refl W) _)) (r6.step (fr_new (fr_refl W) _)) (r13.step (fr_new (fr_refl W) _)) (has_blk (Arr.new W [.slice (lowA (some ⟨b2, off2, none⟩) c2 2) 1 (c2 - 2)].toArray 29)))
  have M_6_17 : ∀ (g6 : Nat) (g17 : Nat) (W : World) (ls : Array Bool), ls = #[true, true, false, false, true, true, true, false, true, true, true, true, true, false, false, true, true, true, false, false, false, false, false, false, false] → Fr Z W → Has W W.heap.size (some ⟨g6, 0, none⟩) [.slice (some ⟨b2, off2, none⟩) 1 c2] → Has W W.heap.size (some ⟨g17, 0, none⟩) [.slice (lowA (some ⟨b2, off2, none⟩) c2 2) 1 (c2 - 2)] → F 12 ls ⟨#[.slice A 4 c, .slice (some ⟨b2, off2, none⟩) 3 c2, undef, undef, .slice none 0 0, .slice none 0 0, .pointer (some ⟨w.heap.size, 0, none⟩), .slice none 0 0, .slice none 0 0, .bool false, .slice A 4 c, .int .i64 4, .bool false, .bool false, .slice (some ⟨b2, off2, none⟩) 3 c2, .int .i64 3, .bool false, .bool false, undef, .slice A 4 c, .slice A 2 c, undef, undef, .slice (some ⟨b2, off2, none⟩) 3 c2, .slice (some ⟨b2, off2, none⟩) 1 c2, .slice (some ⟨g6, 0, none⟩) 1 1, undef, .slice (some ⟨b2, off2, none⟩) 3 c2, .pointer (some ⟨b2, off2 + 9, none⟩), .agg (kc m).toArray, .slice A 4 c, .slice (lowI A c 2) 2 (c - 2), undef, undef, .slice (some ⟨b2, off2, none⟩) 3 c2, .slice (lowA (some ⟨b2, off2, none⟩) c2 2) 1 (c2 - 2), .slice (some ⟨g17, 0, none⟩) 1 1, undef], []⟩ W := by
    intro g6 g17 W ls hls hw r6 r17
    subst hls
    refine hB _ _ _ _ ?_
    refine wpAnyH_ready (rs := [2, 13]) (by kernel_rfl) (by simp) ?_
    refine AllReadyH.cons rfl (fun K hK0 => ?_) (AllReadyH.cons rfl (fun K hK0 => ?_) (AllReadyH.nil))
    · go_simp
      refine hK0.out _ _ (fr_step hFw (fr_new hw _)) (fun _ => ?_)
      clear hK0 K
      try simp only [List.setIfInBounds_toArray, List.set_cons_zero, List.set_cons_succ]
      exact hF _ _ _ _ (M_2_6_17 W.heap.size g6 g17 (W.alloc (.cells [.slice A 2 c].toArray 22)) _ (by kernel_rfl) (fr_step hw (fr_new (fr_refl W) _)) (has_blk (Arr.new W [.slice A 2 c].toArray 22)) (r6.step (fr_new (fr_refl W) _)) (r17.step (fr_new (fr_refl W) _)))
    · go_simp
      refine hK0.out _ _ (fr_step hFw (fr_new hw _)) (fun _ => ?_)
      clear hK0 K
      try simp only [List.setIfInBounds_toArray, List.set_cons_zero, List.set_cons_succ]
      exact hF _ _ _ _ (M_6_13_17 g6 W.heap.size g17 (W.alloc (.cells [.slice (lowI A c 2) 2 (c - 2)].toArray 22)) _ (by kernel_rfl) (fr_step hw (fr_new (fr_refl W) _)) (r6.step (fr_new (fr_refl W) _)) (has_blk (Arr.new W [.slice (lowI A c 2) 2 (c - 2)].toArray 22)) (r17.step (fr_new (fr_refl W) _)))
  have M_13_17 : ∀ (g13 : Nat) (g17 : Nat) (W : World) (ls : Array Bool), ls = #[true, true, false, false, true, true, false, false, true, true, true, true, true, true, false, true, true, true, false, false, false, false, false, false, false] → Fr Z W → Has W W.heap.size (some ⟨g13, 0, none⟩) [.slice (lowI A c 2) 2 (c - 2)] → Has W W.heap.size (some ⟨g17, 0, none⟩) [.slice (lowA (some ⟨b2, off2, none⟩) c2 2) 1 (c2 - 2)] → F 12 ls ⟨#[.slice A 4 c, .slice (some ⟨b2, off2, none⟩) 3 c2, undef, undef, .slice none 0 0, .slice none 0 0, .pointer (some ⟨w.heap.size, 0, none⟩), .slice none 0 0, .slice none 0 0, .bool false, .slice A 4 c, .int .i64 4, .bool false, .bool false, .slice (some ⟨b2, off2, none⟩) 3 c2, .int .i64 3, .bool false, .bool false, undef, .slice A 4 c, .slice A 2 c, undef, undef, .slice (some ⟨b2, off2, none⟩) 3 c2, .slice (some ⟨b2, off2, none⟩) 1 c2, undef, undef, .slice (some ⟨b2, off2, none⟩) 3 c2, .pointer (some ⟨b2, off2 + 9, none⟩), .agg (kc m).toArray, .slice A 4 c, .slice (lowI A c 2) 2 (c - 2), .slice (some ⟨g13, 0, none⟩) 1 1, undef, .slice (some ⟨b2, off2, none⟩) 3 c2, .slice (lowA (some ⟨b2, off2, none⟩) c2 2) 1 (c2 - 2), .slice (some ⟨g17, 0, none⟩) 1 1, undef], []⟩ W := by
    intro g13 g17 W ls hls hw r13 r17
    subst hls
    refine hB _ _ _ _ ?_
    refine wpAnyH_ready (rs := [2, 6]) (by kernel_rfl) (by simp) ?_
    refine AllReadyH.cons rfl (fun K hK0 => ?_) (AllReadyH.cons rfl (fun K hK0 => ?_) (AllReadyH.nil))
    · go_simp
      refine hK0.out _ _ (fr_step hFw (fr_new hw _)) (fun _ => ?_)
      clear hK0 K
      try simp only [List.setIfInBounds_toArray, List.set_cons_zero, List.set_cons_succ]
      exact hF _ _ _ _ (M_2_13_17 W.heap.size g13 g17 (W.alloc (.cells [.slice A 2 c].toArray 22)) _ (by kernel_rfl) (fr_step hw (fr_new (fr_refl W) _)) (has_blk (Arr.new W [.slice A 2 c].toArray 22)) (r13.step (fr_new (fr_refl W) _)) (r17.step (fr_new (fr_refl W) _)))
    · go_simp
      refine hK0.out _ _ (fr_step hFw (fr_new hw _)) (fun _ => ?_)
      clear hK0 K
      try simp only [List.setIfInBounds_toArray, List.set_cons_zero, List.set_cons_succ]
      exact hF _ _ _ _ (M_6_13_17 W.heap.size g13 g17 (W.alloc (.cells [.slice (some ⟨b2, off2, none⟩) 1 c2].toArray 29)) _ (by kernel_rfl) (fr_step hw (fr_new (fr_refl W) _)) (has_blk (Arr.new W [.slice (some ⟨b2, off2, none⟩) 1 c2].toArray 29)) (r13.step (fr_new (fr_refl W) _)) (r17.step (fr_new (fr_refl W) _)))
  have M_2 : ∀ (g2 : Nat) (W : World) (ls : Array Bool), ls = #[true, true, true, false, true, true, false, false, true, true, true, true, true, false, false, true, true, false, false, false, false, false, false, false, false] → Fr Z W → Has W W.heap.size (some ⟨g2, 0, none⟩) [.slice A 2 c] → F 13 ls ⟨#[.slice A 4 c, .slice (some ⟨b2, off2, none⟩) 3 c2, undef, undef, .slice none 0 0, .slice none 0 0, .pointer (some ⟨w.heap.size, 0, none⟩), .slice none 0 0, .slice none 0 0, .bool false, .slice A 4 c, .int .i64 4, .bool false, .bool false, .slice (some ⟨b2, off2, none⟩) 3 c2, .int .i64 3, .bool false, .bool false, undef, .slice A 4 c, .slice A 2 c, .slice (some ⟨g2, 0, none⟩) 1 1, undef, .slice (some ⟨b2, off2, none⟩) 3 c2, .slice (some ⟨b2, off2, none⟩) 1 c2, undef, undef, .slice (some ⟨b2, off2, none⟩) 3 c2, .pointer (some ⟨b2, off2 + 9, none⟩), .agg (kc m).toArray, .slice A 4 c, .slice (lowI A c 2) 2 (c - 2), undef, undef, .slice (some ⟨b2, off2, none⟩) 3 c2, .slice (lowA (some ⟨b2, off2, none⟩) c2 2) 1 (c2 - 2), undef, undef], []⟩ W := by
    intro g2 W ls hls hw r2
    subst hls
    refine hB _ _ _ _ ?_
    refine wpAnyH_ready (rs := [3, 6, 13, 17]) (by kernel_rfl) (by simp) ?_
    refine AllReadyH.cons rfl (fun K hK0 => ?_) (AllReadyH.cons rfl (fun K hK0 => ?_) (AllReadyH.cons rfl (fun K hK0 => ?_) (AllReadyH.cons rfl (fun K hK0 => ?_) (AllReadyH.nil))))
    · go_simp
      refine (cJ1 W g2 hw r2).mono ?_
      rintro e W2 ⟨A3, c3, rfl, r3, s2⟩
      go_simp
      refine hK0.out _ _ (fr_step hFw (fr_step hw s2)) (fun _ => ?_)
      clear hK0 K
      try simp only [List.setIfInBounds_toArray, List.set_cons_zero, List.set_cons_succ]
      exact hF _ _ _ _ (M_2_3 g2 A3 c3 W2 _ (by kernel_rfl) (fr_step hw s2) (r3))
    · go_simp
      refine hK0.out _ _ (fr_step hFw (fr_new hw _)) (fun _ => ?_)
      clear hK0 K
      try simp only [List.setIfInBounds_toArray, List.set_cons_zero, List.set_cons_succ]
      exact hF _ _ _ _ (M_2_6 g2 W.heap.size (W.alloc (.cells [.slice (some ⟨b2, off2, none⟩) 1 c2].toArray 29)) _ (by kernel_rfl) (fr_step hw (fr_new (fr_refl W) _)) (r2.step (fr_new (fr_refl W) _)) (has_blk (Arr.new W [.slice (some ⟨b2, off2, none⟩) 1 c2].toArray 29)))
    · go_simp
      refine hK0.out _ _ (fr_step hFw (fr_new hw _)) (fun _ => ?_)
      clear hK0 K
      try simp only [List.setIfInBounds_toArray, List.set_cons_zero, List.set_cons_succ]
      exact hF _ _ _ _ (M_2_13 g2 W.heap.size (W.alloc (.cells [.slice (lowI A c 2) 2 (c - 2)].toArray 22)) _ (by kernel_rfl) (fr_step hw (fr_new (fr_refl W) _)) (r2.step (fr_new (fr_refl W) _)) (has_blk (Arr.new W [.slice (lowI A c 2) 2 (c - 2)].toArray 22)))
    · go_simp
      refine hK0.out _ _ (fr_step hFw (fr_new hw _)) (fun _ => ?_)
      clear hK0 K
      try simp only [List.setIfInBounds_toArray, List.set_cons_zero, List.set_cons_succ]
      exact hF _ _ _ _ (M_2_17 g2 W.heap.size (W.alloc (.cells [.slice (lowA (some ⟨b2, off2, none⟩) c2 2) 1 (c2 - 2)].toArray 29)) _ (by kernel_rfl) (fr_step hw (fr_new (fr_refl W) _)) (r2.step (fr_new (fr_refl W) _)) (has_blk (Arr.new W [.slice (lowA (some ⟨b2, off2, none⟩) c2 2) 1 (c2 - 2)].toArray 29)))
  have M_6 : ∀ (g6 : Nat) (W : World) (ls : Array Bool), ls = #[true, true, false, false, true, true, true, false, true, true, true, true, true, false, false, true, true, false, false, false, false, false, false, false, false] → Fr Z W → Has W W.heap.size (some ⟨g6, 0, none⟩) [.slice (some ⟨b2, off2, none⟩) 1 c2] → F 13 ls ⟨#[.slice A 4 c, .slice (some ⟨b2, off2, none⟩) 3 c2, undef, undef, .slice none 0 0, .slice none 0 0, .pointer (some ⟨w.heap.size, 0, none⟩), .slice none 0 0, .slice none 0 0, .bool false, .slice A 4 c, .int .i64 4, .bool false, .bool false, .slice (some ⟨b2, off2, none⟩) 3 c2, .int .i64 3, .bool false, .bool false, undef, .slice A 4 c, .slice A 2 c, undef, undef, .slice (some ⟨b2, off2, none⟩) 3 c2, .slice (some ⟨b2, off2, none⟩) 1 c2, .slice (some ⟨g6, 0, none⟩) 1 1, undef, .slice (some ⟨b2, off2, none⟩) 3 c2, .pointer (some ⟨b2, off2 + 9, none⟩), .agg (kc m).toArray, .slice A 4 c, .slice (lowI A c 2) 2 (c - 2), undef, undef, .slice (some ⟨b2, off2, none⟩) 3 c2, .slice (lowA (some ⟨b2, off2, none⟩) c2 2) 1 (c2 - 2), undef, undef], []⟩ W := by
    intro g6 W ls hls hw r6
    subst hls
    refine hB _ _ _ _ ?_
    refine wpAnyH_ready (rs := [2, 13, 17]) (by kernel_rfl) (by simp) ?_
    refine AllReadyH.cons rfl (fun K hK0 => ?_) (AllReadyH.cons rfl (fun K hK0 => ?_) (AllReadyH.cons rfl (fun K hK0 => ?_) (AllReadyH.nil)))
    · go_simp
      refine hK0.out _ _ (fr_step hFw (fr_new hw _)) (fun _ => ?_)
      clear hK0 K
      try simp only [List.setIfInBounds_toArray, List.set_cons_zero, List.set_cons_succ]
      exact hF _ _ _ _ (M_2_6 W.heap.size g6 (W.alloc (.cells [.slice A 2 c].toArray 22)) _ (by kernel_rfl) (fr_step hw (fr_new (fr_refl W) _)) (has_blk (Arr.new W [.slice A 2 c].toArray 22)) (r6.step (fr_new (fr_refl W) _)))
    · go_simp
      refine hK0.out _ _ (fr_step hFw (fr_new hw _)) (fun _ => ?_)
      clear hK0 K
      try simp only [List.setIfInBounds_toArray, List.set_cons_zero, List.set_cons_succ]
      exact hF _ _ _ _ (M_6_13 g6 W.heap.size (W.alloc (.cells [.slice (lowI A c 2) 2 (c - 2)].toArray 22)) _ (by kernel_rfl) (fr_step hw (fr_new (fr_refl W) _)) (r6.step (fr_new (fr_refl W) _)) (has_blk (Arr.new W [.slice (lowI A c 2) 2 (c - 2)].toArray 22)))
    · go_simp
      refine hK0.out _ _ (fr_step hFw (fr_new hw _)) (fun _ => ?_)
      clear hK0 K
      try simp only [List.setIfInBounds_toArray, List.set_cons_zero, List.set_cons_succ]
      exact hF _ _ _ _ (M_6_17 g6 W.heap.size (W.alloc (.cells [.slice (lowA (some ⟨b2, off2, none⟩) c2 2) 1 (c2 - 2)].toArray 29)) _ (by kernel_rfl) (fr_step hw (fr_new (fr_refl W) _)) (r6.step (fr_new (fr_refl W) _)) (has_blk (Arr.new W [.slice (lowA (some ⟨b2, off2, none⟩) c2 2) 1 (c2 - 2)].toArray 29)))
  have M_13 : ∀ (g13 : Nat) (W : World) (ls : Array Bool), ls = #[true, true, false, false, true, true, false, false, true, true, true, true, true, true, false, true, true, false, false, false, false, false, false, false, false] → Fr Z W → Has W W.heap.size (some ⟨g13, 0, none⟩) [.slice (lowI A c 2) 2 (c - 2)] → F 13 ls ⟨#[.slice A 4 c, .slice (some ⟨b2, off2, none⟩) 3 c2, undef, undef, .slice none 0 0, .slice none 0 0, .pointer (some ⟨w.heap.size, 0, none⟩), .slice none 0 0, .slice none 0 0, .bool false, .slice A 4 c, .int .i64 4, .bool false, .bool false, .slice (some ⟨b2, off2, none⟩) 3 c2, .int .i64 3, .bool false, .bool false, undef, .slice A 4 c, .slice A 2 c, undef, undef, .slice (some ⟨b2, off2, none⟩) 3 c2, .slice (some ⟨b2, off2, none⟩) 1 c2, undef, undef, .slice (some ⟨b2, off2, none⟩) 3 c2, .pointer (some ⟨b2, off2 + 9, none⟩), .agg (kc m).toArray, .slice A 4 c, .slice (lowI A c 2) 2 (c - 2), .slice (some ⟨g13, 0, none⟩) 1 1, undef, .slice (some ⟨b2, off2, none⟩) 3 c2, .slice (lowA (some ⟨b2, off2, none⟩) c2 2) 1 (c2 - 2), undef, undef], []⟩ W := by
    intro g13 W ls hls hw r13
    subst hls
    refine hB _ _ _ _ ?_
    refine wpAnyH_ready (rs := [2, 6, 17]) (by kernel_rfl) (by simp) ?_
    refine AllReadyH.cons rfl (fun K hK0 => ?_) (AllReadyH.cons rfl (fun K hK0 => ?_) (AllReadyH.cons rfl (fun K hK0 => ?_) (AllReadyH.nil)))
    · go_simp
      refine hK0.out _ _ (fr_step hFw (fr_new hw _)) (fun _ => ?_)
      clear hK0 K
      try simp only [List.setIfInBounds_toArray, List.set_cons_zero, List.set_cons_succ]
      exact hF _ _ _ _ (M_2_13 W.heap.size g13 (W.alloc (.cells [.slice A 2 c].toArray 22)) _ (by kernel_rfl) (fr_step hw (fr_new (fr_refl W) _)) (has_blk (Arr.new W [.slice A 2 c].toArray 22)) (r13.step (fr_new (fr_refl W) _)))
    · go_simp
      refine hK0.out _ _ (fr_step hFw (fr_new hw _)) (fun _ => ?_)
      clear hK0 K
      try simp only [List.setIfInBounds_toArray, List.set_cons_zero, List.set_cons_succ]
      exact hF _ _ _ _ (M_6_13 W.heap.size g13 (W.alloc (.cells [.slice (some ⟨b2, off2, none⟩) 1 c2].toArray 29)) _ (by kernel_rfl) (fr_step hw (fr_new (fr_refl W) _)) (has_blk (Arr.new W [.slice (some ⟨b2, off2, none⟩) 1 c2].toArray 29)) (r13.step (fr_new (fr_refl W) _)))
    · go_simp
      refine hK0.out _ _ (fr_step hFw (fr_new hw _)) (fun _ => ?_)
      clear hK0 K
      try simp only [List.setIfInBounds_toArray, List.set_cons_zero, List.set_cons_succ]
      exact hF _ _ _ _ (M_13_17 g13 W.heap.size (W.alloc (.cells [.slice (lowA (some ⟨b2, off2, none⟩) c2 2) 1 (c2 - 2)].toArray 29)) _ (by kernel_rfl) (fr_step hw (fr_new (fr_refl W) _)) (r13.step (fr_new (fr_refl W) _)) (has_blk (Arr.new W [.slice (lowA (some ⟨b2, off2, none⟩) c2 2) 1 (c2 - 2)].toArray 29)))
  have M_17 : ∀ (g17 : Nat) (W : World) (ls : Array Bool), ls = #[true, true, false, false, true, true, false, false, true, true, true, true, true, false, false, true, true, true, false, false, false, false, false, false, false] → Fr Z W → Has W W.heap.size (some ⟨g17, 0, none⟩) [.slice (lowA (some ⟨b2, off2, none⟩) c2 2) 1 (c2 - 2)] → F 13 ls ⟨#[.slice A 4 c, .slice (some ⟨b2, off2, none⟩) 3 c2, undef, undef, .slice none 0 0, .slice none 0 0, .pointer (some ⟨w.heap.size, 0, none⟩), .slice none 0 0, .slice none 0 0, .bool false, .slice A 4 c, .int .i64 4, .bool false, .bool false, .slice (some ⟨b2, off2, none⟩) 3 c2, .int .i64 3, .bool false, .bool false, undef, .slice A 4 c, .slice A 2 c, undef, undef, .slice (some ⟨b2, off2, none⟩) 3 c2, .slice (some ⟨b2, off2, none⟩) 1 c2, undef, undef, .slice (some ⟨b2, off2, none⟩) 3 c2, .pointer (some ⟨b2, off2 + 9, none⟩), .agg (kc m).toArray, .slice A 4 c, .slice (lowI A c 2) 2 (c - 2), undef, undef, .slice (some ⟨b2, off2, none⟩) 3 c2, .slice (lowA (some ⟨b2, off2, none⟩) c2 2) 1 (c2 - 2), .slice (some ⟨g17, 0, none⟩) 1 1, undef], []⟩ W := by
    intro g17 W ls hls hw r17
    subst hls
    refine hB _ _ _ _ ?_
    refine wpAnyH_ready (rs := [2, 6, 13]) (by kernel_rfl) (by simp) ?_
    refine AllReadyH.cons rfl (fun K hK0 => ?_) (AllReadyH.cons rfl (fun K hK0 => ?_) (AllReadyH.cons rfl (fun K hK0 => ?_) (AllReadyH.nil)))
    · go_simp
      refine hK0.out _ _ (fr_step hFw (fr_new hw _)) (fun _ => ?_)
      clear hK0 K
      try simp only [List.setIfInBounds_toArray, List.set_cons_zero, List.set_cons_succ]
      exact hF _ _ _ _ (M_2_17 W.heap.size g17 (W.alloc (.cells [.slice A 2 c].toArray 22)) _ (by kernel_rfl) (fr_step hw (fr_new (fr_refl W) _)) (has_blk (Arr.new W [.slice A 2 c].toArray 22)) (r17.step (fr_new (fr_refl W) _)))
    · go_simp
      refine hK0.out _ _ (fr_step hFw (fr_new hw _)) (fun _ => ?_)
      clear hK0 K
      try simp only [List.setIfInBounds_toArray, List.set_cons_zero, List.set_cons_succ]
      exact hF _ _ _ _ (M_6_17 W.heap.size g17 (W.alloc (.cells [.slice (some ⟨b2, off2, none⟩) 1 c2].toArray 29)) _ (by kernel_rfl) (fr_step hw (fr_new (fr_refl W) _)) (has_blk (Arr.new W [.slice (some ⟨b2, off2, none⟩) 1 c2].toArray 29)) (r17.step (fr_new (fr_refl W) _)))
    · go_simp
      refine hK0.out _ _ (fr_step hFw (fr_new hw _)) (fun _ => ?_)
      clear hK0 K
      try simp only [List.setIfInBounds_toArray, List.set_cons_zero, List.set_cons_succ]
      exact hF _ _ _ _ (M_13_17 W.heap.size g17 (W.alloc (.cells [.slice (lowI A c 2) 2 (c - 2)].toArray 22)) _ (by kernel_rfl) (fr_step hw (fr_new (fr_refl W) _)) (has_blk (Arr.new W [.slice (lowI A c 2) 2 (c - 2)].toArray 22)) (r17.step (fr_new (fr_refl W) _)))
  have M_ : ∀ (W : World) (ls : Array Bool), ls = #[true, true, false, false, true, true, false, false, true, true, true, true, true, false, false, true, true, false, false, false, false, false, false, false, false] → Fr Z W → F 14 ls ⟨#[.slice A 4 c, .slice (some ⟨b2, off2, none⟩) 3 c2, undef, undef, .slice none 0 0, .slice none 0 0, .pointer (some ⟨w.heap.size, 0, none⟩), .slice none 0 0, .slice none 0 0, .bool false, .slice A 4 c, .int .i64 4, .bool false, .bool false, .slice (some ⟨b2, off2, none⟩) 3 c2, .int .i64 3, .bool false, .bool false, undef, .slice A 4 c, .slice A 2 c, undef, undef, .slice (some ⟨b2, off2, none⟩) 3 c2, .slice (some ⟨b2, off2, none⟩) 1 c2, undef, undef, .slice (some ⟨b2, off2, none⟩) 3 c2, .pointer (some ⟨b2, off2 + 9, none⟩), .agg (kc m).toArray, .slice A 4 c, .slice (lowI A c 2) 2 (c - 2), undef, undef, .slice (some ⟨b2, off2, none⟩) 3 c2, .slice (lowA (some ⟨b2, off2, none⟩) c2 2) 1 (c2 - 2), undef, undef], []⟩ W := by
    intro  W ls hls hw 
    subst hls
    refine hB _ _ _ _ ?_
    refine wpAnyH_ready (rs := [2, 6, 13, 17]) (by kernel_rfl) (by simp) ?_
    refine AllReadyH.cons rfl (fun K hK0 => ?_) (AllReadyH.cons rfl (fun K hK0 => ?_) (AllReadyH.cons rfl (fun K hK0 => ?_) (AllReadyH.cons rfl (fun K hK0 => ?_) (AllReadyH.nil))))
    · go_simp
      refine hK0.out _ _ (fr_step hFw (fr_new hw _)) (fun _ => ?_)
      clear hK0 K
      try simp only [List.setIfInBounds_toArray, List.set_cons_zero, List.set_cons_succ]
      exact hF _ _ _ _ (M_2 W.heap.size (W.alloc (.cells [.slice A 2 c].toArray 22)) _ (by kernel_rfl) (fr_step hw (fr_new (fr_refl W) _)) (has_blk (Arr.new W [.slice A 2 c].toArray 22)))
    · go_simp
      refine hK0.out _ _ (fr_step hFw (fr_new hw _)) (fun _ => ?_)
      clear hK0 K
      try simp only [List.setIfInBounds_toArray, List.set_cons_zero, List.set_cons_succ]
      exact hF _ _ _ _ (M_6 W.heap.size (W.alloc (.cells [.slice (some ⟨b2, off2, none⟩) 1 c2].toArray 29)) _ (by kernel_rfl) (fr_step hw (fr_new (fr_refl W) _)) (has_blk (Arr.new W [.slice (some ⟨b2, off2, none⟩) 1 c2].toArray 29)))
    · go_simp
      refine hK0.out _ _ (fr_step hFw (fr_new hw _)) (fun _ => ?_)
      clear hK0 K
      try simp only [List.setIfInBounds_toArray, List.set_cons_zero, List.set_cons_succ]
      exact hF _ _ _ _ (M_13 W.heap.size (W.alloc (.cells [.slice (lowI A c 2) 2 (c - 2)].toArray 22)) _ (by kernel_rfl) (fr_step hw (fr_new (fr_refl W) _)) (has_blk (Arr.new W [.slice (lowI A c 2) 2 (c - 2)].toArray 22)))
    · go_simp
      refine hK0.out _ _ (fr_step hFw (fr_new hw _)) (fun _ => ?_)
      clear hK0 K
      try simp only [List.setIfInBounds_toArray, List.set_cons_zero, List.set_cons_succ]
      exact hF _ _ _ _ (M_17 W.heap.size (W.alloc (.cells [.slice (lowA (some ⟨b2, off2, none⟩) c2 2) 1 (c2 - 2)].toArray 29)) _ (by kernel_rfl) (fr_step hw (fr_new (fr_refl W) _)) (has_blk (Arr.new W [.slice (lowA (some ⟨b2, off2, none⟩) c2 2) 1 (c2 - 2)].toArray 29)))
  exact M_ X0 _ (by kernel_rfl) hrD
end Go.Proofs.Ytnfoebcfhldemaa
/- Both halves of the kids, by the document. -/
namespace Go.Proofs.Ytnfoebcfhldemaa
set_option maxRecDepth 100000
open Go.RowKit
set_option linter.unusedVariables false
attribute [local go_sem ↓] key_ld msg_ld key_st
set_option maxHeartbeats 2000000 in
theorem rhalves_no {W0 w : World} {A A2 : Option Addr} {n c n2 c2 : Nat} (hn : n < 4) (h0 : Fr W0 w) :
    Calls Try.prog 39 #[.slice A n c, .slice A2 n2 c2] w fun e w' => e = .returned HalfNo ∧ Fr W0 w' := by
  obtain ⟨Z, hZ, hF, hZZ, hK, hS⟩ := zeroK_box w
  rw [zeroK_cells] at hZ
  have H0 := keep h0
  have q1 : ((n : Int) == 4) = false := by simp; omega
  have q2 : ((n : Int) != 4) = true := by simp; omega
  clear h0
  unfold HalfNo
  go_enter Try.func39, Try.ntmps39
  go_wp2_with (first
    | (refine wpList_store_at (ds := kc zeroK) key_info rfl (.tmp 6) (.tmp 23) rfl w.heap.size 0 rfl rfl (kc_len _) (kc_one _) hK (by decide) (splice_all _ _ (by decide)) ?_; intro W5 hM5 hk5; have hF5 := hk5.fr hF (Nat.le_refl _); clear hk5)
    | fail)
  exact bodyPost_ret (keyS.result6 rfl _ w.heap.size rfl (kc_len _) hM5) rfl ⟨rfl, fr_step H0.out hF5⟩
set_option maxHeartbeats 4000000 in
theorem rhalves_at {W0 w : World} {A A2 : Option Addr} {c c2 B B2 : Nat} {ks : List Int} {ps : List RK} {m : RK} (hk : Has w B A (ints ks)) (hB : B ≤ w.heap.size) (hn : ks.length = 4) (hc : 4 ≤ c) (hp : Has w B2 A2 (rows kc ps)) (hB2 : B2 ≤ w.heap.size) (hn2 : ps.length = 3) (hc2 : 3 ≤ c2) (hm : ps[1]? = some m) (h0 : Fr W0 w) :
    Calls Try.prog 39 #[.slice A 4 c, .slice A2 3 c2] w (HalfOut W0 ks ps m) := by
  obtain ⟨Z, hZ, hF, hZZ, hK, hS⟩ := zeroK_box w
  rw [zeroK_cells] at hZ
  have HW0 := keep h0
  have hkZ := (hk.fr hB hF).mono (Nat.le_trans hB hF.size)
  have hpZ := (hp.fr hB2 hF).mono (Nat.le_trans hB2 hF.size)
  obtain ⟨b2, off2, rfl, hb1, hr⟩ := has_rows hp (kwid ps) (by decide) (by intro e; rw [e] at hm; simp at hm)
  have lM := elem_ld keyS hr (kwid ps) (by omega) hm
  simp only [Nat.one_mul] at lM
  have q1 : ∀ W, (Instr.slice 22 (.slice A 4 c) none (some (.int .i64 2)) none).run Try.prog W = .ok (.slice A 2 c) W := ints_slice_hi A 4 c 2 (by decide) hc
  have q2 : ∀ W, (Instr.slice 22 (.slice A 4 c) (some (.int .i64 2)) none none).run Try.prog W = .ok (.slice (lowI A c 2) 2 (c - 2)) W := ints_slice_lo A 4 c 2 (by decide) hc
  have q3 : ∀ W, (Instr.sliceAt 22 (.slice A 4 c) none (some (.int .i64 2)) none).run Try.prog W = .ok (.slice A 2 c) W := ints_sliceAt_hi A 4 c 2 (by decide) hc
  have q4 : ∀ W, (Instr.sliceAt 22 (.slice A 4 c) (some (.int .i64 2)) none none).run Try.prog W = .ok (.slice (lowI A c 2) 2 (c - 2)) W := ints_sliceAt_lo A 4 c 2 (by decide) hc
  have q5 : ∀ W, (Instr.slice 29 (.slice (some ⟨b2, off2, none⟩) 3 c2) none (some (.int .i64 1)) none).run Try.prog W = .ok (.slice (some ⟨b2, off2, none⟩) 1 c2) W := key_slice_hi _ 3 c2 1 (by decide) hc2
  have q6 : ∀ W, (Instr.slice 29 (.slice (some ⟨b2, off2, none⟩) 3 c2) (some (.int .i64 2)) none none).run Try.prog W = .ok (.slice (lowA (some ⟨b2, off2, none⟩) c2 2) 1 (c2 - 2)) W := key_slice_lo _ 3 c2 2 (by decide) hc2
  have q7 : ∀ W, (Instr.sliceAt 29 (.slice (some ⟨b2, off2, none⟩) 3 c2) none (some (.int .i64 1)) none).run Try.prog W = .ok (.slice (some ⟨b2, off2, none⟩) 1 c2) W := key_sliceAt_hi _ 3 c2 1 (by decide) hc2
  have q8 : ∀ W, (Instr.sliceAt 29 (.slice (some ⟨b2, off2, none⟩) 3 c2) (some (.int .i64 2)) none none).run Try.prog W = .ok (.slice (lowA (some ⟨b2, off2, none⟩) c2 2) 1 (c2 - 2)) W := key_sliceAt_lo _ 3 c2 2 (by decide) hc2
  have r1 := has_take_ints hkZ 2
  have r3 := has_ilow (c := c) hkZ (t := 2) (by rw [hn]; decide) (by rw [hn]; exact hc)
  have k1 : Has Z Z.heap.size (some ⟨b2, off2, none⟩) (rows kc (ps.take 1)) := has_hi hpZ 1
  have k3 : Has Z Z.heap.size (lowA (some ⟨b2, off2, none⟩) c2 2) (rows kc (ps.drop 2)) := has_klow (c := c2) hpZ (t := 2) (by rw [hn2]; decide) (by rw [hn2]; exact hc2)
  have e1 : (ks.take 2).length = 2 := by rw [List.length_take, hn]; rfl
  have e3 : (ks.drop 2).length = 2 := by rw [List.length_drop, hn]
  have f1 : (ps.take 1).length = 1 := by rw [List.length_take, hn2]; rfl
  have f3 : (ps.drop 2).length = 1 := by rw [List.length_drop, hn2]
  have HW0 := keep h0
  have hrD := fr_drew hZZ
  have hSz := keep hS
  have hKZ := keep hK
  have hw2 : IntKind.i64.wrap (2 - 1) = 1 := by decide
  have hw3 : IntKind.i64.wrap 1 = 1 := by decide
  have hl1 : Hid ((ints (ks.take 2)).length = 2 * 1) := keep (by rw [ints_len, e1])
  have hl3 : Hid ((ints (ks.drop 2)).length = 2 * 1) := keep (by rw [ints_len, e3])
  have hm1 : Hid ((rows kc (ps.take 1)).length = 1 * 9) := keep (by rw [rowk_len, f1])
  have hm3 : Hid ((rows kc (ps.drop 2)).length = 1 * 9) := keep (by rw [rowk_len, f3])
  have r1 := keep r1
  have r3 := keep r3
  have k1 := keep k1
  have k3 := keep k3
  have hFw := keep hF
  clear hk hp hkZ hpZ hr hm hn hn2 h0 e1 e3 f1 f3 hB hB2 hK hS hF
  unfold HalfOut
  go_enter Try.func39, Try.ntmps39
  have tok1 : Hid (0 < 1) := keep (by decide)
  have tok2 : Hid (0 < 1) := keep (by decide)
  have tok3 : Hid (0 < 1) := keep (by decide)
  have tok4 : Hid (0 < 1) := keep (by decide)
  go_wp2_with (first
    | (clear tok1; refine wpList_append_vals (w0 := Z) int_elem ints_und (by decide) rfl (.tmp 24) (.tmp 27) rfl (fr_new hZZ _) (some ⟨Z.heap.size, 0, none⟩) 0 0 [] rfl (Own.lit Z Z.heap.size 3 #[] 0 1 (Nat.le_refl _) (Nat.zero_le _) rfl) Z.heap.size A 2 c (ints (ks.take 2)) rfl hl1.out ((r1.out.fr (Nat.le_refl _) (fr_new hZZ _))) (ints_one _) (by decide) (by decide) ?_; intro B1 d1 w1 o1 f1; simp only [List.nil_append, Nat.zero_add] at o1; have g1 := fr_refl w1)
    | (clear tok2; refine wpList_append_vals (w0 := w1) int_elem ints_und (by decide) rfl (.tmp 29) (.tmp 32) rfl (fr_new g1 _) (some ⟨w1.heap.size, 0, none⟩) 0 0 [] rfl (Own.lit w1 w1.heap.size 3 #[] 0 1 (Nat.le_refl _) (Nat.zero_le _) rfl) w1.heap.size (lowI A c 2) 2 (c - 2) (ints (ks.drop 2)) rfl hl3.out (((r3.out.step f1).fr (Nat.le_refl _) (fr_new g1 _))) (ints_one _) (by decide) (by decide) ?_; intro B2 d2 w2 o2 f2; simp only [List.nil_append, Nat.zero_add] at o2; have g2 := fr_refl w2)
    | (clear tok3; refine wpList_append_vals (w0 := w2) key_elem keys_und (by decide) rfl (.tmp 34) (.tmp 38) rfl (fr_new g2 _) (some ⟨w2.heap.size, 0, none⟩) 0 0 [] rfl (Own.lit w2 w2.heap.size 27 #[] 0 9 (Nat.le_refl _) (Nat.zero_le _) rfl) w2.heap.size (some ⟨b2, off2, none⟩) 1 c2 (rows kc (ps.take 1)) rfl hm1.out (((k1.out.step (fr_step f1 f2)).fr (Nat.le_refl _) (fr_new g2 _))) (keys_one _) (by decide) (by decide) ?_; intro B3 d3 w3 o3 f3; simp only [List.nil_append, Nat.zero_add] at o3; have g3 := fr_refl w3)
    | (clear tok4; refine wpList_append_vals (w0 := w3) key_elem keys_und (by decide) rfl (.tmp 40) (.tmp 43) rfl (fr_new g3 _) (some ⟨w3.heap.size, 0, none⟩) 0 0 [] rfl (Own.lit w3 w3.heap.size 27 #[] 0 9 (Nat.le_refl _) (Nat.zero_le _) rfl) w3.heap.size (lowA (some ⟨b2, off2, none⟩) c2 2) 1 (c2 - 2) (rows kc (ps.drop 2)) rfl hm3.out (((k3.out.step (fr_step (fr_step f1 f2) f3)).fr (Nat.le_refl _) (fr_new g3 _))) (keys_one _) (by decide) (by decide) ?_; intro B4 d4 w4 o4 f4; simp only [List.nil_append, Nat.zero_add] at o4; have g4 := fr_refl w4)
    | fail)
  have f2z := fr_step f1 f2
  have f3z := fr_step f2z f3
  have f4z := fr_step f3z f4
  have hwD : Fr w w4.drew := fr_step hFw.out (fr_drew f4z)
  have hob : OwnB w4.drew w.heap.size 27 9 := OwnB.of (hKZ.out.below (fr_drew f4z) hKZ.out.lt) (kc_len _)
  have s1 : Fr w1 w4.drew := fr_drew (fr_step (fr_step f2 f3) f4)
  have s2 : Fr w2 w4.drew := fr_drew (fr_step f3 f4)
  have s3 : Fr w3 w4.drew := fr_drew f4
  have s4 : Fr w4 w4.drew := fr_drew g4
  replace o1 := keep ((Own.below o1 s1 (Nat.le_refl _)))
  replace o2 := keep ((Own.below o2 s2 (Nat.le_refl _)).mono f1.size)
  replace o3 := keep ((Own.below o3 s3 (Nat.le_refl _)).mono f2z.size)
  replace o4 := keep ((Own.below o4 s4 (Nat.le_refl _)).mono f3z.size)
  clear s1 s2 s3 s4 f1 f2 f3 f4 f2z f3z f4z g1 g2 g3 g4 r1 r3 k1 k3
  refine wp_region_noPanic ?_
  refine wp_region_held_drew (S := fun w' => Fr w w') (by kernel_rfl) hwD (fun hHeld => ?_)
  change wpAnyH _ _ _ _ _ _ _ _ _
  clear hHeld
  generalize w4.drew = W at *
  have st : (stS 27 (.pointer (some ⟨w.heap.size, 0, none⟩)) (.agg (kc m).toArray)).run Try.prog W = .ok () (W.setRow w.heap.size (kc m).toArray) := st_run key_info hob (kc_len _) (kc_one _)
  have hset : Fr w (W.setRow w.heap.size (kc m).toArray) := fr_setRow hwD (Nat.le_refl _) _
  refine wpAnyH_take (i := 0) (v := ?_) rfl (by kernel_rfl) (by kernel_rfl) (by kernel_rfl) (fun _ _ _ h => h) (Or.inl ⟨by rfl, ?_⟩) (by assumption) ?_
  rotate_left
  · intro w' hSw
    try dsimp only at hSw
    go_simp
    try with_reducible rfl
  try simp only [List.getElem_toArray, List.getElem_cons_zero, Act.put, List.setIfInBounds_toArray, List.set_cons_zero, List.set_cons_succ]
  refine wpAnyH_take (i := 1) (v := ?_) rfl (by kernel_rfl) (by kernel_rfl) (by kernel_rfl) (fun _ _ _ h => h) (Or.inl ⟨by rfl, ?_⟩) (by assumption) ?_
  rotate_left
  · intro w' hSw
    try dsimp only at hSw
    go_simp
    try with_reducible rfl
  try simp only [List.getElem_toArray, List.getElem_cons_succ, List.getElem_cons_zero, Act.put, List.setIfInBounds_toArray, List.set_cons_zero, List.set_cons_succ]
  refine wpAnyH_take (i := 2) (v := ?_) rfl (by kernel_rfl) (by kernel_rfl) (by kernel_rfl) (fun _ _ _ h => h) (Or.inl ⟨by rfl, ?_⟩) (by assumption) ?_
  rotate_left
  · intro w' hSw
    try dsimp only at hSw
    go_simp
    try with_reducible rfl
  try simp only [List.getElem_toArray, List.getElem_cons_succ, List.getElem_cons_zero, Act.put, List.setIfInBounds_toArray, List.set_cons_zero, List.set_cons_succ]
  refine wpAnyH_take (i := 3) (v := ?_) rfl (by kernel_rfl) (by kernel_rfl) (by kernel_rfl) (fun _ _ _ h => h) (Or.inl ⟨by rfl, ?_⟩) (by assumption) ?_
  rotate_left
  · intro w' hSw
    try dsimp only at hSw
    go_simp
    try with_reducible rfl
  try simp only [List.getElem_toArray, List.getElem_cons_succ, List.getElem_cons_zero, Act.put, List.setIfInBounds_toArray, List.set_cons_zero, List.set_cons_succ]
  refine wpAnyH_take (i := 4) (v := ?_) rfl (by kernel_rfl) (by kernel_rfl) (by kernel_rfl) (fun _ _ _ h => h) (Or.inl ⟨by rfl, ?_⟩) (by assumption) ?_
  rotate_left
  · intro w' hSw
    try dsimp only at hSw
    go_simp
    try with_reducible rfl
  try simp only [List.getElem_toArray, List.getElem_cons_succ, List.getElem_cons_zero, Act.put, List.setIfInBounds_toArray, List.set_cons_zero, List.set_cons_succ]
  refine wpAnyH_take (i := 5) (v := ?_) rfl (by kernel_rfl) (by kernel_rfl) (by kernel_rfl) (fun _ _ _ h => h) (Or.inl ⟨by rfl, ?_⟩) (by assumption) ?_
  rotate_left
  · intro w' hSw
    try dsimp only at hSw
    go_simp
    try with_reducible rfl
  try simp only [List.getElem_toArray, List.getElem_cons_succ, List.getElem_cons_zero, Act.put, List.setIfInBounds_toArray, List.set_cons_zero, List.set_cons_succ]
  refine wpAnyH_take (i := 6) (v := ?_) rfl (by kernel_rfl) (by kernel_rfl) (by kernel_rfl) (fun _ _ _ h => h) (Or.inl ⟨by rfl, ?_⟩) (by assumption) ?_
  rotate_left
  · intro w' hSw
    try dsimp only at hSw
    go_simp
    try with_reducible rfl
  try simp only [List.getElem_toArray, List.getElem_cons_succ, List.getElem_cons_zero, Act.put, List.setIfInBounds_toArray, List.set_cons_zero, List.set_cons_succ]
  refine wpAnyH_take (i := 7) (v := ?_) rfl (by kernel_rfl) (by kernel_rfl) (by kernel_rfl) (fun _ _ _ h => h) (Or.inl ⟨by rfl, ?_⟩) (by assumption) ?_
  rotate_left
  · intro w' hSw
    try dsimp only at hSw
    go_simp
    try with_reducible rfl
  try simp only [List.getElem_toArray, List.getElem_cons_succ, List.getElem_cons_zero, Act.put, List.setIfInBounds_toArray, List.set_cons_zero, List.set_cons_succ]
  refine wpAnyH_take (i := 8) (v := ?_) rfl (by kernel_rfl) (by kernel_rfl) (by kernel_rfl) (fun _ _ _ h => h) (Or.inl ⟨by rfl, ?_⟩) (by assumption) ?_
  rotate_left
  · intro w' hSw
    try dsimp only at hSw
    go_simp
    try with_reducible rfl
  try simp only [List.getElem_toArray, List.getElem_cons_succ, List.getElem_cons_zero, Act.put, List.setIfInBounds_toArray, List.set_cons_zero, List.set_cons_succ]
  refine wpAnyH_take (i := 9) (v := ?_) rfl (by kernel_rfl) (by kernel_rfl) (by kernel_rfl) (fun _ _ _ h => h) (Or.inl ⟨by rfl, ?_⟩) (by assumption) ?_
  rotate_left
  · intro w' hSw
    try dsimp only at hSw
    go_simp
    try with_reducible rfl
  try simp only [List.getElem_toArray, List.getElem_cons_succ, List.getElem_cons_zero, Act.put, List.setIfInBounds_toArray, List.set_cons_zero, List.set_cons_succ]
  refine wpAnyH_take (i := 10) (v := ?_) rfl (by kernel_rfl) (by kernel_rfl) (by kernel_rfl) (fun _ _ _ h => h) (Or.inl ⟨by rfl, ?_⟩) (by assumption) ?_
  rotate_left
  · intro w' hSw
    try dsimp only at hSw
    go_simp
    try with_reducible rfl
  try simp only [List.getElem_toArray, List.getElem_cons_succ, List.getElem_cons_zero, Act.put, List.setIfInBounds_toArray, List.set_cons_zero, List.set_cons_succ]
  refine wpAnyH_ready (rs := [11]) (by kernel_rfl) (by simp) ?_
  refine AllReadyH.cons rfl (fun K hK0 => ?_) AllReadyH.nil
  go_simp
  refine hK0.out _ _ hset (fun _ => ?_)
  clear hK0 K
  try simp only [List.getElem_toArray, List.getElem_cons_succ, List.getElem_cons_zero, Act.put, List.setIfInBounds_toArray, List.set_cons_zero, List.set_cons_succ]
  refine wpAnyH_take (i := 12) (v := ?_) rfl (by kernel_rfl) (by kernel_rfl) (by kernel_rfl) (fun _ _ _ h => h) (Or.inl ⟨by rfl, ?_⟩) (by assumption) ?_
  rotate_left
  · intro w' hSw
    try dsimp only at hSw
    go_simp
    try with_reducible rfl
  try simp only [List.getElem_toArray, List.getElem_cons_succ, List.getElem_cons_zero, Act.put, List.setIfInBounds_toArray, List.set_cons_zero, List.set_cons_succ]
  refine wpAnyH_take (i := 13) (v := ?_) rfl (by kernel_rfl) (by kernel_rfl) (by kernel_rfl) (fun _ _ _ h => h) (Or.inl ⟨by rfl, ?_⟩) (by assumption) ?_
  rotate_left
  · intro w' hSw
    try dsimp only at hSw
    go_simp
    try with_reducible rfl
  try simp only [List.getElem_toArray, List.getElem_cons_succ, List.getElem_cons_zero, Act.put, List.setIfInBounds_toArray, List.set_cons_zero, List.set_cons_succ]
  refine wpAnyH_take (i := 14) (v := ?_) rfl (by kernel_rfl) (by kernel_rfl) (by kernel_rfl) (fun _ _ _ h => h) (Or.inl ⟨by rfl, ?_⟩) (by assumption) ?_
  rotate_left
  · intro w' hSw
    try dsimp only at hSw
    go_simp
    try with_reducible rfl
  try simp only [List.getElem_toArray, List.getElem_cons_succ, List.getElem_cons_zero, Act.put, List.setIfInBounds_toArray, List.set_cons_zero, List.set_cons_succ]
  refine wpAnyH_done (by kernel_rfl) ?_ _
  refine NoPanic.normal ?_
  go_wp2_with fail
  refine bodyPost_ret (keyS.result6 (cs := kc m) rfl _ w.heap.size rfl (kc_len _) (OwnB.put hob _)) rfl ?_
  have hlt : w.heap.size < Z.heap.size := by rw [hSz.out]; omega
  exact ⟨B1, d1, B3, d3, B2, d2, B4, d4, rfl, keep ((own_setRow o1.out hlt _).mono (Nat.zero_le _)), keep ((own_setRow o3.out hlt _).mono (Nat.zero_le _)), keep ((own_setRow o2.out hlt _).mono (Nat.zero_le _)), keep ((own_setRow o4.out hlt _).mono (Nat.zero_le _)), fr_step HW0.out hset⟩
end Go.Proofs.Ytnfoebcfhldemaa
