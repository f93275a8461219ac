/- The laws of the cache: frames, of two that tell alike. -/
import Derived.Test.YtmoaddbpfekdbaaGreatM25
import Derived.Test.YtmoaddbpfekdbaaGreatM11
namespace Go.Proofs.YtmoaddbpfekdbaaGreat
set_option linter.unusedVariables false
set_option linter.unusedSimpArgs false
set_option linter.unusedSectionVars false
set_option maxRecDepth 100000
open Go.RowKit
theorem aframe_ty : Sty Tryz.prog 50 13 := ⟨by kernel_rfl, ⟨_, Tryz.underlying50, rfl⟩⟩
theorem aframe_ld (p : Value) : Instr.loadAt 50 p = ldS 50 p := rfl
section
variable {V : Type} [NVal V]
theorem fac_10 (f : Fra V) : (fac f)[10]? = some (.slice none 0 0) ∧ (fac f)[11]? = some (.int .i64 (-1)) ∧ (fac f)[12]? = some (.slice none 0 0) := by
  obtain ⟨a, b, c, d, e, hv⟩ := nc_five f.node
  unfold fac
  rw [hv]
  exact ⟨rfl, rfl, rfl⟩
attribute [local go_sem ↓] aframe_ld
set_option maxHeartbeats 16000000 in
theorem lawframes_at {w : World} {pc dc : Value} {l2 : List (Fra V)} {q : List Int} {z : Int} {m : Int → Bool} {P1 : World → List (Fra V) → Prop} (hln : ∀ W l1, P1 W l1 → l1.length = l2.length) (hs : l2.length ≤ 1000) (hqs : q.length ≤ 1000)
    (hF1 : ∀ W, Fr w W → Calls Tryz.prog 20 #[pc] W fun e w' => ∃ O n c l1, e = .returned (.slice O n c) ∧ Hid (ResA W w' O n c l1 ∧ Fr W w' ∧ P1 w' l1))
    (hF2 : ∀ W, Fr w W → Calls Tryz.prog 38 #[dc] W fun e w' => ∃ O n c, e = .returned (.slice O n c) ∧ Hid (ResA W w' O n c l2 ∧ Fr W w'))
    (hN1 : ∀ W, Fr w W → Calls Tryz.prog 23 #[pc] W fun e w' => e = .returned (.int .i64 z) ∧ Fr W w')
    (hN2 : ∀ W, Fr w W → Calls Tryz.prog 39 #[dc] W fun e w' => e = .returned (.int .i64 z) ∧ Fr W w')
    (hL1 : ∀ W, Fr w W → Calls Tryz.prog 21 #[pc] W fun e w' => ∃ O n c, e = .returned (.slice O n c) ∧ Hid (ResI W w' O n c q ∧ Fr W w'))
    (hL2 : ∀ W, Fr w W → Calls Tryz.prog 40 #[dc] W fun e w' => ∃ O n c, e = .returned (.slice O n c) ∧ Hid (ResI W w' O n c q ∧ Fr W w'))
    (hM1 : ∀ W t, Fr w W → Calls Tryz.prog 22 #[pc, .int .i64 t] W fun e w' => e = .returned (.bool (m t)) ∧ Fr W w')
    (hM2 : ∀ W t, Fr w W → Calls Tryz.prog 42 #[dc, .int .i64 t] W fun e w' => e = .returned (.bool (m t)) ∧ Fr W w')
    (hS : ∀ W1 l1, Fr w W1 → P1 W1 l1 → ∀ (j : Nat) f1 f2, l1[j]? = some f1 → l2[j]? = some f2 → f1.st = f2.st ∧ f1.blk = f2.blk ∧ f1.pins = f2.pins ∧ f1.ref = f2.ref ∧ f1.dirty = f2.dirty ∧ ∀ W, Fr W1 W → Calls Tryz.prog 12 #[ncv f1.node, ncv f2.node] W fun e w' => e = .returned (.bool true) ∧ Fr W w') :
    Calls Tryz.prog 9 #[pc, dc] w fun e w' => e = .returned (.bool true) ∧ Fr w w' := by
  have HF1 := keep hF1
  have HF2 := keep hF2
  have HN1 := keep hN1
  have HN2 := keep hN2
  have HL1 := keep hL1
  have HL2 := keep hL2
  have HM1 := keep hM1
  have HM2 := keep hM2
  have HS := keep hS
  have Hln := keep hln
  have hqt : decide (q = q) = true := by simp
  clear hF1 hF2 hN1 hN2 hL1 hL2 hM1 hM2 hS hln
  go_enter Tryz.func9, Tryz.ntmps9
  go_wp2_with (first
    | (go_at_call 20; (with_reducible refine (HF1.out w (fr_refl w)).mono ?_); rintro e w1 ⟨A, na, ca, l1, rfl, h1⟩; have G1 := keep h1.out.2.1; have HQ := keep (Hln.out w1 l1 h1.out.2.2); have HS1 := keep (HS.out w1 l1 h1.out.2.1 h1.out.2.2); obtain rfl : na = l2.length := h1.out.1.len.symm.trans HQ.out)
    | (go_at_call 38; (with_reducible refine (HF2.out w1 G1.out).mono ?_); rintro e w2 ⟨B, nb, cb, rfl, h2⟩; have G2 := keep (fr_step G1.out h2.out.2); have K2 := keep h2.out.2; obtain rfl : nb = l2.length := h2.out.1.len.symm)
    | (go_at_call 23; (with_reducible refine (HN1.out w2 G2.out).mono ?_); rintro e w3 ⟨rfl, h3⟩; have G3 := keep (fr_step G2.out h3); have K3 := keep h3; clear h3)
    | (go_at_call 39; (with_reducible refine (HN2.out w3 G3.out).mono ?_); rintro e w4 ⟨rfl, h4⟩; have G4 := keep (fr_step G3.out h4); have K4 := keep (fr_step K3.out h4); clear h4)
    | (go_at_call 21; (with_reducible refine (HL1.out w4 G4.out).mono ?_); rintro e w5 ⟨P, np, cp, rfl, h5⟩; have G5 := keep (fr_step G4.out h5.out.2); have K5 := keep (fr_step K4.out h5.out.2))
    | (go_at_call 40; (with_reducible refine (HL2.out w5 G5.out).mono ?_); rintro e w6 ⟨R, nr, cr, rfl, h6⟩; have G6 := keep (fr_step G5.out h6.out.2); have K6 := keep (fr_step K5.out h6.out.2))
    | (go_at_call 27; (with_reducible refine (sameints_at (l := q) (l2 := q) (by rw [← ic_ints]; exact (h5.out.1.row.fr h6.out.2).has) (Nat.le_refl _) h5.out.1.len (by have := h5.out.1.len; omega) (by rw [← ic_ints]; exact h6.out.1.row.has) (Nat.le_refl _) h6.out.1.len (by have := h6.out.1.len; omega) (fr_refl w6)).mono ?_); rintro e w7 ⟨rfl, h7⟩; have G7 := keep (fr_step G6.out h7); have K7 := keep (fr_step K6.out h7); clear h7)
    | fail)
  have RA := keep (show Rw w7 _ _ _ _ _ _ from (h1.out.1.row.fr h2.out.2).fr K7.out)
  have RB := keep (show Rw w7 _ _ _ _ _ _ from h2.out.1.row.fr K7.out)
  clear h1 h2 h5 h6
  go_loopg [7] l2.length (fun gg s7 wr => ∃ j : Nat, j + gg = l2.length ∧ s7 = .int .i64 j ∧ Hid (Fr w7 wr))
  case atStart => exact ⟨0, by omega, rfl, keep (fr_refl w7)⟩
  case round =>
    obtain ⟨j, hj, rfl, HI⟩ := hrel
    by_cases hlt : j < l2.length
    · have hm1 : l1[j]? = some (l1[j]'(by rw [HQ.out]; exact hlt)) := List.getElem?_eq_getElem _
      generalize l1[j]'(by rw [HQ.out]; exact hlt) = m1 at hm1
      have hm2 : l2[j]? = some l2[j] := List.getElem?_eq_getElem _
      generalize l2[j] = m2 at hm2
      obtain ⟨p1, p2, p3, p4, p5, p6⟩ := HS1.out j m1 m2 hm1 hm2
      obtain ⟨ba, oa, rfl, ha1, ra⟩ := has_rows (RA.out.fr HI.out).has (fac_wid l1) (by decide) (by intro e; rw [e] at hm1; simp at hm1)
      obtain ⟨bb, ob, rfl, hb1, rb⟩ := has_rows (RB.out.fr HI.out).has (fac_wid l2) (by decide) (by intro e; rw [e] at hm2; simp at hm2)
      have lA := elem_ld aframe_ty ra (fac_wid l1) ha1 hm1
      have lB := elem_ld aframe_ty rb (fac_wid l2) hb1 hm2
      have cR := elem_cell ra (fac_wid l1) ha1 (o := 10) hm1 (fac_10 m1).1
      have cW := elem_cell ra (fac_wid l1) ha1 (o := 11) hm1 (fac_10 m1).2.1
      have cQ := elem_cell ra (fac_wid l1) ha1 (o := 12) hm1 (fac_10 m1).2.2
      have CSF := keep (show ∀ W, Fr wr W → Calls Tryz.prog 41 #[.agg (fac m1).toArray, .agg (fac m2).toArray] W fun e w' => e = .returned (.bool true) ∧ Fr wr w' from fun W hW => (dsame_at (w := W) p1 p2 p3 p4 p5 (fun U hU => (p6 U (fr_step (fr_step (fr_step (fr_step K2.out K7.out) HI.out) hW) hU)).mono fun _ _ ⟨x, y⟩ => ⟨x, fr_step hU y⟩)).mono fun _ _ ⟨x, y⟩ => ⟨x, fr_step hW y⟩)
      have hrD := fr_drew (fr_refl wr)
      have hjz : (j : Int) < (l2.length : Int) := by omega
      have wj : IntKind.i64.wrap ((j : Int) + 1) = (j : Int) + 1 := by rw [IntKind.wrap_i64]; omega
      clear hm1 hm2 p1 p2 p3 p4 p5 p6 ra rb ha1 hb1 hlt
      go_wp2_with fail
      refine wp_region_noPanic ?_
      refine wp_region_held_drew (S := fun w' => Fr wr w') (by kernel_rfl) hrD (fun hHeld => ?_)
      change wpAnyH _ _ _ _ _ _ _ _ _
      refine wpAnyH_take (i := 0) (v := ?_) rfl (by kernel_rfl) (by kernel_rfl) (by kernel_rfl) (fun _ _ _ h => h) (Or.inl ⟨by rfl, ?_⟩) (by assumption) ?_
      rotate_left
      · intro w' hSw
        try dsimp only at hSw
        go_simp
        try with_reducible rfl
      try simp only [List.getElem_toArray, List.getElem_cons_zero, Act.put, List.setIfInBounds_toArray, List.set_cons_zero, List.set_cons_succ]
      refine wpAnyH_take (i := 1) (v := ?_) rfl (by kernel_rfl) (by kernel_rfl) (by kernel_rfl) (fun _ _ _ h => h) (Or.inl ⟨by rfl, ?_⟩) (by assumption) ?_
      rotate_left
      · intro w' hSw
        try dsimp only at hSw
        go_simp
        try with_reducible rfl
      try simp only [List.getElem_toArray, List.getElem_cons_succ, List.getElem_cons_zero, Act.put, List.setIfInBounds_toArray, List.set_cons_zero, List.set_cons_succ]
      refine wpAnyH_take (i := 2) (v := ?_) rfl (by kernel_rfl) (by kernel_rfl) (by kernel_rfl) (fun _ _ _ h => h) (Or.inl ⟨by rfl, ?_⟩) (by assumption) ?_
      rotate_left
      · intro w' hSw
        try dsimp only at hSw
        go_simp
        try with_reducible rfl
      try simp only [List.getElem_toArray, List.getElem_cons_succ, List.getElem_cons_zero, Act.put, List.setIfInBounds_toArray, List.set_cons_zero, List.set_cons_succ]
      refine wpAnyH_take (i := 3) (v := ?_) rfl (by kernel_rfl) (by kernel_rfl) (by kernel_rfl) (fun _ _ _ h => h) (Or.inl ⟨by rfl, ?_⟩) (by assumption) ?_
      rotate_left
      · intro w' hSw
        try dsimp only at hSw
        go_simp
        try with_reducible rfl
      try simp only [List.getElem_toArray, List.getElem_cons_succ, List.getElem_cons_zero, Act.put, List.setIfInBounds_toArray, List.set_cons_zero, List.set_cons_succ]
      refine wpAnyH_take (i := 4) (v := ?_) rfl (by kernel_rfl) (by kernel_rfl) (by kernel_rfl) (fun _ _ _ h => h) (Or.inl ⟨by rfl, ?_⟩) (by assumption) ?_
      rotate_left
      · intro w' hSw
        try dsimp only at hSw
        go_simp
        try with_reducible rfl
      try simp only [List.getElem_toArray, List.getElem_cons_succ, List.getElem_cons_zero, Act.put, List.setIfInBounds_toArray, List.set_cons_zero, List.set_cons_succ]
      refine wpAnyH_take (i := 5) (v := ?_) rfl (by kernel_rfl) (by kernel_rfl) (by kernel_rfl) (fun _ _ _ h => h) (Or.inl ⟨by rfl, ?_⟩) (by assumption) ?_
      rotate_left
      · intro w' hSw
        try dsimp only at hSw
        go_simp
        try with_reducible rfl
      try simp only [List.getElem_toArray, List.getElem_cons_succ, List.getElem_cons_zero, Act.put, List.setIfInBounds_toArray, List.set_cons_zero, List.set_cons_succ]
      refine wpAnyH_take (i := 6) (v := ?_) rfl (by kernel_rfl) (by kernel_rfl) (by kernel_rfl) (fun _ _ _ h => h) (Or.inl ⟨by rfl, ?_⟩) (by assumption) ?_
      rotate_left
      · intro w' hSw
        try dsimp only at hSw
        go_simp
        try with_reducible rfl
      try simp only [List.getElem_toArray, List.getElem_cons_succ, List.getElem_cons_zero, Act.put, List.setIfInBounds_toArray, List.set_cons_zero, List.set_cons_succ]
      refine wpAnyH_take (i := 7) (v := ?_) rfl (by kernel_rfl) (by kernel_rfl) (by kernel_rfl) (fun _ _ _ h => h) (Or.inl ⟨by rfl, ?_⟩) (by assumption) ?_
      rotate_left
      · intro w' hSw
        try dsimp only at hSw
        go_simp
        try with_reducible rfl
      try simp only [List.getElem_toArray, List.getElem_cons_succ, List.getElem_cons_zero, Act.put, List.setIfInBounds_toArray, List.set_cons_zero, List.set_cons_succ]
      refine wpAnyH_ready (rs := [8]) (by kernel_rfl) (by simp) ?_
      refine AllReadyH.cons rfl (fun K hK0 => ?_) AllReadyH.nil
      go_simp
      refine (CSF.out _ (by assumption)).mono ?_
      rintro e w4x ⟨rfl, f4x⟩
      go_simp
      refine hK0.out _ _ f4x (fun _ => ?_)
      clear hK0 K
      try simp only [List.getElem_toArray, List.getElem_cons_succ, List.getElem_cons_zero, Act.put, List.setIfInBounds_toArray, List.set_cons_zero, List.set_cons_succ]
      refine wpAnyH_take (i := 9) (v := .bool false) rfl (by kernel_rfl) (by kernel_rfl) (by kernel_rfl) (fun _ _ _ h => h) (Or.inl ⟨by rfl, ?_⟩) (by assumption) ?_
      · intro w' hSw
        try dsimp only at hSw
        try go_simp
        all_goals first | done | with_reducible rfl | omega | assumption | (simp; omega)
      try simp only [List.getElem_toArray, List.getElem_cons_succ, List.getElem_cons_zero, Act.put, List.setIfInBounds_toArray, List.set_cons_zero, List.set_cons_succ]
      refine wpAnyH_take (i := 10) (v := .bool false) rfl (by kernel_rfl) (by kernel_rfl) (by kernel_rfl) (fun _ _ _ h => h) (Or.inl ⟨by rfl, ?_⟩) (by assumption) ?_
      · intro w' hSw
        try dsimp only at hSw
        try go_simp
        all_goals first | done | with_reducible rfl | omega | assumption | (simp; omega)
      try simp only [List.getElem_toArray, List.getElem_cons_succ, List.getElem_cons_zero, Act.put, List.setIfInBounds_toArray, List.set_cons_zero, List.set_cons_succ]
      refine wpAnyH_take (i := 11) (v := ?_) rfl (by kernel_rfl) (by kernel_rfl) (by kernel_rfl) (fun _ _ _ h => h) (Or.inl ⟨by rfl, ?_⟩) (by assumption) ?_
      rotate_left
      · intro w' hSw
        try dsimp only at hSw
        go_simp
        try with_reducible rfl
      try simp only [List.getElem_toArray, List.getElem_cons_succ, List.getElem_cons_zero, Act.put, List.setIfInBounds_toArray, List.set_cons_zero, List.set_cons_succ]
      refine wpAnyH_take (i := 12) (v := ?_) rfl (by kernel_rfl) (by kernel_rfl) (by kernel_rfl) (fun _ _ _ h => h) (Or.inl ⟨by rfl, ?_⟩) (by assumption) ?_
      rotate_left
      · intro w' hSw
        try dsimp only at hSw
        go_simp
        try with_reducible rfl
      try simp only [List.getElem_toArray, List.getElem_cons_succ, List.getElem_cons_zero, Act.put, List.setIfInBounds_toArray, List.set_cons_zero, List.set_cons_succ]
      refine wpAnyH_take (i := 13) (v := ?_) rfl (by kernel_rfl) (by kernel_rfl) (by kernel_rfl) (fun _ _ _ h => h) (Or.inl ⟨by rfl, ?_⟩) (by assumption) ?_
      rotate_left
      · intro w' hSw
        try dsimp only at hSw
        go_simp
        try with_reducible rfl
      try simp only [List.getElem_toArray, List.getElem_cons_succ, List.getElem_cons_zero, Act.put, List.setIfInBounds_toArray, List.set_cons_zero, List.set_cons_succ]
      refine wpAnyH_take (i := 14) (v := ?_) rfl (by kernel_rfl) (by kernel_rfl) (by kernel_rfl) (fun _ _ _ h => h) (Or.inl ⟨by rfl, ?_⟩) (by assumption) ?_
      rotate_left
      · intro w' hSw
        try dsimp only at hSw
        go_simp
        try with_reducible rfl
      try simp only [List.getElem_toArray, List.getElem_cons_succ, List.getElem_cons_zero, Act.put, List.setIfInBounds_toArray, List.set_cons_zero, List.set_cons_succ]
      refine wpAnyH_take (i := 15) (v := ?_) rfl (by kernel_rfl) (by kernel_rfl) (by kernel_rfl) (fun _ _ _ h => h) (Or.inl ⟨by rfl, ?_⟩) (by assumption) ?_
      rotate_left
      · intro w' hSw
        try dsimp only at hSw
        go_simp
        try with_reducible rfl
      try simp only [List.getElem_toArray, List.getElem_cons_succ, List.getElem_cons_zero, Act.put, List.setIfInBounds_toArray, List.set_cons_zero, List.set_cons_succ]
      refine wpAnyH_take (i := 16) (v := .bool false) rfl (by kernel_rfl) (by kernel_rfl) (by kernel_rfl) (fun _ _ _ h => h) (Or.inl ⟨by rfl, ?_⟩) (by assumption) ?_
      · intro w' hSw
        try dsimp only at hSw
        try go_simp
        all_goals first | done | with_reducible rfl | omega | assumption | (simp; omega)
      try simp only [List.getElem_toArray, List.getElem_cons_succ, List.getElem_cons_zero, Act.put, List.setIfInBounds_toArray, List.set_cons_zero, List.set_cons_succ]
      refine wpAnyH_take (i := 17) (v := .bool false) rfl (by kernel_rfl) (by kernel_rfl) (by kernel_rfl) (fun _ _ _ h => h) (Or.inl ⟨by rfl, ?_⟩) (by assumption) ?_
      · intro w' hSw
        try dsimp only at hSw
        try go_simp
        all_goals first | done | with_reducible rfl | omega | assumption | (simp; omega)
      try simp only [List.getElem_toArray, List.getElem_cons_succ, List.getElem_cons_zero, Act.put, List.setIfInBounds_toArray, List.set_cons_zero, List.set_cons_succ]
      refine wpAnyH_take (i := 18) (v := .bool false) rfl (by kernel_rfl) (by kernel_rfl) (by kernel_rfl) (fun _ _ _ h => h) (Or.inl ⟨by rfl, ?_⟩) (by assumption) ?_
      · intro w' hSw
        try dsimp only at hSw
        try go_simp
        all_goals first | done | with_reducible rfl | omega | assumption | (simp; omega)
      try simp only [List.getElem_toArray, List.getElem_cons_succ, List.getElem_cons_zero, Act.put, List.setIfInBounds_toArray, List.set_cons_zero, List.set_cons_succ]
      refine wpAnyH_take (i := 19) (v := ?_) rfl (by kernel_rfl) (by kernel_rfl) (by kernel_rfl) (fun _ _ _ h => h) (Or.inl ⟨by rfl, ?_⟩) (by assumption) ?_
      rotate_left
      · intro w' hSw
        try dsimp only at hSw
        go_simp
        try with_reducible rfl
      try simp only [List.getElem_toArray, List.getElem_cons_succ, List.getElem_cons_zero, Act.put, List.setIfInBounds_toArray, List.set_cons_zero, List.set_cons_succ]
      refine wpAnyH_take (i := 20) (v := ?_) rfl (by kernel_rfl) (by kernel_rfl) (by kernel_rfl) (fun _ _ _ h => h) (Or.inl ⟨by rfl, ?_⟩) (by assumption) ?_
      rotate_left
      · intro w' hSw
        try dsimp only at hSw
        go_simp
        try with_reducible rfl
      try simp only [List.getElem_toArray, List.getElem_cons_succ, List.getElem_cons_zero, Act.put, List.setIfInBounds_toArray, List.set_cons_zero, List.set_cons_succ]
      refine wpAnyH_take (i := 21) (v := ?_) rfl (by kernel_rfl) (by kernel_rfl) (by kernel_rfl) (fun _ _ _ h => h) (Or.inl ⟨by rfl, ?_⟩) (by assumption) ?_
      rotate_left
      · intro w' hSw
        try dsimp only at hSw
        go_simp
        try with_reducible rfl
      try simp only [List.getElem_toArray, List.getElem_cons_succ, List.getElem_cons_zero, Act.put, List.setIfInBounds_toArray, List.set_cons_zero, List.set_cons_succ]
      refine wpAnyH_take (i := 22) (v := ?_) rfl (by kernel_rfl) (by kernel_rfl) (by kernel_rfl) (fun _ _ _ h => h) (Or.inl ⟨by rfl, ?_⟩) (by assumption) ?_
      rotate_left
      · intro w' hSw
        try dsimp only at hSw
        go_simp
        try with_reducible rfl
      try simp only [List.getElem_toArray, List.getElem_cons_succ, List.getElem_cons_zero, Act.put, List.setIfInBounds_toArray, List.set_cons_zero, List.set_cons_succ]
      refine wpAnyH_take (i := 23) (v := ?_) rfl (by kernel_rfl) (by kernel_rfl) (by kernel_rfl) (fun _ _ _ h => h) (Or.inl ⟨by rfl, ?_⟩) (by assumption) ?_
      rotate_left
      · intro w' hSw
        try dsimp only at hSw
        go_simp
        try with_reducible rfl
      try simp only [List.getElem_toArray, List.getElem_cons_succ, List.getElem_cons_zero, Act.put, List.setIfInBounds_toArray, List.set_cons_zero, List.set_cons_succ]
      refine wpAnyH_take (i := 24) (v := ?_) rfl (by kernel_rfl) (by kernel_rfl) (by kernel_rfl) (fun _ _ _ h => h) (Or.inl ⟨by rfl, ?_⟩) (by assumption) ?_
      rotate_left
      · intro w' hSw
        try dsimp only at hSw
        go_simp
        try with_reducible rfl
      try simp only [List.getElem_toArray, List.getElem_cons_succ, List.getElem_cons_zero, Act.put, List.setIfInBounds_toArray, List.set_cons_zero, List.set_cons_succ]
      refine wpAnyH_take (i := 25) (v := .bool false) rfl (by kernel_rfl) (by kernel_rfl) (by kernel_rfl) (fun _ _ _ h => h) (Or.inl ⟨by rfl, ?_⟩) (by assumption) ?_
      · intro w' hSw
        try dsimp only at hSw
        try go_simp
        all_goals first | done | with_reducible rfl | omega | assumption | (simp; omega)
      try simp only [List.getElem_toArray, List.getElem_cons_succ, List.getElem_cons_zero, Act.put, List.setIfInBounds_toArray, List.set_cons_zero, List.set_cons_succ]
      refine wpAnyH_take (i := 26) (v := .bool false) rfl (by kernel_rfl) (by kernel_rfl) (by kernel_rfl) (fun _ _ _ h => h) (Or.inl ⟨by rfl, ?_⟩) (by assumption) ?_
      · intro w' hSw
        try dsimp only at hSw
        try go_simp
        all_goals first | done | with_reducible rfl | omega | assumption | (simp; omega)
      try simp only [List.getElem_toArray, List.getElem_cons_succ, List.getElem_cons_zero, Act.put, List.setIfInBounds_toArray, List.set_cons_zero, List.set_cons_succ]
      refine wpAnyH_take (i := 27) (v := .bool false) rfl (by kernel_rfl) (by kernel_rfl) (by kernel_rfl) (fun _ _ _ h => h) (Or.inl ⟨by rfl, ?_⟩) (by assumption) ?_
      · intro w' hSw
        try dsimp only at hSw
        try go_simp
        all_goals first | done | with_reducible rfl | omega | assumption | (simp; omega)
      try simp only [List.getElem_toArray, List.getElem_cons_succ, List.getElem_cons_zero, Act.put, List.setIfInBounds_toArray, List.set_cons_zero, List.set_cons_succ]
      refine wpAnyH_take (i := 28) (v := ?_) rfl (by kernel_rfl) (by kernel_rfl) (by kernel_rfl) (fun _ _ _ h => h) (Or.inl ⟨by rfl, ?_⟩) (by assumption) ?_
      rotate_left
      · intro w' hSw
        try dsimp only at hSw
        go_simp
        try with_reducible rfl
      try simp only [List.getElem_toArray, List.getElem_cons_succ, List.getElem_cons_zero, Act.put, List.setIfInBounds_toArray, List.set_cons_zero, List.set_cons_succ]
      refine wpAnyH_take (i := 29) (v := ?_) rfl (by kernel_rfl) (by kernel_rfl) (by kernel_rfl) (fun _ _ _ h => h) (Or.inl ⟨by rfl, ?_⟩) (by assumption) ?_
      rotate_left
      · intro w' hSw
        try dsimp only at hSw
        go_simp
        try with_reducible rfl
      try simp only [List.getElem_toArray, List.getElem_cons_succ, List.getElem_cons_zero, Act.put, List.setIfInBounds_toArray, List.set_cons_zero, List.set_cons_succ]
      refine wpAnyH_take (i := 30) (v := ?_) rfl (by kernel_rfl) (by kernel_rfl) (by kernel_rfl) (fun _ _ _ h => h) (Or.inl ⟨by rfl, ?_⟩) (by assumption) ?_
      rotate_left
      · intro w' hSw
        try dsimp only at hSw
        go_simp
        try with_reducible rfl
      try simp only [List.getElem_toArray, List.getElem_cons_succ, List.getElem_cons_zero, Act.put, List.setIfInBounds_toArray, List.set_cons_zero, List.set_cons_succ]
      refine wpAnyH_take (i := 31) (v := ?_) rfl (by kernel_rfl) (by kernel_rfl) (by kernel_rfl) (fun _ _ _ h => h) (Or.inl ⟨by rfl, ?_⟩) (by assumption) ?_
      rotate_left
      · intro w' hSw
        try dsimp only at hSw
        go_simp
        try with_reducible rfl
      try simp only [List.getElem_toArray, List.getElem_cons_succ, List.getElem_cons_zero, Act.put, List.setIfInBounds_toArray, List.set_cons_zero, List.set_cons_succ]
      refine wpAnyH_take (i := 32) (v := ?_) rfl (by kernel_rfl) (by kernel_rfl) (by kernel_rfl) (fun _ _ _ h => h) (Or.inl ⟨by rfl, ?_⟩) (by assumption) ?_
      rotate_left
      · intro w' hSw
        try dsimp only at hSw
        go_simp
        try with_reducible rfl
      try simp only [List.getElem_toArray, List.getElem_cons_succ, List.getElem_cons_zero, Act.put, List.setIfInBounds_toArray, List.set_cons_zero, List.set_cons_succ]
      refine wpAnyH_take (i := 33) (v := ?_) rfl (by kernel_rfl) (by kernel_rfl) (by kernel_rfl) (fun _ _ _ h => h) (Or.inl ⟨by rfl, ?_⟩) (by assumption) ?_
      rotate_left
      · intro w' hSw
        try dsimp only at hSw
        go_simp
        try with_reducible rfl
      try simp only [List.getElem_toArray, List.getElem_cons_succ, List.getElem_cons_zero, Act.put, List.setIfInBounds_toArray, List.set_cons_zero, List.set_cons_succ]
      refine wpAnyH_take (i := 34) (v := .bool false) rfl (by kernel_rfl) (by kernel_rfl) (by kernel_rfl) (fun _ _ _ h => h) (Or.inl ⟨by rfl, ?_⟩) (by assumption) ?_
      · intro w' hSw
        try dsimp only at hSw
        try go_simp
        all_goals first | done | with_reducible rfl | omega | assumption | (simp; omega)
      try simp only [List.getElem_toArray, List.getElem_cons_succ, List.getElem_cons_zero, Act.put, List.setIfInBounds_toArray, List.set_cons_zero, List.set_cons_succ]
      refine wpAnyH_take (i := 35) (v := .bool false) rfl (by kernel_rfl) (by kernel_rfl) (by kernel_rfl) (fun _ _ _ h => h) (Or.inl ⟨by rfl, ?_⟩) (by assumption) ?_
      · intro w' hSw
        try dsimp only at hSw
        try go_simp
        all_goals first | done | with_reducible rfl | omega | assumption | (simp; omega)
      try simp only [List.getElem_toArray, List.getElem_cons_succ, List.getElem_cons_zero, Act.put, List.setIfInBounds_toArray, List.set_cons_zero, List.set_cons_succ]
      refine wpAnyH_done (by kernel_rfl) ?_ _
      refine NoPanic.normal ?_
      go_wp2_with fail
      go_roundg (gk - 1)
      case measure => omega
      case rel => exact ⟨j + 1, by omega, rfl, keep (fr_step HI.out (by assumption))⟩
    · have hjn : j = l2.length := by omega
      have hjz : ¬ (j : Int) < (l2.length : Int) := by omega
      have HW := keep (fr_step G7.out HI.out)
      subst hjn
      clear hlt
      go_wp2_with fail
      go_loopg [8] 10 (fun gg s8 wr => ∃ j : Nat, j + gg = 10 ∧ s8 = .int .i64 ((j : Int) - 1) ∧ Hid (Fr w wr))
      case atStart => exact ⟨0, by omega, rfl, HW⟩
      case round =>
        obtain ⟨j, hj, rfl, HI⟩ := hrel
        by_cases hlt : j < 10
        · have hjz : ((j : Int) - 1) ≤ 8 := by omega
          have wj : IntKind.i64.wrap ((j : Int) - 1 + 1) = ((j + 1 : Nat) : Int) - 1 := by rw [IntKind.wrap_i64]; omega
          have hxx : ∀ b : Bool, (b != b) = false := by decide
          go_wp2_with (first
            | (go_at_call 22; (with_reducible refine (HM1.out wr ((j : Int) - 1) HI.out).mono ?_); rintro e w8 ⟨rfl, h8⟩; have G8 := keep (fr_step HI.out h8); clear h8)
            | (go_at_call 42; (with_reducible refine (HM2.out w8 ((j : Int) - 1) G8.out).mono ?_); rintro e w9 ⟨rfl, h9⟩; have G9 := keep (fr_step G8.out h9); clear h9)
            | fail)
          go_roundg (gk - 1)
          case measure => omega
          case rel => exact ⟨j + 1, by omega, congrArg (Value.int .i64) (by omega), G9⟩
        · have hjz : ¬ (((j : Int) - 1) ≤ 8) := by omega
          go_wp2_with fail
          go_ret
          exact ⟨rfl, HI.out⟩
end
end Go.Proofs.YtmoaddbpfekdbaaGreat
