/- What the functions of layer 5 come to, one: 'Check', 'Bytes'. -/
import Derived.Test.YtnfoebcfhldemaaMsg0
namespace Go.Proofs.Ytnfoebcfhldemaa
set_option maxRecDepth 100000
open Go.RowKit
set_option linter.unusedVariables false
attribute [local go_sem ↓] val_ld key_ld msg_ld

def okM (m : RM) : Bool :=
  if m.kind = 1 then decide (m.inc = 0) && (okB m.key && okV m.val)
  else if m.kind = 2 then decide (m.inc = 0) && (okB m.key && decide (m.val = zeroV))
  else if m.kind = 3 then okB m.key && decide (m.val = zeroV)
  else false
theorem kcheck_at {W0 W : World} {k : RK} (wk : k.wf) (hb : Fr W0 W) : Calls Try.prog 75 #[kv k] W fun e w' => e = .returned (.bool (okB k)) ∧ Fr W0 w' := (key_check k wk W).mono fun _ _ ⟨he, hw⟩ => ⟨he, fr_step hb hw⟩
theorem rkcheck_at {W0 W : World} {k : RK} (wk : k.wf) (hb : Fr W0 W) : Calls Try.prog 71 #[kv k] W fun e w' => e = .returned (.bool (okB k)) ∧ Fr W0 w' := (ref_check k wk W).mono fun _ _ ⟨he, hw⟩ => ⟨he, fr_step hb hw⟩
/-- Compared to the zero value. -/
theorem val_zero {v : RV} (wv : v.wf) (W : World) : (binOp .eql 34 (.agg (vc v).toArray) (.agg #[.int .i64 0, .int .u8 0, .int .u8 0, .int .u8 0, .int .u8 0, .int .u8 0, .int .u8 0, .int .u8 0, .int .u8 0, .int .u8 0, .int .u8 0, .int .u8 0, .int .u8 0, .int .u8 0, .int .u8 0, .int .u8 0, .int .u8 0])).run Try.prog W = .ok (.bool (decide (v = zeroV))) W := val_eql wv zeroV_wf W
theorem val_nzero {v : RV} (wv : v.wf) (W : World) : (binOp .neq 34 (.agg (vc v).toArray) (.agg #[.int .i64 0, .int .u8 0, .int .u8 0, .int .u8 0, .int .u8 0, .int .u8 0, .int .u8 0, .int .u8 0, .int .u8 0, .int .u8 0, .int .u8 0, .int .u8 0, .int .u8 0, .int .u8 0, .int .u8 0, .int .u8 0, .int .u8 0])).run Try.prog W = .ok (.bool (!decide (v = zeroV))) W := val_neq wv zeroV_wf W
set_option maxRecDepth 100000 in
set_option maxHeartbeats 4000000 in
theorem msg_check (m : RM) (wm : m.wf) (w : World) : Calls Try.prog 52 #[mm m] w fun e w' => e = .returned (.bool (okM m)) ∧ Fr w w' := by
  have cK : ∀ Z W, Fr Z W → Calls Try.prog 75 #[kv m.key] W fun e w' => e = .returned (.bool (okB m.key)) ∧ Fr Z w' := fun Z W h => kcheck_at wm.key h
  have cV : ∀ Z W, Fr Z W → Calls Try.prog 76 #[vv m.val] W fun e w' => e = .returned (.bool (okV m.val)) ∧ Fr Z w' := fun Z W h => check_at wm.val h
  have hz := val_zero wm.val
  have hi0 : (m.inc == 0) = decide (m.inc = 0) := rfl
  have hi1 : (m.inc != 0) = !decide (m.inc = 0) := rfl
  obtain ⟨Z, hZ, hF, hZZ, -, c0, -, c28, -, lK, lV⟩ := msg_boxed w m wm.val.hl
  unfold okM
  clear wm
  by_cases h1 : m.kind = 1
  · simp only [h1, if_true] at c0 ⊢
    clear h1
    cases hi : decide (m.inc = 0) <;> cases hb : okB m.key <;> cases hv : okV m.val
    all_goals
      rw [hi] at hi0 hi1
      rw [hb] at cK
      rw [hv] at cV
      clear hi hb hv
      simp only [Bool.true_and, Bool.false_and, Bool.not_true, Bool.not_false] at hi1 ⊢
      go_enter Try.func52, Try.ntmps52
      go_wp2_with (first
        | (go_at_call 75; refine (cK Z _ (by assumption)).mono ?_; rintro e w1 ⟨rfl, hz1⟩)
        | (go_at_call 76; refine (cV Z _ (by assumption)).mono ?_; rintro e w2 ⟨rfl, hz2⟩)
        | fail)
      go_ret
      exact ⟨rfl, fr_step hF (by assumption)⟩
  · by_cases h2 : m.kind = 2
    · simp only [h2, if_true, if_neg (show ¬ (2 : Int) = 1 by decide)] at c0 ⊢
      clear h1 h2
      cases hi : decide (m.inc = 0) <;> cases hb : okB m.key <;> cases hv : decide (m.val = zeroV)
      all_goals
        rw [hi] at hi0 hi1
        rw [hb] at cK
        rw [hv] at hz
        clear hi hb hv
        simp only [Bool.true_and, Bool.false_and, Bool.not_true, Bool.not_false] at hi1 hz ⊢
        go_enter Try.func52, Try.ntmps52
        go_wp2_with (first
          | (go_at_call 75; refine (cK Z _ (by assumption)).mono ?_; rintro e w1 ⟨rfl, hz1⟩)
          | (go_at_call 76; refine (cV Z _ (by assumption)).mono ?_; rintro e w2 ⟨rfl, hz2⟩)
          | fail)
        go_ret
        exact ⟨rfl, fr_step hF (by assumption)⟩
    · by_cases h3 : m.kind = 3
      · simp only [h3, if_true, if_neg (show ¬ (3 : Int) = 1 by decide), if_neg (show ¬ (3 : Int) = 2 by decide)] at c0 ⊢
        clear h1 h2 h3
        cases hb : okB m.key <;> cases hv : decide (m.val = zeroV)
        all_goals
          rw [hb] at cK
          rw [hv] at hz
          clear hb hv
          simp only [Bool.true_and, Bool.false_and] at hz ⊢
          go_enter Try.func52, Try.ntmps52
          go_wp2_with (first
            | (go_at_call 75; refine (cK Z _ (by assumption)).mono ?_; rintro e w1 ⟨rfl, hz1⟩)
            | (go_at_call 76; refine (cV Z _ (by assumption)).mono ?_; rintro e w2 ⟨rfl, hz2⟩)
            | fail)
          go_ret
          exact ⟨rfl, fr_step hF (by assumption)⟩
      · rw [if_neg h1, if_neg h2, if_neg h3]
        have e1 : (m.kind == 1) = false := by simpa using h1
        have e2 : (m.kind == 2) = false := by simpa using h2
        have e3 : (m.kind == 3) = false := by simpa using h3
        rcases Int.lt_or_le m.kind 1 with h | h
        · have d1 : decide (m.kind < 1) = true := by simpa using h
          clear h1 h2 h3 h
          go_enter Try.func52, Try.ntmps52
          go_wp2_with (first
            | (go_at_call 75; refine (cK Z _ (by assumption)).mono ?_; rintro e w1 ⟨rfl, hz1⟩)
            | (go_at_call 76; refine (cV Z _ (by assumption)).mono ?_; rintro e w2 ⟨rfl, hz2⟩)
            | fail)
          go_ret
          exact ⟨rfl, fr_step hF (by assumption)⟩
        · have d1 : decide (m.kind < 1) = false := by simp; omega
          have d2 : decide (3 < m.kind) = true := by simp; omega
          clear h1 h2 h3 h
          go_enter Try.func52, Try.ntmps52
          go_wp2_with (first
            | (go_at_call 75; refine (cK Z _ (by assumption)).mono ?_; rintro e w1 ⟨rfl, hz1⟩)
            | (go_at_call 76; refine (cV Z _ (by assumption)).mono ?_; rintro e w2 ⟨rfl, hz2⟩)
            | fail)
          go_ret
          exact ⟨rfl, fr_step hF (by assumption)⟩
set_option maxRecDepth 100000 in
set_option maxHeartbeats 4000000 in
theorem ref_mcheck (m : RM) (wm : m.wf) (w : World) : Calls Try.prog 54 #[mm m] w fun e w' => e = .returned (.bool (okM m)) ∧ Fr w w' := by
  have cK : ∀ Z W, Fr Z W → Calls Try.prog 71 #[kv m.key] W fun e w' => e = .returned (.bool (okB m.key)) ∧ Fr Z w' := fun Z W h => rkcheck_at wm.key h
  have cV : ∀ Z W, Fr Z W → Calls Try.prog 80 #[vv m.val] W fun e w' => e = .returned (.bool (okV m.val)) ∧ Fr Z w' := fun Z W h => rcheck_at wm.val h
  have hz := val_nzero wm.val
  have hi0 : (m.inc == 0) = decide (m.inc = 0) := rfl
  have hi1 : (m.inc != 0) = !decide (m.inc = 0) := rfl
  obtain ⟨Z, hZ, hF, hZZ, -, c0, -, c28, -, lK, lV⟩ := msg_boxed w m wm.val.hl
  unfold okM
  clear wm
  by_cases h1 : m.kind = 1
  · simp only [h1, if_true] at c0 ⊢
    clear h1
    cases hi : decide (m.inc = 0) <;> cases hb : okB m.key <;> cases hv : okV m.val
    all_goals
      rw [hi] at hi0 hi1
      rw [hb] at cK
      rw [hv] at cV
      clear hi hb hv
      simp only [Bool.true_and, Bool.false_and, Bool.not_true, Bool.not_false] at hi1 ⊢
      go_enter Try.func54, Try.ntmps54
      go_wp2_with (first
        | (go_at_call 71; refine (cK Z _ (by assumption)).mono ?_; rintro e w1 ⟨rfl, hz1⟩)
        | (go_at_call 80; refine (cV Z _ (by assumption)).mono ?_; rintro e w2 ⟨rfl, hz2⟩)
        | fail)
      go_ret
      exact ⟨rfl, fr_step hF (by assumption)⟩
  · by_cases h2 : m.kind = 2
    · simp only [h2, if_true, if_neg (show ¬ (2 : Int) = 1 by decide)] at c0 ⊢
      clear h1 h2
      cases hi : decide (m.inc = 0) <;> cases hb : okB m.key <;> cases hv : decide (m.val = zeroV)
      all_goals
        rw [hi] at hi0 hi1
        rw [hb] at cK
        rw [hv] at hz
        clear hi hb hv
        simp only [Bool.true_and, Bool.false_and, Bool.not_true, Bool.not_false] at hi1 hz ⊢
        go_enter Try.func54, Try.ntmps54
        go_wp2_with (first
          | (go_at_call 71; refine (cK Z _ (by assumption)).mono ?_; rintro e w1 ⟨rfl, hz1⟩)
          | (go_at_call 80; refine (cV Z _ (by assumption)).mono ?_; rintro e w2 ⟨rfl, hz2⟩)
          | fail)
        go_ret
        exact ⟨rfl, fr_step hF (by assumption)⟩
    · by_cases h3 : m.kind = 3
      · simp only [h3, if_true, if_neg (show ¬ (3 : Int) = 1 by decide), if_neg (show ¬ (3 : Int) = 2 by decide)] at c0 ⊢
        clear h1 h2 h3
        cases hb : okB m.key <;> cases hv : decide (m.val = zeroV)
        all_goals
          rw [hb] at cK
          rw [hv] at hz
          clear hb hv
          simp only [Bool.true_and, Bool.false_and, Bool.not_true, Bool.not_false] at hz ⊢
          go_enter Try.func54, Try.ntmps54
          go_wp2_with (first
            | (go_at_call 71; refine (cK Z _ (by assumption)).mono ?_; rintro e w1 ⟨rfl, hz1⟩)
            | (go_at_call 80; refine (cV Z _ (by assumption)).mono ?_; rintro e w2 ⟨rfl, hz2⟩)
            | fail)
          go_ret
          exact ⟨rfl, fr_step hF (by assumption)⟩
      · rw [if_neg h1, if_neg h2, if_neg h3]
        have e1 : (m.kind == 1) = false := by simpa using h1
        have e2 : (m.kind == 2) = false := by simpa using h2
        have e3 : (m.kind == 3) = false := by simpa using h3
        rcases Int.lt_or_le m.kind 1 with h | h
        · have d1 : decide (m.kind < 1) = true := by simpa using h
          clear h1 h2 h3 h
          go_enter Try.func54, Try.ntmps54
          go_wp2_with (first
            | (go_at_call 71; refine (cK Z _ (by assumption)).mono ?_; rintro e w1 ⟨rfl, hz1⟩)
            | (go_at_call 80; refine (cV Z _ (by assumption)).mono ?_; rintro e w2 ⟨rfl, hz2⟩)
            | fail)
          go_ret
          exact ⟨rfl, fr_step hF (by assumption)⟩
        · have d1 : decide (m.kind < 1) = false := by simp; omega
          have d2 : decide (3 < m.kind) = true := by simp; omega
          clear h1 h2 h3 h
          go_enter Try.func54, Try.ntmps54
          go_wp2_with (first
            | (go_at_call 71; refine (cK Z _ (by assumption)).mono ?_; rintro e w1 ⟨rfl, hz1⟩)
            | (go_at_call 80; refine (cV Z _ (by assumption)).mono ?_; rintro e w2 ⟨rfl, hz2⟩)
            | fail)
          go_ret
          exact ⟨rfl, fr_step hF (by assumption)⟩
end Go.Proofs.Ytnfoebcfhldemaa
