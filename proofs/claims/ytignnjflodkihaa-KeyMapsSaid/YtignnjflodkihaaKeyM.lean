/- KeyTwo and KeyThree, walked. -/
import Derived.Test.YtignnjflodkihaaKeyM0
import Derived.Deep.RegionHeld3
namespace Go.Proofs.Ytignnjflodkihaa
open Go.RowKit Go.Maps
set_option linter.unusedVariables false
theorem key_check_at {w0 W : World} (k : RK) (wk : k.wf) (hb : Fr w0 W) : Calls Try.prog 28 #[kv k] W fun e w' => e = .returned (.bool (okB k)) ∧ Fr w0 w' := (key_check k wk W).mono fun _ _ ⟨he, hw⟩ => ⟨he, fr_step hb hw⟩
theorem key_next_at {w0 W : World} (k : RK) (wk : k.wf) (ok : okB k = true) (hb : Fr w0 W) : Calls Try.prog 25 #[kv k] W fun e w' => e = .returned (nextV (nextK k)) ∧ Fr w0 w' := (key_next k wk ok W).mono fun _ _ ⟨he, hw⟩ => ⟨he, fr_step hb hw⟩
theorem key_compare_at {w0 W : World} (a b : RK) (wa : a.wf) (wb : b.wf) (oa : okB a = true) (ob : okB b = true) (hb : Fr w0 W) : Calls Try.prog 27 #[kv a, kv b] W fun e w' => e = .returned (.int .i64 (cmpK a b)) ∧ Fr w0 w' := (key_compare a b wa wb (okB_len oa) (okB_len ob) W).mono fun _ _ ⟨he, hw⟩ => ⟨he, fr_step hb hw.fr⟩
theorem cmpK_neg (a b : RK) : cmpK b a = -cmpK a b := by
  unfold cmpK
  rcases cmpI_cases (code a) (code b) with ⟨h, h2⟩ | ⟨h, h2⟩ | ⟨h, h2⟩
  · rw [h2, cmpI_gt h]; rfl
  · rw [h2, cmpI_lt h]
  · rw [h2, cmpI_eq h.symm]; rfl
theorem cmpK_bd (a b : RK) : -1 ≤ cmpK a b ∧ cmpK a b ≤ 1 := by
  unfold cmpK
  rcases cmpI_cases (code a) (code b) with ⟨h, h2⟩ | ⟨h, h2⟩ | ⟨h, h2⟩ <;> omega
end Go.Proofs.Ytignnjflodkihaa
