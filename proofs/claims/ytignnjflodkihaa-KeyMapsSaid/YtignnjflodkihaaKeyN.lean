/- KeyThree, walked. -/
import Derived.Test.YtignnjflodkihaaKeyM
namespace Go.Proofs.Ytignnjflodkihaa
open Go.RowKit Go.Maps
set_option linter.unusedVariables false
theorem cmpK_zero {a b : RK} (wa : a.wf) (wb : b.wf) (oa : okB a = true) (ob : okB b = true) : (cmpK a b == 0) = decide (a = b) := by
  rw [Bool.eq_iff_iff, decide_eq_true_iff, beq_iff_eq]
  unfold cmpK
  constructor
  · intro h
    rcases cmpI_cases (code a) (code b) with ⟨g, h2⟩ | ⟨g, h2⟩ | ⟨g, h2⟩
    · omega
    · omega
    · exact code_inj wa wb (okB_len oa) (okB_len ob) g
  · rintro rfl
    exact cmpI_eq rfl
theorem cmpK_le {a b : RK} : cmpK a b ≤ 0 ↔ code a ≤ code b := by
  unfold cmpK
  rcases cmpI_cases (code a) (code b) with ⟨h, h2⟩ | ⟨h, h2⟩ | ⟨h, h2⟩ <;> omega
theorem cmpK_lt {a b : RK} : cmpK a b < 0 ↔ code a < code b := by
  unfold cmpK
  rcases cmpI_cases (code a) (code b) with ⟨h, h2⟩ | ⟨h, h2⟩ | ⟨h, h2⟩ <;> omega
end Go.Proofs.Ytignnjflodkihaa
