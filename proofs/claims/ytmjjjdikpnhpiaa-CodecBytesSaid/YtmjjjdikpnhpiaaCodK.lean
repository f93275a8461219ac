/- Package law11's codes: a node's bytes are the document's, and it is told again. -/
import Derived.Test.YtmjjjdikpnhpiaaCodJ
import Derived.Test.YtmjjjdikpnhpiaaCodH
namespace Go.Proofs.Ytmjjjdikpnhpiaa
set_option linter.unusedVariables false
set_option linter.unusedSimpArgs false
set_option maxRecDepth 100000
open Go.RowKit
theorem csmN_refl (n : RN) : smN n n = true := by unfold smN; simp
attribute [local go_sem ↓] zw zt zae zbh zaP
end Go.Proofs.Ytmjjjdikpnhpiaa
