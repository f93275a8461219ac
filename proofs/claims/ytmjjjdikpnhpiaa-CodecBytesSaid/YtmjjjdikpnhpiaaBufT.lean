/- Buffers in memory, nineteen: the document's 'All'; package 00's 'Msgs'. -/
import Derived.Test.YtmjjjdikpnhpiaaBufQ
import Derived.Test.YtmjjjdikpnhpiaaBuf0
namespace Go.Proofs.Ytmjjjdikpnhpiaa
set_option linter.unusedVariables false
set_option linter.unusedSimpArgs false
set_option maxRecDepth 100000
open Go.RowKit
attribute [local go_sem ↓] zt zw zaX
end Go.Proofs.Ytmjjjdikpnhpiaa
