/- Mathematics of leaves, buffers, kids that acts need. -/
import Derived.Test.YtmjjjdikpnhpiaaNodD
import Derived.Test.YtmjjjdikpnhpiaaFnE
import Derived.Test.YtmjjjdikpnhpiaaShort
import Derived.Test.YtmjjjdikpnhpiaaFnH
import Derived.Test.YtmjjjdikpnhpiaaLfL
import Derived.Test.YtmjjjdikpnhpiaaBufQ
import Derived.Test.YtmjjjdikpnhpiaaOrP
namespace Go.Proofs.Ytmjjjdikpnhpiaa
set_option linter.unusedVariables false
set_option linter.unusedSimpArgs false
set_option maxRecDepth 100000
open Go.RowKit
section
section
attribute [local go_sem ↓] zae
attribute [local go_sem ↓] zae
attribute [local go_sem ↓] zae
attribute [local go_sem ↓] zae
end
section
attribute [local go_sem ↓] zae zt zw
end
section
attribute [local go_sem ↓] zae zt zw
section
attribute [local go_sem ↓] zaX
end
section
variable {a b c : RM}
end
attribute [local go_sem ↓] zae zt zw
section
attribute [local go_sem ↓] zl2
end
attribute [local go_sem ↓] zae zt zw
section
attribute [local go_sem ↓] zaX zeW
end
attribute [local go_sem ↓] zae zt zw
attribute [local go_sem ↓] zae zt zw
section
attribute [local go_sem ↓] zaX
end
end
section
end
section
attribute [local go_sem ↓] zt zw zaX
end
section
attribute [local go_sem ↓] zt zw
end
section
attribute [local go_sem ↓] zt zbh zae zw zaX
end
section
attribute [local go_sem ↓] zt zbh zae zw
end
section
attribute [local go_sem ↓] zt zw
attribute [local go_sem ↓] zt zw
attribute [local go_sem ↓] zt zw
attribute [local go_sem ↓] zt zw
end
section
attribute [local go_sem ↓] zt zw
attribute [local go_sem ↓] zt zw
attribute [local go_sem ↓] zt zw
attribute [local go_sem ↓] zt zw zeW
attribute [local go_sem ↓] zt zw zeW
end
section
attribute [local go_sem ↓] zt zw
end
section
end
end
section
section
attribute [local go_sem ↓] zt zw zfl
attribute [local go_sem ↓] zt zw zfl
end
section
attribute [local go_sem ↓] zt zw zaP
end
end
end Go.Proofs.Ytmjjjdikpnhpiaa
