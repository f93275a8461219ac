/- The document's 'Put' of an entry. -/
import Derived.Test.YtmjjjdikpnhpiaaLfH
import Derived.Test.YtmjjjdikpnhpiaaLfF
import Derived.Test.YtmjjjdikpnhpiaaLfK
import Derived.Test.YtmjjjdikpnhpiaaShort
import Derived.Test.YtmjjjdikpnhpiaaBufT
import Derived.Test.YtmjjjdikpnhpiaaKeyA
import Derived.Deep.Slices
import Derived.ProofKit
import Derived.OpenShut
import Derived.SliceStrings
import Derived.Test.YtmjjjdikpnhpiaaValA
import Derived.Test.YtmjjjdikpnhpiaaMsg0
import Derived.Test.YtmjjjdikpnhpiaaValC
import Derived.ChangeSlices
import Derived.ChangeArms
import Derived.Test.YtmjjjdikpnhpiaaBufL
import Derived.Test.YtmjjjdikpnhpiaaLfA
namespace Go.Proofs.Ytmjjjdikpnhpiaa
set_option linter.unusedVariables false
set_option linter.unusedSimpArgs false
set_option maxRecDepth 100000
open Go.RowKit
section
attribute [local go_sem ↓] zt zbh zae zw
end
section
attribute [local go_sem ↓] zt zbh zae zw
end
section
attribute [local go_sem ↓] zt zbh zae zw zeW
end
section
attribute [local go_sem ↓] zt zbh zae zw zeW
end
section
attribute [local go_sem ↓] zt zbh zae zw zaX
end
section
attribute [local go_sem ↓] zt zw zaX
section
variable {W : World} {A A2 : Option Addr} {c c2 : Nat} {l l2 : List RM} {m : RM} {k : RK}
end
def wantM (o : Option RM) (m : RM) : RM := match o with | some x => za7 x m | none => m
end
section
attribute [local go_sem ↓] zt zw zaX
end
section
attribute [local go_sem ↓] zt zbh zae zw zaX
end
section
end
section
def spl1 (l : List RE) : List RE := if l.length < 2 then [] else l.take (zaZ l)
def spl2 (l : List RE) : List RE := if l.length < 2 then [] else l.drop (zaZ l)
def splK (l : List RE) : RK := if l.length < 2 then zr else ((l.drop (zaZ l)).headD zea).key
def splB (l : List RE) : Bool := if l.length < 2 then false else true
section
variable {W : World} {A A2 : Option Addr} {c c2 : Nat} {l : List RE}
end
end
end Go.Proofs.Ytmjjjdikpnhpiaa
