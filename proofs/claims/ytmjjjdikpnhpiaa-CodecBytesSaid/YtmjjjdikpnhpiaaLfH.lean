/- Entries in memory: 'Put', 'All' of the document. -/
import Derived.Test.YtmjjjdikpnhpiaaLfF
namespace Go.Proofs.Ytmjjjdikpnhpiaa
set_option linter.unusedVariables false
set_option linter.unusedSimpArgs false
set_option maxRecDepth 100000
open Go.RowKit
section
attribute [local go_sem ↓] zt zbh zae zw
def optE (k : RK) : Option RV → List RE
 | some v => [⟨k, v⟩]
 | none => []
def zeG (l : List RE) (k : RK) (o : Option RV) (j : Nat) (p : Bool) (q : List RE) : Prop :=
 if p = true then q ++ l.drop j = za3 l k o ∧ ∀ y ∈ l.drop j, zu k < ce y else q = l.take j ∧ ∀ y ∈ l.take j, ce y < zu k
end
section
attribute [local go_sem ↓] zt zbh zae zw
end
section
attribute [local go_sem ↓] zt zbh zae zw
end
end Go.Proofs.Ytmjjjdikpnhpiaa
