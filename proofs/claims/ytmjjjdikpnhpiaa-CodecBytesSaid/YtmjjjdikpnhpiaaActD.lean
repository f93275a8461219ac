/- The kind of a node, the table of what is done, small tests. -/
import Derived.Test.YtmjjjdikpnhpiaaActA
import Derived.Test.YtmjjjdikpnhpiaaShort
namespace Go.Proofs.Ytmjjjdikpnhpiaa
set_option linter.unusedVariables false
set_option linter.unusedSimpArgs false
set_option maxRecDepth 100000
open Go.RowKit
section
attribute [local go_sem ↓] zaP
def kdI (b : Bool) : Int := if b then 0 else 1
def zcL (n : RN) (i : Int) : Bool := !n.lf && (decide (0 ≤ i) && decide (i < n.ks.length))
def zdH (id : Int) : Bool := decide (1 ≤ id ∧ id < 256)
def zdl (n : RN) (id : Int) : Bool := decide (n.ks.length < 4) && (zdH id && decide (plc n.ks id < 0))
end
section
attribute [local go_sem ↓] zaP zt
def okX (ok : Nat → Prop) (B k : Nat) : Nat → Prop := fun b => ok b ∧ (b < B ∨ B + k ≤ b)
section
variable {w W : World} {ok : Nat → Prop} {k i B : Nat} {v : NV} {n : RN}
theorem NP.out (h : NP w (okX ok B k) v n) : NP w ok v n := h.weak fun b _ ho => ho.1
end
def zaQ (n : RN) (g : List RM) : RN := if n.lf then { n with es := zbI n.es g } else { n with ms := zcg n.ms g }
end
end Go.Proofs.Ytmjjjdikpnhpiaa
