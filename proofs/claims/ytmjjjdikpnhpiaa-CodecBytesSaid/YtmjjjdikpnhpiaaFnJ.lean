/- Inner nodes by numbers (package 00's Inner); kids and pivots of one. -/
import Derived.Test.YtmjjjdikpnhpiaaFnE
import Derived.Test.YtmjjjdikpnhpiaaOrP
namespace Go.Proofs.Ytmjjjdikpnhpiaa
set_option linter.unusedVariables false
set_option linter.unusedSimpArgs false
set_option maxRecDepth 100000
open Go.RowKit
section
theorem zfl (p : Value) : Instr.loadAt 29 p = ldS 29 p := rfl
attribute [local go_sem ↓] zt zw zfl
def zeD (K P M : Value) : List Value := [.bool false, .slice none 0 0, K, P, M]
def zco (np : Nat) (f : Int) : List Int := (List.range (np + 1)).map fun i : Nat => 1 + f % 200 + 7 * (i : Int)
def InnerOut (W0 : World) (ks : List Int) (ps : List RK) (q : List RM) (e : Ending) (w' : World) : Prop := ∃ A c A2 c2 A3 c3, e = .returned (.agg (zeD (.slice A ks.length c) (.slice A2 ps.length c2) (.slice A3 q.length c3)).toArray) ∧ Hid (OwnI w' 0 A c ks) ∧ Hid (OwnK w' 0 A2 c2 ps) ∧ Hid (zaC w' 0 A3 c3 q) ∧ Fr W0 w'
end
section
attribute [local go_sem ↓] zt zw zfl
def TwoOut (W0 : World) (ks : List Int) (ps : List RK) (e : Ending) (w' : World) : Prop := ∃ A c A2 c2, e = .returned (.tuple #[.slice A ks.length c, .slice A2 ps.length c2]) ∧ Hid (OwnI w' 0 A c ks) ∧ Hid (OwnK w' 0 A2 c2 ps) ∧ Fr W0 w'
end
section
end
end Go.Proofs.Ytmjjjdikpnhpiaa
