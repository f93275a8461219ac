/- Rows one behind the other; a kid more, by the program. -/
import Derived.Test.YtmjjjdikpnhpiaaFnA
import Derived.Test.YtmjjjdikpnhpiaaShort
namespace Go.Proofs.Ytmjjjdikpnhpiaa
set_option linter.unusedVariables false
set_option linter.unusedSimpArgs false
set_option maxRecDepth 100000
open Go.RowKit
section
attribute [local go_sem ↓] zt zw
section
variable {P : Program} {w : World} {t e size bytes B : Nat}
end
structure SI where
 A : Option Addr
 n : Nat
 c : Nat
 l : List Int
abbrev SI.v (s : SI) : Value := .slice s.A s.n s.c
structure SK where
 A : Option Addr
 n : Nat
 c : Nat
 l : List RK
abbrev SK.v (s : SK) : Value := .slice s.A s.n s.c
def zd5 (xs : List SI) : List Int := xs.flatMap (·.l)
def zd7 (xs : List SK) : List RK := xs.flatMap (·.l)
end
section
attribute [local go_sem ↓] zt zw
theorem Has.step {w W : World} {A : Option Addr} {xs : List Value} (h : Has w w.heap.size A xs) (f : Fr w W) : Has W W.heap.size A xs := (h.fr (Nat.le_refl _) f).mono f.size
def zam (A : Option Addr) (cap t : Nat) : Option Addr := if cap = t then A else A.map (·.add t)
def zbu (ks : List Int) (i id : Int) : List Int := if 0 ≤ i ∧ i < ks.length then ks.take (i.toNat + 1) ++ id :: ks.drop (i.toNat + 1) else ks
def zbz (n : Nat) (ps : List RK) (i : Int) (x : RK) : List RK := if 0 ≤ i ∧ i < n then ps.take i.toNat ++ x :: ps.drop i.toNat else ps
abbrev OwnI (w : World) (B : Nat) (A : Option Addr) (c : Nat) (l : List Int) : Prop := Own w B 3 1 A l.length c (zS l)
abbrev OwnK (w : World) (B : Nat) (A : Option Addr) (c : Nat) (l : List RK) : Prop := Own w B 69 9 A l.length c (zm kc l)
def zeO (W0 : World) (a : List Int) (b : List RK) (e : Ending) (w' : World) : Prop := ∃ A3 c3 A4 c4, e = .returned (.tuple #[.slice A3 a.length c3, .slice A4 b.length c4]) ∧ Hid (OwnI w' W0.heap.size A3 c3 a) ∧ Hid (OwnK w' W0.heap.size A4 c4 b) ∧ Fr W0 w'
end
end Go.Proofs.Ytmjjjdikpnhpiaa
