/- Halves of a node, by the program. -/
import Derived.Test.YtmjjjdikpnhpiaaActD
import Derived.Test.YtmjjjdikpnhpiaaShort
namespace Go.Proofs.Ytmjjjdikpnhpiaa
set_option linter.unusedVariables false
set_option linter.unusedSimpArgs false
set_option maxRecDepth 100000
open Go.RowKit
section
attribute [local go_sem ↓] zaP zt
def zap (n : RN) : Bool := if n.lf then decide (2 ≤ n.es.length) else decide (n.ks.length = 4)
def zaU (n : RN) : RK := if n.lf then splK n.es else n.ps.getD 1 zr
def hl1 (n : RN) : RN := if n.lf then ⟨true, n.es.take (zaZ n.es), [], [], []⟩ else ⟨false, [], n.ks.take 2, n.ps.take 1, zah n.ms [zaU n] 0⟩
def hl2 (n : RN) : RN := if n.lf then ⟨true, n.es.drop (zaZ n.es), [], [], []⟩ else ⟨false, [], n.ks.drop 2, n.ps.drop 2, zah n.ms [zaU n] 1⟩
def zhd (w : World) (ok : Nat → Prop) (n : RN) (e : Ending) (w' : World) : Prop := ∃ v1 v2, e = .returned (.tuple #[nv v1, nv v2, kv (zaU n), .bool true]) ∧ Hid (NP w' ok v1 (hl1 n)) ∧ Hid (NP w' ok v2 (hl2 n)) ∧ Fr w w'
def zi9 (w : World) (e : Ending) (w' : World) : Prop := ∃ v1 v2 k, e = .returned (.tuple #[nv v1, nv v2, kv k, .bool false]) ∧ Fr w w'
theorem zR.drop {w : World} {ok : Nat → Prop} {b off : Nat} {xs : List Value} (h : zR w ok (some ⟨b, off, none⟩) xs) (k : Nat) : zR w ok (some ⟨b, off + k, none⟩) (xs.drop k) := fun j u hu => by
 rw [List.getElem?_drop] at hu;obtain ⟨b', off', h1, h2, h3⟩ := h _ u hu
 injection h1 with h1
 injection h1 with h1 h4
 subst h1 h4;exact ⟨b, off + k, rfl, h2, by rw [Nat.add_assoc]; exact h3⟩
end
section
attribute [local go_sem ↓] zaP zt
end
end Go.Proofs.Ytmjjjdikpnhpiaa
