/- The kind of a node, the table of what is done, small tests. -/
import Derived.Test.YtnbbjieblgpjfaaActA
import Derived.Test.YtnbbjieblgpjfaaShort
namespace Go.Proofs.Ytnbbjieblgpjfaa
set_option linter.unusedVariables false
set_option linter.unusedSimpArgs false
set_option maxRecDepth 100000
open Go.RowKit
section
attribute [local go_sem ↓] zaP
theorem box1 (w : World) (v : NV) : ∃ Z, w.alloc (.cells v.cells.toArray 27) = Z ∧ Fr w Z ∧ Fr Z Z ∧ Arr Z w.heap.size 27 v.cells.toArray :=
 ⟨_, rfl, zf (ze w) _, ze _, Arr.new _ _ _⟩
def kdI (b : Bool) : Int := if b then 0 else 1
def zcL (n : RN) (i : Int) : Bool := !n.lf && (decide (0 ≤ i) && decide (i < n.ks.length))
def zdH (id : Int) : Bool := decide (1 ≤ id ∧ id < 256)
def zdl (n : RN) (id : Int) : Bool := decide (n.ks.length < 4) && (zdH id && decide (plc n.ks id < 0))
end
section
attribute [local go_sem ↓] zaP zt
def okX (ok : Nat → Prop) (B k : Nat) : Nat → Prop := fun b => ok b ∧ (b < B ∨ B + k ≤ b)
section
variable {w W : World} {ok : Nat → Prop} {k i B : Nat} {v : NV} {n : RN}
theorem zaT (hu : ∀ b, w.heap.size ≤ b → ok b) (h : w.heap.size + k ≤ W.heap.size) : ∀ b, W.heap.size ≤ b → okX ok w.heap.size k b := fun b hb => ⟨hu b (by omega), .inr (by omega)⟩
theorem zj (h : i < k) : ¬ okX ok B k (B + i) := fun h => by have := h.2; omega
theorem zo (h : 0 < k) : ¬ okX ok B k B := fun h => by have := h.2; omega
theorem NP.inn (h : NP w ok v n) (k : Nat) : NP w (okX ok w.heap.size k) v n := h.weak fun b hb ho => ⟨ho, .inl hb⟩
theorem NP.out (h : NP w (okX ok B k) v n) : NP w ok v n := h.weak fun b _ ho => ho.1
end
def zaQ (n : RN) (g : List RM) : RN := if n.lf then { n with es := zbI n.es g } else { n with ms := zcg n.ms g }
theorem zcY {n : RN} (h : n.lf = true) (g : List RM) : zaQ n g = { n with es := zbI n.es g } := by unfold zaQ; rw [if_pos h]
theorem zfI {n : RN} (h : n.lf = false) (g : List RM) : zaQ n g = { n with ms := zcg n.ms g } := by unfold zaQ; rw [h]; rfl
end
end Go.Proofs.Ytnbbjieblgpjfaa
