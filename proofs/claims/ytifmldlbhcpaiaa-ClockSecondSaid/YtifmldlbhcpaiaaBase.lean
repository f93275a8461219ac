/- Small words that every text here uses. No program text. -/
import Derived.WalkKit
import Derived.Handy
namespace Go.Proofs.Ytifmldlbhcpaiaa
set_option linter.unusedVariables false
set_option linter.unusedSimpArgs false
open Go.RowKit

/-- A fact kept from the walk. -/
theorem keep {p : Prop} (h : p) : Hid p := h
theorem ret_int {k : IntKind} {a b : Int} (h : a = b) : Ending.returned (.int k a) = .returned (.int k b) := by rw [h]
theorem ret_bool {a b : Bool} (h : a = b) : Ending.returned (.bool a) = .returned (.bool b) := by rw [h]
theorem ret_int_bool {k : IntKind} {a b : Int} {x y : Bool} (h : a = b) (g : x = y) : Ending.returned (.tuple #[.int k a, .bool x]) = .returned (.tuple #[.int k b, .bool y]) := by rw [h, g]

/-- A block of cells of the call's own: an array. -/
def Arr (w : World) (g T : Nat) (cs : Array Value) : Prop := w.heap[g]? = some (.cells cs T (0, 0))
section
variable {w w' : World} {g T B : Nat} {cs : Array Value}
theorem Arr.lt (h : Arr w g T cs) : g < w.heap.size := by
  rcases Nat.lt_or_ge g w.heap.size with h' | h'
  · exact h'
  · have h : w.heap[g]? = _ := h
    simp [Array.getElem?_eq_none h'] at h
theorem Arr.cell (h : Arr w g T cs) (j : Nat) : w.cell? ⟨g, j, none⟩ = cs[j]? := by
  have h : w.heap[g]? = _ := h
  simp [World.cell?, h]
theorem Arr.free (h : Arr w g T cs) (j : Nat) : w.frozen? ⟨g, j, none⟩ = false := by
  have h : w.heap[g]? = _ := h
  simp [World.frozen?, h]
theorem Arr.set (h : Arr w g T cs) (j : Nat) (v : Value) : Arr (w.setCell ⟨g, j, none⟩ v) g T (cs.setIfInBounds j v) := by
  have hlt := h.lt
  have h' : w.heap[g] = .cells cs T (0, 0) := by
    have h : w.heap[g]? = _ := h
    simpa [Array.getElem?_eq_getElem hlt] using h
  show (w.heap.modify g _)[g]? = _
  rw [Array.getElem?_eq_getElem (by simpa using hlt), Array.getElem_modify_self, h']
  rfl
theorem Arr.other (h : Arr w g T cs) (p : Addr) (hp : p.block ≠ g) (v : Value) : Arr (w.setCell p v) g T cs := by
  show (w.setCell p v).heap[g]? = _
  rw [Below.heap_setCell _ _ _ _ (fun e => hp e.symm)]
  exact h
theorem Arr.alloc (h : Arr w g T cs) (o : Obj) : Arr (w.alloc o) g T cs := by
  show (w.alloc o).heap[g]? = _
  rw [Below.heap_alloc _ _ _ h.lt]
  exact h
theorem Arr.new (w : World) (cs : Array Value) (T : Nat) : Arr (w.alloc (.cells cs T)) w.heap.size T cs := heap_alloc_new w _
theorem Arr.below (h : Arr w g T cs) (hb : Below B w w') (hg : g < B) : Arr w' g T cs := (hb.block g hg).trans h
end

/-! From one world on: nothing of what was there has turned. -/
abbrev Fr (a w : World) : Prop := Below a.heap.size a w
section
variable {a w w' : World}
theorem fr_refl (a : World) : Fr a a := Below.refl _ _
theorem fr_step (h : Fr a w) (k : Fr w w') : Fr a w' := Below.trans h (k.mono h.size)
theorem fr_new (h : Fr a w) (o : Obj) : Fr a (w.alloc o) := Below.alloc h h.size o
theorem fr_drew (h : Fr a w) : Fr a w.drew := Below.drew h
end

/-- A remainder by a number above 0: below 0, or not. -/
theorem tmod_cases (t : Int) (n : Nat) (hn : n ≠ 0) : (∃ k : Nat, t.tmod n = -(k : Int) ∧ 0 < k ∧ k < n) ∨ (∃ k : Nat, t.tmod n = k ∧ k < n) := by
  have h1 : t.tmod n = t.sign * ((t.natAbs % n : Nat) : Int) := by
    rcases Int.lt_trichotomy t 0 with h | rfl | h
    · obtain ⟨T, rfl⟩ : ∃ T : Nat, t = -(T : Int) := ⟨t.natAbs, by omega⟩
      rw [Int.neg_tmod, Int.sign_eq_neg_one_of_neg h]
      simp
      rfl
    · simp
    · obtain ⟨T, rfl⟩ := Int.eq_ofNat_of_zero_le (Int.le_of_lt h)
      rw [Int.sign_eq_one_of_pos h]
      simp
      rfl
  have h2 : t.natAbs % n < n := Nat.mod_lt _ (by omega)
  generalize t.natAbs % n = k at h1 h2
  rcases Int.lt_trichotomy t 0 with h | rfl | h
  · rw [Int.sign_eq_neg_one_of_neg h] at h1
    by_cases hk : k = 0
    · exact .inr ⟨0, by rw [h1, hk]; simp, by omega⟩
    · exact .inl ⟨k, by rw [h1]; omega, by omega, h2⟩
  · exact .inr ⟨0, by simp, by omega⟩
  · rw [Int.sign_eq_one_of_pos h] at h1
    exact .inr ⟨k, by rw [h1]; omega, h2⟩
end Go.Proofs.Ytifmldlbhcpaiaa
