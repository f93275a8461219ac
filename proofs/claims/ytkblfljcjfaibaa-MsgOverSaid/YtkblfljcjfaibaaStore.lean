/- Blocks of the call's own in worlds written out: rules for the walk. No program text. -/
import Derived.Test.YtkblfljcjfaibaaCell
namespace Go.Proofs.Ytkblfljcjfaibaa
open Go.RowKit
set_option linter.unusedVariables false
section
variable {w : World} {g T n : Nat}
theorem ownB_drew : OwnB w.drew g T n = OwnB w g T n := rfl
theorem arr_alloc_iff {cs : Array Value} {o : Obj} (hg : g ≠ w.heap.size) : Arr (w.alloc o) g T cs ↔ Arr w g T cs := by
  constructor
  · intro h
    have hlt := h.lt
    have : g < w.heap.size := by simp at hlt; omega
    have h' : (w.alloc o).heap[g]? = _ := h
    rw [Below.heap_alloc _ _ _ this] at h'
    exact h'
  · exact fun h => h.alloc o
theorem ownB_alloc (zs : Array Value) (T' : Nat) : OwnB (w.alloc (.cells zs T')) g T n = if g = w.heap.size then (T' = T ∧ zs.size = n) else OwnB w g T n := by
  apply propext
  by_cases hg : g = w.heap.size
  · rw [if_pos hg]
    subst hg
    constructor
    · rintro ⟨cs, h, hl⟩
      have h1 : (w.alloc (.cells zs T')).heap[w.heap.size]? = some (.cells zs T' (0, 0)) := Arr.new w zs T'
      have h2 : (w.alloc (.cells zs T')).heap[w.heap.size]? = some (.cells cs.toArray T (0, 0)) := h
      rw [h1] at h2
      injection h2 with h2
      injection h2 with e1 e2 e3
      exact ⟨e2, by rw [e1]; simpa using hl⟩
    · rintro ⟨rfl, hl⟩
      exact OwnB.new rfl hl
  · rw [if_neg hg]
    constructor
    · rintro ⟨cs, h, hl⟩
      exact ⟨cs, (arr_alloc_iff hg).1 h, hl⟩
    · exact fun h => h.alloc _
theorem OwnB.below {w' : World} (h : OwnB w g T n) (hb : Below w.heap.size w w') : OwnB w' g T n := by
  obtain ⟨cs, h, hl⟩ := h
  exact ⟨cs, h.below hb h.lt, hl⟩
theorem OwnB.put (h : OwnB w g T n) (ds : Array Value) : Arr (w.setRow g ds) g T ds := by
  obtain ⟨cs, h, _⟩ := h
  exact h.setRow ds
theorem ownB_setRow {k : Nat} {ds : Array Value} (hl : ds.size = n) (h : OwnB w g T n) : OwnB (w.setRow k ds) g T n := h.setRow hl
end
end Go.Proofs.Ytkblfljcjfaibaa
