/- What came in, in the words of these texts. No program text. -/
import Derived.Test.YtifmldlbhcpaiaaRows
import Derived.Test.YtifmldlbhcpaiaaMem
namespace Go.Proofs.Ytifmldlbhcpaiaa
set_option linter.unusedVariables false
set_option linter.unusedSimpArgs false
open Go.RowKit

/-- What a slice of integers that came in is, in the words of these texts. -/
theorem has_of_row {k : IntKind} {w : World} {a : Option Addr} {len cap : Nat} {zs : List Int}
    (h : (a = none ∧ len = 0 ∧ cap = 0 ∧ zs = []) ∨ ∃ x, a = some x ∧ len ≤ cap ∧ cap ≤ maxLen ∧ zs.length = cap ∧ (∀ i, i < zs.length → w.cell? (x.add i) = some (.int k (zs.getD i 0))) ∧ ∀ n ∈ zs, (Lit.int k n).wf = true) :
    ∃ ys : List Int, ys.length = len ∧ len ≤ cap ∧ (∀ z ∈ ys, (Lit.int k z).wf = true) ∧ Has w w.heap.size a (ys.map (Value.int k)) ∧ ((a = none ∧ cap = 0) ∨ (∃ b off, a = some ⟨b, off, none⟩) ∨ cap = 0) := by
  rcases h with ⟨rfl, rfl, rfl, rfl⟩ | ⟨x, rfl, hl, hm, hz, hc, hw⟩
  · exact ⟨[], rfl, Nat.le_refl _, by simp, Has.nil, .inl ⟨rfl, rfl⟩⟩
  · have hs : 0 < cap → x.spot = none := fun h => by
      have h0 := hc 0 (by omega)
      exact World.cell?_spot (by simpa [Addr.add] using h0)
    refine ⟨zs.take len, by simp; omega, hl, fun z hz => hw z (List.mem_of_mem_take hz), fun j u hu => ?_, ?_⟩
    · have hj : j < len ∧ j < zs.length := by
        have := (List.getElem?_eq_some_iff.1 hu).1
        simp at this
        omega
      have hcj := hc j hj.2
      have hs := hs (by omega)
      obtain ⟨b, off, sp⟩ := x
      simp only at hs
      subst hs
      rw [Addr.add_lit] at hcj
      refine ⟨b, off, rfl, World.block_lt_of_cell? w _ hcj, ?_⟩
      rw [hcj]
      simp [hj.1, hj.2] at hu ⊢
      exact hu
    · by_cases h0 : cap = 0
      · exact .inr (.inr h0)
      · have hs := hs (by omega)
        obtain ⟨b, off, sp⟩ := x
        simp only at hs
        subst hs
        exact .inr (.inl ⟨b, off, rfl⟩)
theorem bd_i64 {z : Int} (h : (Lit.int .i64 z).wf = true) : -9223372036854775808 ≤ z ∧ z ≤ 9223372036854775807 := by
  simpa [Lit.wf, IntKind.min, IntKind.max, IntKind.signed, IntKind.bits] using h
theorem bd_u64 {z : Int} (h : (Lit.int .u64 z).wf = true) : 0 ≤ z ∧ z ≤ 18446744073709551615 := by
  simpa [Lit.wf, IntKind.min, IntKind.max, IntKind.signed, IntKind.bits] using h
theorem bd_u32 {z : Int} (h : (Lit.int .u32 z).wf = true) : 0 ≤ z ∧ z ≤ 4294967295 := by
  simpa [Lit.wf, IntKind.min, IntKind.max, IntKind.signed, IntKind.bits] using h
theorem bd_u16 {z : Int} (h : (Lit.int .u16 z).wf = true) : 0 ≤ z ∧ z ≤ 65535 := by
  simpa [Lit.wf, IntKind.min, IntKind.max, IntKind.signed, IntKind.bits] using h
theorem bd_u8 {z : Int} (h : (Lit.int .u8 z).wf = true) : 0 ≤ z ∧ z ≤ 255 := by
  simpa [Lit.wf, IntKind.min, IntKind.max, IntKind.signed, IntKind.bits] using h
theorem nat_u32 {z : Int} (h : (Lit.int .u32 z).wf = true) : ∃ s : Nat, z = (s : Int) ∧ s < 4294967296 := ⟨z.toNat, by have := bd_u32 h; omega, by have := bd_u32 h; omega⟩
theorem nat_u8 {z : Int} (h : (Lit.int .u8 z).wf = true) : ∃ s : Nat, z = (s : Int) ∧ s < 256 := ⟨z.toNat, by have := bd_u8 h; omega, by have := bd_u8 h; omega⟩
end Go.Proofs.Ytifmldlbhcpaiaa
