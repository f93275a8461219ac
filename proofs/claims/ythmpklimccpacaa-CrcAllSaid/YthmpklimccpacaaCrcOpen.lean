/- Bytes that came in, as a list of numbers below 256. -/
import Derived.Test.YthmpklimccpacaaOpen
import Derived.Test.YthmpklimccpacaaCrcMore
namespace Go.Proofs.Ythmpklimccpacaa
open Go.RowKit
set_option linter.unusedVariables false
theorem octs_of_row {w : World} {a : Option Addr} {len cap : Nat} {zs : List Int}
    (h : (a = none ∧ len = 0 ∧ cap = 0 ∧ zs = []) ∨ ∃ x, a = some x ∧ len ≤ cap ∧ cap ≤ maxLen ∧ zs.length = cap ∧ (∀ i, i < zs.length → w.cell? (x.add i) = some (.int .u8 (zs.getD i 0))) ∧ ∀ n ∈ zs, (Lit.int .u8 n).wf = true) :
    ∃ l : List Nat, l.length = len ∧ len ≤ cap ∧ Octets l ∧ Has w w.heap.size a (octs l) ∧ ((a = none ∧ cap = 0) ∨ (∃ b off, a = some ⟨b, off, none⟩) ∨ cap = 0) := by
  obtain ⟨ys, h1, h2, h3, h4, h5⟩ := has_of_row h
  refine ⟨ys.map Int.toNat, by simpa using h1, h2, fun b hb => ?_, ?_, h5⟩
  · obtain ⟨z, hz, rfl⟩ := List.mem_map.1 hb
    have := bd_u8 (h3 z hz)
    omega
  · have e : octs (ys.map Int.toNat) = ys.map (Value.int .u8) := by
      rw [octs, List.map_map]
      apply List.map_congr_left
      intro z hz
      have := bd_u8 (h3 z hz)
      simp [Int.toNat_of_nonneg this.1]
    rw [e]
    exact h4
end Go.Proofs.Ythmpklimccpacaa
