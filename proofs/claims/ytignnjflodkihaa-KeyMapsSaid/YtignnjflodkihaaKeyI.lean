/- What the functions of layer 3 come to, nine: 'Kinds' of the document; 'same' of two rows. -/
import Derived.Test.YtignnjflodkihaaKeyH
namespace Go.Proofs.Ytignnjflodkihaa
open Go.RowKit Go.Maps
set_option linter.unusedVariables false
theorem kinds_step {l : List RK} {k : RK} : ((kinds (l ++ [k])).length : Int) = (kinds l).length + (if k ∈ l then 0 else 1) := by
  rw [kinds_snoc, addK]
  by_cases h : k ∈ l
  · rw [if_pos ((mem_kinds k l).2 h), if_pos h]; omega
  · rw [if_neg (fun e => h ((mem_kinds k l).1 e)), if_neg h]; simp
end Go.Proofs.Ytignnjflodkihaa
