/- 'same' of two rows of keys. -/
import Derived.Test.YtignnjflodkihaaKeyI
namespace Go.Proofs.Ytignnjflodkihaa
open Go.RowKit Go.Maps
set_option linter.unusedVariables false
theorem keys_ext {ks ls : List RK} (h : ks.length = ls.length) (ht : ∀ t, t < ks.length → ks[t]? = ls[t]?) : ks = ls := by
  apply List.ext_getElem? 
  intro t
  by_cases hl : t < ks.length
  · exact ht t hl
  · rw [List.getElem?_eq_none (by omega), List.getElem?_eq_none (by omega)]
end Go.Proofs.Ytignnjflodkihaa
