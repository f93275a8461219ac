/- What came in, in the words of these texts. No program text. -/
import Derived.Test.YtmjjjdikpnhpiaaRows
import Derived.Test.YtmjjjdikpnhpiaaBase
import Derived.Test.YtmjjjdikpnhpiaaValA
import Derived.Deep.RegionLaw
import Derived.Deep.RegionHeld3
import Derived.Laws.CopyOwn
import Derived.Deep.RegionWith
namespace Go.Proofs.Ytmjjjdikpnhpiaa
set_option linter.unusedVariables false
set_option linter.unusedSimpArgs false
set_option maxRecDepth 100000
open Go.RowKit
section
def zfF (v : RV) : Int := leN (v.bs.take 8)
def zaO (n : Int) : RV := ⟨8, leB n 8 ++ List.replicate 8 0⟩
def zbJ (v : RV) (k : Int) : RV := zaO (IntKind.u64.wrap (zfF v + k))
attribute [local go_sem ↓] zae
def zcR (N : Int) (l : List Int) (j : Nat) : RV := ⟨N, l.take j ++ List.replicate (16 - j) 0⟩
end
section
attribute [local go_sem ↓] zae
section
variable {W0 W : World}
theorem zlC {v : RV} (wv : v.wf) (hb : Fr W0 W) : Calls Try.prog 78 #[vv v] W fun e w' => e = .returned (.bool (okV v)) ∧ Fr W0 w' := (zi6 v wv W).mono fun _ _ ⟨he, hw⟩ => ⟨he, za hb hw⟩
end
theorem cell_fr {W0 : World} {g T : Nat} {cs : List Value} (ha : Arr W0 g T cs.toArray) (j : Nat) (u : Value) (hu : cs[j]? = some u) : ∀ W, Fr W0 W → W.cell? ⟨g, j, none⟩ = some u := fun W h => by
 rw [(ha.below h ha.lt).cell, ← hu]; simp
def one1 : ByteArray := ⟨#[1]⟩
end
section
attribute [local go_sem ↓] zae
end
section
attribute [local go_sem ↓] zae
theorem zju {W0 W : World} {v : RV} (wv : v.wf) (hb : Fr W0 W) : Calls Try.prog 86 #[vv v] W fun e w' => e = .returned (.bool (okV v)) ∧ Fr W0 w' := (zml v wv W).mono fun _ _ ⟨he, hw⟩ => ⟨he, za hb hw⟩
end
end Go.Proofs.Ytmjjjdikpnhpiaa
