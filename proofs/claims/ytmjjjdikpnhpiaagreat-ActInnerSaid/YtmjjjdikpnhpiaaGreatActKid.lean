/- package law10's 'kid' of a leaf. -/
import Derived.Test.YtmjjjdikpnhpiaaGreatActXa
import Derived.Test.YtmjjjdikpnhpiaaGreatRp
import Derived.Test.YtmjjjdikpnhpiaaGreatActVal
import Derived.Handy
import Derived.Deep.CutBlock
import Derived.Deep.RegionHeld3
import Derived.Test.YtmjjjdikpnhpiaaGreatShort
namespace Go.Proofs.YtmjjjdikpnhpiaaGreat
set_option linter.unusedVariables false
set_option linter.unusedSimpArgs false
set_option maxRecDepth 100000
open Go.RowKit
theorem own_away {w W : World} {B e size n c g : Nat} {A : Option Addr} {xs : List Value} (h : Own w B e size A n c xs) (k : zic w W g) (hg : g < B) : Own W B e size A n c xs := by
 refine ⟨h.1, ?_⟩
 rcases h.2 with hn | ⟨b, cap, cur, hv, hb, hA, h1, h2, h3, h4⟩
 ·exact .inl hn
 ·exact .inr ⟨b, cap, cur, hv, hb, k.other hA (by omega), h1, h2, h3, h4⟩
attribute [local go_sem ↓] zaP zt zbh
end Go.Proofs.YtmjjjdikpnhpiaaGreat
