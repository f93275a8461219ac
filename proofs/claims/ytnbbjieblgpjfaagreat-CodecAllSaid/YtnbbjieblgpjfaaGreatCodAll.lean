/- CodecAll, walked. -/
import Derived.Test.YtnbbjieblgpjfaaGreatCodK
import Derived.Test.YtnbbjieblgpjfaaGreatActP
namespace Go.Proofs.YtnbbjieblgpjfaaGreat
set_option linter.unusedVariables false
set_option linter.unusedSimpArgs false
set_option maxRecDepth 100000
open Go.RowKit
set_option maxHeartbeats 4000000 in
theorem codecAll_core {w : World} {A0 A1 A3 : Option Addr} {n0 c0 n1 c1 n3 c3 : Nat} {es ps ms : List Int} {f : Int}
    (hl0 : Has w w.heap.size A0 (es.map (Value.int .i64))) (hn0 : es.length = n0) (hs0 : ∀ z ∈ es, zal z) (hm0 : n0 ≤ maxLen)
    (hl1 : Has w w.heap.size A1 (ps.map (Value.int .i64))) (hn1 : ps.length = n1) (hs1 : ∀ z ∈ ps, zal z) (hb1 : n1 * 8 ≤ 140737488351232) (hf : zal f)
    (hl3 : Has w w.heap.size A3 (ms.map (Value.int .i64))) (hn3 : ms.length = n3) (hs3 : ∀ z ∈ ms, zal z) (hm3 : n3 ≤ maxLen) :
    Calls Tryz.prog 5 #[.slice A0 n0 c0, .slice A1 n1 c1, .int .i64 f, .slice A3 n3 c3] w fun e w' => e = .returned (.bool true) ∧ Below w.heap.size w w' := by
  have rr := ze w
  have cL := fun W (h : Fr w W) => zoV (w := W) (c := c0) (hl0.fr (Nat.le_refl _) h) h.size hn0 hs0 hm0
  have cI := fun W (h : Fr w W) => zjw (w := W) (c := c1) (c2 := c3) (hl1.fr (Nat.le_refl _) h) h.size hn1 hs1 hf (hl3.fr (Nat.le_refl _) h) h.size hn3 hs3 hm3 hb1
  clear hl0 hn0 hs0 hm0 hl1 hn1 hs1 hb1 hf hl3 hn3 hs3 hm3
  go_enter Tryz.func5, Tryz.ntmps5
  go_wp2_with fail
  refine (cL _ rr).mono ?_
  rintro e w1 ⟨v1, rfl, h1, f1⟩
  go_wp2_with fail
  refine (codes_at h1.out.nh).mono ?_
  rintro e w2 ⟨rfl, f2⟩
  have F2 := za f1 f2
  go_wp2_with fail
  refine (cI _ F2).mono ?_
  rintro e w3 ⟨v3, rfl, h3, f3⟩
  go_wp2_with fail
  refine (codes_at h3.out.nh).mono ?_
  rintro e w4 ⟨rfl, f4⟩
  have F4 := za F2 (za f3 f4)
  go_wp2_with fail
  refine (awake11 _).mono ?_
  rintro e w5 ⟨rfl, f5⟩
  go_wp2_with fail
  go_ret
  exact ⟨rfl, za F4 f5⟩
end Go.Proofs.YtnbbjieblgpjfaaGreat
