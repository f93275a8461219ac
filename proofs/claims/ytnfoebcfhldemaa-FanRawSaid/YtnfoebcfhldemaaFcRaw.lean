/- FanRaw, walked. -/
import Derived.Test.YtnfoebcfhldemaaFnJ
namespace Go.Proofs.Ytnfoebcfhldemaa
set_option maxRecDepth 100000
open Go.RowKit
set_option linter.unusedVariables false
attribute [local go_sem ↓] key_ld msg_ld
set_option maxHeartbeats 1000000 in
theorem fanRaw_core {w : World} {A A2 : Option Addr} {n c n2 c2 : Nat} {ks : List Int} {ps : List RK} {v : Int} (hk : Has w w.heap.size A (ints ks)) (hn : ks.length = n) (hc : n ≤ c) (hnm : n ≤ maxLen) (hp : Has w w.heap.size A2 (rows kc ps)) (hn2 : ps.length = n2) (hnm2 : n2 ≤ maxLen) (wp : WfK ps) :
    Calls Try.prog 6 #[.slice A n c, .slice A2 n2 c2, .int .i64 v] w fun e w' => e = .returned (.bool true) ∧ Below w.heap.size w w' := by
  have cW := fun W (h : Fr w W) => awake8_at (W0 := w) (W := W) h
  have rr := fr_refl w
  by_cases h1 : 20 < n
  · have z1 : 20 < (n : Int) := by omega
    clear hk hn hp hn2
    go_enter Try.func6, Try.ntmps6
    go_wp2_with (first
      | (go_at_call 45; (with_reducible refine (cW _ rr).mono ?_); rintro e w1 ⟨rfl, h2⟩)
      | fail)
    go_ret
    exact ⟨rfl, h2⟩
  have z1 : ¬ (20 < (n : Int)) := by omega
  by_cases h2 : 20 < n2
  · have z2 : 20 < (n2 : Int) := by omega
    clear hk hn hp hn2
    go_enter Try.func6, Try.ntmps6
    go_wp2_with (first
      | (go_at_call 45; (with_reducible refine (cW _ rr).mono ?_); rintro e w1 ⟨rfl, h2⟩)
      | fail)
    go_ret
    exact ⟨rfl, h2⟩
  have z2 : ¬ (20 < (n2 : Int)) := by omega
  have cA := fun W (h : Fr w W) => fcheck_at (ck := c) (c := c2) (hk.fr (Nat.le_refl _) h) h.size hn (by omega) hc (hp.fr (Nat.le_refl _) h) h.size hn2 (by omega) wp
  have cB := fun W (h : Fr w W) => rfcheck_at (ck := c) (c := c2) (hk.fr (Nat.le_refl _) h) h.size hn (by omega) (hp.fr (Nat.le_refl _) h) h.size hn2 (by omega) wp
  have cC := fun W (h : Fr w W) => place_int (v := v) (c := c) (hk.fr (Nat.le_refl _) h) h.size hn hnm (fr_refl W)
  have cD := fun W (h : Fr w W) => rplace_int (v := v) (c := c) (hk.fr (Nat.le_refl _) h) h.size hn hnm (fr_refl W)
  generalize chkB ks ps = b at *
  generalize plc ks v = q at *
  clear hk hn hp hn2 wp h1 h2
  go_enter Try.func6, Try.ntmps6
  go_wp2_with fail
  refine (cA _ rr).mono ?_
  rintro e w1 ⟨rfl, h1⟩
  go_wp2_with fail
  refine (cB _ h1).mono ?_
  rintro e w2 ⟨rfl, h2⟩
  replace h2 := fr_step h1 h2
  have hbb : (b == b) = true := by simp
  go_wp2_with fail
  refine (cC _ h2).mono ?_
  rintro e w3 ⟨rfl, h3⟩
  replace h3 := fr_step h2 h3
  go_wp2_with fail
  refine (cD _ h3).mono ?_
  rintro e w4 ⟨rfl, h4⟩
  replace h4 := fr_step h3 h4
  go_wp2_with fail
  refine (cW _ h4).mono ?_
  rintro e w5 ⟨rfl, h5⟩
  go_wp2_with fail
  go_ret
  exact ⟨rfl, h5⟩
end Go.Proofs.Ytnfoebcfhldemaa
