/- BufRaw, walked. -/
import Derived.Test.YtbfldfmghlknmaaBufN
namespace Go.Proofs.Ytbfldfmghlknmaa
set_option maxRecDepth 100000
open Go.RowKit
set_option linter.unusedVariables false
attribute [local go_sem ↓] key_ld msg_ld msg_st
theorem bool_iff {a b : Bool} {p : Prop} (ha : a = true ↔ p) (hb : b = true ↔ p) : a = b := by
  cases a <;> cases b <;> simp_all
set_option maxHeartbeats 2000000 in
theorem bufRaw_core {w : World} {A : Option Addr} {n c : Nat} {l : List RM} (hn : l.length = n) (hc : n ≤ c) (wl : WfM l) (hl : Has w w.heap.size A (rows mc l)) :
    Calls Try.prog 4 #[.slice A n c] w fun e w' => e = .returned (.bool true) ∧ Below w.heap.size w w' := by
  have cA := fun W h => awake6_at (W0 := w) (W := W) h
  have hww := fr_refl w
  by_cases hb : 60 < n
  · have hbz : (60 : Int) < (n : Int) := by omega
    clear hl wl
    go_enter Try.func4, Try.ntmps4
    go_wp2_with (first
      | (go_at_call 31; refine (cA _ hww).mono ?_; rintro e w1 ⟨rfl, hz⟩)
      | fail)
    go_ret
    exact ⟨rfl, hz⟩
  · have hbz : ¬ (60 : Int) < (n : Int) := by omega
    have cR := ref_check6 (c := c) hl (Nat.le_refl _) hn (by omega) wl
    have cC : ∀ W, Fr w W → Calls Try.prog 16 #[.slice A n c] W fun e w' => (∃ b, e = .returned (.bool b) ∧ (b = true ↔ OkL l)) ∧ Fr w w' := fun W hW => (bcheck_at (c := c) (hl.fr (Nat.le_refl _) hW) hW.size hn (by omega) wl).mono fun e w' ⟨h1, h2⟩ => ⟨h1, fr_step hW h2⟩
    have cB : ∀ W, Fr w W → Calls Try.prog 18 #[.slice A n c] W fun e w' => e = .returned (.int .i64 (bytL l)) ∧ Fr w w' := fun W hW => (bytes_at (c := c) (hl.fr (Nat.le_refl _) hW) hW.size hn (by omega) wl).mono fun e w' ⟨h1, h2⟩ => ⟨h1, fr_step hW h2⟩
    have cD : ∀ W, Fr w W → Calls Try.prog 19 #[.slice A n c] W fun e w' => e = .returned (.int .i64 (bytL l)) ∧ Fr w w' := fun W hW => (ref_bytes (c := c) (hl.fr (Nat.le_refl _) hW) hW.size hn (by omega) wl).mono fun e w' ⟨h1, h2⟩ => ⟨h1, fr_step hW h2⟩
    generalize bytL l = q at *
    clear hl wl
    go_enter Try.func4, Try.ntmps4
    go_wp2_with (first
      | (go_at_call 17; refine cR.mono ?_; rintro e w1 ⟨⟨b, rfl, hb1⟩, hz1⟩)
      | fail)
    refine (cC _ hz1).mono ?_
    rintro e w2 ⟨⟨b2, rfl, hb2⟩, hz2⟩
    obtain rfl := bool_iff hb1 hb2
    clear hb1 hb2 cR
    cases b
    all_goals
      go_wp2_with (first
        | (go_at_call 18; refine (cB _ (by assumption)).mono ?_; rintro e w3 ⟨rfl, hz3⟩)
        | (go_at_call 19; refine (cD _ (by assumption)).mono ?_; rintro e w4 ⟨rfl, hz4⟩)
        | (go_at_call 31; refine (cA _ (by assumption)).mono ?_; rintro e w5 ⟨rfl, hz5⟩)
        | fail)
      go_ret
      exact ⟨rfl, hz5⟩
end Go.Proofs.Ytbfldfmghlknmaa
