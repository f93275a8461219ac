/- LeafRaw, walked. -/
import Derived.Test.YtbdioipjgjbgmaaLfQ
namespace Go.Proofs.Ytbdioipjgjbgmaa
set_option maxRecDepth 100000
open Go.RowKit
set_option linter.unusedVariables false
attribute [local go_sem ↓] key_ld ent_ld val_ld msg_ld
set_option maxHeartbeats 2000000 in
theorem leafRaw_core {w : World} {A : Option Addr} {n c : Nat} {l : List RE} (hn : l.length = n) (hc : n ≤ c) (wl : WfE l) (hl : Has w w.heap.size A (rows ec l)) :
    Calls Try.prog 8 #[.slice A n c] w fun e w' => e = .returned (.bool true) ∧ Below w.heap.size w w' := by
  have cA := fun W h => awake7_at (W0 := w) (W := W) h
  have hww := fr_refl w
  by_cases hb : 80 < n
  · have hbz : (80 : Int) < (n : Int) := by omega
    clear hl wl
    go_enter Try.func8, Try.ntmps8
    go_wp2_with (first
      | (go_at_call 51; refine (cA _ hww).mono ?_; rintro e w1 ⟨rfl, hz⟩)
      | fail)
    go_ret
    exact ⟨rfl, hz⟩
  · have hbz : ¬ (80 : Int) < (n : Int) := by omega
    have cR := ref_echeck (c := c) hl (Nat.le_refl _) hn (by omega) wl
    have cC : ∀ W, Fr w W → Calls Try.prog 45 #[.slice A n c] W fun e w' => (∃ b, e = .returned (.bool b) ∧ (b = true ↔ OkE l)) ∧ Fr w w' := fun W hW => (echeck_at (c := c) (hl.fr (Nat.le_refl _) hW) hW.size hn (by omega) wl).mono fun e w' ⟨h1, h2⟩ => ⟨h1, fr_step hW h2⟩
    have cB : OkE l → ∀ W, Fr w W → Calls Try.prog 46 #[.slice A n c] W fun e w' => e = .returned (.int .i64 (bytsE l)) ∧ Fr w w' := fun ol W hW => (ebytes_at (c := c) (hl.fr (Nat.le_refl _) hW) hW.size hn (by omega) wl ol.sm).mono fun e w' ⟨h1, h2⟩ => ⟨h1, fr_step hW h2⟩
    have cD : OkE l → ∀ W, Fr w W → Calls Try.prog 47 #[.slice A n c] W fun e w' => e = .returned (.int .i64 (bytsE l)) ∧ Fr w w' := fun ol W hW => (ref_ebytes (c := c) (hl.fr (Nat.le_refl _) hW) hW.size hn (by omega) wl ol.sm).mono fun e w' ⟨h1, h2⟩ => ⟨h1, fr_step hW h2⟩
    generalize bytsE l = q at *
    clear hl wl
    go_enter Try.func8, Try.ntmps8
    go_wp2_with (first
      | (go_at_call 52; refine cR.mono ?_; rintro e w1 ⟨⟨b, rfl, hb1⟩, hz1⟩)
      | fail)
    refine (cC _ hz1).mono ?_
    rintro e w2 ⟨⟨b2, rfl, hb2⟩, hz2⟩
    obtain rfl := bool_iff hb1 hb2
    clear hb2 cR
    cases b
    · clear hb1 cB cD
      go_wp2_with (first
        | (go_at_call 51; refine (cA _ (by assumption)).mono ?_; rintro e w5 ⟨rfl, hz5⟩)
        | fail)
      go_ret
      exact ⟨rfl, hz5⟩
    · have ol := hb1.1 rfl
      have cB := cB ol
      have cD := cD ol
      have Hol := keep ol
      clear hb1 ol
      go_wp2_with (first
        | (go_at_call 46; refine (cB _ (by assumption)).mono ?_; rintro e w3 ⟨rfl, hz3⟩)
        | (go_at_call 47; refine (cD _ (by assumption)).mono ?_; rintro e w4 ⟨rfl, hz4⟩)
        | (go_at_call 51; refine (cA _ (by assumption)).mono ?_; rintro e w5 ⟨rfl, hz5⟩)
        | fail)
      go_ret
      exact ⟨rfl, hz5⟩
end Go.Proofs.Ytbdioipjgjbgmaa
