/- The document's functions of nodes, given what the layers below tell; Same. -/
import Derived.Test.YtcdcaanmmbopbaaNodC
namespace Go.Proofs.Ytcdcaanmmbopbaa
set_option maxRecDepth 100000
open Go.RowKit
set_option linter.unusedVariables false
attribute [local go_sem] as_ll as_ii as_li as_il
section
variable {A1 : Option Addr} {n1 c1 : Nat} {A2 : Option Addr} {n2 c2 : Nat} {A3 : Option Addr} {n3 c3 : Nat} {A4 : Option Addr} {n4 c4 : Nat}
section
variable {B1 : Option Addr} {m1 d1 : Nat} {B2 : Option Addr} {m2 d2 : Nat} {B3 : Option Addr} {m3 d3 : Nat} {B4 : Option Addr} {m4 d4 : Nat}
/-- Same of two nodes, given what its four parts tell. -/
theorem nsame {w : World} {lf lf2 b1 b2 b3 b4 : Bool}
    (e1 : ∀ W, Fr w W → Calls Try.prog 46 #[.slice A1 n1 c1, .slice B1 m1 d1] W fun e w' => e = .returned (.bool b1) ∧ Fr W w')
    (e2 : ∀ W, Fr w W → Calls Try.prog 47 #[.slice A2 n2 c2, .slice B2 m2 d2] W fun e w' => e = .returned (.bool b2) ∧ Fr W w')
    (e3 : ∀ W, Fr w W → Calls Try.prog 48 #[.slice A3 n3 c3, .slice B3 m3 d3] W fun e w' => e = .returned (.bool b3) ∧ Fr W w')
    (e4 : ∀ W, Fr w W → Calls Try.prog 49 #[.slice A4 n4 c4, .slice B4 m4 d4] W fun e w' => e = .returned (.bool b4) ∧ Fr W w') :
    Calls Try.prog 21 #[.agg #[.bool lf, .slice A1 n1 c1, .slice A2 n2 c2, .slice A3 n3 c3, .slice A4 n4 c4], .agg #[.bool lf2, .slice B1 m1 d1, .slice B2 m2 d2, .slice B3 m3 d3, .slice B4 m4 d4]] w fun e w' => e = .returned (.bool (lf == lf2 && (b1 && (b2 && (b3 && b4))))) ∧ Fr w w' := by
  obtain ⟨Z, hZ, hF, hZZ, hG, hG2⟩ : ∃ Z, (w.alloc (.cells #[.bool lf, .slice A1 n1 c1, .slice A2 n2 c2, .slice A3 n3 c3, .slice A4 n4 c4] 27)).alloc (.cells #[.bool lf2, .slice B1 m1 d1, .slice B2 m2 d2, .slice B3 m3 d3, .slice B4 m4 d4] 27) = Z ∧ Fr w Z ∧ Fr Z Z ∧ Arr Z w.heap.size 27 #[.bool lf, .slice A1 n1 c1, .slice A2 n2 c2, .slice A3 n3 c3, .slice A4 n4 c4] ∧ Arr Z (w.heap.size + 1) 27 #[.bool lf2, .slice B1 m1 d1, .slice B2 m2 d2, .slice B3 m3 d3, .slice B4 m4 d4] :=
    ⟨_, rfl, fr_new (fr_new (fr_refl w) _) _, fr_refl _, (Arr.new w _ _).alloc _, by have := Arr.new (w.alloc (.cells #[.bool lf, .slice A1 n1 c1, .slice A2 n2 c2, .slice A3 n3 c3, .slice A4 n4 c4] 27)) #[.bool lf2, .slice B1 m1 d1, .slice B2 m2 d2, .slice B3 m3 d3, .slice B4 m4 d4] 27; simpa using this⟩
  have l0 : ∀ W, Fr Z W → W.cell? ⟨w.heap.size, 0, none⟩ = some (.bool lf) := fun W h => ((hG.below h hG.lt).cell 0)
  have k0 : ∀ W, Fr Z W → W.cell? ⟨w.heap.size + 1, 0, none⟩ = some (.bool lf2) := fun W h => ((hG2.below h hG2.lt).cell 0)
  have l1 : ∀ W, Fr Z W → W.cell? ⟨w.heap.size, 1, none⟩ = some (.slice A1 n1 c1) := fun W h => ((hG.below h hG.lt).cell 1)
  have k1 : ∀ W, Fr Z W → W.cell? ⟨w.heap.size + 1, 1, none⟩ = some (.slice B1 m1 d1) := fun W h => ((hG2.below h hG2.lt).cell 1)
  have l2 : ∀ W, Fr Z W → W.cell? ⟨w.heap.size, 2, none⟩ = some (.slice A2 n2 c2) := fun W h => ((hG.below h hG.lt).cell 2)
  have k2 : ∀ W, Fr Z W → W.cell? ⟨w.heap.size + 1, 2, none⟩ = some (.slice B2 m2 d2) := fun W h => ((hG2.below h hG2.lt).cell 2)
  have l3 : ∀ W, Fr Z W → W.cell? ⟨w.heap.size, 3, none⟩ = some (.slice A3 n3 c3) := fun W h => ((hG.below h hG.lt).cell 3)
  have k3 : ∀ W, Fr Z W → W.cell? ⟨w.heap.size + 1, 3, none⟩ = some (.slice B3 m3 d3) := fun W h => ((hG2.below h hG2.lt).cell 3)
  have l4 : ∀ W, Fr Z W → W.cell? ⟨w.heap.size, 4, none⟩ = some (.slice A4 n4 c4) := fun W h => ((hG.below h hG.lt).cell 4)
  have k4 : ∀ W, Fr Z W → W.cell? ⟨w.heap.size + 1, 4, none⟩ = some (.slice B4 m4 d4) := fun W h => ((hG2.below h hG2.lt).cell 4)
  replace e1 := fun W h => e1 W (fr_step hF h)
  replace e2 := fun W h => e2 W (fr_step hF h)
  replace e3 := fun W h => e3 W (fr_step hF h)
  replace e4 := fun W h => e4 W (fr_step hF h)
  clear hG hG2
  cases lf <;> cases lf2
  · go_enter Try.func21, Try.ntmps21
    go_wp2_with fail
    refine (e1 _ hZZ).mono ?_
    rintro e v1 ⟨rfl, f1⟩
    replace f1 := fr_step hZZ f1
    clear e1
    cases b1
    · go_wp2_with fail
      go_ret
      exact ⟨rfl, fr_step hF f1⟩
    · go_wp2_with fail
      refine (e2 _ f1).mono ?_
      rintro e v2 ⟨rfl, f2⟩
      replace f2 := fr_step f1 f2
      clear e2
      cases b2
      · go_wp2_with fail
        go_ret
        exact ⟨rfl, fr_step hF f2⟩
      · go_wp2_with fail
        refine (e3 _ f2).mono ?_
        rintro e v3 ⟨rfl, f3⟩
        replace f3 := fr_step f2 f3
        clear e3
        cases b3
        · go_wp2_with fail
          go_ret
          exact ⟨rfl, fr_step hF f3⟩
        · go_wp2_with fail
          refine (e4 _ f3).mono ?_
          rintro e v4 ⟨rfl, f4⟩
          replace f4 := fr_step f3 f4
          clear e4
          go_wp2_with fail
          go_ret
          exact ⟨by cases b4 <;> rfl, fr_step hF f4⟩
  · go_enter Try.func21, Try.ntmps21
    go_wp2_with fail
    go_ret
    exact ⟨rfl, hF⟩
  · go_enter Try.func21, Try.ntmps21
    go_wp2_with fail
    go_ret
    exact ⟨rfl, hF⟩
  · go_enter Try.func21, Try.ntmps21
    go_wp2_with fail
    refine (e1 _ hZZ).mono ?_
    rintro e v1 ⟨rfl, f1⟩
    replace f1 := fr_step hZZ f1
    clear e1
    cases b1
    · go_wp2_with fail
      go_ret
      exact ⟨rfl, fr_step hF f1⟩
    · go_wp2_with fail
      refine (e2 _ f1).mono ?_
      rintro e v2 ⟨rfl, f2⟩
      replace f2 := fr_step f1 f2
      clear e2
      cases b2
      · go_wp2_with fail
        go_ret
        exact ⟨rfl, fr_step hF f2⟩
      · go_wp2_with fail
        refine (e3 _ f2).mono ?_
        rintro e v3 ⟨rfl, f3⟩
        replace f3 := fr_step f2 f3
        clear e3
        cases b3
        · go_wp2_with fail
          go_ret
          exact ⟨rfl, fr_step hF f3⟩
        · go_wp2_with fail
          refine (e4 _ f3).mono ?_
          rintro e v4 ⟨rfl, f4⟩
          replace f4 := fr_step f3 f4
          clear e4
          go_wp2_with fail
          go_ret
          exact ⟨by cases b4 <;> rfl, fr_step hF f4⟩
/-- Same of two nodes, given what its four parts tell. -/
theorem rnsame {w : World} {lf lf2 b1 b2 b3 b4 : Bool}
    (e1 : ∀ W, Fr w W → Calls Try.prog 32 #[.slice A1 n1 c1, .slice B1 m1 d1] W fun e w' => e = .returned (.bool b1) ∧ Fr W w')
    (e2 : ∀ W, Fr w W → Calls Try.prog 50 #[.slice A2 n2 c2, .slice B2 m2 d2] W fun e w' => e = .returned (.bool b2) ∧ Fr W w')
    (e3 : ∀ W, Fr w W → Calls Try.prog 51 #[.slice A3 n3 c3, .slice B3 m3 d3] W fun e w' => e = .returned (.bool b3) ∧ Fr W w')
    (e4 : ∀ W, Fr w W → Calls Try.prog 52 #[.slice A4 n4 c4, .slice B4 m4 d4] W fun e w' => e = .returned (.bool b4) ∧ Fr W w') :
    Calls Try.prog 22 #[.agg #[.bool lf, .slice A1 n1 c1, .slice A2 n2 c2, .slice A3 n3 c3, .slice A4 n4 c4], .agg #[.bool lf2, .slice B1 m1 d1, .slice B2 m2 d2, .slice B3 m3 d3, .slice B4 m4 d4]] w fun e w' => e = .returned (.bool (lf == lf2 && (b1 && (b2 && (b3 && b4))))) ∧ Fr w w' := by
  obtain ⟨Z, hZ, hF, hZZ, hG, hG2⟩ : ∃ Z, (w.alloc (.cells #[.bool lf, .slice A1 n1 c1, .slice A2 n2 c2, .slice A3 n3 c3, .slice A4 n4 c4] 27)).alloc (.cells #[.bool lf2, .slice B1 m1 d1, .slice B2 m2 d2, .slice B3 m3 d3, .slice B4 m4 d4] 27) = Z ∧ Fr w Z ∧ Fr Z Z ∧ Arr Z w.heap.size 27 #[.bool lf, .slice A1 n1 c1, .slice A2 n2 c2, .slice A3 n3 c3, .slice A4 n4 c4] ∧ Arr Z (w.heap.size + 1) 27 #[.bool lf2, .slice B1 m1 d1, .slice B2 m2 d2, .slice B3 m3 d3, .slice B4 m4 d4] :=
    ⟨_, rfl, fr_new (fr_new (fr_refl w) _) _, fr_refl _, (Arr.new w _ _).alloc _, by have := Arr.new (w.alloc (.cells #[.bool lf, .slice A1 n1 c1, .slice A2 n2 c2, .slice A3 n3 c3, .slice A4 n4 c4] 27)) #[.bool lf2, .slice B1 m1 d1, .slice B2 m2 d2, .slice B3 m3 d3, .slice B4 m4 d4] 27; simpa using this⟩
  have l0 : ∀ W, Fr Z W → W.cell? ⟨w.heap.size, 0, none⟩ = some (.bool lf) := fun W h => ((hG.below h hG.lt).cell 0)
  have k0 : ∀ W, Fr Z W → W.cell? ⟨w.heap.size + 1, 0, none⟩ = some (.bool lf2) := fun W h => ((hG2.below h hG2.lt).cell 0)
  have l1 : ∀ W, Fr Z W → W.cell? ⟨w.heap.size, 1, none⟩ = some (.slice A1 n1 c1) := fun W h => ((hG.below h hG.lt).cell 1)
  have k1 : ∀ W, Fr Z W → W.cell? ⟨w.heap.size + 1, 1, none⟩ = some (.slice B1 m1 d1) := fun W h => ((hG2.below h hG2.lt).cell 1)
  have l2 : ∀ W, Fr Z W → W.cell? ⟨w.heap.size, 2, none⟩ = some (.slice A2 n2 c2) := fun W h => ((hG.below h hG.lt).cell 2)
  have k2 : ∀ W, Fr Z W → W.cell? ⟨w.heap.size + 1, 2, none⟩ = some (.slice B2 m2 d2) := fun W h => ((hG2.below h hG2.lt).cell 2)
  have l3 : ∀ W, Fr Z W → W.cell? ⟨w.heap.size, 3, none⟩ = some (.slice A3 n3 c3) := fun W h => ((hG.below h hG.lt).cell 3)
  have k3 : ∀ W, Fr Z W → W.cell? ⟨w.heap.size + 1, 3, none⟩ = some (.slice B3 m3 d3) := fun W h => ((hG2.below h hG2.lt).cell 3)
  have l4 : ∀ W, Fr Z W → W.cell? ⟨w.heap.size, 4, none⟩ = some (.slice A4 n4 c4) := fun W h => ((hG.below h hG.lt).cell 4)
  have k4 : ∀ W, Fr Z W → W.cell? ⟨w.heap.size + 1, 4, none⟩ = some (.slice B4 m4 d4) := fun W h => ((hG2.below h hG2.lt).cell 4)
  replace e1 := fun W h => e1 W (fr_step hF h)
  replace e2 := fun W h => e2 W (fr_step hF h)
  replace e3 := fun W h => e3 W (fr_step hF h)
  replace e4 := fun W h => e4 W (fr_step hF h)
  clear hG hG2
  cases lf <;> cases lf2
  · go_enter Try.func22, Try.ntmps22
    go_wp2_with fail
    refine (e1 _ hZZ).mono ?_
    rintro e v1 ⟨rfl, f1⟩
    replace f1 := fr_step hZZ f1
    clear e1
    cases b1
    · go_wp2_with fail
      go_ret
      exact ⟨rfl, fr_step hF f1⟩
    · go_wp2_with fail
      refine (e2 _ f1).mono ?_
      rintro e v2 ⟨rfl, f2⟩
      replace f2 := fr_step f1 f2
      clear e2
      cases b2
      · go_wp2_with fail
        go_ret
        exact ⟨rfl, fr_step hF f2⟩
      · go_wp2_with fail
        refine (e3 _ f2).mono ?_
        rintro e v3 ⟨rfl, f3⟩
        replace f3 := fr_step f2 f3
        clear e3
        cases b3
        · go_wp2_with fail
          go_ret
          exact ⟨rfl, fr_step hF f3⟩
        · go_wp2_with fail
          refine (e4 _ f3).mono ?_
          rintro e v4 ⟨rfl, f4⟩
          replace f4 := fr_step f3 f4
          clear e4
          go_wp2_with fail
          go_ret
          exact ⟨by cases b4 <;> rfl, fr_step hF f4⟩
  · go_enter Try.func22, Try.ntmps22
    go_wp2_with fail
    go_ret
    exact ⟨rfl, hF⟩
  · go_enter Try.func22, Try.ntmps22
    go_wp2_with fail
    go_ret
    exact ⟨rfl, hF⟩
  · go_enter Try.func22, Try.ntmps22
    go_wp2_with fail
    refine (e1 _ hZZ).mono ?_
    rintro e v1 ⟨rfl, f1⟩
    replace f1 := fr_step hZZ f1
    clear e1
    cases b1
    · go_wp2_with fail
      go_ret
      exact ⟨rfl, fr_step hF f1⟩
    · go_wp2_with fail
      refine (e2 _ f1).mono ?_
      rintro e v2 ⟨rfl, f2⟩
      replace f2 := fr_step f1 f2
      clear e2
      cases b2
      · go_wp2_with fail
        go_ret
        exact ⟨rfl, fr_step hF f2⟩
      · go_wp2_with fail
        refine (e3 _ f2).mono ?_
        rintro e v3 ⟨rfl, f3⟩
        replace f3 := fr_step f2 f3
        clear e3
        cases b3
        · go_wp2_with fail
          go_ret
          exact ⟨rfl, fr_step hF f3⟩
        · go_wp2_with fail
          refine (e4 _ f3).mono ?_
          rintro e v4 ⟨rfl, f4⟩
          replace f4 := fr_step f3 f4
          clear e4
          go_wp2_with fail
          go_ret
          exact ⟨by cases b4 <;> rfl, fr_step hF f4⟩
end
section
attribute [local go_sem ↓] nod_ld
theorem rcheck_leaf {w : World} {P Q : Prop} (hQ : Q ↔ n2 = 0 ∧ n3 = 0 ∧ n4 = 0 ∧ P)
    (cL : ∀ W, Fr w W → Calls Try.prog 53 #[.slice A1 n1 c1] W fun e w' => (∃ b, e = .returned (.bool b) ∧ (b = true ↔ P)) ∧ Fr W w') :
    Calls Try.prog 25 #[.agg #[.bool true, .slice A1 n1 c1, .slice A2 n2 c2, .slice A3 n3 c3, .slice A4 n4 c4]] w fun e w' => (∃ b, e = .returned (.bool b) ∧ (b = true ↔ Q)) ∧ Fr w w' := by
  obtain ⟨Z, hZ, hF, hZZ, hG⟩ : ∃ Z, w.alloc (.cells #[.bool true, .slice A1 n1 c1, .slice A2 n2 c2, .slice A3 n3 c3, .slice A4 n4 c4] 27) = Z ∧ Fr w Z ∧ Fr Z Z ∧ Arr Z w.heap.size 27 [.bool true, .slice A1 n1 c1, .slice A2 n2 c2, .slice A3 n3 c3, .slice A4 n4 c4].toArray := ⟨_, rfl, fr_new (fr_refl w) _, fr_refl _, Arr.new _ _ _⟩
  have l0 : ∀ W, Fr Z W → W.cell? ⟨w.heap.size, 0, none⟩ = some (.bool true) := fun W h => (hG.below h hG.lt).cell 0
  have l1 : ∀ W, Fr Z W → W.cell? ⟨w.heap.size, 1, none⟩ = some (.slice A1 n1 c1) := fun W h => (hG.below h hG.lt).cell 1
  have l2 : ∀ W, Fr Z W → W.cell? ⟨w.heap.size, 2, none⟩ = some (.slice A2 n2 c2) := fun W h => (hG.below h hG.lt).cell 2
  have l3 : ∀ W, Fr Z W → W.cell? ⟨w.heap.size, 3, none⟩ = some (.slice A3 n3 c3) := fun W h => (hG.below h hG.lt).cell 3
  have l4 : ∀ W, Fr Z W → W.cell? ⟨w.heap.size, 4, none⟩ = some (.slice A4 n4 c4) := fun W h => (hG.below h hG.lt).cell 4
  clear hG
  rcases Nat.eq_zero_or_pos n2 with e2 | p2
  · rcases Nat.eq_zero_or_pos n3 with e3 | p3
    · rcases Nat.eq_zero_or_pos n4 with e4 | p4
      · have H : Hid (P ↔ Q) := keep (by rw [hQ]; simp [e2, e3, e4])
        subst e2 e3 e4
        clear hQ
        go_enter Try.func25, Try.ntmps25
        go_wp2_with fail
        refine (cL _ (fr_step hF hZZ)).mono ?_
        rintro e v2 ⟨⟨b, rfl, hb⟩, f2⟩
        clear cL
        cases b
        · have H2 : Hid (¬ Q) := keep (fun h => by have := hb.2 (H.out.2 h); cases this)
          clear hb
          go_wp2_with fail
          go_ret
          exact ⟨⟨false, rfl, no_iff H2.out⟩, fr_step hF f2⟩
        · have H2 : Hid (Q) := keep (H.out.1 (hb.1 rfl))
          clear hb
          go_wp2_with fail
          go_ret
          exact ⟨⟨true, rfl, ⟨fun _ => H2.out, fun _ => rfl⟩⟩, fr_step hF f2⟩
      · have H : Hid (¬ Q) := keep (by rw [hQ]; omega)
        have q : ((n4 : Int) == 0) = false := by simp; omega
        subst e2 e3
        clear hQ
        go_enter Try.func25, Try.ntmps25
        go_wp2_with fail
        refine (cL _ (fr_step hF hZZ)).mono ?_
        rintro e v2 ⟨⟨b, rfl, hb⟩, f2⟩
        clear cL
        cases b
        · have H2 : Hid (¬ Q) := keep (H.out)
          clear hb
          go_wp2_with fail
          go_ret
          exact ⟨⟨false, rfl, no_iff H2.out⟩, fr_step hF f2⟩
        · have H2 : Hid (¬ Q) := keep (H.out)
          clear hb
          go_wp2_with fail
          go_ret
          exact ⟨⟨false, rfl, no_iff H2.out⟩, fr_step hF f2⟩
    · have H : Hid (¬ Q) := keep (by rw [hQ]; omega)
      have q : ((n3 : Int) == 0) = false := by simp; omega
      subst e2
      clear hQ
      go_enter Try.func25, Try.ntmps25
      go_wp2_with fail
      refine (cL _ (fr_step hF hZZ)).mono ?_
      rintro e v2 ⟨⟨b, rfl, hb⟩, f2⟩
      clear cL
      cases b
      · have H2 : Hid (¬ Q) := keep (H.out)
        clear hb
        go_wp2_with fail
        go_ret
        exact ⟨⟨false, rfl, no_iff H2.out⟩, fr_step hF f2⟩
      · have H2 : Hid (¬ Q) := keep (H.out)
        clear hb
        go_wp2_with fail
        go_ret
        exact ⟨⟨false, rfl, no_iff H2.out⟩, fr_step hF f2⟩
  · have H : Hid (¬ Q) := keep (by rw [hQ]; omega)
    have q : ((n2 : Int) == 0) = false := by simp; omega
    clear hQ
    go_enter Try.func25, Try.ntmps25
    go_wp2_with fail
    refine (cL _ (fr_step hF hZZ)).mono ?_
    rintro e v2 ⟨⟨b, rfl, hb⟩, f2⟩
    clear cL
    cases b
    · have H2 : Hid (¬ Q) := keep (H.out)
      clear hb
      go_wp2_with fail
      go_ret
      exact ⟨⟨false, rfl, no_iff H2.out⟩, fr_step hF f2⟩
    · have H2 : Hid (¬ Q) := keep (H.out)
      clear hb
      go_wp2_with fail
      go_ret
      exact ⟨⟨false, rfl, no_iff H2.out⟩, fr_step hF f2⟩
theorem rcheck_inner {w : World} {P R Q : Prop} (hQ : Q ↔ n1 = 0 ∧ P ∧ R)
    (cF : ∀ W, Fr w W → Calls Try.prog 54 #[.slice A2 n2 c2, .slice A3 n3 c3] W fun e w' => (∃ b, e = .returned (.bool b) ∧ (b = true ↔ P)) ∧ Fr W w')
    (cB : ∀ W, Fr w W → Calls Try.prog 55 #[.slice A4 n4 c4] W fun e w' => (∃ b, e = .returned (.bool b) ∧ (b = true ↔ R)) ∧ Fr W w') :
    Calls Try.prog 25 #[.agg #[.bool false, .slice A1 n1 c1, .slice A2 n2 c2, .slice A3 n3 c3, .slice A4 n4 c4]] w fun e w' => (∃ b, e = .returned (.bool b) ∧ (b = true ↔ Q)) ∧ Fr w w' := by
  obtain ⟨Z, hZ, hF, hZZ, hG⟩ : ∃ Z, w.alloc (.cells #[.bool false, .slice A1 n1 c1, .slice A2 n2 c2, .slice A3 n3 c3, .slice A4 n4 c4] 27) = Z ∧ Fr w Z ∧ Fr Z Z ∧ Arr Z w.heap.size 27 [.bool false, .slice A1 n1 c1, .slice A2 n2 c2, .slice A3 n3 c3, .slice A4 n4 c4].toArray := ⟨_, rfl, fr_new (fr_refl w) _, fr_refl _, Arr.new _ _ _⟩
  have l0 : ∀ W, Fr Z W → W.cell? ⟨w.heap.size, 0, none⟩ = some (.bool false) := fun W h => (hG.below h hG.lt).cell 0
  have l1 : ∀ W, Fr Z W → W.cell? ⟨w.heap.size, 1, none⟩ = some (.slice A1 n1 c1) := fun W h => (hG.below h hG.lt).cell 1
  have l2 : ∀ W, Fr Z W → W.cell? ⟨w.heap.size, 2, none⟩ = some (.slice A2 n2 c2) := fun W h => (hG.below h hG.lt).cell 2
  have l3 : ∀ W, Fr Z W → W.cell? ⟨w.heap.size, 3, none⟩ = some (.slice A3 n3 c3) := fun W h => (hG.below h hG.lt).cell 3
  have l4 : ∀ W, Fr Z W → W.cell? ⟨w.heap.size, 4, none⟩ = some (.slice A4 n4 c4) := fun W h => (hG.below h hG.lt).cell 4
  clear hG
  rcases Nat.eq_zero_or_pos n1 with e1 | p1
  · have H : Hid (Q ↔ P ∧ R) := keep (by rw [hQ]; simp [e1])
    subst e1
    clear hQ
    go_enter Try.func25, Try.ntmps25
    go_wp2_with fail
    refine (cF _ (fr_step hF hZZ)).mono ?_
    rintro e v2 ⟨⟨b, rfl, hb⟩, f2⟩
    clear cF
    cases b
    · have H2 : Hid (¬ Q) := keep (fun h => by have := hb.2 (H.out.1 h).1; cases this)
      clear hb
      go_wp2_with fail
      go_ret
      exact ⟨⟨false, rfl, no_iff H2.out⟩, fr_step hF f2⟩
    · have HP := keep (hb.1 rfl)
      clear hb
      go_wp2_with fail
      refine (cB _ (fr_step hF f2)).mono ?_
      rintro e v3 ⟨⟨b, rfl, hb⟩, f3⟩
      replace f3 := fr_step f2 f3
      go_wp2_with fail
      go_ret
      exact ⟨⟨b, rfl, hb.trans ⟨fun h => H.out.2 ⟨HP.out, h⟩, fun h => (H.out.1 h).2⟩⟩, fr_step hF f3⟩
  · have H : Hid (¬ Q) := keep (by rw [hQ]; omega)
    have q : ((n1 : Int) == 0) = false := by simp; omega
    clear hQ
    go_enter Try.func25, Try.ntmps25
    go_wp2_with fail
    go_ret
    exact ⟨⟨false, rfl, no_iff H.out⟩, hF⟩
theorem rbytes_leaf {w : World} {x : Int} (cL : ∀ W, Fr w W → Calls Try.prog 41 #[.slice A1 n1 c1] W fun e w' => e = .returned (.int .i64 x) ∧ Fr W w') :
    Calls Try.prog 14 #[.agg #[.bool true, .slice A1 n1 c1, .slice A2 n2 c2, .slice A3 n3 c3, .slice A4 n4 c4]] w fun e w' => e = .returned (.int .i64 x) ∧ Fr w w' := by
  obtain ⟨Z, hZ, hF, hZZ, hG⟩ : ∃ Z, w.alloc (.cells #[.bool true, .slice A1 n1 c1, .slice A2 n2 c2, .slice A3 n3 c3, .slice A4 n4 c4] 27) = Z ∧ Fr w Z ∧ Fr Z Z ∧ Arr Z w.heap.size 27 [.bool true, .slice A1 n1 c1, .slice A2 n2 c2, .slice A3 n3 c3, .slice A4 n4 c4].toArray := ⟨_, rfl, fr_new (fr_refl w) _, fr_refl _, Arr.new _ _ _⟩
  have l0 : ∀ W, Fr Z W → W.cell? ⟨w.heap.size, 0, none⟩ = some (.bool true) := fun W h => (hG.below h hG.lt).cell 0
  have l1 : ∀ W, Fr Z W → W.cell? ⟨w.heap.size, 1, none⟩ = some (.slice A1 n1 c1) := fun W h => (hG.below h hG.lt).cell 1
  have l2 : ∀ W, Fr Z W → W.cell? ⟨w.heap.size, 2, none⟩ = some (.slice A2 n2 c2) := fun W h => (hG.below h hG.lt).cell 2
  have l3 : ∀ W, Fr Z W → W.cell? ⟨w.heap.size, 3, none⟩ = some (.slice A3 n3 c3) := fun W h => (hG.below h hG.lt).cell 3
  have l4 : ∀ W, Fr Z W → W.cell? ⟨w.heap.size, 4, none⟩ = some (.slice A4 n4 c4) := fun W h => (hG.below h hG.lt).cell 4
  clear hG
  go_enter Try.func14, Try.ntmps14
  go_wp2_with fail
  refine (cL _ (fr_step hF hZZ)).mono ?_
  rintro e v2 ⟨rfl, f2⟩
  go_wp2_with fail
  go_ret
  exact ⟨rfl, fr_step hF f2⟩
theorem rbytes_inner {w : World} {x : Int} (cL : ∀ W, Fr w W → Calls Try.prog 27 #[.slice A4 n4 c4] W fun e w' => e = .returned (.int .i64 x) ∧ Fr W w') :
    Calls Try.prog 14 #[.agg #[.bool false, .slice A1 n1 c1, .slice A2 n2 c2, .slice A3 n3 c3, .slice A4 n4 c4]] w fun e w' => e = .returned (.int .i64 x) ∧ Fr w w' := by
  obtain ⟨Z, hZ, hF, hZZ, hG⟩ : ∃ Z, w.alloc (.cells #[.bool false, .slice A1 n1 c1, .slice A2 n2 c2, .slice A3 n3 c3, .slice A4 n4 c4] 27) = Z ∧ Fr w Z ∧ Fr Z Z ∧ Arr Z w.heap.size 27 [.bool false, .slice A1 n1 c1, .slice A2 n2 c2, .slice A3 n3 c3, .slice A4 n4 c4].toArray := ⟨_, rfl, fr_new (fr_refl w) _, fr_refl _, Arr.new _ _ _⟩
  have l0 : ∀ W, Fr Z W → W.cell? ⟨w.heap.size, 0, none⟩ = some (.bool false) := fun W h => (hG.below h hG.lt).cell 0
  have l1 : ∀ W, Fr Z W → W.cell? ⟨w.heap.size, 1, none⟩ = some (.slice A1 n1 c1) := fun W h => (hG.below h hG.lt).cell 1
  have l2 : ∀ W, Fr Z W → W.cell? ⟨w.heap.size, 2, none⟩ = some (.slice A2 n2 c2) := fun W h => (hG.below h hG.lt).cell 2
  have l3 : ∀ W, Fr Z W → W.cell? ⟨w.heap.size, 3, none⟩ = some (.slice A3 n3 c3) := fun W h => (hG.below h hG.lt).cell 3
  have l4 : ∀ W, Fr Z W → W.cell? ⟨w.heap.size, 4, none⟩ = some (.slice A4 n4 c4) := fun W h => (hG.below h hG.lt).cell 4
  clear hG
  go_enter Try.func14, Try.ntmps14
  go_wp2_with fail
  refine (cL _ (fr_step hF hZZ)).mono ?_
  rintro e v2 ⟨rfl, f2⟩
  go_wp2_with fail
  go_ret
  exact ⟨rfl, fr_step hF f2⟩
theorem rheavy_leaf {w : World} : Calls Try.prog 20 #[.agg #[.bool true, .slice A1 n1 c1, .slice A2 n2 c2, .slice A3 n3 c3, .slice A4 n4 c4]] w fun e w' => e = .returned (.bool false) ∧ Fr w w' := by
  obtain ⟨Z, hZ, hF, hZZ, hG⟩ : ∃ Z, w.alloc (.cells #[.bool true, .slice A1 n1 c1, .slice A2 n2 c2, .slice A3 n3 c3, .slice A4 n4 c4] 27) = Z ∧ Fr w Z ∧ Fr Z Z ∧ Arr Z w.heap.size 27 [.bool true, .slice A1 n1 c1, .slice A2 n2 c2, .slice A3 n3 c3, .slice A4 n4 c4].toArray := ⟨_, rfl, fr_new (fr_refl w) _, fr_refl _, Arr.new _ _ _⟩
  have l0 : ∀ W, Fr Z W → W.cell? ⟨w.heap.size, 0, none⟩ = some (.bool true) := fun W h => (hG.below h hG.lt).cell 0
  have l1 : ∀ W, Fr Z W → W.cell? ⟨w.heap.size, 1, none⟩ = some (.slice A1 n1 c1) := fun W h => (hG.below h hG.lt).cell 1
  have l2 : ∀ W, Fr Z W → W.cell? ⟨w.heap.size, 2, none⟩ = some (.slice A2 n2 c2) := fun W h => (hG.below h hG.lt).cell 2
  have l3 : ∀ W, Fr Z W → W.cell? ⟨w.heap.size, 3, none⟩ = some (.slice A3 n3 c3) := fun W h => (hG.below h hG.lt).cell 3
  have l4 : ∀ W, Fr Z W → W.cell? ⟨w.heap.size, 4, none⟩ = some (.slice A4 n4 c4) := fun W h => (hG.below h hG.lt).cell 4
  clear hG
  go_enter Try.func20, Try.ntmps20
  go_wp2_with fail
  go_ret
  exact ⟨rfl, hF⟩
theorem rheavy_inner {w : World} {x : Int} (hx : 0 ≤ x ∧ x ≤ 4000000)
    (cL : ∀ W, Fr w W → Calls Try.prog 14 #[.agg #[.bool false, .slice A1 n1 c1, .slice A2 n2 c2, .slice A3 n3 c3, .slice A4 n4 c4]] W fun e w' => e = .returned (.int .i64 x) ∧ Fr W w') :
    Calls Try.prog 20 #[.agg #[.bool false, .slice A1 n1 c1, .slice A2 n2 c2, .slice A3 n3 c3, .slice A4 n4 c4]] w fun e w' => e = .returned (.bool (decide (205 ≤ 2 * x))) ∧ Fr w w' := by
  obtain ⟨Z, hZ, hF, hZZ, hG⟩ : ∃ Z, w.alloc (.cells #[.bool false, .slice A1 n1 c1, .slice A2 n2 c2, .slice A3 n3 c3, .slice A4 n4 c4] 27) = Z ∧ Fr w Z ∧ Fr Z Z ∧ Arr Z w.heap.size 27 [.bool false, .slice A1 n1 c1, .slice A2 n2 c2, .slice A3 n3 c3, .slice A4 n4 c4].toArray := ⟨_, rfl, fr_new (fr_refl w) _, fr_refl _, Arr.new _ _ _⟩
  have l0 : ∀ W, Fr Z W → W.cell? ⟨w.heap.size, 0, none⟩ = some (.bool false) := fun W h => (hG.below h hG.lt).cell 0
  have l1 : ∀ W, Fr Z W → W.cell? ⟨w.heap.size, 1, none⟩ = some (.slice A1 n1 c1) := fun W h => (hG.below h hG.lt).cell 1
  have l2 : ∀ W, Fr Z W → W.cell? ⟨w.heap.size, 2, none⟩ = some (.slice A2 n2 c2) := fun W h => (hG.below h hG.lt).cell 2
  have l3 : ∀ W, Fr Z W → W.cell? ⟨w.heap.size, 3, none⟩ = some (.slice A3 n3 c3) := fun W h => (hG.below h hG.lt).cell 3
  have l4 : ∀ W, Fr Z W → W.cell? ⟨w.heap.size, 4, none⟩ = some (.slice A4 n4 c4) := fun W h => (hG.below h hG.lt).cell 4
  have lN : ∀ W, Fr Z W → (ldS 27 (.pointer (some ⟨w.heap.size, 0, none⟩))).run Try.prog W = .ok (.agg #[.bool false, .slice A1 n1 c1, .slice A2 n2 c2, .slice A3 n3 c3, .slice A4 n4 c4]) W := fun W h => nodS.ld rfl (hG.below h hG.lt)
  clear hG
  have hw64 : IntKind.i64.wrap (2 * x) = 2 * x := by rw [IntKind.wrap_i64]; omega
  clear hx
  go_enter Try.func20, Try.ntmps20
  go_wp2_with fail
  refine (cL _ (fr_step hF hZZ)).mono ?_
  rintro e v2 ⟨rfl, f2⟩
  go_wp2_with fail
  go_ret
  exact ⟨rfl, fr_step hF f2⟩
theorem rfits_leaf {w : World} {P Q : Prop} {x : Int} (hQ : Q ↔ P ∧ x ≤ 248)
    (cC : ∀ W, Fr w W → Calls Try.prog 25 #[.agg #[.bool true, .slice A1 n1 c1, .slice A2 n2 c2, .slice A3 n3 c3, .slice A4 n4 c4]] W fun e w' => (∃ b, e = .returned (.bool b) ∧ (b = true ↔ P)) ∧ Fr W w')
    (cB : P → ∀ W, Fr w W → Calls Try.prog 14 #[.agg #[.bool true, .slice A1 n1 c1, .slice A2 n2 c2, .slice A3 n3 c3, .slice A4 n4 c4]] W fun e w' => e = .returned (.int .i64 x) ∧ Fr W w') :
    Calls Try.prog 26 #[.agg #[.bool true, .slice A1 n1 c1, .slice A2 n2 c2, .slice A3 n3 c3, .slice A4 n4 c4]] w fun e w' => (∃ b, e = .returned (.bool b) ∧ (b = true ↔ Q)) ∧ Fr w w' := by
  obtain ⟨Z, hZ, hF, hZZ, hG⟩ : ∃ Z, w.alloc (.cells #[.bool true, .slice A1 n1 c1, .slice A2 n2 c2, .slice A3 n3 c3, .slice A4 n4 c4] 27) = Z ∧ Fr w Z ∧ Fr Z Z ∧ Arr Z w.heap.size 27 [.bool true, .slice A1 n1 c1, .slice A2 n2 c2, .slice A3 n3 c3, .slice A4 n4 c4].toArray := ⟨_, rfl, fr_new (fr_refl w) _, fr_refl _, Arr.new _ _ _⟩
  have l0 : ∀ W, Fr Z W → W.cell? ⟨w.heap.size, 0, none⟩ = some (.bool true) := fun W h => (hG.below h hG.lt).cell 0
  have l1 : ∀ W, Fr Z W → W.cell? ⟨w.heap.size, 1, none⟩ = some (.slice A1 n1 c1) := fun W h => (hG.below h hG.lt).cell 1
  have l2 : ∀ W, Fr Z W → W.cell? ⟨w.heap.size, 2, none⟩ = some (.slice A2 n2 c2) := fun W h => (hG.below h hG.lt).cell 2
  have l3 : ∀ W, Fr Z W → W.cell? ⟨w.heap.size, 3, none⟩ = some (.slice A3 n3 c3) := fun W h => (hG.below h hG.lt).cell 3
  have l4 : ∀ W, Fr Z W → W.cell? ⟨w.heap.size, 4, none⟩ = some (.slice A4 n4 c4) := fun W h => (hG.below h hG.lt).cell 4
  have lN : ∀ W, Fr Z W → (ldS 27 (.pointer (some ⟨w.heap.size, 0, none⟩))).run Try.prog W = .ok (.agg #[.bool true, .slice A1 n1 c1, .slice A2 n2 c2, .slice A3 n3 c3, .slice A4 n4 c4]) W := fun W h => nodS.ld rfl (hG.below h hG.lt)
  clear hG
  go_enter Try.func26, Try.ntmps26
  go_wp2_with fail
  refine (cC _ (fr_step hF hZZ)).mono ?_
  rintro e v2 ⟨⟨b, rfl, hb⟩, f2⟩
  clear cC
  cases b
  · have H2 : Hid (¬ Q) := keep (fun h => by have := hb.2 (hQ.1 h).1; cases this)
    clear hb hQ
    go_wp2_with fail
    go_ret
    exact ⟨⟨false, rfl, no_iff H2.out⟩, fr_step hF f2⟩
  · have HP := hb.1 rfl
    replace cB := cB HP _ (fr_step hF f2)
    by_cases hx : x ≤ 248
    · have H2 : Hid Q := keep (hQ.2 ⟨HP, hx⟩)
      clear hb hQ HP
      go_wp2_with fail
      refine cB.mono ?_
      rintro e v3 ⟨rfl, f3⟩
      replace f3 := fr_step f2 f3
      go_wp2_with fail
      go_ret
      exact ⟨⟨true, rfl, ⟨fun _ => H2.out, fun _ => rfl⟩⟩, fr_step hF f3⟩
    · have H2 : Hid (¬ Q) := keep (fun h => hx (hQ.1 h).2)
      clear hb hQ HP
      go_wp2_with fail
      refine cB.mono ?_
      rintro e v3 ⟨rfl, f3⟩
      replace f3 := fr_step f2 f3
      go_wp2_with fail
      go_ret
      exact ⟨⟨_, rfl, ⟨fun h => absurd (of_decide_eq_true h) (Int.not_le.2 hx), fun h => absurd h H2.out⟩⟩, fr_step hF f3⟩
theorem rfits_inner {w : World} {P Q : Prop} {x : Int} (hQ : Q ↔ P ∧ x ≤ 205)
    (cC : ∀ W, Fr w W → Calls Try.prog 25 #[.agg #[.bool false, .slice A1 n1 c1, .slice A2 n2 c2, .slice A3 n3 c3, .slice A4 n4 c4]] W fun e w' => (∃ b, e = .returned (.bool b) ∧ (b = true ↔ P)) ∧ Fr W w')
    (cB : P → ∀ W, Fr w W → Calls Try.prog 14 #[.agg #[.bool false, .slice A1 n1 c1, .slice A2 n2 c2, .slice A3 n3 c3, .slice A4 n4 c4]] W fun e w' => e = .returned (.int .i64 x) ∧ Fr W w') :
    Calls Try.prog 26 #[.agg #[.bool false, .slice A1 n1 c1, .slice A2 n2 c2, .slice A3 n3 c3, .slice A4 n4 c4]] w fun e w' => (∃ b, e = .returned (.bool b) ∧ (b = true ↔ Q)) ∧ Fr w w' := by
  obtain ⟨Z, hZ, hF, hZZ, hG⟩ : ∃ Z, w.alloc (.cells #[.bool false, .slice A1 n1 c1, .slice A2 n2 c2, .slice A3 n3 c3, .slice A4 n4 c4] 27) = Z ∧ Fr w Z ∧ Fr Z Z ∧ Arr Z w.heap.size 27 [.bool false, .slice A1 n1 c1, .slice A2 n2 c2, .slice A3 n3 c3, .slice A4 n4 c4].toArray := ⟨_, rfl, fr_new (fr_refl w) _, fr_refl _, Arr.new _ _ _⟩
  have l0 : ∀ W, Fr Z W → W.cell? ⟨w.heap.size, 0, none⟩ = some (.bool false) := fun W h => (hG.below h hG.lt).cell 0
  have l1 : ∀ W, Fr Z W → W.cell? ⟨w.heap.size, 1, none⟩ = some (.slice A1 n1 c1) := fun W h => (hG.below h hG.lt).cell 1
  have l2 : ∀ W, Fr Z W → W.cell? ⟨w.heap.size, 2, none⟩ = some (.slice A2 n2 c2) := fun W h => (hG.below h hG.lt).cell 2
  have l3 : ∀ W, Fr Z W → W.cell? ⟨w.heap.size, 3, none⟩ = some (.slice A3 n3 c3) := fun W h => (hG.below h hG.lt).cell 3
  have l4 : ∀ W, Fr Z W → W.cell? ⟨w.heap.size, 4, none⟩ = some (.slice A4 n4 c4) := fun W h => (hG.below h hG.lt).cell 4
  have lN : ∀ W, Fr Z W → (ldS 27 (.pointer (some ⟨w.heap.size, 0, none⟩))).run Try.prog W = .ok (.agg #[.bool false, .slice A1 n1 c1, .slice A2 n2 c2, .slice A3 n3 c3, .slice A4 n4 c4]) W := fun W h => nodS.ld rfl (hG.below h hG.lt)
  clear hG
  go_enter Try.func26, Try.ntmps26
  go_wp2_with fail
  refine (cC _ (fr_step hF hZZ)).mono ?_
  rintro e v2 ⟨⟨b, rfl, hb⟩, f2⟩
  clear cC
  cases b
  · have H2 : Hid (¬ Q) := keep (fun h => by have := hb.2 (hQ.1 h).1; cases this)
    clear hb hQ
    go_wp2_with fail
    go_ret
    exact ⟨⟨false, rfl, no_iff H2.out⟩, fr_step hF f2⟩
  · have HP := hb.1 rfl
    replace cB := cB HP _ (fr_step hF f2)
    by_cases hx : x ≤ 205
    · have H2 : Hid Q := keep (hQ.2 ⟨HP, hx⟩)
      clear hb hQ HP
      go_wp2_with fail
      refine cB.mono ?_
      rintro e v3 ⟨rfl, f3⟩
      replace f3 := fr_step f2 f3
      go_wp2_with fail
      go_ret
      exact ⟨⟨true, rfl, ⟨fun _ => H2.out, fun _ => rfl⟩⟩, fr_step hF f3⟩
    · have H2 : Hid (¬ Q) := keep (fun h => hx (hQ.1 h).2)
      clear hb hQ HP
      go_wp2_with fail
      refine cB.mono ?_
      rintro e v3 ⟨rfl, f3⟩
      replace f3 := fr_step f2 f3
      go_wp2_with fail
      go_ret
      exact ⟨⟨_, rfl, ⟨fun h => absurd (of_decide_eq_true h) (Int.not_le.2 hx), fun h => absurd h H2.out⟩⟩, fr_step hF f3⟩
/-- The reference's Weights at a leaf. -/
theorem rweights_leaf {w : World} : Calls Try.prog 12 #[.agg #[.bool true, .slice A1 n1 c1, .slice A2 n2 c2, .slice A3 n3 c3, .slice A4 n4 c4]] w fun e w' => e = .returned (.slice none 0 0) ∧ Fr w w' := by
  obtain ⟨Z, hZ, hF, hZZ, hG⟩ : ∃ Z, w.alloc (.cells #[.bool true, .slice A1 n1 c1, .slice A2 n2 c2, .slice A3 n3 c3, .slice A4 n4 c4] 27) = Z ∧ Fr w Z ∧ Fr Z Z ∧ Arr Z w.heap.size 27 [.bool true, .slice A1 n1 c1, .slice A2 n2 c2, .slice A3 n3 c3, .slice A4 n4 c4].toArray := ⟨_, rfl, fr_new (fr_refl w) _, fr_refl _, Arr.new _ _ _⟩
  have l0 : ∀ W, Fr Z W → W.cell? ⟨w.heap.size, 0, none⟩ = some (.bool true) := fun W h => (hG.below h hG.lt).cell 0
  have l2 : ∀ W, Fr Z W → W.cell? ⟨w.heap.size, 2, none⟩ = some (.slice A2 n2 c2) := fun W h => (hG.below h hG.lt).cell 2
  clear hG
  go_enter Try.func12, Try.ntmps12
  go_wp2_with fail
  go_loopg [3, 4] 1 (fun g s3 s4 wr => s3 = .slice none 0 0 ∧ s4 = .int .i64 0 ∧ Hid (Fr Z wr))
  case atStart => exact ⟨rfl, rfl, keep hZZ⟩
  case round =>
    obtain ⟨rfl, rfl, hW⟩ := hrel
    have hWW := hW.out
    by_cases hn : 0 < n2
    · have hnz : (0 : Int) < (n2 : Int) := by omega
      go_wp2_with fail
      go_ret
      exact ⟨rfl, fr_step hF hWW⟩
    · have hnz : ¬ (0 : Int) < (n2 : Int) := by omega
      go_wp2_with fail
      go_ret
      exact ⟨rfl, fr_step hF hWW⟩
/-- The reference's Weights at an inner node, given what Part and Bytes tell. -/
theorem rweights_inner {w : World} {wt : Nat → Int} (hn : n2 ≤ 100000)
    (cP : ∀ W (i : Nat), i < n2 → Fr w W → Calls Try.prog 39 #[.slice A4 n4 c4, .slice A3 n3 c3, .int .i64 i] W fun e w' => (∃ A n c, e = .returned (.slice A n c) ∧ (∀ W', Fr w' W' → Calls Try.prog 27 #[.slice A n c] W' fun e w'' => e = .returned (.int .i64 (wt i)) ∧ Fr W' w'')) ∧ Fr W w') :
    Calls Try.prog 12 #[.agg #[.bool false, .slice A1 n1 c1, .slice A2 n2 c2, .slice A3 n3 c3, .slice A4 n4 c4]] w fun e w' => ∃ A c, e = .returned (.slice A n2 c) ∧ Hid (Has w' w'.heap.size A (ints ((List.range n2).map wt))) ∧ Fr w w' := by
  obtain ⟨Z, hZ, hF, hZZ, hG⟩ : ∃ Z, w.alloc (.cells #[.bool false, .slice A1 n1 c1, .slice A2 n2 c2, .slice A3 n3 c3, .slice A4 n4 c4] 27) = Z ∧ Fr w Z ∧ Fr Z Z ∧ Arr Z w.heap.size 27 [.bool false, .slice A1 n1 c1, .slice A2 n2 c2, .slice A3 n3 c3, .slice A4 n4 c4].toArray := ⟨_, rfl, fr_new (fr_refl w) _, fr_refl _, Arr.new _ _ _⟩
  have l0 : ∀ W, Fr Z W → W.cell? ⟨w.heap.size, 0, none⟩ = some (.bool false) := fun W h => (hG.below h hG.lt).cell 0
  have l2 : ∀ W, Fr Z W → W.cell? ⟨w.heap.size, 2, none⟩ = some (.slice A2 n2 c2) := fun W h => (hG.below h hG.lt).cell 2
  have l3 : ∀ W, Fr Z W → W.cell? ⟨w.heap.size, 3, none⟩ = some (.slice A3 n3 c3) := fun W h => (hG.below h hG.lt).cell 3
  have l4 : ∀ W, Fr Z W → W.cell? ⟨w.heap.size, 4, none⟩ = some (.slice A4 n4 c4) := fun W h => (hG.below h hG.lt).cell 4
  have HP := keep cP
  have hst : Hid (∀ j, j < n2 → (((List.range n2).map wt).take (j + 1)) = (((List.range n2).map wt).take j) ++ [wt j]) := keep (fun j hj => take_one (by simp [hj]))
  have hlen : Hid (((List.range n2).map wt).length = n2) := keep (by simp)
  generalize (List.range n2).map wt = wl at *
  clear hG cP
  go_enter Try.func12, Try.ntmps12
  go_wp2_with fail
  go_loopg [3, 4] n2 (fun g s3 s4 wr => ∃ (j : Nat) (A : Option Addr) (c : Nat), j + g = n2 ∧ s3 = .slice A j c ∧ s4 = .int .i64 j ∧ Hid (Own wr Z.heap.size 3 1 A j c (ints (wl.take j))) ∧ Hid (Fr Z wr))
  case atStart => exact ⟨0, none, 0, by omega, rfl, rfl, keep (by rw [List.take_zero]; exact Own.nil _ _ _ _), keep hZZ⟩
  case round =>
    obtain ⟨j, A, c, hj, rfl, rfl, hO, hW⟩ := hrel
    have hWW := hW.out
    by_cases hlt : j < n2
    · have hjz : (j : Int) < (n2 : Int) := by omega
      have cP1 := HP.out wr j hlt (fr_step hF hW.out)
      have Hlt := keep hlt
      have Hj := keep hj
      have Hs := keep (hst.out j hlt)
      clear hlt hj
      go_wp2_with fail
      refine cP1.mono ?_
      rintro e v2 ⟨⟨A2', n, c2', rfl, cB⟩, f2⟩
      go_wp2_with fail
      refine (cB _ (fr_refl _)).mono ?_
      rintro e v3 ⟨rfl, f3⟩
      have f23 := fr_step f2 f3
      have hO3 := keep (Own.below hO.out f23 (Nat.le_refl _))
      have f33 := fr_step hW.out f23
      clear cB cP1 f2 f3 f23
      have tok : Hid (0 < 1) := keep (by decide)
      go_wp2_with (first
        | (clear tok; refine wpList_append_vals (w0 := Z) int_elem ints_und (by decide) rfl (.tmp 17) (.tmp 25) rfl (fr_new f33 _) A j c (ints (wl.take j)) rfl (hO3.out.alloc _) (v3.heap.size + 1) (some ⟨v3.heap.size, 0, none⟩) 1 1 (ints [wt j]) rfl rfl (has_one v3 _ _) (ints_one _) (by have := Hlt.out; unfold maxLen; omega) (by have := Hlt.out; omega) ?_; intro A5 c5 w1 o1 f1)
        | fail)
      go_roundg (gk - 1)
      case measure => have := Hj.out; omega
      case rel => exact ⟨j + 1, A5, c5, by have := Hj.out; omega, rfl, by go_num, keep (by rw [Hs.out, ints_app]; exact o1), keep f1⟩
    · obtain rfl : j = n2 := by omega
      have hR := keep hO.out.has
      rw [List.take_of_length_le (by rw [hlen.out]; exact Nat.le_refl _)] at hR
      go_wp2_with fail
      go_ret
      exact ⟨_, _, rfl, hR, fr_step hF hWW⟩
/-- The reference's Heaviest, given the weights. -/
theorem rheaviest {w : World} {m : Nat} {wl : List Int} {lf : Bool} (hm : wl.length = m) (hs : m ≤ 100000)
    (cW : ∀ W, Fr w W → Calls Try.prog 12 #[.agg #[.bool lf, .slice A1 n1 c1, .slice A2 n2 c2, .slice A3 n3 c3, .slice A4 n4 c4]] W fun e w' => ∃ A c, e = .returned (.slice A m c) ∧ Hid (Has w' w'.heap.size A (ints wl)) ∧ Fr W w') :
    Calls Try.prog 18 #[.agg #[.bool lf, .slice A1 n1 c1, .slice A2 n2 c2, .slice A3 n3 c3, .slice A4 n4 c4]] w fun e w' => (∃ f x, e = .returned (.int .i64 f) ∧ TopI wl m f x) ∧ Fr w w' := by
  obtain ⟨Z, hZ, hF, hZZ, hG⟩ : ∃ Z, w.alloc (.cells #[.bool lf, .slice A1 n1 c1, .slice A2 n2 c2, .slice A3 n3 c3, .slice A4 n4 c4] 27) = Z ∧ Fr w Z ∧ Fr Z Z ∧ Arr Z w.heap.size 27 [.bool lf, .slice A1 n1 c1, .slice A2 n2 c2, .slice A3 n3 c3, .slice A4 n4 c4].toArray := ⟨_, rfl, fr_new (fr_refl w) _, fr_refl _, Arr.new _ _ _⟩
  have lN : ∀ W, Fr Z W → (ldS 27 (.pointer (some ⟨w.heap.size, 0, none⟩))).run Try.prog W = .ok (.agg #[.bool lf, .slice A1 n1 c1, .slice A2 n2 c2, .slice A3 n3 c3, .slice A4 n4 c4]) W := fun W h => nodS.ld rfl (hG.below h hG.lt)
  have Hm := keep hm
  clear hm hG
  go_enter Try.func18, Try.ntmps18
  go_wp2_with fail
  refine (cW _ (fr_step hF hZZ)).mono ?_
  rintro e v1 ⟨A, c, rfl, hA, f1⟩
  replace f1 := keep (fr_step hF f1)
  have vv := fr_refl v1
  clear cW lN hZZ hF
  go_wp2_with fail
  go_loopg [4, 5] m (fun g s4 s5 wr => ∃ (j : Nat) (f x : Int), j + g = m ∧ s5 = .int .i64 j ∧ s4 = .int .i64 f ∧ Hid (TopI wl j f x) ∧ Hid (Fr v1 wr))
  case atStart => exact ⟨0, -1, 0, by omega, rfl, rfl, keep (topI_zero _), keep vv⟩
  case round =>
    obtain ⟨j, f, x, hj, rfl, rfl, hT, hF⟩ := hrel
    by_cases hlt : j < m
    · have hjz : (j : Int) < (m : Int) := by omega
      have hy : wl[j]? = some (wl[j]'(by rw [Hm.out]; exact hlt)) := List.getElem?_eq_getElem _
      generalize wl[j]'(by rw [Hm.out]; exact hlt) = y at hy
      have Hy := keep hy
      have hrow := hA.out
      obtain ⟨b, off, rfl, hb, hc⟩ := hrow j _ (ints_get hy)
      have cJ : ∀ W, Fr v1 W → W.cell? ⟨b, off + j, none⟩ = some (.int .i64 y) := fun W h => (h.cell hb).trans hc
      have Hj := keep hj
      have hD := fr_drew hF.out
      clear hlt hj hy
      by_cases hxy : x < y
      · have HS := keep (topI_up hT.out Hy.out hxy)
        have hy0 : 0 < y := by have := hT.out.nn; omega
        by_cases hf : f < 0
        · clear hxy
          go_wp2_with fail
          refine wp_region_noPanic ?_
          refine wp_region_held_drew (S := fun w' => Fr v1 w') (by kernel_rfl) hD (fun hHeld => ?_)
          change wpAnyH _ _ _ _ _ _ _ _ _
          refine wpAnyH_take (i := 0) (v := ?_) rfl (by kernel_rfl) (by kernel_rfl) (by kernel_rfl) (fun _ _ _ h => h) (Or.inl ⟨by rfl, ?_⟩) (by assumption) ?_
          rotate_left
          · intro w' hSw
            try dsimp only at hSw
            go_simp
            try with_reducible rfl
          try simp only [List.getElem_toArray, List.getElem_cons_zero, Act.put, List.setIfInBounds_toArray, List.set_cons_zero, List.set_cons_succ]
          refine wpAnyH_take (i := 1) (v := ?_) rfl (by kernel_rfl) (by kernel_rfl) (by kernel_rfl) (fun _ _ _ h => h) (Or.inl ⟨by rfl, ?_⟩) (by assumption) ?_
          rotate_left
          · intro w' hSw
            try dsimp only at hSw
            go_simp
            try with_reducible rfl
          try simp only [List.getElem_toArray, List.getElem_cons_succ, List.getElem_cons_zero, Act.put, List.setIfInBounds_toArray, List.set_cons_zero, List.set_cons_succ]
          refine wpAnyH_take (i := 2) (v := ?_) rfl (by kernel_rfl) (by kernel_rfl) (by kernel_rfl) (fun _ _ _ h => h) (Or.inl ⟨by rfl, ?_⟩) (by assumption) ?_
          rotate_left
          · intro w' hSw
            try dsimp only at hSw
            go_simp
            try with_reducible rfl
          try simp only [List.getElem_toArray, List.getElem_cons_succ, List.getElem_cons_zero, Act.put, List.setIfInBounds_toArray, List.set_cons_zero, List.set_cons_succ]
          refine wpAnyH_take (i := 3) (v := ?_) rfl (by kernel_rfl) (by kernel_rfl) (by kernel_rfl) (fun _ _ _ h => h) (Or.inl ⟨by rfl, ?_⟩) (by assumption) ?_
          rotate_left
          · intro w' hSw
            try dsimp only at hSw
            go_simp
            try with_reducible rfl
          try simp only [List.getElem_toArray, List.getElem_cons_succ, List.getElem_cons_zero, Act.put, List.setIfInBounds_toArray, List.set_cons_zero, List.set_cons_succ]
          refine wpAnyH_take (i := 4) (v := .bool true) rfl (by kernel_rfl) (by kernel_rfl) (by kernel_rfl) (fun _ _ _ h => h) (Or.inl ⟨by rfl, ?_⟩) (by assumption) ?_
          · intro w' hSw
            try dsimp only at hSw
            try go_simp
            all_goals first | done | with_reducible rfl | omega | assumption | (simp; omega)
          try simp only [List.getElem_toArray, List.getElem_cons_succ, List.getElem_cons_zero, Act.put, List.setIfInBounds_toArray, List.set_cons_zero, List.set_cons_succ]
          refine wpAnyH_take (i := 5) (v := .bool true) rfl (by kernel_rfl) (by kernel_rfl) (by kernel_rfl) (fun _ _ _ h => h) (Or.inl ⟨by rfl, ?_⟩) (by assumption) ?_
          · intro w' hSw
            try dsimp only at hSw
            try go_simp
            all_goals first | done | with_reducible rfl | omega | assumption | (simp; omega)
          try simp only [List.getElem_toArray, List.getElem_cons_succ, List.getElem_cons_zero, Act.put, List.setIfInBounds_toArray, List.set_cons_zero, List.set_cons_succ]
          refine wpAnyH_take (i := 6) (v := ?_) rfl (by kernel_rfl) (by kernel_rfl) (by kernel_rfl) (fun _ _ _ h => h) (Or.inl ⟨by rfl, ?_⟩) (by assumption) ?_
          rotate_left
          · intro w' hSw
            try dsimp only at hSw
            go_simp
            try with_reducible rfl
          try simp only [List.getElem_toArray, List.getElem_cons_succ, List.getElem_cons_zero, Act.put, List.setIfInBounds_toArray, List.set_cons_zero, List.set_cons_succ]
          refine wpAnyH_take (i := 7) (v := .bool true) rfl (by kernel_rfl) (by kernel_rfl) (by kernel_rfl) (fun _ _ _ h => h) (Or.inl ⟨by rfl, ?_⟩) (by assumption) ?_
          · intro w' hSw
            try dsimp only at hSw
            try go_simp
            all_goals first | done | with_reducible rfl | omega | assumption | (simp; omega)
          try simp only [List.getElem_toArray, List.getElem_cons_succ, List.getElem_cons_zero, Act.put, List.setIfInBounds_toArray, List.set_cons_zero, List.set_cons_succ]
          refine wpAnyH_take (i := 8) (v := .bool true) rfl (by kernel_rfl) (by kernel_rfl) (by kernel_rfl) (fun _ _ _ h => h) (Or.inl ⟨by rfl, ?_⟩) (by assumption) ?_
          · intro w' hSw
            try dsimp only at hSw
            try go_simp
            all_goals first | done | with_reducible rfl | omega | assumption | (simp; omega)
          try simp only [List.getElem_toArray, List.getElem_cons_succ, List.getElem_cons_zero, Act.put, List.setIfInBounds_toArray, List.set_cons_zero, List.set_cons_succ]
          refine wpAnyH_take (i := 9) (v := undef) rfl (by kernel_rfl) (by kernel_rfl) (by kernel_rfl) (fun _ _ _ h => h) (Or.inr ⟨by rfl, rfl⟩) (by assumption) ?_
          try simp only [List.getElem_toArray, List.getElem_cons_succ, List.getElem_cons_zero, Act.put, List.setIfInBounds_toArray, List.set_cons_zero, List.set_cons_succ]
          refine wpAnyH_take (i := 10) (v := undef) rfl (by kernel_rfl) (by kernel_rfl) (by kernel_rfl) (fun _ _ _ h => h) (Or.inr ⟨by rfl, rfl⟩) (by assumption) ?_
          try simp only [List.getElem_toArray, List.getElem_cons_succ, List.getElem_cons_zero, Act.put, List.setIfInBounds_toArray, List.set_cons_zero, List.set_cons_succ]
          refine wpAnyH_take (i := 11) (v := undef) rfl (by kernel_rfl) (by kernel_rfl) (by kernel_rfl) (fun _ _ _ h => h) (Or.inr ⟨by rfl, rfl⟩) (by assumption) ?_
          try simp only [List.getElem_toArray, List.getElem_cons_succ, List.getElem_cons_zero, Act.put, List.setIfInBounds_toArray, List.set_cons_zero, List.set_cons_succ]
          refine wpAnyH_take (i := 12) (v := undef) rfl (by kernel_rfl) (by kernel_rfl) (by kernel_rfl) (fun _ _ _ h => h) (Or.inr ⟨by rfl, rfl⟩) (by assumption) ?_
          try simp only [List.getElem_toArray, List.getElem_cons_succ, List.getElem_cons_zero, Act.put, List.setIfInBounds_toArray, List.set_cons_zero, List.set_cons_succ]
          refine wpAnyH_take (i := 13) (v := undef) rfl (by kernel_rfl) (by kernel_rfl) (by kernel_rfl) (fun _ _ _ h => h) (Or.inr ⟨by rfl, rfl⟩) (by assumption) ?_
          try simp only [List.getElem_toArray, List.getElem_cons_succ, List.getElem_cons_zero, Act.put, List.setIfInBounds_toArray, List.set_cons_zero, List.set_cons_succ]
          refine wpAnyH_take (i := 14) (v := undef) rfl (by kernel_rfl) (by kernel_rfl) (by kernel_rfl) (fun _ _ _ h => h) (Or.inr ⟨by rfl, rfl⟩) (by assumption) ?_
          try simp only [List.getElem_toArray, List.getElem_cons_succ, List.getElem_cons_zero, Act.put, List.setIfInBounds_toArray, List.set_cons_zero, List.set_cons_succ]
          refine wpAnyH_take (i := 15) (v := undef) rfl (by kernel_rfl) (by kernel_rfl) (by kernel_rfl) (fun _ _ _ h => h) (Or.inr ⟨by rfl, rfl⟩) (by assumption) ?_
          try simp only [List.getElem_toArray, List.getElem_cons_succ, List.getElem_cons_zero, Act.put, List.setIfInBounds_toArray, List.set_cons_zero, List.set_cons_succ]
          refine wpAnyH_take (i := 16) (v := undef) rfl (by kernel_rfl) (by kernel_rfl) (by kernel_rfl) (fun _ _ _ h => h) (Or.inr ⟨by rfl, rfl⟩) (by assumption) ?_
          try simp only [List.getElem_toArray, List.getElem_cons_succ, List.getElem_cons_zero, Act.put, List.setIfInBounds_toArray, List.set_cons_zero, List.set_cons_succ]
          refine wpAnyH_take (i := 17) (v := undef) rfl (by kernel_rfl) (by kernel_rfl) (by kernel_rfl) (fun _ _ _ h => h) (Or.inr ⟨by rfl, rfl⟩) (by assumption) ?_
          try simp only [List.getElem_toArray, List.getElem_cons_succ, List.getElem_cons_zero, Act.put, List.setIfInBounds_toArray, List.set_cons_zero, List.set_cons_succ]
          refine wpAnyH_take (i := 18) (v := .bool true) rfl (by kernel_rfl) (by kernel_rfl) (by kernel_rfl) (fun _ _ _ h => h) (Or.inl ⟨by rfl, ?_⟩) (by assumption) ?_
          · intro w' hSw
            try dsimp only at hSw
            try go_simp
            all_goals first | done | with_reducible rfl | omega | assumption | (simp; omega)
          try simp only [List.getElem_toArray, List.getElem_cons_succ, List.getElem_cons_zero, Act.put, List.setIfInBounds_toArray, List.set_cons_zero, List.set_cons_succ]
          refine wpAnyH_take (i := 19) (v := .bool true) rfl (by kernel_rfl) (by kernel_rfl) (by kernel_rfl) (fun _ _ _ h => h) (Or.inl ⟨by rfl, ?_⟩) (by assumption) ?_
          · intro w' hSw
            try dsimp only at hSw
            try go_simp
            all_goals first | done | with_reducible rfl | omega | assumption | (simp; omega)
          try simp only [List.getElem_toArray, List.getElem_cons_succ, List.getElem_cons_zero, Act.put, List.setIfInBounds_toArray, List.set_cons_zero, List.set_cons_succ]
          refine wpAnyH_done (by kernel_rfl) ?_ _
          refine NoPanic.normal ?_
          generalize wr.drew = W5 at *
          have HD := keep hD
          go_wp2_with fail
          go_roundg (gk - 1)
          case measure => have := Hj.out; omega
          case rel => exact ⟨j + 1, (j : Int), y, by have := Hj.out; omega, by go_num, rfl, HS, HD⟩
        · have hr := hT.out.rng
          obtain ⟨a, rfl⟩ : ∃ a : Nat, f = a := ⟨f.toNat, by omega⟩
          have hfx : wl[a]? = some x := by
            rcases hT.out with ⟨h, _, _⟩ | ⟨a', h, _, h3, _⟩
            · omega
            · obtain rfl : a = a' := by omega
              exact h3
          obtain ⟨b', off', e', hb', hc'⟩ := hrow a _ (ints_get hfx)
          injection e' with e'
          injection e' with e1 e2
          subst e1 e2
          have cA : ∀ W, Fr v1 W → W.cell? ⟨b, off + a, none⟩ = some (.int .i64 x) := fun W h => (h.cell hb').trans hc'
          have ham : (a : Int) < (m : Int) := by have := Hj.out; omega
          clear hrow hb hc hb' hc' hfx hr hf
          have hf : ¬ ((a : Int) < 0) := by omega
          go_wp2_with fail
          refine wp_region_noPanic ?_
          refine wp_region_held_drew (S := fun w' => Fr v1 w') (by kernel_rfl) hD (fun hHeld => ?_)
          change wpAnyH _ _ _ _ _ _ _ _ _
          refine wpAnyH_take (i := 0) (v := ?_) rfl (by kernel_rfl) (by kernel_rfl) (by kernel_rfl) (fun _ _ _ h => h) (Or.inl ⟨by rfl, ?_⟩) (by assumption) ?_
          rotate_left
          · intro w' hSw
            try dsimp only at hSw
            go_simp
            try with_reducible rfl
          try simp only [List.getElem_toArray, List.getElem_cons_zero, Act.put, List.setIfInBounds_toArray, List.set_cons_zero, List.set_cons_succ]
          refine wpAnyH_take (i := 1) (v := ?_) rfl (by kernel_rfl) (by kernel_rfl) (by kernel_rfl) (fun _ _ _ h => h) (Or.inl ⟨by rfl, ?_⟩) (by assumption) ?_
          rotate_left
          · intro w' hSw
            try dsimp only at hSw
            go_simp
            try with_reducible rfl
          try simp only [List.getElem_toArray, List.getElem_cons_succ, List.getElem_cons_zero, Act.put, List.setIfInBounds_toArray, List.set_cons_zero, List.set_cons_succ]
          refine wpAnyH_take (i := 2) (v := ?_) rfl (by kernel_rfl) (by kernel_rfl) (by kernel_rfl) (fun _ _ _ h => h) (Or.inl ⟨by rfl, ?_⟩) (by assumption) ?_
          rotate_left
          · intro w' hSw
            try dsimp only at hSw
            go_simp
            try with_reducible rfl
          try simp only [List.getElem_toArray, List.getElem_cons_succ, List.getElem_cons_zero, Act.put, List.setIfInBounds_toArray, List.set_cons_zero, List.set_cons_succ]
          refine wpAnyH_take (i := 3) (v := ?_) rfl (by kernel_rfl) (by kernel_rfl) (by kernel_rfl) (fun _ _ _ h => h) (Or.inl ⟨by rfl, ?_⟩) (by assumption) ?_
          rotate_left
          · intro w' hSw
            try dsimp only at hSw
            go_simp
            try with_reducible rfl
          try simp only [List.getElem_toArray, List.getElem_cons_succ, List.getElem_cons_zero, Act.put, List.setIfInBounds_toArray, List.set_cons_zero, List.set_cons_succ]
          refine wpAnyH_take (i := 4) (v := .bool true) rfl (by kernel_rfl) (by kernel_rfl) (by kernel_rfl) (fun _ _ _ h => h) (Or.inl ⟨by rfl, ?_⟩) (by assumption) ?_
          · intro w' hSw
            try dsimp only at hSw
            try go_simp
            all_goals first | done | with_reducible rfl | omega | assumption | (simp; omega)
          try simp only [List.getElem_toArray, List.getElem_cons_succ, List.getElem_cons_zero, Act.put, List.setIfInBounds_toArray, List.set_cons_zero, List.set_cons_succ]
          refine wpAnyH_take (i := 5) (v := .bool true) rfl (by kernel_rfl) (by kernel_rfl) (by kernel_rfl) (fun _ _ _ h => h) (Or.inl ⟨by rfl, ?_⟩) (by assumption) ?_
          · intro w' hSw
            try dsimp only at hSw
            try go_simp
            all_goals first | done | with_reducible rfl | omega | assumption | (simp; omega)
          try simp only [List.getElem_toArray, List.getElem_cons_succ, List.getElem_cons_zero, Act.put, List.setIfInBounds_toArray, List.set_cons_zero, List.set_cons_succ]
          refine wpAnyH_take (i := 6) (v := ?_) rfl (by kernel_rfl) (by kernel_rfl) (by kernel_rfl) (fun _ _ _ h => h) (Or.inl ⟨by rfl, ?_⟩) (by assumption) ?_
          rotate_left
          · intro w' hSw
            try dsimp only at hSw
            go_simp
            try with_reducible rfl
          try simp only [List.getElem_toArray, List.getElem_cons_succ, List.getElem_cons_zero, Act.put, List.setIfInBounds_toArray, List.set_cons_zero, List.set_cons_succ]
          refine wpAnyH_take (i := 7) (v := .bool false) rfl (by kernel_rfl) (by kernel_rfl) (by kernel_rfl) (fun _ _ _ h => h) (Or.inl ⟨by rfl, ?_⟩) (by assumption) ?_
          · intro w' hSw
            try dsimp only at hSw
            try go_simp
            all_goals first | done | with_reducible rfl | omega | assumption | (simp; omega)
          try simp only [List.getElem_toArray, List.getElem_cons_succ, List.getElem_cons_zero, Act.put, List.setIfInBounds_toArray, List.set_cons_zero, List.set_cons_succ]
          refine wpAnyH_take (i := 8) (v := .bool false) rfl (by kernel_rfl) (by kernel_rfl) (by kernel_rfl) (fun _ _ _ h => h) (Or.inl ⟨by rfl, ?_⟩) (by assumption) ?_
          · intro w' hSw
            try dsimp only at hSw
            try go_simp
            all_goals first | done | with_reducible rfl | omega | assumption | (simp; omega)
          try simp only [List.getElem_toArray, List.getElem_cons_succ, List.getElem_cons_zero, Act.put, List.setIfInBounds_toArray, List.set_cons_zero, List.set_cons_succ]
          refine wpAnyH_take (i := 9) (v := ?_) rfl (by kernel_rfl) (by kernel_rfl) (by kernel_rfl) (fun _ _ _ h => h) (Or.inl ⟨by rfl, ?_⟩) (by assumption) ?_
          rotate_left
          · intro w' hSw
            try dsimp only at hSw
            go_simp
            try with_reducible rfl
          try simp only [List.getElem_toArray, List.getElem_cons_succ, List.getElem_cons_zero, Act.put, List.setIfInBounds_toArray, List.set_cons_zero, List.set_cons_succ]
          refine wpAnyH_take (i := 10) (v := ?_) rfl (by kernel_rfl) (by kernel_rfl) (by kernel_rfl) (fun _ _ _ h => h) (Or.inl ⟨by rfl, ?_⟩) (by assumption) ?_
          rotate_left
          · intro w' hSw
            try dsimp only at hSw
            go_simp
            try with_reducible rfl
          try simp only [List.getElem_toArray, List.getElem_cons_succ, List.getElem_cons_zero, Act.put, List.setIfInBounds_toArray, List.set_cons_zero, List.set_cons_succ]
          refine wpAnyH_take (i := 11) (v := ?_) rfl (by kernel_rfl) (by kernel_rfl) (by kernel_rfl) (fun _ _ _ h => h) (Or.inl ⟨by rfl, ?_⟩) (by assumption) ?_
          rotate_left
          · intro w' hSw
            try dsimp only at hSw
            go_simp
            try with_reducible rfl
          try simp only [List.getElem_toArray, List.getElem_cons_succ, List.getElem_cons_zero, Act.put, List.setIfInBounds_toArray, List.set_cons_zero, List.set_cons_succ]
          refine wpAnyH_take (i := 12) (v := ?_) rfl (by kernel_rfl) (by kernel_rfl) (by kernel_rfl) (fun _ _ _ h => h) (Or.inl ⟨by rfl, ?_⟩) (by assumption) ?_
          rotate_left
          · intro w' hSw
            try dsimp only at hSw
            go_simp
            try with_reducible rfl
          try simp only [List.getElem_toArray, List.getElem_cons_succ, List.getElem_cons_zero, Act.put, List.setIfInBounds_toArray, List.set_cons_zero, List.set_cons_succ]
          refine wpAnyH_take (i := 13) (v := ?_) rfl (by kernel_rfl) (by kernel_rfl) (by kernel_rfl) (fun _ _ _ h => h) (Or.inl ⟨by rfl, ?_⟩) (by assumption) ?_
          rotate_left
          · intro w' hSw
            try dsimp only at hSw
            go_simp
            try with_reducible rfl
          try simp only [List.getElem_toArray, List.getElem_cons_succ, List.getElem_cons_zero, Act.put, List.setIfInBounds_toArray, List.set_cons_zero, List.set_cons_succ]
          refine wpAnyH_take (i := 14) (v := ?_) rfl (by kernel_rfl) (by kernel_rfl) (by kernel_rfl) (fun _ _ _ h => h) (Or.inl ⟨by rfl, ?_⟩) (by assumption) ?_
          rotate_left
          · intro w' hSw
            try dsimp only at hSw
            go_simp
            try with_reducible rfl
          try simp only [List.getElem_toArray, List.getElem_cons_succ, List.getElem_cons_zero, Act.put, List.setIfInBounds_toArray, List.set_cons_zero, List.set_cons_succ]
          refine wpAnyH_take (i := 15) (v := ?_) rfl (by kernel_rfl) (by kernel_rfl) (by kernel_rfl) (fun _ _ _ h => h) (Or.inl ⟨by rfl, ?_⟩) (by assumption) ?_
          rotate_left
          · intro w' hSw
            try dsimp only at hSw
            go_simp
            try with_reducible rfl
          try simp only [List.getElem_toArray, List.getElem_cons_succ, List.getElem_cons_zero, Act.put, List.setIfInBounds_toArray, List.set_cons_zero, List.set_cons_succ]
          refine wpAnyH_take (i := 16) (v := ?_) rfl (by kernel_rfl) (by kernel_rfl) (by kernel_rfl) (fun _ _ _ h => h) (Or.inl ⟨by rfl, ?_⟩) (by assumption) ?_
          rotate_left
          · intro w' hSw
            try dsimp only at hSw
            go_simp
            try with_reducible rfl
          try simp only [List.getElem_toArray, List.getElem_cons_succ, List.getElem_cons_zero, Act.put, List.setIfInBounds_toArray, List.set_cons_zero, List.set_cons_succ]
          refine wpAnyH_take (i := 17) (v := .bool true) rfl (by kernel_rfl) (by kernel_rfl) (by kernel_rfl) (fun _ _ _ h => h) (Or.inl ⟨by rfl, ?_⟩) (by assumption) ?_
          · intro w' hSw
            try dsimp only at hSw
            try go_simp
            all_goals first | done | with_reducible rfl | omega | assumption | (simp; omega)
          try simp only [List.getElem_toArray, List.getElem_cons_succ, List.getElem_cons_zero, Act.put, List.setIfInBounds_toArray, List.set_cons_zero, List.set_cons_succ]
          refine wpAnyH_take (i := 18) (v := .bool true) rfl (by kernel_rfl) (by kernel_rfl) (by kernel_rfl) (fun _ _ _ h => h) (Or.inl ⟨by rfl, ?_⟩) (by assumption) ?_
          · intro w' hSw
            try dsimp only at hSw
            try go_simp
            all_goals first | done | with_reducible rfl | omega | assumption | (simp; omega)
          try simp only [List.getElem_toArray, List.getElem_cons_succ, List.getElem_cons_zero, Act.put, List.setIfInBounds_toArray, List.set_cons_zero, List.set_cons_succ]
          refine wpAnyH_take (i := 19) (v := .bool true) rfl (by kernel_rfl) (by kernel_rfl) (by kernel_rfl) (fun _ _ _ h => h) (Or.inl ⟨by rfl, ?_⟩) (by assumption) ?_
          · intro w' hSw
            try dsimp only at hSw
            try go_simp
            all_goals first | done | with_reducible rfl | omega | assumption | (simp; omega)
          try simp only [List.getElem_toArray, List.getElem_cons_succ, List.getElem_cons_zero, Act.put, List.setIfInBounds_toArray, List.set_cons_zero, List.set_cons_succ]
          refine wpAnyH_done (by kernel_rfl) ?_ _
          refine NoPanic.normal ?_
          generalize wr.drew = W5 at *
          have HD := keep hD
          go_wp2_with fail
          go_roundg (gk - 1)
          case measure => have := Hj.out; omega
          case rel => exact ⟨j + 1, (j : Int), y, by have := Hj.out; omega, by go_num, rfl, HS, HD⟩
      · have HS := keep (topI_stay hT.out Hy.out hxy)
        by_cases hy0 : 0 < y
        · have hr := hT.out.rng
          have hf0 : 0 ≤ f := by
            rcases hT.out with ⟨_, h, _⟩ | ⟨a', h, _⟩
            · omega
            · omega
          obtain ⟨a, rfl⟩ : ∃ a : Nat, f = a := ⟨f.toNat, by omega⟩
          have hfx : wl[a]? = some x := by
            rcases hT.out with ⟨h, _, _⟩ | ⟨a', h, _, h3, _⟩
            · omega
            · obtain rfl : a = a' := by omega
              exact h3
          obtain ⟨b', off', e', hb', hc'⟩ := hrow a _ (ints_get hfx)
          injection e' with e'
          injection e' with e1 e2
          subst e1 e2
          have cA : ∀ W, Fr v1 W → W.cell? ⟨b, off + a, none⟩ = some (.int .i64 x) := fun W h => (h.cell hb').trans hc'
          have ham : (a : Int) < (m : Int) := by have := Hj.out; omega
          clear hrow hb hc hb' hc' hfx hr hf0
          have hf : ¬ ((a : Int) < 0) := by omega
          go_wp2_with fail
          refine wp_region_noPanic ?_
          refine wp_region_held_drew (S := fun w' => Fr v1 w') (by kernel_rfl) hD (fun hHeld => ?_)
          change wpAnyH _ _ _ _ _ _ _ _ _
          refine wpAnyH_take (i := 0) (v := ?_) rfl (by kernel_rfl) (by kernel_rfl) (by kernel_rfl) (fun _ _ _ h => h) (Or.inl ⟨by rfl, ?_⟩) (by assumption) ?_
          rotate_left
          · intro w' hSw
            try dsimp only at hSw
            go_simp
            try with_reducible rfl
          try simp only [List.getElem_toArray, List.getElem_cons_zero, Act.put, List.setIfInBounds_toArray, List.set_cons_zero, List.set_cons_succ]
          refine wpAnyH_take (i := 1) (v := ?_) rfl (by kernel_rfl) (by kernel_rfl) (by kernel_rfl) (fun _ _ _ h => h) (Or.inl ⟨by rfl, ?_⟩) (by assumption) ?_
          rotate_left
          · intro w' hSw
            try dsimp only at hSw
            go_simp
            try with_reducible rfl
          try simp only [List.getElem_toArray, List.getElem_cons_succ, List.getElem_cons_zero, Act.put, List.setIfInBounds_toArray, List.set_cons_zero, List.set_cons_succ]
          refine wpAnyH_take (i := 2) (v := ?_) rfl (by kernel_rfl) (by kernel_rfl) (by kernel_rfl) (fun _ _ _ h => h) (Or.inl ⟨by rfl, ?_⟩) (by assumption) ?_
          rotate_left
          · intro w' hSw
            try dsimp only at hSw
            go_simp
            try with_reducible rfl
          try simp only [List.getElem_toArray, List.getElem_cons_succ, List.getElem_cons_zero, Act.put, List.setIfInBounds_toArray, List.set_cons_zero, List.set_cons_succ]
          refine wpAnyH_take (i := 3) (v := ?_) rfl (by kernel_rfl) (by kernel_rfl) (by kernel_rfl) (fun _ _ _ h => h) (Or.inl ⟨by rfl, ?_⟩) (by assumption) ?_
          rotate_left
          · intro w' hSw
            try dsimp only at hSw
            go_simp
            try with_reducible rfl
          try simp only [List.getElem_toArray, List.getElem_cons_succ, List.getElem_cons_zero, Act.put, List.setIfInBounds_toArray, List.set_cons_zero, List.set_cons_succ]
          refine wpAnyH_take (i := 4) (v := .bool true) rfl (by kernel_rfl) (by kernel_rfl) (by kernel_rfl) (fun _ _ _ h => h) (Or.inl ⟨by rfl, ?_⟩) (by assumption) ?_
          · intro w' hSw
            try dsimp only at hSw
            try go_simp
            all_goals first | done | with_reducible rfl | omega | assumption | (simp; omega)
          try simp only [List.getElem_toArray, List.getElem_cons_succ, List.getElem_cons_zero, Act.put, List.setIfInBounds_toArray, List.set_cons_zero, List.set_cons_succ]
          refine wpAnyH_take (i := 5) (v := .bool true) rfl (by kernel_rfl) (by kernel_rfl) (by kernel_rfl) (fun _ _ _ h => h) (Or.inl ⟨by rfl, ?_⟩) (by assumption) ?_
          · intro w' hSw
            try dsimp only at hSw
            try go_simp
            all_goals first | done | with_reducible rfl | omega | assumption | (simp; omega)
          try simp only [List.getElem_toArray, List.getElem_cons_succ, List.getElem_cons_zero, Act.put, List.setIfInBounds_toArray, List.set_cons_zero, List.set_cons_succ]
          refine wpAnyH_take (i := 6) (v := ?_) rfl (by kernel_rfl) (by kernel_rfl) (by kernel_rfl) (fun _ _ _ h => h) (Or.inl ⟨by rfl, ?_⟩) (by assumption) ?_
          rotate_left
          · intro w' hSw
            try dsimp only at hSw
            go_simp
            try with_reducible rfl
          try simp only [List.getElem_toArray, List.getElem_cons_succ, List.getElem_cons_zero, Act.put, List.setIfInBounds_toArray, List.set_cons_zero, List.set_cons_succ]
          refine wpAnyH_take (i := 7) (v := .bool false) rfl (by kernel_rfl) (by kernel_rfl) (by kernel_rfl) (fun _ _ _ h => h) (Or.inl ⟨by rfl, ?_⟩) (by assumption) ?_
          · intro w' hSw
            try dsimp only at hSw
            try go_simp
            all_goals first | done | with_reducible rfl | omega | assumption | (simp; omega)
          try simp only [List.getElem_toArray, List.getElem_cons_succ, List.getElem_cons_zero, Act.put, List.setIfInBounds_toArray, List.set_cons_zero, List.set_cons_succ]
          refine wpAnyH_take (i := 8) (v := .bool false) rfl (by kernel_rfl) (by kernel_rfl) (by kernel_rfl) (fun _ _ _ h => h) (Or.inl ⟨by rfl, ?_⟩) (by assumption) ?_
          · intro w' hSw
            try dsimp only at hSw
            try go_simp
            all_goals first | done | with_reducible rfl | omega | assumption | (simp; omega)
          try simp only [List.getElem_toArray, List.getElem_cons_succ, List.getElem_cons_zero, Act.put, List.setIfInBounds_toArray, List.set_cons_zero, List.set_cons_succ]
          refine wpAnyH_take (i := 9) (v := ?_) rfl (by kernel_rfl) (by kernel_rfl) (by kernel_rfl) (fun _ _ _ h => h) (Or.inl ⟨by rfl, ?_⟩) (by assumption) ?_
          rotate_left
          · intro w' hSw
            try dsimp only at hSw
            go_simp
            try with_reducible rfl
          try simp only [List.getElem_toArray, List.getElem_cons_succ, List.getElem_cons_zero, Act.put, List.setIfInBounds_toArray, List.set_cons_zero, List.set_cons_succ]
          refine wpAnyH_take (i := 10) (v := ?_) rfl (by kernel_rfl) (by kernel_rfl) (by kernel_rfl) (fun _ _ _ h => h) (Or.inl ⟨by rfl, ?_⟩) (by assumption) ?_
          rotate_left
          · intro w' hSw
            try dsimp only at hSw
            go_simp
            try with_reducible rfl
          try simp only [List.getElem_toArray, List.getElem_cons_succ, List.getElem_cons_zero, Act.put, List.setIfInBounds_toArray, List.set_cons_zero, List.set_cons_succ]
          refine wpAnyH_take (i := 11) (v := ?_) rfl (by kernel_rfl) (by kernel_rfl) (by kernel_rfl) (fun _ _ _ h => h) (Or.inl ⟨by rfl, ?_⟩) (by assumption) ?_
          rotate_left
          · intro w' hSw
            try dsimp only at hSw
            go_simp
            try with_reducible rfl
          try simp only [List.getElem_toArray, List.getElem_cons_succ, List.getElem_cons_zero, Act.put, List.setIfInBounds_toArray, List.set_cons_zero, List.set_cons_succ]
          refine wpAnyH_take (i := 12) (v := ?_) rfl (by kernel_rfl) (by kernel_rfl) (by kernel_rfl) (fun _ _ _ h => h) (Or.inl ⟨by rfl, ?_⟩) (by assumption) ?_
          rotate_left
          · intro w' hSw
            try dsimp only at hSw
            go_simp
            try with_reducible rfl
          try simp only [List.getElem_toArray, List.getElem_cons_succ, List.getElem_cons_zero, Act.put, List.setIfInBounds_toArray, List.set_cons_zero, List.set_cons_succ]
          refine wpAnyH_take (i := 13) (v := ?_) rfl (by kernel_rfl) (by kernel_rfl) (by kernel_rfl) (fun _ _ _ h => h) (Or.inl ⟨by rfl, ?_⟩) (by assumption) ?_
          rotate_left
          · intro w' hSw
            try dsimp only at hSw
            go_simp
            try with_reducible rfl
          try simp only [List.getElem_toArray, List.getElem_cons_succ, List.getElem_cons_zero, Act.put, List.setIfInBounds_toArray, List.set_cons_zero, List.set_cons_succ]
          refine wpAnyH_take (i := 14) (v := ?_) rfl (by kernel_rfl) (by kernel_rfl) (by kernel_rfl) (fun _ _ _ h => h) (Or.inl ⟨by rfl, ?_⟩) (by assumption) ?_
          rotate_left
          · intro w' hSw
            try dsimp only at hSw
            go_simp
            try with_reducible rfl
          try simp only [List.getElem_toArray, List.getElem_cons_succ, List.getElem_cons_zero, Act.put, List.setIfInBounds_toArray, List.set_cons_zero, List.set_cons_succ]
          refine wpAnyH_take (i := 15) (v := ?_) rfl (by kernel_rfl) (by kernel_rfl) (by kernel_rfl) (fun _ _ _ h => h) (Or.inl ⟨by rfl, ?_⟩) (by assumption) ?_
          rotate_left
          · intro w' hSw
            try dsimp only at hSw
            go_simp
            try with_reducible rfl
          try simp only [List.getElem_toArray, List.getElem_cons_succ, List.getElem_cons_zero, Act.put, List.setIfInBounds_toArray, List.set_cons_zero, List.set_cons_succ]
          refine wpAnyH_take (i := 16) (v := ?_) rfl (by kernel_rfl) (by kernel_rfl) (by kernel_rfl) (fun _ _ _ h => h) (Or.inl ⟨by rfl, ?_⟩) (by assumption) ?_
          rotate_left
          · intro w' hSw
            try dsimp only at hSw
            go_simp
            try with_reducible rfl
          try simp only [List.getElem_toArray, List.getElem_cons_succ, List.getElem_cons_zero, Act.put, List.setIfInBounds_toArray, List.set_cons_zero, List.set_cons_succ]
          refine wpAnyH_take (i := 17) (v := .bool false) rfl (by kernel_rfl) (by kernel_rfl) (by kernel_rfl) (fun _ _ _ h => h) (Or.inl ⟨by rfl, ?_⟩) (by assumption) ?_
          · intro w' hSw
            try dsimp only at hSw
            try go_simp
            all_goals first | done | with_reducible rfl | omega | assumption | (simp; omega)
          try simp only [List.getElem_toArray, List.getElem_cons_succ, List.getElem_cons_zero, Act.put, List.setIfInBounds_toArray, List.set_cons_zero, List.set_cons_succ]
          refine wpAnyH_take (i := 18) (v := .bool false) rfl (by kernel_rfl) (by kernel_rfl) (by kernel_rfl) (fun _ _ _ h => h) (Or.inl ⟨by rfl, ?_⟩) (by assumption) ?_
          · intro w' hSw
            try dsimp only at hSw
            try go_simp
            all_goals first | done | with_reducible rfl | omega | assumption | (simp; omega)
          try simp only [List.getElem_toArray, List.getElem_cons_succ, List.getElem_cons_zero, Act.put, List.setIfInBounds_toArray, List.set_cons_zero, List.set_cons_succ]
          refine wpAnyH_take (i := 19) (v := .bool false) rfl (by kernel_rfl) (by kernel_rfl) (by kernel_rfl) (fun _ _ _ h => h) (Or.inl ⟨by rfl, ?_⟩) (by assumption) ?_
          · intro w' hSw
            try dsimp only at hSw
            try go_simp
            all_goals first | done | with_reducible rfl | omega | assumption | (simp; omega)
          try simp only [List.getElem_toArray, List.getElem_cons_succ, List.getElem_cons_zero, Act.put, List.setIfInBounds_toArray, List.set_cons_zero, List.set_cons_succ]
          refine wpAnyH_done (by kernel_rfl) ?_ _
          refine NoPanic.normal ?_
          generalize wr.drew = W5 at *
          have HD := keep hD
          go_wp2_with fail
          go_roundg (gk - 1)
          case measure => have := Hj.out; omega
          case rel => exact ⟨j + 1, _, x, by have := Hj.out; omega, by go_num, rfl, HS, HD⟩
        · clear hrow hb hc hxy
          go_wp2_with fail
          refine wp_region_noPanic ?_
          refine wp_region_held_drew (S := fun w' => Fr v1 w') (by kernel_rfl) hD (fun hHeld => ?_)
          change wpAnyH _ _ _ _ _ _ _ _ _
          refine wpAnyH_take (i := 0) (v := ?_) rfl (by kernel_rfl) (by kernel_rfl) (by kernel_rfl) (fun _ _ _ h => h) (Or.inl ⟨by rfl, ?_⟩) (by assumption) ?_
          rotate_left
          · intro w' hSw
            try dsimp only at hSw
            go_simp
            try with_reducible rfl
          try simp only [List.getElem_toArray, List.getElem_cons_zero, Act.put, List.setIfInBounds_toArray, List.set_cons_zero, List.set_cons_succ]
          refine wpAnyH_take (i := 1) (v := ?_) rfl (by kernel_rfl) (by kernel_rfl) (by kernel_rfl) (fun _ _ _ h => h) (Or.inl ⟨by rfl, ?_⟩) (by assumption) ?_
          rotate_left
          · intro w' hSw
            try dsimp only at hSw
            go_simp
            try with_reducible rfl
          try simp only [List.getElem_toArray, List.getElem_cons_succ, List.getElem_cons_zero, Act.put, List.setIfInBounds_toArray, List.set_cons_zero, List.set_cons_succ]
          refine wpAnyH_take (i := 2) (v := ?_) rfl (by kernel_rfl) (by kernel_rfl) (by kernel_rfl) (fun _ _ _ h => h) (Or.inl ⟨by rfl, ?_⟩) (by assumption) ?_
          rotate_left
          · intro w' hSw
            try dsimp only at hSw
            go_simp
            try with_reducible rfl
          try simp only [List.getElem_toArray, List.getElem_cons_succ, List.getElem_cons_zero, Act.put, List.setIfInBounds_toArray, List.set_cons_zero, List.set_cons_succ]
          refine wpAnyH_take (i := 3) (v := ?_) rfl (by kernel_rfl) (by kernel_rfl) (by kernel_rfl) (fun _ _ _ h => h) (Or.inl ⟨by rfl, ?_⟩) (by assumption) ?_
          rotate_left
          · intro w' hSw
            try dsimp only at hSw
            go_simp
            try with_reducible rfl
          try simp only [List.getElem_toArray, List.getElem_cons_succ, List.getElem_cons_zero, Act.put, List.setIfInBounds_toArray, List.set_cons_zero, List.set_cons_succ]
          refine wpAnyH_take (i := 4) (v := .bool false) rfl (by kernel_rfl) (by kernel_rfl) (by kernel_rfl) (fun _ _ _ h => h) (Or.inl ⟨by rfl, ?_⟩) (by assumption) ?_
          · intro w' hSw
            try dsimp only at hSw
            try go_simp
            all_goals first | done | with_reducible rfl | omega | assumption | (simp; omega)
          try simp only [List.getElem_toArray, List.getElem_cons_succ, List.getElem_cons_zero, Act.put, List.setIfInBounds_toArray, List.set_cons_zero, List.set_cons_succ]
          refine wpAnyH_take (i := 5) (v := .bool false) rfl (by kernel_rfl) (by kernel_rfl) (by kernel_rfl) (fun _ _ _ h => h) (Or.inl ⟨by rfl, ?_⟩) (by assumption) ?_
          · intro w' hSw
            try dsimp only at hSw
            try go_simp
            all_goals first | done | with_reducible rfl | omega | assumption | (simp; omega)
          try simp only [List.getElem_toArray, List.getElem_cons_succ, List.getElem_cons_zero, Act.put, List.setIfInBounds_toArray, List.set_cons_zero, List.set_cons_succ]
          refine wpAnyH_take (i := 6) (v := undef) rfl (by kernel_rfl) (by kernel_rfl) (by kernel_rfl) (fun _ _ _ h => h) (Or.inr ⟨by rfl, rfl⟩) (by assumption) ?_
          try simp only [List.getElem_toArray, List.getElem_cons_succ, List.getElem_cons_zero, Act.put, List.setIfInBounds_toArray, List.set_cons_zero, List.set_cons_succ]
          refine wpAnyH_take (i := 7) (v := undef) rfl (by kernel_rfl) (by kernel_rfl) (by kernel_rfl) (fun _ _ _ h => h) (Or.inr ⟨by rfl, rfl⟩) (by assumption) ?_
          try simp only [List.getElem_toArray, List.getElem_cons_succ, List.getElem_cons_zero, Act.put, List.setIfInBounds_toArray, List.set_cons_zero, List.set_cons_succ]
          refine wpAnyH_take (i := 8) (v := undef) rfl (by kernel_rfl) (by kernel_rfl) (by kernel_rfl) (fun _ _ _ h => h) (Or.inr ⟨by rfl, rfl⟩) (by assumption) ?_
          try simp only [List.getElem_toArray, List.getElem_cons_succ, List.getElem_cons_zero, Act.put, List.setIfInBounds_toArray, List.set_cons_zero, List.set_cons_succ]
          refine wpAnyH_take (i := 9) (v := undef) rfl (by kernel_rfl) (by kernel_rfl) (by kernel_rfl) (fun _ _ _ h => h) (Or.inr ⟨by rfl, rfl⟩) (by assumption) ?_
          try simp only [List.getElem_toArray, List.getElem_cons_succ, List.getElem_cons_zero, Act.put, List.setIfInBounds_toArray, List.set_cons_zero, List.set_cons_succ]
          refine wpAnyH_take (i := 10) (v := undef) rfl (by kernel_rfl) (by kernel_rfl) (by kernel_rfl) (fun _ _ _ h => h) (Or.inr ⟨by rfl, rfl⟩) (by assumption) ?_
          try simp only [List.getElem_toArray, List.getElem_cons_succ, List.getElem_cons_zero, Act.put, List.setIfInBounds_toArray, List.set_cons_zero, List.set_cons_succ]
          refine wpAnyH_take (i := 11) (v := undef) rfl (by kernel_rfl) (by kernel_rfl) (by kernel_rfl) (fun _ _ _ h => h) (Or.inr ⟨by rfl, rfl⟩) (by assumption) ?_
          try simp only [List.getElem_toArray, List.getElem_cons_succ, List.getElem_cons_zero, Act.put, List.setIfInBounds_toArray, List.set_cons_zero, List.set_cons_succ]
          refine wpAnyH_take (i := 12) (v := undef) rfl (by kernel_rfl) (by kernel_rfl) (by kernel_rfl) (fun _ _ _ h => h) (Or.inr ⟨by rfl, rfl⟩) (by assumption) ?_
          try simp only [List.getElem_toArray, List.getElem_cons_succ, List.getElem_cons_zero, Act.put, List.setIfInBounds_toArray, List.set_cons_zero, List.set_cons_succ]
          refine wpAnyH_take (i := 13) (v := undef) rfl (by kernel_rfl) (by kernel_rfl) (by kernel_rfl) (fun _ _ _ h => h) (Or.inr ⟨by rfl, rfl⟩) (by assumption) ?_
          try simp only [List.getElem_toArray, List.getElem_cons_succ, List.getElem_cons_zero, Act.put, List.setIfInBounds_toArray, List.set_cons_zero, List.set_cons_succ]
          refine wpAnyH_take (i := 14) (v := undef) rfl (by kernel_rfl) (by kernel_rfl) (by kernel_rfl) (fun _ _ _ h => h) (Or.inr ⟨by rfl, rfl⟩) (by assumption) ?_
          try simp only [List.getElem_toArray, List.getElem_cons_succ, List.getElem_cons_zero, Act.put, List.setIfInBounds_toArray, List.set_cons_zero, List.set_cons_succ]
          refine wpAnyH_take (i := 15) (v := undef) rfl (by kernel_rfl) (by kernel_rfl) (by kernel_rfl) (fun _ _ _ h => h) (Or.inr ⟨by rfl, rfl⟩) (by assumption) ?_
          try simp only [List.getElem_toArray, List.getElem_cons_succ, List.getElem_cons_zero, Act.put, List.setIfInBounds_toArray, List.set_cons_zero, List.set_cons_succ]
          refine wpAnyH_take (i := 16) (v := undef) rfl (by kernel_rfl) (by kernel_rfl) (by kernel_rfl) (fun _ _ _ h => h) (Or.inr ⟨by rfl, rfl⟩) (by assumption) ?_
          try simp only [List.getElem_toArray, List.getElem_cons_succ, List.getElem_cons_zero, Act.put, List.setIfInBounds_toArray, List.set_cons_zero, List.set_cons_succ]
          refine wpAnyH_take (i := 17) (v := undef) rfl (by kernel_rfl) (by kernel_rfl) (by kernel_rfl) (fun _ _ _ h => h) (Or.inr ⟨by rfl, rfl⟩) (by assumption) ?_
          try simp only [List.getElem_toArray, List.getElem_cons_succ, List.getElem_cons_zero, Act.put, List.setIfInBounds_toArray, List.set_cons_zero, List.set_cons_succ]
          refine wpAnyH_take (i := 18) (v := undef) rfl (by kernel_rfl) (by kernel_rfl) (by kernel_rfl) (fun _ _ _ h => h) (Or.inr ⟨by rfl, rfl⟩) (by assumption) ?_
          try simp only [List.getElem_toArray, List.getElem_cons_succ, List.getElem_cons_zero, Act.put, List.setIfInBounds_toArray, List.set_cons_zero, List.set_cons_succ]
          refine wpAnyH_take (i := 19) (v := .bool false) rfl (by kernel_rfl) (by kernel_rfl) (by kernel_rfl) (fun _ _ _ h => h) (Or.inl ⟨by rfl, ?_⟩) (by assumption) ?_
          · intro w' hSw
            try dsimp only at hSw
            try go_simp
            all_goals first | done | with_reducible rfl | omega | assumption | (simp; omega)
          try simp only [List.getElem_toArray, List.getElem_cons_succ, List.getElem_cons_zero, Act.put, List.setIfInBounds_toArray, List.set_cons_zero, List.set_cons_succ]
          refine wpAnyH_done (by kernel_rfl) ?_ _
          refine NoPanic.normal ?_
          generalize wr.drew = W5 at *
          have HD := keep hD
          go_wp2_with fail
          go_roundg (gk - 1)
          case measure => have := Hj.out; omega
          case rel => exact ⟨j + 1, _, x, by have := Hj.out; omega, by go_num, rfl, HS, HD⟩
    · obtain rfl : j = m := by omega
      have hff := hF.out
      go_wp2_with fail
      go_ret
      exact ⟨⟨f, x, rfl, hT.out⟩, fr_step f1.out hff⟩
end
end
end Go.Proofs.Ytcdcaanmmbopbaa
