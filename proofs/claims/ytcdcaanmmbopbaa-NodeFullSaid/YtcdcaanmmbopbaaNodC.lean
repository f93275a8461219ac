/- The program's functions of nodes, given what the layers below tell. -/
import Derived.Test.YtcdcaanmmbopbaaNodA
import Derived.Deep.LoopGhost
import Derived.Deep.RegionHeld3
namespace Go.Proofs.Ytcdcaanmmbopbaa
set_option maxRecDepth 100000
open Go.RowKit
set_option linter.unusedVariables false
attribute [local go_sem] as_ll as_ii as_li as_il
section
variable {A1 : Option Addr} {n1 c1 : Nat} {A2 : Option Addr} {n2 c2 : Nat} {A3 : Option Addr} {n3 c3 : Nat} {A4 : Option Addr} {n4 c4 : Nat}
theorem no_iff {Q : Prop} (h : ¬ Q) : (false = true ↔ Q) := ⟨fun h => (by cases h), fun k => absurd k h⟩
/-- node.Check at a leaf, given what leaf.Check tells. -/
theorem ncheck_leaf {w : World} {P : Prop} {Q : Prop} (hQ : Q ↔ n2 = 0 ∧ n3 = 0 ∧ n4 = 0 ∧ P)
    (cL : ∀ W, Fr w W → Calls Try.prog 42 #[.slice A1 n1 c1] W fun e w' => (∃ b, e = .returned (.bool b) ∧ (b = true ↔ P)) ∧ Fr w w') :
    Calls Try.prog 15 #[.agg #[.bool true, .slice A1 n1 c1, .slice A2 n2 c2, .slice A3 n3 c3, .slice A4 n4 c4]] w fun e w' => (∃ b, e = .returned (.bool b) ∧ (b = true ↔ Q)) ∧ Fr w w' := by
  have hw := fr_refl w
  have cK := fun W h => kind_leaf (A1 := A1) (n1 := n1) (c1 := c1) (A2 := A2) (n2 := n2) (c2 := c2) (A3 := A3) (n3 := n3) (c3 := c3) (A4 := A4) (n4 := n4) (c4 := c4) (W0 := w) (W := W) h
  rcases Nat.eq_zero_or_pos n2 with e2 | p2
  · rcases Nat.eq_zero_or_pos n3 with e3 | p3
    · rcases Nat.eq_zero_or_pos n4 with e4 | p4
      · have H : Hid (P ↔ Q) := keep (by rw [hQ]; simp [e2, e3, e4])
        subst e2 e3 e4
        clear hQ
        go_enter Try.func15, Try.ntmps15
        go_wp2_with fail
        refine (cK _ (fr_new hw _)).mono ?_
        rintro e v1 ⟨rfl, f1⟩
        clear cK
        go_wp2_with fail
        refine (cL _ (fr_new f1 _)).mono ?_
        rintro e v2 ⟨⟨b, rfl, hb⟩, f2⟩
        go_wp2_with fail
        go_ret
        exact ⟨⟨b, rfl, hb.trans H.out⟩, f2⟩
      · have H : Hid (¬ Q) := keep (by rw [hQ]; omega)
        have q : ((n4 : Int) == 0) = false := by simp; omega
        subst e2 e3
        clear hQ
        go_enter Try.func15, Try.ntmps15
        go_wp2_with fail
        refine (cK _ (fr_new hw _)).mono ?_
        rintro e v1 ⟨rfl, f1⟩
        clear cK
        go_wp2_with fail
        go_ret
        refine ⟨?_, fr_new f1 _⟩
        exact ⟨false, rfl, no_iff H.out⟩
    · have H : Hid (¬ Q) := keep (by rw [hQ]; omega)
      have q : ((n3 : Int) == 0) = false := by simp; omega
      subst e2
      clear hQ
      go_enter Try.func15, Try.ntmps15
      go_wp2_with fail
      refine (cK _ (fr_new hw _)).mono ?_
      rintro e v1 ⟨rfl, f1⟩
      clear cK
      go_wp2_with fail
      go_ret
      refine ⟨?_, fr_new f1 _⟩
      exact ⟨false, rfl, no_iff H.out⟩
  · have H : Hid (¬ Q) := keep (by rw [hQ]; omega)
    have q : ((n2 : Int) == 0) = false := by simp; omega
    clear hQ
    go_enter Try.func15, Try.ntmps15
    go_wp2_with fail
    refine (cK _ (fr_new hw _)).mono ?_
    rintro e v1 ⟨rfl, f1⟩
    clear cK
    go_wp2_with fail
    go_ret
    refine ⟨?_, fr_new f1 _⟩
    exact ⟨false, rfl, no_iff H.out⟩
/-- node.Check at an inner node, given what fan.Check and buf.Check tell. -/
theorem ncheck_inner {w : World} {P R : Prop} {Q : Prop} (hQ : Q ↔ n1 = 0 ∧ P ∧ R)
    (cF : ∀ W, Fr w W → Calls Try.prog 43 #[.slice A2 n2 c2, .slice A3 n3 c3] W fun e w' => (∃ b, e = .returned (.bool b) ∧ (b = true ↔ P)) ∧ Fr W w')
    (cB : ∀ W, Fr w W → Calls Try.prog 44 #[.slice A4 n4 c4] W fun e w' => (∃ b, e = .returned (.bool b) ∧ (b = true ↔ R)) ∧ Fr w w') :
    Calls Try.prog 15 #[.agg #[.bool false, .slice A1 n1 c1, .slice A2 n2 c2, .slice A3 n3 c3, .slice A4 n4 c4]] w fun e w' => (∃ b, e = .returned (.bool b) ∧ (b = true ↔ Q)) ∧ Fr w w' := by
  have hw := fr_refl w
  have cK := fun W h => kind_inner (A1 := A1) (n1 := n1) (c1 := c1) (A2 := A2) (n2 := n2) (c2 := c2) (A3 := A3) (n3 := n3) (c3 := c3) (A4 := A4) (n4 := n4) (c4 := c4) (W0 := w) (W := W) h
  rcases Nat.eq_zero_or_pos n1 with e1 | p1
  · have H : Hid (Q ↔ P ∧ R) := keep (by rw [hQ]; simp [e1])
    subst e1
    clear hQ
    go_enter Try.func15, Try.ntmps15
    go_wp2_with fail
    refine (cK _ (fr_new hw _)).mono ?_
    rintro e v1 ⟨rfl, f1⟩
    clear cK
    go_wp2_with fail
    refine (cF _ (fr_new f1 _)).mono ?_
    rintro e v2 ⟨⟨b, rfl, hb⟩, f2⟩
    have a4 : v2.cell? ⟨v1.heap.size, 4, none⟩ = some (.slice A4 n4 c4) := ((Arr.new v1 _ _).below f2 (by simp)).cell 4
    replace f2 := fr_step (fr_new f1 _) f2
    clear cF
    cases b
    · have Hb := keep hb
      clear hb
      go_wp2_with fail
      go_ret
      refine ⟨?_, f2⟩
      have HQ : ¬ Q := fun h => by have := Hb.out.2 (H.out.1 h).1; cases this
      exact ⟨false, rfl, no_iff HQ⟩
    · have HP := keep (hb.1 rfl)
      clear hb
      go_wp2_with fail
      refine (cB _ f2).mono ?_
      rintro e v3 ⟨⟨b, rfl, hb⟩, f3⟩
      go_wp2_with fail
      go_ret
      exact ⟨⟨b, rfl, hb.trans ⟨fun h => H.out.2 ⟨HP.out, h⟩, fun h => (H.out.1 h).2⟩⟩, f3⟩
  · have H : Hid (¬ Q) := keep (by rw [hQ]; omega)
    have q : ((n1 : Int) == 0) = false := by simp; omega
    clear hQ
    go_enter Try.func15, Try.ntmps15
    go_wp2_with fail
    refine (cK _ (fr_new hw _)).mono ?_
    rintro e v1 ⟨rfl, f1⟩
    clear cK
    go_wp2_with fail
    go_ret
    refine ⟨?_, fr_new f1 _⟩
    exact ⟨false, rfl, no_iff H.out⟩
theorem nbytes_leaf {w : World} {x : Int} (cL : ∀ W, Fr w W → Calls Try.prog 40 #[.slice A1 n1 c1] W fun e w' => e = .returned (.int .i64 x) ∧ Fr w w') :
    Calls Try.prog 13 #[.agg #[.bool true, .slice A1 n1 c1, .slice A2 n2 c2, .slice A3 n3 c3, .slice A4 n4 c4]] w fun e w' => e = .returned (.int .i64 x) ∧ Fr w w' := by
  have hw := fr_refl w
  have cK := fun W h => kind_leaf (A1 := A1) (n1 := n1) (c1 := c1) (A2 := A2) (n2 := n2) (c2 := c2) (A3 := A3) (n3 := n3) (c3 := c3) (A4 := A4) (n4 := n4) (c4 := c4) (W0 := w) (W := W) h
  go_enter Try.func13, Try.ntmps13
  go_wp2_with fail
  refine (cK _ (fr_new hw _)).mono ?_
  rintro e v1 ⟨rfl, f1⟩
  clear cK
  go_wp2_with fail
  refine (cL _ (fr_new f1 _)).mono ?_
  rintro e v2 ⟨rfl, f2⟩
  go_wp2_with fail
  go_ret
  exact ⟨rfl, f2⟩
theorem nbytes_inner {w : World} {x : Int} (cL : ∀ W, Fr w W → Calls Try.prog 37 #[.slice A4 n4 c4] W fun e w' => e = .returned (.int .i64 x) ∧ Fr w w') :
    Calls Try.prog 13 #[.agg #[.bool false, .slice A1 n1 c1, .slice A2 n2 c2, .slice A3 n3 c3, .slice A4 n4 c4]] w fun e w' => e = .returned (.int .i64 x) ∧ Fr w w' := by
  have hw := fr_refl w
  have cK := fun W h => kind_inner (A1 := A1) (n1 := n1) (c1 := c1) (A2 := A2) (n2 := n2) (c2 := c2) (A3 := A3) (n3 := n3) (c3 := c3) (A4 := A4) (n4 := n4) (c4 := c4) (W0 := w) (W := W) h
  go_enter Try.func13, Try.ntmps13
  go_wp2_with fail
  refine (cK _ (fr_new hw _)).mono ?_
  rintro e v1 ⟨rfl, f1⟩
  clear cK
  go_wp2_with fail
  refine (cL _ (fr_new f1 _)).mono ?_
  rintro e v2 ⟨rfl, f2⟩
  go_wp2_with fail
  go_ret
  exact ⟨rfl, f2⟩
section
theorem room_m_leaf (f : Nat) (v : Value) (W : World) : (method (f + 1) 64 v "orangery/node.room").run Try.prog W = .ok (110, v) W := by kernel_rfl
attribute [local go_sem] room_m_leaf
attribute [local go_sem ↓] nod_ld
/-- node.Fits, given what node.Check and node.Bytes tell. -/
theorem nfits_leaf {w : World} {P Q : Prop} {x : Int} (hQ : Q ↔ P ∧ x ≤ 248)
    (cC : ∀ W, Fr w W → Calls Try.prog 15 #[.agg #[.bool true, .slice A1 n1 c1, .slice A2 n2 c2, .slice A3 n3 c3, .slice A4 n4 c4]] W fun e w' => (∃ b, e = .returned (.bool b) ∧ (b = true ↔ P)) ∧ Fr W w')
    (cB : P → ∀ W, Fr w W → Calls Try.prog 13 #[.agg #[.bool true, .slice A1 n1 c1, .slice A2 n2 c2, .slice A3 n3 c3, .slice A4 n4 c4]] W fun e w' => e = .returned (.int .i64 x) ∧ Fr W w') :
    Calls Try.prog 16 #[.agg #[.bool true, .slice A1 n1 c1, .slice A2 n2 c2, .slice A3 n3 c3, .slice A4 n4 c4]] w fun e w' => (∃ b, e = .returned (.bool b) ∧ (b = true ↔ Q)) ∧ Fr w w' := by
  have hw := fr_refl w
  obtain ⟨Z, hZ, hF, hZZ, hG⟩ : ∃ Z, w.alloc (.cells #[.bool true, .slice A1 n1 c1, .slice A2 n2 c2, .slice A3 n3 c3, .slice A4 n4 c4] 27) = Z ∧ Fr w Z ∧ Fr Z Z ∧ Arr Z w.heap.size 27 [.bool true, .slice A1 n1 c1, .slice A2 n2 c2, .slice A3 n3 c3, .slice A4 n4 c4].toArray := ⟨_, rfl, fr_new (fr_refl w) _, fr_refl _, Arr.new _ _ _⟩
  have lN : ∀ W, Fr Z W → (ldS 27 (.pointer (some ⟨w.heap.size, 0, none⟩))).run Try.prog W = .ok (.agg #[.bool true, .slice A1 n1 c1, .slice A2 n2 c2, .slice A3 n3 c3, .slice A4 n4 c4]) W := fun W h => nodS.ld rfl (hG.below h hG.lt)
  have cK : ∀ W, Fr Z W → Calls Try.prog 36 #[.agg #[.bool true, .slice A1 n1 c1, .slice A2 n2 c2, .slice A3 n3 c3, .slice A4 n4 c4]] W fun e w' => e = .returned (.iface 64 (.agg #[.bool true, .slice A1 n1 c1, .slice A2 n2 c2, .slice A3 n3 c3, .slice A4 n4 c4])) ∧ Fr Z w' := fun W h => kind_leaf h
  have cR : ∀ W, Fr Z W → Calls Try.prog 110 #[.agg #[.bool true, .slice A1 n1 c1, .slice A2 n2 c2, .slice A3 n3 c3, .slice A4 n4 c4]] W fun e w' => e = .returned (.int .i64 248) ∧ Fr Z w' := fun W h => room_leaf h
  by_cases hP : P
  · have cC1 : ∀ W, Fr Z W → Calls Try.prog 15 #[.agg #[.bool true, .slice A1 n1 c1, .slice A2 n2 c2, .slice A3 n3 c3, .slice A4 n4 c4]] W fun e w' => e = .returned (.bool true) ∧ Fr Z w' := fun W h => (cC W (fr_step hF h)).mono fun e w' h => by
      obtain ⟨⟨b, h1, h2⟩, h3⟩ := h
      rw [h2.2 hP] at h1
      exact ⟨h1, fr_step h h3⟩
    have cB1 : ∀ W, Fr Z W → Calls Try.prog 13 #[.agg #[.bool true, .slice A1 n1 c1, .slice A2 n2 c2, .slice A3 n3 c3, .slice A4 n4 c4]] W fun e w' => e = .returned (.int .i64 x) ∧ Fr Z w' := fun W h => (cB hP W (fr_step hF h)).mono fun _ _ ⟨h1, h2⟩ => ⟨h1, fr_step h h2⟩
    have H : Hid (decide (x ≤ 248) = true ↔ Q) := keep (by rw [hQ, decide_eq_true_iff]; simp [hP])
    clear hQ cC cB hG
    go_enter Try.func16, Try.ntmps16
    go_wp2_with fail
    refine wp_region_noPanic ?_
    refine wp_region_held_drew (S := fun w' => Fr Z w') (by kernel_rfl) (fr_drew hZZ) (fun hHeld => ?_)
    change wpAnyH _ _ _ _ _ _ _ _ _
    refine wpAnyH_take (i := 0) (v := ?_) rfl (by kernel_rfl) (by kernel_rfl) (by kernel_rfl) (fun _ _ _ h => h) (Or.inl ⟨by rfl, ?_⟩) (by assumption) ?_
    rotate_left
    · intro w' hSw
      try dsimp only at hSw
      go_simp
      try with_reducible rfl
    try simp only [List.getElem_toArray, List.getElem_cons_zero, Act.put, List.setIfInBounds_toArray, List.set_cons_zero, List.set_cons_succ]
    refine wpAnyH_ready (rs := [1]) (by kernel_rfl) (by simp) ?_
    refine AllReadyH.cons rfl (fun K hK0 => ?_) AllReadyH.nil
    go_simp
    refine (cC1 _ (by assumption)).mono ?_
    rintro e w3 ⟨rfl, zw3⟩
    go_simp
    refine hK0.out _ _ zw3 (fun _ => ?_)
    clear hK0 K
    try simp only [List.getElem_toArray, List.getElem_cons_succ, List.getElem_cons_zero, Act.put, List.setIfInBounds_toArray, List.set_cons_zero, List.set_cons_succ]
    refine wpAnyH_take (i := 2) (v := .bool true) rfl (by kernel_rfl) (by kernel_rfl) (by kernel_rfl) (fun _ _ _ h => h) (Or.inl ⟨by rfl, ?_⟩) (by assumption) ?_
    · intro w' hSw
      try dsimp only at hSw
      try go_simp
      all_goals first | done | with_reducible rfl | omega | assumption | (simp; omega)
    try simp only [List.getElem_toArray, List.getElem_cons_succ, List.getElem_cons_zero, Act.put, List.setIfInBounds_toArray, List.set_cons_zero, List.set_cons_succ]
    refine wpAnyH_take (i := 3) (v := ?_) rfl (by kernel_rfl) (by kernel_rfl) (by kernel_rfl) (fun _ _ _ h => h) (Or.inl ⟨by rfl, ?_⟩) (by assumption) ?_
    rotate_left
    · intro w' hSw
      try dsimp only at hSw
      go_simp
      try with_reducible rfl
    try simp only [List.getElem_toArray, List.getElem_cons_succ, List.getElem_cons_zero, Act.put, List.setIfInBounds_toArray, List.set_cons_zero, List.set_cons_succ]
    refine wpAnyH_take (i := 5) (v := ?_) rfl (by kernel_rfl) (by kernel_rfl) (by kernel_rfl) (fun _ _ _ h => h) (Or.inl ⟨by rfl, ?_⟩) (by assumption) ?_
    rotate_left
    · intro w' hSw
      try dsimp only at hSw
      go_simp
      try with_reducible rfl
    try simp only [List.getElem_toArray, List.getElem_cons_succ, List.getElem_cons_zero, Act.put, List.setIfInBounds_toArray, List.set_cons_zero, List.set_cons_succ]
    refine wpAnyH_ready (rs := [4]) (by kernel_rfl) (by simp) ?_
    refine AllReadyH.cons rfl (fun K hK0 => ?_) AllReadyH.nil
    go_simp
    refine (cB1 _ (by assumption)).mono ?_
    rintro e w4 ⟨rfl, zw4⟩
    go_simp
    refine hK0.out _ _ zw4 (fun _ => ?_)
    clear hK0 K
    try simp only [List.getElem_toArray, List.getElem_cons_succ, List.getElem_cons_zero, Act.put, List.setIfInBounds_toArray, List.set_cons_zero, List.set_cons_succ]
    refine wpAnyH_ready (rs := [6]) (by kernel_rfl) (by simp) ?_
    refine AllReadyH.cons rfl (fun K hK0 => ?_) AllReadyH.nil
    go_simp
    refine (cK _ (by assumption)).mono ?_
    rintro e w5 ⟨rfl, zw5⟩
    go_simp
    refine hK0.out _ _ zw5 (fun _ => ?_)
    clear hK0 K
    try simp only [List.getElem_toArray, List.getElem_cons_succ, List.getElem_cons_zero, Act.put, List.setIfInBounds_toArray, List.set_cons_zero, List.set_cons_succ]
    refine wpAnyH_ready (rs := [7]) (by kernel_rfl) (by simp) ?_
    refine AllReadyH.cons rfl (fun K hK0 => ?_) AllReadyH.nil
    go_simp
    refine (cR _ (by assumption)).mono ?_
    rintro e w6 ⟨rfl, zw6⟩
    go_simp
    refine hK0.out _ _ zw6 (fun _ => ?_)
    clear hK0 K
    try simp only [List.getElem_toArray, List.getElem_cons_succ, List.getElem_cons_zero, Act.put, List.setIfInBounds_toArray, List.set_cons_zero, List.set_cons_succ]
    refine wpAnyH_take (i := 8) (v := ?_) rfl (by kernel_rfl) (by kernel_rfl) (by kernel_rfl) (fun _ _ _ h => h) (Or.inl ⟨by rfl, ?_⟩) (by assumption) ?_
    rotate_left
    · intro w' hSw
      try dsimp only at hSw
      go_simp
      try with_reducible rfl
    try simp only [List.getElem_toArray, List.getElem_cons_succ, List.getElem_cons_zero, Act.put, List.setIfInBounds_toArray, List.set_cons_zero, List.set_cons_succ]
    refine wpAnyH_take (i := 9) (v := ?_) rfl (by kernel_rfl) (by kernel_rfl) (by kernel_rfl) (fun _ _ _ h => h) (Or.inl ⟨by rfl, ?_⟩) (by assumption) ?_
    rotate_left
    · intro w' hSw
      try dsimp only at hSw
      go_simp
      try with_reducible rfl
    try simp only [List.getElem_toArray, List.getElem_cons_succ, List.getElem_cons_zero, Act.put, List.setIfInBounds_toArray, List.set_cons_zero, List.set_cons_succ]
    refine wpAnyH_take (i := 10) (v := ?_) rfl (by kernel_rfl) (by kernel_rfl) (by kernel_rfl) (fun _ _ _ h => h) (Or.inl ⟨by rfl, ?_⟩) (by assumption) ?_
    rotate_left
    · intro w' hSw
      try dsimp only at hSw
      go_simp
      try with_reducible rfl
    try simp only [List.getElem_toArray, List.getElem_cons_succ, List.getElem_cons_zero, Act.put, List.setIfInBounds_toArray, List.set_cons_zero, List.set_cons_succ]
    refine wpAnyH_done (by kernel_rfl) ?_ _
    refine NoPanic.normal ?_
    go_wp2_with fail
    go_ret
    exact ⟨⟨_, rfl, H.out⟩, fr_step hF (by assumption)⟩
  · have H : Hid (¬ Q) := keep (by rw [hQ]; simp [hP])
    have cC1 : ∀ W, Fr Z W → Calls Try.prog 15 #[.agg #[.bool true, .slice A1 n1 c1, .slice A2 n2 c2, .slice A3 n3 c3, .slice A4 n4 c4]] W fun e w' => e = .returned (.bool false) ∧ Fr Z w' := fun W h => (cC W (fr_step hF h)).mono fun e w' h' => by
      obtain ⟨⟨b, h1, h2⟩, h3⟩ := h'
      cases b
      · exact ⟨h1, fr_step h h3⟩
      · exact absurd (h2.1 rfl) hP
    clear hQ cC cB hG cK cR
    go_enter Try.func16, Try.ntmps16
    go_wp2_with fail
    refine wp_region_noPanic ?_
    refine wp_region_held_drew (S := fun w' => Fr Z w') (by kernel_rfl) (fr_drew hZZ) (fun hHeld => ?_)
    change wpAnyH _ _ _ _ _ _ _ _ _
    refine wpAnyH_take (i := 0) (v := ?_) rfl (by kernel_rfl) (by kernel_rfl) (by kernel_rfl) (fun _ _ _ h => h) (Or.inl ⟨by rfl, ?_⟩) (by assumption) ?_
    rotate_left
    · intro w' hSw
      try dsimp only at hSw
      go_simp
      try with_reducible rfl
    try simp only [List.getElem_toArray, List.getElem_cons_zero, Act.put, List.setIfInBounds_toArray, List.set_cons_zero, List.set_cons_succ]
    refine wpAnyH_ready (rs := [1]) (by kernel_rfl) (by simp) ?_
    refine AllReadyH.cons rfl (fun K hK0 => ?_) AllReadyH.nil
    go_simp
    refine (cC1 _ (by assumption)).mono ?_
    rintro e w3 ⟨rfl, zw3⟩
    go_simp
    refine hK0.out _ _ zw3 (fun _ => ?_)
    clear hK0 K
    try simp only [List.getElem_toArray, List.getElem_cons_succ, List.getElem_cons_zero, Act.put, List.setIfInBounds_toArray, List.set_cons_zero, List.set_cons_succ]
    refine wpAnyH_take (i := 2) (v := .bool false) rfl (by kernel_rfl) (by kernel_rfl) (by kernel_rfl) (fun _ _ _ h => h) (Or.inl ⟨by rfl, ?_⟩) (by assumption) ?_
    · intro w' hSw
      try dsimp only at hSw
      try go_simp
      all_goals first | done | with_reducible rfl | omega | assumption | (simp; omega)
    try simp only [List.getElem_toArray, List.getElem_cons_succ, List.getElem_cons_zero, Act.put, List.setIfInBounds_toArray, List.set_cons_zero, List.set_cons_succ]
    refine wpAnyH_take (i := 3) (v := undef) rfl (by kernel_rfl) (by kernel_rfl) (by kernel_rfl) (fun _ _ _ h => h) (Or.inr ⟨by rfl, rfl⟩) (by assumption) ?_
    try simp only [List.getElem_toArray, List.getElem_cons_succ, List.getElem_cons_zero, Act.put, List.setIfInBounds_toArray, List.set_cons_zero, List.set_cons_succ]
    refine wpAnyH_take (i := 4) (v := undef) rfl (by kernel_rfl) (by kernel_rfl) (by kernel_rfl) (fun _ _ _ h => h) (Or.inr ⟨by rfl, rfl⟩) (by assumption) ?_
    try simp only [List.getElem_toArray, List.getElem_cons_succ, List.getElem_cons_zero, Act.put, List.setIfInBounds_toArray, List.set_cons_zero, List.set_cons_succ]
    refine wpAnyH_take (i := 5) (v := undef) rfl (by kernel_rfl) (by kernel_rfl) (by kernel_rfl) (fun _ _ _ h => h) (Or.inr ⟨by rfl, rfl⟩) (by assumption) ?_
    try simp only [List.getElem_toArray, List.getElem_cons_succ, List.getElem_cons_zero, Act.put, List.setIfInBounds_toArray, List.set_cons_zero, List.set_cons_succ]
    refine wpAnyH_take (i := 6) (v := undef) rfl (by kernel_rfl) (by kernel_rfl) (by kernel_rfl) (fun _ _ _ h => h) (Or.inr ⟨by rfl, rfl⟩) (by assumption) ?_
    try simp only [List.getElem_toArray, List.getElem_cons_succ, List.getElem_cons_zero, Act.put, List.setIfInBounds_toArray, List.set_cons_zero, List.set_cons_succ]
    refine wpAnyH_take (i := 7) (v := undef) rfl (by kernel_rfl) (by kernel_rfl) (by kernel_rfl) (fun _ _ _ h => h) (Or.inr ⟨by rfl, rfl⟩) (by assumption) ?_
    try simp only [List.getElem_toArray, List.getElem_cons_succ, List.getElem_cons_zero, Act.put, List.setIfInBounds_toArray, List.set_cons_zero, List.set_cons_succ]
    refine wpAnyH_take (i := 8) (v := undef) rfl (by kernel_rfl) (by kernel_rfl) (by kernel_rfl) (fun _ _ _ h => h) (Or.inr ⟨by rfl, rfl⟩) (by assumption) ?_
    try simp only [List.getElem_toArray, List.getElem_cons_succ, List.getElem_cons_zero, Act.put, List.setIfInBounds_toArray, List.set_cons_zero, List.set_cons_succ]
    refine wpAnyH_take (i := 9) (v := .bool false) rfl (by kernel_rfl) (by kernel_rfl) (by kernel_rfl) (fun _ _ _ h => h) (Or.inl ⟨by rfl, ?_⟩) (by assumption) ?_
    · intro w' hSw
      try dsimp only at hSw
      try go_simp
      all_goals first | done | with_reducible rfl | omega | assumption | (simp; omega)
    try simp only [List.getElem_toArray, List.getElem_cons_succ, List.getElem_cons_zero, Act.put, List.setIfInBounds_toArray, List.set_cons_zero, List.set_cons_succ]
    refine wpAnyH_take (i := 10) (v := ?_) rfl (by kernel_rfl) (by kernel_rfl) (by kernel_rfl) (fun _ _ _ h => h) (Or.inl ⟨by rfl, ?_⟩) (by assumption) ?_
    rotate_left
    · intro w' hSw
      try dsimp only at hSw
      go_simp
      try with_reducible rfl
    try simp only [List.getElem_toArray, List.getElem_cons_succ, List.getElem_cons_zero, Act.put, List.setIfInBounds_toArray, List.set_cons_zero, List.set_cons_succ]
    refine wpAnyH_done (by kernel_rfl) ?_ _
    refine NoPanic.normal ?_
    go_wp2_with fail
    go_ret
    exact ⟨⟨false, rfl, no_iff H.out⟩, fr_step hF (by assumption)⟩
end
section
theorem room_m_inner (f : Nat) (v : Value) (W : World) : (method (f + 1) 62 v "orangery/node.room").run Try.prog W = .ok (45, v) W := by kernel_rfl
attribute [local go_sem] room_m_inner
attribute [local go_sem ↓] nod_ld
/-- node.Fits, given what node.Check and node.Bytes tell. -/
theorem nfits_inner {w : World} {P Q : Prop} {x : Int} (hQ : Q ↔ P ∧ x ≤ 205)
    (cC : ∀ W, Fr w W → Calls Try.prog 15 #[.agg #[.bool false, .slice A1 n1 c1, .slice A2 n2 c2, .slice A3 n3 c3, .slice A4 n4 c4]] W fun e w' => (∃ b, e = .returned (.bool b) ∧ (b = true ↔ P)) ∧ Fr W w')
    (cB : P → ∀ W, Fr w W → Calls Try.prog 13 #[.agg #[.bool false, .slice A1 n1 c1, .slice A2 n2 c2, .slice A3 n3 c3, .slice A4 n4 c4]] W fun e w' => e = .returned (.int .i64 x) ∧ Fr W w') :
    Calls Try.prog 16 #[.agg #[.bool false, .slice A1 n1 c1, .slice A2 n2 c2, .slice A3 n3 c3, .slice A4 n4 c4]] w fun e w' => (∃ b, e = .returned (.bool b) ∧ (b = true ↔ Q)) ∧ Fr w w' := by
  have hw := fr_refl w
  obtain ⟨Z, hZ, hF, hZZ, hG⟩ : ∃ Z, w.alloc (.cells #[.bool false, .slice A1 n1 c1, .slice A2 n2 c2, .slice A3 n3 c3, .slice A4 n4 c4] 27) = Z ∧ Fr w Z ∧ Fr Z Z ∧ Arr Z w.heap.size 27 [.bool false, .slice A1 n1 c1, .slice A2 n2 c2, .slice A3 n3 c3, .slice A4 n4 c4].toArray := ⟨_, rfl, fr_new (fr_refl w) _, fr_refl _, Arr.new _ _ _⟩
  have lN : ∀ W, Fr Z W → (ldS 27 (.pointer (some ⟨w.heap.size, 0, none⟩))).run Try.prog W = .ok (.agg #[.bool false, .slice A1 n1 c1, .slice A2 n2 c2, .slice A3 n3 c3, .slice A4 n4 c4]) W := fun W h => nodS.ld rfl (hG.below h hG.lt)
  have cK : ∀ W, Fr Z W → Calls Try.prog 36 #[.agg #[.bool false, .slice A1 n1 c1, .slice A2 n2 c2, .slice A3 n3 c3, .slice A4 n4 c4]] W fun e w' => e = .returned (.iface 62 (.agg #[.bool false, .slice A1 n1 c1, .slice A2 n2 c2, .slice A3 n3 c3, .slice A4 n4 c4])) ∧ Fr Z w' := fun W h => kind_inner h
  have cR : ∀ W, Fr Z W → Calls Try.prog 45 #[.agg #[.bool false, .slice A1 n1 c1, .slice A2 n2 c2, .slice A3 n3 c3, .slice A4 n4 c4]] W fun e w' => e = .returned (.int .i64 205) ∧ Fr Z w' := fun W h => room_inner h
  by_cases hP : P
  · have cC1 : ∀ W, Fr Z W → Calls Try.prog 15 #[.agg #[.bool false, .slice A1 n1 c1, .slice A2 n2 c2, .slice A3 n3 c3, .slice A4 n4 c4]] W fun e w' => e = .returned (.bool true) ∧ Fr Z w' := fun W h => (cC W (fr_step hF h)).mono fun e w' h => by
      obtain ⟨⟨b, h1, h2⟩, h3⟩ := h
      rw [h2.2 hP] at h1
      exact ⟨h1, fr_step h h3⟩
    have cB1 : ∀ W, Fr Z W → Calls Try.prog 13 #[.agg #[.bool false, .slice A1 n1 c1, .slice A2 n2 c2, .slice A3 n3 c3, .slice A4 n4 c4]] W fun e w' => e = .returned (.int .i64 x) ∧ Fr Z w' := fun W h => (cB hP W (fr_step hF h)).mono fun _ _ ⟨h1, h2⟩ => ⟨h1, fr_step h h2⟩
    have H : Hid (decide (x ≤ 205) = true ↔ Q) := keep (by rw [hQ, decide_eq_true_iff]; simp [hP])
    clear hQ cC cB hG
    go_enter Try.func16, Try.ntmps16
    go_wp2_with fail
    refine wp_region_noPanic ?_
    refine wp_region_held_drew (S := fun w' => Fr Z w') (by kernel_rfl) (fr_drew hZZ) (fun hHeld => ?_)
    change wpAnyH _ _ _ _ _ _ _ _ _
    refine wpAnyH_take (i := 0) (v := ?_) rfl (by kernel_rfl) (by kernel_rfl) (by kernel_rfl) (fun _ _ _ h => h) (Or.inl ⟨by rfl, ?_⟩) (by assumption) ?_
    rotate_left
    · intro w' hSw
      try dsimp only at hSw
      go_simp
      try with_reducible rfl
    try simp only [List.getElem_toArray, List.getElem_cons_zero, Act.put, List.setIfInBounds_toArray, List.set_cons_zero, List.set_cons_succ]
    refine wpAnyH_ready (rs := [1]) (by kernel_rfl) (by simp) ?_
    refine AllReadyH.cons rfl (fun K hK0 => ?_) AllReadyH.nil
    go_simp
    refine (cC1 _ (by assumption)).mono ?_
    rintro e w3 ⟨rfl, zw3⟩
    go_simp
    refine hK0.out _ _ zw3 (fun _ => ?_)
    clear hK0 K
    try simp only [List.getElem_toArray, List.getElem_cons_succ, List.getElem_cons_zero, Act.put, List.setIfInBounds_toArray, List.set_cons_zero, List.set_cons_succ]
    refine wpAnyH_take (i := 2) (v := .bool true) rfl (by kernel_rfl) (by kernel_rfl) (by kernel_rfl) (fun _ _ _ h => h) (Or.inl ⟨by rfl, ?_⟩) (by assumption) ?_
    · intro w' hSw
      try dsimp only at hSw
      try go_simp
      all_goals first | done | with_reducible rfl | omega | assumption | (simp; omega)
    try simp only [List.getElem_toArray, List.getElem_cons_succ, List.getElem_cons_zero, Act.put, List.setIfInBounds_toArray, List.set_cons_zero, List.set_cons_succ]
    refine wpAnyH_take (i := 3) (v := ?_) rfl (by kernel_rfl) (by kernel_rfl) (by kernel_rfl) (fun _ _ _ h => h) (Or.inl ⟨by rfl, ?_⟩) (by assumption) ?_
    rotate_left
    · intro w' hSw
      try dsimp only at hSw
      go_simp
      try with_reducible rfl
    try simp only [List.getElem_toArray, List.getElem_cons_succ, List.getElem_cons_zero, Act.put, List.setIfInBounds_toArray, List.set_cons_zero, List.set_cons_succ]
    refine wpAnyH_take (i := 5) (v := ?_) rfl (by kernel_rfl) (by kernel_rfl) (by kernel_rfl) (fun _ _ _ h => h) (Or.inl ⟨by rfl, ?_⟩) (by assumption) ?_
    rotate_left
    · intro w' hSw
      try dsimp only at hSw
      go_simp
      try with_reducible rfl
    try simp only [List.getElem_toArray, List.getElem_cons_succ, List.getElem_cons_zero, Act.put, List.setIfInBounds_toArray, List.set_cons_zero, List.set_cons_succ]
    refine wpAnyH_ready (rs := [4]) (by kernel_rfl) (by simp) ?_
    refine AllReadyH.cons rfl (fun K hK0 => ?_) AllReadyH.nil
    go_simp
    refine (cB1 _ (by assumption)).mono ?_
    rintro e w4 ⟨rfl, zw4⟩
    go_simp
    refine hK0.out _ _ zw4 (fun _ => ?_)
    clear hK0 K
    try simp only [List.getElem_toArray, List.getElem_cons_succ, List.getElem_cons_zero, Act.put, List.setIfInBounds_toArray, List.set_cons_zero, List.set_cons_succ]
    refine wpAnyH_ready (rs := [6]) (by kernel_rfl) (by simp) ?_
    refine AllReadyH.cons rfl (fun K hK0 => ?_) AllReadyH.nil
    go_simp
    refine (cK _ (by assumption)).mono ?_
    rintro e w5 ⟨rfl, zw5⟩
    go_simp
    refine hK0.out _ _ zw5 (fun _ => ?_)
    clear hK0 K
    try simp only [List.getElem_toArray, List.getElem_cons_succ, List.getElem_cons_zero, Act.put, List.setIfInBounds_toArray, List.set_cons_zero, List.set_cons_succ]
    refine wpAnyH_ready (rs := [7]) (by kernel_rfl) (by simp) ?_
    refine AllReadyH.cons rfl (fun K hK0 => ?_) AllReadyH.nil
    go_simp
    refine (cR _ (by assumption)).mono ?_
    rintro e w6 ⟨rfl, zw6⟩
    go_simp
    refine hK0.out _ _ zw6 (fun _ => ?_)
    clear hK0 K
    try simp only [List.getElem_toArray, List.getElem_cons_succ, List.getElem_cons_zero, Act.put, List.setIfInBounds_toArray, List.set_cons_zero, List.set_cons_succ]
    refine wpAnyH_take (i := 8) (v := ?_) rfl (by kernel_rfl) (by kernel_rfl) (by kernel_rfl) (fun _ _ _ h => h) (Or.inl ⟨by rfl, ?_⟩) (by assumption) ?_
    rotate_left
    · intro w' hSw
      try dsimp only at hSw
      go_simp
      try with_reducible rfl
    try simp only [List.getElem_toArray, List.getElem_cons_succ, List.getElem_cons_zero, Act.put, List.setIfInBounds_toArray, List.set_cons_zero, List.set_cons_succ]
    refine wpAnyH_take (i := 9) (v := ?_) rfl (by kernel_rfl) (by kernel_rfl) (by kernel_rfl) (fun _ _ _ h => h) (Or.inl ⟨by rfl, ?_⟩) (by assumption) ?_
    rotate_left
    · intro w' hSw
      try dsimp only at hSw
      go_simp
      try with_reducible rfl
    try simp only [List.getElem_toArray, List.getElem_cons_succ, List.getElem_cons_zero, Act.put, List.setIfInBounds_toArray, List.set_cons_zero, List.set_cons_succ]
    refine wpAnyH_take (i := 10) (v := ?_) rfl (by kernel_rfl) (by kernel_rfl) (by kernel_rfl) (fun _ _ _ h => h) (Or.inl ⟨by rfl, ?_⟩) (by assumption) ?_
    rotate_left
    · intro w' hSw
      try dsimp only at hSw
      go_simp
      try with_reducible rfl
    try simp only [List.getElem_toArray, List.getElem_cons_succ, List.getElem_cons_zero, Act.put, List.setIfInBounds_toArray, List.set_cons_zero, List.set_cons_succ]
    refine wpAnyH_done (by kernel_rfl) ?_ _
    refine NoPanic.normal ?_
    go_wp2_with fail
    go_ret
    exact ⟨⟨_, rfl, H.out⟩, fr_step hF (by assumption)⟩
  · have H : Hid (¬ Q) := keep (by rw [hQ]; simp [hP])
    have cC1 : ∀ W, Fr Z W → Calls Try.prog 15 #[.agg #[.bool false, .slice A1 n1 c1, .slice A2 n2 c2, .slice A3 n3 c3, .slice A4 n4 c4]] W fun e w' => e = .returned (.bool false) ∧ Fr Z w' := fun W h => (cC W (fr_step hF h)).mono fun e w' h' => by
      obtain ⟨⟨b, h1, h2⟩, h3⟩ := h'
      cases b
      · exact ⟨h1, fr_step h h3⟩
      · exact absurd (h2.1 rfl) hP
    clear hQ cC cB hG cK cR
    go_enter Try.func16, Try.ntmps16
    go_wp2_with fail
    refine wp_region_noPanic ?_
    refine wp_region_held_drew (S := fun w' => Fr Z w') (by kernel_rfl) (fr_drew hZZ) (fun hHeld => ?_)
    change wpAnyH _ _ _ _ _ _ _ _ _
    refine wpAnyH_take (i := 0) (v := ?_) rfl (by kernel_rfl) (by kernel_rfl) (by kernel_rfl) (fun _ _ _ h => h) (Or.inl ⟨by rfl, ?_⟩) (by assumption) ?_
    rotate_left
    · intro w' hSw
      try dsimp only at hSw
      go_simp
      try with_reducible rfl
    try simp only [List.getElem_toArray, List.getElem_cons_zero, Act.put, List.setIfInBounds_toArray, List.set_cons_zero, List.set_cons_succ]
    refine wpAnyH_ready (rs := [1]) (by kernel_rfl) (by simp) ?_
    refine AllReadyH.cons rfl (fun K hK0 => ?_) AllReadyH.nil
    go_simp
    refine (cC1 _ (by assumption)).mono ?_
    rintro e w3 ⟨rfl, zw3⟩
    go_simp
    refine hK0.out _ _ zw3 (fun _ => ?_)
    clear hK0 K
    try simp only [List.getElem_toArray, List.getElem_cons_succ, List.getElem_cons_zero, Act.put, List.setIfInBounds_toArray, List.set_cons_zero, List.set_cons_succ]
    refine wpAnyH_take (i := 2) (v := .bool false) rfl (by kernel_rfl) (by kernel_rfl) (by kernel_rfl) (fun _ _ _ h => h) (Or.inl ⟨by rfl, ?_⟩) (by assumption) ?_
    · intro w' hSw
      try dsimp only at hSw
      try go_simp
      all_goals first | done | with_reducible rfl | omega | assumption | (simp; omega)
    try simp only [List.getElem_toArray, List.getElem_cons_succ, List.getElem_cons_zero, Act.put, List.setIfInBounds_toArray, List.set_cons_zero, List.set_cons_succ]
    refine wpAnyH_take (i := 3) (v := undef) rfl (by kernel_rfl) (by kernel_rfl) (by kernel_rfl) (fun _ _ _ h => h) (Or.inr ⟨by rfl, rfl⟩) (by assumption) ?_
    try simp only [List.getElem_toArray, List.getElem_cons_succ, List.getElem_cons_zero, Act.put, List.setIfInBounds_toArray, List.set_cons_zero, List.set_cons_succ]
    refine wpAnyH_take (i := 4) (v := undef) rfl (by kernel_rfl) (by kernel_rfl) (by kernel_rfl) (fun _ _ _ h => h) (Or.inr ⟨by rfl, rfl⟩) (by assumption) ?_
    try simp only [List.getElem_toArray, List.getElem_cons_succ, List.getElem_cons_zero, Act.put, List.setIfInBounds_toArray, List.set_cons_zero, List.set_cons_succ]
    refine wpAnyH_take (i := 5) (v := undef) rfl (by kernel_rfl) (by kernel_rfl) (by kernel_rfl) (fun _ _ _ h => h) (Or.inr ⟨by rfl, rfl⟩) (by assumption) ?_
    try simp only [List.getElem_toArray, List.getElem_cons_succ, List.getElem_cons_zero, Act.put, List.setIfInBounds_toArray, List.set_cons_zero, List.set_cons_succ]
    refine wpAnyH_take (i := 6) (v := undef) rfl (by kernel_rfl) (by kernel_rfl) (by kernel_rfl) (fun _ _ _ h => h) (Or.inr ⟨by rfl, rfl⟩) (by assumption) ?_
    try simp only [List.getElem_toArray, List.getElem_cons_succ, List.getElem_cons_zero, Act.put, List.setIfInBounds_toArray, List.set_cons_zero, List.set_cons_succ]
    refine wpAnyH_take (i := 7) (v := undef) rfl (by kernel_rfl) (by kernel_rfl) (by kernel_rfl) (fun _ _ _ h => h) (Or.inr ⟨by rfl, rfl⟩) (by assumption) ?_
    try simp only [List.getElem_toArray, List.getElem_cons_succ, List.getElem_cons_zero, Act.put, List.setIfInBounds_toArray, List.set_cons_zero, List.set_cons_succ]
    refine wpAnyH_take (i := 8) (v := undef) rfl (by kernel_rfl) (by kernel_rfl) (by kernel_rfl) (fun _ _ _ h => h) (Or.inr ⟨by rfl, rfl⟩) (by assumption) ?_
    try simp only [List.getElem_toArray, List.getElem_cons_succ, List.getElem_cons_zero, Act.put, List.setIfInBounds_toArray, List.set_cons_zero, List.set_cons_succ]
    refine wpAnyH_take (i := 9) (v := .bool false) rfl (by kernel_rfl) (by kernel_rfl) (by kernel_rfl) (fun _ _ _ h => h) (Or.inl ⟨by rfl, ?_⟩) (by assumption) ?_
    · intro w' hSw
      try dsimp only at hSw
      try go_simp
      all_goals first | done | with_reducible rfl | omega | assumption | (simp; omega)
    try simp only [List.getElem_toArray, List.getElem_cons_succ, List.getElem_cons_zero, Act.put, List.setIfInBounds_toArray, List.set_cons_zero, List.set_cons_succ]
    refine wpAnyH_take (i := 10) (v := ?_) rfl (by kernel_rfl) (by kernel_rfl) (by kernel_rfl) (fun _ _ _ h => h) (Or.inl ⟨by rfl, ?_⟩) (by assumption) ?_
    rotate_left
    · intro w' hSw
      try dsimp only at hSw
      go_simp
      try with_reducible rfl
    try simp only [List.getElem_toArray, List.getElem_cons_succ, List.getElem_cons_zero, Act.put, List.setIfInBounds_toArray, List.set_cons_zero, List.set_cons_succ]
    refine wpAnyH_done (by kernel_rfl) ?_ _
    refine NoPanic.normal ?_
    go_wp2_with fail
    go_ret
    exact ⟨⟨false, rfl, no_iff H.out⟩, fr_step hF (by assumption)⟩
end
/-- A row of weights, j of them told. -/
def wJ (wt : Nat → Int) (n j : Nat) : List Int := (List.range n).map fun i => if i < j then wt i else 0
theorem wJ_len (wt : Nat → Int) (n j : Nat) : (wJ wt n j).length = n := by simp [wJ]
theorem wJ_zero (wt : Nat → Int) (n : Nat) : wJ wt n 0 = List.replicate n 0 := by
  apply List.ext_getElem (by simp [wJ])
  intro i h1 h2
  simp [wJ]
theorem wJ_end (wt : Nat → Int) (n : Nat) : wJ wt n n = (List.range n).map wt := by
  apply List.ext_getElem (by simp [wJ])
  intro i h1 h2
  have h3 : i < n := by simpa using h2
  simp [wJ, h3]
theorem wJ_get {wt : Nat → Int} {n j : Nat} (h : j < n) : (wJ wt n j)[j]? = some 0 := by
  simp [wJ, h]
theorem wJ_set {wt : Nat → Int} {n j : Nat} (h : j < n) : (wJ wt n j).set j (wt j) = wJ wt n (j + 1) := by
  apply List.ext_getElem (by simp [wJ])
  intro i h1 h2
  rw [List.getElem_set]
  by_cases e : j = i
  · subst e; simp [wJ]
  · simp only [wJ, List.getElem_map, List.getElem_range, e, if_false]
    by_cases h5 : i < j
    · rw [if_pos h5, if_pos (by omega)]
    · rw [if_neg h5, if_neg (by omega)]
theorem ints_set (l : List Int) (j : Nat) (v : Int) : ints (l.set j v) = (ints l).set j (.int .i64 v) := by simp [ints, List.map_set]
theorem int_row : ∃ i, Try.prog.info? 3 = some i ∧ i.zero = some (.int .i64 0) ∧ i.size = 1 ∧ i.bytes = 8 := by
  have e1 : (Try.prog.info? 3).bind (·.zero) = some (.int .i64 0) := by kernel_rfl
  have e2 : (Try.prog.info? 3).map (·.size) = some 1 := by kernel_rfl
  have e3 : (Try.prog.info? 3).map (·.bytes) = some 8 := by kernel_rfl
  cases h : Try.prog.info? 3 with
  | none => rw [h] at e2; cases e2
  | some i =>
    rw [h] at e1 e2 e3
    exact ⟨i, rfl, by simpa using e1, by simpa using e2, by simpa using e3⟩
theorem make_ints (n : Nat) (hn : n ≤ 1048576) (W : World) : (Instr.makeSlice 22 (.int .i64 (n : Int)) (.int .i64 (n : Int))).run Try.prog W = .ok (.slice (some ⟨W.heap.size, 0, none⟩) n n) (W.alloc (.cells (ints (List.replicate n 0)).toArray 3)) := by
  obtain ⟨i, hi, hz, hs, hb⟩ := int_row
  have h := run_make (P := Try.prog) W 22 3 i _ Try.underlying22 hi hz .i64 .i64 n n (by omega) (Int.le_refl _) (by rw [hb]; omega) (by omega)
  rw [h, hs]
  congr 3
  apply Array.ext'
  simp [madeCells, Value.cells, ints]
  apply List.ext_getElem (by simp)
  intro j h1 h2
  simp [Nat.mod_one]
theorem nweights_inner {w : World} {wt : Nat → Int} (hn : n2 ≤ 100000)
    (cP : ∀ W (i : Nat), i < n2 → Fr w W → Calls Try.prog 38 #[.slice A4 n4 c4, .slice A3 n3 c3, .int .i64 i] W fun e w' => (∃ A n c, e = .returned (.slice A n c) ∧ (∀ W', Fr w' W' → Calls Try.prog 37 #[.slice A n c] W' fun e w'' => e = .returned (.int .i64 (wt i)) ∧ Fr W' w'')) ∧ Fr W w') :
    Calls Try.prog 11 #[.agg #[.bool false, .slice A1 n1 c1, .slice A2 n2 c2, .slice A3 n3 c3, .slice A4 n4 c4]] w fun e w' => ∃ A c, e = .returned (.slice A n2 c) ∧ Hid (Has w' w'.heap.size A (ints ((List.range n2).map wt))) ∧ Fr w w' := by
  have hw := fr_refl w
  have cK := fun W h => kind_inner (A1 := A1) (n1 := n1) (c1 := c1) (A2 := A2) (n2 := n2) (c2 := c2) (A3 := A3) (n3 := n3) (c3 := c3) (A4 := A4) (n4 := n4) (c4 := c4) (W0 := w) (W := W) h
  have hmk := make_ints n2 (by omega)
  have HP := keep cP
  clear cP
  go_enter Try.func11, Try.ntmps11
  go_wp2_with fail
  refine (cK _ (fr_new hw _)).mono ?_
  rintro e v1 ⟨rfl, f1⟩
  clear cK
  go_wp2_with fail
  go_loopg [17] n2 (fun g s17 wr => ∃ j : Nat, j + g = n2 ∧ s17 = .int .i64 j ∧ Hid (Arr wr v1.heap.size 62 #[.bool false, .slice A1 n1 c1, .slice A2 n2 c2, .slice A3 n3 c3, .slice A4 n4 c4]) ∧ Hid (Arr wr (v1.heap.size + 1) 3 (ints (wJ wt n2 j)).toArray) ∧ Hid (Fr v1 wr))
  case atStart =>
    refine ⟨0, by omega, rfl, keep ((Arr.new v1 _ _).alloc _), ?_, keep (fr_new (fr_new (fr_refl v1) _) _)⟩
    rw [wJ_zero]
    have := Arr.new (v1.alloc (.cells #[.bool false, .slice A1 n1 c1, .slice A2 n2 c2, .slice A3 n3 c3, .slice A4 n4 c4] 62)) (ints (List.replicate n2 0)).toArray 3
    exact keep (by simpa using this)
  case round =>
    obtain ⟨j, hj, rfl, hM, hO, hF⟩ := hrel
    have cl3 : wr.cell? ⟨v1.heap.size, 3, none⟩ = some (.slice A3 n3 c3) := hM.out.cell 3
    have cl4 : wr.cell? ⟨v1.heap.size, 4, none⟩ = some (.slice A4 n4 c4) := hM.out.cell 4
    by_cases hlt : j < n2
    · have hjz : (j : Int) < (n2 : Int) := by omega
      have cP1 := HP.out wr j hlt (fr_step f1 hF.out)
      have Hlt := keep hlt
      have Hj := keep hj
      clear hlt hj
      go_wp2_with fail
      refine cP1.mono ?_
      rintro e v2 ⟨⟨A, n, c, rfl, cB⟩, f2⟩
      go_wp2_with fail
      refine (cB _ (fr_refl _)).mono ?_
      rintro e v3 ⟨rfl, f3⟩
      have f23 := fr_step f2 f3
      have hO3 := hO.out.below f23 hO.out.lt
      have hM3 := hM.out.below f23 hM.out.lt
      have zc : v3.cell? ⟨v1.heap.size + 1, j, none⟩ = some (.int .i64 0) := by rw [hO3.cell, List.getElem?_toArray]; exact ints_get (wJ_get Hlt.out)
      have zf := hO3.free j
      go_wp2_with fail
      go_roundg (gk - 1)
      case measure => have := Hj.out; omega
      case rel => exact ⟨j + 1, by have := Hj.out; omega, by go_num, keep (hM3.other _ (by simp) _), keep (by
        have := hO3.set j (.int .i64 (wt j))
        rw [List.setIfInBounds_toArray, ← ints_set, wJ_set Hlt.out] at this
        exact this), keep ((fr_step hF.out f23).setCell (by simp) _)⟩
    · obtain rfl : j = n2 := by omega
      have hR := keep (arr_has _ hO.out)
      rw [wJ_end] at hR
      have hlt2 := hO.out.lt
      go_wp2_with fail
      go_ret
      exact ⟨_, _, rfl, keep (hR.out.mono (by omega)), fr_step f1 hF.out⟩
/-- f: the first place of the greatest of the first j numbers, m; none is above 0: -1 and 0. -/
def TopI (l : List Int) (j : Nat) (f m : Int) : Prop :=
  (f = -1 ∧ m = 0 ∧ ∀ i x, i < j → l[i]? = some x → x ≤ 0) ∨ (∃ a : Nat, f = (a : Int) ∧ a < j ∧ l[a]? = some m ∧ 0 < m ∧ (∀ i x, i < j → l[i]? = some x → x ≤ m) ∧ (∀ i x, i < a → l[i]? = some x → x < m))
theorem topI_zero (l : List Int) : TopI l 0 (-1) 0 := .inl ⟨rfl, rfl, fun i x h => by omega⟩
theorem TopI.nn {l : List Int} {j : Nat} {f m : Int} (h : TopI l j f m) : 0 ≤ m := by
  rcases h with ⟨_, h, _⟩ | ⟨_, _, _, _, h, _⟩ <;> omega
theorem TopI.rng {l : List Int} {j : Nat} {f m : Int} (h : TopI l j f m) : -1 ≤ f ∧ f < j := by
  rcases h with ⟨h, _, _⟩ | ⟨a, h, h2, _⟩ <;> omega
theorem topI_up {l : List Int} {j : Nat} {f m x : Int} (h : TopI l j f m) (hx : l[j]? = some x) (hlt : m < x) : TopI l (j + 1) (j : Int) x := by
  have h0 := h.nn
  refine .inr ⟨j, rfl, by omega, hx, by omega, fun i y hi hy => ?_, fun i y hi hy => ?_⟩
  · by_cases e : i = j
    · subst e; rw [hx] at hy; injection hy with hy; omega
    · rcases h with ⟨_, h1, h2⟩ | ⟨a, _, _, _, _, h2, _⟩
      · have := h2 i y (by omega) hy; omega
      · have := h2 i y (by omega) hy; omega
  · rcases h with ⟨_, h1, h2⟩ | ⟨a, _, _, _, _, h2, _⟩
    · have := h2 i y (by omega) hy; omega
    · have := h2 i y (by omega) hy; omega
theorem topI_stay {l : List Int} {j : Nat} {f m x : Int} (h : TopI l j f m) (hx : l[j]? = some x) (hlt : ¬ m < x) : TopI l (j + 1) f m := by
  rcases h with ⟨h1, h2, h3⟩ | ⟨a, h1, h2, h3, h4, h5, h6⟩
  · refine .inl ⟨h1, h2, fun i y hi hy => ?_⟩
    by_cases e : i = j
    · subst e; rw [hx] at hy; injection hy with hy; omega
    · exact h3 i y (by omega) hy
  · refine .inr ⟨a, h1, by omega, h3, h4, fun i y hi hy => ?_, h6⟩
    by_cases e : i = j
    · subst e; rw [hx] at hy; injection hy with hy; omega
    · exact h5 i y (by omega) hy
theorem topI_one {l : List Int} {j : Nat} {f m f2 m2 : Int} (h : TopI l j f m) (k : TopI l j f2 m2) : f = f2 := by
  rcases h with ⟨h1, h2, h3⟩ | ⟨a, h1, h2, h3, h4, h5, h6⟩
  · rcases k with ⟨k1, k2, k3⟩ | ⟨b, k1, k2, k3, k4, k5, k6⟩
    · omega
    · have := h3 b m2 k2 k3; omega
  · rcases k with ⟨k1, k2, k3⟩ | ⟨b, k1, k2, k3, k4, k5, k6⟩
    · have := k3 a m h2 h3; omega
    · have e1 := h5 b m2 k2 k3
      have e2 := k5 a m h2 h3
      obtain rfl : m = m2 := by omega
      rcases Nat.lt_trichotomy a b with hab | hab | hab
      · have := k6 a m hab h3; omega
      · omega
      · have := h6 b m hab k3; omega
/-- Heaviest, given the weights. -/
theorem nheaviest {w : World} {m : Nat} {wl : List Int} {lf : Bool} (hm : wl.length = m) (hs : m ≤ 100000)
    (cW : ∀ W, Fr w W → Calls Try.prog 11 #[.agg #[.bool lf, .slice A1 n1 c1, .slice A2 n2 c2, .slice A3 n3 c3, .slice A4 n4 c4]] W fun e w' => ∃ A c, e = .returned (.slice A m c) ∧ Hid (Has w' w'.heap.size A (ints wl)) ∧ Fr W w') :
    Calls Try.prog 17 #[.agg #[.bool lf, .slice A1 n1 c1, .slice A2 n2 c2, .slice A3 n3 c3, .slice A4 n4 c4]] w fun e w' => (∃ f x, e = .returned (.int .i64 f) ∧ TopI wl m f x) ∧ Fr w w' := by
  have hw := fr_refl w
  have Hm := keep hm
  clear hm
  go_enter Try.func17, Try.ntmps17
  go_wp2_with fail
  refine (cW _ (fr_new hw _)).mono ?_
  rintro e v1 ⟨A, c, rfl, hA, f1⟩
  replace f1 := keep (fr_step (fr_new hw _) f1)
  have vv := fr_refl v1
  clear cW
  go_wp2_with fail
  go_loopg [3, 4, 10] m (fun g s3 s4 s10 wr => ∃ (j : Nat) (f x : Int), j + g = m ∧ s10 = .int .i64 j ∧ s3 = .int .i64 f ∧ s4 = .int .i64 x ∧ Hid (TopI wl j f x) ∧ Hid (Fr v1 wr))
  case atStart => exact ⟨0, -1, 0, by omega, rfl, rfl, rfl, keep (topI_zero _), keep vv⟩
  case round =>
    obtain ⟨j, f, x, hj, rfl, rfl, rfl, hT, hF⟩ := hrel
    by_cases hlt : j < m
    · have hjz : (j : Int) < (m : Int) := by omega
      have hy : wl[j]? = some (wl[j]'(by rw [Hm.out]; exact hlt)) := List.getElem?_eq_getElem _
      generalize wl[j]'(by rw [Hm.out]; exact hlt) = y at hy
      have Hy := keep hy
      have hrow := hA.out.fr (Nat.le_refl _) hF.out
      obtain ⟨b, off, rfl, hb, hc⟩ := hrow j _ (ints_get hy)
      have Hj := keep hj
      clear hrow hb hlt hj hy
      by_cases hxy : x < y
      · have HS := keep (topI_up hT.out Hy.out hxy)
        go_wp2_with fail
        go_roundg (gk - 1)
        case measure => have := Hj.out; omega
        case rel => exact ⟨j + 1, (j : Int), y, by have := Hj.out; omega, by go_num, rfl, rfl, HS, hF⟩
      · have HS := keep (topI_stay hT.out Hy.out hxy)
        go_wp2_with fail
        go_roundg (gk - 1)
        case measure => have := Hj.out; omega
        case rel => exact ⟨j + 1, f, x, by have := Hj.out; omega, by go_num, rfl, rfl, HS, hF⟩
    · obtain rfl : j = m := by omega
      have hff := hF.out
      go_wp2_with fail
      go_ret
      exact ⟨⟨f, x, rfl, hT.out⟩, fr_step f1.out hff⟩
theorem nweights_leaf {w : World} : Calls Try.prog 11 #[.agg #[.bool true, .slice A1 n1 c1, .slice A2 n2 c2, .slice A3 n3 c3, .slice A4 n4 c4]] w fun e w' => e = .returned (.slice none 0 0) ∧ Fr w w' := by
  have hw := fr_refl w
  have cK := fun W h => kind_leaf (A1 := A1) (n1 := n1) (c1 := c1) (A2 := A2) (n2 := n2) (c2 := c2) (A3 := A3) (n3 := n3) (c3 := c3) (A4 := A4) (n4 := n4) (c4 := c4) (W0 := w) (W := W) h
  go_enter Try.func11, Try.ntmps11
  go_wp2_with fail
  refine (cK _ (fr_new hw _)).mono ?_
  rintro e v1 ⟨rfl, f1⟩
  go_wp2_with fail
  go_ret
  exact ⟨rfl, f1⟩
theorem nheavy_leaf {w : World} : Calls Try.prog 19 #[.agg #[.bool true, .slice A1 n1 c1, .slice A2 n2 c2, .slice A3 n3 c3, .slice A4 n4 c4]] w fun e w' => e = .returned (.bool false) ∧ Fr w w' := by
  have hw := fr_refl w
  have cK := fun W h => kind_leaf (A1 := A1) (n1 := n1) (c1 := c1) (A2 := A2) (n2 := n2) (c2 := c2) (A3 := A3) (n3 := n3) (c3 := c3) (A4 := A4) (n4 := n4) (c4 := c4) (W0 := w) (W := W) h
  go_enter Try.func19, Try.ntmps19
  go_wp2_with fail
  refine (cK _ (fr_new hw _)).mono ?_
  rintro e v1 ⟨rfl, f1⟩
  go_wp2_with fail
  go_ret
  exact ⟨rfl, f1⟩
section
theorem inn_info : (Try.prog.info? 62).map (·.size) = some 5 := by kernel_rfl
theorem innS : Sty Try.prog 62 5 := ⟨inn_info, _, Try.underlying62, rfl⟩
theorem inn_ld (p : Value) : Instr.loadAt 62 p = ldS 62 p := rfl
attribute [local go_sem ↓] inn_ld
theorem nheavy_inner {w : World} {x : Int} (hx : 0 ≤ x ∧ x ≤ 4000000)
    (cL : ∀ W, Fr w W → Calls Try.prog 37 #[.slice A4 n4 c4] W fun e w' => e = .returned (.int .i64 x) ∧ Fr W w') :
    Calls Try.prog 19 #[.agg #[.bool false, .slice A1 n1 c1, .slice A2 n2 c2, .slice A3 n3 c3, .slice A4 n4 c4]] w fun e w' => e = .returned (.bool (decide (205 ≤ 2 * x))) ∧ Fr w w' := by
  have hw := fr_refl w
  have cK := fun W h => kind_inner (A1 := A1) (n1 := n1) (c1 := c1) (A2 := A2) (n2 := n2) (c2 := c2) (A3 := A3) (n3 := n3) (c3 := c3) (A4 := A4) (n4 := n4) (c4 := c4) (W0 := w) (W := W) h
  have cR : ∀ W0 W, Fr W0 W → Calls Try.prog 45 #[.agg #[.bool false, .slice A1 n1 c1, .slice A2 n2 c2, .slice A3 n3 c3, .slice A4 n4 c4]] W fun e w' => e = .returned (.int .i64 205) ∧ Fr W0 w' := fun W0 W h => room_inner h
  have hw64 : IntKind.i64.wrap (2 * x) = 2 * x := by rw [IntKind.wrap_i64]; omega
  clear hx
  go_enter Try.func19, Try.ntmps19
  go_wp2_with fail
  refine (cK _ (fr_new hw _)).mono ?_
  rintro e v1 ⟨rfl, f1⟩
  clear cK
  obtain ⟨Y, hY, g1, hYY, hG⟩ : ∃ Y, v1.alloc (.cells #[.bool false, .slice A1 n1 c1, .slice A2 n2 c2, .slice A3 n3 c3, .slice A4 n4 c4] 62) = Y ∧ Fr v1 Y ∧ Fr Y Y ∧ Arr Y v1.heap.size 62 [.bool false, .slice A1 n1 c1, .slice A2 n2 c2, .slice A3 n3 c3, .slice A4 n4 c4].toArray := ⟨_, rfl, fr_new (fr_refl v1) _, fr_refl _, Arr.new _ _ _⟩
  have lN : ∀ W, Fr Y W → (ldS 62 (.pointer (some ⟨v1.heap.size, 0, none⟩))).run Try.prog W = .ok (.agg #[.bool false, .slice A1 n1 c1, .slice A2 n2 c2, .slice A3 n3 c3, .slice A4 n4 c4]) W := fun W h => innS.ld rfl (hG.below h hG.lt)
  have l4 : ∀ W, Fr Y W → W.cell? ⟨v1.heap.size, 4, none⟩ = some (.slice A4 n4 c4) := fun W h => (hG.below h hG.lt).cell 4
  replace f1 := fr_step f1 g1
  clear hG g1
  go_wp2_with fail
  refine wp_region_noPanic ?_
  refine wp_region_held_drew (S := fun w' => Fr Y w') (by kernel_rfl) (fr_drew hYY) (fun hHeld => ?_)
  change wpAnyH _ _ _ _ _ _ _ _ _
  refine wpAnyH_take (i := 0) (v := ?_) rfl (by kernel_rfl) (by kernel_rfl) (by kernel_rfl) (fun _ _ _ h => h) (Or.inl ⟨by rfl, ?_⟩) (by assumption) ?_
  rotate_left
  · intro w' hSw
    try dsimp only at hSw
    go_simp
    try with_reducible rfl
  try simp only [List.getElem_toArray, List.getElem_cons_zero, Act.put, List.setIfInBounds_toArray, List.set_cons_zero, List.set_cons_succ]
  refine wpAnyH_take (i := 1) (v := ?_) rfl (by kernel_rfl) (by kernel_rfl) (by kernel_rfl) (fun _ _ _ h => h) (Or.inl ⟨by rfl, ?_⟩) (by assumption) ?_
  rotate_left
  · intro w' hSw
    try dsimp only at hSw
    go_simp
    try with_reducible rfl
  try simp only [List.getElem_toArray, List.getElem_cons_succ, List.getElem_cons_zero, Act.put, List.setIfInBounds_toArray, List.set_cons_zero, List.set_cons_succ]
  refine wpAnyH_take (i := 4) (v := ?_) rfl (by kernel_rfl) (by kernel_rfl) (by kernel_rfl) (fun _ _ _ h => h) (Or.inl ⟨by rfl, ?_⟩) (by assumption) ?_
  rotate_left
  · intro w' hSw
    try dsimp only at hSw
    go_simp
    try with_reducible rfl
  try simp only [List.getElem_toArray, List.getElem_cons_succ, List.getElem_cons_zero, Act.put, List.setIfInBounds_toArray, List.set_cons_zero, List.set_cons_succ]
  refine wpAnyH_ready (rs := [2]) (by kernel_rfl) (by simp) ?_
  refine AllReadyH.cons rfl (fun K hK0 => ?_) AllReadyH.nil
  go_simp
  refine (cL _ (fr_step f1 (by assumption))).mono ?_
  rintro e w4 ⟨rfl, zw4⟩
  go_simp
  refine hK0.out _ _ (fr_step (by assumption) zw4) (fun _ => ?_)
  clear hK0 K
  try simp only [List.getElem_toArray, List.getElem_cons_succ, List.getElem_cons_zero, Act.put, List.setIfInBounds_toArray, List.set_cons_zero, List.set_cons_succ]
  refine wpAnyH_take (i := 3) (v := ?_) rfl (by kernel_rfl) (by kernel_rfl) (by kernel_rfl) (fun _ _ _ h => h) (Or.inl ⟨by rfl, ?_⟩) (by assumption) ?_
  rotate_left
  · intro w' hSw
    try dsimp only at hSw
    go_simp
    try with_reducible rfl
  try simp only [List.getElem_toArray, List.getElem_cons_succ, List.getElem_cons_zero, Act.put, List.setIfInBounds_toArray, List.set_cons_zero, List.set_cons_succ]
  refine wpAnyH_ready (rs := [5]) (by kernel_rfl) (by simp) ?_
  refine AllReadyH.cons rfl (fun K hK0 => ?_) AllReadyH.nil
  go_simp
  refine (cR _ _ (by assumption)).mono ?_
  rintro e w5 ⟨rfl, zw5⟩
  go_simp
  refine hK0.out _ _ zw5 (fun _ => ?_)
  clear hK0 K
  try simp only [List.getElem_toArray, List.getElem_cons_succ, List.getElem_cons_zero, Act.put, List.setIfInBounds_toArray, List.set_cons_zero, List.set_cons_succ]
  refine wpAnyH_take (i := 6) (v := ?_) rfl (by kernel_rfl) (by kernel_rfl) (by kernel_rfl) (fun _ _ _ h => h) (Or.inl ⟨by rfl, ?_⟩) (by assumption) ?_
  rotate_left
  · intro w' hSw
    try dsimp only at hSw
    go_simp
    try with_reducible rfl
  try simp only [List.getElem_toArray, List.getElem_cons_succ, List.getElem_cons_zero, Act.put, List.setIfInBounds_toArray, List.set_cons_zero, List.set_cons_succ]
  refine wpAnyH_take (i := 7) (v := ?_) rfl (by kernel_rfl) (by kernel_rfl) (by kernel_rfl) (fun _ _ _ h => h) (Or.inl ⟨by rfl, ?_⟩) (by assumption) ?_
  rotate_left
  · intro w' hSw
    try dsimp only at hSw
    go_simp
    try with_reducible rfl
  try simp only [List.getElem_toArray, List.getElem_cons_succ, List.getElem_cons_zero, Act.put, List.setIfInBounds_toArray, List.set_cons_zero, List.set_cons_succ]
  refine wpAnyH_done (by kernel_rfl) ?_ _
  refine NoPanic.normal ?_
  go_wp2_with fail
  go_ret
  exact ⟨rfl, fr_step f1 (by assumption)⟩
end
end
end Go.Proofs.Ytcdcaanmmbopbaa
