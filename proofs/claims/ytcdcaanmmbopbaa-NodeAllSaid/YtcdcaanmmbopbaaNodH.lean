/- NodeRaw, walked. -/
import Derived.Test.YtcdcaanmmbopbaaNodF
namespace Go.Proofs.Ytcdcaanmmbopbaa
set_option maxRecDepth 100000
open Go.RowKit
set_option linter.unusedVariables false
/-- The cells of v hold what n holds; no bound but a slice's own. -/
structure NR (W : World) (B : Nat) (v : NV) (n : RN) : Prop where
  lf : v.lf = n.lf
  hB : B ≤ W.heap.size
  h1 : Has W B v.A1 (rows ec n.es)
  l1 : n.es.length = v.n1
  s1 : v.n1 ≤ maxLen
  w1 : WfE n.es
  h2 : Has W B v.A2 (ints n.ks)
  l2 : n.ks.length = v.n2
  k2 : v.n2 ≤ v.c2
  s2 : v.n2 ≤ maxLen
  h3 : Has W B v.A3 (rows kc n.ps)
  l3 : n.ps.length = v.n3
  s3 : v.n3 ≤ maxLen
  w3 : WfK n.ps
  h4 : Has W B v.A4 (rows mc n.ms)
  l4 : n.ms.length = v.n4
  k4 : v.n4 ≤ v.c4
  s4 : v.n4 ≤ maxLen
  w4 : WfM n.ms
def fewV (v : NV) : Prop := v.n1 ≤ 80 ∧ v.n2 ≤ 20 ∧ v.n3 ≤ 20 ∧ v.n4 ≤ 60
theorem NR.nh {W : World} {B : Nat} {v : NV} {n : RN} (h : NR W B v n) (f : fewV v) : NH W B v n := by
  obtain ⟨f1, f2, f3, f4⟩ := f
  exact ⟨h.lf, h.hB, h.h1, h.l1, by omega, h.w1, h.h2, h.l2, h.k2, by omega, h.h3, h.l3, by omega, h.w3, h.h4, h.l4, h.k4, by omega, h.w4⟩
section
variable {A1 : Option Addr} {n1 c1 : Nat} {A2 : Option Addr} {n2 c2 : Nat} {A3 : Option Addr} {n3 c3 : Nat} {A4 : Option Addr} {n4 c4 : Nat}
theorem few_in {lf : Bool} {w : World} (b : Bool) (hb : b = true ↔ n1 ≤ 80 ∧ n2 ≤ 20 ∧ n3 ≤ 20 ∧ n4 ≤ 60) : Calls Try.prog 24 #[.agg #[.bool lf, .slice A1 n1 c1, .slice A2 n2 c2, .slice A3 n3 c3, .slice A4 n4 c4]] w fun e w' => e = .returned (.bool b) ∧ Fr w w' := by
  have hw := fr_refl w
  by_cases h0 : n1 ≤ 80
  · skip
    by_cases h1 : n2 ≤ 20
    · skip
      by_cases h2 : n3 ≤ 20
      · skip
        by_cases h3 : n4 ≤ 60
        · skip
          have q0 : (n1 : Int) ≤ 80 := by omega
          have q1 : (n2 : Int) ≤ 20 := by omega
          have q2 : (n3 : Int) ≤ 20 := by omega
          have q3 : (n4 : Int) ≤ 60 := by omega
          obtain rfl : b = true := hb.2 ⟨by omega, by omega, by omega, by omega⟩
          clear hb
          go_enter Try.func24, Try.ntmps24
          go_wp2_with fail
          go_ret
          exact ⟨rfl, fr_new hw _⟩
        · skip
          have q0 : (n1 : Int) ≤ 80 := by omega
          have q1 : (n2 : Int) ≤ 20 := by omega
          have q2 : (n3 : Int) ≤ 20 := by omega
          have q3 : ¬ (n4 : Int) ≤ 60 := by omega
          obtain rfl : b = false := by cases b; rfl; have := hb.1 rfl; omega
          clear hb
          go_enter Try.func24, Try.ntmps24
          go_wp2_with fail
          go_ret
          exact ⟨rfl, fr_new hw _⟩
      · skip
        have q0 : (n1 : Int) ≤ 80 := by omega
        have q1 : (n2 : Int) ≤ 20 := by omega
        have q2 : ¬ (n3 : Int) ≤ 20 := by omega
        obtain rfl : b = false := by cases b; rfl; have := hb.1 rfl; omega
        clear hb
        go_enter Try.func24, Try.ntmps24
        go_wp2_with fail
        go_ret
        exact ⟨rfl, fr_new hw _⟩
    · skip
      have q0 : (n1 : Int) ≤ 80 := by omega
      have q1 : ¬ (n2 : Int) ≤ 20 := by omega
      obtain rfl : b = false := by cases b; rfl; have := hb.1 rfl; omega
      clear hb
      go_enter Try.func24, Try.ntmps24
      go_wp2_with fail
      go_ret
      exact ⟨rfl, fr_new hw _⟩
  · skip
    have q0 : ¬ (n1 : Int) ≤ 80 := by omega
    obtain rfl : b = false := by cases b; rfl; have := hb.1 rfl; omega
    clear hb
    go_enter Try.func24, Try.ntmps24
    go_wp2_with fail
    go_ret
    exact ⟨rfl, fr_new hw _⟩
end
theorem q_few {W : World} (v : NV) (b : Bool) (hb : b = true ↔ fewV v) : Calls Try.prog 24 #[nv v] W fun e w' => e = .returned (.bool b) ∧ Fr W w' := few_in b hb
theorem bool_of (p : Prop) : ∃ b : Bool, (b = true ↔ p) := by
  by_cases h : p
  · exact ⟨true, by simp [h]⟩
  · exact ⟨false, by simp [h]⟩
theorem q_check_is {W : World} {B : Nat} {v : NV} {n : RN} (h : NH W B v n) {b : Bool} (hb : b = true ↔ OkN n) : Calls Try.prog 15 #[nv v] W fun e w' => e = .returned (.bool b) ∧ Fr W w' :=
  (q_check h).mono fun e w' ⟨⟨c, p, q⟩, f⟩ => ⟨by rw [p, bool_iff q hb], f⟩
theorem q_rcheck_is {W : World} {B : Nat} {v : NV} {n : RN} (h : NH W B v n) {b : Bool} (hb : b = true ↔ OkN n) : Calls Try.prog 25 #[nv v] W fun e w' => e = .returned (.bool b) ∧ Fr W w' :=
  (q_rcheck h).mono fun e w' ⟨⟨c, p, q⟩, f⟩ => ⟨by rw [p, bool_iff q hb], f⟩
theorem q_fits_is {W : World} {B : Nat} {v : NV} {n : RN} (h : NH W B v n) {b : Bool} (hb : b = true ↔ OkN n ∧ bytN n ≤ rmN n) : Calls Try.prog 16 #[nv v] W fun e w' => e = .returned (.bool b) ∧ Fr W w' :=
  (q_fits h).mono fun e w' ⟨⟨c, p, q⟩, f⟩ => ⟨by rw [p, bool_iff q hb], f⟩
theorem q_rfits_is {W : World} {B : Nat} {v : NV} {n : RN} (h : NH W B v n) {b : Bool} (hb : b = true ↔ OkN n ∧ bytN n ≤ rmN n) : Calls Try.prog 26 #[nv v] W fun e w' => e = .returned (.bool b) ∧ Fr W w' :=
  (q_rfits h).mono fun e w' ⟨⟨c, p, q⟩, f⟩ => ⟨by rw [p, bool_iff q hb], f⟩
attribute [local go_sem ↓] nod_ld
set_option maxHeartbeats 8000000 in
theorem nodeRaw_core {w : World} {v1 v2 : NV} {N1 N2 : RN} (r1 : NR w w.heap.size v1 N1) (r2 : NR w w.heap.size v2 N2) :
    Calls Try.prog 4 #[nv v1, nv v2] w fun e w' => e = .returned (.bool true) ∧ Below w.heap.size w w' := by
  have rr := fr_refl w
  obtain ⟨V, hV, hF, vv, hG, hG2⟩ : ∃ V, (w.alloc (.cells v1.cells.toArray 27)).alloc (.cells v2.cells.toArray 27) = V ∧ Fr w V ∧ Fr V V ∧ Arr V w.heap.size 27 v1.cells.toArray ∧ Arr V (w.heap.size + 1) 27 v2.cells.toArray :=
    ⟨_, rfl, fr_new (fr_new (fr_refl w) _) _, fr_refl _, (Arr.new w _ _).alloc _, by have := Arr.new (w.alloc (.cells v1.cells.toArray 27)) v2.cells.toArray 27; simpa using this⟩
  have l1 : ∀ W, Fr V W → (ldS 27 (.pointer (some ⟨w.heap.size, 0, none⟩))).run Try.prog W = .ok (.agg v1.cells.toArray) W := fun W h => nodS.ld rfl (hG.below h hG.lt)
  have l2 : ∀ W, Fr V W → (ldS 27 (.pointer (some ⟨w.heap.size + 1, 0, none⟩))).run Try.prog W = .ok (.agg v2.cells.toArray) W := fun W h => nodS.ld rfl (hG2.below h hG2.lt)
  have F1 : ∀ b : Bool, (b = true ↔ fewV v1) → ∀ W, Fr V W → Calls Try.prog 24 #[.agg v1.cells.toArray] W fun e w' => e = .returned (.bool b) ∧ Fr W w' := fun b hb W _ => q_few v1 b hb
  have F2 : ∀ b : Bool, (b = true ↔ fewV v2) → ∀ W, Fr V W → Calls Try.prog 24 #[.agg v2.cells.toArray] W fun e w' => e = .returned (.bool b) ∧ Fr W w' := fun b hb W _ => q_few v2 b hb
  clear hG hG2
  unfold nv
  by_cases f1 : fewV v1
  · have G1 := F1 true (by simp [f1])
    by_cases f2 : fewV v2
    · have G2 := F2 true (by simp [f2])
      have k1 := (r1.nh f1).fr hF
      have k2 := (r2.nh f2).fr hF
      obtain ⟨b1, hb1⟩ := bool_of (OkN N1)
      obtain ⟨b2, hb2⟩ := bool_of (OkN N1 ∧ bytN N1 ≤ rmN N1)
      have cC := fun W (h : Fr V W) => q_check_is (k1.fr h) hb1
      have cD := fun W (h : Fr V W) => q_rcheck_is (k1.fr h) hb1
      have cE := fun W (h : Fr V W) => q_fits_is (k1.fr h) hb2
      have cF := fun W (h : Fr V W) => q_rfits_is (k1.fr h) hb2
      have cG := fun W (h : Fr V W) => q_same (k1.fr h) (k2.fr h)
      have cH := fun W (h : Fr V W) => q_rsame (k1.fr h) (k2.fr h)
      have cI := fun W (h : Fr V W) => q_same (k1.fr h) (k1.fr h)
      rw [smN_self] at cI
      generalize smN N1 N2 = b3 at *
      have cW := fun W (h : Fr V W) => awake9 W
      unfold nv at cC cD cE cF cG cH cI
      clear F1 F2 f1 f2 r1 r2 k1 k2 hb1 hb2
      have e1 : (b1 == b1) = true := by simp
      have e2 : (b2 == b2) = true := by simp
      have e3 : (b3 == b3) = true := by simp
      go_enter Try.func4, Try.ntmps4
      go_wp2_with fail
      refine (G1 _ vv).mono ?_
      rintro e w1 ⟨rfl, g1⟩
      go_wp2_with fail
      refine (G2 _ g1).mono ?_
      rintro e w2 ⟨rfl, g2⟩
      replace g2 := fr_step g1 g2
      clear G1 G2 g1
      have hD := fr_drew g2
      go_wp2_with fail
      refine wp_region_noPanic ?_
      refine wp_region_held_drew (S := fun w' => Fr V w') (by kernel_rfl) hD (fun hHeld => ?_)
      change wpAnyH _ _ _ _ _ _ _ _ _
      refine wpAnyH_take (i := 0) (v := ?_) rfl (by kernel_rfl) (by kernel_rfl) (by kernel_rfl) (fun _ _ _ h => h) (Or.inl ⟨by rfl, ?_⟩) (by assumption) ?_
      rotate_left
      · intro w' hSw
        try dsimp only at hSw
        go_simp
        try with_reducible rfl
      try simp only [List.getElem_toArray, List.getElem_cons_zero, Act.put, List.setIfInBounds_toArray, List.set_cons_zero, List.set_cons_succ]
      refine wpAnyH_take (i := 2) (v := ?_) rfl (by kernel_rfl) (by kernel_rfl) (by kernel_rfl) (fun _ _ _ h => h) (Or.inl ⟨by rfl, ?_⟩) (by assumption) ?_
      rotate_left
      · intro w' hSw
        try dsimp only at hSw
        go_simp
        try with_reducible rfl
      try simp only [List.getElem_toArray, List.getElem_cons_succ, List.getElem_cons_zero, Act.put, List.setIfInBounds_toArray, List.set_cons_zero, List.set_cons_succ]
      refine wpAnyH_ready (rs := [1]) (by kernel_rfl) (by simp) ?_
      refine AllReadyH.cons rfl (fun K hK0 => ?_) AllReadyH.nil
      go_simp
      refine (cC _ (by assumption)).mono ?_
      rintro e z1 ⟨rfl, zz1⟩
      go_simp
      refine hK0.out _ _ (fr_step (by assumption) zz1) (fun _ => ?_)
      clear hK0 K
      try simp only [List.getElem_toArray, List.getElem_cons_succ, List.getElem_cons_zero, Act.put, List.setIfInBounds_toArray, List.set_cons_zero, List.set_cons_succ]
      refine wpAnyH_ready (rs := [3]) (by kernel_rfl) (by simp) ?_
      refine AllReadyH.cons rfl (fun K hK0 => ?_) AllReadyH.nil
      go_simp
      refine (cD _ (by assumption)).mono ?_
      rintro e z2 ⟨rfl, zz2⟩
      go_simp
      refine hK0.out _ _ (fr_step (by assumption) zz2) (fun _ => ?_)
      clear hK0 K
      try simp only [List.getElem_toArray, List.getElem_cons_succ, List.getElem_cons_zero, Act.put, List.setIfInBounds_toArray, List.set_cons_zero, List.set_cons_succ]
      refine wpAnyH_take (i := 4) (v := .bool true) rfl (by kernel_rfl) (by kernel_rfl) (by kernel_rfl) (fun _ _ _ h => h) (Or.inl ⟨by rfl, ?_⟩) (by assumption) ?_
      · intro w' hSw
        try dsimp only at hSw
        try go_simp
        all_goals first | done | with_reducible rfl | omega | assumption | (simp; omega)
      try simp only [List.getElem_toArray, List.getElem_cons_succ, List.getElem_cons_zero, Act.put, List.setIfInBounds_toArray, List.set_cons_zero, List.set_cons_succ]
      refine wpAnyH_take (i := 5) (v := .bool true) rfl (by kernel_rfl) (by kernel_rfl) (by kernel_rfl) (fun _ _ _ h => h) (Or.inl ⟨by rfl, ?_⟩) (by assumption) ?_
      · intro w' hSw
        try dsimp only at hSw
        try go_simp
        all_goals first | done | with_reducible rfl | omega | assumption | (simp; omega)
      try simp only [List.getElem_toArray, List.getElem_cons_succ, List.getElem_cons_zero, Act.put, List.setIfInBounds_toArray, List.set_cons_zero, List.set_cons_succ]
      refine wpAnyH_take (i := 6) (v := ?_) rfl (by kernel_rfl) (by kernel_rfl) (by kernel_rfl) (fun _ _ _ h => h) (Or.inl ⟨by rfl, ?_⟩) (by assumption) ?_
      rotate_left
      · intro w' hSw
        try dsimp only at hSw
        go_simp
        try with_reducible rfl
      try simp only [List.getElem_toArray, List.getElem_cons_succ, List.getElem_cons_zero, Act.put, List.setIfInBounds_toArray, List.set_cons_zero, List.set_cons_succ]
      refine wpAnyH_take (i := 8) (v := ?_) rfl (by kernel_rfl) (by kernel_rfl) (by kernel_rfl) (fun _ _ _ h => h) (Or.inl ⟨by rfl, ?_⟩) (by assumption) ?_
      rotate_left
      · intro w' hSw
        try dsimp only at hSw
        go_simp
        try with_reducible rfl
      try simp only [List.getElem_toArray, List.getElem_cons_succ, List.getElem_cons_zero, Act.put, List.setIfInBounds_toArray, List.set_cons_zero, List.set_cons_succ]
      refine wpAnyH_ready (rs := [7]) (by kernel_rfl) (by simp) ?_
      refine AllReadyH.cons rfl (fun K hK0 => ?_) AllReadyH.nil
      go_simp
      refine (cE _ (by assumption)).mono ?_
      rintro e z3 ⟨rfl, zz3⟩
      go_simp
      refine hK0.out _ _ (fr_step (by assumption) zz3) (fun _ => ?_)
      clear hK0 K
      try simp only [List.getElem_toArray, List.getElem_cons_succ, List.getElem_cons_zero, Act.put, List.setIfInBounds_toArray, List.set_cons_zero, List.set_cons_succ]
      refine wpAnyH_ready (rs := [9]) (by kernel_rfl) (by simp) ?_
      refine AllReadyH.cons rfl (fun K hK0 => ?_) AllReadyH.nil
      go_simp
      refine (cF _ (by assumption)).mono ?_
      rintro e z4 ⟨rfl, zz4⟩
      go_simp
      refine hK0.out _ _ (fr_step (by assumption) zz4) (fun _ => ?_)
      clear hK0 K
      try simp only [List.getElem_toArray, List.getElem_cons_succ, List.getElem_cons_zero, Act.put, List.setIfInBounds_toArray, List.set_cons_zero, List.set_cons_succ]
      refine wpAnyH_take (i := 10) (v := .bool true) rfl (by kernel_rfl) (by kernel_rfl) (by kernel_rfl) (fun _ _ _ h => h) (Or.inl ⟨by rfl, ?_⟩) (by assumption) ?_
      · intro w' hSw
        try dsimp only at hSw
        try go_simp
        all_goals first | done | with_reducible rfl | omega | assumption | (simp; omega)
      try simp only [List.getElem_toArray, List.getElem_cons_succ, List.getElem_cons_zero, Act.put, List.setIfInBounds_toArray, List.set_cons_zero, List.set_cons_succ]
      refine wpAnyH_take (i := 11) (v := .bool true) rfl (by kernel_rfl) (by kernel_rfl) (by kernel_rfl) (fun _ _ _ h => h) (Or.inl ⟨by rfl, ?_⟩) (by assumption) ?_
      · intro w' hSw
        try dsimp only at hSw
        try go_simp
        all_goals first | done | with_reducible rfl | omega | assumption | (simp; omega)
      try simp only [List.getElem_toArray, List.getElem_cons_succ, List.getElem_cons_zero, Act.put, List.setIfInBounds_toArray, List.set_cons_zero, List.set_cons_succ]
      refine wpAnyH_take (i := 12) (v := .bool true) rfl (by kernel_rfl) (by kernel_rfl) (by kernel_rfl) (fun _ _ _ h => h) (Or.inl ⟨by rfl, ?_⟩) (by assumption) ?_
      · intro w' hSw
        try dsimp only at hSw
        try go_simp
        all_goals first | done | with_reducible rfl | omega | assumption | (simp; omega)
      try simp only [List.getElem_toArray, List.getElem_cons_succ, List.getElem_cons_zero, Act.put, List.setIfInBounds_toArray, List.set_cons_zero, List.set_cons_succ]
      refine wpAnyH_take (i := 13) (v := ?_) rfl (by kernel_rfl) (by kernel_rfl) (by kernel_rfl) (fun _ _ _ h => h) (Or.inl ⟨by rfl, ?_⟩) (by assumption) ?_
      rotate_left
      · intro w' hSw
        try dsimp only at hSw
        go_simp
        try with_reducible rfl
      try simp only [List.getElem_toArray, List.getElem_cons_succ, List.getElem_cons_zero, Act.put, List.setIfInBounds_toArray, List.set_cons_zero, List.set_cons_succ]
      refine wpAnyH_take (i := 14) (v := ?_) rfl (by kernel_rfl) (by kernel_rfl) (by kernel_rfl) (fun _ _ _ h => h) (Or.inl ⟨by rfl, ?_⟩) (by assumption) ?_
      rotate_left
      · intro w' hSw
        try dsimp only at hSw
        go_simp
        try with_reducible rfl
      try simp only [List.getElem_toArray, List.getElem_cons_succ, List.getElem_cons_zero, Act.put, List.setIfInBounds_toArray, List.set_cons_zero, List.set_cons_succ]
      refine wpAnyH_take (i := 16) (v := ?_) rfl (by kernel_rfl) (by kernel_rfl) (by kernel_rfl) (fun _ _ _ h => h) (Or.inl ⟨by rfl, ?_⟩) (by assumption) ?_
      rotate_left
      · intro w' hSw
        try dsimp only at hSw
        go_simp
        try with_reducible rfl
      try simp only [List.getElem_toArray, List.getElem_cons_succ, List.getElem_cons_zero, Act.put, List.setIfInBounds_toArray, List.set_cons_zero, List.set_cons_succ]
      refine wpAnyH_take (i := 17) (v := ?_) rfl (by kernel_rfl) (by kernel_rfl) (by kernel_rfl) (fun _ _ _ h => h) (Or.inl ⟨by rfl, ?_⟩) (by assumption) ?_
      rotate_left
      · intro w' hSw
        try dsimp only at hSw
        go_simp
        try with_reducible rfl
      try simp only [List.getElem_toArray, List.getElem_cons_succ, List.getElem_cons_zero, Act.put, List.setIfInBounds_toArray, List.set_cons_zero, List.set_cons_succ]
      refine wpAnyH_ready (rs := [15]) (by kernel_rfl) (by simp) ?_
      refine AllReadyH.cons rfl (fun K hK0 => ?_) AllReadyH.nil
      go_simp
      refine (cG _ (by assumption)).mono ?_
      rintro e z5 ⟨rfl, zz5⟩
      go_simp
      refine hK0.out _ _ (fr_step (by assumption) zz5) (fun _ => ?_)
      clear hK0 K
      try simp only [List.getElem_toArray, List.getElem_cons_succ, List.getElem_cons_zero, Act.put, List.setIfInBounds_toArray, List.set_cons_zero, List.set_cons_succ]
      refine wpAnyH_ready (rs := [18]) (by kernel_rfl) (by simp) ?_
      refine AllReadyH.cons rfl (fun K hK0 => ?_) AllReadyH.nil
      go_simp
      refine (cH _ (by assumption)).mono ?_
      rintro e z6 ⟨rfl, zz6⟩
      go_simp
      refine hK0.out _ _ (fr_step (by assumption) zz6) (fun _ => ?_)
      clear hK0 K
      try simp only [List.getElem_toArray, List.getElem_cons_succ, List.getElem_cons_zero, Act.put, List.setIfInBounds_toArray, List.set_cons_zero, List.set_cons_succ]
      refine wpAnyH_take (i := 19) (v := .bool true) rfl (by kernel_rfl) (by kernel_rfl) (by kernel_rfl) (fun _ _ _ h => h) (Or.inl ⟨by rfl, ?_⟩) (by assumption) ?_
      · intro w' hSw
        try dsimp only at hSw
        try go_simp
        all_goals first | done | with_reducible rfl | omega | assumption | (simp; omega)
      try simp only [List.getElem_toArray, List.getElem_cons_succ, List.getElem_cons_zero, Act.put, List.setIfInBounds_toArray, List.set_cons_zero, List.set_cons_succ]
      refine wpAnyH_take (i := 20) (v := .bool true) rfl (by kernel_rfl) (by kernel_rfl) (by kernel_rfl) (fun _ _ _ h => h) (Or.inl ⟨by rfl, ?_⟩) (by assumption) ?_
      · intro w' hSw
        try dsimp only at hSw
        try go_simp
        all_goals first | done | with_reducible rfl | omega | assumption | (simp; omega)
      try simp only [List.getElem_toArray, List.getElem_cons_succ, List.getElem_cons_zero, Act.put, List.setIfInBounds_toArray, List.set_cons_zero, List.set_cons_succ]
      refine wpAnyH_take (i := 21) (v := .bool true) rfl (by kernel_rfl) (by kernel_rfl) (by kernel_rfl) (fun _ _ _ h => h) (Or.inl ⟨by rfl, ?_⟩) (by assumption) ?_
      · intro w' hSw
        try dsimp only at hSw
        try go_simp
        all_goals first | done | with_reducible rfl | omega | assumption | (simp; omega)
      try simp only [List.getElem_toArray, List.getElem_cons_succ, List.getElem_cons_zero, Act.put, List.setIfInBounds_toArray, List.set_cons_zero, List.set_cons_succ]
      refine wpAnyH_take (i := 22) (v := ?_) rfl (by kernel_rfl) (by kernel_rfl) (by kernel_rfl) (fun _ _ _ h => h) (Or.inl ⟨by rfl, ?_⟩) (by assumption) ?_
      rotate_left
      · intro w' hSw
        try dsimp only at hSw
        go_simp
        try with_reducible rfl
      try simp only [List.getElem_toArray, List.getElem_cons_succ, List.getElem_cons_zero, Act.put, List.setIfInBounds_toArray, List.set_cons_zero, List.set_cons_succ]
      refine wpAnyH_take (i := 23) (v := ?_) rfl (by kernel_rfl) (by kernel_rfl) (by kernel_rfl) (fun _ _ _ h => h) (Or.inl ⟨by rfl, ?_⟩) (by assumption) ?_
      rotate_left
      · intro w' hSw
        try dsimp only at hSw
        go_simp
        try with_reducible rfl
      try simp only [List.getElem_toArray, List.getElem_cons_succ, List.getElem_cons_zero, Act.put, List.setIfInBounds_toArray, List.set_cons_zero, List.set_cons_succ]
      refine wpAnyH_ready (rs := [24]) (by kernel_rfl) (by simp) ?_
      refine AllReadyH.cons rfl (fun K hK0 => ?_) AllReadyH.nil
      go_simp
      refine (cI _ (by assumption)).mono ?_
      rintro e z7 ⟨rfl, zz7⟩
      go_simp
      refine hK0.out _ _ (fr_step (by assumption) zz7) (fun _ => ?_)
      clear hK0 K
      try simp only [List.getElem_toArray, List.getElem_cons_succ, List.getElem_cons_zero, Act.put, List.setIfInBounds_toArray, List.set_cons_zero, List.set_cons_succ]
      refine wpAnyH_take (i := 25) (v := .bool true) rfl (by kernel_rfl) (by kernel_rfl) (by kernel_rfl) (fun _ _ _ h => h) (Or.inl ⟨by rfl, ?_⟩) (by assumption) ?_
      · intro w' hSw
        try dsimp only at hSw
        try go_simp
        all_goals first | done | with_reducible rfl | omega | assumption | (simp; omega)
      try simp only [List.getElem_toArray, List.getElem_cons_succ, List.getElem_cons_zero, Act.put, List.setIfInBounds_toArray, List.set_cons_zero, List.set_cons_succ]
      refine wpAnyH_take (i := 26) (v := .bool true) rfl (by kernel_rfl) (by kernel_rfl) (by kernel_rfl) (fun _ _ _ h => h) (Or.inl ⟨by rfl, ?_⟩) (by assumption) ?_
      · intro w' hSw
        try dsimp only at hSw
        try go_simp
        all_goals first | done | with_reducible rfl | omega | assumption | (simp; omega)
      try simp only [List.getElem_toArray, List.getElem_cons_succ, List.getElem_cons_zero, Act.put, List.setIfInBounds_toArray, List.set_cons_zero, List.set_cons_succ]
      refine wpAnyH_ready (rs := [27]) (by kernel_rfl) (by simp) ?_
      refine AllReadyH.cons rfl (fun K hK0 => ?_) AllReadyH.nil
      go_simp
      refine (cW _ (by assumption)).mono ?_
      rintro e z8 ⟨rfl, zz8⟩
      go_simp
      refine hK0.out _ _ (fr_step (by assumption) zz8) (fun _ => ?_)
      clear hK0 K
      try simp only [List.getElem_toArray, List.getElem_cons_succ, List.getElem_cons_zero, Act.put, List.setIfInBounds_toArray, List.set_cons_zero, List.set_cons_succ]
      refine wpAnyH_take (i := 28) (v := .bool true) rfl (by kernel_rfl) (by kernel_rfl) (by kernel_rfl) (fun _ _ _ h => h) (Or.inl ⟨by rfl, ?_⟩) (by assumption) ?_
      · intro w' hSw
        try dsimp only at hSw
        try go_simp
        all_goals first | done | with_reducible rfl | omega | assumption | (simp; omega)
      try simp only [List.getElem_toArray, List.getElem_cons_succ, List.getElem_cons_zero, Act.put, List.setIfInBounds_toArray, List.set_cons_zero, List.set_cons_succ]
      refine wpAnyH_take (i := 29) (v := ?_) rfl (by kernel_rfl) (by kernel_rfl) (by kernel_rfl) (fun _ _ _ h => h) (Or.inl ⟨by rfl, ?_⟩) (by assumption) ?_
      rotate_left
      · intro w' hSw
        try dsimp only at hSw
        go_simp
        try with_reducible rfl
      try simp only [List.getElem_toArray, List.getElem_cons_succ, List.getElem_cons_zero, Act.put, List.setIfInBounds_toArray, List.set_cons_zero, List.set_cons_succ]
      refine wpAnyH_done (by kernel_rfl) ?_ _
      refine NoPanic.normal ?_
      go_wp2_with fail
      go_ret
      exact ⟨rfl, fr_step hF (by assumption)⟩
    · have G2 := F2 false (by simp [f2])
      clear F1 F2 r1 r2
      go_enter Try.func4, Try.ntmps4
      go_wp2_with fail
      refine (G1 _ vv).mono ?_
      rintro e w1 ⟨rfl, g1⟩
      go_wp2_with fail
      refine (G2 _ g1).mono ?_
      rintro e w2 ⟨rfl, g2⟩
      go_wp2_with fail
      refine (awake9 _).mono ?_
      rintro e w7 ⟨rfl, f7⟩
      go_wp2_with fail
      go_ret
      exact ⟨rfl, fr_step hF (fr_step (fr_step g1 g2) f7)⟩
  · have G1 := F1 false (by simp [f1])
    clear F1 F2 r1 r2
    go_enter Try.func4, Try.ntmps4
    go_wp2_with fail
    refine (G1 _ vv).mono ?_
    rintro e w1 ⟨rfl, g1⟩
    go_wp2_with fail
    refine (awake9 _).mono ?_
    rintro e w7 ⟨rfl, f7⟩
    go_wp2_with fail
    go_ret
    exact ⟨rfl, fr_step hF (fr_step g1 f7)⟩
end Go.Proofs.Ytcdcaanmmbopbaa
