/- The chapter's examples (awake). -/
import Derived.Test.YtcdcaanmmbopbaaNodE
namespace Go.Proofs.Ytcdcaanmmbopbaa
set_option maxRecDepth 100000
open Go.RowKit
set_option linter.unusedVariables false
attribute [local go_sem ↓] nod_ld
theorem aw9_ms : msgsL [] 205 = [] := rfl
theorem aw9_one : (msgsL [0] 205).length = 1 := by decide +kernel
theorem wtsN_kids {n : RN} (h : n.lf = false) : (wtsN n).length = n.ks.length := by
  unfold wtsN
  rw [if_neg (by rw [h]; exact Bool.false_ne_true), List.length_map, List.length_range]
theorem smN_lf {a b : RN} (h : a.lf = true) (k : b.lf = false) : smN a b = false := by unfold smN; rw [h, k]; rfl
theorem q_ok {W : World} {B : Nat} {v : NV} {n : RN} (h : NH W B v n) (ok : OkN n) : Calls Try.prog 15 #[nv v] W fun e w' => e = .returned (.bool true) ∧ Fr W w' :=
  (q_check h).mono fun e w' ⟨⟨b, h1, h2⟩, h3⟩ => ⟨by rw [h1, h2.2 ok], h3⟩
theorem q_fit {W : World} {B : Nat} {v : NV} {n : RN} (h : NH W B v n) (ok : OkN n) (hb : bytN n ≤ rmN n) : Calls Try.prog 16 #[nv v] W fun e w' => e = .returned (.bool true) ∧ Fr W w' :=
  (q_fits h).mono fun e w' ⟨⟨b, h1, h2⟩, h3⟩ => ⟨by rw [h1, h2.2 ⟨ok, hb⟩], h3⟩
set_option maxHeartbeats 8000000 in
theorem awake9 (w : World) : Calls Try.prog 23 #[] w fun e w' => e = .returned (.bool true) ∧ Fr w w' := by
  have cI := fun (W : World) => q_inner (w := W) (A := none) (A2 := none) (n := 0) (c := 0) (n2 := 0) (c2 := 0) (B := 0) (B2 := 0) (ns := []) (ms := []) (f := 3) Has.nil (Nat.zero_le _) rfl (fun z hz => by simp at hz) (by unfold Is64; omega) Has.nil (Nat.zero_le _) rfl (fun z hz => by simp at hz) (by decide) (by decide)
  have cI2 := fun (W : World) => q_inner (w := W.alloc (.cells #[.int .i64 0] 3)) (A := none) (A2 := some ⟨W.heap.size, 0, none⟩) (n := 0) (c := 0) (n2 := 1) (c2 := 1) (B := 0) (B2 := W.heap.size + 1) (ns := []) (ms := [0]) (f := 3) Has.nil (Nat.zero_le _) rfl (fun z hz => by simp at hz) (by unfold Is64; omega) (arr_has (cs := [.int .i64 0]) _ (Arr.new W _ _)) (by simp) rfl (fun z hz => by simp at hz; unfold Is64; omega) (by decide) (by decide)
  have cL := fun (W : World) => q_leaf (w := W.alloc (.cells #[.int .i64 0, .int .i64 8] 3)) (A := some ⟨W.heap.size, 0, none⟩) (n := 2) (c := 2) (B := W.heap.size + 1) (ns := [0, 8]) (arr_has (cs := [.int .i64 0, .int .i64 8]) _ (Arr.new W _ _)) (by simp) rfl (fun z hz => by simp at hz; unfold Is64; omega) (by decide)
  have o1 := innN_ok [] 3 []
  have o2 := innN_ok [] 3 [0]
  have o3 := leafN_ok [0, 8]
  have b3 := leafN_byt [0, 8]
  have e1 : (innN [] 3 []).lf = false := rfl
  have e2 : (innN [] 3 [0]).lf = false := rfl
  have e3 : (leafN [0, 8]).lf = true := rfl
  have m1 : (innN [] 3 []).ms = [] := rfl
  have m2 : (innN [] 3 [0]).ms ≠ [] := fun h => by
    have h1 := aw9_one
    change (innN [] 3 [0]).ms.length = 1 at h1
    rw [h] at h1
    cases h1
  generalize innN [] 3 [] = N1 at *
  generalize innN [] 3 [0] = N2 at *
  generalize leafN [0, 8] = N3 at *
  have rr := fr_refl w
  go_enter Try.func23, Try.ntmps23
  go_wp2_with fail
  refine (cI w).mono ?_
  rintro e w1 ⟨v1, rfl, h1, f1⟩
  clear cI
  have tok1 : Hid (0 < 1) := keep (by decide)
  go_wp2_with (first
    | (clear tok1; refine wpList_store_at (ds := NV.cells v1) nod_info rfl (.tmp 1) (.tmp 4) rfl w1.heap.size 0 rfl rfl rfl (nv_one _) (Arr.new w1 zeroNV.cells.toArray 27) (by decide) (splice_all _ _ (Nat.le_of_eq rfl)) ?_; intro Y1 hM1 hk1
       have g1 := hk1.fr (fr_new (fr_refl w1) _) (Nat.le_refl _)
       have rr1 := fr_refl Y1
       clear hk1)
    | fail)
  go_wp2_with fail
  refine (cI2 Y1).mono ?_
  rintro e w2 ⟨v2, rfl, h2, f2⟩
  clear cI2
  have tok2 : Hid (0 < 1) := keep (by decide)
  go_wp2_with (first
    | (clear tok2; refine wpList_store_at (ds := NV.cells v2) nod_info rfl (.tmp 2) (.tmp 6) rfl w2.heap.size 0 rfl rfl rfl (nv_one _) (Arr.new w2 zeroNV.cells.toArray 27) (by decide) (splice_all _ _ (Nat.le_of_eq rfl)) ?_; intro Y2 hM2 hk2
       have g2 := hk2.fr (fr_new (fr_refl w2) _) (Nat.le_refl _)
       have rr2 := fr_refl Y2
       clear hk2)
    | fail)
  go_wp2_with fail
  refine (cL Y2).mono ?_
  rintro e w3 ⟨v3, rfl, h3, f3⟩
  clear cL
  have tok3 : Hid (0 < 1) := keep (by decide)
  go_wp2_with (first
    | (clear tok3; refine wpList_store_at (ds := NV.cells v3) nod_info rfl (.tmp 3) (.tmp 8) rfl w3.heap.size 0 rfl rfl rfl (nv_one _) (Arr.new w3 zeroNV.cells.toArray 27) (by decide) (splice_all _ _ (Nat.le_of_eq rfl)) ?_; intro V hM3 hk3
       have g3 := hk3.fr (fr_new (fr_refl w3) _) (Nat.le_refl _)
       have rr3 := fr_refl V
       clear hk3)
    | fail)
  replace f3 := fr_step (fr_new rr2 _) f3
  replace f2 := fr_step (fr_new rr1 _) f2
  have t3 := g3
  have t2 := fr_step (fr_step g2 f3) t3
  have t1 := fr_step (fr_step g1 f2) t2
  have top := fr_step f1 t1
  have a1 := hM1.below (fr_step f2 t2) hM1.lt
  have a2 := hM2.below (fr_step f3 t3) hM2.lt
  have a3 := hM3
  have l1 : ∀ W, Fr V W → (ldS 27 (.pointer (some ⟨w1.heap.size, 0, none⟩))).run Try.prog W = .ok (.agg v1.cells.toArray) W := fun W h => nodS.ld rfl (a1.below h a1.lt)
  have l2 : ∀ W, Fr V W → (ldS 27 (.pointer (some ⟨w2.heap.size, 0, none⟩))).run Try.prog W = .ok (.agg v2.cells.toArray) W := fun W h => nodS.ld rfl (a2.below h a2.lt)
  have l3 : ∀ W, Fr V W → (ldS 27 (.pointer (some ⟨w3.heap.size, 0, none⟩))).run Try.prog W = .ok (.agg v3.cells.toArray) W := fun W h => nodS.ld rfl (a3.below h a3.lt)
  have l12 : ∀ W, Fr V W → W.cell? ⟨w1.heap.size, 2, none⟩ = some (.slice v1.A2 v1.n2 v1.c2) := fun W h => (a1.below h a1.lt).cell 2
  have l31 : ∀ W, Fr V W → W.cell? ⟨w3.heap.size, 1, none⟩ = some (.slice v3.A1 v3.n1 v3.c1) := fun W h => (a3.below h a3.lt).cell 1
  have k1 := h1.out.fr t1
  have k2 := h2.out.fr t2
  have k3 := h3.out.fr t3
  clear h1 h2 h3 a1 a2 a3 hM1 hM2 hM3 f1 f2 f3 g1 g2 g3 t1 t2 t3 rr1 rr2 rr
  obtain ⟨x1, y1, hT1⟩ := topI_ex (wtsN N1) _ (Nat.le_refl _)
  obtain ⟨x2, y2, hT2⟩ := topI_ex (wtsN N2) _ (Nat.le_refl _)
  obtain rfl : x1 = -1 := (top_none o1 e1 hT1).2 m1
  have hx2 : 0 ≤ x2 := by
    have h1 := hT2.rng
    have h2 : x2 ≠ -1 := fun h => m2 ((top_none o2 e2 hT2).1 h)
    omega
  have cH1 := fun W (h : Fr V W) => q_heaviest_is (k1.fr h) o1 hT1
  have cH2 := fun W (h : Fr V W) => q_heaviest_is (k2.fr h) o2 hT2
  have cC1 := fun W (h : Fr V W) => q_ok (k1.fr h) o1
  have cF3 := fun W (h : Fr V W) => q_fit (k3.fr h) o3 b3
  have cC0 : ∀ W, Fr V W → Calls Try.prog 15 #[.agg #[.bool false, .slice none 0 0, .slice none 0 0, .slice none 0 0, .slice none 0 0]] W fun e w' => e = .returned (.bool false) ∧ Fr W w' := fun W h => (q_check (zeroN_nh W)).mono fun e w' ⟨⟨b, p1, p2⟩, p3⟩ => ⟨by cases b; exact p1; exact absurd (p2.1 rfl) zeroN_no, p3⟩
  have cS3 := fun W (h : Fr V W) => q_same (k3.fr h) (k3.fr h)
  have cS1 := fun W (h : Fr V W) => q_same (k3.fr h) (k1.fr h)
  rw [smN_self] at cS3
  rw [smN_lf e3 e1] at cS1
  have cB3 := fun W (h : Fr V W) => q_bytes (k3.fr h) o3.sm
  have cE3 := fun W (h : Fr V W) => ref_ebytes (w := W) (A := v3.A1) (c := v3.c1) (k3.fr h).h1 (k3.fr h).hB k3.l1 k3.s1 k3.w1 (o3.sm e3)
  have eb : bytN N3 = bytsE N3.es := by unfold bytN; rw [e3]; rfl
  rw [eb] at cB3
  have cW1 := fun W (h : Fr V W) => q_weights (k1.fr h) o1
  rw [wtsN_kids e1, k1.l2] at cW1
  have cV3 := fun W (h : Fr V W) => q_heavy (k3.fr h)
  have ev : hvN N3 = false := by unfold hvN; rw [e3]; rfl
  rw [ev] at cV3
  generalize bytsE N3.es = bb at *
  clear k1 k2 k3 o1 o2 o3 b3 e1 e2 e3 m1 m2 hT1 hT2 eb ev
  unfold nv at cH1 cH2 cC1 cF3 cS3 cS1 cB3 cW1 cV3
  have hD := fr_drew (fr_refl V)
  go_wp2_with fail
  refine wp_region_noPanic ?_
  refine wp_region_held_drew (S := fun w' => Fr V w') (by kernel_rfl) hD (fun hHeld => ?_)
  change wpAnyH _ _ _ _ _ _ _ _ _
  refine wpAnyH_take (i := 0) (v := ?_) rfl (by kernel_rfl) (by kernel_rfl) (by kernel_rfl) (fun _ _ _ h => h) (Or.inl ⟨by rfl, ?_⟩) (by assumption) ?_
  rotate_left
  · intro w' hSw
    try dsimp only at hSw
    go_simp
    try with_reducible rfl
  try simp only [List.getElem_toArray, List.getElem_cons_zero, Act.put, List.setIfInBounds_toArray, List.set_cons_zero, List.set_cons_succ]
  refine wpAnyH_ready (rs := [1]) (by kernel_rfl) (by simp) ?_
  refine AllReadyH.cons rfl (fun K hK0 => ?_) AllReadyH.nil
  go_simp
  refine (cH1 _ (by assumption)).mono ?_
  rintro e z1 ⟨rfl, zz1⟩
  go_simp
  refine hK0.out _ _ (fr_step (by assumption) zz1) (fun _ => ?_)
  clear hK0 K
  try simp only [List.getElem_toArray, List.getElem_cons_succ, List.getElem_cons_zero, Act.put, List.setIfInBounds_toArray, List.set_cons_zero, List.set_cons_succ]
  refine wpAnyH_take (i := 2) (v := .bool true) rfl (by kernel_rfl) (by kernel_rfl) (by kernel_rfl) (fun _ _ _ h => h) (Or.inl ⟨by rfl, ?_⟩) (by assumption) ?_
  · intro w' hSw
    try dsimp only at hSw
    try go_simp
    all_goals first | done | with_reducible rfl | omega | assumption | (simp; omega)
  try simp only [List.getElem_toArray, List.getElem_cons_succ, List.getElem_cons_zero, Act.put, List.setIfInBounds_toArray, List.set_cons_zero, List.set_cons_succ]
  refine wpAnyH_take (i := 3) (v := .bool true) rfl (by kernel_rfl) (by kernel_rfl) (by kernel_rfl) (fun _ _ _ h => h) (Or.inl ⟨by rfl, ?_⟩) (by assumption) ?_
  · intro w' hSw
    try dsimp only at hSw
    try go_simp
    all_goals first | done | with_reducible rfl | omega | assumption | (simp; omega)
  try simp only [List.getElem_toArray, List.getElem_cons_succ, List.getElem_cons_zero, Act.put, List.setIfInBounds_toArray, List.set_cons_zero, List.set_cons_succ]
  refine wpAnyH_take (i := 4) (v := ?_) rfl (by kernel_rfl) (by kernel_rfl) (by kernel_rfl) (fun _ _ _ h => h) (Or.inl ⟨by rfl, ?_⟩) (by assumption) ?_
  rotate_left
  · intro w' hSw
    try dsimp only at hSw
    go_simp
    try with_reducible rfl
  try simp only [List.getElem_toArray, List.getElem_cons_succ, List.getElem_cons_zero, Act.put, List.setIfInBounds_toArray, List.set_cons_zero, List.set_cons_succ]
  refine wpAnyH_ready (rs := [5]) (by kernel_rfl) (by simp) ?_
  refine AllReadyH.cons rfl (fun K hK0 => ?_) AllReadyH.nil
  go_simp
  refine (cH2 _ (by assumption)).mono ?_
  rintro e z2 ⟨rfl, zz2⟩
  go_simp
  refine hK0.out _ _ (fr_step (by assumption) zz2) (fun _ => ?_)
  clear hK0 K
  try simp only [List.getElem_toArray, List.getElem_cons_succ, List.getElem_cons_zero, Act.put, List.setIfInBounds_toArray, List.set_cons_zero, List.set_cons_succ]
  refine wpAnyH_take (i := 6) (v := .bool true) rfl (by kernel_rfl) (by kernel_rfl) (by kernel_rfl) (fun _ _ _ h => h) (Or.inl ⟨by rfl, ?_⟩) (by assumption) ?_
  · intro w' hSw
    try dsimp only at hSw
    try go_simp
    all_goals first | done | with_reducible rfl | omega | assumption | (simp; omega)
  try simp only [List.getElem_toArray, List.getElem_cons_succ, List.getElem_cons_zero, Act.put, List.setIfInBounds_toArray, List.set_cons_zero, List.set_cons_succ]
  refine wpAnyH_take (i := 7) (v := .bool true) rfl (by kernel_rfl) (by kernel_rfl) (by kernel_rfl) (fun _ _ _ h => h) (Or.inl ⟨by rfl, ?_⟩) (by assumption) ?_
  · intro w' hSw
    try dsimp only at hSw
    try go_simp
    all_goals first | done | with_reducible rfl | omega | assumption | (simp; omega)
  try simp only [List.getElem_toArray, List.getElem_cons_succ, List.getElem_cons_zero, Act.put, List.setIfInBounds_toArray, List.set_cons_zero, List.set_cons_succ]
  refine wpAnyH_take (i := 8) (v := .bool true) rfl (by kernel_rfl) (by kernel_rfl) (by kernel_rfl) (fun _ _ _ h => h) (Or.inl ⟨by rfl, ?_⟩) (by assumption) ?_
  · intro w' hSw
    try dsimp only at hSw
    try go_simp
    all_goals first | done | with_reducible rfl | omega | assumption | (simp; omega)
  try simp only [List.getElem_toArray, List.getElem_cons_succ, List.getElem_cons_zero, Act.put, List.setIfInBounds_toArray, List.set_cons_zero, List.set_cons_succ]
  refine wpAnyH_take (i := 9) (v := ?_) rfl (by kernel_rfl) (by kernel_rfl) (by kernel_rfl) (fun _ _ _ h => h) (Or.inl ⟨by rfl, ?_⟩) (by assumption) ?_
  rotate_left
  · intro w' hSw
    try dsimp only at hSw
    go_simp
    try with_reducible rfl
  try simp only [List.getElem_toArray, List.getElem_cons_succ, List.getElem_cons_zero, Act.put, List.setIfInBounds_toArray, List.set_cons_zero, List.set_cons_succ]
  refine wpAnyH_ready (rs := [10]) (by kernel_rfl) (by simp) ?_
  refine AllReadyH.cons rfl (fun K hK0 => ?_) AllReadyH.nil
  go_simp
  refine (cC1 _ (by assumption)).mono ?_
  rintro e z3 ⟨rfl, zz3⟩
  go_simp
  refine hK0.out _ _ (fr_step (by assumption) zz3) (fun _ => ?_)
  clear hK0 K
  try simp only [List.getElem_toArray, List.getElem_cons_succ, List.getElem_cons_zero, Act.put, List.setIfInBounds_toArray, List.set_cons_zero, List.set_cons_succ]
  refine wpAnyH_take (i := 11) (v := .bool true) rfl (by kernel_rfl) (by kernel_rfl) (by kernel_rfl) (fun _ _ _ h => h) (Or.inl ⟨by rfl, ?_⟩) (by assumption) ?_
  · intro w' hSw
    try dsimp only at hSw
    try go_simp
    all_goals first | done | with_reducible rfl | omega | assumption | (simp; omega)
  try simp only [List.getElem_toArray, List.getElem_cons_succ, List.getElem_cons_zero, Act.put, List.setIfInBounds_toArray, List.set_cons_zero, List.set_cons_succ]
  refine wpAnyH_take (i := 12) (v := .bool true) rfl (by kernel_rfl) (by kernel_rfl) (by kernel_rfl) (fun _ _ _ h => h) (Or.inl ⟨by rfl, ?_⟩) (by assumption) ?_
  · intro w' hSw
    try dsimp only at hSw
    try go_simp
    all_goals first | done | with_reducible rfl | omega | assumption | (simp; omega)
  try simp only [List.getElem_toArray, List.getElem_cons_succ, List.getElem_cons_zero, Act.put, List.setIfInBounds_toArray, List.set_cons_zero, List.set_cons_succ]
  refine wpAnyH_take (i := 13) (v := ?_) rfl (by kernel_rfl) (by kernel_rfl) (by kernel_rfl) (fun _ _ _ h => h) (Or.inl ⟨by rfl, ?_⟩) (by assumption) ?_
  rotate_left
  · intro w' hSw
    try dsimp only at hSw
    go_simp
    try with_reducible rfl
  try simp only [List.getElem_toArray, List.getElem_cons_succ, List.getElem_cons_zero, Act.put, List.setIfInBounds_toArray, List.set_cons_zero, List.set_cons_succ]
  refine wpAnyH_ready (rs := [14]) (by kernel_rfl) (by simp) ?_
  refine AllReadyH.cons rfl (fun K hK0 => ?_) AllReadyH.nil
  go_simp
  refine (cF3 _ (by assumption)).mono ?_
  rintro e z4 ⟨rfl, zz4⟩
  go_simp
  refine hK0.out _ _ (fr_step (by assumption) zz4) (fun _ => ?_)
  clear hK0 K
  try simp only [List.getElem_toArray, List.getElem_cons_succ, List.getElem_cons_zero, Act.put, List.setIfInBounds_toArray, List.set_cons_zero, List.set_cons_succ]
  refine wpAnyH_take (i := 15) (v := .bool true) rfl (by kernel_rfl) (by kernel_rfl) (by kernel_rfl) (fun _ _ _ h => h) (Or.inl ⟨by rfl, ?_⟩) (by assumption) ?_
  · intro w' hSw
    try dsimp only at hSw
    try go_simp
    all_goals first | done | with_reducible rfl | omega | assumption | (simp; omega)
  try simp only [List.getElem_toArray, List.getElem_cons_succ, List.getElem_cons_zero, Act.put, List.setIfInBounds_toArray, List.set_cons_zero, List.set_cons_succ]
  refine wpAnyH_take (i := 16) (v := .bool true) rfl (by kernel_rfl) (by kernel_rfl) (by kernel_rfl) (fun _ _ _ h => h) (Or.inl ⟨by rfl, ?_⟩) (by assumption) ?_
  · intro w' hSw
    try dsimp only at hSw
    try go_simp
    all_goals first | done | with_reducible rfl | omega | assumption | (simp; omega)
  try simp only [List.getElem_toArray, List.getElem_cons_succ, List.getElem_cons_zero, Act.put, List.setIfInBounds_toArray, List.set_cons_zero, List.set_cons_succ]
  refine wpAnyH_take (i := 17) (v := ?_) rfl (by kernel_rfl) (by kernel_rfl) (by kernel_rfl) (fun _ _ _ h => h) (Or.inl ⟨by rfl, ?_⟩) (by assumption) ?_
  rotate_left
  · intro w' hSw
    try dsimp only at hSw
    go_simp
    try with_reducible rfl
  try simp only [List.getElem_toArray, List.getElem_cons_succ, List.getElem_cons_zero, Act.put, List.setIfInBounds_toArray, List.set_cons_zero, List.set_cons_succ]
  refine wpAnyH_ready (rs := [18]) (by kernel_rfl) (by simp) ?_
  refine AllReadyH.cons rfl (fun K hK0 => ?_) AllReadyH.nil
  go_simp
  refine (cC0 _ (by assumption)).mono ?_
  rintro e z5 ⟨rfl, zz5⟩
  go_simp
  refine hK0.out _ _ (fr_step (by assumption) zz5) (fun _ => ?_)
  clear hK0 K
  try simp only [List.getElem_toArray, List.getElem_cons_succ, List.getElem_cons_zero, Act.put, List.setIfInBounds_toArray, List.set_cons_zero, List.set_cons_succ]
  refine wpAnyH_take (i := 19) (v := .bool true) rfl (by kernel_rfl) (by kernel_rfl) (by kernel_rfl) (fun _ _ _ h => h) (Or.inl ⟨by rfl, ?_⟩) (by assumption) ?_
  · intro w' hSw
    try dsimp only at hSw
    try go_simp
    all_goals first | done | with_reducible rfl | omega | assumption | (simp; omega)
  try simp only [List.getElem_toArray, List.getElem_cons_succ, List.getElem_cons_zero, Act.put, List.setIfInBounds_toArray, List.set_cons_zero, List.set_cons_succ]
  refine wpAnyH_take (i := 20) (v := .bool true) rfl (by kernel_rfl) (by kernel_rfl) (by kernel_rfl) (fun _ _ _ h => h) (Or.inl ⟨by rfl, ?_⟩) (by assumption) ?_
  · intro w' hSw
    try dsimp only at hSw
    try go_simp
    all_goals first | done | with_reducible rfl | omega | assumption | (simp; omega)
  try simp only [List.getElem_toArray, List.getElem_cons_succ, List.getElem_cons_zero, Act.put, List.setIfInBounds_toArray, List.set_cons_zero, List.set_cons_succ]
  refine wpAnyH_take (i := 21) (v := .bool true) rfl (by kernel_rfl) (by kernel_rfl) (by kernel_rfl) (fun _ _ _ h => h) (Or.inl ⟨by rfl, ?_⟩) (by assumption) ?_
  · intro w' hSw
    try dsimp only at hSw
    try go_simp
    all_goals first | done | with_reducible rfl | omega | assumption | (simp; omega)
  try simp only [List.getElem_toArray, List.getElem_cons_succ, List.getElem_cons_zero, Act.put, List.setIfInBounds_toArray, List.set_cons_zero, List.set_cons_succ]
  refine wpAnyH_take (i := 22) (v := ?_) rfl (by kernel_rfl) (by kernel_rfl) (by kernel_rfl) (fun _ _ _ h => h) (Or.inl ⟨by rfl, ?_⟩) (by assumption) ?_
  rotate_left
  · intro w' hSw
    try dsimp only at hSw
    go_simp
    try with_reducible rfl
  try simp only [List.getElem_toArray, List.getElem_cons_succ, List.getElem_cons_zero, Act.put, List.setIfInBounds_toArray, List.set_cons_zero, List.set_cons_succ]
  refine wpAnyH_take (i := 23) (v := ?_) rfl (by kernel_rfl) (by kernel_rfl) (by kernel_rfl) (fun _ _ _ h => h) (Or.inl ⟨by rfl, ?_⟩) (by assumption) ?_
  rotate_left
  · intro w' hSw
    try dsimp only at hSw
    go_simp
    try with_reducible rfl
  try simp only [List.getElem_toArray, List.getElem_cons_succ, List.getElem_cons_zero, Act.put, List.setIfInBounds_toArray, List.set_cons_zero, List.set_cons_succ]
  refine wpAnyH_ready (rs := [24]) (by kernel_rfl) (by simp) ?_
  refine AllReadyH.cons rfl (fun K hK0 => ?_) AllReadyH.nil
  go_simp
  refine (cS3 _ (by assumption)).mono ?_
  rintro e z6 ⟨rfl, zz6⟩
  go_simp
  refine hK0.out _ _ (fr_step (by assumption) zz6) (fun _ => ?_)
  clear hK0 K
  try simp only [List.getElem_toArray, List.getElem_cons_succ, List.getElem_cons_zero, Act.put, List.setIfInBounds_toArray, List.set_cons_zero, List.set_cons_succ]
  refine wpAnyH_take (i := 25) (v := .bool true) rfl (by kernel_rfl) (by kernel_rfl) (by kernel_rfl) (fun _ _ _ h => h) (Or.inl ⟨by rfl, ?_⟩) (by assumption) ?_
  · intro w' hSw
    try dsimp only at hSw
    try go_simp
    all_goals first | done | with_reducible rfl | omega | assumption | (simp; omega)
  try simp only [List.getElem_toArray, List.getElem_cons_succ, List.getElem_cons_zero, Act.put, List.setIfInBounds_toArray, List.set_cons_zero, List.set_cons_succ]
  refine wpAnyH_take (i := 26) (v := .bool true) rfl (by kernel_rfl) (by kernel_rfl) (by kernel_rfl) (fun _ _ _ h => h) (Or.inl ⟨by rfl, ?_⟩) (by assumption) ?_
  · intro w' hSw
    try dsimp only at hSw
    try go_simp
    all_goals first | done | with_reducible rfl | omega | assumption | (simp; omega)
  try simp only [List.getElem_toArray, List.getElem_cons_succ, List.getElem_cons_zero, Act.put, List.setIfInBounds_toArray, List.set_cons_zero, List.set_cons_succ]
  refine wpAnyH_take (i := 27) (v := ?_) rfl (by kernel_rfl) (by kernel_rfl) (by kernel_rfl) (fun _ _ _ h => h) (Or.inl ⟨by rfl, ?_⟩) (by assumption) ?_
  rotate_left
  · intro w' hSw
    try dsimp only at hSw
    go_simp
    try with_reducible rfl
  try simp only [List.getElem_toArray, List.getElem_cons_succ, List.getElem_cons_zero, Act.put, List.setIfInBounds_toArray, List.set_cons_zero, List.set_cons_succ]
  refine wpAnyH_take (i := 28) (v := ?_) rfl (by kernel_rfl) (by kernel_rfl) (by kernel_rfl) (fun _ _ _ h => h) (Or.inl ⟨by rfl, ?_⟩) (by assumption) ?_
  rotate_left
  · intro w' hSw
    try dsimp only at hSw
    go_simp
    try with_reducible rfl
  try simp only [List.getElem_toArray, List.getElem_cons_succ, List.getElem_cons_zero, Act.put, List.setIfInBounds_toArray, List.set_cons_zero, List.set_cons_succ]
  refine wpAnyH_ready (rs := [29]) (by kernel_rfl) (by simp) ?_
  refine AllReadyH.cons rfl (fun K hK0 => ?_) AllReadyH.nil
  go_simp
  refine (cS1 _ (by assumption)).mono ?_
  rintro e z7 ⟨rfl, zz7⟩
  go_simp
  refine hK0.out _ _ (fr_step (by assumption) zz7) (fun _ => ?_)
  clear hK0 K
  try simp only [List.getElem_toArray, List.getElem_cons_succ, List.getElem_cons_zero, Act.put, List.setIfInBounds_toArray, List.set_cons_zero, List.set_cons_succ]
  refine wpAnyH_take (i := 30) (v := .bool true) rfl (by kernel_rfl) (by kernel_rfl) (by kernel_rfl) (fun _ _ _ h => h) (Or.inl ⟨by rfl, ?_⟩) (by assumption) ?_
  · intro w' hSw
    try dsimp only at hSw
    try go_simp
    all_goals first | done | with_reducible rfl | omega | assumption | (simp; omega)
  try simp only [List.getElem_toArray, List.getElem_cons_succ, List.getElem_cons_zero, Act.put, List.setIfInBounds_toArray, List.set_cons_zero, List.set_cons_succ]
  refine wpAnyH_take (i := 31) (v := .bool true) rfl (by kernel_rfl) (by kernel_rfl) (by kernel_rfl) (fun _ _ _ h => h) (Or.inl ⟨by rfl, ?_⟩) (by assumption) ?_
  · intro w' hSw
    try dsimp only at hSw
    try go_simp
    all_goals first | done | with_reducible rfl | omega | assumption | (simp; omega)
  try simp only [List.getElem_toArray, List.getElem_cons_succ, List.getElem_cons_zero, Act.put, List.setIfInBounds_toArray, List.set_cons_zero, List.set_cons_succ]
  refine wpAnyH_take (i := 32) (v := .bool true) rfl (by kernel_rfl) (by kernel_rfl) (by kernel_rfl) (fun _ _ _ h => h) (Or.inl ⟨by rfl, ?_⟩) (by assumption) ?_
  · intro w' hSw
    try dsimp only at hSw
    try go_simp
    all_goals first | done | with_reducible rfl | omega | assumption | (simp; omega)
  try simp only [List.getElem_toArray, List.getElem_cons_succ, List.getElem_cons_zero, Act.put, List.setIfInBounds_toArray, List.set_cons_zero, List.set_cons_succ]
  refine wpAnyH_take (i := 33) (v := ?_) rfl (by kernel_rfl) (by kernel_rfl) (by kernel_rfl) (fun _ _ _ h => h) (Or.inl ⟨by rfl, ?_⟩) (by assumption) ?_
  rotate_left
  · intro w' hSw
    try dsimp only at hSw
    go_simp
    try with_reducible rfl
  try simp only [List.getElem_toArray, List.getElem_cons_succ, List.getElem_cons_zero, Act.put, List.setIfInBounds_toArray, List.set_cons_zero, List.set_cons_succ]
  refine wpAnyH_take (i := 35) (v := ?_) rfl (by kernel_rfl) (by kernel_rfl) (by kernel_rfl) (fun _ _ _ h => h) (Or.inl ⟨by rfl, ?_⟩) (by assumption) ?_
  rotate_left
  · intro w' hSw
    try dsimp only at hSw
    go_simp
    try with_reducible rfl
  try simp only [List.getElem_toArray, List.getElem_cons_succ, List.getElem_cons_zero, Act.put, List.setIfInBounds_toArray, List.set_cons_zero, List.set_cons_succ]
  refine wpAnyH_take (i := 36) (v := ?_) rfl (by kernel_rfl) (by kernel_rfl) (by kernel_rfl) (fun _ _ _ h => h) (Or.inl ⟨by rfl, ?_⟩) (by assumption) ?_
  rotate_left
  · intro w' hSw
    try dsimp only at hSw
    go_simp
    try with_reducible rfl
  try simp only [List.getElem_toArray, List.getElem_cons_succ, List.getElem_cons_zero, Act.put, List.setIfInBounds_toArray, List.set_cons_zero, List.set_cons_succ]
  refine wpAnyH_ready (rs := [34]) (by kernel_rfl) (by simp) ?_
  refine AllReadyH.cons rfl (fun K hK0 => ?_) AllReadyH.nil
  go_simp
  refine (cB3 _ (by assumption)).mono ?_
  rintro e z8 ⟨rfl, zz8⟩
  go_simp
  refine hK0.out _ _ (fr_step (by assumption) zz8) (fun _ => ?_)
  clear hK0 K
  try simp only [List.getElem_toArray, List.getElem_cons_succ, List.getElem_cons_zero, Act.put, List.setIfInBounds_toArray, List.set_cons_zero, List.set_cons_succ]
  refine wpAnyH_ready (rs := [37]) (by kernel_rfl) (by simp) ?_
  refine AllReadyH.cons rfl (fun K hK0 => ?_) AllReadyH.nil
  go_simp
  refine (cE3 _ (by assumption)).mono ?_
  rintro e z9 ⟨rfl, zz9⟩
  go_simp
  refine hK0.out _ _ (fr_step (by assumption) zz9) (fun _ => ?_)
  clear hK0 K
  try simp only [List.getElem_toArray, List.getElem_cons_succ, List.getElem_cons_zero, Act.put, List.setIfInBounds_toArray, List.set_cons_zero, List.set_cons_succ]
  refine wpAnyH_take (i := 38) (v := .bool true) rfl (by kernel_rfl) (by kernel_rfl) (by kernel_rfl) (fun _ _ _ h => h) (Or.inl ⟨by rfl, ?_⟩) (by assumption) ?_
  · intro w' hSw
    try dsimp only at hSw
    try go_simp
    all_goals first | done | with_reducible rfl | omega | assumption | (simp; omega)
  try simp only [List.getElem_toArray, List.getElem_cons_succ, List.getElem_cons_zero, Act.put, List.setIfInBounds_toArray, List.set_cons_zero, List.set_cons_succ]
  refine wpAnyH_take (i := 39) (v := .bool true) rfl (by kernel_rfl) (by kernel_rfl) (by kernel_rfl) (fun _ _ _ h => h) (Or.inl ⟨by rfl, ?_⟩) (by assumption) ?_
  · intro w' hSw
    try dsimp only at hSw
    try go_simp
    all_goals first | done | with_reducible rfl | omega | assumption | (simp; omega)
  try simp only [List.getElem_toArray, List.getElem_cons_succ, List.getElem_cons_zero, Act.put, List.setIfInBounds_toArray, List.set_cons_zero, List.set_cons_succ]
  refine wpAnyH_take (i := 40) (v := .bool true) rfl (by kernel_rfl) (by kernel_rfl) (by kernel_rfl) (fun _ _ _ h => h) (Or.inl ⟨by rfl, ?_⟩) (by assumption) ?_
  · intro w' hSw
    try dsimp only at hSw
    try go_simp
    all_goals first | done | with_reducible rfl | omega | assumption | (simp; omega)
  try simp only [List.getElem_toArray, List.getElem_cons_succ, List.getElem_cons_zero, Act.put, List.setIfInBounds_toArray, List.set_cons_zero, List.set_cons_succ]
  refine wpAnyH_take (i := 41) (v := ?_) rfl (by kernel_rfl) (by kernel_rfl) (by kernel_rfl) (fun _ _ _ h => h) (Or.inl ⟨by rfl, ?_⟩) (by assumption) ?_
  rotate_left
  · intro w' hSw
    try dsimp only at hSw
    go_simp
    try with_reducible rfl
  try simp only [List.getElem_toArray, List.getElem_cons_succ, List.getElem_cons_zero, Act.put, List.setIfInBounds_toArray, List.set_cons_zero, List.set_cons_succ]
  refine wpAnyH_take (i := 44) (v := ?_) rfl (by kernel_rfl) (by kernel_rfl) (by kernel_rfl) (fun _ _ _ h => h) (Or.inl ⟨by rfl, ?_⟩) (by assumption) ?_
  rotate_left
  · intro w' hSw
    try dsimp only at hSw
    go_simp
    try with_reducible rfl
  try simp only [List.getElem_toArray, List.getElem_cons_succ, List.getElem_cons_zero, Act.put, List.setIfInBounds_toArray, List.set_cons_zero, List.set_cons_succ]
  refine wpAnyH_take (i := 45) (v := ?_) rfl (by kernel_rfl) (by kernel_rfl) (by kernel_rfl) (fun _ _ _ h => h) (Or.inl ⟨by rfl, ?_⟩) (by assumption) ?_
  rotate_left
  · intro w' hSw
    try dsimp only at hSw
    go_simp
    try with_reducible rfl
  try simp only [List.getElem_toArray, List.getElem_cons_succ, List.getElem_cons_zero, Act.put, List.setIfInBounds_toArray, List.set_cons_zero, List.set_cons_succ]
  refine wpAnyH_take (i := 46) (v := ?_) rfl (by kernel_rfl) (by kernel_rfl) (by kernel_rfl) (fun _ _ _ h => h) (Or.inl ⟨by rfl, ?_⟩) (by assumption) ?_
  rotate_left
  · intro w' hSw
    try dsimp only at hSw
    go_simp
    try with_reducible rfl
  try simp only [List.getElem_toArray, List.getElem_cons_succ, List.getElem_cons_zero, Act.put, List.setIfInBounds_toArray, List.set_cons_zero, List.set_cons_succ]
  refine wpAnyH_ready (rs := [42]) (by kernel_rfl) (by simp) ?_
  refine AllReadyH.cons rfl (fun K hK0 => ?_) AllReadyH.nil
  go_simp
  refine (cW1 _ (by assumption)).mono ?_
  rintro e z10 ⟨Aw, cw, rfl, hw10, zz10⟩
  go_simp
  refine hK0.out _ _ (fr_step (by assumption) zz10) (fun _ => ?_)
  clear hK0 K
  try simp only [List.getElem_toArray, List.getElem_cons_succ, List.getElem_cons_zero, Act.put, List.setIfInBounds_toArray, List.set_cons_zero, List.set_cons_succ]
  refine wpAnyH_take (i := 43) (v := ?_) rfl (by kernel_rfl) (by kernel_rfl) (by kernel_rfl) (fun _ _ _ h => h) (Or.inl ⟨by rfl, ?_⟩) (by assumption) ?_
  rotate_left
  · intro w' hSw
    try dsimp only at hSw
    go_simp
    try with_reducible rfl
  try simp only [List.getElem_toArray, List.getElem_cons_succ, List.getElem_cons_zero, Act.put, List.setIfInBounds_toArray, List.set_cons_zero, List.set_cons_succ]
  refine wpAnyH_take (i := 47) (v := .bool true) rfl (by kernel_rfl) (by kernel_rfl) (by kernel_rfl) (fun _ _ _ h => h) (Or.inl ⟨by rfl, ?_⟩) (by assumption) ?_
  · intro w' hSw
    try dsimp only at hSw
    try go_simp
    all_goals first | done | with_reducible rfl | omega | assumption | (simp; omega)
  try simp only [List.getElem_toArray, List.getElem_cons_succ, List.getElem_cons_zero, Act.put, List.setIfInBounds_toArray, List.set_cons_zero, List.set_cons_succ]
  refine wpAnyH_take (i := 48) (v := .bool true) rfl (by kernel_rfl) (by kernel_rfl) (by kernel_rfl) (fun _ _ _ h => h) (Or.inl ⟨by rfl, ?_⟩) (by assumption) ?_
  · intro w' hSw
    try dsimp only at hSw
    try go_simp
    all_goals first | done | with_reducible rfl | omega | assumption | (simp; omega)
  try simp only [List.getElem_toArray, List.getElem_cons_succ, List.getElem_cons_zero, Act.put, List.setIfInBounds_toArray, List.set_cons_zero, List.set_cons_succ]
  refine wpAnyH_take (i := 49) (v := .bool true) rfl (by kernel_rfl) (by kernel_rfl) (by kernel_rfl) (fun _ _ _ h => h) (Or.inl ⟨by rfl, ?_⟩) (by assumption) ?_
  · intro w' hSw
    try dsimp only at hSw
    try go_simp
    all_goals first | done | with_reducible rfl | omega | assumption | (simp; omega)
  try simp only [List.getElem_toArray, List.getElem_cons_succ, List.getElem_cons_zero, Act.put, List.setIfInBounds_toArray, List.set_cons_zero, List.set_cons_succ]
  refine wpAnyH_take (i := 50) (v := ?_) rfl (by kernel_rfl) (by kernel_rfl) (by kernel_rfl) (fun _ _ _ h => h) (Or.inl ⟨by rfl, ?_⟩) (by assumption) ?_
  rotate_left
  · intro w' hSw
    try dsimp only at hSw
    go_simp
    try with_reducible rfl
  try simp only [List.getElem_toArray, List.getElem_cons_succ, List.getElem_cons_zero, Act.put, List.setIfInBounds_toArray, List.set_cons_zero, List.set_cons_succ]
  refine wpAnyH_ready (rs := [51]) (by kernel_rfl) (by simp) ?_
  refine AllReadyH.cons rfl (fun K hK0 => ?_) AllReadyH.nil
  go_simp
  refine (cV3 _ (by assumption)).mono ?_
  rintro e z11 ⟨rfl, zz11⟩
  go_simp
  refine hK0.out _ _ (fr_step (by assumption) zz11) (fun _ => ?_)
  clear hK0 K
  try simp only [List.getElem_toArray, List.getElem_cons_succ, List.getElem_cons_zero, Act.put, List.setIfInBounds_toArray, List.set_cons_zero, List.set_cons_succ]
  refine wpAnyH_take (i := 52) (v := .bool true) rfl (by kernel_rfl) (by kernel_rfl) (by kernel_rfl) (fun _ _ _ h => h) (Or.inl ⟨by rfl, ?_⟩) (by assumption) ?_
  · intro w' hSw
    try dsimp only at hSw
    try go_simp
    all_goals first | done | with_reducible rfl | omega | assumption | (simp; omega)
  try simp only [List.getElem_toArray, List.getElem_cons_succ, List.getElem_cons_zero, Act.put, List.setIfInBounds_toArray, List.set_cons_zero, List.set_cons_succ]
  refine wpAnyH_take (i := 53) (v := .bool true) rfl (by kernel_rfl) (by kernel_rfl) (by kernel_rfl) (fun _ _ _ h => h) (Or.inl ⟨by rfl, ?_⟩) (by assumption) ?_
  · intro w' hSw
    try dsimp only at hSw
    try go_simp
    all_goals first | done | with_reducible rfl | omega | assumption | (simp; omega)
  try simp only [List.getElem_toArray, List.getElem_cons_succ, List.getElem_cons_zero, Act.put, List.setIfInBounds_toArray, List.set_cons_zero, List.set_cons_succ]
  refine wpAnyH_take (i := 54) (v := ?_) rfl (by kernel_rfl) (by kernel_rfl) (by kernel_rfl) (fun _ _ _ h => h) (Or.inl ⟨by rfl, ?_⟩) (by assumption) ?_
  rotate_left
  · intro w' hSw
    try dsimp only at hSw
    go_simp
    try with_reducible rfl
  try simp only [List.getElem_toArray, List.getElem_cons_succ, List.getElem_cons_zero, Act.put, List.setIfInBounds_toArray, List.set_cons_zero]
  refine wpAnyH_done (by kernel_rfl) ?_ _
  refine NoPanic.normal ?_
  go_wp2_with fail
  go_ret
  exact ⟨rfl, fr_step top (by assumption)⟩
theorem awake9_at {W0 W : World} (hb : Fr W0 W) : Calls Try.prog 23 #[] W fun e w' => e = .returned (.bool true) ∧ Fr W0 w' := (awake9 W).mono fun _ _ ⟨he, hw⟩ => ⟨he, fr_step hb hw⟩
end Go.Proofs.Ytcdcaanmmbopbaa
