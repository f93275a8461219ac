/- NodeAll, walked. -/
import Derived.Test.YtcdcaanmmbopbaaNodH
namespace Go.Proofs.Ytcdcaanmmbopbaa
set_option maxRecDepth 100000
open Go.RowKit
set_option linter.unusedVariables false
attribute [local go_sem ↓] nod_ld
theorem q_okr {W : World} {B : Nat} {v : NV} {n : RN} (h : NH W B v n) (ok : OkN n) : Calls Try.prog 25 #[nv v] W fun e w' => e = .returned (.bool true) ∧ Fr W w' :=
  q_rcheck_is h (by simp [ok])
theorem has_stp9 {w W : World} {A : Option Addr} {xs : List Value} (h : Has w w.heap.size A xs) (f : Fr w W) : Has W W.heap.size A xs := (h.fr (Nat.le_refl _) f).mono f.size
/-- All that a round of NodeAll asks of a node. -/
structure AllN (V : World) (v : NV) (wl : List Int) (m : Nat) (bb ff : Int) (hv : Bool) : Prop where
  hl : wl.length = m
  cW : ∀ W, Fr V W → Calls Try.prog 11 #[.agg v.cells.toArray] W fun e w' => ∃ A c, e = .returned (.slice A m c) ∧ Hid (Has w' w'.heap.size A (ints wl)) ∧ Fr W w'
  cX : ∀ W, Fr V W → Calls Try.prog 12 #[.agg v.cells.toArray] W fun e w' => ∃ A c, e = .returned (.slice A m c) ∧ Hid (Has w' w'.heap.size A (ints wl)) ∧ Fr W w'
  cB : ∀ W, Fr V W → Calls Try.prog 13 #[.agg v.cells.toArray] W fun e w' => e = .returned (.int .i64 bb) ∧ Fr W w'
  cD : ∀ W, Fr V W → Calls Try.prog 14 #[.agg v.cells.toArray] W fun e w' => e = .returned (.int .i64 bb) ∧ Fr W w'
  cC : ∀ W, Fr V W → Calls Try.prog 15 #[.agg v.cells.toArray] W fun e w' => e = .returned (.bool true) ∧ Fr W w'
  cF : ∀ W, Fr V W → Calls Try.prog 16 #[.agg v.cells.toArray] W fun e w' => e = .returned (.bool true) ∧ Fr W w'
  cH : ∀ W, Fr V W → Calls Try.prog 17 #[.agg v.cells.toArray] W fun e w' => e = .returned (.int .i64 ff) ∧ Fr W w'
  cI : ∀ W, Fr V W → Calls Try.prog 18 #[.agg v.cells.toArray] W fun e w' => e = .returned (.int .i64 ff) ∧ Fr W w'
  cV : ∀ W, Fr V W → Calls Try.prog 19 #[.agg v.cells.toArray] W fun e w' => e = .returned (.bool hv) ∧ Fr W w'
  cU : ∀ W, Fr V W → Calls Try.prog 20 #[.agg v.cells.toArray] W fun e w' => e = .returned (.bool hv) ∧ Fr W w'
theorem allN_of {V : World} {B : Nat} {v : NV} {n : RN} (h : NH V B v n) (ok : OkN n) (hb : bytN n ≤ rmN n) : ∃ wl m bb ff hv, m ≤ 100000 ∧ AllN V v wl m bb ff hv := by
  obtain ⟨ff, y, hT⟩ := topI_ex (wtsN n) _ (Nat.le_refl _)
  exact ⟨wtsN n, _, bytN n, ff, hvN n, wtsN_len h, rfl, fun W f => q_weights (h.fr f) ok, fun W f => q_rweights (h.fr f) ok, fun W f => q_bytes (h.fr f) ok.sm, fun W f => q_rbytes (h.fr f) ok.sm, fun W f => q_ok (h.fr f) ok, fun W f => q_fit (h.fr f) ok hb, fun W f => q_heaviest_is (h.fr f) ok hT, fun W f => q_rheaviest_is (h.fr f) ok hT, fun W f => q_heavy (h.fr f), fun W f => q_rheavy (h.fr f)⟩
set_option maxHeartbeats 40000000 in
theorem nodeAll_core {w : World} {A0 A1 A3 : Option Addr} {n0 c0 n1 c1 n3 c3 : Nat} {es ns ms : List Int} {f : Int} (hl0 : Has w w.heap.size A0 (es.map (Value.int .i64))) (hn0 : es.length = n0) (hes : ∀ z ∈ es, Is64 z) (hm0 : n0 ≤ maxLen)
    (hl1 : Has w w.heap.size A1 (ns.map (Value.int .i64))) (hn1 : ns.length = n1) (hns : ∀ z ∈ ns, Is64 z) (hby : n1 * 8 ≤ 140737488351232) (hf : Is64 f)
    (hl3 : Has w w.heap.size A3 (ms.map (Value.int .i64))) (hn3 : ms.length = n3) (hms : ∀ z ∈ ms, Is64 z) (hm3 : n3 ≤ maxLen) :
    Calls Try.prog 3 #[.slice A0 n0 c0, .slice A1 n1 c1, .int .i64 f, .slice A3 n3 c3] w fun e w' => e = .returned (.bool true) ∧ Below w.heap.size w w' := by
  have cL := q_leaf (c := c0) hl0 (Nat.le_refl _) hn0 hes hm0
  have cI := fun W (h : Fr w W) => q_inner (w := W) (c := c1) (c2 := c3) (hl1.fr (Nat.le_refl _) h) h.size hn1 hns hf (hl3.fr (Nat.le_refl _) h) h.size hn3 hms hm3 hby
  have o1 := leafN_ok es
  have o2 := innN_ok ns f ms
  have b1 := leafN_byt es
  have b2 := innN_byt ns f ms
  generalize leafN es = N1 at *
  generalize innN ns f ms = N2 at *
  have rr := fr_refl w
  clear hl0 hn0 hes hm0 hl1 hn1 hns hby hf hl3 hn3 hms hm3
  go_enter Try.func3, Try.ntmps3
  go_wp2_with fail
  refine cL.mono ?_
  rintro e w1 ⟨v1, rfl, h1, f1⟩
  go_wp2_with fail
  refine (cI _ f1).mono ?_
  rintro e w2 ⟨v2, rfl, h2, f2⟩
  replace h1 := keep (h1.out.fr f2)
  replace f2 := fr_step f1 f2
  clear cL cI f1
  have aN : Arr ((w2.alloc (.cells zeroNV.cells.toArray 27)).alloc (.cells zeroNV.cells.toArray 27)) (w2.heap.size + 1) 27 zeroNV.cells.toArray := by have := Arr.new (w2.alloc (.cells zeroNV.cells.toArray 27)) zeroNV.cells.toArray 27; simpa using this
  have AN := keep aN
  clear aN
  have tok1 : Hid (0 < 1) := keep (by decide)
  have tok2 : Hid (0 < 1) := keep (by decide)
  go_wp2_with (first
    | (clear tok1; refine wpList_store_at (ds := NV.cells v1) nod_info rfl (.tmp 9) (.tmp 17) rfl w2.heap.size 0 rfl rfl rfl (nv_one _) ((Arr.new w2 zeroNV.cells.toArray 27).alloc _) (by decide) (splice_all _ _ (Nat.le_of_eq rfl)) ?_; intro Y1 hM1 hk1
       have hM0 := hk1.other AN.out (by omega)
       have g1 := hk1.fr (fr_new (fr_new (fr_refl w2) _) _) (Nat.le_refl _)
       clear hk1)
    | (clear tok2; refine wpList_store_at (ds := NV.cells v2) nod_info rfl (.tmp 10) (.tmp 21) rfl (w2.heap.size + 1) 0 rfl rfl rfl (nv_one _) hM0 (by decide) (splice_all _ _ (Nat.le_of_eq rfl)) ?_; intro V hM2 hk2
       have hM1' := hk2.other hM1 (by omega)
       have g2 := hk2.fr g1 (by omega)
       have vv := fr_refl V
       clear hk2 hM0 hM1 g1 AN)
    | fail)
  have k1 := h1.out.fr g2
  have k2 := h2.out.fr g2
  have top := keep (fr_step f2 g2)
  have s1 := k1.hB
  have cS := fun W (h : Fr V W) => q_same (k1.fr h) (k2.fr h)
  have cT := fun W (h : Fr V W) => q_rsame (k1.fr h) (k2.fr h)
  generalize smN N1 N2 = bs at *
  obtain ⟨wl1, m1, bb1, ff1, hv1, hs1, AA1⟩ := allN_of k1 o1 b1
  obtain ⟨wl2, m2, bb2, ff2, hv2, hs2, AA2⟩ := allN_of k2 o2 b2
  have l1 : ∀ W, Fr V W → (ldS 27 (.pointer (some ⟨w2.heap.size, 0, none⟩))).run Try.prog W = .ok (.agg v1.cells.toArray) W := fun W h => nodS.ld rfl (hM1'.below h hM1'.lt)
  have l2 : ∀ W, Fr V W → (ldS 27 (.pointer (some ⟨w2.heap.size + 1, 0, none⟩))).run Try.prog W = .ok (.agg v2.cells.toArray) W := fun W h => nodS.ld rfl (hM2.below h hM2.lt)
  have cAw := fun W (_ : Fr V W) => awake9 W
  unfold nv at cS cT
  clear h1 h2 k1 k2 o1 o2 b1 b2 f2 g2 hM1' hM2 rr s1
  go_loopg [11] 2 (fun g s11 wr => ∃ i : Nat, i + g = 2 ∧ s11 = .int .i64 i ∧ Hid (Fr V wr))
  case atStart => exact ⟨0, by omega, rfl, keep vv⟩
  case round =>
    obtain ⟨i, hi, rfl, hF⟩ := hrel
    obtain ⟨go, rfl⟩ : ∃ go, go = gk := ⟨_, rfl⟩
    obtain ⟨wo, rfl⟩ : ∃ wo : World, wo = wr := ⟨_, rfl⟩
    have hFF := hF.out
    have hoo := fr_refl wo
    rcases (show i = 0 ∨ i = 1 ∨ i = 2 by omega) with rfl | rfl | rfl
    · have Hgo := keep hi
      clear hi
      have tok1 : Hid (0 < 1) := keep (by decide)
      go_wp2_with (first
        | (clear tok1; refine wpList_store_at (ds := NV.cells v1) nod_info rfl (.tmp 12) (.tmp 26) rfl wo.heap.size 0 rfl rfl rfl (nv_one _) (Arr.new wo zeroNV.cells.toArray 27) (by decide) (splice_all _ _ (Nat.le_of_eq rfl)) ?_; intro Y hM hk
           have gY := hk.fr (fr_new hoo _) (Nat.le_refl _)
           have lY : ∀ W, Fr Y W → (ldS 27 (.pointer (some ⟨wo.heap.size, 0, none⟩))).run Try.prog W = .ok (.agg v1.cells.toArray) W := fun W h => nodS.ld rfl (hM.below h hM.lt)
           have yy := fr_refl Y
           clear hk hM)
        | fail)
      have gV := fr_step hFF gY
      have cW := fun W (h : Fr Y W) => AA1.cW W (fr_step gV h)
      have cX := fun W (h : Fr Y W) => AA1.cX W (fr_step gV h)
      have cB := fun W (h : Fr Y W) => AA1.cB W (fr_step gV h)
      have cD := fun W (h : Fr Y W) => AA1.cD W (fr_step gV h)
      have cC := fun W (h : Fr Y W) => AA1.cC W (fr_step gV h)
      have cF := fun W (h : Fr Y W) => AA1.cF W (fr_step gV h)
      have cH := fun W (h : Fr Y W) => AA1.cH W (fr_step gV h)
      have cI := fun W (h : Fr Y W) => AA1.cI W (fr_step gV h)
      have cV := fun W (h : Fr Y W) => AA1.cV W (fr_step gV h)
      have cU := fun W (h : Fr Y W) => AA1.cU W (fr_step gV h)
      have Hl := keep AA1.hl
      have GV := keep gV
      have z1 : (bb1 != bb1) = false := by simp
      have z2 : (ff1 != ff1) = false := by simp
      have z3 : (hv1 != hv1) = false := by simp
      have z4 : ((m1 : Int) != (m1 : Int)) = false := by simp
      clear AA1 AA2 cS cT cAw l1 l2 hF hFF gV gY hoo vv
      have hD := fr_drew yy
      go_wp2_with fail
      refine wp_region_noPanic ?_
      refine wp_region_held_drew (S := fun w' => Fr Y w') (by kernel_rfl) hD (fun hHeld => ?_)
      change wpAnyH _ _ _ _ _ _ _ _ _
      refine wpAnyH_take (i := 0) (v := ?_) rfl (by kernel_rfl) (by kernel_rfl) (by kernel_rfl) (fun _ _ _ h => h) (Or.inl ⟨by rfl, ?_⟩) (by assumption) ?_
      rotate_left
      · intro w' hSw
        try dsimp only at hSw
        go_simp
        try with_reducible rfl
      try simp only [List.getElem_toArray, List.getElem_cons_zero, Act.put, List.setIfInBounds_toArray, List.set_cons_zero, List.set_cons_succ]
      refine wpAnyH_take (i := 2) (v := ?_) rfl (by kernel_rfl) (by kernel_rfl) (by kernel_rfl) (fun _ _ _ h => h) (Or.inl ⟨by rfl, ?_⟩) (by assumption) ?_
      rotate_left
      · intro w' hSw
        try dsimp only at hSw
        go_simp
        try with_reducible rfl
      try simp only [List.getElem_toArray, List.getElem_cons_succ, List.getElem_cons_zero, Act.put, List.setIfInBounds_toArray, List.set_cons_zero, List.set_cons_succ]
      refine wpAnyH_ready (rs := [1]) (by kernel_rfl) (by simp) ?_
      refine AllReadyH.cons rfl (fun K hK0 => ?_) AllReadyH.nil
      go_simp
      refine (cW _ (by assumption)).mono ?_
      rintro e y1 ⟨Aw, cw, rfl, hw1, zy1⟩
      go_simp
      refine hK0.out _ _ (fr_step (by assumption) zy1) (fun _ => ?_)
      clear hK0 K
      try simp only [List.getElem_toArray, List.getElem_cons_succ, List.getElem_cons_zero, Act.put, List.setIfInBounds_toArray, List.set_cons_zero, List.set_cons_succ]
      refine wpAnyH_ready (rs := [3]) (by kernel_rfl) (by simp) ?_
      refine AllReadyH.cons rfl (fun K hK0 => ?_) AllReadyH.nil
      go_simp
      refine (cX _ (by assumption)).mono ?_
      rintro e y2 ⟨Av, cv, rfl, hw2, zy2⟩
      go_simp
      replace hw1 := keep (has_stp9 hw1.out zy2)
      refine hK0.out _ _ (fr_step (by assumption) zy2) (fun _ => ?_)
      clear hK0 K
      try simp only [List.getElem_toArray, List.getElem_cons_succ, List.getElem_cons_zero, Act.put, List.setIfInBounds_toArray, List.set_cons_zero, List.set_cons_succ]
      refine wpAnyH_take (i := 4) (v := ?_) rfl (by kernel_rfl) (by kernel_rfl) (by kernel_rfl) (fun _ _ _ h => h) (Or.inl ⟨by rfl, ?_⟩) (by assumption) ?_
      rotate_left
      · intro w' hSw
        try dsimp only at hSw
        go_simp
        try with_reducible rfl
      try simp only [List.getElem_toArray, List.getElem_cons_succ, List.getElem_cons_zero, Act.put, List.setIfInBounds_toArray, List.set_cons_zero, List.set_cons_succ]
      refine wpAnyH_take (i := 5) (v := ?_) rfl (by kernel_rfl) (by kernel_rfl) (by kernel_rfl) (fun _ _ _ h => h) (Or.inl ⟨by rfl, ?_⟩) (by assumption) ?_
      rotate_left
      · intro w' hSw
        try dsimp only at hSw
        go_simp
        try with_reducible rfl
      try simp only [List.getElem_toArray, List.getElem_cons_succ, List.getElem_cons_zero, Act.put, List.setIfInBounds_toArray, List.set_cons_zero, List.set_cons_succ]
      refine wpAnyH_done (by kernel_rfl) ?_ _
      refine NoPanic.normal ?_
      have gL : Fr Y y2 := by assumption
      clear zy1 zy2
      have hD9 := fr_drew (fr_refl y2)
      have lL := fun W (h : Fr y2 W) => lY W (fr_step gL h)
      replace cB := fun W (h : Fr y2 W) => cB W (fr_step gL h)
      replace cD := fun W (h : Fr y2 W) => cD W (fr_step gL h)
      replace cC := fun W (h : Fr y2 W) => cC W (fr_step gL h)
      replace cF := fun W (h : Fr y2 W) => cF W (fr_step gL h)
      replace cH := fun W (h : Fr y2 W) => cH W (fr_step gL h)
      replace cI := fun W (h : Fr y2 W) => cI W (fr_step gL h)
      replace cV := fun W (h : Fr y2 W) => cV W (fr_step gL h)
      replace cU := fun W (h : Fr y2 W) => cU W (fr_step gL h)
      have GL := keep (fr_step GV.out gL)
      clear cW cX lY gL hD yy GV
      try clear hHeld
      go_wp2_with fail
      refine wp_region_noPanic ?_
      refine wp_region_held_drew (S := fun w' => Fr y2 w') (by kernel_rfl) hD9 (fun hHeld => ?_)
      change wpAnyH _ _ _ _ _ _ _ _ _
      refine wpAnyH_take (i := 0) (v := ?_) rfl (by kernel_rfl) (by kernel_rfl) (by kernel_rfl) (fun _ _ _ h => h) (Or.inl ⟨by rfl, ?_⟩) (by assumption) ?_
      rotate_left
      · intro w' hSw
        try dsimp only at hSw
        go_simp
        try with_reducible rfl
      try simp only [List.getElem_toArray, List.getElem_cons_zero, Act.put, List.setIfInBounds_toArray, List.set_cons_zero, List.set_cons_succ]
      refine wpAnyH_take (i := 1) (v := ?_) rfl (by kernel_rfl) (by kernel_rfl) (by kernel_rfl) (fun _ _ _ h => h) (Or.inl ⟨by rfl, ?_⟩) (by assumption) ?_
      rotate_left
      · intro w' hSw
        try dsimp only at hSw
        go_simp
        try with_reducible rfl
      try simp only [List.getElem_toArray, List.getElem_cons_succ, List.getElem_cons_zero, Act.put, List.setIfInBounds_toArray, List.set_cons_zero, List.set_cons_succ]
      refine wpAnyH_take (i := 2) (v := ?_) rfl (by kernel_rfl) (by kernel_rfl) (by kernel_rfl) (fun _ _ _ h => h) (Or.inl ⟨by rfl, ?_⟩) (by assumption) ?_
      rotate_left
      · intro w' hSw
        try dsimp only at hSw
        go_simp
        try with_reducible rfl
      try simp only [List.getElem_toArray, List.getElem_cons_succ, List.getElem_cons_zero, Act.put, List.setIfInBounds_toArray, List.set_cons_zero, List.set_cons_succ]
      refine wpAnyH_take (i := 3) (v := ?_) rfl (by kernel_rfl) (by kernel_rfl) (by kernel_rfl) (fun _ _ _ h => h) (Or.inl ⟨by rfl, ?_⟩) (by assumption) ?_
      rotate_left
      · intro w' hSw
        try dsimp only at hSw
        go_simp
        try with_reducible rfl
      try simp only [List.getElem_toArray, List.getElem_cons_succ, List.getElem_cons_zero, Act.put, List.setIfInBounds_toArray, List.set_cons_zero, List.set_cons_succ]
      refine wpAnyH_take (i := 4) (v := .bool false) rfl (by kernel_rfl) (by kernel_rfl) (by kernel_rfl) (fun _ _ _ h => h) (Or.inl ⟨by rfl, ?_⟩) (by assumption) ?_
      · intro w' hSw
        try dsimp only at hSw
        try go_simp
        all_goals first | done | with_reducible rfl | omega | assumption | (simp; omega)
      try simp only [List.getElem_toArray, List.getElem_cons_succ, List.getElem_cons_zero, Act.put, List.setIfInBounds_toArray, List.set_cons_zero, List.set_cons_succ]
      refine wpAnyH_take (i := 5) (v := .bool false) rfl (by kernel_rfl) (by kernel_rfl) (by kernel_rfl) (fun _ _ _ h => h) (Or.inl ⟨by rfl, ?_⟩) (by assumption) ?_
      · intro w' hSw
        try dsimp only at hSw
        try go_simp
        all_goals first | done | with_reducible rfl | omega | assumption | (simp; omega)
      try simp only [List.getElem_toArray, List.getElem_cons_succ, List.getElem_cons_zero, Act.put, List.setIfInBounds_toArray, List.set_cons_zero, List.set_cons_succ]
      refine wpAnyH_take (i := 6) (v := ?_) rfl (by kernel_rfl) (by kernel_rfl) (by kernel_rfl) (fun _ _ _ h => h) (Or.inl ⟨by rfl, ?_⟩) (by assumption) ?_
      rotate_left
      · intro w' hSw
        try dsimp only at hSw
        go_simp
        try with_reducible rfl
      try simp only [List.getElem_toArray, List.getElem_cons_succ, List.getElem_cons_zero, Act.put, List.setIfInBounds_toArray, List.set_cons_zero, List.set_cons_succ]
      refine wpAnyH_take (i := 8) (v := ?_) rfl (by kernel_rfl) (by kernel_rfl) (by kernel_rfl) (fun _ _ _ h => h) (Or.inl ⟨by rfl, ?_⟩) (by assumption) ?_
      rotate_left
      · intro w' hSw
        try dsimp only at hSw
        go_simp
        try with_reducible rfl
      try simp only [List.getElem_toArray, List.getElem_cons_succ, List.getElem_cons_zero, Act.put, List.setIfInBounds_toArray, List.set_cons_zero, List.set_cons_succ]
      refine wpAnyH_ready (rs := [7]) (by kernel_rfl) (by simp) ?_
      refine AllReadyH.cons rfl (fun K hK0 => ?_) AllReadyH.nil
      go_simp
      refine (cB _ (by assumption)).mono ?_
      rintro e y3 ⟨rfl, zy3⟩
      go_simp
      refine hK0.out _ _ (fr_step (by assumption) zy3) (fun _ => ?_)
      clear hK0 K
      try simp only [List.getElem_toArray, List.getElem_cons_succ, List.getElem_cons_zero, Act.put, List.setIfInBounds_toArray, List.set_cons_zero, List.set_cons_succ]
      refine wpAnyH_ready (rs := [9]) (by kernel_rfl) (by simp) ?_
      refine AllReadyH.cons rfl (fun K hK0 => ?_) AllReadyH.nil
      go_simp
      refine (cD _ (by assumption)).mono ?_
      rintro e y4 ⟨rfl, zy4⟩
      go_simp
      refine hK0.out _ _ (fr_step (by assumption) zy4) (fun _ => ?_)
      clear hK0 K
      try simp only [List.getElem_toArray, List.getElem_cons_succ, List.getElem_cons_zero, Act.put, List.setIfInBounds_toArray, List.set_cons_zero, List.set_cons_succ]
      refine wpAnyH_take (i := 10) (v := .bool false) rfl (by kernel_rfl) (by kernel_rfl) (by kernel_rfl) (fun _ _ _ h => h) (Or.inl ⟨by rfl, ?_⟩) (by assumption) ?_
      · intro w' hSw
        try dsimp only at hSw
        try go_simp
        all_goals first | done | with_reducible rfl | omega | assumption | (simp; omega)
      try simp only [List.getElem_toArray, List.getElem_cons_succ, List.getElem_cons_zero, Act.put, List.setIfInBounds_toArray, List.set_cons_zero, List.set_cons_succ]
      refine wpAnyH_take (i := 11) (v := .bool false) rfl (by kernel_rfl) (by kernel_rfl) (by kernel_rfl) (fun _ _ _ h => h) (Or.inl ⟨by rfl, ?_⟩) (by assumption) ?_
      · intro w' hSw
        try dsimp only at hSw
        try go_simp
        all_goals first | done | with_reducible rfl | omega | assumption | (simp; omega)
      try simp only [List.getElem_toArray, List.getElem_cons_succ, List.getElem_cons_zero, Act.put, List.setIfInBounds_toArray, List.set_cons_zero, List.set_cons_succ]
      refine wpAnyH_take (i := 12) (v := .bool false) rfl (by kernel_rfl) (by kernel_rfl) (by kernel_rfl) (fun _ _ _ h => h) (Or.inl ⟨by rfl, ?_⟩) (by assumption) ?_
      · intro w' hSw
        try dsimp only at hSw
        try go_simp
        all_goals first | done | with_reducible rfl | omega | assumption | (simp; omega)
      try simp only [List.getElem_toArray, List.getElem_cons_succ, List.getElem_cons_zero, Act.put, List.setIfInBounds_toArray, List.set_cons_zero, List.set_cons_succ]
      refine wpAnyH_take (i := 13) (v := ?_) rfl (by kernel_rfl) (by kernel_rfl) (by kernel_rfl) (fun _ _ _ h => h) (Or.inl ⟨by rfl, ?_⟩) (by assumption) ?_
      rotate_left
      · intro w' hSw
        try dsimp only at hSw
        go_simp
        try with_reducible rfl
      try simp only [List.getElem_toArray, List.getElem_cons_succ, List.getElem_cons_zero, Act.put, List.setIfInBounds_toArray, List.set_cons_zero, List.set_cons_succ]
      refine wpAnyH_ready (rs := [14]) (by kernel_rfl) (by simp) ?_
      refine AllReadyH.cons rfl (fun K hK0 => ?_) AllReadyH.nil
      go_simp
      refine (cC _ (by assumption)).mono ?_
      rintro e y5 ⟨rfl, zy5⟩
      go_simp
      refine hK0.out _ _ (fr_step (by assumption) zy5) (fun _ => ?_)
      clear hK0 K
      try simp only [List.getElem_toArray, List.getElem_cons_succ, List.getElem_cons_zero, Act.put, List.setIfInBounds_toArray, List.set_cons_zero, List.set_cons_succ]
      refine wpAnyH_take (i := 15) (v := .bool false) rfl (by kernel_rfl) (by kernel_rfl) (by kernel_rfl) (fun _ _ _ h => h) (Or.inl ⟨by rfl, ?_⟩) (by assumption) ?_
      · intro w' hSw
        try dsimp only at hSw
        try go_simp
        all_goals first | done | with_reducible rfl | omega | assumption | (simp; omega)
      try simp only [List.getElem_toArray, List.getElem_cons_succ, List.getElem_cons_zero, Act.put, List.setIfInBounds_toArray, List.set_cons_zero, List.set_cons_succ]
      refine wpAnyH_take (i := 16) (v := .bool false) rfl (by kernel_rfl) (by kernel_rfl) (by kernel_rfl) (fun _ _ _ h => h) (Or.inl ⟨by rfl, ?_⟩) (by assumption) ?_
      · intro w' hSw
        try dsimp only at hSw
        try go_simp
        all_goals first | done | with_reducible rfl | omega | assumption | (simp; omega)
      try simp only [List.getElem_toArray, List.getElem_cons_succ, List.getElem_cons_zero, Act.put, List.setIfInBounds_toArray, List.set_cons_zero, List.set_cons_succ]
      refine wpAnyH_take (i := 17) (v := .bool false) rfl (by kernel_rfl) (by kernel_rfl) (by kernel_rfl) (fun _ _ _ h => h) (Or.inl ⟨by rfl, ?_⟩) (by assumption) ?_
      · intro w' hSw
        try dsimp only at hSw
        try go_simp
        all_goals first | done | with_reducible rfl | omega | assumption | (simp; omega)
      try simp only [List.getElem_toArray, List.getElem_cons_succ, List.getElem_cons_zero, Act.put, List.setIfInBounds_toArray, List.set_cons_zero, List.set_cons_succ]
      refine wpAnyH_take (i := 18) (v := ?_) rfl (by kernel_rfl) (by kernel_rfl) (by kernel_rfl) (fun _ _ _ h => h) (Or.inl ⟨by rfl, ?_⟩) (by assumption) ?_
      rotate_left
      · intro w' hSw
        try dsimp only at hSw
        go_simp
        try with_reducible rfl
      try simp only [List.getElem_toArray, List.getElem_cons_succ, List.getElem_cons_zero, Act.put, List.setIfInBounds_toArray, List.set_cons_zero, List.set_cons_succ]
      refine wpAnyH_ready (rs := [19]) (by kernel_rfl) (by simp) ?_
      refine AllReadyH.cons rfl (fun K hK0 => ?_) AllReadyH.nil
      go_simp
      refine (cF _ (by assumption)).mono ?_
      rintro e y6 ⟨rfl, zy6⟩
      go_simp
      refine hK0.out _ _ (fr_step (by assumption) zy6) (fun _ => ?_)
      clear hK0 K
      try simp only [List.getElem_toArray, List.getElem_cons_succ, List.getElem_cons_zero, Act.put, List.setIfInBounds_toArray, List.set_cons_zero, List.set_cons_succ]
      refine wpAnyH_take (i := 20) (v := .bool false) rfl (by kernel_rfl) (by kernel_rfl) (by kernel_rfl) (fun _ _ _ h => h) (Or.inl ⟨by rfl, ?_⟩) (by assumption) ?_
      · intro w' hSw
        try dsimp only at hSw
        try go_simp
        all_goals first | done | with_reducible rfl | omega | assumption | (simp; omega)
      try simp only [List.getElem_toArray, List.getElem_cons_succ, List.getElem_cons_zero, Act.put, List.setIfInBounds_toArray, List.set_cons_zero, List.set_cons_succ]
      refine wpAnyH_take (i := 21) (v := .bool false) rfl (by kernel_rfl) (by kernel_rfl) (by kernel_rfl) (fun _ _ _ h => h) (Or.inl ⟨by rfl, ?_⟩) (by assumption) ?_
      · intro w' hSw
        try dsimp only at hSw
        try go_simp
        all_goals first | done | with_reducible rfl | omega | assumption | (simp; omega)
      try simp only [List.getElem_toArray, List.getElem_cons_succ, List.getElem_cons_zero, Act.put, List.setIfInBounds_toArray, List.set_cons_zero, List.set_cons_succ]
      refine wpAnyH_take (i := 22) (v := .bool false) rfl (by kernel_rfl) (by kernel_rfl) (by kernel_rfl) (fun _ _ _ h => h) (Or.inl ⟨by rfl, ?_⟩) (by assumption) ?_
      · intro w' hSw
        try dsimp only at hSw
        try go_simp
        all_goals first | done | with_reducible rfl | omega | assumption | (simp; omega)
      try simp only [List.getElem_toArray, List.getElem_cons_succ, List.getElem_cons_zero, Act.put, List.setIfInBounds_toArray, List.set_cons_zero, List.set_cons_succ]
      refine wpAnyH_take (i := 23) (v := ?_) rfl (by kernel_rfl) (by kernel_rfl) (by kernel_rfl) (fun _ _ _ h => h) (Or.inl ⟨by rfl, ?_⟩) (by assumption) ?_
      rotate_left
      · intro w' hSw
        try dsimp only at hSw
        go_simp
        try with_reducible rfl
      try simp only [List.getElem_toArray, List.getElem_cons_succ, List.getElem_cons_zero, Act.put, List.setIfInBounds_toArray, List.set_cons_zero, List.set_cons_succ]
      refine wpAnyH_take (i := 25) (v := ?_) rfl (by kernel_rfl) (by kernel_rfl) (by kernel_rfl) (fun _ _ _ h => h) (Or.inl ⟨by rfl, ?_⟩) (by assumption) ?_
      rotate_left
      · intro w' hSw
        try dsimp only at hSw
        go_simp
        try with_reducible rfl
      try simp only [List.getElem_toArray, List.getElem_cons_succ, List.getElem_cons_zero, Act.put, List.setIfInBounds_toArray, List.set_cons_zero, List.set_cons_succ]
      refine wpAnyH_ready (rs := [24]) (by kernel_rfl) (by simp) ?_
      refine AllReadyH.cons rfl (fun K hK0 => ?_) AllReadyH.nil
      go_simp
      refine (cH _ (by assumption)).mono ?_
      rintro e y7 ⟨rfl, zy7⟩
      go_simp
      refine hK0.out _ _ (fr_step (by assumption) zy7) (fun _ => ?_)
      clear hK0 K
      try simp only [List.getElem_toArray, List.getElem_cons_succ, List.getElem_cons_zero, Act.put, List.setIfInBounds_toArray, List.set_cons_zero, List.set_cons_succ]
      refine wpAnyH_ready (rs := [26]) (by kernel_rfl) (by simp) ?_
      refine AllReadyH.cons rfl (fun K hK0 => ?_) AllReadyH.nil
      go_simp
      refine (cI _ (by assumption)).mono ?_
      rintro e y8 ⟨rfl, zy8⟩
      go_simp
      refine hK0.out _ _ (fr_step (by assumption) zy8) (fun _ => ?_)
      clear hK0 K
      try simp only [List.getElem_toArray, List.getElem_cons_succ, List.getElem_cons_zero, Act.put, List.setIfInBounds_toArray, List.set_cons_zero, List.set_cons_succ]
      refine wpAnyH_take (i := 27) (v := .bool false) rfl (by kernel_rfl) (by kernel_rfl) (by kernel_rfl) (fun _ _ _ h => h) (Or.inl ⟨by rfl, ?_⟩) (by assumption) ?_
      · intro w' hSw
        try dsimp only at hSw
        try go_simp
        all_goals first | done | with_reducible rfl | omega | assumption | (simp; omega)
      try simp only [List.getElem_toArray, List.getElem_cons_succ, List.getElem_cons_zero, Act.put, List.setIfInBounds_toArray, List.set_cons_zero, List.set_cons_succ]
      refine wpAnyH_take (i := 28) (v := .bool false) rfl (by kernel_rfl) (by kernel_rfl) (by kernel_rfl) (fun _ _ _ h => h) (Or.inl ⟨by rfl, ?_⟩) (by assumption) ?_
      · intro w' hSw
        try dsimp only at hSw
        try go_simp
        all_goals first | done | with_reducible rfl | omega | assumption | (simp; omega)
      try simp only [List.getElem_toArray, List.getElem_cons_succ, List.getElem_cons_zero, Act.put, List.setIfInBounds_toArray, List.set_cons_zero, List.set_cons_succ]
      refine wpAnyH_take (i := 29) (v := .bool false) rfl (by kernel_rfl) (by kernel_rfl) (by kernel_rfl) (fun _ _ _ h => h) (Or.inl ⟨by rfl, ?_⟩) (by assumption) ?_
      · intro w' hSw
        try dsimp only at hSw
        try go_simp
        all_goals first | done | with_reducible rfl | omega | assumption | (simp; omega)
      try simp only [List.getElem_toArray, List.getElem_cons_succ, List.getElem_cons_zero, Act.put, List.setIfInBounds_toArray, List.set_cons_zero, List.set_cons_succ]
      refine wpAnyH_take (i := 30) (v := ?_) rfl (by kernel_rfl) (by kernel_rfl) (by kernel_rfl) (fun _ _ _ h => h) (Or.inl ⟨by rfl, ?_⟩) (by assumption) ?_
      rotate_left
      · intro w' hSw
        try dsimp only at hSw
        go_simp
        try with_reducible rfl
      try simp only [List.getElem_toArray, List.getElem_cons_succ, List.getElem_cons_zero, Act.put, List.setIfInBounds_toArray, List.set_cons_zero, List.set_cons_succ]
      refine wpAnyH_take (i := 32) (v := ?_) rfl (by kernel_rfl) (by kernel_rfl) (by kernel_rfl) (fun _ _ _ h => h) (Or.inl ⟨by rfl, ?_⟩) (by assumption) ?_
      rotate_left
      · intro w' hSw
        try dsimp only at hSw
        go_simp
        try with_reducible rfl
      try simp only [List.getElem_toArray, List.getElem_cons_succ, List.getElem_cons_zero, Act.put, List.setIfInBounds_toArray, List.set_cons_zero, List.set_cons_succ]
      refine wpAnyH_ready (rs := [31]) (by kernel_rfl) (by simp) ?_
      refine AllReadyH.cons rfl (fun K hK0 => ?_) AllReadyH.nil
      go_simp
      refine (cV _ (by assumption)).mono ?_
      rintro e y9 ⟨rfl, zy9⟩
      go_simp
      refine hK0.out _ _ (fr_step (by assumption) zy9) (fun _ => ?_)
      clear hK0 K
      try simp only [List.getElem_toArray, List.getElem_cons_succ, List.getElem_cons_zero, Act.put, List.setIfInBounds_toArray, List.set_cons_zero, List.set_cons_succ]
      refine wpAnyH_ready (rs := [33]) (by kernel_rfl) (by simp) ?_
      refine AllReadyH.cons rfl (fun K hK0 => ?_) AllReadyH.nil
      go_simp
      refine (cU _ (by assumption)).mono ?_
      rintro e y10 ⟨rfl, zy10⟩
      go_simp
      refine hK0.out _ _ (fr_step (by assumption) zy10) (fun _ => ?_)
      clear hK0 K
      try simp only [List.getElem_toArray, List.getElem_cons_succ, List.getElem_cons_zero, Act.put, List.setIfInBounds_toArray, List.set_cons_zero, List.set_cons_succ]
      refine wpAnyH_take (i := 34) (v := .bool false) rfl (by kernel_rfl) (by kernel_rfl) (by kernel_rfl) (fun _ _ _ h => h) (Or.inl ⟨by rfl, ?_⟩) (by assumption) ?_
      · intro w' hSw
        try dsimp only at hSw
        try go_simp
        all_goals first | done | with_reducible rfl | omega | assumption | (simp; omega)
      try simp only [List.getElem_toArray, List.getElem_cons_succ, List.getElem_cons_zero, Act.put, List.setIfInBounds_toArray, List.set_cons_zero, List.set_cons_succ]
      refine wpAnyH_take (i := 35) (v := .bool false) rfl (by kernel_rfl) (by kernel_rfl) (by kernel_rfl) (fun _ _ _ h => h) (Or.inl ⟨by rfl, ?_⟩) (by assumption) ?_
      · intro w' hSw
        try dsimp only at hSw
        try go_simp
        all_goals first | done | with_reducible rfl | omega | assumption | (simp; omega)
      try simp only [List.getElem_toArray, List.getElem_cons_succ, List.getElem_cons_zero, Act.put, List.setIfInBounds_toArray, List.set_cons_zero, List.set_cons_succ]
      refine wpAnyH_done (by kernel_rfl) ?_ _
      refine NoPanic.normal ?_
      have gE : Fr y2 y10 := by assumption
      clear zy3 zy4 zy5 zy6 zy7 zy8 zy9 zy10
      replace hw1 := keep (has_stp9 hw1.out gE)
      replace hw2 := keep (has_stp9 hw2.out gE)
      have GE := keep (fr_step GL.out gE)
      have ee := fr_refl y10
      clear cB cD cC cF cH cI cV cU lL gE hD9 GL
      try clear hHeld
      go_wp2_with fail
      go_loopg [15] m1 (fun g s15 wr => ∃ j : Nat, j + g = m1 ∧ s15 = .int .i64 j ∧ Hid (Fr y10 wr))
      case atStart => exact ⟨0, by omega, rfl, keep ee⟩
      case round =>
        obtain ⟨j, hj, rfl, hF⟩ := hrel
        have hFF := hF.out
        by_cases hlt : j < m1
        · have hjz : (j : Int) < (m1 : Int) := by omega
          have hx : wl1[j]? = some (wl1[j]'(by rw [Hl.out]; exact hlt)) := List.getElem?_eq_getElem _
          generalize wl1[j]'(by rw [Hl.out]; exact hlt) = x at hx
          obtain ⟨b1, o1, rfl, hb1, hc1⟩ := hw1.out j _ (ints_get hx)
          obtain ⟨b2, o2, rfl, hb2, hc2⟩ := hw2.out j _ (ints_get hx)
          have d1 : ∀ W, Fr y10 W → W.cell? ⟨b1, o1 + j, none⟩ = some (.int .i64 x) := fun W h => (h.cell hb1).trans hc1
          have d2 : ∀ W, Fr y10 W → W.cell? ⟨b2, o2 + j, none⟩ = some (.int .i64 x) := fun W h => (h.cell hb2).trans hc2
          have qx : (x != x) = false := by simp
          have Hj := keep hj
          have hDj := fr_drew hFF
          clear hb1 hb2 hc1 hc2 hx hlt hj
          go_wp2_with fail
          go_region_held3 (fun w' => Fr y10 w') (first | exact hDj | assumption) (first | fail)
          rename_i hH
          go_wp2_with fail
          go_roundg (gk - 1)
          case measure => have := Hj.out; omega
          case rel => exact ⟨j + 1, by have := Hj.out; omega, by go_num, keep hH⟩
        · have hjz : ¬ ((j : Int) < (m1 : Int)) := by omega
          clear hlt hj
          go_wp2_with fail
          go_roundg (go - 1)
          case measure => have := Hgo.out; omega
          case rel => exact ⟨1, by have := Hgo.out; omega, rfl, keep (fr_step GE.out hFF)⟩
    · have Hgo := keep hi
      clear hi
      have tok1 : Hid (0 < 1) := keep (by decide)
      have tok2 : Hid (0 < 1) := keep (by decide)
      go_wp2_with (first
        | (clear tok1; refine wpList_store_at (ds := NV.cells v1) nod_info rfl (.tmp 12) (.tmp 26) rfl wo.heap.size 0 rfl rfl rfl (nv_one _) (Arr.new wo zeroNV.cells.toArray 27) (by decide) (splice_all _ _ (Nat.le_of_eq rfl)) ?_; intro X hM hk
           have gX := hk.fr (fr_new hoo _) (Nat.le_refl _)
           have hVX := fr_step hFF gX
           have hz := gX.size
           clear hk)
        | (clear tok2; refine wpList_store_at (ds := NV.cells v2) nod_info rfl (.tmp 12) (.tmp 29) rfl wo.heap.size 0 rfl rfl rfl (nv_one _) hM (Nat.le_of_eq rfl) (splice_all _ _ (Nat.le_of_eq rfl)) ?_; intro Y hM2 hk2
           have gY := hk2.fr gX (Nat.le_refl _)
           have lY : ∀ W, Fr Y W → (ldS 27 (.pointer (some ⟨wo.heap.size, 0, none⟩))).run Try.prog W = .ok (.agg v2.cells.toArray) W := fun W h => nodS.ld rfl (hM2.below h hM2.lt)
           have yy := fr_refl Y
           clear hk2 hM hM2 gX hVX hz)
        | fail)
      have gV := fr_step hFF gY
      have cW := fun W (h : Fr Y W) => AA2.cW W (fr_step gV h)
      have cX := fun W (h : Fr Y W) => AA2.cX W (fr_step gV h)
      have cB := fun W (h : Fr Y W) => AA2.cB W (fr_step gV h)
      have cD := fun W (h : Fr Y W) => AA2.cD W (fr_step gV h)
      have cC := fun W (h : Fr Y W) => AA2.cC W (fr_step gV h)
      have cF := fun W (h : Fr Y W) => AA2.cF W (fr_step gV h)
      have cH := fun W (h : Fr Y W) => AA2.cH W (fr_step gV h)
      have cI := fun W (h : Fr Y W) => AA2.cI W (fr_step gV h)
      have cV := fun W (h : Fr Y W) => AA2.cV W (fr_step gV h)
      have cU := fun W (h : Fr Y W) => AA2.cU W (fr_step gV h)
      have Hl := keep AA2.hl
      have GV := keep gV
      have z1 : (bb2 != bb2) = false := by simp
      have z2 : (ff2 != ff2) = false := by simp
      have z3 : (hv2 != hv2) = false := by simp
      have z4 : ((m2 : Int) != (m2 : Int)) = false := by simp
      clear AA1 AA2 cS cT cAw l1 l2 hF hFF gV gY hoo vv
      have hD := fr_drew yy
      go_wp2_with fail
      refine wp_region_noPanic ?_
      refine wp_region_held_drew (S := fun w' => Fr Y w') (by kernel_rfl) hD (fun hHeld => ?_)
      change wpAnyH _ _ _ _ _ _ _ _ _
      refine wpAnyH_take (i := 0) (v := ?_) rfl (by kernel_rfl) (by kernel_rfl) (by kernel_rfl) (fun _ _ _ h => h) (Or.inl ⟨by rfl, ?_⟩) (by assumption) ?_
      rotate_left
      · intro w' hSw
        try dsimp only at hSw
        go_simp
        try with_reducible rfl
      try simp only [List.getElem_toArray, List.getElem_cons_zero, Act.put, List.setIfInBounds_toArray, List.set_cons_zero, List.set_cons_succ]
      refine wpAnyH_take (i := 2) (v := ?_) rfl (by kernel_rfl) (by kernel_rfl) (by kernel_rfl) (fun _ _ _ h => h) (Or.inl ⟨by rfl, ?_⟩) (by assumption) ?_
      rotate_left
      · intro w' hSw
        try dsimp only at hSw
        go_simp
        try with_reducible rfl
      try simp only [List.getElem_toArray, List.getElem_cons_succ, List.getElem_cons_zero, Act.put, List.setIfInBounds_toArray, List.set_cons_zero, List.set_cons_succ]
      refine wpAnyH_ready (rs := [1]) (by kernel_rfl) (by simp) ?_
      refine AllReadyH.cons rfl (fun K hK0 => ?_) AllReadyH.nil
      go_simp
      refine (cW _ (by assumption)).mono ?_
      rintro e y1 ⟨Aw, cw, rfl, hw1, zy1⟩
      go_simp
      refine hK0.out _ _ (fr_step (by assumption) zy1) (fun _ => ?_)
      clear hK0 K
      try simp only [List.getElem_toArray, List.getElem_cons_succ, List.getElem_cons_zero, Act.put, List.setIfInBounds_toArray, List.set_cons_zero, List.set_cons_succ]
      refine wpAnyH_ready (rs := [3]) (by kernel_rfl) (by simp) ?_
      refine AllReadyH.cons rfl (fun K hK0 => ?_) AllReadyH.nil
      go_simp
      refine (cX _ (by assumption)).mono ?_
      rintro e y2 ⟨Av, cv, rfl, hw2, zy2⟩
      go_simp
      replace hw1 := keep (has_stp9 hw1.out zy2)
      refine hK0.out _ _ (fr_step (by assumption) zy2) (fun _ => ?_)
      clear hK0 K
      try simp only [List.getElem_toArray, List.getElem_cons_succ, List.getElem_cons_zero, Act.put, List.setIfInBounds_toArray, List.set_cons_zero, List.set_cons_succ]
      refine wpAnyH_take (i := 4) (v := ?_) rfl (by kernel_rfl) (by kernel_rfl) (by kernel_rfl) (fun _ _ _ h => h) (Or.inl ⟨by rfl, ?_⟩) (by assumption) ?_
      rotate_left
      · intro w' hSw
        try dsimp only at hSw
        go_simp
        try with_reducible rfl
      try simp only [List.getElem_toArray, List.getElem_cons_succ, List.getElem_cons_zero, Act.put, List.setIfInBounds_toArray, List.set_cons_zero, List.set_cons_succ]
      refine wpAnyH_take (i := 5) (v := ?_) rfl (by kernel_rfl) (by kernel_rfl) (by kernel_rfl) (fun _ _ _ h => h) (Or.inl ⟨by rfl, ?_⟩) (by assumption) ?_
      rotate_left
      · intro w' hSw
        try dsimp only at hSw
        go_simp
        try with_reducible rfl
      try simp only [List.getElem_toArray, List.getElem_cons_succ, List.getElem_cons_zero, Act.put, List.setIfInBounds_toArray, List.set_cons_zero, List.set_cons_succ]
      refine wpAnyH_done (by kernel_rfl) ?_ _
      refine NoPanic.normal ?_
      have gL : Fr Y y2 := by assumption
      clear zy1 zy2
      have hD9 := fr_drew (fr_refl y2)
      have lL := fun W (h : Fr y2 W) => lY W (fr_step gL h)
      replace cB := fun W (h : Fr y2 W) => cB W (fr_step gL h)
      replace cD := fun W (h : Fr y2 W) => cD W (fr_step gL h)
      replace cC := fun W (h : Fr y2 W) => cC W (fr_step gL h)
      replace cF := fun W (h : Fr y2 W) => cF W (fr_step gL h)
      replace cH := fun W (h : Fr y2 W) => cH W (fr_step gL h)
      replace cI := fun W (h : Fr y2 W) => cI W (fr_step gL h)
      replace cV := fun W (h : Fr y2 W) => cV W (fr_step gL h)
      replace cU := fun W (h : Fr y2 W) => cU W (fr_step gL h)
      have GL := keep (fr_step GV.out gL)
      clear cW cX lY gL hD yy GV
      try clear hHeld
      go_wp2_with fail
      refine wp_region_noPanic ?_
      refine wp_region_held_drew (S := fun w' => Fr y2 w') (by kernel_rfl) hD9 (fun hHeld => ?_)
      change wpAnyH _ _ _ _ _ _ _ _ _
      refine wpAnyH_take (i := 0) (v := ?_) rfl (by kernel_rfl) (by kernel_rfl) (by kernel_rfl) (fun _ _ _ h => h) (Or.inl ⟨by rfl, ?_⟩) (by assumption) ?_
      rotate_left
      · intro w' hSw
        try dsimp only at hSw
        go_simp
        try with_reducible rfl
      try simp only [List.getElem_toArray, List.getElem_cons_zero, Act.put, List.setIfInBounds_toArray, List.set_cons_zero, List.set_cons_succ]
      refine wpAnyH_take (i := 1) (v := ?_) rfl (by kernel_rfl) (by kernel_rfl) (by kernel_rfl) (fun _ _ _ h => h) (Or.inl ⟨by rfl, ?_⟩) (by assumption) ?_
      rotate_left
      · intro w' hSw
        try dsimp only at hSw
        go_simp
        try with_reducible rfl
      try simp only [List.getElem_toArray, List.getElem_cons_succ, List.getElem_cons_zero, Act.put, List.setIfInBounds_toArray, List.set_cons_zero, List.set_cons_succ]
      refine wpAnyH_take (i := 2) (v := ?_) rfl (by kernel_rfl) (by kernel_rfl) (by kernel_rfl) (fun _ _ _ h => h) (Or.inl ⟨by rfl, ?_⟩) (by assumption) ?_
      rotate_left
      · intro w' hSw
        try dsimp only at hSw
        go_simp
        try with_reducible rfl
      try simp only [List.getElem_toArray, List.getElem_cons_succ, List.getElem_cons_zero, Act.put, List.setIfInBounds_toArray, List.set_cons_zero, List.set_cons_succ]
      refine wpAnyH_take (i := 3) (v := ?_) rfl (by kernel_rfl) (by kernel_rfl) (by kernel_rfl) (fun _ _ _ h => h) (Or.inl ⟨by rfl, ?_⟩) (by assumption) ?_
      rotate_left
      · intro w' hSw
        try dsimp only at hSw
        go_simp
        try with_reducible rfl
      try simp only [List.getElem_toArray, List.getElem_cons_succ, List.getElem_cons_zero, Act.put, List.setIfInBounds_toArray, List.set_cons_zero, List.set_cons_succ]
      refine wpAnyH_take (i := 4) (v := .bool false) rfl (by kernel_rfl) (by kernel_rfl) (by kernel_rfl) (fun _ _ _ h => h) (Or.inl ⟨by rfl, ?_⟩) (by assumption) ?_
      · intro w' hSw
        try dsimp only at hSw
        try go_simp
        all_goals first | done | with_reducible rfl | omega | assumption | (simp; omega)
      try simp only [List.getElem_toArray, List.getElem_cons_succ, List.getElem_cons_zero, Act.put, List.setIfInBounds_toArray, List.set_cons_zero, List.set_cons_succ]
      refine wpAnyH_take (i := 5) (v := .bool false) rfl (by kernel_rfl) (by kernel_rfl) (by kernel_rfl) (fun _ _ _ h => h) (Or.inl ⟨by rfl, ?_⟩) (by assumption) ?_
      · intro w' hSw
        try dsimp only at hSw
        try go_simp
        all_goals first | done | with_reducible rfl | omega | assumption | (simp; omega)
      try simp only [List.getElem_toArray, List.getElem_cons_succ, List.getElem_cons_zero, Act.put, List.setIfInBounds_toArray, List.set_cons_zero, List.set_cons_succ]
      refine wpAnyH_take (i := 6) (v := ?_) rfl (by kernel_rfl) (by kernel_rfl) (by kernel_rfl) (fun _ _ _ h => h) (Or.inl ⟨by rfl, ?_⟩) (by assumption) ?_
      rotate_left
      · intro w' hSw
        try dsimp only at hSw
        go_simp
        try with_reducible rfl
      try simp only [List.getElem_toArray, List.getElem_cons_succ, List.getElem_cons_zero, Act.put, List.setIfInBounds_toArray, List.set_cons_zero, List.set_cons_succ]
      refine wpAnyH_take (i := 8) (v := ?_) rfl (by kernel_rfl) (by kernel_rfl) (by kernel_rfl) (fun _ _ _ h => h) (Or.inl ⟨by rfl, ?_⟩) (by assumption) ?_
      rotate_left
      · intro w' hSw
        try dsimp only at hSw
        go_simp
        try with_reducible rfl
      try simp only [List.getElem_toArray, List.getElem_cons_succ, List.getElem_cons_zero, Act.put, List.setIfInBounds_toArray, List.set_cons_zero, List.set_cons_succ]
      refine wpAnyH_ready (rs := [7]) (by kernel_rfl) (by simp) ?_
      refine AllReadyH.cons rfl (fun K hK0 => ?_) AllReadyH.nil
      go_simp
      refine (cB _ (by assumption)).mono ?_
      rintro e y3 ⟨rfl, zy3⟩
      go_simp
      refine hK0.out _ _ (fr_step (by assumption) zy3) (fun _ => ?_)
      clear hK0 K
      try simp only [List.getElem_toArray, List.getElem_cons_succ, List.getElem_cons_zero, Act.put, List.setIfInBounds_toArray, List.set_cons_zero, List.set_cons_succ]
      refine wpAnyH_ready (rs := [9]) (by kernel_rfl) (by simp) ?_
      refine AllReadyH.cons rfl (fun K hK0 => ?_) AllReadyH.nil
      go_simp
      refine (cD _ (by assumption)).mono ?_
      rintro e y4 ⟨rfl, zy4⟩
      go_simp
      refine hK0.out _ _ (fr_step (by assumption) zy4) (fun _ => ?_)
      clear hK0 K
      try simp only [List.getElem_toArray, List.getElem_cons_succ, List.getElem_cons_zero, Act.put, List.setIfInBounds_toArray, List.set_cons_zero, List.set_cons_succ]
      refine wpAnyH_take (i := 10) (v := .bool false) rfl (by kernel_rfl) (by kernel_rfl) (by kernel_rfl) (fun _ _ _ h => h) (Or.inl ⟨by rfl, ?_⟩) (by assumption) ?_
      · intro w' hSw
        try dsimp only at hSw
        try go_simp
        all_goals first | done | with_reducible rfl | omega | assumption | (simp; omega)
      try simp only [List.getElem_toArray, List.getElem_cons_succ, List.getElem_cons_zero, Act.put, List.setIfInBounds_toArray, List.set_cons_zero, List.set_cons_succ]
      refine wpAnyH_take (i := 11) (v := .bool false) rfl (by kernel_rfl) (by kernel_rfl) (by kernel_rfl) (fun _ _ _ h => h) (Or.inl ⟨by rfl, ?_⟩) (by assumption) ?_
      · intro w' hSw
        try dsimp only at hSw
        try go_simp
        all_goals first | done | with_reducible rfl | omega | assumption | (simp; omega)
      try simp only [List.getElem_toArray, List.getElem_cons_succ, List.getElem_cons_zero, Act.put, List.setIfInBounds_toArray, List.set_cons_zero, List.set_cons_succ]
      refine wpAnyH_take (i := 12) (v := .bool false) rfl (by kernel_rfl) (by kernel_rfl) (by kernel_rfl) (fun _ _ _ h => h) (Or.inl ⟨by rfl, ?_⟩) (by assumption) ?_
      · intro w' hSw
        try dsimp only at hSw
        try go_simp
        all_goals first | done | with_reducible rfl | omega | assumption | (simp; omega)
      try simp only [List.getElem_toArray, List.getElem_cons_succ, List.getElem_cons_zero, Act.put, List.setIfInBounds_toArray, List.set_cons_zero, List.set_cons_succ]
      refine wpAnyH_take (i := 13) (v := ?_) rfl (by kernel_rfl) (by kernel_rfl) (by kernel_rfl) (fun _ _ _ h => h) (Or.inl ⟨by rfl, ?_⟩) (by assumption) ?_
      rotate_left
      · intro w' hSw
        try dsimp only at hSw
        go_simp
        try with_reducible rfl
      try simp only [List.getElem_toArray, List.getElem_cons_succ, List.getElem_cons_zero, Act.put, List.setIfInBounds_toArray, List.set_cons_zero, List.set_cons_succ]
      refine wpAnyH_ready (rs := [14]) (by kernel_rfl) (by simp) ?_
      refine AllReadyH.cons rfl (fun K hK0 => ?_) AllReadyH.nil
      go_simp
      refine (cC _ (by assumption)).mono ?_
      rintro e y5 ⟨rfl, zy5⟩
      go_simp
      refine hK0.out _ _ (fr_step (by assumption) zy5) (fun _ => ?_)
      clear hK0 K
      try simp only [List.getElem_toArray, List.getElem_cons_succ, List.getElem_cons_zero, Act.put, List.setIfInBounds_toArray, List.set_cons_zero, List.set_cons_succ]
      refine wpAnyH_take (i := 15) (v := .bool false) rfl (by kernel_rfl) (by kernel_rfl) (by kernel_rfl) (fun _ _ _ h => h) (Or.inl ⟨by rfl, ?_⟩) (by assumption) ?_
      · intro w' hSw
        try dsimp only at hSw
        try go_simp
        all_goals first | done | with_reducible rfl | omega | assumption | (simp; omega)
      try simp only [List.getElem_toArray, List.getElem_cons_succ, List.getElem_cons_zero, Act.put, List.setIfInBounds_toArray, List.set_cons_zero, List.set_cons_succ]
      refine wpAnyH_take (i := 16) (v := .bool false) rfl (by kernel_rfl) (by kernel_rfl) (by kernel_rfl) (fun _ _ _ h => h) (Or.inl ⟨by rfl, ?_⟩) (by assumption) ?_
      · intro w' hSw
        try dsimp only at hSw
        try go_simp
        all_goals first | done | with_reducible rfl | omega | assumption | (simp; omega)
      try simp only [List.getElem_toArray, List.getElem_cons_succ, List.getElem_cons_zero, Act.put, List.setIfInBounds_toArray, List.set_cons_zero, List.set_cons_succ]
      refine wpAnyH_take (i := 17) (v := .bool false) rfl (by kernel_rfl) (by kernel_rfl) (by kernel_rfl) (fun _ _ _ h => h) (Or.inl ⟨by rfl, ?_⟩) (by assumption) ?_
      · intro w' hSw
        try dsimp only at hSw
        try go_simp
        all_goals first | done | with_reducible rfl | omega | assumption | (simp; omega)
      try simp only [List.getElem_toArray, List.getElem_cons_succ, List.getElem_cons_zero, Act.put, List.setIfInBounds_toArray, List.set_cons_zero, List.set_cons_succ]
      refine wpAnyH_take (i := 18) (v := ?_) rfl (by kernel_rfl) (by kernel_rfl) (by kernel_rfl) (fun _ _ _ h => h) (Or.inl ⟨by rfl, ?_⟩) (by assumption) ?_
      rotate_left
      · intro w' hSw
        try dsimp only at hSw
        go_simp
        try with_reducible rfl
      try simp only [List.getElem_toArray, List.getElem_cons_succ, List.getElem_cons_zero, Act.put, List.setIfInBounds_toArray, List.set_cons_zero, List.set_cons_succ]
      refine wpAnyH_ready (rs := [19]) (by kernel_rfl) (by simp) ?_
      refine AllReadyH.cons rfl (fun K hK0 => ?_) AllReadyH.nil
      go_simp
      refine (cF _ (by assumption)).mono ?_
      rintro e y6 ⟨rfl, zy6⟩
      go_simp
      refine hK0.out _ _ (fr_step (by assumption) zy6) (fun _ => ?_)
      clear hK0 K
      try simp only [List.getElem_toArray, List.getElem_cons_succ, List.getElem_cons_zero, Act.put, List.setIfInBounds_toArray, List.set_cons_zero, List.set_cons_succ]
      refine wpAnyH_take (i := 20) (v := .bool false) rfl (by kernel_rfl) (by kernel_rfl) (by kernel_rfl) (fun _ _ _ h => h) (Or.inl ⟨by rfl, ?_⟩) (by assumption) ?_
      · intro w' hSw
        try dsimp only at hSw
        try go_simp
        all_goals first | done | with_reducible rfl | omega | assumption | (simp; omega)
      try simp only [List.getElem_toArray, List.getElem_cons_succ, List.getElem_cons_zero, Act.put, List.setIfInBounds_toArray, List.set_cons_zero, List.set_cons_succ]
      refine wpAnyH_take (i := 21) (v := .bool false) rfl (by kernel_rfl) (by kernel_rfl) (by kernel_rfl) (fun _ _ _ h => h) (Or.inl ⟨by rfl, ?_⟩) (by assumption) ?_
      · intro w' hSw
        try dsimp only at hSw
        try go_simp
        all_goals first | done | with_reducible rfl | omega | assumption | (simp; omega)
      try simp only [List.getElem_toArray, List.getElem_cons_succ, List.getElem_cons_zero, Act.put, List.setIfInBounds_toArray, List.set_cons_zero, List.set_cons_succ]
      refine wpAnyH_take (i := 22) (v := .bool false) rfl (by kernel_rfl) (by kernel_rfl) (by kernel_rfl) (fun _ _ _ h => h) (Or.inl ⟨by rfl, ?_⟩) (by assumption) ?_
      · intro w' hSw
        try dsimp only at hSw
        try go_simp
        all_goals first | done | with_reducible rfl | omega | assumption | (simp; omega)
      try simp only [List.getElem_toArray, List.getElem_cons_succ, List.getElem_cons_zero, Act.put, List.setIfInBounds_toArray, List.set_cons_zero, List.set_cons_succ]
      refine wpAnyH_take (i := 23) (v := ?_) rfl (by kernel_rfl) (by kernel_rfl) (by kernel_rfl) (fun _ _ _ h => h) (Or.inl ⟨by rfl, ?_⟩) (by assumption) ?_
      rotate_left
      · intro w' hSw
        try dsimp only at hSw
        go_simp
        try with_reducible rfl
      try simp only [List.getElem_toArray, List.getElem_cons_succ, List.getElem_cons_zero, Act.put, List.setIfInBounds_toArray, List.set_cons_zero, List.set_cons_succ]
      refine wpAnyH_take (i := 25) (v := ?_) rfl (by kernel_rfl) (by kernel_rfl) (by kernel_rfl) (fun _ _ _ h => h) (Or.inl ⟨by rfl, ?_⟩) (by assumption) ?_
      rotate_left
      · intro w' hSw
        try dsimp only at hSw
        go_simp
        try with_reducible rfl
      try simp only [List.getElem_toArray, List.getElem_cons_succ, List.getElem_cons_zero, Act.put, List.setIfInBounds_toArray, List.set_cons_zero, List.set_cons_succ]
      refine wpAnyH_ready (rs := [24]) (by kernel_rfl) (by simp) ?_
      refine AllReadyH.cons rfl (fun K hK0 => ?_) AllReadyH.nil
      go_simp
      refine (cH _ (by assumption)).mono ?_
      rintro e y7 ⟨rfl, zy7⟩
      go_simp
      refine hK0.out _ _ (fr_step (by assumption) zy7) (fun _ => ?_)
      clear hK0 K
      try simp only [List.getElem_toArray, List.getElem_cons_succ, List.getElem_cons_zero, Act.put, List.setIfInBounds_toArray, List.set_cons_zero, List.set_cons_succ]
      refine wpAnyH_ready (rs := [26]) (by kernel_rfl) (by simp) ?_
      refine AllReadyH.cons rfl (fun K hK0 => ?_) AllReadyH.nil
      go_simp
      refine (cI _ (by assumption)).mono ?_
      rintro e y8 ⟨rfl, zy8⟩
      go_simp
      refine hK0.out _ _ (fr_step (by assumption) zy8) (fun _ => ?_)
      clear hK0 K
      try simp only [List.getElem_toArray, List.getElem_cons_succ, List.getElem_cons_zero, Act.put, List.setIfInBounds_toArray, List.set_cons_zero, List.set_cons_succ]
      refine wpAnyH_take (i := 27) (v := .bool false) rfl (by kernel_rfl) (by kernel_rfl) (by kernel_rfl) (fun _ _ _ h => h) (Or.inl ⟨by rfl, ?_⟩) (by assumption) ?_
      · intro w' hSw
        try dsimp only at hSw
        try go_simp
        all_goals first | done | with_reducible rfl | omega | assumption | (simp; omega)
      try simp only [List.getElem_toArray, List.getElem_cons_succ, List.getElem_cons_zero, Act.put, List.setIfInBounds_toArray, List.set_cons_zero, List.set_cons_succ]
      refine wpAnyH_take (i := 28) (v := .bool false) rfl (by kernel_rfl) (by kernel_rfl) (by kernel_rfl) (fun _ _ _ h => h) (Or.inl ⟨by rfl, ?_⟩) (by assumption) ?_
      · intro w' hSw
        try dsimp only at hSw
        try go_simp
        all_goals first | done | with_reducible rfl | omega | assumption | (simp; omega)
      try simp only [List.getElem_toArray, List.getElem_cons_succ, List.getElem_cons_zero, Act.put, List.setIfInBounds_toArray, List.set_cons_zero, List.set_cons_succ]
      refine wpAnyH_take (i := 29) (v := .bool false) rfl (by kernel_rfl) (by kernel_rfl) (by kernel_rfl) (fun _ _ _ h => h) (Or.inl ⟨by rfl, ?_⟩) (by assumption) ?_
      · intro w' hSw
        try dsimp only at hSw
        try go_simp
        all_goals first | done | with_reducible rfl | omega | assumption | (simp; omega)
      try simp only [List.getElem_toArray, List.getElem_cons_succ, List.getElem_cons_zero, Act.put, List.setIfInBounds_toArray, List.set_cons_zero, List.set_cons_succ]
      refine wpAnyH_take (i := 30) (v := ?_) rfl (by kernel_rfl) (by kernel_rfl) (by kernel_rfl) (fun _ _ _ h => h) (Or.inl ⟨by rfl, ?_⟩) (by assumption) ?_
      rotate_left
      · intro w' hSw
        try dsimp only at hSw
        go_simp
        try with_reducible rfl
      try simp only [List.getElem_toArray, List.getElem_cons_succ, List.getElem_cons_zero, Act.put, List.setIfInBounds_toArray, List.set_cons_zero, List.set_cons_succ]
      refine wpAnyH_take (i := 32) (v := ?_) rfl (by kernel_rfl) (by kernel_rfl) (by kernel_rfl) (fun _ _ _ h => h) (Or.inl ⟨by rfl, ?_⟩) (by assumption) ?_
      rotate_left
      · intro w' hSw
        try dsimp only at hSw
        go_simp
        try with_reducible rfl
      try simp only [List.getElem_toArray, List.getElem_cons_succ, List.getElem_cons_zero, Act.put, List.setIfInBounds_toArray, List.set_cons_zero, List.set_cons_succ]
      refine wpAnyH_ready (rs := [31]) (by kernel_rfl) (by simp) ?_
      refine AllReadyH.cons rfl (fun K hK0 => ?_) AllReadyH.nil
      go_simp
      refine (cV _ (by assumption)).mono ?_
      rintro e y9 ⟨rfl, zy9⟩
      go_simp
      refine hK0.out _ _ (fr_step (by assumption) zy9) (fun _ => ?_)
      clear hK0 K
      try simp only [List.getElem_toArray, List.getElem_cons_succ, List.getElem_cons_zero, Act.put, List.setIfInBounds_toArray, List.set_cons_zero, List.set_cons_succ]
      refine wpAnyH_ready (rs := [33]) (by kernel_rfl) (by simp) ?_
      refine AllReadyH.cons rfl (fun K hK0 => ?_) AllReadyH.nil
      go_simp
      refine (cU _ (by assumption)).mono ?_
      rintro e y10 ⟨rfl, zy10⟩
      go_simp
      refine hK0.out _ _ (fr_step (by assumption) zy10) (fun _ => ?_)
      clear hK0 K
      try simp only [List.getElem_toArray, List.getElem_cons_succ, List.getElem_cons_zero, Act.put, List.setIfInBounds_toArray, List.set_cons_zero, List.set_cons_succ]
      refine wpAnyH_take (i := 34) (v := .bool false) rfl (by kernel_rfl) (by kernel_rfl) (by kernel_rfl) (fun _ _ _ h => h) (Or.inl ⟨by rfl, ?_⟩) (by assumption) ?_
      · intro w' hSw
        try dsimp only at hSw
        try go_simp
        all_goals first | done | with_reducible rfl | omega | assumption | (simp; omega)
      try simp only [List.getElem_toArray, List.getElem_cons_succ, List.getElem_cons_zero, Act.put, List.setIfInBounds_toArray, List.set_cons_zero, List.set_cons_succ]
      refine wpAnyH_take (i := 35) (v := .bool false) rfl (by kernel_rfl) (by kernel_rfl) (by kernel_rfl) (fun _ _ _ h => h) (Or.inl ⟨by rfl, ?_⟩) (by assumption) ?_
      · intro w' hSw
        try dsimp only at hSw
        try go_simp
        all_goals first | done | with_reducible rfl | omega | assumption | (simp; omega)
      try simp only [List.getElem_toArray, List.getElem_cons_succ, List.getElem_cons_zero, Act.put, List.setIfInBounds_toArray, List.set_cons_zero, List.set_cons_succ]
      refine wpAnyH_done (by kernel_rfl) ?_ _
      refine NoPanic.normal ?_
      have gE : Fr y2 y10 := by assumption
      clear zy3 zy4 zy5 zy6 zy7 zy8 zy9 zy10
      replace hw1 := keep (has_stp9 hw1.out gE)
      replace hw2 := keep (has_stp9 hw2.out gE)
      have GE := keep (fr_step GL.out gE)
      have ee := fr_refl y10
      clear cB cD cC cF cH cI cV cU lL gE hD9 GL
      try clear hHeld
      go_wp2_with fail
      go_loopg [15] m2 (fun g s15 wr => ∃ j : Nat, j + g = m2 ∧ s15 = .int .i64 j ∧ Hid (Fr y10 wr))
      case atStart => exact ⟨0, by omega, rfl, keep ee⟩
      case round =>
        obtain ⟨j, hj, rfl, hF⟩ := hrel
        have hFF := hF.out
        by_cases hlt : j < m2
        · have hjz : (j : Int) < (m2 : Int) := by omega
          have hx : wl2[j]? = some (wl2[j]'(by rw [Hl.out]; exact hlt)) := List.getElem?_eq_getElem _
          generalize wl2[j]'(by rw [Hl.out]; exact hlt) = x at hx
          obtain ⟨b1, o1, rfl, hb1, hc1⟩ := hw1.out j _ (ints_get hx)
          obtain ⟨b2, o2, rfl, hb2, hc2⟩ := hw2.out j _ (ints_get hx)
          have d1 : ∀ W, Fr y10 W → W.cell? ⟨b1, o1 + j, none⟩ = some (.int .i64 x) := fun W h => (h.cell hb1).trans hc1
          have d2 : ∀ W, Fr y10 W → W.cell? ⟨b2, o2 + j, none⟩ = some (.int .i64 x) := fun W h => (h.cell hb2).trans hc2
          have qx : (x != x) = false := by simp
          have Hj := keep hj
          have hDj := fr_drew hFF
          clear hb1 hb2 hc1 hc2 hx hlt hj
          go_wp2_with fail
          go_region_held3 (fun w' => Fr y10 w') (first | exact hDj | assumption) (first | fail)
          rename_i hH
          go_wp2_with fail
          go_roundg (gk - 1)
          case measure => have := Hj.out; omega
          case rel => exact ⟨j + 1, by have := Hj.out; omega, by go_num, keep hH⟩
        · have hjz : ¬ ((j : Int) < (m2 : Int)) := by omega
          clear hlt hj
          go_wp2_with fail
          go_roundg (go - 1)
          case measure => have := Hgo.out; omega
          case rel => exact ⟨2, by have := Hgo.out; omega, rfl, keep (fr_step GE.out hFF)⟩
    · clear hi
      have hD := fr_drew hFF
      have eS : (bs == bs) = true := by simp
      go_wp2_with fail
      refine wp_region_noPanic ?_
      refine wp_region_held_drew (S := fun w' => Fr V w') (by kernel_rfl) hD (fun hHeld => ?_)
      change wpAnyH _ _ _ _ _ _ _ _ _
      refine wpAnyH_take (i := 0) (v := ?_) rfl (by kernel_rfl) (by kernel_rfl) (by kernel_rfl) (fun _ _ _ h => h) (Or.inl ⟨by rfl, ?_⟩) (by assumption) ?_
      rotate_left
      · intro w' hSw
        try dsimp only at hSw
        go_simp
        try with_reducible rfl
      try simp only [List.getElem_toArray, List.getElem_cons_zero, Act.put, List.setIfInBounds_toArray, List.set_cons_zero, List.set_cons_succ]
      refine wpAnyH_take (i := 1) (v := ?_) rfl (by kernel_rfl) (by kernel_rfl) (by kernel_rfl) (fun _ _ _ h => h) (Or.inl ⟨by rfl, ?_⟩) (by assumption) ?_
      rotate_left
      · intro w' hSw
        try dsimp only at hSw
        go_simp
        try with_reducible rfl
      try simp only [List.getElem_toArray, List.getElem_cons_succ, List.getElem_cons_zero, Act.put, List.setIfInBounds_toArray, List.set_cons_zero, List.set_cons_succ]
      refine wpAnyH_take (i := 3) (v := ?_) rfl (by kernel_rfl) (by kernel_rfl) (by kernel_rfl) (fun _ _ _ h => h) (Or.inl ⟨by rfl, ?_⟩) (by assumption) ?_
      rotate_left
      · intro w' hSw
        try dsimp only at hSw
        go_simp
        try with_reducible rfl
      try simp only [List.getElem_toArray, List.getElem_cons_succ, List.getElem_cons_zero, Act.put, List.setIfInBounds_toArray, List.set_cons_zero, List.set_cons_succ]
      refine wpAnyH_take (i := 4) (v := ?_) rfl (by kernel_rfl) (by kernel_rfl) (by kernel_rfl) (fun _ _ _ h => h) (Or.inl ⟨by rfl, ?_⟩) (by assumption) ?_
      rotate_left
      · intro w' hSw
        try dsimp only at hSw
        go_simp
        try with_reducible rfl
      try simp only [List.getElem_toArray, List.getElem_cons_succ, List.getElem_cons_zero, Act.put, List.setIfInBounds_toArray, List.set_cons_zero, List.set_cons_succ]
      refine wpAnyH_ready (rs := [2]) (by kernel_rfl) (by simp) ?_
      refine AllReadyH.cons rfl (fun K hK0 => ?_) AllReadyH.nil
      go_simp
      refine (cS _ (by assumption)).mono ?_
      rintro e y1 ⟨rfl, zy1⟩
      go_simp
      refine hK0.out _ _ (fr_step (by assumption) zy1) (fun _ => ?_)
      clear hK0 K
      try simp only [List.getElem_toArray, List.getElem_cons_succ, List.getElem_cons_zero, Act.put, List.setIfInBounds_toArray, List.set_cons_zero, List.set_cons_succ]
      refine wpAnyH_ready (rs := [5]) (by kernel_rfl) (by simp) ?_
      refine AllReadyH.cons rfl (fun K hK0 => ?_) AllReadyH.nil
      go_simp
      refine (cT _ (by assumption)).mono ?_
      rintro e y2 ⟨rfl, zy2⟩
      go_simp
      refine hK0.out _ _ (fr_step (by assumption) zy2) (fun _ => ?_)
      clear hK0 K
      try simp only [List.getElem_toArray, List.getElem_cons_succ, List.getElem_cons_zero, Act.put, List.setIfInBounds_toArray, List.set_cons_zero, List.set_cons_succ]
      refine wpAnyH_take (i := 6) (v := .bool true) rfl (by kernel_rfl) (by kernel_rfl) (by kernel_rfl) (fun _ _ _ h => h) (Or.inl ⟨by rfl, ?_⟩) (by assumption) ?_
      · intro w' hSw
        try dsimp only at hSw
        try go_simp
        all_goals first | done | with_reducible rfl | omega | assumption | (simp; omega)
      try simp only [List.getElem_toArray, List.getElem_cons_succ, List.getElem_cons_zero, Act.put, List.setIfInBounds_toArray, List.set_cons_zero, List.set_cons_succ]
      refine wpAnyH_take (i := 7) (v := .bool true) rfl (by kernel_rfl) (by kernel_rfl) (by kernel_rfl) (fun _ _ _ h => h) (Or.inl ⟨by rfl, ?_⟩) (by assumption) ?_
      · intro w' hSw
        try dsimp only at hSw
        try go_simp
        all_goals first | done | with_reducible rfl | omega | assumption | (simp; omega)
      try simp only [List.getElem_toArray, List.getElem_cons_succ, List.getElem_cons_zero, Act.put, List.setIfInBounds_toArray, List.set_cons_zero, List.set_cons_succ]
      refine wpAnyH_ready (rs := [8]) (by kernel_rfl) (by simp) ?_
      refine AllReadyH.cons rfl (fun K hK0 => ?_) AllReadyH.nil
      go_simp
      refine (cAw _ (by assumption)).mono ?_
      rintro e y3 ⟨rfl, zy3⟩
      go_simp
      refine hK0.out _ _ (fr_step (by assumption) zy3) (fun _ => ?_)
      clear hK0 K
      try simp only [List.getElem_toArray, List.getElem_cons_succ, List.getElem_cons_zero, Act.put, List.setIfInBounds_toArray, List.set_cons_zero, List.set_cons_succ]
      refine wpAnyH_take (i := 9) (v := .bool true) rfl (by kernel_rfl) (by kernel_rfl) (by kernel_rfl) (fun _ _ _ h => h) (Or.inl ⟨by rfl, ?_⟩) (by assumption) ?_
      · intro w' hSw
        try dsimp only at hSw
        try go_simp
        all_goals first | done | with_reducible rfl | omega | assumption | (simp; omega)
      try simp only [List.getElem_toArray, List.getElem_cons_succ, List.getElem_cons_zero, Act.put, List.setIfInBounds_toArray, List.set_cons_zero, List.set_cons_succ]
      refine wpAnyH_take (i := 10) (v := ?_) rfl (by kernel_rfl) (by kernel_rfl) (by kernel_rfl) (fun _ _ _ h => h) (Or.inl ⟨by rfl, ?_⟩) (by assumption) ?_
      rotate_left
      · intro w' hSw
        try dsimp only at hSw
        go_simp
        try with_reducible rfl
      try simp only [List.getElem_toArray, List.getElem_cons_succ, List.getElem_cons_zero, Act.put, List.setIfInBounds_toArray, List.set_cons_zero, List.set_cons_succ]
      refine wpAnyH_done (by kernel_rfl) ?_ _
      refine NoPanic.normal ?_
      go_wp2_with fail
      go_ret
      exact ⟨rfl, fr_step top.out (by assumption)⟩
end Go.Proofs.Ytcdcaanmmbopbaa
