/- The program's 'own': a node in memory of its own. -/
import Derived.Test.YtmoaddbpfekdbaaGreatM11
import Derived.Deep.CutBlock
import Derived.Deep.RegionHeld3
namespace Go.Proofs.YtmoaddbpfekdbaaGreat
set_option linter.unusedVariables false
set_option linter.unusedSimpArgs false
set_option maxRecDepth 100000
open Go.RowKit
attribute [local go_sem ↓] nod_ld
set_option maxHeartbeats 4000000 in
theorem own_raw {w : World} {v : NV} {x1 x2 x3 x4 : List Value}
    (clE : ∀ W, Fr w W → Calls Tryz.prog 70 #[.slice v.A1 v.n1 v.c1] W fun e w' => ∃ A' c', e = .returned (.slice A' v.n1 c') ∧ HasP w' (fun b => W.heap.size ≤ b) A' x1 ∧ v.n1 ≤ c' ∧ Fr W w')
    (clI : ∀ W, Fr w W → Calls Tryz.prog 71 #[.slice v.A2 v.n2 v.c2] W fun e w' => ∃ A' c', e = .returned (.slice A' v.n2 c') ∧ HasP w' (fun b => W.heap.size ≤ b) A' x2 ∧ v.n2 ≤ c' ∧ Fr W w')
    (clK : ∀ W, Fr w W → Calls Tryz.prog 72 #[.slice v.A3 v.n3 v.c3] W fun e w' => ∃ A' c', e = .returned (.slice A' v.n3 c') ∧ HasP w' (fun b => W.heap.size ≤ b) A' x3 ∧ v.n3 ≤ c' ∧ Fr W w')
    (clM : ∀ W, Fr w W → Calls Tryz.prog 73 #[.slice v.A4 v.n4 v.c4] W fun e w' => ∃ A' c', e = .returned (.slice A' v.n4 c') ∧ HasP w' (fun b => W.heap.size ≤ b) A' x4 ∧ v.n4 ≤ c' ∧ Fr W w') :
    Calls Tryz.prog 44 #[nv v] w fun e w' => ∃ A1 c1 A2 c2 A3 c3 A4 c4, e = .returned (nv ⟨v.lf, A1, v.n1, c1, A2, v.n2, c2, A3, v.n3, c3, A4, v.n4, c4⟩) ∧ (HasP w' (fun b => w.heap.size + 2 ≤ b) A1 x1 ∧ v.n1 ≤ c1 ∧ HasP w' (fun b => w.heap.size + 2 ≤ b) A2 x2 ∧ v.n2 ≤ c2 ∧ HasP w' (fun b => w.heap.size + 2 ≤ b) A3 x3 ∧ v.n3 ≤ c3 ∧ HasP w' (fun b => w.heap.size + 2 ≤ b) A4 x4 ∧ v.n4 ≤ c4) ∧ Fr w w' := by
  unfold nv
  obtain ⟨Y, hY, h0, hy, hA⟩ := boxes [(v.cells.toArray, 41), (zeroNV.cells.toArray, 41)] w
  have HG : Hid (Arr Y w.heap.size 41 v.cells.toArray) := keep (hA 0 _ rfl)
  have HK : Hid (Arr Y (w.heap.size + 1) 41 zeroNV.cells.toArray) := keep (hA 1 _ rfl)
  change (w.alloc (.cells v.cells.toArray 41)).alloc (.cells #[.bool false, .slice none 0 0, .slice none 0 0, .slice none 0 0, .slice none 0 0] 41) = Y at hY
  have hYY := fr_refl Y
  have hy1 : Hid (w.heap.size + 2 ≤ Y.heap.size) := keep (by have := hy.out; simp at this; omega)
  clear hA hy
  have cE : ∀ W, Fr w W → Fr Y W → Calls Tryz.prog 70 #[.slice v.A1 v.n1 v.c1] W fun e w' => ∃ A' c', e = .returned (.slice A' v.n1 c') ∧ HasP w' (fun b => w.heap.size + 2 ≤ b) A' x1 ∧ v.n1 ≤ c' ∧ Fr W w' := fun W h' h => (clE W h').mono fun e w' ⟨A', c', a, b, c, d⟩ => ⟨A', c', a, b.weak (fun _ _ k => by have := hy1.out; have := h.size; omega), c, d⟩
  have cI : ∀ W, Fr w W → Fr Y W → Calls Tryz.prog 71 #[.slice v.A2 v.n2 v.c2] W fun e w' => ∃ A' c', e = .returned (.slice A' v.n2 c') ∧ HasP w' (fun b => w.heap.size + 2 ≤ b) A' x2 ∧ v.n2 ≤ c' ∧ Fr W w' := fun W h' h => (clI W h').mono fun e w' ⟨A', c', a, b, c, d⟩ => ⟨A', c', a, b.weak (fun _ _ k => by have := hy1.out; have := h.size; omega), c, d⟩
  go_enter Tryz.func44, Tryz.ntmps44
  go_upto_region 1 with fail
  go_cut [] from 3 to 11 (fun wx => ∃ A1 c1 A2 c2, Arr wx w.heap.size 41 (NV.cells ⟨v.lf, A1, v.n1, c1, A2, v.n2, c2, v.A3, v.n3, v.c3, v.A4, v.n4, v.c4⟩).toArray ∧ HasP wx (fun b => w.heap.size + 2 ≤ b) A1 x1 ∧ v.n1 ≤ c1 ∧ HasP wx (fun b => w.heap.size + 2 ≤ b) A2 x2 ∧ v.n2 ≤ c2 ∧ Arr wx (w.heap.size + 1) 41 zeroNV.cells.toArray ∧ Fr w wx)
  case first =>
    have hYd : Fr w Y.drew := fr_drew h0
    have yYd := fr_drew hYY
    have k1 : ∀ W, Fr Y W → W.cell? ⟨w.heap.size, 1, none⟩ = some (.slice v.A1 v.n1 v.c1) := fun W h => (HG.out.below h HG.out.lt).cell 1
    have k2 : ∀ W, Fr Y W → W.cell? ⟨w.heap.size, 2, none⟩ = some (.slice v.A2 v.n2 v.c2) := fun W h => (HG.out.below h HG.out.lt).cell 2
    refine wp_region_noPanic ?_
    refine wp_region_held_drew (S := fun w' => Fr w w') (by kernel_rfl) hYd (fun hHeld => ?_)
    change wpAnyH _ _ _ _ _ _ _ _ _
    refine wpAnyH_take (i := 0) (v := ?_) rfl (by kernel_rfl) (by kernel_rfl) (by kernel_rfl) (fun _ _ _ h => h) (Or.inl ⟨by rfl, ?_⟩) (by assumption) ?_
    rotate_left
    · intro w' hSw
      try dsimp only at hSw
      go_simp
      try with_reducible rfl
    try simp only [List.getElem_toArray, List.getElem_cons_zero, Act.put, List.setIfInBounds_toArray, List.set_cons_zero, List.set_cons_succ]
    refine wpAnyH_take (i := 3) (v := ?_) rfl (by kernel_rfl) (by kernel_rfl) (by kernel_rfl) (fun _ _ _ h => h) (Or.inl ⟨by rfl, ?_⟩) (by assumption) ?_
    rotate_left
    · intro w' hSw
      try dsimp only at hSw
      go_simp
      try with_reducible rfl
    try simp only [List.getElem_toArray, List.getElem_cons_succ, List.getElem_cons_zero, Act.put, List.setIfInBounds_toArray, List.set_cons_zero, List.set_cons_succ]
    refine wpAnyH_ready (rs := [1, 4]) (by kernel_rfl) (by simp) ?_
    refine AllReadyH.cons rfl (fun K hK0 => ?_) (AllReadyH.cons rfl (fun K hK0 => ?_) (AllReadyH.nil))
    · go_simp
      refine hK0.out _ _ hYd (fun _ => ?_)
      clear hK0 K
      try simp only [List.getElem_toArray, List.getElem_cons_succ, List.getElem_cons_zero, Act.put, List.setIfInBounds_toArray, List.set_cons_zero, List.set_cons_succ]
      refine wpAnyH_ready (rs := [2, 4]) (by kernel_rfl) (by simp) ?_
      refine AllReadyH.cons rfl (fun K hK0 => ?_) (AllReadyH.cons rfl (fun K hK0 => ?_) (AllReadyH.nil))
      · go_simp
        refine (cE Y.drew hYd yYd).mono ?_
        rintro e w1 ⟨Aa, da, rfl, ia, ja, f1⟩
        go_simp
        have hw1 := fr_step hYd f1
        have yw1 := fr_step yYd f1
        refine hK0.out _ _ hw1 (fun _ => ?_)
        clear hK0 K
        try simp only [List.getElem_toArray, List.getElem_cons_succ, List.getElem_cons_zero, Act.put, List.setIfInBounds_toArray, List.set_cons_zero, List.set_cons_succ]
        refine wpAnyH_ready (rs := [4]) (by kernel_rfl) (by simp) ?_
        refine AllReadyH.cons rfl (fun K hK0 => ?_) AllReadyH.nil
        go_simp
        refine hK0.out _ _ hw1 (fun _ => ?_)
        clear hK0 K
        try simp only [List.getElem_toArray, List.getElem_cons_succ, List.getElem_cons_zero, Act.put, List.setIfInBounds_toArray, List.set_cons_zero, List.set_cons_succ]
        refine wpAnyH_take (i := 6) (v := ?_) rfl (by kernel_rfl) (by kernel_rfl) (by kernel_rfl) (fun _ _ _ h => h) (Or.inl ⟨by rfl, ?_⟩) (by assumption) ?_
        rotate_left
        · intro w' hSw
          try dsimp only at hSw
          go_simp
          try with_reducible rfl
        try simp only [List.getElem_toArray, List.getElem_cons_succ, List.getElem_cons_zero, Act.put, List.setIfInBounds_toArray, List.set_cons_zero, List.set_cons_succ]
        refine wpAnyH_ready (rs := [5]) (by kernel_rfl) (by simp) ?_
        refine AllReadyH.cons rfl (fun K hK0 => ?_) AllReadyH.nil
        go_simp
        refine (cI w1 hw1 yw1).mono ?_
        rintro e w2 ⟨Ab, db, rfl, ib, jb, f2⟩
        go_simp
        have hw2 := fr_step hw1 f2
        have yw2 := fr_step yw1 f2
        have gw2 := HG.out.below yw2 HG.out.lt
        have kw2 := HK.out.below yw2 HK.out.lt
        replace ia := ia.fr f2
        refine hK0.out _ _ hw2 (fun _ => ?_)
        clear hK0 K
        try simp only [List.getElem_toArray, List.getElem_cons_succ, List.getElem_cons_zero, Act.put, List.setIfInBounds_toArray, List.set_cons_zero, List.set_cons_succ]
        refine wpAnyH_ready (rs := [7]) (by kernel_rfl) (by simp) ?_
        refine AllReadyH.cons rfl (fun K hK0 => ?_) AllReadyH.nil
        refine step_store_in (ds := [.slice Aa v.n1 da]) sl_e (by rfl) (.tmp 9) (.tmp 5) rfl w.heap.size 1 rfl rfl rfl (one_sl _ _ _) gw2 (nv_fit1 _ (by decide)) (cs' := (NV.cells ⟨v.lf, Aa, v.n1, da, v.A2, v.n2, v.c2, v.A3, v.n3, v.c3, v.A4, v.n4, v.c4⟩)) rfl ?_
        intro w3 g3 q3
        have hw3 := q3.fr hw2 (Nat.le_refl _)
        refine hK0.out _ _ hw3 (fun _ => ?_)
        clear hK0 K
        try simp only [List.getElem_toArray, List.getElem_cons_succ, List.getElem_cons_zero, Act.put, List.setIfInBounds_toArray, List.set_cons_zero, List.set_cons_succ]
        refine wpAnyH_take (i := 8) (v := ?_) rfl (by kernel_rfl) (by kernel_rfl) (by kernel_rfl) (fun _ _ _ h => h) (Or.inl ⟨by rfl, ?_⟩) (by assumption) ?_
        rotate_left
        · intro w' hSw
          try dsimp only at hSw
          go_simp
          try with_reducible rfl
        try simp only [List.getElem_toArray, List.getElem_cons_succ, List.getElem_cons_zero, Act.put, List.setIfInBounds_toArray, List.set_cons_zero, List.set_cons_succ]
        refine wpAnyH_ready (rs := [9]) (by kernel_rfl) (by simp) ?_
        refine AllReadyH.cons rfl (fun K hK0 => ?_) AllReadyH.nil
        refine step_store_in (ds := [.slice Ab v.n2 db]) sl_i (by rfl) (.tmp 10) (.tmp 8) rfl w.heap.size 2 rfl rfl rfl (one_sl _ _ _) g3 (nv_fit1 _ (by decide)) (cs' := (NV.cells ⟨v.lf, Aa, v.n1, da, Ab, v.n2, db, v.A3, v.n3, v.c3, v.A4, v.n4, v.c4⟩)) rfl ?_
        intro w4 g4 q4
        have hw4 := q4.fr hw3 (Nat.le_refl _)
        refine hK0.out _ _ hw4 (fun _ => ?_)
        clear hK0 K
        try simp only [List.getElem_toArray, List.getElem_cons_succ, List.getElem_cons_zero, Act.put, List.setIfInBounds_toArray, List.set_cons_zero, List.set_cons_succ]
        refine wpAnyH_done (by kernel_rfl) ?_ _
        refine NoPanic.normal ?_
        go_wp2_with fail
        go_meet
        exact ⟨Aa, da, Ab, db, g4, (ia.kept q3 (by omega)).kept q4 (by omega), ja, (ib.kept q3 (by omega)).kept q4 (by omega), jb, q4.other (q3.other kw2 (by omega)) (by omega), hw4⟩
      · go_simp
        refine hK0.out _ _ hYd (fun _ => ?_)
        clear hK0 K
        try simp only [List.getElem_toArray, List.getElem_cons_succ, List.getElem_cons_zero, Act.put, List.setIfInBounds_toArray, List.set_cons_zero, List.set_cons_succ]
        refine wpAnyH_ready (rs := [2]) (by kernel_rfl) (by simp) ?_
        refine AllReadyH.cons rfl (fun K hK0 => ?_) AllReadyH.nil
        go_simp
        refine (cE Y.drew hYd yYd).mono ?_
        rintro e w1 ⟨Aa, da, rfl, ia, ja, f1⟩
        go_simp
        have hw1 := fr_step hYd f1
        have yw1 := fr_step yYd f1
        refine hK0.out _ _ hw1 (fun _ => ?_)
        clear hK0 K
        try simp only [List.getElem_toArray, List.getElem_cons_succ, List.getElem_cons_zero, Act.put, List.setIfInBounds_toArray, List.set_cons_zero, List.set_cons_succ]
        refine wpAnyH_take (i := 6) (v := ?_) rfl (by kernel_rfl) (by kernel_rfl) (by kernel_rfl) (fun _ _ _ h => h) (Or.inl ⟨by rfl, ?_⟩) (by assumption) ?_
        rotate_left
        · intro w' hSw
          try dsimp only at hSw
          go_simp
          try with_reducible rfl
        try simp only [List.getElem_toArray, List.getElem_cons_succ, List.getElem_cons_zero, Act.put, List.setIfInBounds_toArray, List.set_cons_zero, List.set_cons_succ]
        refine wpAnyH_ready (rs := [5]) (by kernel_rfl) (by simp) ?_
        refine AllReadyH.cons rfl (fun K hK0 => ?_) AllReadyH.nil
        go_simp
        refine (cI w1 hw1 yw1).mono ?_
        rintro e w2 ⟨Ab, db, rfl, ib, jb, f2⟩
        go_simp
        have hw2 := fr_step hw1 f2
        have yw2 := fr_step yw1 f2
        have gw2 := HG.out.below yw2 HG.out.lt
        have kw2 := HK.out.below yw2 HK.out.lt
        replace ia := ia.fr f2
        refine hK0.out _ _ hw2 (fun _ => ?_)
        clear hK0 K
        try simp only [List.getElem_toArray, List.getElem_cons_succ, List.getElem_cons_zero, Act.put, List.setIfInBounds_toArray, List.set_cons_zero, List.set_cons_succ]
        refine wpAnyH_ready (rs := [7]) (by kernel_rfl) (by simp) ?_
        refine AllReadyH.cons rfl (fun K hK0 => ?_) AllReadyH.nil
        refine step_store_in (ds := [.slice Aa v.n1 da]) sl_e (by rfl) (.tmp 9) (.tmp 5) rfl w.heap.size 1 rfl rfl rfl (one_sl _ _ _) gw2 (nv_fit1 _ (by decide)) (cs' := (NV.cells ⟨v.lf, Aa, v.n1, da, v.A2, v.n2, v.c2, v.A3, v.n3, v.c3, v.A4, v.n4, v.c4⟩)) rfl ?_
        intro w3 g3 q3
        have hw3 := q3.fr hw2 (Nat.le_refl _)
        refine hK0.out _ _ hw3 (fun _ => ?_)
        clear hK0 K
        try simp only [List.getElem_toArray, List.getElem_cons_succ, List.getElem_cons_zero, Act.put, List.setIfInBounds_toArray, List.set_cons_zero, List.set_cons_succ]
        refine wpAnyH_take (i := 8) (v := ?_) rfl (by kernel_rfl) (by kernel_rfl) (by kernel_rfl) (fun _ _ _ h => h) (Or.inl ⟨by rfl, ?_⟩) (by assumption) ?_
        rotate_left
        · intro w' hSw
          try dsimp only at hSw
          go_simp
          try with_reducible rfl
        try simp only [List.getElem_toArray, List.getElem_cons_succ, List.getElem_cons_zero, Act.put, List.setIfInBounds_toArray, List.set_cons_zero, List.set_cons_succ]
        refine wpAnyH_ready (rs := [9]) (by kernel_rfl) (by simp) ?_
        refine AllReadyH.cons rfl (fun K hK0 => ?_) AllReadyH.nil
        refine step_store_in (ds := [.slice Ab v.n2 db]) sl_i (by rfl) (.tmp 10) (.tmp 8) rfl w.heap.size 2 rfl rfl rfl (one_sl _ _ _) g3 (nv_fit1 _ (by decide)) (cs' := (NV.cells ⟨v.lf, Aa, v.n1, da, Ab, v.n2, db, v.A3, v.n3, v.c3, v.A4, v.n4, v.c4⟩)) rfl ?_
        intro w4 g4 q4
        have hw4 := q4.fr hw3 (Nat.le_refl _)
        refine hK0.out _ _ hw4 (fun _ => ?_)
        clear hK0 K
        try simp only [List.getElem_toArray, List.getElem_cons_succ, List.getElem_cons_zero, Act.put, List.setIfInBounds_toArray, List.set_cons_zero, List.set_cons_succ]
        refine wpAnyH_done (by kernel_rfl) ?_ _
        refine NoPanic.normal ?_
        go_wp2_with fail
        go_meet
        exact ⟨Aa, da, Ab, db, g4, (ia.kept q3 (by omega)).kept q4 (by omega), ja, (ib.kept q3 (by omega)).kept q4 (by omega), jb, q4.other (q3.other kw2 (by omega)) (by omega), hw4⟩
    · go_simp
      refine hK0.out _ _ hYd (fun _ => ?_)
      clear hK0 K
      try simp only [List.getElem_toArray, List.getElem_cons_succ, List.getElem_cons_zero, Act.put, List.setIfInBounds_toArray, List.set_cons_zero, List.set_cons_succ]
      refine wpAnyH_ready (rs := [1]) (by kernel_rfl) (by simp) ?_
      refine AllReadyH.cons rfl (fun K hK0 => ?_) AllReadyH.nil
      go_simp
      refine hK0.out _ _ hYd (fun _ => ?_)
      clear hK0 K
      try simp only [List.getElem_toArray, List.getElem_cons_succ, List.getElem_cons_zero, Act.put, List.setIfInBounds_toArray, List.set_cons_zero, List.set_cons_succ]
      refine wpAnyH_ready (rs := [2]) (by kernel_rfl) (by simp) ?_
      refine AllReadyH.cons rfl (fun K hK0 => ?_) AllReadyH.nil
      go_simp
      refine (cE Y.drew hYd yYd).mono ?_
      rintro e w1 ⟨Aa, da, rfl, ia, ja, f1⟩
      go_simp
      have hw1 := fr_step hYd f1
      have yw1 := fr_step yYd f1
      refine hK0.out _ _ hw1 (fun _ => ?_)
      clear hK0 K
      try simp only [List.getElem_toArray, List.getElem_cons_succ, List.getElem_cons_zero, Act.put, List.setIfInBounds_toArray, List.set_cons_zero, List.set_cons_succ]
      refine wpAnyH_take (i := 6) (v := ?_) rfl (by kernel_rfl) (by kernel_rfl) (by kernel_rfl) (fun _ _ _ h => h) (Or.inl ⟨by rfl, ?_⟩) (by assumption) ?_
      rotate_left
      · intro w' hSw
        try dsimp only at hSw
        go_simp
        try with_reducible rfl
      try simp only [List.getElem_toArray, List.getElem_cons_succ, List.getElem_cons_zero, Act.put, List.setIfInBounds_toArray, List.set_cons_zero, List.set_cons_succ]
      refine wpAnyH_ready (rs := [5]) (by kernel_rfl) (by simp) ?_
      refine AllReadyH.cons rfl (fun K hK0 => ?_) AllReadyH.nil
      go_simp
      refine (cI w1 hw1 yw1).mono ?_
      rintro e w2 ⟨Ab, db, rfl, ib, jb, f2⟩
      go_simp
      have hw2 := fr_step hw1 f2
      have yw2 := fr_step yw1 f2
      have gw2 := HG.out.below yw2 HG.out.lt
      have kw2 := HK.out.below yw2 HK.out.lt
      replace ia := ia.fr f2
      refine hK0.out _ _ hw2 (fun _ => ?_)
      clear hK0 K
      try simp only [List.getElem_toArray, List.getElem_cons_succ, List.getElem_cons_zero, Act.put, List.setIfInBounds_toArray, List.set_cons_zero, List.set_cons_succ]
      refine wpAnyH_ready (rs := [7]) (by kernel_rfl) (by simp) ?_
      refine AllReadyH.cons rfl (fun K hK0 => ?_) AllReadyH.nil
      refine step_store_in (ds := [.slice Aa v.n1 da]) sl_e (by rfl) (.tmp 9) (.tmp 5) rfl w.heap.size 1 rfl rfl rfl (one_sl _ _ _) gw2 (nv_fit1 _ (by decide)) (cs' := (NV.cells ⟨v.lf, Aa, v.n1, da, v.A2, v.n2, v.c2, v.A3, v.n3, v.c3, v.A4, v.n4, v.c4⟩)) rfl ?_
      intro w3 g3 q3
      have hw3 := q3.fr hw2 (Nat.le_refl _)
      refine hK0.out _ _ hw3 (fun _ => ?_)
      clear hK0 K
      try simp only [List.getElem_toArray, List.getElem_cons_succ, List.getElem_cons_zero, Act.put, List.setIfInBounds_toArray, List.set_cons_zero, List.set_cons_succ]
      refine wpAnyH_take (i := 8) (v := ?_) rfl (by kernel_rfl) (by kernel_rfl) (by kernel_rfl) (fun _ _ _ h => h) (Or.inl ⟨by rfl, ?_⟩) (by assumption) ?_
      rotate_left
      · intro w' hSw
        try dsimp only at hSw
        go_simp
        try with_reducible rfl
      try simp only [List.getElem_toArray, List.getElem_cons_succ, List.getElem_cons_zero, Act.put, List.setIfInBounds_toArray, List.set_cons_zero, List.set_cons_succ]
      refine wpAnyH_ready (rs := [9]) (by kernel_rfl) (by simp) ?_
      refine AllReadyH.cons rfl (fun K hK0 => ?_) AllReadyH.nil
      refine step_store_in (ds := [.slice Ab v.n2 db]) sl_i (by rfl) (.tmp 10) (.tmp 8) rfl w.heap.size 2 rfl rfl rfl (one_sl _ _ _) g3 (nv_fit1 _ (by decide)) (cs' := (NV.cells ⟨v.lf, Aa, v.n1, da, Ab, v.n2, db, v.A3, v.n3, v.c3, v.A4, v.n4, v.c4⟩)) rfl ?_
      intro w4 g4 q4
      have hw4 := q4.fr hw3 (Nat.le_refl _)
      refine hK0.out _ _ hw4 (fun _ => ?_)
      clear hK0 K
      try simp only [List.getElem_toArray, List.getElem_cons_succ, List.getElem_cons_zero, Act.put, List.setIfInBounds_toArray, List.set_cons_zero, List.set_cons_succ]
      refine wpAnyH_done (by kernel_rfl) ?_ _
      refine NoPanic.normal ?_
      go_wp2_with fail
      go_meet
      exact ⟨Aa, da, Ab, db, g4, (ia.kept q3 (by omega)).kept q4 (by omega), ja, (ib.kept q3 (by omega)).kept q4 (by omega), jb, q4.other (q3.other kw2 (by omega)) (by omega), hw4⟩
  case rest =>
    clear cE cI HG HK hYY h0 clE clI
    obtain ⟨A1, c1, A2, c2, hg, i1, j1, i2, j2, hk, hw⟩ := hcut
    have cA : ∀ W, Fr w W → Fr wc W → Calls Tryz.prog 72 #[.slice v.A3 v.n3 v.c3] W fun e w' => ∃ A' c', e = .returned (.slice A' v.n3 c') ∧ HasP w' (fun b => w.heap.size + 2 ≤ b) A' x3 ∧ v.n3 ≤ c' ∧ Fr W w' := fun W h' h => (clK W h').mono fun e w' ⟨A', c', a, b, c, d⟩ => ⟨A', c', a, b.weak (fun _ _ k => by have := hk.lt; have := h.size; omega), c, d⟩
    have cB : ∀ W, Fr w W → Fr wc W → Calls Tryz.prog 73 #[.slice v.A4 v.n4 v.c4] W fun e w' => ∃ A' c', e = .returned (.slice A' v.n4 c') ∧ HasP w' (fun b => w.heap.size + 2 ≤ b) A' x4 ∧ v.n4 ≤ c' ∧ Fr W w' := fun W h' h => (clM W h').mono fun e w' ⟨A', c', a, b, c, d⟩ => ⟨A', c', a, b.weak (fun _ _ k => by have := hk.lt; have := h.size; omega), c, d⟩
    have HG := keep hg
    have HK := keep hk
    have I1 := keep i1
    have I2 := keep i2
    have J1 := keep j1
    have J2 := keep j2
    have hcc := fr_refl wc
    clear hg hk i1 i2 clK clM j1 j2
    go_upto_region 2 with fail
    go_cut [] from 11 to 19 (fun wx => ∃ A1 c1 A2 c2 A3 c3 A4 c4, Arr wx w.heap.size 41 (NV.cells ⟨v.lf, A1, v.n1, c1, A2, v.n2, c2, A3, v.n3, c3, A4, v.n4, c4⟩).toArray ∧ (HasP wx (fun b => w.heap.size + 2 ≤ b) A1 x1 ∧ v.n1 ≤ c1 ∧ HasP wx (fun b => w.heap.size + 2 ≤ b) A2 x2 ∧ v.n2 ≤ c2 ∧ HasP wx (fun b => w.heap.size + 2 ≤ b) A3 x3 ∧ v.n3 ≤ c3 ∧ HasP wx (fun b => w.heap.size + 2 ≤ b) A4 x4 ∧ v.n4 ≤ c4) ∧ Arr wx (w.heap.size + 1) 41 zeroNV.cells.toArray ∧ Fr w wx)
    case first =>
      have hYd : Fr w wc.drew := fr_drew hw
      have yYd := fr_drew hcc
      have k1 : ∀ W, Fr wc W → W.cell? ⟨w.heap.size, 3, none⟩ = some (.slice v.A3 v.n3 v.c3) := fun W h => (HG.out.below h HG.out.lt).cell 3
      have k2 : ∀ W, Fr wc W → W.cell? ⟨w.heap.size, 4, none⟩ = some (.slice v.A4 v.n4 v.c4) := fun W h => (HG.out.below h HG.out.lt).cell 4
      refine wp_region_noPanic ?_
      refine wp_region_held_drew (S := fun w' => Fr w w') (by kernel_rfl) hYd (fun hHeld => ?_)
      change wpAnyH _ _ _ _ _ _ _ _ _
      refine wpAnyH_take (i := 0) (v := ?_) rfl (by kernel_rfl) (by kernel_rfl) (by kernel_rfl) (fun _ _ _ h => h) (Or.inl ⟨by rfl, ?_⟩) (by assumption) ?_
      rotate_left
      · intro w' hSw
        try dsimp only at hSw
        go_simp
        try with_reducible rfl
      try simp only [List.getElem_toArray, List.getElem_cons_zero, Act.put, List.setIfInBounds_toArray, List.set_cons_zero, List.set_cons_succ]
      refine wpAnyH_take (i := 3) (v := ?_) rfl (by kernel_rfl) (by kernel_rfl) (by kernel_rfl) (fun _ _ _ h => h) (Or.inl ⟨by rfl, ?_⟩) (by assumption) ?_
      rotate_left
      · intro w' hSw
        try dsimp only at hSw
        go_simp
        try with_reducible rfl
      try simp only [List.getElem_toArray, List.getElem_cons_succ, List.getElem_cons_zero, Act.put, List.setIfInBounds_toArray, List.set_cons_zero, List.set_cons_succ]
      refine wpAnyH_ready (rs := [1, 4]) (by kernel_rfl) (by simp) ?_
      refine AllReadyH.cons rfl (fun K hK0 => ?_) (AllReadyH.cons rfl (fun K hK0 => ?_) (AllReadyH.nil))
      · go_simp
        refine hK0.out _ _ hYd (fun _ => ?_)
        clear hK0 K
        try simp only [List.getElem_toArray, List.getElem_cons_succ, List.getElem_cons_zero, Act.put, List.setIfInBounds_toArray, List.set_cons_zero, List.set_cons_succ]
        refine wpAnyH_ready (rs := [2, 4]) (by kernel_rfl) (by simp) ?_
        refine AllReadyH.cons rfl (fun K hK0 => ?_) (AllReadyH.cons rfl (fun K hK0 => ?_) (AllReadyH.nil))
        · go_simp
          refine (cA wc.drew hYd yYd).mono ?_
          rintro e w1 ⟨Aa, da, rfl, ia, ja, f1⟩
          go_simp
          have hw1 := fr_step hYd f1
          have yw1 := fr_step yYd f1
          refine hK0.out _ _ hw1 (fun _ => ?_)
          clear hK0 K
          try simp only [List.getElem_toArray, List.getElem_cons_succ, List.getElem_cons_zero, Act.put, List.setIfInBounds_toArray, List.set_cons_zero, List.set_cons_succ]
          refine wpAnyH_ready (rs := [4]) (by kernel_rfl) (by simp) ?_
          refine AllReadyH.cons rfl (fun K hK0 => ?_) AllReadyH.nil
          go_simp
          refine hK0.out _ _ hw1 (fun _ => ?_)
          clear hK0 K
          try simp only [List.getElem_toArray, List.getElem_cons_succ, List.getElem_cons_zero, Act.put, List.setIfInBounds_toArray, List.set_cons_zero, List.set_cons_succ]
          refine wpAnyH_take (i := 6) (v := ?_) rfl (by kernel_rfl) (by kernel_rfl) (by kernel_rfl) (fun _ _ _ h => h) (Or.inl ⟨by rfl, ?_⟩) (by assumption) ?_
          rotate_left
          · intro w' hSw
            try dsimp only at hSw
            go_simp
            try with_reducible rfl
          try simp only [List.getElem_toArray, List.getElem_cons_succ, List.getElem_cons_zero, Act.put, List.setIfInBounds_toArray, List.set_cons_zero, List.set_cons_succ]
          refine wpAnyH_ready (rs := [5]) (by kernel_rfl) (by simp) ?_
          refine AllReadyH.cons rfl (fun K hK0 => ?_) AllReadyH.nil
          go_simp
          refine (cB w1 hw1 yw1).mono ?_
          rintro e w2 ⟨Ab, db, rfl, ib, jb, f2⟩
          go_simp
          have hw2 := fr_step hw1 f2
          have yw2 := fr_step yw1 f2
          have gw2 := HG.out.below yw2 HG.out.lt
          have kw2 := HK.out.below yw2 HK.out.lt
          replace ia := ia.fr f2
          refine hK0.out _ _ hw2 (fun _ => ?_)
          clear hK0 K
          try simp only [List.getElem_toArray, List.getElem_cons_succ, List.getElem_cons_zero, Act.put, List.setIfInBounds_toArray, List.set_cons_zero, List.set_cons_succ]
          refine wpAnyH_ready (rs := [7]) (by kernel_rfl) (by simp) ?_
          refine AllReadyH.cons rfl (fun K hK0 => ?_) AllReadyH.nil
          refine step_store_in (ds := [.slice Aa v.n3 da]) sl_k (by rfl) (.tmp 17) (.tmp 13) rfl w.heap.size 3 rfl rfl rfl (one_sl _ _ _) gw2 (nv_fit1 _ (by decide)) (cs' := (NV.cells ⟨v.lf, A1, v.n1, c1, A2, v.n2, c2, Aa, v.n3, da, v.A4, v.n4, v.c4⟩)) rfl ?_
          intro w3 g3 q3
          have hw3 := q3.fr hw2 (Nat.le_refl _)
          refine hK0.out _ _ hw3 (fun _ => ?_)
          clear hK0 K
          try simp only [List.getElem_toArray, List.getElem_cons_succ, List.getElem_cons_zero, Act.put, List.setIfInBounds_toArray, List.set_cons_zero, List.set_cons_succ]
          refine wpAnyH_take (i := 8) (v := ?_) rfl (by kernel_rfl) (by kernel_rfl) (by kernel_rfl) (fun _ _ _ h => h) (Or.inl ⟨by rfl, ?_⟩) (by assumption) ?_
          rotate_left
          · intro w' hSw
            try dsimp only at hSw
            go_simp
            try with_reducible rfl
          try simp only [List.getElem_toArray, List.getElem_cons_succ, List.getElem_cons_zero, Act.put, List.setIfInBounds_toArray, List.set_cons_zero, List.set_cons_succ]
          refine wpAnyH_ready (rs := [9]) (by kernel_rfl) (by simp) ?_
          refine AllReadyH.cons rfl (fun K hK0 => ?_) AllReadyH.nil
          refine step_store_in (ds := [.slice Ab v.n4 db]) sl_m (by rfl) (.tmp 18) (.tmp 16) rfl w.heap.size 4 rfl rfl rfl (one_sl _ _ _) g3 (nv_fit1 _ (by decide)) (cs' := (NV.cells ⟨v.lf, A1, v.n1, c1, A2, v.n2, c2, Aa, v.n3, da, Ab, v.n4, db⟩)) rfl ?_
          intro w4 g4 q4
          have hw4 := q4.fr hw3 (Nat.le_refl _)
          refine hK0.out _ _ hw4 (fun _ => ?_)
          clear hK0 K
          try simp only [List.getElem_toArray, List.getElem_cons_succ, List.getElem_cons_zero, Act.put, List.setIfInBounds_toArray, List.set_cons_zero, List.set_cons_succ]
          refine wpAnyH_done (by kernel_rfl) ?_ _
          refine NoPanic.normal ?_
          go_wp2_with fail
          go_meet
          exact ⟨A1, c1, A2, c2, Aa, da, Ab, db, g4, ⟨((I1.out.fr yw2).kept q3 (by omega)).kept q4 (by omega), J1.out, ((I2.out.fr yw2).kept q3 (by omega)).kept q4 (by omega), J2.out, (ia.kept q3 (by omega)).kept q4 (by omega), ja, (ib.kept q3 (by omega)).kept q4 (by omega), jb⟩, q4.other (q3.other kw2 (by omega)) (by omega), hw4⟩
        · go_simp
          refine hK0.out _ _ hYd (fun _ => ?_)
          clear hK0 K
          try simp only [List.getElem_toArray, List.getElem_cons_succ, List.getElem_cons_zero, Act.put, List.setIfInBounds_toArray, List.set_cons_zero, List.set_cons_succ]
          refine wpAnyH_ready (rs := [2]) (by kernel_rfl) (by simp) ?_
          refine AllReadyH.cons rfl (fun K hK0 => ?_) AllReadyH.nil
          go_simp
          refine (cA wc.drew hYd yYd).mono ?_
          rintro e w1 ⟨Aa, da, rfl, ia, ja, f1⟩
          go_simp
          have hw1 := fr_step hYd f1
          have yw1 := fr_step yYd f1
          refine hK0.out _ _ hw1 (fun _ => ?_)
          clear hK0 K
          try simp only [List.getElem_toArray, List.getElem_cons_succ, List.getElem_cons_zero, Act.put, List.setIfInBounds_toArray, List.set_cons_zero, List.set_cons_succ]
          refine wpAnyH_take (i := 6) (v := ?_) rfl (by kernel_rfl) (by kernel_rfl) (by kernel_rfl) (fun _ _ _ h => h) (Or.inl ⟨by rfl, ?_⟩) (by assumption) ?_
          rotate_left
          · intro w' hSw
            try dsimp only at hSw
            go_simp
            try with_reducible rfl
          try simp only [List.getElem_toArray, List.getElem_cons_succ, List.getElem_cons_zero, Act.put, List.setIfInBounds_toArray, List.set_cons_zero, List.set_cons_succ]
          refine wpAnyH_ready (rs := [5]) (by kernel_rfl) (by simp) ?_
          refine AllReadyH.cons rfl (fun K hK0 => ?_) AllReadyH.nil
          go_simp
          refine (cB w1 hw1 yw1).mono ?_
          rintro e w2 ⟨Ab, db, rfl, ib, jb, f2⟩
          go_simp
          have hw2 := fr_step hw1 f2
          have yw2 := fr_step yw1 f2
          have gw2 := HG.out.below yw2 HG.out.lt
          have kw2 := HK.out.below yw2 HK.out.lt
          replace ia := ia.fr f2
          refine hK0.out _ _ hw2 (fun _ => ?_)
          clear hK0 K
          try simp only [List.getElem_toArray, List.getElem_cons_succ, List.getElem_cons_zero, Act.put, List.setIfInBounds_toArray, List.set_cons_zero, List.set_cons_succ]
          refine wpAnyH_ready (rs := [7]) (by kernel_rfl) (by simp) ?_
          refine AllReadyH.cons rfl (fun K hK0 => ?_) AllReadyH.nil
          refine step_store_in (ds := [.slice Aa v.n3 da]) sl_k (by rfl) (.tmp 17) (.tmp 13) rfl w.heap.size 3 rfl rfl rfl (one_sl _ _ _) gw2 (nv_fit1 _ (by decide)) (cs' := (NV.cells ⟨v.lf, A1, v.n1, c1, A2, v.n2, c2, Aa, v.n3, da, v.A4, v.n4, v.c4⟩)) rfl ?_
          intro w3 g3 q3
          have hw3 := q3.fr hw2 (Nat.le_refl _)
          refine hK0.out _ _ hw3 (fun _ => ?_)
          clear hK0 K
          try simp only [List.getElem_toArray, List.getElem_cons_succ, List.getElem_cons_zero, Act.put, List.setIfInBounds_toArray, List.set_cons_zero, List.set_cons_succ]
          refine wpAnyH_take (i := 8) (v := ?_) rfl (by kernel_rfl) (by kernel_rfl) (by kernel_rfl) (fun _ _ _ h => h) (Or.inl ⟨by rfl, ?_⟩) (by assumption) ?_
          rotate_left
          · intro w' hSw
            try dsimp only at hSw
            go_simp
            try with_reducible rfl
          try simp only [List.getElem_toArray, List.getElem_cons_succ, List.getElem_cons_zero, Act.put, List.setIfInBounds_toArray, List.set_cons_zero, List.set_cons_succ]
          refine wpAnyH_ready (rs := [9]) (by kernel_rfl) (by simp) ?_
          refine AllReadyH.cons rfl (fun K hK0 => ?_) AllReadyH.nil
          refine step_store_in (ds := [.slice Ab v.n4 db]) sl_m (by rfl) (.tmp 18) (.tmp 16) rfl w.heap.size 4 rfl rfl rfl (one_sl _ _ _) g3 (nv_fit1 _ (by decide)) (cs' := (NV.cells ⟨v.lf, A1, v.n1, c1, A2, v.n2, c2, Aa, v.n3, da, Ab, v.n4, db⟩)) rfl ?_
          intro w4 g4 q4
          have hw4 := q4.fr hw3 (Nat.le_refl _)
          refine hK0.out _ _ hw4 (fun _ => ?_)
          clear hK0 K
          try simp only [List.getElem_toArray, List.getElem_cons_succ, List.getElem_cons_zero, Act.put, List.setIfInBounds_toArray, List.set_cons_zero, List.set_cons_succ]
          refine wpAnyH_done (by kernel_rfl) ?_ _
          refine NoPanic.normal ?_
          go_wp2_with fail
          go_meet
          exact ⟨A1, c1, A2, c2, Aa, da, Ab, db, g4, ⟨((I1.out.fr yw2).kept q3 (by omega)).kept q4 (by omega), J1.out, ((I2.out.fr yw2).kept q3 (by omega)).kept q4 (by omega), J2.out, (ia.kept q3 (by omega)).kept q4 (by omega), ja, (ib.kept q3 (by omega)).kept q4 (by omega), jb⟩, q4.other (q3.other kw2 (by omega)) (by omega), hw4⟩
      · go_simp
        refine hK0.out _ _ hYd (fun _ => ?_)
        clear hK0 K
        try simp only [List.getElem_toArray, List.getElem_cons_succ, List.getElem_cons_zero, Act.put, List.setIfInBounds_toArray, List.set_cons_zero, List.set_cons_succ]
        refine wpAnyH_ready (rs := [1]) (by kernel_rfl) (by simp) ?_
        refine AllReadyH.cons rfl (fun K hK0 => ?_) AllReadyH.nil
        go_simp
        refine hK0.out _ _ hYd (fun _ => ?_)
        clear hK0 K
        try simp only [List.getElem_toArray, List.getElem_cons_succ, List.getElem_cons_zero, Act.put, List.setIfInBounds_toArray, List.set_cons_zero, List.set_cons_succ]
        refine wpAnyH_ready (rs := [2]) (by kernel_rfl) (by simp) ?_
        refine AllReadyH.cons rfl (fun K hK0 => ?_) AllReadyH.nil
        go_simp
        refine (cA wc.drew hYd yYd).mono ?_
        rintro e w1 ⟨Aa, da, rfl, ia, ja, f1⟩
        go_simp
        have hw1 := fr_step hYd f1
        have yw1 := fr_step yYd f1
        refine hK0.out _ _ hw1 (fun _ => ?_)
        clear hK0 K
        try simp only [List.getElem_toArray, List.getElem_cons_succ, List.getElem_cons_zero, Act.put, List.setIfInBounds_toArray, List.set_cons_zero, List.set_cons_succ]
        refine wpAnyH_take (i := 6) (v := ?_) rfl (by kernel_rfl) (by kernel_rfl) (by kernel_rfl) (fun _ _ _ h => h) (Or.inl ⟨by rfl, ?_⟩) (by assumption) ?_
        rotate_left
        · intro w' hSw
          try dsimp only at hSw
          go_simp
          try with_reducible rfl
        try simp only [List.getElem_toArray, List.getElem_cons_succ, List.getElem_cons_zero, Act.put, List.setIfInBounds_toArray, List.set_cons_zero, List.set_cons_succ]
        refine wpAnyH_ready (rs := [5]) (by kernel_rfl) (by simp) ?_
        refine AllReadyH.cons rfl (fun K hK0 => ?_) AllReadyH.nil
        go_simp
        refine (cB w1 hw1 yw1).mono ?_
        rintro e w2 ⟨Ab, db, rfl, ib, jb, f2⟩
        go_simp
        have hw2 := fr_step hw1 f2
        have yw2 := fr_step yw1 f2
        have gw2 := HG.out.below yw2 HG.out.lt
        have kw2 := HK.out.below yw2 HK.out.lt
        replace ia := ia.fr f2
        refine hK0.out _ _ hw2 (fun _ => ?_)
        clear hK0 K
        try simp only [List.getElem_toArray, List.getElem_cons_succ, List.getElem_cons_zero, Act.put, List.setIfInBounds_toArray, List.set_cons_zero, List.set_cons_succ]
        refine wpAnyH_ready (rs := [7]) (by kernel_rfl) (by simp) ?_
        refine AllReadyH.cons rfl (fun K hK0 => ?_) AllReadyH.nil
        refine step_store_in (ds := [.slice Aa v.n3 da]) sl_k (by rfl) (.tmp 17) (.tmp 13) rfl w.heap.size 3 rfl rfl rfl (one_sl _ _ _) gw2 (nv_fit1 _ (by decide)) (cs' := (NV.cells ⟨v.lf, A1, v.n1, c1, A2, v.n2, c2, Aa, v.n3, da, v.A4, v.n4, v.c4⟩)) rfl ?_
        intro w3 g3 q3
        have hw3 := q3.fr hw2 (Nat.le_refl _)
        refine hK0.out _ _ hw3 (fun _ => ?_)
        clear hK0 K
        try simp only [List.getElem_toArray, List.getElem_cons_succ, List.getElem_cons_zero, Act.put, List.setIfInBounds_toArray, List.set_cons_zero, List.set_cons_succ]
        refine wpAnyH_take (i := 8) (v := ?_) rfl (by kernel_rfl) (by kernel_rfl) (by kernel_rfl) (fun _ _ _ h => h) (Or.inl ⟨by rfl, ?_⟩) (by assumption) ?_
        rotate_left
        · intro w' hSw
          try dsimp only at hSw
          go_simp
          try with_reducible rfl
        try simp only [List.getElem_toArray, List.getElem_cons_succ, List.getElem_cons_zero, Act.put, List.setIfInBounds_toArray, List.set_cons_zero, List.set_cons_succ]
        refine wpAnyH_ready (rs := [9]) (by kernel_rfl) (by simp) ?_
        refine AllReadyH.cons rfl (fun K hK0 => ?_) AllReadyH.nil
        refine step_store_in (ds := [.slice Ab v.n4 db]) sl_m (by rfl) (.tmp 18) (.tmp 16) rfl w.heap.size 4 rfl rfl rfl (one_sl _ _ _) g3 (nv_fit1 _ (by decide)) (cs' := (NV.cells ⟨v.lf, A1, v.n1, c1, A2, v.n2, c2, Aa, v.n3, da, Ab, v.n4, db⟩)) rfl ?_
        intro w4 g4 q4
        have hw4 := q4.fr hw3 (Nat.le_refl _)
        refine hK0.out _ _ hw4 (fun _ => ?_)
        clear hK0 K
        try simp only [List.getElem_toArray, List.getElem_cons_succ, List.getElem_cons_zero, Act.put, List.setIfInBounds_toArray, List.set_cons_zero, List.set_cons_succ]
        refine wpAnyH_done (by kernel_rfl) ?_ _
        refine NoPanic.normal ?_
        go_wp2_with fail
        go_meet
        exact ⟨A1, c1, A2, c2, Aa, da, Ab, db, g4, ⟨((I1.out.fr yw2).kept q3 (by omega)).kept q4 (by omega), J1.out, ((I2.out.fr yw2).kept q3 (by omega)).kept q4 (by omega), J2.out, (ia.kept q3 (by omega)).kept q4 (by omega), ja, (ib.kept q3 (by omega)).kept q4 (by omega), jb⟩, q4.other (q3.other kw2 (by omega)) (by omega), hw4⟩
    case rest =>
      clear cA cB HG HK I1 I2 J1 J2 hw hcc
      obtain ⟨A1, c1, A2, c2, A3, c3, A4, c4, hg, hi, hk, hw⟩ := hcut
      have l2 : ∀ W, Fr wc W → (ldS 41 (.pointer (some ⟨w.heap.size, 0, none⟩))).run Tryz.prog W = .ok (.agg (NV.cells ⟨v.lf, A1, v.n1, c1, A2, v.n2, c2, A3, v.n3, c3, A4, v.n4, c4⟩).toArray) W := fun W h => nodS.ld rfl (hg.below h hg.lt)
      have hcc := fr_refl wc
      have tok : Hid (0 < 1) := keep (by decide)
      clear hg
      have Hi := keep hi
      clear hi
      go_wp2_with (first
        | (clear tok; refine wpList_store_in (ds := (NV.cells ⟨v.lf, A1, v.n1, c1, A2, v.n2, c2, A3, v.n3, c3, A4, v.n4, c4⟩)) nod_info rfl (.tmp 2) (.tmp 19) rfl (w.heap.size + 1) 0 rfl rfl rfl (nv_one _) hk (nv_fit _) (splice_all _ _ (Nat.le_of_eq rfl)) ?_; intro W3 k3 q3)
        | fail)
      refine bodyPost_ret (nodS.result rfl _ (w.heap.size + 1) rfl rfl k3) rfl ?_
      obtain ⟨i1, j1, i2, j2, i3, j3, i4, j4⟩ := Hi.out
      exact ⟨A1, c1, A2, c2, A3, c3, A4, c4, rfl, ⟨i1.kept q3 (by omega), j1, i2.kept q3 (by omega), j2, i3.kept q3 (by omega), j3, i4.kept q3 (by omega), j4⟩, q3.fr hw (by omega)⟩
end Go.Proofs.YtmoaddbpfekdbaaGreat
