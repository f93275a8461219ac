/- The program's cache: Name. -/
import Derived.Test.YtmoaddbpfekdbaaGreatM33
namespace Go.Proofs.YtmoaddbpfekdbaaGreat
set_option linter.unusedVariables false
set_option linter.unusedSimpArgs false
set_option linter.unusedSectionVars false
set_option maxRecDepth 100000
open Go.RowKit
attribute [local go_sem ↓] want_ld pfr_ld node16_ld
theorem zpc_node_box (w : World) (v : NV) : ∃ Z, (w.alloc (.cells v.cells.toArray 41)).alloc (.cells #[.int .i64 0, .int .i64 0, .int .i64 0, .bool false, .bool false, .bool false, .slice none 0 0, .slice none 0 0, .slice none 0 0, .slice none 0 0, .slice none 0 0, .int .i64 0, .slice none 0 0, .int .i64 0] 52) = Z ∧ Fr w Z ∧ Arr Z w.heap.size 41 v.cells.toArray ∧ Arr Z (w.heap.size + 1) 52 zpc.toArray ∧ Z.heap.size = w.heap.size + 2 := by
  have h1 := Arr.new w v.cells.toArray 41
  have h2 := fr_new (fr_refl (w.alloc (.cells v.cells.toArray 41))) (.cells zpc.toArray 52)
  refine ⟨_, rfl, fr_new (fr_new (fr_refl w) _) _, h1.below h2 h1.lt, ?_, by simp⟩
  have h3 := Arr.new (w.alloc (.cells v.cells.toArray 41)) zpc.toArray 52
  have h4 : (w.alloc (.cells v.cells.toArray 41)).heap.size = w.heap.size + 1 := by simp
  rw [h4] at h3
  exact h3
theorem pc_named (b : Int) (v : NX) : pc (⟨2, b, 0, true, true, v, 0⟩ : Fra NX) = [.int .i64 2, .int .i64 b, .int .i64 0, .bool true, .bool true, .bool v.v.lf, .slice v.v.A1 v.v.n1 v.v.c1, .slice v.v.A2 v.v.n2 v.v.c2, .slice v.v.A3 v.v.n3 v.v.c3, .slice v.v.A4 v.v.n4 v.v.c4, .slice none 0 0, .int .i64 (-1), .slice none 0 0, .int .i64 (-1)] := rfl
theorem own_lit {w : World} {ok : Nat → Prop} {v : NV} {n : RN} (h : NP w ok v n) :
    Calls Tryz.prog 44 #[.agg v.cells.toArray] w fun e w' => ∃ v' : NV, e = .returned (.agg #[.bool v'.lf, .slice v'.A1 v'.n1 v'.c1, .slice v'.A2 v'.n2 v'.c2, .slice v'.A3 v'.n3 v'.c3, .slice v'.A4 v'.n4 v'.c4]) ∧ Hid (NP w' (fun b => w.heap.size + 2 ≤ b) v' n) ∧ Fr w w' := own_new h
set_option maxHeartbeats 4000000 in
theorem named_at {w : World} {ok : Nat → Prop} (b : Int) (v : NX) (hv : NP w ok v.v v.n) :
    Calls Tryz.prog 67 #[.int .i64 b, .agg v.v.cells.toArray] w fun e w' => ∃ v1, e = .returned (pv (⟨2, b, 0, true, true, ⟨v1, v.n⟩, 0⟩ : Fra NX)) ∧ Hid (NP w' (fun c => w.heap.size ≤ c) v1 v.n) ∧ Fr w w' := by
  obtain ⟨Z, hZ, hF, hX, hY, hS⟩ := zpc_node_box w v.v
  have lN := node16_ty.ld (w := Z) (NVal.len v) hX
  change (ldS 41 _).run Tryz.prog Z = .ok (.agg v.v.cells.toArray) Z at lN
  have HV := keep (hv.fr hF)
  have HF := keep hF
  have HY := keep hY
  clear hF hX hv hY
  go_enter Tryz.func67, Tryz.ntmps67
  go_wp2_with (first
    | (go_at_call 44; (with_reducible refine (own_lit HV.out).mono ?_); rintro e W1 ⟨v1, rfl, H1, f1⟩; have HF1 := keep f1; have HY1 := keep (HY.out.below f1 HY.out.lt); clear f1)
    | (refine wpList_store_chg pfr_info rfl (.tmp 4) (.tmp 9) rfl (w.heap.size + 1) 0 rfl (ds := pc (⟨2, b, 0, true, true, ⟨v1, v.n⟩, 0⟩ : Fra NX)) rfl rfl (pc_one _) HY1.out (by decide) (cs' := pc (⟨2, b, 0, true, true, ⟨v1, v.n⟩, 0⟩ : Fra NX)) (splice_all _ _ (Nat.le_refl 14)) ?_; intro W5 hO5 hk5; have H5 := keep (show Arr W5 _ _ _ ∧ Chg _ W1 W5 from ⟨hO5, hk5⟩); clear hO5 hk5)
    | fail)
  have hs1 := HF1.out.size
  exact bodyPost_ret (pfr_ty.result rfl _ (w.heap.size + 1) rfl rfl H5.out.1) rfl ⟨v1, rfl, keep ((H1.out.chg H5.out.2 fun c hc e => by omega).weak fun c _ hc => by omega), (fr_step HF.out HF1.out).step_chg H5.out.2 fun i e => by omega⟩
set_option maxHeartbeats 16000000 in
theorem pname_at {w : World} {g K : Nat} {h : PH} {t : Ca NX} {ok : Nat → Prop} (x b : Int) (v : NX) (hx : W64 x) (hb : W64 b) (k : PC w g h K t) (p : PI t) (hs : t.fs.length ≤ 100000) (hK : K ≤ 100000) (hv : NP w ok v.v v.n) :
    Calls Tryz.prog 31 #[.pointer (some ⟨g, 0, none⟩), .int .i64 x, .int .i64 b, nv v.v] w fun e w' => ∃ v' : NX, v'.n = v.n ∧ e = .returned (.bool (nameC t x b v').1) ∧ Hid (PTurnV w w' (PHX g h) g (K + 1) (nameC t x b v').2 (nameC t x b v').1 v') := by
  obtain ⟨Z, hZ, hF, hZZ, hX, hS⟩ := node16_box w v
  change w.alloc (.cells v.v.cells.toArray 41) = Z at hZ
  have kZ := k.fr hF
  have HK := keep kZ
  have HF0 := keep hF
  have HB64 := keep hb
  have cF : ∀ W, Fr Z W → Calls Tryz.prog 66 #[.pointer (some ⟨g, 0, none⟩), .int .i64 3, .int .i64 x] W fun e w' => e = .returned (.int .i64 (pos (t.fs.findIdx? (isC x)))) ∧ Fr W w' := fun W f => by
    refine (pfirst_at 3 x (kZ.fr f) hs).mono ?_
    rintro e w' ⟨rfl, f2⟩
    exact ⟨by rw [show (fun f : Fra NX => (f.st : Int) == 3 && tk f == x) = isC x from funext fun f => (is_claim f x).symm], f2⟩
  have cB := isBlock_at (x := b)
  have e0 : ∀ u : NX, ((okT x && okBl b && (findB t.fs b).isNone) = true ∧ (t.fs.findIdx? (isC x)).isSome = true) ∨ nameC t x b u = (false, t) := fun u => by
    unfold nameC
    cases hc : (okT x && okBl b && (findB t.fs b).isNone) with
    | false => exact .inr (by simp)
    | true =>
      cases hi : t.fs.findIdx? (isC x) with
      | none => exact .inr (by simp)
      | some i => exact .inl ⟨rfl, rfl⟩
  have eT : ∀ i, t.fs.findIdx? (isC x) = some i → okT x = true := fun i hi => by
    obtain ⟨f, h1, h2⟩ := idx_at hi
    unfold isC at h2
    simp at h2
    rw [← h2.2]
    exact (p.fr f (List.mem_of_getElem? h1)).2 h2.1
  have HN := keep (show ∀ u : NX, _ ∨ nameC t x b u = (false, t) from e0)
  have h55 := fr_refl Z
  cases hfb : findB t.fs b with
  | some j =>
    have HFB := keep hfb
    have HQ : Hid (nameC t x b v = (false, t)) := keep (by rcases HN.out v with ⟨h1, -⟩ | h1; rw [hfb] at h1; simp at h1; exact h1)
    generalize pos (t.fs.findIdx? (isC x)) = q at cF
    clear k kZ hs hv hF hX hx hb hfb e0 eT p
    unfold nv
    go_enter Tryz.func31, Tryz.ntmps31
    go_wp2_with (first | (go_at_call 66; (with_reducible refine (cF _ (by assumption)).mono ?_); rintro e W2 ⟨rfl, f2⟩; have HF2 := keep f2; have c1 : W2.cell? ⟨g, 1, none⟩ = some (.map (some h.m)) := (HK.out.fr f2).cells.2.1; have HM2 := keep (HK.out.fr f2).mp) | (refine wpList_look_yes rfl (.tmp 19) (.tmp 20) 54 rfl int_k map_k int_k int_z rfl HM2.out b HB64.out rfl HFB.out ?_) | fail)
    go_ret
    exact ⟨v, rfl, by rw [HQ.out]; rfl, keep (by rw [HQ.out]; exact ⟨h, (HK.out.more (Nat.le_succ K)).fr (by assumption), .of_fr _ (fr_step HF0.out HF2.out), fun i hi => .inl hi, fun e => by cases e⟩)⟩
  | none =>
    have HFB := keep hfb
    cases hfi : t.fs.findIdx? (isC x) with
    | none =>
      have HQ : Hid (nameC t x b v = (false, t)) := keep (by rcases HN.out v with ⟨-, h1⟩ | h1; rw [hfi] at h1; cases h1; exact h1)
      rw [hfi] at cF
      replace cF := show ∀ W, Fr Z W → Calls _ _ _ W fun e w' => e = .returned (.int .i64 (-1)) ∧ Fr W w' from cF
      have hz : ((-1 : Int) == -1) = true := rfl
      clear k kZ hs hv hF hX hx hb hfb e0 eT p hfi
      unfold nv
      go_enter Tryz.func31, Tryz.ntmps31
      go_wp2_with (first | (go_at_call 66; (with_reducible refine (cF _ (by assumption)).mono ?_); rintro e W2 ⟨rfl, f2⟩; have HF2 := keep f2; have c1 : W2.cell? ⟨g, 1, none⟩ = some (.map (some h.m)) := (HK.out.fr f2).cells.2.1; have HM2 := keep (HK.out.fr f2).mp) | (refine wpList_look_no rfl (.tmp 19) (.tmp 20) 54 rfl int_k map_k int_k int_z rfl HM2.out b HB64.out rfl HFB.out ?_) | fail)
      go_ret
      exact ⟨v, rfl, by rw [HQ.out]; rfl, keep (by rw [HQ.out]; exact ⟨h, (HK.out.more (Nat.le_succ K)).fr (by assumption), .of_fr _ (fr_step HF0.out HF2.out), fun i hi => .inl hi, fun e => by cases e⟩)⟩
    | some i =>
      rw [hfi] at cF
      replace cF := show ∀ W, Fr Z W → Calls _ _ _ W fun e w' => e = .returned (.int .i64 (i : Int)) ∧ Fr W w' from cF
      have hz : ((i : Int) == -1) = false := by first | (simp; omega) | simp
      have hT := eT i hfi
      cases hBl : okBl b with
      | false =>
        have HQ : Hid (nameC t x b v = (false, t)) := keep (by rcases HN.out v with ⟨h1, -⟩ | h1; rw [hBl] at h1; simp at h1; exact h1)
        rw [hBl] at cB
        clear k kZ hs hv hF hX hx hb hfb e0 eT p hfi hT hBl
        unfold nv
        go_enter Tryz.func31, Tryz.ntmps31
        go_wp2_with (first | (go_at_call 66; (with_reducible refine (cF _ (by assumption)).mono ?_); rintro e W2 ⟨rfl, f2⟩; have HF2 := keep f2; have c1 : W2.cell? ⟨g, 1, none⟩ = some (.map (some h.m)) := (HK.out.fr f2).cells.2.1; have HM2 := keep (HK.out.fr f2).mp) | (refine wpList_look_no rfl (.tmp 19) (.tmp 20) 54 rfl int_k map_k int_k int_z rfl HM2.out b HB64.out rfl HFB.out ?_) | (go_at_call 51; (with_reducible refine (cB _).mono ?_); rintro e w2 ⟨rfl, rfl⟩) | fail)
        go_ret
        exact ⟨v, rfl, by rw [HQ.out]; rfl, keep (by rw [HQ.out]; exact ⟨h, (HK.out.more (Nat.le_succ K)).fr (by assumption), .of_fr _ (fr_step HF0.out HF2.out), fun i hi => .inl hi, fun e => by cases e⟩)⟩
      | true =>
        obtain ⟨fo, hfo, hfc⟩ := idx_at hfi
        have hf3 : fo.st = 3 := by unfold isC at hfc; simp at hfc; exact hfc.1
        have HFI := keep (show t.fs[i]? = some fo ∧ fo.st = 3 from ⟨hfo, hf3⟩)
        have HQ : Hid (∀ u : NX, nameC t x b u = (true, { t with fs := t.fs.set i ⟨2, b, 0, true, true, u, 0⟩ })) := keep (fun u => by unfold nameC; rw [hT, hBl, hfb, hfi]; rfl)
        rw [hBl] at cB
        have HKM : Hid (K < maxLen) := keep (by simp only [maxLen]; omega)
        have HI64 : Hid (W64 (i : Int)) := keep (by have := (List.getElem?_eq_some_iff.1 hfo).1; exact ⟨by omega, by omega⟩)
        obtain ⟨a, off, hA, -, -, -⟩ := pframe_cells kZ.fs.has (Nat.le_refl _) hfo
        have HAW := keep hA
        have HGA : Hid (g ≠ a) := keep (fun e => kZ.ng.1 (by rw [hA, e]; rfl))
        have HLN := keep (show t.fs.length = h.n from kZ.nlen.1)
        have hix : i < h.n := by rw [← HLN.out]; exact (List.getElem?_eq_some_iff.1 hfo).1
        have HIX := keep hix
        have hiz : (i : Int) < (h.n : Int) := by omega
        have lN : ∀ U, Fr Z U → (ldS 41 (.pointer (some ⟨w.heap.size, 0, none⟩))).run Tryz.prog U = .ok (.agg v.v.cells.toArray) U := fun U f => node16_ty.ld (w := U) (NVal.len v) (hX.below f hX.lt)
        have cG : ∀ U, Fr Z U → U.cell? ⟨g, 0, none⟩ = some (.slice (some ⟨a, off, none⟩) h.n h.c) := fun U f => by rw [← hA]; exact (f.cell kZ.box.lt).trans kZ.cells.1
        have HV := keep (hv.fr hF)
        have HW := keep k.lt
        clear k kZ hs hv hF hX hx hb hfb e0 eT p hfi hT hBl hfo hfc hf3 hA
        unfold nv
        go_enter Tryz.func31, Tryz.ntmps31
        go_wp2_with (first | (go_at_call 66; (with_reducible refine (cF _ (by assumption)).mono ?_); rintro e W2 ⟨rfl, f2⟩; have HF2 := keep f2; have c1 : W2.cell? ⟨g, 1, none⟩ = some (.map (some h.m)) := (HK.out.fr f2).cells.2.1; have HM2 := keep (HK.out.fr f2).mp) | (refine wpList_look_no rfl (.tmp 19) (.tmp 20) 54 rfl int_k map_k int_k int_z rfl HM2.out b HB64.out rfl HFB.out ?_) | (go_at_call 51; (with_reducible refine (cB _).mono ?_); rintro e w2 ⟨rfl, rfl⟩) | fail)
        have HKW := keep (HK.out.fr f2)
        have hR := HKW.out.fs
        rw [HAW.out] at hR
        have HRW := keep hR
        have sd : W2.drew.cell? ⟨g, 0, none⟩ = some (.slice (some ⟨a, off, none⟩) h.n h.c) := cG _ (fr_drew f2)
        clear hR cG
        refine wp_region_noPanic ?_
        refine wp_region_held_drew (S := fun U => U.cell? ⟨g, 0, none⟩ = some (Value.slice (some ⟨a, off, none⟩) h.n h.c)) (by kernel_rfl) sd (fun hHeld => ?_)
        change wpAnyH _ _ _ _ _ _ _ _ _
        refine wpAnyH_take (i := 0) (v := ?_) rfl (by kernel_rfl) (by kernel_rfl) (by kernel_rfl) (fun _ _ _ h => h) (Or.inl ⟨by rfl, ?_⟩) (by assumption) ?_
        rotate_left
        · intro w' hSw
          try dsimp only at hSw
          go_simp
          try with_reducible rfl
        try simp only [List.getElem_toArray, List.getElem_cons_zero, Act.put, List.setIfInBounds_toArray, List.set_cons_zero, List.set_cons_succ]
        refine wpAnyH_take (i := 1) (v := ?_) rfl (by kernel_rfl) (by kernel_rfl) (by kernel_rfl) (fun _ _ _ h => h) (Or.inl ⟨by rfl, ?_⟩) (by assumption) ?_
        rotate_left
        · intro w' hSw
          try dsimp only at hSw
          go_simp
          try with_reducible rfl
        try simp only [List.getElem_toArray, List.getElem_cons_succ, List.getElem_cons_zero, Act.put, List.setIfInBounds_toArray, List.set_cons_zero, List.set_cons_succ]
        refine wpAnyH_take (i := 2) (v := ?_) rfl (by kernel_rfl) (by kernel_rfl) (by kernel_rfl) (fun _ _ _ h => h) (Or.inl ⟨by rfl, ?_⟩) (by assumption) ?_
        rotate_left
        · intro w' hSw
          try dsimp only at hSw
          go_simp
          try with_reducible rfl
        try simp only [List.getElem_toArray, List.getElem_cons_succ, List.getElem_cons_zero, Act.put, List.setIfInBounds_toArray, List.set_cons_zero, List.set_cons_succ]
        refine wpAnyH_take (i := 3) (v := ?_) rfl (by kernel_rfl) (by kernel_rfl) (by kernel_rfl) (fun _ _ _ h => h) (Or.inl ⟨by rfl, ?_⟩) (by assumption) ?_
        rotate_left
        · intro w' hSw
          try dsimp only at hSw
          go_simp
          try with_reducible rfl
        try simp only [List.getElem_toArray, List.getElem_cons_succ, List.getElem_cons_zero, Act.put, List.setIfInBounds_toArray, List.set_cons_zero, List.set_cons_succ]
        refine wpAnyH_take (i := 4) (v := ?_) rfl (by kernel_rfl) (by kernel_rfl) (by kernel_rfl) (fun _ _ _ h => h) (Or.inl ⟨by rfl, ?_⟩) (by assumption) ?_
        rotate_left
        · intro w' hSw
          try dsimp only at hSw
          go_simp
          try with_reducible rfl
        try simp only [List.getElem_toArray, List.getElem_cons_succ, List.getElem_cons_zero, Act.put, List.setIfInBounds_toArray, List.set_cons_zero, List.set_cons_succ]
        refine wpAnyH_take (i := 5) (v := ?_) rfl (by kernel_rfl) (by kernel_rfl) (by kernel_rfl) (fun _ _ _ h => h) (Or.inl ⟨by rfl, ?_⟩) (by assumption) ?_
        rotate_left
        · intro w' hSw
          try dsimp only at hSw
          go_simp
          try with_reducible rfl
        try simp only [List.getElem_toArray, List.getElem_cons_succ, List.getElem_cons_zero, Act.put, List.setIfInBounds_toArray, List.set_cons_zero, List.set_cons_succ]
        refine wpAnyH_ready (rs := [6]) (by kernel_rfl) (by simp) ?_
        refine AllReadyH.cons rfl (fun K hK0 => ?_) AllReadyH.nil
        have lD := lN _ (fr_drew f2)
        go_simp
        refine hK0.out _ _ sd (fun _ => ?_)
        clear lD
        clear hK0 K
        try simp only [List.getElem_toArray, List.getElem_cons_succ, List.getElem_cons_zero, Act.put, List.setIfInBounds_toArray, List.set_cons_zero, List.set_cons_succ]
        refine wpAnyH_ready (rs := [7]) (by kernel_rfl) (by simp) ?_
        refine AllReadyH.cons rfl (fun K hK0 => ?_) AllReadyH.nil
        go_simp
        refine (named_at b v (HV.out.fr (fr_drew f2))).mono ?_
        rintro e w4 ⟨v1, rfl, H1, f4⟩
        go_simp
        have s4 := (f4.cell (show (⟨g, 0, none⟩ : Addr).block < _ from HKW.out.box.lt)).trans sd
        refine hK0.out _ _ s4 (fun _ => ?_)
        clear hK0 K
        try simp only [List.getElem_toArray, List.getElem_cons_succ, List.getElem_cons_zero, Act.put, List.setIfInBounds_toArray, List.set_cons_zero, List.set_cons_succ]
        refine wpAnyH_take (i := 8) (v := ?_) rfl (by kernel_rfl) (by kernel_rfl) (by kernel_rfl) (fun _ _ _ h => h) (Or.inl ⟨by rfl, ?_⟩) (by assumption) ?_
        rotate_left
        · intro w' hSw
          try dsimp only at hSw
          go_simp
          try with_reducible rfl
        try simp only [List.getElem_toArray, List.getElem_cons_succ, List.getElem_cons_zero, Act.put, List.setIfInBounds_toArray, List.set_cons_zero, List.set_cons_succ]
        refine wpAnyH_ready (rs := [9]) (by kernel_rfl) (by simp) ?_
        refine AllReadyH.cons rfl (fun K hK0 => ?_) AllReadyH.nil
        refine step_store_rw (cf := pc) (x := (⟨2, b, 0, true, true, ⟨v1, v.n⟩, 0⟩ : Fra NX)) (j := i) pfr_info (wanted_plain17 rfl _) (.tmp 42) (.tmp 41) rfl rfl rfl (pc_len _) (pc_one _) (HRW.out.fr (fr_step (fr_drew (fr_refl _)) f4)) (pc_wid _) HLN.out HIX.out ?_
        intro w5 h5 c5
        have s5 := (c5.cell (p := ⟨g, 0, none⟩) (by have := f4.size; have := HKW.out.box.lt; show g < _; exact Nat.lt_of_lt_of_le this f4.size) (fun e => HGA.out e)).trans s4
        have H5 := keep (show Rw w5 _ _ _ _ _ _ ∧ Chg _ w4 w5 ∧ Fr W2 w4 from ⟨h5, c5, fr_step (fr_drew (fr_refl _)) f4⟩)
        clear h5 c5
        refine hK0.out _ _ s5 (fun _ => ?_)
        clear hK0 K
        try simp only [List.getElem_toArray, List.getElem_cons_succ, List.getElem_cons_zero, Act.put, List.setIfInBounds_toArray, List.set_cons_zero, List.set_cons_succ]
        refine wpAnyH_done (by kernel_rfl) ?_ _
        refine NoPanic.normal ?_
        obtain ⟨h5, c5, f4⟩ := H5.out
        have k4 := HKW.out.fr f4
        have hA5 : Chg (At h.A) w4 w5 := c5.weak fun j _ hj => by rw [HAW.out]; exact congrArg some hj.symm
        have c1 : w5.cell? ⟨g, 1, none⟩ = some (.map (some h.m)) := (hA5.cell (p := ⟨g, 1, none⟩) k4.box.lt k4.ng.1).trans k4.cells.2.1
        have HMD := keep (k4.mp.chg hA5 fun ha => (k4.nA ha).2.2 rfl)
        have HE := keep (show Rw w5 52 14 h.A h.n h.c (rows pc (t.fs.set i (⟨2, b, 0, true, true, ⟨v1, v.n⟩, 0⟩ : Fra NX))) ∧ Chg (At h.A) w4 w5 ∧ PC w4 g h K t from ⟨by rw [HAW.out]; exact h5, hA5, k4⟩)
        have HF4 := keep f4
        have HV1 := keep H1.out
        clear h5 c5 f4 k4 hA5
        go_wp2_with (first
          | (refine wpList_put_pm rfl (.tmp 46) (.tmp 47) (.tmp 48) 54 rfl int_k map_k int_k rfl HMD.out HKM.out b HB64.out rfl i HI64.out rfl ?_; intro W9 m9 c9; have H9 := keep (show PMap _ _ _ W9 _ _ _ ∧ Chg _ w5 W9 from ⟨m9, c9⟩); clear m9 c9)
          | fail)
        go_ret
        refine ⟨⟨v1, v.n⟩, rfl, by rw [HQ.out]; rfl, keep ?_⟩
        rw [HQ.out]
        obtain ⟨h5, a5, k4⟩ := HE.out
        obtain ⟨m9, c59⟩ := H9.out
        have kP := k4.placed h5 a5 m9 c59 (fun c => find_new (n := (⟨2, b, 0, true, true, ⟨v1, v.n⟩, 0⟩ : Fra NX)) HFI.out.1 (.inr HFI.out.2) (.inr rfl) HFB.out c)
        have hall : Chg (PHX g h) w4 W9 := (a5.weak fun j _ hj => .inr (.inl hj)).trans (c59.weak fun j _ hj => .inr (.inr (.inl hj)))
        have hsz := HF0.out.size
        refine ⟨h, kP, ((Chg.of_fr _ (fr_step HF0.out (fr_step HF2.out HF4.out))).trans hall), fun _ hj => .inl hj, fun _ => ?_⟩
        have h1 := HF0.out.size
        have h2 := HF2.out.size
        refine (HV1.out.weak (ok' := fun c => w.heap.size ≤ c ∧ ¬ PHX g h c) fun c _ hc => ⟨by have hc2 : W2.heap.size ≤ c := hc; omega, fun hx => ?_⟩).chg hall fun c hc => hc.2
        have := HW.out c hx
        have hc2 : W2.heap.size ≤ c := hc
        omega
end Go.Proofs.YtmoaddbpfekdbaaGreat
