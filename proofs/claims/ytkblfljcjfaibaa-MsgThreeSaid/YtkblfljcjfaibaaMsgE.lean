/- What the functions of layer 5 come to, five: 'Apply' of both. -/
import Derived.Test.YtkblfljcjfaibaaMsgD
namespace Go.Proofs.Ytkblfljcjfaibaa
open Go.RowKit
set_option linter.unusedVariables false
attribute [local go_sem ↓] val_ld key_ld msg_ld
/-- What a message makes of a value, or of none. -/
def appV (v : RV) (there : Bool) (m : RM) : RV := if m.kind = 1 then m.val else if m.kind = 2 then zeroV else if there = true then plusV v m.inc else fromV m.inc
def appB (m : RM) : Bool := decide (m.kind ≠ 2)
/-- A value and a message that were boxed, and a third block. -/
theorem app_boxed (w : World) (v : RV) (m : RM) (hm : m.val.bs.length = 16) : ∃ Z, ((w.alloc (.cells (vc v).toArray 28)).alloc (.cells (mc m).toArray 30)).alloc (.cells #[.int .i64 0, .int .u8 0, .int .u8 0, .int .u8 0, .int .u8 0, .int .u8 0, .int .u8 0, .int .u8 0, .int .u8 0, .int .u8 0, .int .u8 0, .int .u8 0, .int .u8 0, .int .u8 0, .int .u8 0, .int .u8 0, .int .u8 0] 28) = Z ∧ Fr w Z ∧ Fr Z Z ∧
    Arr Z w.heap.size 28 (vc v).toArray ∧ Arr Z (w.heap.size + 1) 30 (mc m).toArray ∧ Arr Z (w.heap.size + 1 + 1) 28 (vc zeroV).toArray ∧ Z.heap.size = w.heap.size + 1 + 1 + 1 := by
  refine ⟨_, rfl, fr_new (fr_new (fr_new (fr_refl w) _) _) _, fr_refl _, Arr.alloc (Arr.alloc (Arr.new w _ _) _) _, Arr.alloc (arr_at _ _ _ _ (by simp)) _, arr_at _ _ _ _ (by simp), by simp⟩
set_option maxRecDepth 100000 in
set_option maxHeartbeats 4000000 in
theorem msg_apply (v : RV) (there : Bool) (m : RM) (wv : v.wf) (ov : there = true → okV v = true) (wm : m.wf) (om : okM m = true) (w : World) : Calls Try.prog 15 #[vv v, .bool there, mm m] w fun e w' => e = .returned (.tuple #[vv (appV v there m), .bool (appB m)]) ∧ Fr w w' := by
  obtain ⟨Z, hZ, hF, hZZ, hV, hM, hO, hS⟩ := app_boxed w v m wm.val.hl
  have m0 := cellZ hM 0 (mc_0 m)
  have m28 := cellZ hM 28 (mc_28 wm.val.hl)
  have lmV := msg_valAt hM wm.val.hl
  have lv := ld_fr hV (vc_len wv.hl)
  have him := wm.hi
  have HlM := keep wm.val.hl
  have HlV := keep wv.hl
  obtain ⟨km, -, -, -, -⟩ := okM_parts om
  unfold appV appB
  rcases km with km | km | km
  · rw [if_pos km, show decide (m.kind ≠ 2) = true by simp; omega]
    rw [km] at m0
    clear km wm om wv ov him
    go_enter Try.func15, Try.ntmps15
    go_wp2_with (first
      | (refine wpList_store_at (ds := vc m.val) val_info rfl (.tmp 6) (.tmp 23) rfl (w.heap.size + 1 + 1) 0 rfl rfl (vc_len HlM.out) (vc_one _) hO (by decide) (splice_all _ _ (by rw [vc_len HlM.out]; decide)) ?_; intro W5 hO5 hk5; have hF5 := hk5.fr hF (by omega); clear hk5)
      | fail)
    exact bodyPost_ret (valS.result2 rfl _ (w.heap.size + 1 + 1) rfl (vc_len HlM.out) hO5) rfl ⟨rfl, hF5⟩
  · rw [if_neg (by omega), if_pos km, show decide (m.kind ≠ 2) = false by simp; omega]
    rw [km] at m0
    clear km wm om wv ov him
    go_enter Try.func15, Try.ntmps15
    go_wp2_with (first
      | (refine wpList_store_at (ds := vc zeroV) val_info rfl (.tmp 6) (.tmp 24) rfl (w.heap.size + 1 + 1) 0 rfl rfl rfl (vc_one _) hO (by decide) (splice_all _ _ (by decide)) ?_; intro W5 hO5 hk5; have hF5 := hk5.fr hF (by omega); clear hk5)
      | fail)
    exact bodyPost_ret (valS.result2 rfl _ (w.heap.size + 1 + 1) rfl rfl hO5) rfl ⟨rfl, hF5⟩
  · rw [if_neg (by omega), if_neg (by omega), show decide (m.kind ≠ 2) = true by simp; omega]
    rw [km] at m0
    cases there
    · rw [if_neg (by decide)]
      have cF := fun W h => from_at (W0 := Z) (W := W) (n := 0) (by decide) h
      have cP := fun W0 W h => plus_at (W0 := W0) (W := W) (fromV_wf 0) (fromV_ok 0) m.inc h
      rw [zero_plus him] at cP
      have Hf0 := keep (fromV_wf 0).hl
      have Hr := keep (fromV_wf m.inc).hl
      have HlR := keep (mc_len (m := { m with val := fromV m.inc }) Hr.out)
      generalize fromV m.inc = r at *
      generalize fromV 0 = f0 at *
      clear km wm om wv ov him
      go_enter Try.func15, Try.ntmps15
      go_wp2_with (first
        | (go_at_call 26; refine (cF _ (by assumption)).mono ?_; rintro e w1 ⟨rfl, hz1⟩; have hV1 := hV.below hz1 hV.lt; have hM1 := hM.below hz1 hM.lt; have hO1 := hO.below hz1 hO.lt; have hF1 := fr_step hF hz1; clear hV hM hO hF m0 m28 lmV lv cF)
        | (refine wpList_store_at (ds := vc f0) val_info rfl (.tmp 3) (.tmp 16) rfl w.heap.size 0 rfl rfl (vc_len Hf0.out) (vc_one _) hV1 (by rw [vc_len HlV.out]; decide) (splice_all _ _ (by rw [vc_len Hf0.out, vc_len HlV.out]; decide)) ?_; intro Y hVy hky; have hMy := hky.other hM1 (by omega); have hOy := hky.other hO1 (by omega); have hFy := hky.fr hF1 (by omega); clear hky hV1 hM1 hO1 hF1
           have lv := ld_fr hVy (vc_len Hf0.out)
           have m28 := cellZ hMy 28 (mc_28 HlM.out)
           have hYY := fr_refl Y)
        | (go_at_call 27; refine (cP Y _ (by assumption)).mono ?_; rintro e w2 ⟨rfl, hz2⟩; have hM2 := hMy.below hz2 hMy.lt; have hO2 := hOy.below hz2 hOy.lt; have hF2 := fr_step hFy hz2; clear hVy hMy hOy hFy m28 lv cP)
        | (refine wpList_store_at (ds := vc r) val_info rfl (.tmp 21) (.tmp 20) rfl (w.heap.size + 1) 11 rfl rfl (vc_len Hr.out) (vc_one _) hM2 (by rw [mc_len HlM.out]; decide) (mc_spliceV HlM.out Hr.out) ?_; intro X hMx hkx; have hOx := hkx.other hO2 (by omega); have hFx := hkx.fr hF2 (by omega); clear hkx hM2 hO2 hF2
           have lmV := msg_valAt hMx Hr.out
           have hXX := fr_refl X)
        | (refine wpList_store_at (ds := vc r) val_info rfl (.tmp 6) (.tmp 23) rfl (w.heap.size + 1 + 1) 0 rfl rfl (vc_len Hr.out) (vc_one _) hOx (by decide) (splice_all _ _ (by rw [vc_len Hr.out]; decide)) ?_; intro W5 hO5 hk5; have hF5 := hk5.fr hFx (by omega); clear hk5)
        | fail)
      exact bodyPost_ret (valS.result2 rfl _ (w.heap.size + 1 + 1) rfl (vc_len Hr.out) hO5) rfl ⟨rfl, hF5⟩
    · rw [if_pos rfl]
      have cP := fun W0 W h => plus_at (W0 := W0) (W := W) wv (ov rfl) m.inc h
      have Hr := keep (show (plusV v m.inc).bs.length = 16 from (fromV_wf _).hl)
      generalize plusV v m.inc = r at *
      clear km wm om wv ov him
      go_enter Try.func15, Try.ntmps15
      go_wp2_with (first
        | (go_at_call 27; refine (cP Z _ (by assumption)).mono ?_; rintro e w2 ⟨rfl, hz2⟩; have hM2 := hM.below hz2 hM.lt; have hO2 := hO.below hz2 hO.lt; have hF2 := fr_step hF hz2; clear hV hM hO hF m28 lv cP)
        | (refine wpList_store_at (ds := vc r) val_info rfl (.tmp 21) (.tmp 20) rfl (w.heap.size + 1) 11 rfl rfl (vc_len Hr.out) (vc_one _) hM2 (by rw [mc_len HlM.out]; decide) (mc_spliceV HlM.out Hr.out) ?_; intro X hMx hkx; have hOx := hkx.other hO2 (by omega); have hFx := hkx.fr hF2 (by omega); clear hkx hM2 hO2 hF2
           have lmV := msg_valAt hMx Hr.out
           have hXX := fr_refl X)
        | (refine wpList_store_at (ds := vc r) val_info rfl (.tmp 6) (.tmp 23) rfl (w.heap.size + 1 + 1) 0 rfl rfl (vc_len Hr.out) (vc_one _) hOx (by decide) (splice_all _ _ (by rw [vc_len Hr.out]; decide)) ?_; intro W5 hO5 hk5; have hF5 := hk5.fr hFx (by omega); clear hk5)
        | fail)
      exact bodyPost_ret (valS.result2 rfl _ (w.heap.size + 1 + 1) rfl (vc_len Hr.out) hO5) rfl ⟨rfl, hF5⟩
set_option maxRecDepth 100000 in
set_option maxHeartbeats 4000000 in
theorem ref_apply (v : RV) (there : Bool) (m : RM) (wv : v.wf) (ov : there = true → okV v = true) (wm : m.wf) (om : okM m = true) (w : World) : Calls Try.prog 16 #[vv v, .bool there, mm m] w fun e w' => e = .returned (.tuple #[vv (appV v there m), .bool (appB m)]) ∧ Fr w w' := by
  obtain ⟨Z, hZ, hF, hZZ, hV, hM, hO, hS⟩ := app_boxed w v m wm.val.hl
  have m0 := cellZ hM 0 (mc_0 m)
  have m28 := cellZ hM 28 (mc_28 wm.val.hl)
  have lmV := msg_valAt hM wm.val.hl
  have lv := ld_fr hV (vc_len wv.hl)
  have him := wm.hi
  have HlM := keep wm.val.hl
  have HlV := keep wv.hl
  obtain ⟨km, -, -, -, -⟩ := okM_parts om
  unfold appV appB
  rcases km with km | km | km
  · rw [if_pos km, show decide (m.kind ≠ 2) = true by simp; omega]
    rw [km] at m0
    clear km wm om wv ov him
    go_enter Try.func16, Try.ntmps16
    go_wp2_with (first
      | (refine wpList_store_at (ds := vc m.val) val_info rfl (.tmp 6) (.tmp 13) rfl (w.heap.size + 1 + 1) 0 rfl rfl (vc_len HlM.out) (vc_one _) hO (by decide) (splice_all _ _ (by rw [vc_len HlM.out]; decide)) ?_; intro W5 hO5 hk5; have hF5 := hk5.fr hF (by omega); clear hk5)
      | fail)
    exact bodyPost_ret (valS.result2 rfl _ (w.heap.size + 1 + 1) rfl (vc_len HlM.out) hO5) rfl ⟨rfl, hF5⟩
  · rw [if_neg (by omega), if_pos km, show decide (m.kind ≠ 2) = false by simp; omega]
    rw [km] at m0
    clear km wm om wv ov him
    go_enter Try.func16, Try.ntmps16
    go_wp2_with (first
      | (refine wpList_store_at (ds := vc zeroV) val_info rfl (.tmp 6) (.tmp 16) rfl (w.heap.size + 1 + 1) 0 rfl rfl rfl (vc_one _) hO (by decide) (splice_all _ _ (by decide)) ?_; intro W5 hO5 hk5; have hF5 := hk5.fr hF (by omega); clear hk5)
      | fail)
    exact bodyPost_ret (valS.result2 rfl _ (w.heap.size + 1 + 1) rfl rfl hO5) rfl ⟨rfl, hF5⟩
  · rw [if_neg (by omega), if_neg (by omega), show decide (m.kind ≠ 2) = true by simp; omega]
    rw [km] at m0
    cases there
    · rw [if_neg (by decide)]
      have cP := fun W0 W h => rfrom_at' (W0 := W0) (W := W) him h
      have Hr := keep (fromV_wf m.inc).hl
      generalize fromV m.inc = r at *
      clear km wm om wv ov him
      go_enter Try.func16, Try.ntmps16
      go_wp2_with (first
        | (go_at_call 22; refine (cP Z _ (by assumption)).mono ?_; rintro e w2 ⟨rfl, hz2⟩; have hO2 := hO.below hz2 hO.lt; have hF2 := fr_step hF hz2; clear hV hM hO hF m28 lv cP)
        | (refine wpList_store_at (ds := vc r) val_info rfl (.tmp 6) (.tmp 21) rfl (w.heap.size + 1 + 1) 0 rfl rfl (vc_len Hr.out) (vc_one _) hO2 (by decide) (splice_all _ _ (by rw [vc_len Hr.out]; decide)) ?_; intro W5 hO5 hk5; have hF5 := hk5.fr hF2 (by omega); clear hk5)
        | fail)
      exact bodyPost_ret (valS.result2 rfl _ (w.heap.size + 1 + 1) rfl (vc_len Hr.out) hO5) rfl ⟨rfl, hF5⟩
    · rw [if_pos rfl]
      have cP := fun W0 W h => rplus_at (W0 := W0) (W := W) wv m.inc h
      have Hr := keep (show (plusV v m.inc).bs.length = 16 from (fromV_wf _).hl)
      generalize plusV v m.inc = r at *
      clear km wm om wv ov him
      go_enter Try.func16, Try.ntmps16
      go_wp2_with (first
        | (go_at_call 28; refine (cP Z _ (by assumption)).mono ?_; rintro e w2 ⟨rfl, hz2⟩; have hO2 := hO.below hz2 hO.lt; have hF2 := fr_step hF hz2; clear hV hM hO hF m28 lv cP)
        | (refine wpList_store_at (ds := vc r) val_info rfl (.tmp 6) (.tmp 25) rfl (w.heap.size + 1 + 1) 0 rfl rfl (vc_len Hr.out) (vc_one _) hO2 (by decide) (splice_all _ _ (by rw [vc_len Hr.out]; decide)) ?_; intro W5 hO5 hk5; have hF5 := hk5.fr hF2 (by omega); clear hk5)
        | fail)
      exact bodyPost_ret (valS.result2 rfl _ (w.heap.size + 1 + 1) rfl (vc_len Hr.out) hO5) rfl ⟨rfl, hF5⟩
end Go.Proofs.Ytkblfljcjfaibaa
