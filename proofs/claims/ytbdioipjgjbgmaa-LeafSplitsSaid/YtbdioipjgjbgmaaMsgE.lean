/- What the functions of layer 5 come to, five: 'Apply' of both. -/
import Derived.Test.YtbdioipjgjbgmaaMsgD
namespace Go.Proofs.Ytbdioipjgjbgmaa
set_option maxRecDepth 100000
open Go.RowKit
set_option linter.unusedVariables false
attribute [local go_sem ↓] val_ld key_ld msg_ld
/-- What a message makes of a value, or of none. -/
def appV (v : RV) (there : Bool) (m : RM) : RV := if m.kind = 1 then m.val else if m.kind = 2 then zeroV else if there = true then plusV v m.inc else fromV m.inc
def appB (m : RM) : Bool := decide (m.kind ≠ 2)
/-- A value and a message that were boxed, and a third block. -/
theorem app_boxed (w : World) (v : RV) (m : RM) (hm : m.val.bs.length = 16) : ∃ Z, ((w.alloc (.cells (vc v).toArray 34)).alloc (.cells (mc m).toArray 36)).alloc (.cells #[.int .i64 0, .int .u8 0, .int .u8 0, .int .u8 0, .int .u8 0, .int .u8 0, .int .u8 0, .int .u8 0, .int .u8 0, .int .u8 0, .int .u8 0, .int .u8 0, .int .u8 0, .int .u8 0, .int .u8 0, .int .u8 0, .int .u8 0] 34) = Z ∧ Fr w Z ∧ Fr Z Z ∧
    Arr Z w.heap.size 34 (vc v).toArray ∧ Arr Z (w.heap.size + 1) 36 (mc m).toArray ∧ Arr Z (w.heap.size + 1 + 1) 34 (vc zeroV).toArray ∧ Z.heap.size = w.heap.size + 1 + 1 + 1 := by
  refine ⟨_, rfl, fr_new (fr_new (fr_new (fr_refl w) _) _) _, fr_refl _, Arr.alloc (Arr.alloc (Arr.new w _ _) _) _, Arr.alloc (arr_at _ _ _ _ (by simp)) _, arr_at _ _ _ _ (by simp), by simp⟩
set_option maxRecDepth 100000 in
set_option maxHeartbeats 4000000 in
theorem ref_apply (v : RV) (there : Bool) (m : RM) (wv : v.wf) (ov : there = true → okV v = true) (wm : m.wf) (om : okM m = true) (w : World) : Calls Try.prog 53 #[vv v, .bool there, mm m] w fun e w' => e = .returned (.tuple #[vv (appV v there m), .bool (appB m)]) ∧ Fr w w' := by
  obtain ⟨Z, hZ, hF, hZZ, hV, hM, hO, hS⟩ := app_boxed w v m wm.val.hl
  have m0 := cellZ hM 0 (mc_0 m)
  have m28 := cellZ hM 28 (mc_28 wm.val.hl)
  have lmV := msg_valAt hM wm.val.hl
  have lv := ld_fr hV (vc_len wv.hl)
  have him := wm.hi
  have HlM := keep wm.val.hl
  have HlV := keep wv.hl
  obtain ⟨km, -, -, -, -⟩ := okM_parts om
  unfold appV appB
  rcases km with km | km | km
  · rw [if_pos km, show decide (m.kind ≠ 2) = true by simp; omega]
    rw [km] at m0
    clear km wm om wv ov him
    go_enter Try.func53, Try.ntmps53
    go_wp2_with (first
      | (refine wpList_store_at (ds := vc m.val) val_info rfl (.tmp 6) (.tmp 13) rfl (w.heap.size + 1 + 1) 0 rfl rfl (vc_len HlM.out) (vc_one _) hO (by decide) (splice_all _ _ (by rw [vc_len HlM.out]; decide)) ?_; intro W5 hO5 hk5; have hF5 := hk5.fr hF (by omega); clear hk5)
      | fail)
    exact bodyPost_ret (valS.result2 rfl _ (w.heap.size + 1 + 1) rfl (vc_len HlM.out) hO5) rfl ⟨rfl, hF5⟩
  · rw [if_neg (by omega), if_pos km, show decide (m.kind ≠ 2) = false by simp; omega]
    rw [km] at m0
    clear km wm om wv ov him
    go_enter Try.func53, Try.ntmps53
    go_wp2_with (first
      | (refine wpList_store_at (ds := vc zeroV) val_info rfl (.tmp 6) (.tmp 16) rfl (w.heap.size + 1 + 1) 0 rfl rfl rfl (vc_one _) hO (by decide) (splice_all _ _ (by decide)) ?_; intro W5 hO5 hk5; have hF5 := hk5.fr hF (by omega); clear hk5)
      | fail)
    exact bodyPost_ret (valS.result2 rfl _ (w.heap.size + 1 + 1) rfl rfl hO5) rfl ⟨rfl, hF5⟩
  · rw [if_neg (by omega), if_neg (by omega), show decide (m.kind ≠ 2) = true by simp; omega]
    rw [km] at m0
    cases there
    · rw [if_neg (by decide)]
      have cP := fun W0 W h => rfrom_at' (W0 := W0) (W := W) him h
      have Hr := keep (fromV_wf m.inc).hl
      generalize fromV m.inc = r at *
      clear km wm om wv ov him
      go_enter Try.func53, Try.ntmps53
      go_wp2_with (first
        | (go_at_call 72; refine (cP Z _ (by assumption)).mono ?_; rintro e w2 ⟨rfl, hz2⟩; have hO2 := hO.below hz2 hO.lt; have hF2 := fr_step hF hz2; clear hV hM hO hF m28 lv cP)
        | (refine wpList_store_at (ds := vc r) val_info rfl (.tmp 6) (.tmp 21) rfl (w.heap.size + 1 + 1) 0 rfl rfl (vc_len Hr.out) (vc_one _) hO2 (by decide) (splice_all _ _ (by rw [vc_len Hr.out]; decide)) ?_; intro W5 hO5 hk5; have hF5 := hk5.fr hF2 (by omega); clear hk5)
        | fail)
      exact bodyPost_ret (valS.result2 rfl _ (w.heap.size + 1 + 1) rfl (vc_len Hr.out) hO5) rfl ⟨rfl, hF5⟩
    · rw [if_pos rfl]
      have cP := fun W0 W h => rplus_at (W0 := W0) (W := W) wv m.inc h
      have Hr := keep (show (plusV v m.inc).bs.length = 16 from (fromV_wf _).hl)
      generalize plusV v m.inc = r at *
      clear km wm om wv ov him
      go_enter Try.func53, Try.ntmps53
      go_wp2_with (first
        | (go_at_call 71; refine (cP Z _ (by assumption)).mono ?_; rintro e w2 ⟨rfl, hz2⟩; have hO2 := hO.below hz2 hO.lt; have hF2 := fr_step hF hz2; clear hV hM hO hF m28 lv cP)
        | (refine wpList_store_at (ds := vc r) val_info rfl (.tmp 6) (.tmp 25) rfl (w.heap.size + 1 + 1) 0 rfl rfl (vc_len Hr.out) (vc_one _) hO2 (by decide) (splice_all _ _ (by rw [vc_len Hr.out]; decide)) ?_; intro W5 hO5 hk5; have hF5 := hk5.fr hF2 (by omega); clear hk5)
        | fail)
      exact bodyPost_ret (valS.result2 rfl _ (w.heap.size + 1 + 1) rfl (vc_len Hr.out) hO5) rfl ⟨rfl, hF5⟩
end Go.Proofs.Ytbdioipjgjbgmaa
