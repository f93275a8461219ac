/- What the functions of layer 5 come to, four: 'Compose' of the document, 'Apply' of both. -/
import Derived.Test.YtnfoebcfhldemaaMsgC
namespace Go.Proofs.Ytnfoebcfhldemaa
set_option maxRecDepth 100000
open Go.RowKit
set_option linter.unusedVariables false
attribute [local go_sem ↓] val_ld key_ld msg_ld
theorem rfrom_at' {W0 W : World} {n : Int} (hn : Us64 n) (hb : Fr W0 W) : Calls Try.prog 84 #[.int .u64 n] W fun e w' => e = .returned (vv (fromV n)) ∧ Fr W0 w' := rfrom_at hn.1 hn.2 hb
set_option maxRecDepth 100000 in
set_option maxHeartbeats 4000000 in
theorem ref_compose (a b : RM) (wa : a.wf) (wb : b.wf) (oa : okM a = true) (ob : okM b = true) (w : World) : Calls Try.prog 60 #[mm a, mm b] w fun e w' => e = .returned (mm (compM a b)) ∧ Fr w w' := by
  obtain ⟨Z, hZ, hF, hZZ, hA, hB, hO, hS⟩ := msg_boxed2 w a b wa.val.hl wb.val.hl
  have a0 := cellZ hA 0 (mc_0 a)
  have a28 := cellZ hA 28 (mc_28 wa.val.hl)
  have b0 := cellZ hB 0 (mc_0 b)
  have b1 := cellZ hB 1 (mc_1 b)
  have b28 := cellZ hB 28 (mc_28 wb.val.hl)
  have laK := msg_keyAt hA
  have lbK := msg_keyAt hB
  have laV := msg_valAt hA wa.val.hl
  have lbM := msg_all hB wb.val.hl
  have hne := key_neq wa.key wb.key
  obtain ⟨ka, -, pa, -, -⟩ := okM_parts oa
  have hib := wb.hi
  have Hlb := keep (mc_len wb.val.hl)
  have HlB := keep wb.val.hl
  have HlA := keep wa.val.hl
  unfold compM
  obtain ⟨-, -, -, -, pb⟩ := okM_parts ob
  have HlD := keep (mc_len (m := ⟨1, b.seq, b.key, zeroV, 0⟩) rfl)
  have HlE := keep (mc_len (m := ⟨3, b.seq, b.key, zeroV, 0⟩) rfl)
  by_cases h3 : b.kind = 3
  · rw [h3] at b0
    by_cases hk : a.key = b.key
    · rw [if_neg (by simp [h3, hk])]
      have hk' : decide (a.key = b.key) = true := by simpa using hk
      rw [hk'] at hne
      simp only [Bool.not_true] at hne
      rcases ka with ka | ka | ka
      · rw [ka] at a0
        rw [if_pos ka]
        have cP := fun W0 W h => rplus_at (W0 := W0) (W := W) wa.val b.inc h
        have wv := (fromV_wf (IntKind.u64.wrap (numV a.val + b.inc)))
        have ev : plusV a.val b.inc = fromV (IntKind.u64.wrap (numV a.val + b.inc)) := rfl
        rw [← ev] at wv
        have Hv := keep wv.hl
        generalize plusV a.val b.inc = v at *
        clear ka pa hk hk' h3 ev wv wa wb oa ob hib pb
        have HlR := keep (mc_len (m := ⟨1, b.seq, b.key, v, 0⟩) Hv.out)
        go_enter Try.func60, Try.ntmps60
        go_wp2_with (first
          | (refine wpList_store_at (ds := mc ⟨1, b.seq, b.key, zeroV, 0⟩) msg_info rfl (.tmp 5) (.tmp 21) rfl (w.heap.size + 1 + 1 + 1) 0 rfl rfl HlD.out (mc_one _) (arr_at Z (mc zeroM).toArray 36 _ hS) (by decide) (splice_all _ _ (by rw [HlD.out]; decide)) ?_; intro Y hD hky
             have hOy := hky.other (hO.alloc _) (by omega)
             have hzY := hky.fr (fr_new hZZ _) (by omega)
             have hYY := fr_refl Y
             clear hky)
          | (go_at_call 83; refine (cP Y _ (by assumption)).mono ?_; rintro e w1 ⟨rfl, hz1⟩; have hD1 := hD.below hz1 hD.lt; have hO1 := hOy.below hz1 hOy.lt; have hF1 := fr_step (fr_step hF hzY) hz1)
          | (refine wpList_store_at val_info rfl (.tmp 38) _ rfl (w.heap.size + 1 + 1 + 1) 11 rfl rfl (vc_len Hv.out) (vc_one v) hD1 (by rw [HlD.out]; decide) (mc_spliceV (m := ⟨1, b.seq, b.key, zeroV, 0⟩) rfl Hv.out) ?_; intro W3 hB3 hk3; have hO3 := hk3.other hO1 (by omega); have hF3 := hk3.fr hF1 (by omega); clear hk3)
          | (refine wpList_load_sty msgS rfl (.tmp 5) rfl (w.heap.size + 1 + 1 + 1) rfl HlR.out hB3 ?_)
          | (refine wpList_store_at (ds := mc ⟨1, b.seq, b.key, v, 0⟩) msg_info rfl (.tmp 4) (.tmp 45) rfl (w.heap.size + 1 + 1) 0 rfl rfl HlR.out (mc_one _) hO3 (by decide) (splice_all _ _ (by rw [HlR.out]; decide)) ?_; intro W5 hO5 hk5; have hF5 := hk5.fr hF3 (by omega); clear hk5)
          | fail)
        exact bodyPost_ret (msgS.result rfl _ (w.heap.size + 1 + 1) rfl HlR.out hO5) rfl ⟨rfl, hF5⟩
      · rw [ka] at a0
        rw [if_neg (by omega), if_pos ka]
        have cP := fun W0 W h => rfrom_at' (W0 := W0) (W := W) hib h
        have Hv := keep (fromV_wf b.inc).hl
        generalize fromV b.inc = v at *
        clear ka pa hk hk' h3 wa wb oa ob hib pb
        have HlR := keep (mc_len (m := ⟨1, b.seq, b.key, v, 0⟩) Hv.out)
        go_enter Try.func60, Try.ntmps60
        go_wp2_with (first
          | (refine wpList_store_at (ds := mc ⟨1, b.seq, b.key, zeroV, 0⟩) msg_info rfl (.tmp 5) (.tmp 21) rfl (w.heap.size + 1 + 1 + 1) 0 rfl rfl HlD.out (mc_one _) (arr_at Z (mc zeroM).toArray 36 _ hS) (by decide) (splice_all _ _ (by rw [HlD.out]; decide)) ?_; intro Y hD hky
             have hOy := hky.other (hO.alloc _) (by omega)
             have hzY := hky.fr (fr_new hZZ _) (by omega)
             have hYY := fr_refl Y
             clear hky)
          | (go_at_call 84; refine (cP Y _ (by assumption)).mono ?_; rintro e w1 ⟨rfl, hz1⟩; have hD1 := hD.below hz1 hD.lt; have hO1 := hOy.below hz1 hOy.lt; have hF1 := fr_step (fr_step hF hzY) hz1)
          | (refine wpList_store_at val_info rfl (.tmp 44) _ rfl (w.heap.size + 1 + 1 + 1) 11 rfl rfl (vc_len Hv.out) (vc_one v) hD1 (by rw [HlD.out]; decide) (mc_spliceV (m := ⟨1, b.seq, b.key, zeroV, 0⟩) rfl Hv.out) ?_; intro W3 hB3 hk3; have hO3 := hk3.other hO1 (by omega); have hF3 := hk3.fr hF1 (by omega); clear hk3)
          | (refine wpList_load_sty msgS rfl (.tmp 5) rfl (w.heap.size + 1 + 1 + 1) rfl HlR.out hB3 ?_)
          | (refine wpList_store_at (ds := mc ⟨1, b.seq, b.key, v, 0⟩) msg_info rfl (.tmp 4) (.tmp 45) rfl (w.heap.size + 1 + 1) 0 rfl rfl HlR.out (mc_one _) hO3 (by decide) (splice_all _ _ (by rw [HlR.out]; decide)) ?_; intro W5 hO5 hk5; have hF5 := hk5.fr hF3 (by omega); clear hk5)
          | fail)
        exact bodyPost_ret (msgS.result rfl _ (w.heap.size + 1 + 1) rfl HlR.out hO5) rfl ⟨rfl, hF5⟩
      · rw [ka] at a0
        rw [if_neg (by omega), if_neg (by omega)]
        have eR : { b with inc := IntKind.u64.wrap (a.inc + b.inc) } = (⟨3, b.seq, b.key, zeroV, IntKind.u64.wrap (a.inc + b.inc)⟩ : RM) := by rw [h3, pb (by omega)]
        rw [eR]
        have HlR := keep (mc_len (m := ⟨3, b.seq, b.key, zeroV, IntKind.u64.wrap (a.inc + b.inc)⟩) rfl)
        have y28 := fun (Y : World) (g : Nat) (h : Arr Y g 36 (mc ⟨1, b.seq, b.key, zeroV, 0⟩).toArray) => h
        clear ka pa hk hk' h3 wa wb oa ob hib pb eR
        go_enter Try.func60, Try.ntmps60
        go_wp2_with (first
          | (refine wpList_store_at (ds := mc ⟨1, b.seq, b.key, zeroV, 0⟩) msg_info rfl (.tmp 5) (.tmp 21) rfl (w.heap.size + 1 + 1 + 1) 0 rfl rfl HlD.out (mc_one _) (arr_at Z (mc zeroM).toArray 36 _ hS) (by decide) (splice_all _ _ (by rw [HlD.out]; decide)) ?_; intro Y hD hky
             have hOy := hky.other (hO.alloc _) (by omega)
             have hzY := hky.fr (fr_new hZZ _) (by omega)
             have hYY := fr_refl Y
             clear hky)
          | (refine wpList_store_at i64_info rfl (.tmp 24) _ rfl (w.heap.size + 1 + 1 + 1) 0 rfl rfl rfl (one_of _ rfl) hD (by rw [HlD.out]; decide) ((splice_cell _ _ _ (by rw [HlD.out]; decide)).trans (mc_set0 ⟨1, b.seq, b.key, zeroV, 0⟩ 3)) ?_; intro W3 hD3 hk3
             have hO3 := hk3.other hOy (by omega)
             have hA3 := hk3.other (hA.below hzY hA.lt) (by omega)
             have hB3 := hk3.other (hB.below hzY hB.lt) (by omega)
             have hF3 := hk3.fr (fr_step hF hzY) (by omega)
             have hW3 := fr_refl W3
             have c28 := cellZ hA3 28 (mc_28 HlA.out)
             have d28 := cellZ hB3 28 (mc_28 HlB.out)
             clear hk3)
          | (refine wpList_store_at u64_info rfl (.tmp 30) _ rfl (w.heap.size + 1 + 1 + 1) 28 rfl rfl rfl (one_of _ rfl) hD3 (by rw [HlE.out]; decide) ((splice_cell _ _ _ (by rw [HlE.out]; decide)).trans (mc_set28 (m := ⟨3, b.seq, b.key, zeroV, 0⟩) rfl _)) ?_; intro W4 hB4 hk4; have hO4 := hk4.other hO3 (by omega); have hF4 := hk4.fr hF3 (by omega); clear hk4)
          | (refine wpList_load_sty msgS rfl (.tmp 5) rfl (w.heap.size + 1 + 1 + 1) rfl HlR.out hB4 ?_)
          | (refine wpList_store_at (ds := mc ⟨3, b.seq, b.key, zeroV, IntKind.u64.wrap (a.inc + b.inc)⟩) msg_info rfl (.tmp 4) (.tmp 45) rfl (w.heap.size + 1 + 1) 0 rfl rfl HlR.out (mc_one _) hO4 (by decide) (splice_all _ _ (by rw [HlR.out]; decide)) ?_; intro W5 hO5 hk5; have hF5 := hk5.fr hF4 (by omega); clear hk5)
          | fail)
        exact bodyPost_ret (msgS.result rfl _ (w.heap.size + 1 + 1) rfl HlR.out hO5) rfl ⟨rfl, hF5⟩
    · rw [if_pos (Or.inr hk)]
      have hk' : decide (a.key = b.key) = false := by simpa using hk
      rw [hk'] at hne
      simp only [Bool.not_false] at hne
      clear hk hk' h3 ka pa wa wb oa ob hib pb
      go_enter Try.func60, Try.ntmps60
      go_wp2_with (first
        | (refine wpList_store_at (ds := mc b) msg_info rfl (.tmp 4) (.tmp 16) rfl (w.heap.size + 1 + 1) 0 rfl rfl Hlb.out (mc_one b) hO (by decide) (splice_all _ _ (by rw [Hlb.out]; decide)) ?_; intro W2 hO2 hk2; have hF2 := hk2.fr hF (by omega); clear hk2)
        | fail)
      exact bodyPost_ret (msgS.result rfl _ (w.heap.size + 1 + 1) rfl Hlb.out hO2) rfl ⟨rfl, hF2⟩
  · rw [if_pos (Or.inl h3)]
    have h3' : (b.kind != 3) = true := by simpa using h3
    clear h3 ka pa wa wb oa ob hib pb
    go_enter Try.func60, Try.ntmps60
    go_wp2_with (first
      | (refine wpList_store_at (ds := mc b) msg_info rfl (.tmp 4) (.tmp 16) rfl (w.heap.size + 1 + 1) 0 rfl rfl Hlb.out (mc_one b) hO (by decide) (splice_all _ _ (by rw [Hlb.out]; decide)) ?_; intro W2 hO2 hk2; have hF2 := hk2.fr hF (by omega); clear hk2)
      | fail)
    exact bodyPost_ret (msgS.result rfl _ (w.heap.size + 1 + 1) rfl Hlb.out hO2) rfl ⟨rfl, hF2⟩
end Go.Proofs.Ytnfoebcfhldemaa
