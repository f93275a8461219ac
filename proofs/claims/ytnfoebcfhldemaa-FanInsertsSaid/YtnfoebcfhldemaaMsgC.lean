/- What the functions of layer 5 come to, three: 'Compose' of the program. -/
import Derived.Test.YtnfoebcfhldemaaMsgB
namespace Go.Proofs.Ytnfoebcfhldemaa
set_option maxRecDepth 100000
open Go.RowKit
set_option linter.unusedVariables false
attribute [local go_sem ↓] val_ld key_ld msg_ld
/-- The message that does what a and then b do. -/
def compM (a b : RM) : RM :=
  if b.kind ≠ 3 ∨ a.key ≠ b.key then b
  else if a.kind = 1 then { b with kind := 1, val := plusV a.val b.inc, inc := 0 }
  else if a.kind = 2 then { b with kind := 1, val := fromV b.inc, inc := 0 }
  else { b with inc := IntKind.u64.wrap (a.inc + b.inc) }
theorem zeroM_cells : (mc zeroM).toArray = #[.int .i64 0, .int .u64 0, .int .i64 0, .int .u8 0, .int .u8 0, .int .u8 0, .int .u8 0, .int .u8 0, .int .u8 0, .int .u8 0, .int .u8 0, .int .i64 0, .int .u8 0, .int .u8 0, .int .u8 0, .int .u8 0, .int .u8 0, .int .u8 0, .int .u8 0, .int .u8 0, .int .u8 0, .int .u8 0, .int .u8 0, .int .u8 0, .int .u8 0, .int .u8 0, .int .u8 0, .int .u8 0, .int .u64 0] := rfl
theorem i64_info : (Try.prog.info? 3).map (·.size) = some 1 := by kernel_rfl
theorem u64_info : (Try.prog.info? 31).map (·.size) = some 1 := by kernel_rfl
theorem zero_plus {n : Int} (h : Us64 n) : plusV (fromV 0) n = fromV n := by
  rw [plus_from (by omega) (by omega), Int.zero_add, u64_of]
  unfold Us64 at h
  rw [show n % 18446744073709551616 = n by omega]
/-- Two messages that were boxed, and a third block. -/
theorem msg_boxed2 (w : World) (a b : RM) (ha : a.val.bs.length = 16) (hb : b.val.bs.length = 16) : ∃ Z, ((w.alloc (.cells (mc a).toArray 36)).alloc (.cells (mc b).toArray 36)).alloc (.cells #[.int .i64 0, .int .u64 0, .int .i64 0, .int .u8 0, .int .u8 0, .int .u8 0, .int .u8 0, .int .u8 0, .int .u8 0, .int .u8 0, .int .u8 0, .int .i64 0, .int .u8 0, .int .u8 0, .int .u8 0, .int .u8 0, .int .u8 0, .int .u8 0, .int .u8 0, .int .u8 0, .int .u8 0, .int .u8 0, .int .u8 0, .int .u8 0, .int .u8 0, .int .u8 0, .int .u8 0, .int .u8 0, .int .u64 0] 36) = Z ∧ Fr w Z ∧ Fr Z Z ∧
    Arr Z w.heap.size 36 (mc a).toArray ∧ Arr Z (w.heap.size + 1) 36 (mc b).toArray ∧ Arr Z (w.heap.size + 1 + 1) 36 (mc zeroM).toArray ∧ Z.heap.size = w.heap.size + 1 + 1 + 1 := by
  refine ⟨_, rfl, fr_new (fr_new (fr_new (fr_refl w) _) _) _, fr_refl _, Arr.alloc (Arr.alloc (Arr.new w _ _) _) _, Arr.alloc (arr_at _ _ _ _ (by simp)) _, arr_at _ _ _ _ (by simp), by simp⟩
set_option maxRecDepth 100000 in
set_option maxHeartbeats 4000000 in
theorem msg_compose (a b : RM) (wa : a.wf) (wb : b.wf) (oa : okM a = true) (ob : okM b = true) (w : World) : Calls Try.prog 82 #[mm a, mm b] w fun e w' => e = .returned (mm (compM a b)) ∧ Fr w w' := by
  obtain ⟨Z, hZ, hF, hZZ, hA, hB, hO, hS⟩ := msg_boxed2 w a b wa.val.hl wb.val.hl
  have a0 := cellZ hA 0 (mc_0 a)
  have a28 := cellZ hA 28 (mc_28 wa.val.hl)
  have b0 := cellZ hB 0 (mc_0 b)
  have b1 := cellZ hB 1 (mc_1 b)
  have b28 := cellZ hB 28 (mc_28 wb.val.hl)
  have laK := msg_keyAt hA
  have lbK := msg_keyAt hB
  have laV := msg_valAt hA wa.val.hl
  have lbM := msg_all hB wb.val.hl
  have hne := key_neq wa.key wb.key
  obtain ⟨ka, -, pa, -, -⟩ := okM_parts oa
  have hib := wb.hi
  have Hlb := keep (mc_len wb.val.hl)
  have HlB := keep wb.val.hl
  have HlA := keep wa.val.hl
  unfold compM
  by_cases h3 : b.kind = 3
  · rw [h3] at b0
    by_cases hk : a.key = b.key
    · rw [if_neg (by simp [h3, hk])]
      have hk' : decide (a.key = b.key) = true := by simpa using hk
      rw [hk'] at hne
      simp only [Bool.not_true] at hne
      rcases ka with ka | ka | ka
      · rw [ka] at a0
        rw [if_pos ka]
        have cP := fun W h => plus_at (W0 := Z) (W := W) wa.val (pa ka).2 b.inc h
        have wv := (fromV_wf (IntKind.u64.wrap (numV a.val + b.inc)))
        have ev : plusV a.val b.inc = fromV (IntKind.u64.wrap (numV a.val + b.inc)) := rfl
        rw [← ev] at wv
        have Hv := keep wv.hl
        generalize plusV a.val b.inc = v at *
        clear ka pa hk hk' h3 ev wv wa wb oa ob hib
        go_enter Try.func82, Try.ntmps82
        have HlR := keep (mc_len (m := { b with kind := 1, val := v, inc := 0 }) Hv.out)
        go_wp2_with (first
          | (go_at_call 93; refine (cP _ (by assumption)).mono ?_; rintro e w1 ⟨rfl, hz1⟩; have hB1 := hB.below hz1 hB.lt; have hO1 := hO.below hz1 hO.lt; have hF1 := fr_step hF hz1)
          | (refine wpList_store_at i64_info rfl (.tmp 31) _ rfl (w.heap.size + 1) 0 rfl rfl rfl (one_of _ rfl) hB1 (by rw [Hlb.out]; decide) ((splice_cell _ _ _ (by rw [Hlb.out]; decide)).trans (mc_set0 b 1)) ?_; intro W2 hB2 hk2; have hO2 := hk2.other hO1 (by omega); have hF2 := hk2.fr hF1 (by omega); clear hk2)
          | (refine wpList_store_at val_info rfl (.tmp 32) _ rfl (w.heap.size + 1) 11 rfl rfl (vc_len Hv.out) (vc_one v) hB2 (by rw [mc_len (by exact HlB.out)]; decide) (mc_spliceV (by exact HlB.out) Hv.out) ?_; intro W3 hB3 hk3; have hO3 := hk3.other hO2 (by omega); have hF3 := hk3.fr hF2 (by omega); clear hk3)
          | (refine wpList_store_at u64_info rfl (.tmp 33) _ rfl (w.heap.size + 1) 28 rfl rfl rfl (one_of _ rfl) hB3 (by rw [mc_len (by exact Hv.out)]; decide) ((splice_cell _ _ _ (by rw [mc_len (by exact Hv.out)]; decide)).trans (mc_set28 (by exact Hv.out) 0)) ?_; intro W4 hB4 hk4; have hO4 := hk4.other hO3 (by omega); have hF4 := hk4.fr hF3 (by omega); clear hk4)
          | (refine wpList_load_sty msgS rfl (.tmp 3) rfl (w.heap.size + 1) rfl HlR.out hB4 ?_)
          | (refine wpList_store_at (ds := mc { b with kind := 1, val := v, inc := 0 }) msg_info rfl (.tmp 4) (.tmp 40) rfl (w.heap.size + 1 + 1) 0 rfl rfl HlR.out (mc_one _) hO4 (by decide) (splice_all _ _ (by rw [HlR.out]; decide)) ?_; intro W5 hO5 hk5; have hF5 := hk5.fr hF4 (by omega); clear hk5)
          | fail)
        exact bodyPost_ret (msgS.result rfl _ (w.heap.size + 1 + 1) rfl HlR.out hO5) rfl ⟨rfl, hF5⟩
      · rw [ka] at a0
        rw [if_neg (by omega), if_pos ka]
        have cF := fun W h => from_at (W0 := Z) (W := W) (n := 0) (by decide) h
        have cP := fun W0 W h => plus_at (W0 := W0) (W := W) (fromV_wf 0) (fromV_ok 0) b.inc h
        rw [zero_plus hib] at cP
        have Hf0 := keep (fromV_wf 0).hl
        have Hv := keep (fromV_wf b.inc).hl
        generalize fromV b.inc = v at *
        generalize fromV 0 = f0 at *
        clear ka pa hk hk' h3 wa wb oa ob hib
        go_enter Try.func82, Try.ntmps82
        have HlR := keep (mc_len (m := { b with kind := 1, val := v, inc := 0 }) Hv.out)
        go_wp2_with (first
          | (go_at_call 92; refine (cF _ (by assumption)).mono ?_; rintro e w1 ⟨rfl, hz1⟩; have hA1 := hA.below hz1 hA.lt; have hB1 := hB.below hz1 hB.lt; have hO1 := hO.below hz1 hO.lt; have hF1 := fr_step hF hz1; have hs1 := hz1.size; clear hA hB hO hF a0 a28 b0 b1 b28 laK lbK laV lbM cF)
          | (refine wpList_store_at val_info rfl (.tmp 25) _ rfl w.heap.size 11 rfl rfl (vc_len Hf0.out) (vc_one f0) hA1 (by rw [mc_len HlA.out]; decide) (mc_spliceV HlA.out Hf0.out) ?_; intro Y hAy hky; have hBy := hky.other hB1 (by omega); have hOy := hky.other hO1 (by omega); have hFy := hky.fr hF1 (by omega); clear hky hB1 hO1 hF1 hA1
             have laV := msg_valAt hAy Hf0.out
             have b28 := cellZ hBy 28 (mc_28 HlB.out)
             have hYY := fr_refl Y)
          | (go_at_call 93; refine (cP Y _ (by assumption)).mono ?_; rintro e w1 ⟨rfl, hz2⟩; have hB1 := hBy.below hz2 hBy.lt; have hO1 := hOy.below hz2 hOy.lt; have hF1 := fr_step hFy hz2)
          | (refine wpList_store_at i64_info rfl (.tmp 31) _ rfl (w.heap.size + 1) 0 rfl rfl rfl (one_of _ rfl) hB1 (by rw [Hlb.out]; decide) ((splice_cell _ _ _ (by rw [Hlb.out]; decide)).trans (mc_set0 b 1)) ?_; intro W2 hB2 hk2; have hO2 := hk2.other hO1 (by omega); have hF2 := hk2.fr hF1 (by omega); clear hk2)
          | (refine wpList_store_at val_info rfl (.tmp 32) _ rfl (w.heap.size + 1) 11 rfl rfl (vc_len Hv.out) (vc_one v) hB2 (by rw [mc_len (by exact HlB.out)]; decide) (mc_spliceV (by exact HlB.out) Hv.out) ?_; intro W3 hB3 hk3; have hO3 := hk3.other hO2 (by omega); have hF3 := hk3.fr hF2 (by omega); clear hk3)
          | (refine wpList_store_at u64_info rfl (.tmp 33) _ rfl (w.heap.size + 1) 28 rfl rfl rfl (one_of _ rfl) hB3 (by rw [mc_len (by exact Hv.out)]; decide) ((splice_cell _ _ _ (by rw [mc_len (by exact Hv.out)]; decide)).trans (mc_set28 (by exact Hv.out) 0)) ?_; intro W4 hB4 hk4; have hO4 := hk4.other hO3 (by omega); have hF4 := hk4.fr hF3 (by omega); clear hk4)
          | (refine wpList_load_sty msgS rfl (.tmp 3) rfl (w.heap.size + 1) rfl HlR.out hB4 ?_)
          | (refine wpList_store_at (ds := mc { b with kind := 1, val := v, inc := 0 }) msg_info rfl (.tmp 4) (.tmp 40) rfl (w.heap.size + 1 + 1) 0 rfl rfl HlR.out (mc_one _) hO4 (by decide) (splice_all _ _ (by rw [HlR.out]; decide)) ?_; intro W5 hO5 hk5; have hF5 := hk5.fr hF4 (by omega); clear hk5)
          | fail)
        exact bodyPost_ret (msgS.result rfl _ (w.heap.size + 1 + 1) rfl HlR.out hO5) rfl ⟨rfl, hF5⟩
      · rw [ka] at a0
        rw [if_neg (by omega), if_neg (by omega)]
        have HlR := keep (mc_len (m := { b with inc := IntKind.u64.wrap (a.inc + b.inc) }) HlB.out)
        clear ka pa hk hk' h3 wa wb oa ob hib
        go_enter Try.func82, Try.ntmps82
        go_wp2_with (first
          | (refine wpList_store_at (ds := [.int .u64 (IntKind.u64.wrap (a.inc + b.inc))]) u64_info rfl (.tmp 39) _ rfl (w.heap.size + 1) 28 rfl (by rw [Int.add_comm a.inc]; rfl) rfl (one_of _ rfl) hB (by rw [mc_len HlB.out]; decide) ((splice_cell _ _ _ (by rw [mc_len HlB.out]; decide)).trans (mc_set28 HlB.out _)) ?_; intro W4 hB4 hk4; have hO4 := hk4.other hO (by omega); have hF4 := hk4.fr hF (by omega); clear hk4)
          | (refine wpList_load_sty msgS rfl (.tmp 3) rfl (w.heap.size + 1) rfl HlR.out hB4 ?_)
          | (refine wpList_store_at (ds := mc { b with inc := IntKind.u64.wrap (a.inc + b.inc) }) msg_info rfl (.tmp 4) (.tmp 40) rfl (w.heap.size + 1 + 1) 0 rfl rfl HlR.out (mc_one _) hO4 (by decide) (splice_all _ _ (by rw [HlR.out]; decide)) ?_; intro W5 hO5 hk5; have hF5 := hk5.fr hF4 (by omega); clear hk5)
          | fail)
        exact bodyPost_ret (msgS.result rfl _ (w.heap.size + 1 + 1) rfl HlR.out hO5) rfl ⟨rfl, hF5⟩
    · rw [if_pos (Or.inr hk)]
      have hk' : decide (a.key = b.key) = false := by simpa using hk
      rw [hk'] at hne
      simp only [Bool.not_false] at hne
      clear hk hk' h3 ka pa wa wb oa ob hib
      go_enter Try.func82, Try.ntmps82
      go_wp2_with (first
        | (refine wpList_store_at (ds := mc b) msg_info rfl (.tmp 4) (.tmp 15) rfl (w.heap.size + 1 + 1) 0 rfl rfl Hlb.out (mc_one b) hO (by decide) (splice_all _ _ (by rw [Hlb.out]; decide)) ?_; intro W2 hO2 hk2; have hF2 := hk2.fr hF (by omega); clear hk2)
        | fail)
      exact bodyPost_ret (msgS.result rfl _ (w.heap.size + 1 + 1) rfl Hlb.out hO2) rfl ⟨rfl, hF2⟩
  · rw [if_pos (Or.inl h3)]
    have h3' : (b.kind != 3) = true := by simpa using h3
    clear h3 ka pa wa wb oa ob hib
    go_enter Try.func82, Try.ntmps82
    go_wp2_with (first
      | (refine wpList_store_at (ds := mc b) msg_info rfl (.tmp 4) (.tmp 15) rfl (w.heap.size + 1 + 1) 0 rfl rfl Hlb.out (mc_one b) hO (by decide) (splice_all _ _ (by rw [Hlb.out]; decide)) ?_; intro W2 hO2 hk2; have hF2 := hk2.fr hF (by omega); clear hk2)
      | fail)
    exact bodyPost_ret (msgS.result rfl _ (w.heap.size + 1 + 1) rfl Hlb.out hO2) rfl ⟨rfl, hF2⟩
end Go.Proofs.Ytnfoebcfhldemaa
