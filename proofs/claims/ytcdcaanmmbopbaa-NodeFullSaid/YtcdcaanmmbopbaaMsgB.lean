/- What the functions of layer 5 come to, two: 'Bytes'. -/
import Derived.Test.YtcdcaanmmbopbaaMsg0
import Derived.Test.YtcdcaanmmbopbaaOwn
namespace Go.Proofs.Ytcdcaanmmbopbaa
set_option maxRecDepth 100000
open Go.RowKit
set_option linter.unusedVariables false
attribute [local go_sem ↓] val_ld key_ld msg_ld
theorem okM_parts {m : RM} (h : okM m = true) : (m.kind = 1 ∨ m.kind = 2 ∨ m.kind = 3) ∧ okB m.key = true ∧ (m.kind = 1 → m.inc = 0 ∧ okV m.val = true) ∧ (m.kind = 2 → m.inc = 0) ∧ (m.kind ≠ 1 → m.val = zeroV) := by
  unfold okM at h
  split at h
  · rename_i e
    simp only [Bool.and_eq_true, decide_eq_true_iff] at h
    exact ⟨.inl e, h.2.1, fun _ => ⟨h.1, h.2.2⟩, fun k => by omega, fun k => absurd e k⟩
  · split at h
    · rename_i e
      simp only [Bool.and_eq_true, decide_eq_true_iff] at h
      exact ⟨.inr (.inl e), h.2.1, fun k => by omega, fun _ => h.1, fun _ => h.2.2⟩
    · split at h
      · rename_i e
        simp only [Bool.and_eq_true, decide_eq_true_iff] at h
        exact ⟨.inr (.inr e), h.1, fun k => by omega, fun k => by omega, fun _ => h.2⟩
      · cases h
/-- The bytes of a message. -/
def bytM (m : RM) : Int := if okM m = true then (if m.kind = 1 then 11 + m.key.n + m.val.n else if m.kind = 3 then 18 + m.key.n else 10 + m.key.n) else 0
set_option maxRecDepth 100000 in
set_option maxHeartbeats 4000000 in
theorem msg_bytes (m : RM) (wm : m.wf) (w : World) : Calls Try.prog 64 #[mm m] w fun e w' => e = .returned (.int .i64 (bytM m)) ∧ Fr w w' := by
  have cC : ∀ Z W, Fr Z W → Calls Try.prog 72 #[mm m] W fun e w' => e = .returned (.bool (okM m)) ∧ Fr Z w' := fun Z W h => (msg_check m wm W).mono fun _ _ ⟨he, hw⟩ => ⟨he, fr_step h hw⟩
  obtain ⟨Z, hZ, hF, hZZ, hA, c0, -, -, lM, -, -⟩ := msg_boxed w m wm.val.hl
  have c2 := cellZ hA 2 (mc_2 m)
  have c11 := cellZ hA 11 (mc_11 m)
  unfold bytM
  cases ho : okM m
  · rw [ho] at cC
    clear ho hA
    rw [if_neg (by decide)]
    go_enter Try.func64, Try.ntmps64
    go_wp2_with (first
      | (go_at_call 72; refine (cC Z _ (by assumption)).mono ?_; rintro e w1 ⟨rfl, hz1⟩)
      | fail)
    go_ret
    exact ⟨rfl, fr_step hF (by assumption)⟩
  · obtain ⟨hk, hkey, hp⟩ := okM_parts ho
    obtain ⟨n, hn, en, -⟩ := okB_n hkey
    rw [ho] at cC
    rw [if_pos rfl, en]
    rw [en] at c2
    clear ho hA hkey
    rcases hk with hk | hk | hk
    · obtain ⟨l, hl, el, -⟩ := okV_n (hp.1 hk).2
      rw [hk] at c0
      rw [if_pos hk, el]
      rw [el] at c11
      clear hk hp en el
      go_enter Try.func64, Try.ntmps64
      go_wp2_with (first
        | (go_at_call 72; refine (cC Z _ (by assumption)).mono ?_; rintro e w1 ⟨rfl, hz1⟩)
        | fail)
      go_ret
      exact ⟨ret_int (by go_num), fr_step hF (by assumption)⟩
    · rw [hk] at c0
      rw [if_neg (by omega), if_neg (by omega)]
      clear hk hp en
      go_enter Try.func64, Try.ntmps64
      go_wp2_with (first
        | (go_at_call 72; refine (cC Z _ (by assumption)).mono ?_; rintro e w1 ⟨rfl, hz1⟩)
        | fail)
      go_ret
      exact ⟨ret_int (by go_num), fr_step hF (by assumption)⟩
    · rw [hk] at c0
      rw [if_neg (by omega), if_pos hk]
      clear hk hp en
      go_enter Try.func64, Try.ntmps64
      go_wp2_with (first
        | (go_at_call 72; refine (cC Z _ (by assumption)).mono ?_; rintro e w1 ⟨rfl, hz1⟩)
        | fail)
      go_ret
      exact ⟨ret_int (by go_num), fr_step hF (by assumption)⟩
set_option maxRecDepth 100000 in
set_option maxHeartbeats 4000000 in
theorem ref_mbytes (m : RM) (wm : m.wf) (w : World) : Calls Try.prog 56 #[mm m] w fun e w' => e = .returned (.int .i64 (bytM m)) ∧ Fr w w' := by
  have cC : ∀ Z W, Fr Z W → Calls Try.prog 76 #[mm m] W fun e w' => e = .returned (.bool (okM m)) ∧ Fr Z w' := fun Z W h => (ref_mcheck m wm W).mono fun _ _ ⟨he, hw⟩ => ⟨he, fr_step h hw⟩
  obtain ⟨Z, hZ, hF, hZZ, hA, c0, -, -, lM, -, -⟩ := msg_boxed w m wm.val.hl
  have c2 := cellZ hA 2 (mc_2 m)
  have c11 := cellZ hA 11 (mc_11 m)
  unfold bytM
  cases ho : okM m
  · rw [ho] at cC
    clear ho hA
    rw [if_neg (by decide)]
    go_enter Try.func56, Try.ntmps56
    go_wp2_with (first
      | (go_at_call 76; refine (cC Z _ (by assumption)).mono ?_; rintro e w1 ⟨rfl, hz1⟩)
      | fail)
    go_ret
    exact ⟨rfl, fr_step hF (by assumption)⟩
  · obtain ⟨hk, hkey, hp⟩ := okM_parts ho
    obtain ⟨n, hn, en, -⟩ := okB_n hkey
    rw [ho] at cC
    rw [if_pos rfl, en]
    rw [en] at c2
    clear ho hA hkey
    rcases hk with hk | hk | hk
    · obtain ⟨l, hl, el, -⟩ := okV_n (hp.1 hk).2
      rw [hk] at c0
      rw [if_pos hk, el]
      rw [el] at c11
      clear hk hp en el
      go_enter Try.func56, Try.ntmps56
      go_wp2_with (first
        | (go_at_call 76; refine (cC Z _ (by assumption)).mono ?_; rintro e w1 ⟨rfl, hz1⟩)
        | fail)
      go_ret
      exact ⟨ret_int (by go_num), fr_step hF (by assumption)⟩
    · rw [hk] at c0
      rw [if_neg (by omega), if_neg (by omega)]
      clear hk hp en
      go_enter Try.func56, Try.ntmps56
      go_wp2_with (first
        | (go_at_call 76; refine (cC Z _ (by assumption)).mono ?_; rintro e w1 ⟨rfl, hz1⟩)
        | fail)
      go_ret
      exact ⟨ret_int (by go_num), fr_step hF (by assumption)⟩
    · rw [hk] at c0
      rw [if_neg (by omega), if_pos hk]
      clear hk hp en
      go_enter Try.func56, Try.ntmps56
      go_wp2_with (first
        | (go_at_call 76; refine (cC Z _ (by assumption)).mono ?_; rintro e w1 ⟨rfl, hz1⟩)
        | fail)
      go_ret
      exact ⟨ret_int (by go_num), fr_step hF (by assumption)⟩
end Go.Proofs.Ytcdcaanmmbopbaa
/- What the functions of layer 5 come to, three: 'Compose' of the program. -/
namespace Go.Proofs.Ytcdcaanmmbopbaa
set_option maxRecDepth 100000
open Go.RowKit
set_option linter.unusedVariables false
attribute [local go_sem ↓] val_ld key_ld msg_ld
/-- The message that does what a and then b do. -/
def compM (a b : RM) : RM :=
  if b.kind ≠ 3 ∨ a.key ≠ b.key then b
  else if a.kind = 1 then { b with kind := 1, val := plusV a.val b.inc, inc := 0 }
  else if a.kind = 2 then { b with kind := 1, val := fromV b.inc, inc := 0 }
  else { b with inc := IntKind.u64.wrap (a.inc + b.inc) }
theorem zeroM_cells : (mc zeroM).toArray = #[.int .i64 0, .int .u64 0, .int .i64 0, .int .u8 0, .int .u8 0, .int .u8 0, .int .u8 0, .int .u8 0, .int .u8 0, .int .u8 0, .int .u8 0, .int .i64 0, .int .u8 0, .int .u8 0, .int .u8 0, .int .u8 0, .int .u8 0, .int .u8 0, .int .u8 0, .int .u8 0, .int .u8 0, .int .u8 0, .int .u8 0, .int .u8 0, .int .u8 0, .int .u8 0, .int .u8 0, .int .u8 0, .int .u64 0] := rfl
theorem i64_info : (Try.prog.info? 3).map (·.size) = some 1 := by kernel_rfl
theorem u64_info : (Try.prog.info? 46).map (·.size) = some 1 := by kernel_rfl
theorem zero_plus {n : Int} (h : Us64 n) : plusV (fromV 0) n = fromV n := by
  rw [plus_from (by omega) (by omega), Int.zero_add, u64_of]
  unfold Us64 at h
  rw [show n % 18446744073709551616 = n by omega]
/-- Two messages that were boxed, and a third block. -/
theorem msg_boxed2 (w : World) (a b : RM) (ha : a.val.bs.length = 16) (hb : b.val.bs.length = 16) : ∃ Z, ((w.alloc (.cells (mc a).toArray 48)).alloc (.cells (mc b).toArray 48)).alloc (.cells #[.int .i64 0, .int .u64 0, .int .i64 0, .int .u8 0, .int .u8 0, .int .u8 0, .int .u8 0, .int .u8 0, .int .u8 0, .int .u8 0, .int .u8 0, .int .i64 0, .int .u8 0, .int .u8 0, .int .u8 0, .int .u8 0, .int .u8 0, .int .u8 0, .int .u8 0, .int .u8 0, .int .u8 0, .int .u8 0, .int .u8 0, .int .u8 0, .int .u8 0, .int .u8 0, .int .u8 0, .int .u8 0, .int .u64 0] 48) = Z ∧ Fr w Z ∧ Fr Z Z ∧
    Arr Z w.heap.size 48 (mc a).toArray ∧ Arr Z (w.heap.size + 1) 48 (mc b).toArray ∧ Arr Z (w.heap.size + 1 + 1) 48 (mc zeroM).toArray ∧ Z.heap.size = w.heap.size + 1 + 1 + 1 := by
  refine ⟨_, rfl, fr_new (fr_new (fr_new (fr_refl w) _) _) _, fr_refl _, Arr.alloc (Arr.alloc (Arr.new w _ _) _) _, Arr.alloc (arr_at _ _ _ _ (by simp)) _, arr_at _ _ _ _ (by simp), by simp⟩
end Go.Proofs.Ytcdcaanmmbopbaa
/- What the functions of layer 5 come to, four: 'Compose' of the document, 'Apply' of both. -/
namespace Go.Proofs.Ytcdcaanmmbopbaa
set_option maxRecDepth 100000
open Go.RowKit
set_option linter.unusedVariables false
attribute [local go_sem ↓] val_ld key_ld msg_ld
theorem rfrom_at' {W0 W : World} {n : Int} (hn : Us64 n) (hb : Fr W0 W) : Calls Try.prog 77 #[.int .u64 n] W fun e w' => e = .returned (vv (fromV n)) ∧ Fr W0 w' := rfrom_at hn.1 hn.2 hb
set_option maxRecDepth 100000 in
set_option maxHeartbeats 4000000 in
theorem ref_compose (a b : RM) (wa : a.wf) (wb : b.wf) (oa : okM a = true) (ob : okM b = true) (w : World) : Calls Try.prog 80 #[mm a, mm b] w fun e w' => e = .returned (mm (compM a b)) ∧ Fr w w' := by
  obtain ⟨Z, hZ, hF, hZZ, hA, hB, hO, hS⟩ := msg_boxed2 w a b wa.val.hl wb.val.hl
  have a0 := cellZ hA 0 (mc_0 a)
  have a28 := cellZ hA 28 (mc_28 wa.val.hl)
  have b0 := cellZ hB 0 (mc_0 b)
  have b1 := cellZ hB 1 (mc_1 b)
  have b28 := cellZ hB 28 (mc_28 wb.val.hl)
  have laK := msg_keyAt hA
  have lbK := msg_keyAt hB
  have laV := msg_valAt hA wa.val.hl
  have lbM := msg_all hB wb.val.hl
  have hne := key_neq wa.key wb.key
  obtain ⟨ka, -, pa, -, -⟩ := okM_parts oa
  have hib := wb.hi
  have Hlb := keep (mc_len wb.val.hl)
  have HlB := keep wb.val.hl
  have HlA := keep wa.val.hl
  unfold compM
  obtain ⟨-, -, -, -, pb⟩ := okM_parts ob
  have HlD := keep (mc_len (m := ⟨1, b.seq, b.key, zeroV, 0⟩) rfl)
  have HlE := keep (mc_len (m := ⟨3, b.seq, b.key, zeroV, 0⟩) rfl)
  by_cases h3 : b.kind = 3
  · rw [h3] at b0
    by_cases hk : a.key = b.key
    · rw [if_neg (by simp [h3, hk])]
      have hk' : decide (a.key = b.key) = true := by simpa using hk
      rw [hk'] at hne
      simp only [Bool.not_true] at hne
      rcases ka with ka | ka | ka
      · rw [ka] at a0
        rw [if_pos ka]
        have cP := fun W0 W h => rplus_at (W0 := W0) (W := W) wa.val b.inc h
        have wv := (fromV_wf (IntKind.u64.wrap (numV a.val + b.inc)))
        have ev : plusV a.val b.inc = fromV (IntKind.u64.wrap (numV a.val + b.inc)) := rfl
        rw [← ev] at wv
        have Hv := keep wv.hl
        generalize plusV a.val b.inc = v at *
        clear ka pa hk hk' h3 ev wv wa wb oa ob hib pb
        have HlR := keep (mc_len (m := ⟨1, b.seq, b.key, v, 0⟩) Hv.out)
        go_enter Try.func80, Try.ntmps80
        go_wp2_with (first
          | (refine wpList_store_at (ds := mc ⟨1, b.seq, b.key, zeroV, 0⟩) msg_info rfl (.tmp 5) (.tmp 21) rfl (w.heap.size + 1 + 1 + 1) 0 rfl rfl HlD.out (mc_one _) (arr_at Z (mc zeroM).toArray 48 _ hS) (by decide) (splice_all _ _ (by rw [HlD.out]; decide)) ?_; intro Y hD hky
             have hOy := hky.other (hO.alloc _) (by omega)
             have hzY := hky.fr (fr_new hZZ _) (by omega)
             have hYY := fr_refl Y
             clear hky)
          | (go_at_call 78; refine (cP Y _ (by assumption)).mono ?_; rintro e w1 ⟨rfl, hz1⟩; have hD1 := hD.below hz1 hD.lt; have hO1 := hOy.below hz1 hOy.lt; have hF1 := fr_step (fr_step hF hzY) hz1)
          | (refine wpList_store_at val_info rfl (.tmp 38) _ rfl (w.heap.size + 1 + 1 + 1) 11 rfl rfl (vc_len Hv.out) (vc_one v) hD1 (by rw [HlD.out]; decide) (mc_spliceV (m := ⟨1, b.seq, b.key, zeroV, 0⟩) rfl Hv.out) ?_; intro W3 hB3 hk3; have hO3 := hk3.other hO1 (by omega); have hF3 := hk3.fr hF1 (by omega); clear hk3)
          | (refine wpList_load_sty msgS rfl (.tmp 5) rfl (w.heap.size + 1 + 1 + 1) rfl HlR.out hB3 ?_)
          | (refine wpList_store_at (ds := mc ⟨1, b.seq, b.key, v, 0⟩) msg_info rfl (.tmp 4) (.tmp 45) rfl (w.heap.size + 1 + 1) 0 rfl rfl HlR.out (mc_one _) hO3 (by decide) (splice_all _ _ (by rw [HlR.out]; decide)) ?_; intro W5 hO5 hk5; have hF5 := hk5.fr hF3 (by omega); clear hk5)
          | fail)
        exact bodyPost_ret (msgS.result rfl _ (w.heap.size + 1 + 1) rfl HlR.out hO5) rfl ⟨rfl, hF5⟩
      · rw [ka] at a0
        rw [if_neg (by omega), if_pos ka]
        have cP := fun W0 W h => rfrom_at' (W0 := W0) (W := W) hib h
        have Hv := keep (fromV_wf b.inc).hl
        generalize fromV b.inc = v at *
        clear ka pa hk hk' h3 wa wb oa ob hib pb
        have HlR := keep (mc_len (m := ⟨1, b.seq, b.key, v, 0⟩) Hv.out)
        go_enter Try.func80, Try.ntmps80
        go_wp2_with (first
          | (refine wpList_store_at (ds := mc ⟨1, b.seq, b.key, zeroV, 0⟩) msg_info rfl (.tmp 5) (.tmp 21) rfl (w.heap.size + 1 + 1 + 1) 0 rfl rfl HlD.out (mc_one _) (arr_at Z (mc zeroM).toArray 48 _ hS) (by decide) (splice_all _ _ (by rw [HlD.out]; decide)) ?_; intro Y hD hky
             have hOy := hky.other (hO.alloc _) (by omega)
             have hzY := hky.fr (fr_new hZZ _) (by omega)
             have hYY := fr_refl Y
             clear hky)
          | (go_at_call 77; refine (cP Y _ (by assumption)).mono ?_; rintro e w1 ⟨rfl, hz1⟩; have hD1 := hD.below hz1 hD.lt; have hO1 := hOy.below hz1 hOy.lt; have hF1 := fr_step (fr_step hF hzY) hz1)
          | (refine wpList_store_at val_info rfl (.tmp 44) _ rfl (w.heap.size + 1 + 1 + 1) 11 rfl rfl (vc_len Hv.out) (vc_one v) hD1 (by rw [HlD.out]; decide) (mc_spliceV (m := ⟨1, b.seq, b.key, zeroV, 0⟩) rfl Hv.out) ?_; intro W3 hB3 hk3; have hO3 := hk3.other hO1 (by omega); have hF3 := hk3.fr hF1 (by omega); clear hk3)
          | (refine wpList_load_sty msgS rfl (.tmp 5) rfl (w.heap.size + 1 + 1 + 1) rfl HlR.out hB3 ?_)
          | (refine wpList_store_at (ds := mc ⟨1, b.seq, b.key, v, 0⟩) msg_info rfl (.tmp 4) (.tmp 45) rfl (w.heap.size + 1 + 1) 0 rfl rfl HlR.out (mc_one _) hO3 (by decide) (splice_all _ _ (by rw [HlR.out]; decide)) ?_; intro W5 hO5 hk5; have hF5 := hk5.fr hF3 (by omega); clear hk5)
          | fail)
        exact bodyPost_ret (msgS.result rfl _ (w.heap.size + 1 + 1) rfl HlR.out hO5) rfl ⟨rfl, hF5⟩
      · rw [ka] at a0
        rw [if_neg (by omega), if_neg (by omega)]
        have eR : { b with inc := IntKind.u64.wrap (a.inc + b.inc) } = (⟨3, b.seq, b.key, zeroV, IntKind.u64.wrap (a.inc + b.inc)⟩ : RM) := by rw [h3, pb (by omega)]
        rw [eR]
        have HlR := keep (mc_len (m := ⟨3, b.seq, b.key, zeroV, IntKind.u64.wrap (a.inc + b.inc)⟩) rfl)
        have y28 := fun (Y : World) (g : Nat) (h : Arr Y g 48 (mc ⟨1, b.seq, b.key, zeroV, 0⟩).toArray) => h
        clear ka pa hk hk' h3 wa wb oa ob hib pb eR
        go_enter Try.func80, Try.ntmps80
        go_wp2_with (first
          | (refine wpList_store_at (ds := mc ⟨1, b.seq, b.key, zeroV, 0⟩) msg_info rfl (.tmp 5) (.tmp 21) rfl (w.heap.size + 1 + 1 + 1) 0 rfl rfl HlD.out (mc_one _) (arr_at Z (mc zeroM).toArray 48 _ hS) (by decide) (splice_all _ _ (by rw [HlD.out]; decide)) ?_; intro Y hD hky
             have hOy := hky.other (hO.alloc _) (by omega)
             have hzY := hky.fr (fr_new hZZ _) (by omega)
             have hYY := fr_refl Y
             clear hky)
          | (refine wpList_store_at i64_info rfl (.tmp 24) _ rfl (w.heap.size + 1 + 1 + 1) 0 rfl rfl rfl (one_of _ rfl) hD (by rw [HlD.out]; decide) ((splice_cell _ _ _ (by rw [HlD.out]; decide)).trans (mc_set0 ⟨1, b.seq, b.key, zeroV, 0⟩ 3)) ?_; intro W3 hD3 hk3
             have hO3 := hk3.other hOy (by omega)
             have hA3 := hk3.other (hA.below hzY hA.lt) (by omega)
             have hB3 := hk3.other (hB.below hzY hB.lt) (by omega)
             have hF3 := hk3.fr (fr_step hF hzY) (by omega)
             have hW3 := fr_refl W3
             have c28 := cellZ hA3 28 (mc_28 HlA.out)
             have d28 := cellZ hB3 28 (mc_28 HlB.out)
             clear hk3)
          | (refine wpList_store_at u64_info rfl (.tmp 30) _ rfl (w.heap.size + 1 + 1 + 1) 28 rfl rfl rfl (one_of _ rfl) hD3 (by rw [HlE.out]; decide) ((splice_cell _ _ _ (by rw [HlE.out]; decide)).trans (mc_set28 (m := ⟨3, b.seq, b.key, zeroV, 0⟩) rfl _)) ?_; intro W4 hB4 hk4; have hO4 := hk4.other hO3 (by omega); have hF4 := hk4.fr hF3 (by omega); clear hk4)
          | (refine wpList_load_sty msgS rfl (.tmp 5) rfl (w.heap.size + 1 + 1 + 1) rfl HlR.out hB4 ?_)
          | (refine wpList_store_at (ds := mc ⟨3, b.seq, b.key, zeroV, IntKind.u64.wrap (a.inc + b.inc)⟩) msg_info rfl (.tmp 4) (.tmp 45) rfl (w.heap.size + 1 + 1) 0 rfl rfl HlR.out (mc_one _) hO4 (by decide) (splice_all _ _ (by rw [HlR.out]; decide)) ?_; intro W5 hO5 hk5; have hF5 := hk5.fr hF4 (by omega); clear hk5)
          | fail)
        exact bodyPost_ret (msgS.result rfl _ (w.heap.size + 1 + 1) rfl HlR.out hO5) rfl ⟨rfl, hF5⟩
    · rw [if_pos (Or.inr hk)]
      have hk' : decide (a.key = b.key) = false := by simpa using hk
      rw [hk'] at hne
      simp only [Bool.not_false] at hne
      clear hk hk' h3 ka pa wa wb oa ob hib pb
      go_enter Try.func80, Try.ntmps80
      go_wp2_with (first
        | (refine wpList_store_at (ds := mc b) msg_info rfl (.tmp 4) (.tmp 16) rfl (w.heap.size + 1 + 1) 0 rfl rfl Hlb.out (mc_one b) hO (by decide) (splice_all _ _ (by rw [Hlb.out]; decide)) ?_; intro W2 hO2 hk2; have hF2 := hk2.fr hF (by omega); clear hk2)
        | fail)
      exact bodyPost_ret (msgS.result rfl _ (w.heap.size + 1 + 1) rfl Hlb.out hO2) rfl ⟨rfl, hF2⟩
  · rw [if_pos (Or.inl h3)]
    have h3' : (b.kind != 3) = true := by simpa using h3
    clear h3 ka pa wa wb oa ob hib pb
    go_enter Try.func80, Try.ntmps80
    go_wp2_with (first
      | (refine wpList_store_at (ds := mc b) msg_info rfl (.tmp 4) (.tmp 16) rfl (w.heap.size + 1 + 1) 0 rfl rfl Hlb.out (mc_one b) hO (by decide) (splice_all _ _ (by rw [Hlb.out]; decide)) ?_; intro W2 hO2 hk2; have hF2 := hk2.fr hF (by omega); clear hk2)
      | fail)
    exact bodyPost_ret (msgS.result rfl _ (w.heap.size + 1 + 1) rfl Hlb.out hO2) rfl ⟨rfl, hF2⟩
end Go.Proofs.Ytcdcaanmmbopbaa
/- What the functions of layer 5 come to, five: 'Apply' of both. -/
namespace Go.Proofs.Ytcdcaanmmbopbaa
set_option maxRecDepth 100000
open Go.RowKit
set_option linter.unusedVariables false
attribute [local go_sem ↓] val_ld key_ld msg_ld
/-- What a message makes of a value, or of none. -/
def appV (v : RV) (there : Bool) (m : RM) : RV := if m.kind = 1 then m.val else if m.kind = 2 then zeroV else if there = true then plusV v m.inc else fromV m.inc
def appB (m : RM) : Bool := decide (m.kind ≠ 2)
/-- A value and a message that were boxed, and a third block. -/
theorem app_boxed (w : World) (v : RV) (m : RM) (hm : m.val.bs.length = 16) : ∃ Z, ((w.alloc (.cells (vc v).toArray 43)).alloc (.cells (mc m).toArray 48)).alloc (.cells #[.int .i64 0, .int .u8 0, .int .u8 0, .int .u8 0, .int .u8 0, .int .u8 0, .int .u8 0, .int .u8 0, .int .u8 0, .int .u8 0, .int .u8 0, .int .u8 0, .int .u8 0, .int .u8 0, .int .u8 0, .int .u8 0, .int .u8 0] 43) = Z ∧ Fr w Z ∧ Fr Z Z ∧
    Arr Z w.heap.size 43 (vc v).toArray ∧ Arr Z (w.heap.size + 1) 48 (mc m).toArray ∧ Arr Z (w.heap.size + 1 + 1) 43 (vc zeroV).toArray ∧ Z.heap.size = w.heap.size + 1 + 1 + 1 := by
  refine ⟨_, rfl, fr_new (fr_new (fr_new (fr_refl w) _) _) _, fr_refl _, Arr.alloc (Arr.alloc (Arr.new w _ _) _) _, Arr.alloc (arr_at _ _ _ _ (by simp)) _, arr_at _ _ _ _ (by simp), by simp⟩
set_option maxRecDepth 100000 in
set_option maxHeartbeats 4000000 in
theorem ref_apply (v : RV) (there : Bool) (m : RM) (wv : v.wf) (ov : there = true → okV v = true) (wm : m.wf) (om : okM m = true) (w : World) : Calls Try.prog 59 #[vv v, .bool there, mm m] w fun e w' => e = .returned (.tuple #[vv (appV v there m), .bool (appB m)]) ∧ Fr w w' := by
  obtain ⟨Z, hZ, hF, hZZ, hV, hM, hO, hS⟩ := app_boxed w v m wm.val.hl
  have m0 := cellZ hM 0 (mc_0 m)
  have m28 := cellZ hM 28 (mc_28 wm.val.hl)
  have lmV := msg_valAt hM wm.val.hl
  have lv := ld_fr hV (vc_len wv.hl)
  have him := wm.hi
  have HlM := keep wm.val.hl
  have HlV := keep wv.hl
  obtain ⟨km, -, -, -, -⟩ := okM_parts om
  unfold appV appB
  rcases km with km | km | km
  · rw [if_pos km, show decide (m.kind ≠ 2) = true by simp; omega]
    rw [km] at m0
    clear km wm om wv ov him
    go_enter Try.func59, Try.ntmps59
    go_wp2_with (first
      | (refine wpList_store_at (ds := vc m.val) val_info rfl (.tmp 6) (.tmp 13) rfl (w.heap.size + 1 + 1) 0 rfl rfl (vc_len HlM.out) (vc_one _) hO (by decide) (splice_all _ _ (by rw [vc_len HlM.out]; decide)) ?_; intro W5 hO5 hk5; have hF5 := hk5.fr hF (by omega); clear hk5)
      | fail)
    exact bodyPost_ret (valS.result2 rfl _ (w.heap.size + 1 + 1) rfl (vc_len HlM.out) hO5) rfl ⟨rfl, hF5⟩
  · rw [if_neg (by omega), if_pos km, show decide (m.kind ≠ 2) = false by simp; omega]
    rw [km] at m0
    clear km wm om wv ov him
    go_enter Try.func59, Try.ntmps59
    go_wp2_with (first
      | (refine wpList_store_at (ds := vc zeroV) val_info rfl (.tmp 6) (.tmp 16) rfl (w.heap.size + 1 + 1) 0 rfl rfl rfl (vc_one _) hO (by decide) (splice_all _ _ (by decide)) ?_; intro W5 hO5 hk5; have hF5 := hk5.fr hF (by omega); clear hk5)
      | fail)
    exact bodyPost_ret (valS.result2 rfl _ (w.heap.size + 1 + 1) rfl rfl hO5) rfl ⟨rfl, hF5⟩
  · rw [if_neg (by omega), if_neg (by omega), show decide (m.kind ≠ 2) = true by simp; omega]
    rw [km] at m0
    cases there
    · rw [if_neg (by decide)]
      have cP := fun W0 W h => rfrom_at' (W0 := W0) (W := W) him h
      have Hr := keep (fromV_wf m.inc).hl
      generalize fromV m.inc = r at *
      clear km wm om wv ov him
      go_enter Try.func59, Try.ntmps59
      go_wp2_with (first
        | (go_at_call 77; refine (cP Z _ (by assumption)).mono ?_; rintro e w2 ⟨rfl, hz2⟩; have hO2 := hO.below hz2 hO.lt; have hF2 := fr_step hF hz2; clear hV hM hO hF m28 lv cP)
        | (refine wpList_store_at (ds := vc r) val_info rfl (.tmp 6) (.tmp 21) rfl (w.heap.size + 1 + 1) 0 rfl rfl (vc_len Hr.out) (vc_one _) hO2 (by decide) (splice_all _ _ (by rw [vc_len Hr.out]; decide)) ?_; intro W5 hO5 hk5; have hF5 := hk5.fr hF2 (by omega); clear hk5)
        | fail)
      exact bodyPost_ret (valS.result2 rfl _ (w.heap.size + 1 + 1) rfl (vc_len Hr.out) hO5) rfl ⟨rfl, hF5⟩
    · rw [if_pos rfl]
      have cP := fun W0 W h => rplus_at (W0 := W0) (W := W) wv m.inc h
      have Hr := keep (show (plusV v m.inc).bs.length = 16 from (fromV_wf _).hl)
      generalize plusV v m.inc = r at *
      clear km wm om wv ov him
      go_enter Try.func59, Try.ntmps59
      go_wp2_with (first
        | (go_at_call 78; refine (cP Z _ (by assumption)).mono ?_; rintro e w2 ⟨rfl, hz2⟩; have hO2 := hO.below hz2 hO.lt; have hF2 := fr_step hF hz2; clear hV hM hO hF m28 lv cP)
        | (refine wpList_store_at (ds := vc r) val_info rfl (.tmp 6) (.tmp 25) rfl (w.heap.size + 1 + 1) 0 rfl rfl (vc_len Hr.out) (vc_one _) hO2 (by decide) (splice_all _ _ (by rw [vc_len Hr.out]; decide)) ?_; intro W5 hO5 hk5; have hF5 := hk5.fr hF2 (by omega); clear hk5)
        | fail)
      exact bodyPost_ret (valS.result2 rfl _ (w.heap.size + 1 + 1) rfl (vc_len Hr.out) hO5) rfl ⟨rfl, hF5⟩
end Go.Proofs.Ytcdcaanmmbopbaa
