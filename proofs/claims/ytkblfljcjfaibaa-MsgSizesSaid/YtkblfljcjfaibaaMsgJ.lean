/- MsgOver, walked. -/
import Derived.Test.YtkblfljcjfaibaaMsgI
namespace Go.Proofs.Ytkblfljcjfaibaa
open Go.RowKit
set_option linter.unusedVariables false
attribute [local go_sem ↓] val_ld key_ld msg_ld
theorem comp_kind3 {a b : RM} (h : b.kind = 3) (hk : a.key = b.key) (h1 : a.kind = 3) : (compM a b).kind = 3 := by rw [comp_33 h hk h1]; exact h
theorem comp_kind1 {a b : RM} (oa : okM a = true) (h : b.kind = 3) (hk : a.key = b.key) (h1 : a.kind ≠ 3) : (compM a b).kind = 1 := by
  rcases (okM_parts oa).1 with h2 | h2 | h2
  · rw [comp_31 h hk h2]
  · rw [comp_32 h hk h2]
  · exact absurd h2 h1
theorem comp_other {a b : RM} (hk : a.key ≠ b.key) : compM a b = b := by unfold compM; rw [if_pos (.inr hk)]
theorem key_nself {k : RK} (wk : k.wf) (W : World) : (binOp .neq 25 (.agg (kc k).toArray) (.agg (kc k).toArray)).run Try.prog W = .ok (.bool false) W := by
  have h := key_neq wk wk W
  rwa [decide_eq_true rfl] at h
theorem key_ndiff {a b : RK} (wa : a.wf) (wb : b.wf) (h : a ≠ b) (W : World) : (binOp .neq 25 (.agg (kc a).toArray) (.agg (kc b).toArray)).run Try.prog W = .ok (.bool true) W := by
  have h' := key_neq wa wb W
  rwa [decide_eq_false h] at h'
set_option maxRecDepth 100000 in
set_option maxHeartbeats 4000000 in
theorem msgOver_f (a0 a1 : Int) (h0 : Is64 a0) (h1 : Is64 a1) (w : World) : Calls Try.prog 6 #[.int .i64 a0, .int .i64 a1, .bool false] w fun e w' => e = .returned (.bool true) ∧ Below w.heap.size w w' := by
  have wx := lawM_wf a0 1
  have ox := lawM_ok a0 1
  have wy := lawM_wf a1 2
  have oy := lawM_ok a1 2
  have cX := fun W0 W h => law_msg_at (W0 := W0) (W := W) (v := a0) (s := 1) h0 (by unfold Is64; omega) h
  have cY := fun W0 W h => law_msg_at (W0 := W0) (W := W) (v := a1) (s := 2) h1 (by unfold Is64; omega) h
  generalize lawM a0 1 = x at *
  generalize lawM a1 2 = y at *
  have wY := withK_wf wy wx.key
  have oY := withK_ok oy (okM_key ox)
  have HS := keep (show splice (mc y) 2 (kc x.key) = mc (withK y x.key) from mc_spliceK y x.key)
  have hkY : x.key = (withK y x.key).key := rfl
  have Hy := keep (mc_len wy.val.hl)
  generalize hYd : withK y x.key = Y at *
  clear hYd
  have cC := fun W0 W h => mcompose_at (W0 := W0) (W := W) wx wY ox oY h
  have wm := comp_wf wx wY
  have sm : (compM x Y).seq = Y.seq := comp_seq
  have km : (compM x Y).key = Y.key := comp_key
  have qk := key_self wY.key
  have qY := msg_self wY
  have Hx := keep (mc_len wx.val.hl)
  have Hm := keep (mc_len wm.val.hl)
  have HxV := keep wx.val.hl
  have HYv := keep wY.val.hl
  have HmV := keep wm.val.hl
  have hww := fr_refl w
  by_cases k3 : Y.kind = 3
  · by_cases kk : x.key = Y.key
    · have qn := key_nself wY.key
      by_cases x3 : x.kind = 3
      · have mk := comp_kind3 k3 kk x3
        generalize compM x Y = m at *
        have K3 := keep k3
        have KK := keep kk
        have X3 := keep x3
        have MK := keep mk
        have SM := keep sm
        have KM := keep km
        clear wx ox wy oy wY oY wm h0 h1 k3 kk x3 mk sm km hkY
        go_enter Try.func6, Try.ntmps6
        go_wp2_with (first
          | (go_at_call 19; (with_reducible refine (cX w _ hww).mono ?_); rintro e w1 ⟨rfl, hz1⟩)
          | (go_at_call 19; (with_reducible refine (cY w _ hz1).mono ?_); rintro e w2 ⟨rfl, hz2⟩; have hs2 := hz2.size)
          | (refine wpList_store_at (ds := mc x) msg_info rfl (.tmp 7) (.tmp 12) rfl w2.heap.size 0 rfl rfl Hx.out (mc_one _) (Arr.alloc (Arr.new w2 (mc zeroM).toArray 30) _) (by decide) (splice_all _ _ (by rw [Hx.out]; decide)) ?_; intro Y1 hx hk1
             have hy0 := hk1.other (arr_at (w2.alloc _) (mc zeroM).toArray 30 (w2.heap.size + 1) (by simp)) (by omega)
             have hF1 := hk1.fr (fr_new (fr_new hz2 _) _) hs2
             clear hk1 cX cY)
          | (refine wpList_store_at (ds := mc y) msg_info rfl (.tmp 8) (.tmp 14) rfl (w2.heap.size + 1) 0 rfl rfl Hy.out (mc_one _) hy0 (by decide) (splice_all _ _ (by rw [Hy.out]; decide)) ?_; intro Y2 hy hk2
             replace hx := hk2.other hx (by omega)
             have hF2 := hk2.fr hF1 (by omega)
             clear hk2 hF1 hy0
             have hYY := fr_refl Y2
             have lxK := msg_keyAt hx)
          | (refine wpList_store_at (ds := kc x.key) key_info rfl (.tmp 19) (.tmp 18) rfl (w2.heap.size + 1) 2 rfl rfl (kc_len _) (kc_one _) hy (by rw [Hy.out]; decide) HS.out ?_; intro Y3 hyy hk3
             replace hx := hk3.other hx (by omega)
             have hF3 := hk3.fr hF2 (by omega)
             clear hk3 hF2 hy lxK hYY
             have lx := msg_all hx HxV.out
             have ly := msg_all hyy HYv.out
             have h00 := fr_refl Y3)
          | (go_at_call 17; (with_reducible refine (cC Y3 _ h00).mono ?_); rintro e w4 ⟨rfl, hz4⟩
             replace hx := hx.below hz4 hx.lt; replace hyy := hyy.below hz4 hyy.lt; have hF4 := fr_step hF3 hz4; clear hF3 hz4 lx ly h00)
          | (refine wpList_store_at (ds := mc m) msg_info rfl (.tmp 9) (.tmp 22) rfl w4.heap.size 0 rfl rfl Hm.out (mc_one _) (Arr.new w4 (mc zeroM).toArray 30) (by decide) (splice_all _ _ (by rw [Hm.out]; decide)) ?_; intro Z hm hk5
             replace hx := hk5.other (hx.alloc _) (by have := hx.lt; omega); replace hyy := hk5.other (hyy.alloc _) (by have := hyy.lt; omega); have hFZ := hk5.fr (fr_new hF4 _) hF4.size; clear hk5 hF4
             have lm := msg_all hm HmV.out
             have lmK := msg_keyAt hm
             have ly := msg_all hyy HYv.out
             have lyK := msg_keyAt hyy
             have lxK := msg_keyAt hx
             have x0 := cellZ hx 0 (mc_0 x)
             have y0 := cellZ hyy 0 (mc_0 Y)
             have y1 := cellZ hyy 1 (mc_1 Y)
             have m0 := cellZ hm 0 (mc_0 m)
             have m1 := cellZ hm 1 (mc_1 m)
             rw [SM.out] at m1
             rw [KM.out] at lmK
             rw [MK.out] at m0; rw [X3.out] at x0; rw [K3.out] at y0; rw [KK.out] at lxK
             have hZZ := fr_refl Z)
          | (go_at_call 14; refine (awake5_at (W0 := Z) (by assumption)).mono ?_; rintro e w9 ⟨rfl, hz9⟩)
          | fail)
        go_ret
        exact ⟨rfl, fr_step hFZ (by assumption)⟩
      · have mk := comp_kind1 ox k3 kk x3
        have x3' : (x.kind == 3) = false := by simpa using x3
        generalize compM x Y = m at *
        have K3 := keep k3
        have KK := keep kk
        have MK := keep mk
        have SM := keep sm
        have KM := keep km
        clear wx ox wy oy wY oY wm h0 h1 k3 kk x3 mk sm km hkY
        go_enter Try.func6, Try.ntmps6
        go_wp2_with (first
          | (go_at_call 19; (with_reducible refine (cX w _ hww).mono ?_); rintro e w1 ⟨rfl, hz1⟩)
          | (go_at_call 19; (with_reducible refine (cY w _ hz1).mono ?_); rintro e w2 ⟨rfl, hz2⟩; have hs2 := hz2.size)
          | (refine wpList_store_at (ds := mc x) msg_info rfl (.tmp 7) (.tmp 12) rfl w2.heap.size 0 rfl rfl Hx.out (mc_one _) (Arr.alloc (Arr.new w2 (mc zeroM).toArray 30) _) (by decide) (splice_all _ _ (by rw [Hx.out]; decide)) ?_; intro Y1 hx hk1
             have hy0 := hk1.other (arr_at (w2.alloc _) (mc zeroM).toArray 30 (w2.heap.size + 1) (by simp)) (by omega)
             have hF1 := hk1.fr (fr_new (fr_new hz2 _) _) hs2
             clear hk1 cX cY)
          | (refine wpList_store_at (ds := mc y) msg_info rfl (.tmp 8) (.tmp 14) rfl (w2.heap.size + 1) 0 rfl rfl Hy.out (mc_one _) hy0 (by decide) (splice_all _ _ (by rw [Hy.out]; decide)) ?_; intro Y2 hy hk2
             replace hx := hk2.other hx (by omega)
             have hF2 := hk2.fr hF1 (by omega)
             clear hk2 hF1 hy0
             have hYY := fr_refl Y2
             have lxK := msg_keyAt hx)
          | (refine wpList_store_at (ds := kc x.key) key_info rfl (.tmp 19) (.tmp 18) rfl (w2.heap.size + 1) 2 rfl rfl (kc_len _) (kc_one _) hy (by rw [Hy.out]; decide) HS.out ?_; intro Y3 hyy hk3
             replace hx := hk3.other hx (by omega)
             have hF3 := hk3.fr hF2 (by omega)
             clear hk3 hF2 hy lxK hYY
             have lx := msg_all hx HxV.out
             have ly := msg_all hyy HYv.out
             have h00 := fr_refl Y3)
          | (go_at_call 17; (with_reducible refine (cC Y3 _ h00).mono ?_); rintro e w4 ⟨rfl, hz4⟩
             replace hx := hx.below hz4 hx.lt; replace hyy := hyy.below hz4 hyy.lt; have hF4 := fr_step hF3 hz4; clear hF3 hz4 lx ly h00)
          | (refine wpList_store_at (ds := mc m) msg_info rfl (.tmp 9) (.tmp 22) rfl w4.heap.size 0 rfl rfl Hm.out (mc_one _) (Arr.new w4 (mc zeroM).toArray 30) (by decide) (splice_all _ _ (by rw [Hm.out]; decide)) ?_; intro Z hm hk5
             replace hx := hk5.other (hx.alloc _) (by have := hx.lt; omega); replace hyy := hk5.other (hyy.alloc _) (by have := hyy.lt; omega); have hFZ := hk5.fr (fr_new hF4 _) hF4.size; clear hk5 hF4
             have lm := msg_all hm HmV.out
             have lmK := msg_keyAt hm
             have ly := msg_all hyy HYv.out
             have lyK := msg_keyAt hyy
             have lxK := msg_keyAt hx
             have x0 := cellZ hx 0 (mc_0 x)
             have y0 := cellZ hyy 0 (mc_0 Y)
             have y1 := cellZ hyy 1 (mc_1 Y)
             have m0 := cellZ hm 0 (mc_0 m)
             have m1 := cellZ hm 1 (mc_1 m)
             rw [SM.out] at m1
             rw [KM.out] at lmK
             rw [MK.out] at m0; rw [K3.out] at y0; rw [KK.out] at lxK
             have hZZ := fr_refl Z)
          | (go_at_call 14; refine (awake5_at (W0 := Z) (by assumption)).mono ?_; rintro e w9 ⟨rfl, hz9⟩)
          | fail)
        go_ret
        exact ⟨rfl, fr_step hFZ (by assumption)⟩
    · exact absurd hkY kk
  · have em := comp_not3 (a := x) k3
    have k3' : (Y.kind != 3) = true := by simpa using k3
    rw [em] at cC Hm HmV
    clear wx ox wy oy wY oY wm h0 h1 em k3 sm km hkY
    go_enter Try.func6, Try.ntmps6
    go_wp2_with (first
      | (go_at_call 19; (with_reducible refine (cX w _ hww).mono ?_); rintro e w1 ⟨rfl, hz1⟩)
      | (go_at_call 19; (with_reducible refine (cY w _ hz1).mono ?_); rintro e w2 ⟨rfl, hz2⟩; have hs2 := hz2.size)
      | (refine wpList_store_at (ds := mc x) msg_info rfl (.tmp 7) (.tmp 12) rfl w2.heap.size 0 rfl rfl Hx.out (mc_one _) (Arr.alloc (Arr.new w2 (mc zeroM).toArray 30) _) (by decide) (splice_all _ _ (by rw [Hx.out]; decide)) ?_; intro Y1 hx hk1
         have hy0 := hk1.other (arr_at (w2.alloc _) (mc zeroM).toArray 30 (w2.heap.size + 1) (by simp)) (by omega)
         have hF1 := hk1.fr (fr_new (fr_new hz2 _) _) hs2
         clear hk1 cX cY)
      | (refine wpList_store_at (ds := mc y) msg_info rfl (.tmp 8) (.tmp 14) rfl (w2.heap.size + 1) 0 rfl rfl Hy.out (mc_one _) hy0 (by decide) (splice_all _ _ (by rw [Hy.out]; decide)) ?_; intro Y2 hy hk2
         replace hx := hk2.other hx (by omega)
         have hF2 := hk2.fr hF1 (by omega)
         clear hk2 hF1 hy0
         have hYY := fr_refl Y2
         have lxK := msg_keyAt hx)
      | (refine wpList_store_at (ds := kc x.key) key_info rfl (.tmp 19) (.tmp 18) rfl (w2.heap.size + 1) 2 rfl rfl (kc_len _) (kc_one _) hy (by rw [Hy.out]; decide) HS.out ?_; intro Y3 hyy hk3
         replace hx := hk3.other hx (by omega)
         have hF3 := hk3.fr hF2 (by omega)
         clear hk3 hF2 hy lxK hYY
         have lx := msg_all hx HxV.out
         have ly := msg_all hyy HYv.out
         have h00 := fr_refl Y3)
      | (go_at_call 17; (with_reducible refine (cC Y3 _ h00).mono ?_); rintro e w4 ⟨rfl, hz4⟩
         replace hx := hx.below hz4 hx.lt; replace hyy := hyy.below hz4 hyy.lt; have hF4 := fr_step hF3 hz4; clear hF3 hz4 lx ly h00)
      | (refine wpList_store_at (ds := mc Y) msg_info rfl (.tmp 9) (.tmp 22) rfl w4.heap.size 0 rfl rfl Hm.out (mc_one _) (Arr.new w4 (mc zeroM).toArray 30) (by decide) (splice_all _ _ (by rw [Hm.out]; decide)) ?_; intro Z hm hk5
         replace hx := hk5.other (hx.alloc _) (by have := hx.lt; omega); replace hyy := hk5.other (hyy.alloc _) (by have := hyy.lt; omega); have hFZ := hk5.fr (fr_new hF4 _) hF4.size; clear hk5 hF4
         have lm := msg_all hm HmV.out
         have lmK := msg_keyAt hm
         have ly := msg_all hyy HYv.out
         have lyK := msg_keyAt hyy
         have lxK := msg_keyAt hx
         have x0 := cellZ hx 0 (mc_0 x)
         have y0 := cellZ hyy 0 (mc_0 Y)
         have y1 := cellZ hyy 1 (mc_1 Y)
         have m0 := cellZ hm 0 (mc_0 Y)
         have m1 := cellZ hm 1 (mc_1 Y)
         skip
         skip
         skip
         have hZZ := fr_refl Z)
      | (go_at_call 14; refine (awake5_at (W0 := Z) (by assumption)).mono ?_; rintro e w9 ⟨rfl, hz9⟩)
      | fail)
    go_ret
    exact ⟨rfl, fr_step hFZ (by assumption)⟩
set_option maxRecDepth 100000 in
set_option maxHeartbeats 4000000 in
theorem msgOver_t (a0 a1 : Int) (h0 : Is64 a0) (h1 : Is64 a1) (w : World) : Calls Try.prog 6 #[.int .i64 a0, .int .i64 a1, .bool true] w fun e w' => e = .returned (.bool true) ∧ Below w.heap.size w w' := by
  have wx := lawM_wf a0 1
  have ox := lawM_ok a0 1
  have wy := lawM_wf a1 2
  have oy := lawM_ok a1 2
  have cX := fun W0 W h => law_msg_at (W0 := W0) (W := W) (v := a0) (s := 1) h0 (by unfold Is64; omega) h
  have cY := fun W0 W h => law_msg_at (W0 := W0) (W := W) (v := a1) (s := 2) h1 (by unfold Is64; omega) h
  generalize lawM a0 1 = x at *
  generalize lawM a1 2 = Y at *
  have wY := wy
  have oY := oy
  have Hy := keep (mc_len wy.val.hl)
  have cC := fun W0 W h => mcompose_at (W0 := W0) (W := W) wx wY ox oY h
  have wm := comp_wf wx wY
  have sm : (compM x Y).seq = Y.seq := comp_seq
  have km : (compM x Y).key = Y.key := comp_key
  have qk := key_self wY.key
  have qY := msg_self wY
  have Hx := keep (mc_len wx.val.hl)
  have Hm := keep (mc_len wm.val.hl)
  have HxV := keep wx.val.hl
  have HYv := keep wY.val.hl
  have HmV := keep wm.val.hl
  have hww := fr_refl w
  by_cases k3 : Y.kind = 3
  · by_cases kk : x.key = Y.key
    · have qn := key_nself wY.key
      by_cases x3 : x.kind = 3
      · have mk := comp_kind3 k3 kk x3
        generalize compM x Y = m at *
        have K3 := keep k3
        have KK := keep kk
        have X3 := keep x3
        have MK := keep mk
        have SM := keep sm
        have KM := keep km
        clear wx ox wy oy wY oY wm h0 h1 k3 kk x3 mk sm km
        go_enter Try.func6, Try.ntmps6
        go_wp2_with (first
          | (go_at_call 19; (with_reducible refine (cX w _ hww).mono ?_); rintro e w1 ⟨rfl, hz1⟩)
          | (go_at_call 19; (with_reducible refine (cY w _ hz1).mono ?_); rintro e w2 ⟨rfl, hz2⟩; have hs2 := hz2.size)
          | (refine wpList_store_at (ds := mc x) msg_info rfl (.tmp 7) (.tmp 12) rfl w2.heap.size 0 rfl rfl Hx.out (mc_one _) (Arr.alloc (Arr.new w2 (mc zeroM).toArray 30) _) (by decide) (splice_all _ _ (by rw [Hx.out]; decide)) ?_; intro Y1 hx hk1
             have hy0 := hk1.other (arr_at (w2.alloc _) (mc zeroM).toArray 30 (w2.heap.size + 1) (by simp)) (by omega)
             have hF1 := hk1.fr (fr_new (fr_new hz2 _) _) hs2
             clear hk1 cX cY)
          | (refine wpList_store_at (ds := mc Y) msg_info rfl (.tmp 8) (.tmp 14) rfl (w2.heap.size + 1) 0 rfl rfl Hy.out (mc_one _) hy0 (by decide) (splice_all _ _ (by rw [Hy.out]; decide)) ?_; intro Y2 hy hk2
             replace hx := hk2.other hx (by omega)
             have hF2 := hk2.fr hF1 (by omega)
             clear hk2 hF1 hy0
             have h00 := fr_refl Y2
             have lx := msg_all hx HxV.out
             have ly := msg_all hy HYv.out)
          | (go_at_call 17; (with_reducible refine (cC Y2 _ h00).mono ?_); rintro e w4 ⟨rfl, hz4⟩
             replace hx := hx.below hz4 hx.lt; replace hy := hy.below hz4 hy.lt; have hF4 := fr_step hF2 hz4; clear hF2 hz4 lx ly h00)
          | (refine wpList_store_at (ds := mc m) msg_info rfl (.tmp 9) (.tmp 22) rfl w4.heap.size 0 rfl rfl Hm.out (mc_one _) (Arr.new w4 (mc zeroM).toArray 30) (by decide) (splice_all _ _ (by rw [Hm.out]; decide)) ?_; intro Z hm hk5
             replace hx := hk5.other (hx.alloc _) (by have := hx.lt; omega); replace hy := hk5.other (hy.alloc _) (by have := hy.lt; omega); have hFZ := hk5.fr (fr_new hF4 _) hF4.size; clear hk5 hF4
             have lm := msg_all hm HmV.out
             have lmK := msg_keyAt hm
             have ly := msg_all hy HYv.out
             have lyK := msg_keyAt hy
             have lxK := msg_keyAt hx
             have x0 := cellZ hx 0 (mc_0 x)
             have y0 := cellZ hy 0 (mc_0 Y)
             have y1 := cellZ hy 1 (mc_1 Y)
             have m0 := cellZ hm 0 (mc_0 m)
             have m1 := cellZ hm 1 (mc_1 m)
             rw [SM.out] at m1
             rw [KM.out] at lmK
             rw [MK.out] at m0; rw [X3.out] at x0; rw [K3.out] at y0; rw [KK.out] at lxK
             have hZZ := fr_refl Z)
          | (go_at_call 14; refine (awake5_at (W0 := Z) (by assumption)).mono ?_; rintro e w9 ⟨rfl, hz9⟩)
          | fail)
        go_ret
        exact ⟨rfl, fr_step hFZ (by assumption)⟩
      · have mk := comp_kind1 ox k3 kk x3
        have x3' : (x.kind == 3) = false := by simpa using x3
        generalize compM x Y = m at *
        have K3 := keep k3
        have KK := keep kk
        have MK := keep mk
        have SM := keep sm
        have KM := keep km
        clear wx ox wy oy wY oY wm h0 h1 k3 kk x3 mk sm km
        go_enter Try.func6, Try.ntmps6
        go_wp2_with (first
          | (go_at_call 19; (with_reducible refine (cX w _ hww).mono ?_); rintro e w1 ⟨rfl, hz1⟩)
          | (go_at_call 19; (with_reducible refine (cY w _ hz1).mono ?_); rintro e w2 ⟨rfl, hz2⟩; have hs2 := hz2.size)
          | (refine wpList_store_at (ds := mc x) msg_info rfl (.tmp 7) (.tmp 12) rfl w2.heap.size 0 rfl rfl Hx.out (mc_one _) (Arr.alloc (Arr.new w2 (mc zeroM).toArray 30) _) (by decide) (splice_all _ _ (by rw [Hx.out]; decide)) ?_; intro Y1 hx hk1
             have hy0 := hk1.other (arr_at (w2.alloc _) (mc zeroM).toArray 30 (w2.heap.size + 1) (by simp)) (by omega)
             have hF1 := hk1.fr (fr_new (fr_new hz2 _) _) hs2
             clear hk1 cX cY)
          | (refine wpList_store_at (ds := mc Y) msg_info rfl (.tmp 8) (.tmp 14) rfl (w2.heap.size + 1) 0 rfl rfl Hy.out (mc_one _) hy0 (by decide) (splice_all _ _ (by rw [Hy.out]; decide)) ?_; intro Y2 hy hk2
             replace hx := hk2.other hx (by omega)
             have hF2 := hk2.fr hF1 (by omega)
             clear hk2 hF1 hy0
             have h00 := fr_refl Y2
             have lx := msg_all hx HxV.out
             have ly := msg_all hy HYv.out)
          | (go_at_call 17; (with_reducible refine (cC Y2 _ h00).mono ?_); rintro e w4 ⟨rfl, hz4⟩
             replace hx := hx.below hz4 hx.lt; replace hy := hy.below hz4 hy.lt; have hF4 := fr_step hF2 hz4; clear hF2 hz4 lx ly h00)
          | (refine wpList_store_at (ds := mc m) msg_info rfl (.tmp 9) (.tmp 22) rfl w4.heap.size 0 rfl rfl Hm.out (mc_one _) (Arr.new w4 (mc zeroM).toArray 30) (by decide) (splice_all _ _ (by rw [Hm.out]; decide)) ?_; intro Z hm hk5
             replace hx := hk5.other (hx.alloc _) (by have := hx.lt; omega); replace hy := hk5.other (hy.alloc _) (by have := hy.lt; omega); have hFZ := hk5.fr (fr_new hF4 _) hF4.size; clear hk5 hF4
             have lm := msg_all hm HmV.out
             have lmK := msg_keyAt hm
             have ly := msg_all hy HYv.out
             have lyK := msg_keyAt hy
             have lxK := msg_keyAt hx
             have x0 := cellZ hx 0 (mc_0 x)
             have y0 := cellZ hy 0 (mc_0 Y)
             have y1 := cellZ hy 1 (mc_1 Y)
             have m0 := cellZ hm 0 (mc_0 m)
             have m1 := cellZ hm 1 (mc_1 m)
             rw [SM.out] at m1
             rw [KM.out] at lmK
             rw [MK.out] at m0; rw [K3.out] at y0; rw [KK.out] at lxK
             have hZZ := fr_refl Z)
          | (go_at_call 14; refine (awake5_at (W0 := Z) (by assumption)).mono ?_; rintro e w9 ⟨rfl, hz9⟩)
          | fail)
        go_ret
        exact ⟨rfl, fr_step hFZ (by assumption)⟩
    · have qn := key_ndiff wx.key wY.key kk
      have em := comp_other (a := x) (b := Y) kk
      have K3 := keep k3
      rw [em] at cC Hm HmV
      clear wx ox wy oy wY oY wm h0 h1 kk em sm km k3
      go_enter Try.func6, Try.ntmps6
      go_wp2_with (first
        | (go_at_call 19; (with_reducible refine (cX w _ hww).mono ?_); rintro e w1 ⟨rfl, hz1⟩)
        | (go_at_call 19; (with_reducible refine (cY w _ hz1).mono ?_); rintro e w2 ⟨rfl, hz2⟩; have hs2 := hz2.size)
        | (refine wpList_store_at (ds := mc x) msg_info rfl (.tmp 7) (.tmp 12) rfl w2.heap.size 0 rfl rfl Hx.out (mc_one _) (Arr.alloc (Arr.new w2 (mc zeroM).toArray 30) _) (by decide) (splice_all _ _ (by rw [Hx.out]; decide)) ?_; intro Y1 hx hk1
           have hy0 := hk1.other (arr_at (w2.alloc _) (mc zeroM).toArray 30 (w2.heap.size + 1) (by simp)) (by omega)
           have hF1 := hk1.fr (fr_new (fr_new hz2 _) _) hs2
           clear hk1 cX cY)
        | (refine wpList_store_at (ds := mc Y) msg_info rfl (.tmp 8) (.tmp 14) rfl (w2.heap.size + 1) 0 rfl rfl Hy.out (mc_one _) hy0 (by decide) (splice_all _ _ (by rw [Hy.out]; decide)) ?_; intro Y2 hy hk2
           replace hx := hk2.other hx (by omega)
           have hF2 := hk2.fr hF1 (by omega)
           clear hk2 hF1 hy0
           have h00 := fr_refl Y2
           have lx := msg_all hx HxV.out
           have ly := msg_all hy HYv.out)
        | (go_at_call 17; (with_reducible refine (cC Y2 _ h00).mono ?_); rintro e w4 ⟨rfl, hz4⟩
           replace hx := hx.below hz4 hx.lt; replace hy := hy.below hz4 hy.lt; have hF4 := fr_step hF2 hz4; clear hF2 hz4 lx ly h00)
        | (refine wpList_store_at (ds := mc Y) msg_info rfl (.tmp 9) (.tmp 22) rfl w4.heap.size 0 rfl rfl Hm.out (mc_one _) (Arr.new w4 (mc zeroM).toArray 30) (by decide) (splice_all _ _ (by rw [Hm.out]; decide)) ?_; intro Z hm hk5
           replace hx := hk5.other (hx.alloc _) (by have := hx.lt; omega); replace hy := hk5.other (hy.alloc _) (by have := hy.lt; omega); have hFZ := hk5.fr (fr_new hF4 _) hF4.size; clear hk5 hF4
           have lm := msg_all hm HmV.out
           have lmK := msg_keyAt hm
           have ly := msg_all hy HYv.out
           have lyK := msg_keyAt hy
           have lxK := msg_keyAt hx
           have x0 := cellZ hx 0 (mc_0 x)
           have y0 := cellZ hy 0 (mc_0 Y)
           have y1 := cellZ hy 1 (mc_1 Y)
           have m0 := cellZ hm 0 (mc_0 Y)
           have m1 := cellZ hm 1 (mc_1 Y)
           skip
           skip
           rw [K3.out] at y0
           have hZZ := fr_refl Z)
        | (go_at_call 14; refine (awake5_at (W0 := Z) (by assumption)).mono ?_; rintro e w9 ⟨rfl, hz9⟩)
        | fail)
      go_ret
      exact ⟨rfl, fr_step hFZ (by assumption)⟩
  · have em := comp_not3 (a := x) k3
    have k3' : (Y.kind != 3) = true := by simpa using k3
    rw [em] at cC Hm HmV
    clear wx ox wy oy wY oY wm h0 h1 em k3 sm km
    go_enter Try.func6, Try.ntmps6
    go_wp2_with (first
      | (go_at_call 19; (with_reducible refine (cX w _ hww).mono ?_); rintro e w1 ⟨rfl, hz1⟩)
      | (go_at_call 19; (with_reducible refine (cY w _ hz1).mono ?_); rintro e w2 ⟨rfl, hz2⟩; have hs2 := hz2.size)
      | (refine wpList_store_at (ds := mc x) msg_info rfl (.tmp 7) (.tmp 12) rfl w2.heap.size 0 rfl rfl Hx.out (mc_one _) (Arr.alloc (Arr.new w2 (mc zeroM).toArray 30) _) (by decide) (splice_all _ _ (by rw [Hx.out]; decide)) ?_; intro Y1 hx hk1
         have hy0 := hk1.other (arr_at (w2.alloc _) (mc zeroM).toArray 30 (w2.heap.size + 1) (by simp)) (by omega)
         have hF1 := hk1.fr (fr_new (fr_new hz2 _) _) hs2
         clear hk1 cX cY)
      | (refine wpList_store_at (ds := mc Y) msg_info rfl (.tmp 8) (.tmp 14) rfl (w2.heap.size + 1) 0 rfl rfl Hy.out (mc_one _) hy0 (by decide) (splice_all _ _ (by rw [Hy.out]; decide)) ?_; intro Y2 hy hk2
         replace hx := hk2.other hx (by omega)
         have hF2 := hk2.fr hF1 (by omega)
         clear hk2 hF1 hy0
         have h00 := fr_refl Y2
         have lx := msg_all hx HxV.out
         have ly := msg_all hy HYv.out)
      | (go_at_call 17; (with_reducible refine (cC Y2 _ h00).mono ?_); rintro e w4 ⟨rfl, hz4⟩
         replace hx := hx.below hz4 hx.lt; replace hy := hy.below hz4 hy.lt; have hF4 := fr_step hF2 hz4; clear hF2 hz4 lx ly h00)
      | (refine wpList_store_at (ds := mc Y) msg_info rfl (.tmp 9) (.tmp 22) rfl w4.heap.size 0 rfl rfl Hm.out (mc_one _) (Arr.new w4 (mc zeroM).toArray 30) (by decide) (splice_all _ _ (by rw [Hm.out]; decide)) ?_; intro Z hm hk5
         replace hx := hk5.other (hx.alloc _) (by have := hx.lt; omega); replace hy := hk5.other (hy.alloc _) (by have := hy.lt; omega); have hFZ := hk5.fr (fr_new hF4 _) hF4.size; clear hk5 hF4
         have lm := msg_all hm HmV.out
         have lmK := msg_keyAt hm
         have ly := msg_all hy HYv.out
         have lyK := msg_keyAt hy
         have lxK := msg_keyAt hx
         have x0 := cellZ hx 0 (mc_0 x)
         have y0 := cellZ hy 0 (mc_0 Y)
         have y1 := cellZ hy 1 (mc_1 Y)
         have m0 := cellZ hm 0 (mc_0 Y)
         have m1 := cellZ hm 1 (mc_1 Y)
         skip
         skip
         skip
         have hZZ := fr_refl Z)
      | (go_at_call 14; refine (awake5_at (W0 := Z) (by assumption)).mono ?_; rintro e w9 ⟨rfl, hz9⟩)
      | fail)
    go_ret
    exact ⟨rfl, fr_step hFZ (by assumption)⟩
end Go.Proofs.Ytkblfljcjfaibaa
