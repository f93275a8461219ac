/- MsgTwice, walked. -/
import Derived.Test.YtkblfljcjfaibaaMsgG
import Derived.Deep.Cut
import Derived.Deep.CutRange
import Derived.Deep.RegionHeld3
namespace Go.Proofs.Ytkblfljcjfaibaa
open Go.RowKit
set_option linter.unusedVariables false
attribute [local go_sem ↓] val_ld key_ld msg_ld
theorem val_st (p v : Value) : Instr.storeAt 28 p v = stS 28 p v := rfl
theorem appV_wf {v : RV} {t : Bool} {m : RM} (wv : v.wf) (wm : m.wf) : (appV v t m).wf := by
  unfold appV
  split
  · exact wm.val
  · split
    · exact zeroV_wf
    · split
      · exact fromV_wf _
      · exact fromV_wf _
theorem appV_ok {v : RV} {t : Bool} {m : RM} (om : okM m = true) : okV (appV v t m) = true := by
  obtain ⟨_, _, h1, _, _⟩ := okM_parts om
  unfold appV
  split
  · rename_i h
    exact (h1 h).2
  · split
    · decide
    · split
      · exact fromV_ok _
      · exact fromV_ok _
theorem bool_self (b : Bool) : (b == b) = true := by simp
section
attribute [local go_sem ↓] val_st
set_option maxRecDepth 100000 in
set_option maxHeartbeats 4000000 in
theorem msgTwice_core (a0 a1 a2 a3 : Int) (h0 : Is64 a0) (h1 : Is64 a1) (h2 : Is64 a2) (h3 : Is64 a3) (w : World) : Calls Try.prog 4 #[.int .i64 a0, .int .i64 a1, .int .i64 a2, .int .i64 a3] w fun e w' => e = .returned (.bool true) ∧ Below w.heap.size w w' := by
  have wx := lawM_wf a2 1
  have ox := lawM_ok a2 1
  have wy := lawM_wf a3 2
  have oy := lawM_ok a3 2
  have cX := fun W0 W h => law_msg_at (W0 := W0) (W := W) (v := a2) (s := 1) h2 (by unfold Is64; omega) h
  have cY := fun W0 W h => law_msg_at (W0 := W0) (W := W) (v := a3) (s := 2) h3 (by unfold Is64; omega) h
  have wv := lawV_wf a0
  have ov := lawV_ok a0
  have cV := fun W0 W h => law_value_at (W0 := W0) (W := W) h0 h
  generalize lawM a2 1 = x at *
  generalize lawM a3 2 = y at *
  generalize lawV a0 = v at *
  have wY := withK_wf wy wx.key
  have oY := withK_ok oy (okM_key ox)
  have HS := keep (show splice (mc y) 2 (kc x.key) = mc (withK y x.key) from mc_spliceK y x.key)
  have hkY : x.key = (withK y x.key).key := rfl
  have Hy := keep (mc_len wy.val.hl)
  generalize hYd : withK y x.key = Y at *
  clear hYd
  generalize hd : (a1.tmod 2 == 0) = d
  obtain ⟨e1, e2⟩ := app_app ox oY hkY wx v d
  have A1 := fun W0 W h => mapply_at (W0 := W0) (W := W) (there := d) wv (fun _ => ov) wx ox h
  have A2 := fun W0 W h => mapply_at (W0 := W0) (W := W) (there := appB x) (appV_wf (t := d) wv wx) (fun _ => appV_ok (v := v) (t := d) ox) wY oY h
  have A3 := fun W0 W h => mapply_at (W0 := W0) (W := W) (there := d) wv (fun _ => ov) (comp_wf wx wY) (comp_ok (a := x) oY) h
  have cC := fun W0 W h => mcompose_at (W0 := W0) (W := W) wx wY ox oY h
  have cH := fun W0 W h => mcheck_at (W0 := W0) (W := W) (comp_wf wx wY) h
  rw [comp_ok (a := x) oY] at cH
  rw [← e1, ← e2] at A3
  have wq := appV_wf (t := appB x) (appV_wf (t := d) wv wx) wY
  have qq := eql_self wq
  have Hx := keep (mc_len wx.val.hl)
  have HY := keep (mc_len wY.val.hl)
  have HYv := keep wY.val.hl
  have HxV := keep wx.val.hl
  have Hv := keep (vc_len wv.hl)
  have Hp := keep (vc_len (appV_wf (t := d) wv wx).hl)
  have Hq := keep (vc_len wq.hl)
  clear e1 e2 wx ox wy oy wY oY wv ov wq hkY h0 h2 h3
  generalize appV (appV v d x) (appB x) Y = q at *
  generalize appV v d x = p at *
  generalize appB x = bp at *
  generalize appB Y = bq at *
  generalize compM x Y = m at *
  have hbq := bool_self bq
  have hww := fr_refl w
  unfold Is64 at h1
  go_enter Try.func4, Try.ntmps4
  go_wp2_with (first
    | (go_at_call 19; (with_reducible refine (cX w _ hww).mono ?_); rintro e w1 ⟨rfl, hz1⟩)
    | (go_at_call 19; (with_reducible refine (cY w _ hz1).mono ?_); rintro e w2 ⟨rfl, hz2⟩; have hs2 := hz2.size)
    | (refine wpList_store_at (ds := mc x) msg_info rfl (.tmp 9) (.tmp 20) rfl w2.heap.size 0 rfl rfl Hx.out (mc_one _) (Arr.alloc (Arr.new w2 (mc zeroM).toArray 30) _) (by decide) (splice_all _ _ (by rw [Hx.out]; decide)) ?_; intro Y1 hx hk1
       have hy0 := hk1.other (arr_at (w2.alloc _) (mc zeroM).toArray 30 (w2.heap.size + 1) (by simp)) (by omega)
       have hF1 := hk1.fr (fr_new (fr_new hz2 _) _) hs2
       clear hk1 cX cY)
    | (refine wpList_store_at (ds := mc y) msg_info rfl (.tmp 10) (.tmp 22) rfl (w2.heap.size + 1) 0 rfl rfl Hy.out (mc_one _) hy0 (by decide) (splice_all _ _ (by rw [Hy.out]; decide)) ?_; intro Y2 hy hk2
       replace hx := hk2.other hx (by omega)
       have hF2 := hk2.fr hF1 (by omega)
       clear hk2 hF1 hy0
       have hYY := fr_refl Y2
       have lxK := msg_keyAt hx)
    | (refine wpList_store_at (ds := kc x.key) key_info rfl (.tmp 25) (.tmp 24) rfl (w2.heap.size + 1) 2 rfl rfl (kc_len _) (kc_one _) hy (by rw [Hy.out]; decide) HS.out ?_; intro Y3 hyy hk3
       replace hx := hk3.other hx (by omega)
       have hF3 := hk3.fr hF2 (by omega)
       clear hk3 hF2 hy lxK hYY)
    | (go_at_call 20; refine (cV Y3 _ (fr_refl Y3)).mono ?_; rintro e w4 ⟨rfl, hz4⟩
       replace hx := hx.below hz4 hx.lt; replace hyy := hyy.below hz4 hyy.lt; have hF4 := fr_step hF3 hz4; clear hF3 hz4)
    | (refine wpList_store_at (ds := vc v) val_info rfl (.tmp 11) (.tmp 27) rfl w4.heap.size 0 rfl rfl Hv.out (vc_one _) (Arr.new w4 (vc zeroV).toArray 28) (by decide) (splice_all _ _ (by rw [Hv.out]; decide)) ?_; intro Y5 hv hk5
       replace hx := hk5.other (hx.alloc _) (by have := hx.lt; omega); replace hyy := hk5.other (hyy.alloc _) (by have := hyy.lt; omega); have hF5 := hk5.fr (fr_new hF4 _) hF4.size; clear hk5 hF4
       have lx := msg_all hx HxV.out
       have lv := ld_fr hv Hv.out
       have h55 := fr_refl Y5)
    | (go_at_call 15; (with_reducible refine (A1 Y5 _ h55).mono ?_); rintro e w6 ⟨rfl, hz6⟩
       replace hx := hx.below hz6 hx.lt; replace hyy := hyy.below hz6 hyy.lt; replace hv := hv.below hz6 hv.lt; have hF6 := fr_step hF5 hz6; clear hF5 hz6 lx lv h55)
    | (refine wpList_store_at (ds := vc p) val_info rfl (.tmp 13) (.tmp 36) rfl w6.heap.size 0 rfl rfl Hp.out (vc_one _) (Arr.new w6 (vc zeroV).toArray 28) (by decide) (splice_all _ _ (by rw [Hp.out]; decide)) ?_; intro Y7 hp hk7
       replace hx := hk7.other (hx.alloc _) (by have := hx.lt; omega); replace hyy := hk7.other (hyy.alloc _) (by have := hyy.lt; omega); replace hv := hk7.other (hv.alloc _) (by have := hv.lt; omega); have hF7 := hk7.fr (fr_new hF6 _) hF6.size; clear hk7 hF6
       have lY := msg_all hyy HYv.out
       have lp := ld_fr hp Hp.out
       have h77 := fr_refl Y7)
    | (go_at_call 15; (with_reducible refine (A2 Y7 _ h77).mono ?_); rintro e w8 ⟨rfl, hz8⟩
       replace hx := hx.below hz8 hx.lt; replace hyy := hyy.below hz8 hyy.lt; replace hv := hv.below hz8 hv.lt; have hF8 := fr_step hF7 hz8; clear hF7 hz8 lY lp h77 hp)
    | (refine wpList_store_at (ds := vc q) val_info rfl (.tmp 15) (.tmp 43) rfl w8.heap.size 0 rfl rfl Hq.out (vc_one _) (Arr.new w8 (vc zeroV).toArray 28) (by decide) (splice_all _ _ (by rw [Hq.out]; decide)) ?_; intro Z hq hk9
       replace hx := hk9.other (hx.alloc _) (by have := hx.lt; omega); replace hyy := hk9.other (hyy.alloc _) (by have := hyy.lt; omega); replace hv := hk9.other (hv.alloc _) (by have := hv.lt; omega); have hF9 := hk9.fr (fr_new hF8 _) hF8.size; clear hk9 hF8
       have lY := msg_all hyy HYv.out
       have lx := msg_all hx HxV.out
       have lv := ld_fr hv Hv.out
       have lq := ld_fr hq Hq.out
       have hZD := fr_drew (fr_refl Z))
    | fail)
  clear hx hyy hv hq A1 A2 cV
  try simp only [Act.put]
  go_cut [17, 18] from 45 to 53 (fun s t W => ∃ g, s = .pointer (some ⟨g, 0, none⟩) ∧ t = .bool bq ∧ Arr W g 28 (vc q).toArray ∧ Fr Z W)
  case first =>
    have st : ∀ W g, OwnB W g 28 17 → (stS 28 (.pointer (some ⟨g, 0, none⟩)) (.agg (vc q).toArray)).run Try.prog W = .ok () (W.setRow g (vc q).toArray) := fun W g h => st_run val_info h Hq.out (vc_one _)
    have onew : ∀ W : World, OwnB (W.alloc (.cells #[.int .i64 0, .int .u8 0, .int .u8 0, .int .u8 0, .int .u8 0, .int .u8 0, .int .u8 0, .int .u8 0, .int .u8 0, .int .u8 0, .int .u8 0, .int .u8 0, .int .u8 0, .int .u8 0, .int .u8 0, .int .u8 0, .int .u8 0] 28)) W.heap.size 28 17 := fun W => OwnB.new rfl rfl
    have onewD : ∀ W : World, OwnB (W.alloc (.cells #[.int .i64 0, .int .u8 0, .int .u8 0, .int .u8 0, .int .u8 0, .int .u8 0, .int .u8 0, .int .u8 0, .int .u8 0, .int .u8 0, .int .u8 0, .int .u8 0, .int .u8 0, .int .u8 0, .int .u8 0, .int .u8 0, .int .u8 0] 28)).drew W.heap.size 28 17 := fun W => OwnB.new rfl rfl
    clear lq cH
    go_region_held3 (fun w' => Fr Z w')
      (first | exact hZD | assumption | exact fr_new (by assumption) _ | exact fr_setRow (by assumption) (by first | omega | simp) _)
      (first
        | (go_at_call 17; (with_reducible refine (cC _ _ (fr_refl _)).mono ?_); rintro e w9 ⟨rfl, hz⟩
           have hzz : Fr Z w9 := fr_step (by assumption) hz
           have hsz := hzz.size
           try have hob := (onew _).below hz
           try have hob := (onewD _).below hz
           try have hob := OwnB.below (by assumption) hz)
        | (go_at_call 15; (with_reducible refine (A3 _ _ (fr_refl _)).mono ?_); rintro e w9 ⟨rfl, hz⟩
           have hzz : Fr Z w9 := fr_step (by assumption) hz
           have hsz := hzz.size
           try have hob := (onew _).below hz
           try have hob := (onewD _).below hz
           try have hob := OwnB.below (by assumption) hz))
    all_goals
      go_wp2_with fail
      go_meet
      refine ⟨_, rfl, rfl, ?_, by assumption⟩
      first | exact OwnB.put (by assumption) _ | exact OwnB.put (onew _) _
  case rest =>
    obtain ⟨g, rfl, rfl, hr, hZc⟩ := hcut
    have lr := ld_fr hr Hq.out
    have hcc := fr_refl wc
    clear A3 lv
    go_wp2_with (first
      | (go_at_call 17; (with_reducible refine (cC Z _ (by assumption)).mono ?_); rintro e w9 ⟨rfl, hz9⟩)
      | (go_at_call 9; (with_reducible refine (cH Z _ (by assumption)).mono ?_); rintro e w10 ⟨rfl, hz10⟩)
      | (go_at_call 14; refine (awake5_at (W0 := Z) (by assumption)).mono ?_; rintro e w11 ⟨rfl, hz11⟩)
      | fail)
    go_ret
    exact ⟨rfl, fr_step hF9 (by assumption)⟩
end
end Go.Proofs.Ytkblfljcjfaibaa
