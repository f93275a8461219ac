/- MsgThree, walked. -/
import Derived.Test.YtkblfljcjfaibaaMsgH
namespace Go.Proofs.Ytkblfljcjfaibaa
open Go.RowKit
set_option linter.unusedVariables false
attribute [local go_sem ↓] val_ld key_ld msg_ld
theorem key_st (p v : Value) : Instr.storeAt 25 p v = stS 25 p v := rfl
theorem st_sub {P : Program} {T n g off T' : Nat} {w : World} (hi : (P.info? T).map (·.size) = some n) {ds : List Value} (hl : ds.length = n) (h1 : One ds) {cs cs' : List Value} (ha : Arr w g T' cs.toArray) (hf : off + n ≤ cs.length) (hc : splice cs off ds = cs') : (stS T (.pointer (some ⟨g, off, none⟩)) (.agg ds.toArray)).run P w = .ok () (w.setRow g cs'.toArray) := by
  simp only [stS, Instr.storeAt, Instr.sureAddr, Sem.run_bind, Sem.run_pure, Result.andThen_ok]
  rw [run_store_at (v := .agg ds.toArray) (ds := ds) hi rfl hl h1 ha hf, hc]
theorem key_self {k : RK} (wk : k.wf) (W : World) : (binOp .eql 25 (.agg (kc k).toArray) (.agg (kc k).toArray)).run Try.prog W = .ok (.bool true) W := by
  have h := key_eql wk wk W
  rwa [decide_eq_true rfl] at h
theorem lawM_seq (v s : Int) : (lawM v s).seq = ((pl s : Nat) : Int) := rfl
section
attribute [local go_sem ↓] msg_st key_st
set_option maxRecDepth 100000 in
set_option maxHeartbeats 4000000 in
theorem msgThree_core (a0 a1 a2 : Int) (h0 : Is64 a0) (h1 : Is64 a1) (h2 : Is64 a2) (w : World) : Calls Try.prog 5 #[.int .i64 a0, .int .i64 a1, .int .i64 a2] w fun e w' => e = .returned (.bool true) ∧ Below w.heap.size w w' := by
  have wx := lawM_wf a0 1
  have ox := lawM_ok a0 1
  have wy := lawM_wf a1 2
  have oy := lawM_ok a1 2
  have cX := fun W0 W h => law_msg_at (W0 := W0) (W := W) (v := a0) (s := 1) h0 (by unfold Is64; omega) h
  have cY := fun W0 W h => law_msg_at (W0 := W0) (W := W) (v := a1) (s := 2) h1 (by unfold Is64; omega) h
  have wz := lawM_wf a2 3
  have oz := lawM_ok a2 3
  have cV := fun W0 W h => law_msg_at (W0 := W0) (W := W) (v := a2) (s := 3) h2 (by unfold Is64; omega) h
  have sz : (lawM a2 3).seq = 3 := by rw [lawM_seq]; rfl
  generalize lawM a0 1 = x at *
  generalize lawM a1 2 = y at *
  generalize lawM a2 3 = z at *
  have wY := withK_wf wy wx.key
  have oY := withK_ok oy (okM_key ox)
  have wV := withK_wf wz wx.key
  have oV := withK_ok oz (okM_key ox)
  have HS := keep (show splice (mc y) 2 (kc x.key) = mc (withK y x.key) from mc_spliceK y x.key)
  have HT := keep (show splice (mc z) 2 (kc x.key) = mc (withK z x.key) from mc_spliceK z x.key)
  have hkY : x.key = (withK y x.key).key := rfl
  have hkV : x.key = (withK z x.key).key := rfl
  have sV : (withK z x.key).seq = 3 := sz
  have Hy := keep (mc_len wy.val.hl)
  have Hz := keep (mc_len wz.val.hl)
  generalize hYd : withK y x.key = Y at *
  generalize hVd : withK z x.key = V at *
  clear hYd hVd
  have ee := comp_comp ox oY hkY hkV wY
  have C1 := fun W0 W h => mcompose_at (W0 := W0) (W := W) wx wY ox oY h
  have C2 := fun W0 W h => mcompose_at (W0 := W0) (W := W) (comp_wf wx wY) wV (comp_ok (a := x) oY) oV h
  have C3 := fun W0 W h => mcompose_at (W0 := W0) (W := W) wY wV oY oV h
  have C4 := fun W0 W h => mcompose_at (W0 := W0) (W := W) wx (comp_wf wY wV) ox (comp_ok (a := Y) oV) h
  rw [← ee] at C4
  have wm := comp_wf (comp_wf wx wY) wV
  have sm : (compM (compM x Y) V).seq = 3 := comp_seq.trans sV
  have km : (compM (compM x Y) V).key = x.key := comp_key.trans hkV.symm
  have qm := msg_self wm
  have qk := key_self wx.key
  have Hx := keep (mc_len wx.val.hl)
  have HY := keep (mc_len wY.val.hl)
  have HV := keep (mc_len wV.val.hl)
  have Hm := keep (mc_len wm.val.hl)
  have HxV := keep wx.val.hl
  have HYv := keep wY.val.hl
  have HVv := keep wV.val.hl
  have HmV := keep wm.val.hl
  clear ee wx ox wy oy wz oz wY oY wV oV hkY hkV sV sz wm h0 h1 h2
  generalize compM (compM x Y) V = m at *
  generalize compM x Y = xy at *
  generalize compM Y V = yz at *
  have hww := fr_refl w
  go_enter Try.func5, Try.ntmps5
  go_wp2_with (first
    | (go_at_call 19; (with_reducible refine (cX w _ hww).mono ?_); rintro e w1 ⟨rfl, hz1⟩)
    | (go_at_call 19; (with_reducible refine (cY w _ hz1).mono ?_); rintro e w2 ⟨rfl, hz2⟩)
    | (go_at_call 19; (with_reducible refine (cV w _ hz2).mono ?_); rintro e w3 ⟨rfl, hz3⟩; have hs3 := hz3.size)
    | (refine wpList_store_at (ds := mc x) msg_info rfl (.tmp 7) (.tmp 12) rfl w3.heap.size 0 rfl rfl Hx.out (mc_one _) (Arr.alloc (Arr.alloc (Arr.new w3 (mc zeroM).toArray 30) _) _) (by decide) (splice_all _ _ (by rw [Hx.out]; decide)) ?_; intro Y1 hx hk1
       have hy0 := hk1.other (Arr.alloc (arr_at (w3.alloc _) (mc zeroM).toArray 30 (w3.heap.size + 1) (by simp)) _) (by omega)
       have hz0 := hk1.other (arr_at ((w3.alloc _).alloc _) (mc zeroM).toArray 30 (w3.heap.size + 1 + 1) (by simp)) (by omega)
       have hF1 := hk1.fr (fr_new (fr_new (fr_new hz3 _) _) _) hs3
       clear hk1 cX cY cV)
    | (refine wpList_store_at (ds := mc y) msg_info rfl (.tmp 8) (.tmp 14) rfl (w3.heap.size + 1) 0 rfl rfl Hy.out (mc_one _) hy0 (by decide) (splice_all _ _ (by rw [Hy.out]; decide)) ?_; intro Y2 hy hk2
       replace hx := hk2.other hx (by omega)
       replace hz0 := hk2.other hz0 (by omega)
       have hF2 := hk2.fr hF1 (by omega)
       clear hk2 hF1 hy0)
    | (refine wpList_store_at (ds := mc z) msg_info rfl (.tmp 9) (.tmp 16) rfl (w3.heap.size + 1 + 1) 0 rfl rfl Hz.out (mc_one _) hz0 (by decide) (splice_all _ _ (by rw [Hz.out]; decide)) ?_; intro Z hzz hk2
       replace hx := hk2.other hx (by omega)
       replace hy := hk2.other hy (by omega)
       have hF3 := hk2.fr hF2 (by omega)
       clear hk2 hF2 hz0)
    | fail)
  try simp only [Act.put]
  go_cut [] from 17 to 22 (fun W => Arr W w3.heap.size 30 (mc x).toArray ∧ Arr W (w3.heap.size + 1) 30 (mc Y).toArray ∧ Arr W (w3.heap.size + 1 + 1) 30 (mc V).toArray ∧ Fr w W)
  case first =>
    clear C1 C2 C3 C4 qm qk
    have lxK : ∀ W, Arr W w3.heap.size 30 (mc x).toArray → (ldS 25 (.pointer (some ⟨w3.heap.size, 2, none⟩))).run Try.prog W = .ok (.agg (kc x.key).toArray) W := fun W h => msg_keyAt h W (fr_refl W)
    have s1 : ∀ W, Arr W (w3.heap.size + 1) 30 (mc y).toArray → (stS 25 (.pointer (some ⟨w3.heap.size + 1, 2, none⟩)) (.agg (kc x.key).toArray)).run Try.prog W = .ok () (W.setRow (w3.heap.size + 1) (mc Y).toArray) := fun W h => st_sub key_info (kc_len _) (kc_one _) h (by rw [Hy.out]; decide) HS.out
    have s2 : ∀ W, Arr W (w3.heap.size + 1 + 1) 30 (mc z).toArray → (stS 25 (.pointer (some ⟨w3.heap.size + 1 + 1, 2, none⟩)) (.agg (kc x.key).toArray)).run Try.prog W = .ok () (W.setRow (w3.heap.size + 1 + 1) (mc V).toArray) := fun W h => st_sub key_info (kc_len _) (kc_one _) h (by rw [Hz.out]; decide) HT.out
    have f1 : Arr Z.drew (w3.heap.size + 1) 30 (mc y).toArray := hy
    have f2 : Arr Z.drew (w3.heap.size + 1 + 1) 30 (mc z).toArray := hzz
    have f3 := f2.setRowOther (k := w3.heap.size + 1) (mc Y).toArray (by omega)
    have f4 := f1.setRowOther (k := w3.heap.size + 1 + 1) (mc V).toArray (by omega)
    have fx : Arr Z.drew w3.heap.size 30 (mc x).toArray := hx
    have hFD := fr_drew hF3
    go_region_held3 (fun w' => Arr w' w3.heap.size 30 (mc x).toArray)
      (first | exact fx | assumption | exact Arr.setRowOther (by assumption) _ (by omega))
      (first | fail)
    all_goals
      go_wp2_with fail
      go_meet
      refine ⟨by assumption, ?_, ?_, ?_⟩
      · first | exact (f1.setRow _).setRowOther _ (by omega) | exact f4.setRow _
      · first | exact f3.setRow _ | exact (f2.setRow _).setRowOther _ (by omega)
      · exact fr_setRow (fr_setRow hFD (by omega) _) (by omega) _
  case rest =>
    clear hx hy hzz hF3
    obtain ⟨hx, hy, hz, hF⟩ := hcut
    generalize hZ : wc = Z2 at *
    clear hZ
    have lx := msg_all hx HxV.out
    have ly := msg_all hy HYv.out
    have lz := msg_all hz HVv.out
    have lxK := msg_keyAt hx
    have hZD := fr_drew (fr_refl Z2)
    clear hx hy hz
    go_wp2_with fail
    try simp only [Act.put]
    go_cut [10] from 23 to 27 (fun s W => ∃ g, s = .pointer (some ⟨g, 0, none⟩) ∧ Arr W g 30 (mc m).toArray ∧ Fr Z2 W)
    case first =>
      have st : ∀ W g, OwnB W g 30 29 → (stS 30 (.pointer (some ⟨g, 0, none⟩)) (.agg (mc m).toArray)).run Try.prog W = .ok () (W.setRow g (mc m).toArray) := fun W g h => st_run msg_info h Hm.out (mc_one _)
      have onew : ∀ W : World, OwnB (W.alloc (.cells #[.int .i64 0, .int .u64 0, .int .i64 0, .int .u8 0, .int .u8 0, .int .u8 0, .int .u8 0, .int .u8 0, .int .u8 0, .int .u8 0, .int .u8 0, .int .i64 0, .int .u8 0, .int .u8 0, .int .u8 0, .int .u8 0, .int .u8 0, .int .u8 0, .int .u8 0, .int .u8 0, .int .u8 0, .int .u8 0, .int .u8 0, .int .u8 0, .int .u8 0, .int .u8 0, .int .u8 0, .int .u8 0, .int .u64 0] 30)) W.heap.size 30 29 := fun W => OwnB.new rfl rfl
      have onewD : ∀ W : World, OwnB (W.alloc (.cells #[.int .i64 0, .int .u64 0, .int .i64 0, .int .u8 0, .int .u8 0, .int .u8 0, .int .u8 0, .int .u8 0, .int .u8 0, .int .u8 0, .int .u8 0, .int .i64 0, .int .u8 0, .int .u8 0, .int .u8 0, .int .u8 0, .int .u8 0, .int .u8 0, .int .u8 0, .int .u8 0, .int .u8 0, .int .u8 0, .int .u8 0, .int .u8 0, .int .u8 0, .int .u8 0, .int .u8 0, .int .u8 0, .int .u64 0] 30)).drew W.heap.size 30 29 := fun W => OwnB.new rfl rfl
      clear qm qk C3 C4
      go_region_held3 (fun w' => Fr Z2 w')
        (first | exact hZD | assumption | exact fr_new (by assumption) _ | exact fr_setRow (by assumption) (by first | omega | simp) _)
        (first
          | (go_at_call 17; (with_reducible refine (C1 _ _ (fr_refl _)).mono ?_); rintro e w9 ⟨rfl, hz⟩
             have hzz : Fr Z2 w9 := fr_step (by assumption) hz
             have hsz := hzz.size
             try have hob := (onew _).below hz
             try have hob := (onewD _).below hz
             try have hob := OwnB.below (by assumption) hz)
          | (go_at_call 17; (with_reducible refine (C2 _ _ (fr_refl _)).mono ?_); rintro e w9 ⟨rfl, hz⟩
             have hzz : Fr Z2 w9 := fr_step (by assumption) hz
             have hsz := hzz.size
             try have hob := (onew _).below hz
             try have hob := (onewD _).below hz
             try have hob := OwnB.below (by assumption) hz))
      all_goals
        go_wp2_with fail
        go_meet
        refine ⟨_, rfl, ?_, by assumption⟩
        first | exact OwnB.put (by assumption) _ | exact OwnB.put (onew _) _
    case rest =>
      obtain ⟨g, rfl, hr, hZc⟩ := hcut
      generalize hZ : wc = Z4 at *
      clear hZ
      have lm := msg_all hr HmV.out
      have lmK := msg_keyAt hr
      rw [km] at lmK
      have c1 := cellZ hr 1 (mc_1 m)
      rw [sm] at c1
      have lx4 : ∀ W, Fr Z4 W → _ := fun W h => lx W (fr_step hZc h)
      have ly4 : ∀ W, Fr Z4 W → _ := fun W h => ly W (fr_step hZc h)
      have lz4 : ∀ W, Fr Z4 W → _ := fun W h => lz W (fr_step hZc h)
      have lxK4 : ∀ W, Fr Z4 W → _ := fun W h => lxK W (fr_step hZc h)
      have hF4 := fr_step hF hZc
      have h4D := fr_drew (fr_refl Z4)
      clear lx ly lz lxK hF hZc hr km sm C1 C2
      go_wp2_with fail
      go_region_held3 (fun w' => Fr Z4 w')
        (first | exact h4D | assumption)
        (first
          | (go_at_call 17; (with_reducible refine (C3 Z4 _ (by assumption)).mono ?_); rintro e w9 ⟨rfl, hz⟩)
          | (go_at_call 17; (with_reducible refine (C4 Z4 _ (by assumption)).mono ?_); rintro e w9 ⟨rfl, hz⟩)
          | (go_at_call 14; refine (awake5_at (W0 := Z4) (by assumption)).mono ?_; rintro e w9 ⟨rfl, hz⟩))
      rename_i hH
      go_wp2
      go_ret
      exact ⟨rfl, fr_step hF4 hH⟩
end
end Go.Proofs.Ytkblfljcjfaibaa
