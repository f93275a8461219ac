/- LeafPuts, walked. -/
import Derived.Test.YtbdioipjgjbgmaaLfQ
namespace Go.Proofs.Ytbdioipjgjbgmaa
set_option maxRecDepth 100000
open Go.RowKit
set_option linter.unusedVariables false
attribute [local go_sem ↓] key_ld ent_ld val_ld msg_ld
set_option maxHeartbeats 4000000 in
theorem leafPuts_core {w : World} {A0 : Option Addr} {n0 c0 : Nat} {ns : List Int} {vn kn : Int} (hl0 : Has w w.heap.size A0 (ns.map (Value.int .i64))) (hn0 : ns.length = n0) (hns : ∀ z ∈ ns, Is64 z) (hnm0 : n0 ≤ maxLen) (hvn : Is64 vn) (hkn : Is64 kn) :
    Calls Try.prog 9 #[.slice A0 n0 c0, .int .i64 vn, .int .i64 kn] w fun e w' => e = .returned (.bool true) ∧ Below w.heap.size w w' := by
  have cE := qents (c := c0) (most := 3000) hl0 (Nat.le_refl _) hn0 hns (by omega) hnm0
  have ol := entsL_ok ns 3000
  have hlen := entsL_len ns 3000
  have wk := lawK_wf kn
  have ok := lawK_ok kn
  have cK := fun W0 W h => law_key_at (W0 := W0) (W := W) (v := kn) hkn h
  have wm := lawM_wf vn 7
  have om := lawM_ok vn 7
  have cM := fun W0 W h => law_msg_at (W0 := W0) (W := W) (v := vn) (s := 7) hvn (by unfold Is64; omega) h
  generalize entsL ns 3000 = l at *
  generalize lawK kn = k at *
  generalize lawM vn 7 = m at *
  clear hl0 hn0 hns hvn hkn
  have olq := putE_ok ol wm om
  have hlq := putE_le l m
  have hfq : findE (putE l m) m.key = appO m (findE l m.key) := by rw [findE_put ol wm om, if_pos rfl]
  have hfo : ¬ k = m.key → findE (putE l m) k = findE l k := fun h => by rw [findE_put ol wm om, if_neg h]
  have wx : ((findE l m.key).getD zeroV).wf := getV_wf fun v hv => (findE_ok ol hv).1
  have hox : (findE l m.key).isSome = true → okV ((findE l m.key).getD zeroV) = true := by
    cases hf : findE l m.key with
    | none => intro h; cases h
    | some x => intro _; exact (findE_ok ol hf).2
  have wy := getV_wf (o := findE (putE l m) k) fun v hv => (findE_ok olq hv).1
  have wz := getV_wf (o := findE l k) fun v hv => (findE_ok ol hv).1
  have ww := appV_wf (t := (findE l m.key).isSome) wx wm
  have cP := fun W A c (ho : Hid (OwnE W 0 A c l)) => qput (m := m) ho (by omega) ol wm om
  have cF := fun W A c (ho : Hid (OwnE W 0 A c l)) => qrfind (k := m.key) ho (by omega) ol wm.key
  have cA := fun W0 W h => rmapply_at (W0 := W0) (W := W) wx hox wm om h
  have cG := fun W A c (ho : Hid (OwnE W 0 A c (putE l m))) => qfind (k := m.key) ho (by omega) olq wm.key (okM_key om)
  have cY := fun W A c (ho : Hid (OwnE W 0 A c (putE l m))) => qfind (k := k) ho (by omega) olq wk ok
  have cZ := fun W A c (ho : Hid (OwnE W 0 A c l)) => qfind (k := k) ho (by omega) ol wk ok
  have cC := fun W A c (ho : Hid (OwnE W 0 A c (putE l m))) => qrcheck ho (by omega) olq
  have cW := fun W0 W h => awake7_at (W0 := W0) (W := W) h
  rw [hfq] at cG
  unfold findEV at cF cG cY cZ
  rw [appO_getD, appO_isSome] at cG
  have qk := fun W => key_eql wk wm.key W
  have qw := fun W => eql_self ww W
  have qy := fun W => eql_self wy W
  have Hlm := keep (mc_len wm.val.hl)
  have Hlx := keep (vc_len wx.hl)
  have Hlw := keep (vc_len ww.hl)
  have Hly := keep (vc_len wy.hl)
  have Hlz := keep (vc_len wz.hl)
  have rr := fr_refl w
  have top := fr_refl w
  have hy1 : ¬ k = m.key → (findE (putE l m) k).isSome = (findE l k).isSome := fun h => by rw [hfo h]
  have hy2 : ¬ k = m.key → (findE (putE l m) k).getD zeroV = (findE l k).getD zeroV := fun h => by rw [hfo h]
  generalize appV ((findE l m.key).getD zeroV) (findE l m.key).isSome m = wt at *
  generalize (findE l m.key).isSome = h0 at *
  generalize (findE l m.key).getD zeroV = x0 at *
  generalize (findE (putE l m) k).isSome = b1 at *
  generalize (findE (putE l m) k).getD zeroV = y1 at *
  generalize (findE l k).isSome = b2 at *
  generalize (findE l k).getD zeroV = z1 at *
  generalize putE l m = q at *
  generalize appB m = b0 at *
  clear ol olq hfq hfo wx hox wy wz ww wk ok om
  have Hwm := keep wm
  clear wm
  by_cases hkm : k = m.key
  · rw [decide_eq_true hkm] at qk
    clear hy1 hy2 hkm
    go_enter Try.func9, Try.ntmps9
    go_wp2_with fail
    refine (cE).mono ?_
    rintro e v1 ⟨A, c, rfl, ho, f1⟩
    replace top := fr_step top f1
    have rr := fr_refl v1
    go_wp2_with fail
    refine (cM _ _ rr).mono ?_
    rintro e v2 ⟨rfl, f2⟩
    replace top := fr_step top f2
    replace ho := keep (Own.below ho.out f2 (Nat.le_refl _))
    have rr := fr_refl v2
    go_wp2_with (first
      | (refine wpList_store_at (ds := mc m) msg_info rfl (.tmp 8) (.tmp 24) rfl v2.heap.size 0 rfl rfl Hlm.out (mc_one _) (Arr.new v2 (mc zeroM).toArray 36) (by decide) (splice_all _ _ (by rw [Hlm.out]; decide)) ?_; intro v3 hM3 hk3
         have f3 := hk3.fr (fr_new rr _) (Nat.le_refl _)
         replace top := fr_step top f3
         replace ho := keep (Own.below ho.out f3 (Nat.le_refl _))
         have rr := fr_refl v3
         have lM : ∀ W, Fr v3 W → (ldS 36 (.pointer (some ⟨v2.heap.size, 0, none⟩))).run Try.prog W = .ok (.agg (mc m).toArray) W := fun W h => msgS.ld Hlm.out (hM3.below h hM3.lt)
         have lMk := msg_keyAt hM3
         clear hM3 hk3)
      | fail)
    refine (cP _ _ _ ho).mono ?_
    rintro e v4 ⟨A2, c2, rfl, hq, f4⟩
    replace top := fr_step top f4
    replace lM := fun (W : World) (h : Fr v4 W) => lM W (fr_step f4 h)
    replace lMk := fun (W : World) (h : Fr v4 W) => lMk W (fr_step f4 h)
    replace ho := keep (Own.below ho.out f4 (Nat.le_refl _))
    have rr := fr_refl v4
    go_wp2_with fail
    refine (cF _ _ _ ho).mono ?_
    rintro e v5 ⟨rfl, f5⟩
    replace top := fr_step top f5
    replace lM := fun (W : World) (h : Fr v5 W) => lM W (fr_step f5 h)
    replace lMk := fun (W : World) (h : Fr v5 W) => lMk W (fr_step f5 h)
    replace ho := keep (Own.below ho.out f5 (Nat.le_refl _))
    replace hq := keep (Own.below hq.out f5 (Nat.le_refl _))
    have rr := fr_refl v5
    go_wp2_with (first
      | (refine wpList_store_at (ds := vc x0) val_info rfl (.tmp 10) (.tmp 33) rfl v5.heap.size 0 rfl rfl Hlx.out (vc_one _) (Arr.new v5 (vc zeroV).toArray 34) (by decide) (splice_all _ _ (by rw [Hlx.out]; decide)) ?_; intro v6 hM6 hk6
         have f6 := hk6.fr (fr_new rr _) (Nat.le_refl _)
         replace top := fr_step top f6
         replace lM := fun (W : World) (h : Fr v6 W) => lM W (fr_step f6 h)
         replace lMk := fun (W : World) (h : Fr v6 W) => lMk W (fr_step f6 h)
         replace ho := keep (Own.below ho.out f6 (Nat.le_refl _))
         replace hq := keep (Own.below hq.out f6 (Nat.le_refl _))
         have rr := fr_refl v6
         have lX : ∀ W, Fr v6 W → (ldS 34 (.pointer (some ⟨v5.heap.size, 0, none⟩))).run Try.prog W = .ok (.agg (vc x0).toArray) W := fun W h => valS.ld Hlx.out (hM6.below h hM6.lt)
         clear hM6 hk6)
      | fail)
    refine (cA _ _ rr).mono ?_
    rintro e v7 ⟨rfl, f7⟩
    replace top := fr_step top f7
    replace lM := fun (W : World) (h : Fr v7 W) => lM W (fr_step f7 h)
    replace lMk := fun (W : World) (h : Fr v7 W) => lMk W (fr_step f7 h)
    replace lX := fun (W : World) (h : Fr v7 W) => lX W (fr_step f7 h)
    replace ho := keep (Own.below ho.out f7 (Nat.le_refl _))
    replace hq := keep (Own.below hq.out f7 (Nat.le_refl _))
    have rr := fr_refl v7
    go_wp2_with (first
      | (refine wpList_store_at (ds := vc wt) val_info rfl (.tmp 12) (.tmp 40) rfl v7.heap.size 0 rfl rfl Hlw.out (vc_one _) (Arr.new v7 (vc zeroV).toArray 34) (by decide) (splice_all _ _ (by rw [Hlw.out]; decide)) ?_; intro v8 hM8 hk8
         have f8 := hk8.fr (fr_new rr _) (Nat.le_refl _)
         replace top := fr_step top f8
         replace lM := fun (W : World) (h : Fr v8 W) => lM W (fr_step f8 h)
         replace lMk := fun (W : World) (h : Fr v8 W) => lMk W (fr_step f8 h)
         replace lX := fun (W : World) (h : Fr v8 W) => lX W (fr_step f8 h)
         replace ho := keep (Own.below ho.out f8 (Nat.le_refl _))
         replace hq := keep (Own.below hq.out f8 (Nat.le_refl _))
         have rr := fr_refl v8
         have lW : ∀ W, Fr v8 W → (ldS 34 (.pointer (some ⟨v7.heap.size, 0, none⟩))).run Try.prog W = .ok (.agg (vc wt).toArray) W := fun W h => valS.ld Hlw.out (hM8.below h hM8.lt)
         clear hM8 hk8)
      | fail)
    refine (cG _ _ _ hq).mono ?_
    rintro e v9 ⟨rfl, f9⟩
    replace top := fr_step top f9
    replace lM := fun (W : World) (h : Fr v9 W) => lM W (fr_step f9 h)
    replace lMk := fun (W : World) (h : Fr v9 W) => lMk W (fr_step f9 h)
    replace lX := fun (W : World) (h : Fr v9 W) => lX W (fr_step f9 h)
    replace lW := fun (W : World) (h : Fr v9 W) => lW W (fr_step f9 h)
    replace ho := keep (Own.below ho.out f9 (Nat.le_refl _))
    replace hq := keep (Own.below hq.out f9 (Nat.le_refl _))
    have rr := fr_refl v9
    go_wp2_with (first
      | (refine wpList_store_at (ds := vc wt) val_info rfl (.tmp 14) (.tmp 47) rfl v9.heap.size 0 rfl rfl Hlw.out (vc_one _) (Arr.new v9 (vc zeroV).toArray 34) (by decide) (splice_all _ _ (by rw [Hlw.out]; decide)) ?_; intro v10 hM10 hk10
         have f10 := hk10.fr (fr_new rr _) (Nat.le_refl _)
         replace top := fr_step top f10
         replace lM := fun (W : World) (h : Fr v10 W) => lM W (fr_step f10 h)
         replace lMk := fun (W : World) (h : Fr v10 W) => lMk W (fr_step f10 h)
         replace lX := fun (W : World) (h : Fr v10 W) => lX W (fr_step f10 h)
         replace lW := fun (W : World) (h : Fr v10 W) => lW W (fr_step f10 h)
         replace ho := keep (Own.below ho.out f10 (Nat.le_refl _))
         replace hq := keep (Own.below hq.out f10 (Nat.le_refl _))
         have rr := fr_refl v10
         have lW2 : ∀ W, Fr v10 W → (ldS 34 (.pointer (some ⟨v9.heap.size, 0, none⟩))).run Try.prog W = .ok (.agg (vc wt).toArray) W := fun W h => valS.ld Hlw.out (hM10.below h hM10.lt)
         clear hM10 hk10)
      | fail)
    refine (cK _ _ rr).mono ?_
    rintro e v11 ⟨rfl, f11⟩
    replace top := fr_step top f11
    replace lM := fun (W : World) (h : Fr v11 W) => lM W (fr_step f11 h)
    replace lMk := fun (W : World) (h : Fr v11 W) => lMk W (fr_step f11 h)
    replace lX := fun (W : World) (h : Fr v11 W) => lX W (fr_step f11 h)
    replace lW := fun (W : World) (h : Fr v11 W) => lW W (fr_step f11 h)
    replace lW2 := fun (W : World) (h : Fr v11 W) => lW2 W (fr_step f11 h)
    replace ho := keep (Own.below ho.out f11 (Nat.le_refl _))
    replace hq := keep (Own.below hq.out f11 (Nat.le_refl _))
    have rr := fr_refl v11
    go_wp2_with (first
      | (refine wpList_store_at (ds := kc k) key_info rfl (.tmp 16) (.tmp 50) rfl v11.heap.size 0 rfl rfl (kc_len _) (kc_one _) (Arr.new v11 (kc zeroK).toArray 27) (by rw [kc_len]; decide) (splice_all _ _ (Nat.le_of_eq rfl)) ?_; intro v12 hM12 hk12
         have f12 := hk12.fr (fr_new rr _) (Nat.le_refl _)
         replace top := fr_step top f12
         replace lM := fun (W : World) (h : Fr v12 W) => lM W (fr_step f12 h)
         replace lMk := fun (W : World) (h : Fr v12 W) => lMk W (fr_step f12 h)
         replace lX := fun (W : World) (h : Fr v12 W) => lX W (fr_step f12 h)
         replace lW := fun (W : World) (h : Fr v12 W) => lW W (fr_step f12 h)
         replace lW2 := fun (W : World) (h : Fr v12 W) => lW2 W (fr_step f12 h)
         replace ho := keep (Own.below ho.out f12 (Nat.le_refl _))
         replace hq := keep (Own.below hq.out f12 (Nat.le_refl _))
         have rr := fr_refl v12
         have lK : ∀ W, Fr v12 W → (ldS 27 (.pointer (some ⟨v11.heap.size, 0, none⟩))).run Try.prog W = .ok (.agg (kc k).toArray) W := fun W h => keyS.ld (kc_len _) (hM12.below h hM12.lt)
         clear hM12 hk12)
      | fail)
    refine (cY _ _ _ hq).mono ?_
    rintro e v13 ⟨rfl, f13⟩
    replace top := fr_step top f13
    replace lM := fun (W : World) (h : Fr v13 W) => lM W (fr_step f13 h)
    replace lMk := fun (W : World) (h : Fr v13 W) => lMk W (fr_step f13 h)
    replace lX := fun (W : World) (h : Fr v13 W) => lX W (fr_step f13 h)
    replace lW := fun (W : World) (h : Fr v13 W) => lW W (fr_step f13 h)
    replace lW2 := fun (W : World) (h : Fr v13 W) => lW2 W (fr_step f13 h)
    replace lK := fun (W : World) (h : Fr v13 W) => lK W (fr_step f13 h)
    replace ho := keep (Own.below ho.out f13 (Nat.le_refl _))
    replace hq := keep (Own.below hq.out f13 (Nat.le_refl _))
    have rr := fr_refl v13
    go_wp2_with (first
      | (refine wpList_store_at (ds := vc y1) val_info rfl (.tmp 17) (.tmp 55) rfl v13.heap.size 0 rfl rfl Hly.out (vc_one _) (Arr.new v13 (vc zeroV).toArray 34) (by decide) (splice_all _ _ (by rw [Hly.out]; decide)) ?_; intro v14 hM14 hk14
         have f14 := hk14.fr (fr_new rr _) (Nat.le_refl _)
         replace top := fr_step top f14
         replace lM := fun (W : World) (h : Fr v14 W) => lM W (fr_step f14 h)
         replace lMk := fun (W : World) (h : Fr v14 W) => lMk W (fr_step f14 h)
         replace lX := fun (W : World) (h : Fr v14 W) => lX W (fr_step f14 h)
         replace lW := fun (W : World) (h : Fr v14 W) => lW W (fr_step f14 h)
         replace lW2 := fun (W : World) (h : Fr v14 W) => lW2 W (fr_step f14 h)
         replace lK := fun (W : World) (h : Fr v14 W) => lK W (fr_step f14 h)
         replace ho := keep (Own.below ho.out f14 (Nat.le_refl _))
         replace hq := keep (Own.below hq.out f14 (Nat.le_refl _))
         have rr := fr_refl v14
         have lY : ∀ W, Fr v14 W → (ldS 34 (.pointer (some ⟨v13.heap.size, 0, none⟩))).run Try.prog W = .ok (.agg (vc y1).toArray) W := fun W h => valS.ld Hly.out (hM14.below h hM14.lt)
         clear hM14 hk14)
      | fail)
    refine (cZ _ _ _ ho).mono ?_
    rintro e v15 ⟨rfl, f15⟩
    replace top := fr_step top f15
    replace lM := fun (W : World) (h : Fr v15 W) => lM W (fr_step f15 h)
    replace lMk := fun (W : World) (h : Fr v15 W) => lMk W (fr_step f15 h)
    replace lX := fun (W : World) (h : Fr v15 W) => lX W (fr_step f15 h)
    replace lW := fun (W : World) (h : Fr v15 W) => lW W (fr_step f15 h)
    replace lW2 := fun (W : World) (h : Fr v15 W) => lW2 W (fr_step f15 h)
    replace lK := fun (W : World) (h : Fr v15 W) => lK W (fr_step f15 h)
    replace lY := fun (W : World) (h : Fr v15 W) => lY W (fr_step f15 h)
    replace ho := keep (Own.below ho.out f15 (Nat.le_refl _))
    replace hq := keep (Own.below hq.out f15 (Nat.le_refl _))
    have rr := fr_refl v15
    go_wp2_with (first
      | (refine wpList_store_at (ds := vc z1) val_info rfl (.tmp 19) (.tmp 61) rfl v15.heap.size 0 rfl rfl Hlz.out (vc_one _) (Arr.new v15 (vc zeroV).toArray 34) (by decide) (splice_all _ _ (by rw [Hlz.out]; decide)) ?_; intro v16 hM16 hk16
         have f16 := hk16.fr (fr_new rr _) (Nat.le_refl _)
         replace top := fr_step top f16
         replace lM := fun (W : World) (h : Fr v16 W) => lM W (fr_step f16 h)
         replace lMk := fun (W : World) (h : Fr v16 W) => lMk W (fr_step f16 h)
         replace lX := fun (W : World) (h : Fr v16 W) => lX W (fr_step f16 h)
         replace lW := fun (W : World) (h : Fr v16 W) => lW W (fr_step f16 h)
         replace lW2 := fun (W : World) (h : Fr v16 W) => lW2 W (fr_step f16 h)
         replace lK := fun (W : World) (h : Fr v16 W) => lK W (fr_step f16 h)
         replace lY := fun (W : World) (h : Fr v16 W) => lY W (fr_step f16 h)
         replace ho := keep (Own.below ho.out f16 (Nat.le_refl _))
         replace hq := keep (Own.below hq.out f16 (Nat.le_refl _))
         have rr := fr_refl v16
         have lZ : ∀ W, Fr v16 W → (ldS 34 (.pointer (some ⟨v15.heap.size, 0, none⟩))).run Try.prog W = .ok (.agg (vc z1).toArray) W := fun W h => valS.ld Hlz.out (hM16.below h hM16.lt)
         clear hM16 hk16)
      | fail)
    refine (cC _ _ _ hq).mono ?_
    rintro e v17 ⟨rfl, f17⟩
    replace top := fr_step top f17
    replace lM := fun (W : World) (h : Fr v17 W) => lM W (fr_step f17 h)
    replace lMk := fun (W : World) (h : Fr v17 W) => lMk W (fr_step f17 h)
    replace lX := fun (W : World) (h : Fr v17 W) => lX W (fr_step f17 h)
    replace lW := fun (W : World) (h : Fr v17 W) => lW W (fr_step f17 h)
    replace lW2 := fun (W : World) (h : Fr v17 W) => lW2 W (fr_step f17 h)
    replace lK := fun (W : World) (h : Fr v17 W) => lK W (fr_step f17 h)
    replace lY := fun (W : World) (h : Fr v17 W) => lY W (fr_step f17 h)
    replace lZ := fun (W : World) (h : Fr v17 W) => lZ W (fr_step f17 h)
    replace ho := keep (Own.below ho.out f17 (Nat.le_refl _))
    replace hq := keep (Own.below hq.out f17 (Nat.le_refl _))
    have rr := fr_refl v17
    go_wp2_with fail
    refine (cW _ _ rr).mono ?_
    rintro e v18 ⟨rfl, f18⟩
    replace top := fr_step top f18
    replace lM := fun (W : World) (h : Fr v18 W) => lM W (fr_step f18 h)
    replace lMk := fun (W : World) (h : Fr v18 W) => lMk W (fr_step f18 h)
    replace lX := fun (W : World) (h : Fr v18 W) => lX W (fr_step f18 h)
    replace lW := fun (W : World) (h : Fr v18 W) => lW W (fr_step f18 h)
    replace lW2 := fun (W : World) (h : Fr v18 W) => lW2 W (fr_step f18 h)
    replace lK := fun (W : World) (h : Fr v18 W) => lK W (fr_step f18 h)
    replace lY := fun (W : World) (h : Fr v18 W) => lY W (fr_step f18 h)
    replace lZ := fun (W : World) (h : Fr v18 W) => lZ W (fr_step f18 h)
    replace ho := keep (Own.below ho.out f18 (Nat.le_refl _))
    replace hq := keep (Own.below hq.out f18 (Nat.le_refl _))
    have rr := fr_refl v18
    go_wp2_with fail
    go_ret
    exact ⟨rfl, top⟩
  · rw [decide_eq_false hkm] at qk
    obtain rfl := hy1 hkm
    obtain rfl := hy2 hkm
    clear hy1 hy2 hkm
    go_enter Try.func9, Try.ntmps9
    go_wp2_with fail
    refine (cE).mono ?_
    rintro e v1 ⟨A, c, rfl, ho, f1⟩
    replace top := fr_step top f1
    have rr := fr_refl v1
    go_wp2_with fail
    refine (cM _ _ rr).mono ?_
    rintro e v2 ⟨rfl, f2⟩
    replace top := fr_step top f2
    replace ho := keep (Own.below ho.out f2 (Nat.le_refl _))
    have rr := fr_refl v2
    go_wp2_with (first
      | (refine wpList_store_at (ds := mc m) msg_info rfl (.tmp 8) (.tmp 24) rfl v2.heap.size 0 rfl rfl Hlm.out (mc_one _) (Arr.new v2 (mc zeroM).toArray 36) (by decide) (splice_all _ _ (by rw [Hlm.out]; decide)) ?_; intro v3 hM3 hk3
         have f3 := hk3.fr (fr_new rr _) (Nat.le_refl _)
         replace top := fr_step top f3
         replace ho := keep (Own.below ho.out f3 (Nat.le_refl _))
         have rr := fr_refl v3
         have lM : ∀ W, Fr v3 W → (ldS 36 (.pointer (some ⟨v2.heap.size, 0, none⟩))).run Try.prog W = .ok (.agg (mc m).toArray) W := fun W h => msgS.ld Hlm.out (hM3.below h hM3.lt)
         have lMk := msg_keyAt hM3
         clear hM3 hk3)
      | fail)
    refine (cP _ _ _ ho).mono ?_
    rintro e v4 ⟨A2, c2, rfl, hq, f4⟩
    replace top := fr_step top f4
    replace lM := fun (W : World) (h : Fr v4 W) => lM W (fr_step f4 h)
    replace lMk := fun (W : World) (h : Fr v4 W) => lMk W (fr_step f4 h)
    replace ho := keep (Own.below ho.out f4 (Nat.le_refl _))
    have rr := fr_refl v4
    go_wp2_with fail
    refine (cF _ _ _ ho).mono ?_
    rintro e v5 ⟨rfl, f5⟩
    replace top := fr_step top f5
    replace lM := fun (W : World) (h : Fr v5 W) => lM W (fr_step f5 h)
    replace lMk := fun (W : World) (h : Fr v5 W) => lMk W (fr_step f5 h)
    replace ho := keep (Own.below ho.out f5 (Nat.le_refl _))
    replace hq := keep (Own.below hq.out f5 (Nat.le_refl _))
    have rr := fr_refl v5
    go_wp2_with (first
      | (refine wpList_store_at (ds := vc x0) val_info rfl (.tmp 10) (.tmp 33) rfl v5.heap.size 0 rfl rfl Hlx.out (vc_one _) (Arr.new v5 (vc zeroV).toArray 34) (by decide) (splice_all _ _ (by rw [Hlx.out]; decide)) ?_; intro v6 hM6 hk6
         have f6 := hk6.fr (fr_new rr _) (Nat.le_refl _)
         replace top := fr_step top f6
         replace lM := fun (W : World) (h : Fr v6 W) => lM W (fr_step f6 h)
         replace lMk := fun (W : World) (h : Fr v6 W) => lMk W (fr_step f6 h)
         replace ho := keep (Own.below ho.out f6 (Nat.le_refl _))
         replace hq := keep (Own.below hq.out f6 (Nat.le_refl _))
         have rr := fr_refl v6
         have lX : ∀ W, Fr v6 W → (ldS 34 (.pointer (some ⟨v5.heap.size, 0, none⟩))).run Try.prog W = .ok (.agg (vc x0).toArray) W := fun W h => valS.ld Hlx.out (hM6.below h hM6.lt)
         clear hM6 hk6)
      | fail)
    refine (cA _ _ rr).mono ?_
    rintro e v7 ⟨rfl, f7⟩
    replace top := fr_step top f7
    replace lM := fun (W : World) (h : Fr v7 W) => lM W (fr_step f7 h)
    replace lMk := fun (W : World) (h : Fr v7 W) => lMk W (fr_step f7 h)
    replace lX := fun (W : World) (h : Fr v7 W) => lX W (fr_step f7 h)
    replace ho := keep (Own.below ho.out f7 (Nat.le_refl _))
    replace hq := keep (Own.below hq.out f7 (Nat.le_refl _))
    have rr := fr_refl v7
    go_wp2_with (first
      | (refine wpList_store_at (ds := vc wt) val_info rfl (.tmp 12) (.tmp 40) rfl v7.heap.size 0 rfl rfl Hlw.out (vc_one _) (Arr.new v7 (vc zeroV).toArray 34) (by decide) (splice_all _ _ (by rw [Hlw.out]; decide)) ?_; intro v8 hM8 hk8
         have f8 := hk8.fr (fr_new rr _) (Nat.le_refl _)
         replace top := fr_step top f8
         replace lM := fun (W : World) (h : Fr v8 W) => lM W (fr_step f8 h)
         replace lMk := fun (W : World) (h : Fr v8 W) => lMk W (fr_step f8 h)
         replace lX := fun (W : World) (h : Fr v8 W) => lX W (fr_step f8 h)
         replace ho := keep (Own.below ho.out f8 (Nat.le_refl _))
         replace hq := keep (Own.below hq.out f8 (Nat.le_refl _))
         have rr := fr_refl v8
         have lW : ∀ W, Fr v8 W → (ldS 34 (.pointer (some ⟨v7.heap.size, 0, none⟩))).run Try.prog W = .ok (.agg (vc wt).toArray) W := fun W h => valS.ld Hlw.out (hM8.below h hM8.lt)
         clear hM8 hk8)
      | fail)
    refine (cG _ _ _ hq).mono ?_
    rintro e v9 ⟨rfl, f9⟩
    replace top := fr_step top f9
    replace lM := fun (W : World) (h : Fr v9 W) => lM W (fr_step f9 h)
    replace lMk := fun (W : World) (h : Fr v9 W) => lMk W (fr_step f9 h)
    replace lX := fun (W : World) (h : Fr v9 W) => lX W (fr_step f9 h)
    replace lW := fun (W : World) (h : Fr v9 W) => lW W (fr_step f9 h)
    replace ho := keep (Own.below ho.out f9 (Nat.le_refl _))
    replace hq := keep (Own.below hq.out f9 (Nat.le_refl _))
    have rr := fr_refl v9
    go_wp2_with (first
      | (refine wpList_store_at (ds := vc wt) val_info rfl (.tmp 14) (.tmp 47) rfl v9.heap.size 0 rfl rfl Hlw.out (vc_one _) (Arr.new v9 (vc zeroV).toArray 34) (by decide) (splice_all _ _ (by rw [Hlw.out]; decide)) ?_; intro v10 hM10 hk10
         have f10 := hk10.fr (fr_new rr _) (Nat.le_refl _)
         replace top := fr_step top f10
         replace lM := fun (W : World) (h : Fr v10 W) => lM W (fr_step f10 h)
         replace lMk := fun (W : World) (h : Fr v10 W) => lMk W (fr_step f10 h)
         replace lX := fun (W : World) (h : Fr v10 W) => lX W (fr_step f10 h)
         replace lW := fun (W : World) (h : Fr v10 W) => lW W (fr_step f10 h)
         replace ho := keep (Own.below ho.out f10 (Nat.le_refl _))
         replace hq := keep (Own.below hq.out f10 (Nat.le_refl _))
         have rr := fr_refl v10
         have lW2 : ∀ W, Fr v10 W → (ldS 34 (.pointer (some ⟨v9.heap.size, 0, none⟩))).run Try.prog W = .ok (.agg (vc wt).toArray) W := fun W h => valS.ld Hlw.out (hM10.below h hM10.lt)
         clear hM10 hk10)
      | fail)
    refine (cK _ _ rr).mono ?_
    rintro e v11 ⟨rfl, f11⟩
    replace top := fr_step top f11
    replace lM := fun (W : World) (h : Fr v11 W) => lM W (fr_step f11 h)
    replace lMk := fun (W : World) (h : Fr v11 W) => lMk W (fr_step f11 h)
    replace lX := fun (W : World) (h : Fr v11 W) => lX W (fr_step f11 h)
    replace lW := fun (W : World) (h : Fr v11 W) => lW W (fr_step f11 h)
    replace lW2 := fun (W : World) (h : Fr v11 W) => lW2 W (fr_step f11 h)
    replace ho := keep (Own.below ho.out f11 (Nat.le_refl _))
    replace hq := keep (Own.below hq.out f11 (Nat.le_refl _))
    have rr := fr_refl v11
    go_wp2_with (first
      | (refine wpList_store_at (ds := kc k) key_info rfl (.tmp 16) (.tmp 50) rfl v11.heap.size 0 rfl rfl (kc_len _) (kc_one _) (Arr.new v11 (kc zeroK).toArray 27) (by rw [kc_len]; decide) (splice_all _ _ (Nat.le_of_eq rfl)) ?_; intro v12 hM12 hk12
         have f12 := hk12.fr (fr_new rr _) (Nat.le_refl _)
         replace top := fr_step top f12
         replace lM := fun (W : World) (h : Fr v12 W) => lM W (fr_step f12 h)
         replace lMk := fun (W : World) (h : Fr v12 W) => lMk W (fr_step f12 h)
         replace lX := fun (W : World) (h : Fr v12 W) => lX W (fr_step f12 h)
         replace lW := fun (W : World) (h : Fr v12 W) => lW W (fr_step f12 h)
         replace lW2 := fun (W : World) (h : Fr v12 W) => lW2 W (fr_step f12 h)
         replace ho := keep (Own.below ho.out f12 (Nat.le_refl _))
         replace hq := keep (Own.below hq.out f12 (Nat.le_refl _))
         have rr := fr_refl v12
         have lK : ∀ W, Fr v12 W → (ldS 27 (.pointer (some ⟨v11.heap.size, 0, none⟩))).run Try.prog W = .ok (.agg (kc k).toArray) W := fun W h => keyS.ld (kc_len _) (hM12.below h hM12.lt)
         clear hM12 hk12)
      | fail)
    refine (cY _ _ _ hq).mono ?_
    rintro e v13 ⟨rfl, f13⟩
    replace top := fr_step top f13
    replace lM := fun (W : World) (h : Fr v13 W) => lM W (fr_step f13 h)
    replace lMk := fun (W : World) (h : Fr v13 W) => lMk W (fr_step f13 h)
    replace lX := fun (W : World) (h : Fr v13 W) => lX W (fr_step f13 h)
    replace lW := fun (W : World) (h : Fr v13 W) => lW W (fr_step f13 h)
    replace lW2 := fun (W : World) (h : Fr v13 W) => lW2 W (fr_step f13 h)
    replace lK := fun (W : World) (h : Fr v13 W) => lK W (fr_step f13 h)
    replace ho := keep (Own.below ho.out f13 (Nat.le_refl _))
    replace hq := keep (Own.below hq.out f13 (Nat.le_refl _))
    have rr := fr_refl v13
    go_wp2_with (first
      | (refine wpList_store_at (ds := vc y1) val_info rfl (.tmp 17) (.tmp 55) rfl v13.heap.size 0 rfl rfl Hly.out (vc_one _) (Arr.new v13 (vc zeroV).toArray 34) (by decide) (splice_all _ _ (by rw [Hly.out]; decide)) ?_; intro v14 hM14 hk14
         have f14 := hk14.fr (fr_new rr _) (Nat.le_refl _)
         replace top := fr_step top f14
         replace lM := fun (W : World) (h : Fr v14 W) => lM W (fr_step f14 h)
         replace lMk := fun (W : World) (h : Fr v14 W) => lMk W (fr_step f14 h)
         replace lX := fun (W : World) (h : Fr v14 W) => lX W (fr_step f14 h)
         replace lW := fun (W : World) (h : Fr v14 W) => lW W (fr_step f14 h)
         replace lW2 := fun (W : World) (h : Fr v14 W) => lW2 W (fr_step f14 h)
         replace lK := fun (W : World) (h : Fr v14 W) => lK W (fr_step f14 h)
         replace ho := keep (Own.below ho.out f14 (Nat.le_refl _))
         replace hq := keep (Own.below hq.out f14 (Nat.le_refl _))
         have rr := fr_refl v14
         have lY : ∀ W, Fr v14 W → (ldS 34 (.pointer (some ⟨v13.heap.size, 0, none⟩))).run Try.prog W = .ok (.agg (vc y1).toArray) W := fun W h => valS.ld Hly.out (hM14.below h hM14.lt)
         clear hM14 hk14)
      | fail)
    refine (cZ _ _ _ ho).mono ?_
    rintro e v15 ⟨rfl, f15⟩
    replace top := fr_step top f15
    replace lM := fun (W : World) (h : Fr v15 W) => lM W (fr_step f15 h)
    replace lMk := fun (W : World) (h : Fr v15 W) => lMk W (fr_step f15 h)
    replace lX := fun (W : World) (h : Fr v15 W) => lX W (fr_step f15 h)
    replace lW := fun (W : World) (h : Fr v15 W) => lW W (fr_step f15 h)
    replace lW2 := fun (W : World) (h : Fr v15 W) => lW2 W (fr_step f15 h)
    replace lK := fun (W : World) (h : Fr v15 W) => lK W (fr_step f15 h)
    replace lY := fun (W : World) (h : Fr v15 W) => lY W (fr_step f15 h)
    replace ho := keep (Own.below ho.out f15 (Nat.le_refl _))
    replace hq := keep (Own.below hq.out f15 (Nat.le_refl _))
    have rr := fr_refl v15
    go_wp2_with (first
      | (refine wpList_store_at (ds := vc y1) val_info rfl (.tmp 19) (.tmp 61) rfl v15.heap.size 0 rfl rfl Hly.out (vc_one _) (Arr.new v15 (vc zeroV).toArray 34) (by decide) (splice_all _ _ (by rw [Hly.out]; decide)) ?_; intro v16 hM16 hk16
         have f16 := hk16.fr (fr_new rr _) (Nat.le_refl _)
         replace top := fr_step top f16
         replace lM := fun (W : World) (h : Fr v16 W) => lM W (fr_step f16 h)
         replace lMk := fun (W : World) (h : Fr v16 W) => lMk W (fr_step f16 h)
         replace lX := fun (W : World) (h : Fr v16 W) => lX W (fr_step f16 h)
         replace lW := fun (W : World) (h : Fr v16 W) => lW W (fr_step f16 h)
         replace lW2 := fun (W : World) (h : Fr v16 W) => lW2 W (fr_step f16 h)
         replace lK := fun (W : World) (h : Fr v16 W) => lK W (fr_step f16 h)
         replace lY := fun (W : World) (h : Fr v16 W) => lY W (fr_step f16 h)
         replace ho := keep (Own.below ho.out f16 (Nat.le_refl _))
         replace hq := keep (Own.below hq.out f16 (Nat.le_refl _))
         have rr := fr_refl v16
         have lZ : ∀ W, Fr v16 W → (ldS 34 (.pointer (some ⟨v15.heap.size, 0, none⟩))).run Try.prog W = .ok (.agg (vc y1).toArray) W := fun W h => valS.ld Hly.out (hM16.below h hM16.lt)
         clear hM16 hk16)
      | fail)
    refine (cC _ _ _ hq).mono ?_
    rintro e v17 ⟨rfl, f17⟩
    replace top := fr_step top f17
    replace lM := fun (W : World) (h : Fr v17 W) => lM W (fr_step f17 h)
    replace lMk := fun (W : World) (h : Fr v17 W) => lMk W (fr_step f17 h)
    replace lX := fun (W : World) (h : Fr v17 W) => lX W (fr_step f17 h)
    replace lW := fun (W : World) (h : Fr v17 W) => lW W (fr_step f17 h)
    replace lW2 := fun (W : World) (h : Fr v17 W) => lW2 W (fr_step f17 h)
    replace lK := fun (W : World) (h : Fr v17 W) => lK W (fr_step f17 h)
    replace lY := fun (W : World) (h : Fr v17 W) => lY W (fr_step f17 h)
    replace lZ := fun (W : World) (h : Fr v17 W) => lZ W (fr_step f17 h)
    replace ho := keep (Own.below ho.out f17 (Nat.le_refl _))
    replace hq := keep (Own.below hq.out f17 (Nat.le_refl _))
    have rr := fr_refl v17
    go_wp2_with fail
    refine (cW _ _ rr).mono ?_
    rintro e v18 ⟨rfl, f18⟩
    replace top := fr_step top f18
    replace lM := fun (W : World) (h : Fr v18 W) => lM W (fr_step f18 h)
    replace lMk := fun (W : World) (h : Fr v18 W) => lMk W (fr_step f18 h)
    replace lX := fun (W : World) (h : Fr v18 W) => lX W (fr_step f18 h)
    replace lW := fun (W : World) (h : Fr v18 W) => lW W (fr_step f18 h)
    replace lW2 := fun (W : World) (h : Fr v18 W) => lW2 W (fr_step f18 h)
    replace lK := fun (W : World) (h : Fr v18 W) => lK W (fr_step f18 h)
    replace lY := fun (W : World) (h : Fr v18 W) => lY W (fr_step f18 h)
    replace lZ := fun (W : World) (h : Fr v18 W) => lZ W (fr_step f18 h)
    replace ho := keep (Own.below ho.out f18 (Nat.le_refl _))
    replace hq := keep (Own.below hq.out f18 (Nat.le_refl _))
    have rr := fr_refl v18
    go_wp2_with fail
    go_ret
    exact ⟨rfl, top⟩
end Go.Proofs.Ytbdioipjgjbgmaa
