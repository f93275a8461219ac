/- LeafAll, walked. -/
import Derived.Test.YtbdioipjgjbgmaaLfQ
namespace Go.Proofs.Ytbdioipjgjbgmaa
set_option maxRecDepth 100000
open Go.RowKit
set_option linter.unusedVariables false
attribute [local go_sem ↓] key_ld ent_ld val_ld msg_ld
set_option maxHeartbeats 4000000 in
theorem leafAll_core {w : World} {A0 A1 : Option Addr} {n0 c0 n1 c1 : Nat} {ns ms : List Int} {kn : Int} (hl0 : Has w w.heap.size A0 (ns.map (Value.int .i64))) (hn0 : ns.length = n0) (hns : ∀ z ∈ ns, Is64 z) (hnm0 : n0 ≤ maxLen) (hl1 : Has w w.heap.size A1 (ms.map (Value.int .i64))) (hn1 : ms.length = n1) (hms : ∀ z ∈ ms, Is64 z) (hnm1 : n1 ≤ maxLen) (hkn : Is64 kn) :
    Calls Try.prog 7 #[.slice A0 n0 c0, .slice A1 n1 c1, .int .i64 kn] w fun e w' => e = .returned (.bool true) ∧ Below w.heap.size w w' := by
  have cE := qents (c := c0) (most := 3000) hl0 (Nat.le_refl _) hn0 hns (by omega) hnm0
  have ol := entsL_ok ns 3000
  have hlen := entsL_len ns 3000
  have cMs := fun W (h : Fr w W) => qmsgs (W := W) (c := c1) (most := 2000) (hl1.fr (Nat.le_refl _) h) h.size hn1 hms (by omega) hnm1
  have om' := msgsL_ok ms 2000
  have hlen2 := msgsL_len ms 2000
  have wk := lawK_wf kn
  have ok := lawK_ok kn
  have cK := fun W0 W h => law_key_at (W0 := W0) (W := W) (v := kn) hkn h
  have wm := lawM_wf kn 9
  have om := lawM_ok kn 9
  have cM := fun W0 W h => law_msg_at (W0 := W0) (W := W) (v := kn) (s := 9) hkn (by unfold Is64; omega) h
  generalize entsL ns 3000 = l at *
  generalize msgsL ms 2000 = q at *
  generalize lawK kn = k at *
  generalize lawM kn 9 = m at *
  clear hl0 hn0 hns hl1 hn1 hms hkn
  have wx : ((findE l k).getD zeroV).wf := getV_wf fun v hv => (findE_ok ol hv).1
  have wr := splK_wf ol
  have hsl := spl_le l
  have o1 := spl1_ok ol
  have o2 := spl2_ok ol
  have op := putE_ok ol wm om
  have oa := allE_ok ol om'.good
  have hlp := putE_le l m
  have hla := allE_le q l
  have cF := fun W A c (ho : Hid (OwnE W 0 A c l)) => qfind (k := k) ho (by omega) ol wk ok
  have cRF := fun W A c (ho : Hid (OwnE W 0 A c l)) => qrfind (k := k) ho (by omega) ol wk
  unfold findEV at cF cRF
  have cSp := fun W A c (ho : Hid (OwnE W 0 A c l)) => qsplit ho (by omega) ol
  have cRSp := fun W A c (ho : Hid (OwnE W 0 A c l)) => qrsplit ho (by omega) ol
  have cS1 : ∀ W A c A2 c2, Hid (OwnE W 0 A c (spl1 l)) → Hid (OwnE W 0 A2 c2 (spl1 l)) → Calls Try.prog 44 #[.slice A (spl1 l).length c, .slice A2 (spl1 l).length c2] W fun e w' => e = .returned (.bool true) ∧ Fr W w' := fun W A c A2 c2 h h' => by
    have := qsame h (by omega) o1.wfe h' (by omega) o1.wfe
    rwa [decide_eq_true rfl] at this
  have cS2 : ∀ W A c A2 c2, Hid (OwnE W 0 A c (spl2 l)) → Hid (OwnE W 0 A2 c2 (spl2 l)) → Calls Try.prog 44 #[.slice A (spl2 l).length c, .slice A2 (spl2 l).length c2] W fun e w' => e = .returned (.bool true) ∧ Fr W w' := fun W A c A2 c2 h h' => by
    have := qsame h (by omega) o2.wfe h' (by omega) o2.wfe
    rwa [decide_eq_true rfl] at this
  have cSP : ∀ W A c A2 c2, Hid (OwnE W 0 A c (putE l m)) → Hid (OwnE W 0 A2 c2 (putE l m)) → Calls Try.prog 44 #[.slice A (putE l m).length c, .slice A2 (putE l m).length c2] W fun e w' => e = .returned (.bool true) ∧ Fr W w' := fun W A c A2 c2 h h' => by
    have := qsame h (by omega) op.wfe h' (by omega) op.wfe
    rwa [decide_eq_true rfl] at this
  have cSA : ∀ W A c A2 c2, Hid (OwnE W 0 A c (allE l q)) → Hid (OwnE W 0 A2 c2 (allE l q)) → Calls Try.prog 44 #[.slice A (allE l q).length c, .slice A2 (allE l q).length c2] W fun e w' => e = .returned (.bool true) ∧ Fr W w' := fun W A c A2 c2 h h' => by
    have := qsame h (by omega) oa.wfe h' (by omega) oa.wfe
    rwa [decide_eq_true rfl] at this
  have cC := fun W A c (ho : Hid (OwnE W 0 A c l)) => qcheck ho (by omega) ol
  have cB := fun W A c (ho : Hid (OwnE W 0 A c l)) => qbytes ho (by omega) ol
  have cRB := fun W A c (ho : Hid (OwnE W 0 A c l)) => qrbytes ho (by omega) ol
  have cP := fun W A c (ho : Hid (OwnE W 0 A c l)) => qput (m := m) ho (by omega) ol wm om
  have cRP := fun W A c (ho : Hid (OwnE W 0 A c l)) => qrput (m := m) ho (by omega) ol wm om
  have cA := fun W A c A2 c2 (ho : Hid (OwnE W 0 A c l)) (h2 : Hid (OwnM W 0 A2 c2 q)) => qall (c2 := c2) ho (by omega) ol (keep h2.out.has) (keep (Nat.le_refl _)) (keep rfl) (by omega) om'.good
  have cRA := fun W A c A2 c2 (ho : Hid (OwnE W 0 A c l)) (h2 : Hid (OwnM W 0 A2 c2 q)) => qrall (c2 := c2) ho (by omega) ol (keep h2.out.has) (keep (Nat.le_refl _)) (keep rfl) (by omega) om'.good
  have cW := fun W0 W h => awake7_at (W0 := W0) (W := W) h
  have qx := fun W => val_nself wx W
  have qr := fun W => key_nself wr W
  have Hlm := keep (mc_len wm.val.hl)
  have Hlx := keep (vc_len wx.hl)
  have rr := fr_refl w
  have top := fr_refl w
  generalize (findE l k).isSome = b0 at *
  generalize (findE l k).getD zeroV = x at *
  generalize splK l = r at *
  generalize splB l = sb at *
  generalize spl1 l = s1 at *
  generalize spl2 l = s2 at *
  generalize putE l m = pl at *
  generalize allE l q = al at *
  generalize bytsE l = by0 at *
  clear ol om' wk ok om wx wr o1 o2 op oa wm
  go_enter Try.func7, Try.ntmps7
  go_wp2_with fail
  refine (cE).mono ?_
  rintro e v1 ⟨A, c, rfl, ho, f1⟩
  replace top := fr_step top f1
  have rr := fr_refl v1
  go_wp2_with fail
  refine (cMs _ top).mono ?_
  rintro e v2 ⟨Am, cm, rfl, hms, f2⟩
  replace top := fr_step top f2
  replace ho := keep (Own.below ho.out f2 (Nat.le_refl _))
  have rr := fr_refl v2
  go_wp2_with fail
  refine (cK _ _ rr).mono ?_
  rintro e v3 ⟨rfl, f3⟩
  replace top := fr_step top f3
  replace ho := keep (Own.below ho.out f3 (Nat.le_refl _))
  replace hms := keep (Own.below hms.out f3 (Nat.le_refl _))
  have rr := fr_refl v3
  go_wp2_with fail
  refine (cM _ _ rr).mono ?_
  rintro e v4 ⟨rfl, f4⟩
  replace top := fr_step top f4
  replace ho := keep (Own.below ho.out f4 (Nat.le_refl _))
  replace hms := keep (Own.below hms.out f4 (Nat.le_refl _))
  have rr := fr_refl v4
  have tok0 : Hid (0 < 1) := keep (by decide)
  have tok1 : Hid (0 < 1) := keep (by decide)
  go_wp2_with (first
    | (clear tok0; refine wpList_store_at (ds := kc k) key_info rfl (.tmp 9) (.tmp 28) rfl v4.heap.size 0 rfl rfl (kc_len _) (kc_one _) (Arr.alloc (Arr.new v4 (kc zeroK).toArray 27) (.cells (mc zeroM).toArray 36)) (by rw [kc_len]; decide) (splice_all _ _ (Nat.le_of_eq rfl)) ?_; intro Ya hKa hka
       have fa := hka.fr (fr_new (fr_new rr _) _) (Nat.le_refl _)
       have hMa := hka.other (arr_at (v4.alloc (.cells (kc zeroK).toArray 27)) (mc zeroM).toArray 36 (v4.heap.size + 1) (by simp)) (by omega)
       clear hka)
    | (clear tok1; refine wpList_store_at (ds := mc m) msg_info rfl (.tmp 10) (.tmp 30) rfl (v4.heap.size + 1) 0 rfl rfl Hlm.out (mc_one _) hMa (by decide) (splice_all _ _ (by rw [Hlm.out]; decide)) ?_; intro v5 hMb hkb
       have hKb := hkb.other hKa (by omega)
       have f5 := hkb.fr fa (by omega)
       replace top := fr_step top f5
       replace ho := keep (Own.below ho.out f5 (Nat.le_refl _))
       replace hms := keep (Own.below hms.out f5 (Nat.le_refl _))
       have rr := fr_refl v5
       have lK : ∀ W, Fr v5 W → (ldS 27 (.pointer (some ⟨v4.heap.size, 0, none⟩))).run Try.prog W = .ok (.agg (kc k).toArray) W := fun W h => keyS.ld (kc_len _) (hKb.below h hKb.lt)
       have lM : ∀ W, Fr v5 W → (ldS 36 (.pointer (some ⟨v4.heap.size + 1, 0, none⟩))).run Try.prog W = .ok (.agg (mc m).toArray) W := fun W h => msgS.ld Hlm.out (hMb.below h hMb.lt)
       clear hKa hMa hMb hkb hKb fa)
    | fail)
  refine (cF _ _ _ ho).mono ?_
  rintro e v6 ⟨rfl, f6⟩
  replace top := fr_step top f6
  replace lK := fun (W : World) (h : Fr v6 W) => lK W (fr_step f6 h)
  replace lM := fun (W : World) (h : Fr v6 W) => lM W (fr_step f6 h)
  replace ho := keep (Own.below ho.out f6 (Nat.le_refl _))
  replace hms := keep (Own.below hms.out f6 (Nat.le_refl _))
  have rr := fr_refl v6
  have tok0 : Hid (0 < 1) := keep (by decide)
  go_wp2_with (first
    | (clear tok0; refine wpList_store_at (ds := vc x) val_info rfl (.tmp 11) (.tmp 35) rfl v6.heap.size 0 rfl rfl Hlx.out (vc_one _) (Arr.new v6 (vc zeroV).toArray 34) (by decide) (splice_all _ _ (by rw [Hlx.out]; decide)) ?_; intro v7 hM7 hk7
       have f7 := hk7.fr (fr_new rr _) (Nat.le_refl _)
       replace top := fr_step top f7
       replace lK := fun (W : World) (h : Fr v7 W) => lK W (fr_step f7 h)
       replace lM := fun (W : World) (h : Fr v7 W) => lM W (fr_step f7 h)
       replace ho := keep (Own.below ho.out f7 (Nat.le_refl _))
       replace hms := keep (Own.below hms.out f7 (Nat.le_refl _))
       have rr := fr_refl v7
       have lX : ∀ W, Fr v7 W → (ldS 34 (.pointer (some ⟨v6.heap.size, 0, none⟩))).run Try.prog W = .ok (.agg (vc x).toArray) W := fun W h => valS.ld Hlx.out (hM7.below h hM7.lt)
       clear hM7 hk7)
    | fail)
  refine (cRF _ _ _ ho).mono ?_
  rintro e v8 ⟨rfl, f8⟩
  replace top := fr_step top f8
  replace lK := fun (W : World) (h : Fr v8 W) => lK W (fr_step f8 h)
  replace lM := fun (W : World) (h : Fr v8 W) => lM W (fr_step f8 h)
  replace lX := fun (W : World) (h : Fr v8 W) => lX W (fr_step f8 h)
  replace ho := keep (Own.below ho.out f8 (Nat.le_refl _))
  replace hms := keep (Own.below hms.out f8 (Nat.le_refl _))
  have rr := fr_refl v8
  have tok0 : Hid (0 < 1) := keep (by decide)
  go_wp2_with (first
    | (clear tok0; refine wpList_store_at (ds := vc x) val_info rfl (.tmp 13) (.tmp 41) rfl v8.heap.size 0 rfl rfl Hlx.out (vc_one _) (Arr.new v8 (vc zeroV).toArray 34) (by decide) (splice_all _ _ (by rw [Hlx.out]; decide)) ?_; intro v9 hM9 hk9
       have f9 := hk9.fr (fr_new rr _) (Nat.le_refl _)
       replace top := fr_step top f9
       replace lK := fun (W : World) (h : Fr v9 W) => lK W (fr_step f9 h)
       replace lM := fun (W : World) (h : Fr v9 W) => lM W (fr_step f9 h)
       replace lX := fun (W : World) (h : Fr v9 W) => lX W (fr_step f9 h)
       replace ho := keep (Own.below ho.out f9 (Nat.le_refl _))
       replace hms := keep (Own.below hms.out f9 (Nat.le_refl _))
       have rr := fr_refl v9
       have lX2 : ∀ W, Fr v9 W → (ldS 34 (.pointer (some ⟨v8.heap.size, 0, none⟩))).run Try.prog W = .ok (.agg (vc x).toArray) W := fun W h => valS.ld Hlx.out (hM9.below h hM9.lt)
       clear hM9 hk9)
    | fail)
  refine (cSp _ _ _ ho).mono ?_
  rintro e v10 ⟨A1, c1, A2, c2, rfl, h1, h2, f10⟩
  replace top := fr_step top f10
  replace lK := fun (W : World) (h : Fr v10 W) => lK W (fr_step f10 h)
  replace lM := fun (W : World) (h : Fr v10 W) => lM W (fr_step f10 h)
  replace lX := fun (W : World) (h : Fr v10 W) => lX W (fr_step f10 h)
  replace lX2 := fun (W : World) (h : Fr v10 W) => lX2 W (fr_step f10 h)
  replace ho := keep (Own.below ho.out f10 (Nat.le_refl _))
  replace hms := keep (Own.below hms.out f10 (Nat.le_refl _))
  have rr := fr_refl v10
  have tok0 : Hid (0 < 1) := keep (by decide)
  go_wp2_with (first
    | (clear tok0; refine wpList_store_at (ds := kc r) key_info rfl (.tmp 17) (.tmp 48) rfl v10.heap.size 0 rfl rfl (kc_len _) (kc_one _) (Arr.new v10 (kc zeroK).toArray 27) (by rw [kc_len]; decide) (splice_all _ _ (Nat.le_of_eq rfl)) ?_; intro v11 hM11 hk11
       have f11 := hk11.fr (fr_new rr _) (Nat.le_refl _)
       replace top := fr_step top f11
       replace lK := fun (W : World) (h : Fr v11 W) => lK W (fr_step f11 h)
       replace lM := fun (W : World) (h : Fr v11 W) => lM W (fr_step f11 h)
       replace lX := fun (W : World) (h : Fr v11 W) => lX W (fr_step f11 h)
       replace lX2 := fun (W : World) (h : Fr v11 W) => lX2 W (fr_step f11 h)
       replace ho := keep (Own.below ho.out f11 (Nat.le_refl _))
       replace hms := keep (Own.below hms.out f11 (Nat.le_refl _))
       replace h1 := keep (Own.below h1.out f11 (Nat.le_refl _))
       replace h2 := keep (Own.below h2.out f11 (Nat.le_refl _))
       have rr := fr_refl v11
       have lR : ∀ W, Fr v11 W → (ldS 27 (.pointer (some ⟨v10.heap.size, 0, none⟩))).run Try.prog W = .ok (.agg (kc r).toArray) W := fun W h => keyS.ld (kc_len _) (hM11.below h hM11.lt)
       clear hM11 hk11)
    | fail)
  refine (cRSp _ _ _ ho).mono ?_
  rintro e v12 ⟨A3, c3, A4, c4, rfl, h3, h4, f12⟩
  replace top := fr_step top f12
  replace lK := fun (W : World) (h : Fr v12 W) => lK W (fr_step f12 h)
  replace lM := fun (W : World) (h : Fr v12 W) => lM W (fr_step f12 h)
  replace lX := fun (W : World) (h : Fr v12 W) => lX W (fr_step f12 h)
  replace lX2 := fun (W : World) (h : Fr v12 W) => lX2 W (fr_step f12 h)
  replace lR := fun (W : World) (h : Fr v12 W) => lR W (fr_step f12 h)
  replace ho := keep (Own.below ho.out f12 (Nat.le_refl _))
  replace hms := keep (Own.below hms.out f12 (Nat.le_refl _))
  replace h1 := keep (Own.below h1.out f12 (Nat.le_refl _))
  replace h2 := keep (Own.below h2.out f12 (Nat.le_refl _))
  have rr := fr_refl v12
  have tok0 : Hid (0 < 1) := keep (by decide)
  go_wp2_with (first
    | (clear tok0; refine wpList_store_at (ds := kc r) key_info rfl (.tmp 21) (.tmp 55) rfl v12.heap.size 0 rfl rfl (kc_len _) (kc_one _) (Arr.new v12 (kc zeroK).toArray 27) (by rw [kc_len]; decide) (splice_all _ _ (Nat.le_of_eq rfl)) ?_; intro v13 hM13 hk13
       have f13 := hk13.fr (fr_new rr _) (Nat.le_refl _)
       replace top := fr_step top f13
       replace lK := fun (W : World) (h : Fr v13 W) => lK W (fr_step f13 h)
       replace lM := fun (W : World) (h : Fr v13 W) => lM W (fr_step f13 h)
       replace lX := fun (W : World) (h : Fr v13 W) => lX W (fr_step f13 h)
       replace lX2 := fun (W : World) (h : Fr v13 W) => lX2 W (fr_step f13 h)
       replace lR := fun (W : World) (h : Fr v13 W) => lR W (fr_step f13 h)
       replace ho := keep (Own.below ho.out f13 (Nat.le_refl _))
       replace hms := keep (Own.below hms.out f13 (Nat.le_refl _))
       replace h1 := keep (Own.below h1.out f13 (Nat.le_refl _))
       replace h2 := keep (Own.below h2.out f13 (Nat.le_refl _))
       replace h3 := keep (Own.below h3.out f13 (Nat.le_refl _))
       replace h4 := keep (Own.below h4.out f13 (Nat.le_refl _))
       have rr := fr_refl v13
       have lR2 : ∀ W, Fr v13 W → (ldS 27 (.pointer (some ⟨v12.heap.size, 0, none⟩))).run Try.prog W = .ok (.agg (kc r).toArray) W := fun W h => keyS.ld (kc_len _) (hM13.below h hM13.lt)
       clear hM13 hk13)
    | fail)
  refine (cS1 _ _ _ _ _ h1 h3).mono ?_
  rintro e v14 ⟨rfl, f14⟩
  replace top := fr_step top f14
  replace lK := fun (W : World) (h : Fr v14 W) => lK W (fr_step f14 h)
  replace lM := fun (W : World) (h : Fr v14 W) => lM W (fr_step f14 h)
  replace lX := fun (W : World) (h : Fr v14 W) => lX W (fr_step f14 h)
  replace lX2 := fun (W : World) (h : Fr v14 W) => lX2 W (fr_step f14 h)
  replace lR := fun (W : World) (h : Fr v14 W) => lR W (fr_step f14 h)
  replace lR2 := fun (W : World) (h : Fr v14 W) => lR2 W (fr_step f14 h)
  replace ho := keep (Own.below ho.out f14 (Nat.le_refl _))
  replace hms := keep (Own.below hms.out f14 (Nat.le_refl _))
  replace h1 := keep (Own.below h1.out f14 (Nat.le_refl _))
  replace h2 := keep (Own.below h2.out f14 (Nat.le_refl _))
  replace h3 := keep (Own.below h3.out f14 (Nat.le_refl _))
  replace h4 := keep (Own.below h4.out f14 (Nat.le_refl _))
  have rr := fr_refl v14
  go_wp2_with fail
  refine (cS2 _ _ _ _ _ h2 h4).mono ?_
  rintro e v15 ⟨rfl, f15⟩
  replace top := fr_step top f15
  replace lK := fun (W : World) (h : Fr v15 W) => lK W (fr_step f15 h)
  replace lM := fun (W : World) (h : Fr v15 W) => lM W (fr_step f15 h)
  replace lX := fun (W : World) (h : Fr v15 W) => lX W (fr_step f15 h)
  replace lX2 := fun (W : World) (h : Fr v15 W) => lX2 W (fr_step f15 h)
  replace lR := fun (W : World) (h : Fr v15 W) => lR W (fr_step f15 h)
  replace lR2 := fun (W : World) (h : Fr v15 W) => lR2 W (fr_step f15 h)
  replace ho := keep (Own.below ho.out f15 (Nat.le_refl _))
  replace hms := keep (Own.below hms.out f15 (Nat.le_refl _))
  replace h1 := keep (Own.below h1.out f15 (Nat.le_refl _))
  replace h2 := keep (Own.below h2.out f15 (Nat.le_refl _))
  replace h3 := keep (Own.below h3.out f15 (Nat.le_refl _))
  replace h4 := keep (Own.below h4.out f15 (Nat.le_refl _))
  have rr := fr_refl v15
  go_wp2_with fail
  refine (cC _ _ _ ho).mono ?_
  rintro e v16 ⟨rfl, f16⟩
  replace top := fr_step top f16
  replace lK := fun (W : World) (h : Fr v16 W) => lK W (fr_step f16 h)
  replace lM := fun (W : World) (h : Fr v16 W) => lM W (fr_step f16 h)
  replace lX := fun (W : World) (h : Fr v16 W) => lX W (fr_step f16 h)
  replace lX2 := fun (W : World) (h : Fr v16 W) => lX2 W (fr_step f16 h)
  replace lR := fun (W : World) (h : Fr v16 W) => lR W (fr_step f16 h)
  replace lR2 := fun (W : World) (h : Fr v16 W) => lR2 W (fr_step f16 h)
  replace ho := keep (Own.below ho.out f16 (Nat.le_refl _))
  replace hms := keep (Own.below hms.out f16 (Nat.le_refl _))
  replace h1 := keep (Own.below h1.out f16 (Nat.le_refl _))
  replace h2 := keep (Own.below h2.out f16 (Nat.le_refl _))
  replace h3 := keep (Own.below h3.out f16 (Nat.le_refl _))
  replace h4 := keep (Own.below h4.out f16 (Nat.le_refl _))
  have rr := fr_refl v16
  go_wp2_with fail
  have hYD := fr_drew rr
  have hoB : ∀ W, Fr v16 W → Hid (OwnE W 0 A c l) := fun W h => keep (Own.below ho.out h (Nat.le_refl _))
  have hmB : ∀ W, Fr v16 W → Hid (OwnM W 0 Am cm q) := fun W h => keep (Own.below hms.out h (Nat.le_refl _))
  clear ho hms h1 h2 h3 h4 lX lX2 lR lR2 lK cE cMs cK cM cF cRF cSp cRSp cS1 cS2 cC
  go_region_held3 (fun w' => Fr v16 w') (first | exact hYD | assumption)
    (first
      | (go_at_call 46; (with_reducible refine (cB _ _ _ (hoB _ (by assumption))).mono ?_); rintro e y1 ⟨rfl, z1⟩; have k1 : Fr v16 y1 := fr_step (by assumption) z1)
      | (go_at_call 47; (with_reducible refine (cRB _ _ _ (hoB _ (by assumption))).mono ?_); rintro e y2 ⟨rfl, z2⟩; have k2 : Fr v16 y2 := fr_step (by assumption) z2)
      | (go_at_call 48; (with_reducible refine (cP _ _ _ (hoB _ (by assumption))).mono ?_); rintro e y3 ⟨A5, c5, rfl, g5, z3⟩; have k3 : Fr v16 y3 := fr_step (by assumption) z3; try have g6b := keep (Own.below g6.out z3 (Nat.le_refl _)))
      | (go_at_call 49; (with_reducible refine (cRP _ _ _ (hoB _ (by assumption))).mono ?_); rintro e y4 ⟨A6, c6, rfl, g6, z4⟩; have k4 : Fr v16 y4 := fr_step (by assumption) z4; try have g5b := keep (Own.below g5.out z4 (Nat.le_refl _)))
      | (go_at_call 44; (with_reducible refine (cSP _ _ _ _ _ (by assumption) (by assumption)).mono ?_); rintro e y5 ⟨rfl, z5⟩; have k5 : Fr v16 y5 := fr_step (by assumption) z5)
      | (go_at_call 50; (with_reducible refine (cA _ _ _ _ _ (hoB _ (by assumption)) (hmB _ (by assumption))).mono ?_); rintro e y6 ⟨A7, c7, rfl, g7, z6⟩; have k6 : Fr v16 y6 := fr_step (by assumption) z6; try have g8b := keep (Own.below g8.out z6 (Nat.le_refl _)))
      | (go_at_call 38; (with_reducible refine (cRA _ _ _ _ _ (hoB _ (by assumption)) (hmB _ (by assumption))).mono ?_); rintro e y7 ⟨A8, c8, rfl, g8, z7⟩; have k7 : Fr v16 y7 := fr_step (by assumption) z7; try have g7b := keep (Own.below g7.out z7 (Nat.le_refl _)))
      | (go_at_call 44; (with_reducible refine (cSA _ _ _ _ _ (by assumption) (by assumption)).mono ?_); rintro e y8 ⟨rfl, z8⟩; have k8 : Fr v16 y8 := fr_step (by assumption) z8)
      | (go_at_call 51; (with_reducible refine (cW _ _ (fr_refl _)).mono ?_); rintro e y9 ⟨rfl, z9⟩; have k9 : Fr v16 y9 := fr_step (by assumption) z9))
  all_goals
    go_wp2_with fail
    go_ret
    exact ⟨rfl, fr_step top (by assumption)⟩
end Go.Proofs.Ytbdioipjgjbgmaa
