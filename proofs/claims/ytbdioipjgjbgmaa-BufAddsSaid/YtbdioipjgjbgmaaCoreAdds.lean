/- BufAdds, walked. -/
import Derived.Test.YtbdioipjgjbgmaaLfU
namespace Go.Proofs.Ytbdioipjgjbgmaa
set_option maxRecDepth 100000
open Go.RowKit
set_option linter.unusedVariables false
attribute [local go_sem ↓] key_ld msg_ld msg_st
set_option maxHeartbeats 4000000 in
theorem bufAdds_core {w : World} {A0 : Option Addr} {n0 c0 : Nat} {ns : List Int} {vn kn : Int} (hl0 : Has w w.heap.size A0 (ns.map (Value.int .i64))) (hn0 : ns.length = n0) (hns : ∀ z ∈ ns, Is64 z) (hnm0 : n0 ≤ maxLen) (hvn : Is64 vn) (hkn : Is64 kn) :
    Calls Try.prog 4 #[.slice A0 n0 c0, .int .i64 vn, .int .i64 kn] w fun e w' => e = .returned (.bool true) ∧ Below w.heap.size w w' := by
  have cE := qmsgs (c := c0) (most := 2000) hl0 (Nat.le_refl _) hn0 hns (by omega) hnm0
  have ol := msgsL_ok ns 2000
  have hlen := msgsL_len ns 2000
  have wk := lawK_wf kn
  have ok := lawK_ok kn
  have cK := fun W0 W h => law_key_at (W0 := W0) (W := W) (v := kn) hkn h
  have wm := lawM_wf vn 500
  have om := lawM_ok vn 500
  have cM := fun W0 W h => law_msg_at (W0 := W0) (W := W) (v := vn) (s := 500) hvn (by unfold Is64; omega) h
  generalize msgsL ns 2000 = l at *
  generalize lawK kn = k at *
  generalize lawM vn 500 = m at *
  clear hl0 hn0 hns hvn hkn
  have olq := addL_ok ol wm om
  have hlq := addL_length ol wm om
  have hle := addL_le l m
  have hfw := find_added ol wm om
  have hfo : ¬ k = m.key → findL (addL l m) k = findL l k := fun h => find_other ol wm om h
  have wq : (wantM (findL l m.key) m).wf := by
    cases hf : findL l m.key with
    | none => exact wm
    | some x => exact comp_wf (ol.good x (findL_mem hf).1).1 wm
  have wwas := getM_wf (o := findL l m.key) fun x hx => (ol.good x (findL_mem hx).1).1
  have wx := getM_wf (o := findL (addL l m) k) fun x hx => (olq.good x (findL_mem hx).1).1
  have wy := getM_wf (o := findL l k) fun x hx => (ol.good x (findL_mem hx).1).1
  have cP := fun W A c (ho : Hid (OwnM W 0 A c l)) => qadd (m := m) ho (by omega) ol wm om
  have cF := fun W A c (ho : Hid (OwnM W 0 A c l)) => qmrfind (k := m.key) ho (by omega) ol wm.key
  have cG := fun W A c (ho : Hid (OwnM W 0 A c (addL l m))) => qmfind (k := m.key) ho (by omega) olq wm.key (okM_key om)
  have cC := fun W A c (ho : Hid (OwnM W 0 A c (addL l m))) => qmrcheck ho (by omega) olq
  have cY := fun W A c (ho : Hid (OwnM W 0 A c (addL l m))) => qmfind (k := k) ho (by omega) olq wk ok
  have cZ := fun W A c (ho : Hid (OwnM W 0 A c l)) => qmrfind (k := k) ho (by omega) ol wk
  have cW := fun W0 W h => awake6_at (W0 := W0) (W := W) h
  rw [hfw] at cG
  unfold findV at cF cG cY cZ
  simp only [Option.getD_some, Option.isSome_some] at cG
  have cQ : (findL l m.key).isSome = true → ∀ W0 W, Fr W0 W → Calls Try.prog 35 #[mm ((findL l m.key).getD zeroM), mm m] W fun e w' => e = .returned (mm (wantM (findL l m.key) m)) ∧ Fr W0 w' := by
    cases hf : findL l m.key with
    | none => intro h; cases h
    | some x =>
      intro _ W0 W h
      have gx := ol.good x (findL_mem hf).1
      exact rmcompose_at gx.1 wm gx.2 om h
  have hnw : (findL l m.key).isSome = false → wantM (findL l m.key) m = m := by
    cases findL l m.key with
    | none => intro _; rfl
    | some x => intro h; cases h
  have hy1 : ¬ k = m.key → (findL (addL l m) k).isSome = (findL l k).isSome := fun h => by rw [hfo h]
  have hy2 : ¬ k = m.key → (findL (addL l m) k).getD zeroM = (findL l k).getD zeroM := fun h => by rw [hfo h]
  have qk := fun W => key_eql wk wm.key W
  have qn := fun W => msg_nself wq W
  have qx := fun W => msg_self wx W
  have Hlm := keep (mc_len wm.val.hl)
  have Hlq := keep (mc_len wq.val.hl)
  have Hlw := keep (mc_len wwas.val.hl)
  have Hlx := keep (mc_len wx.val.hl)
  have Hly := keep (mc_len wy.val.hl)
  have rr := fr_refl w
  have top := fr_refl w
  generalize wantM (findL l m.key) m = q at *
  generalize (findL l m.key).isSome = had at *
  generalize (findL l m.key).getD zeroM = was at *
  generalize (findL (addL l m) k).isSome = b1 at *
  generalize (findL (addL l m) k).getD zeroM = x1 at *
  generalize (findL l k).isSome = b2 at *
  generalize (findL l k).getD zeroM = y1 at *
  generalize addL l m = s at *
  generalize hsl : s.length = nq at *
  generalize hll : l.length = n at *
  have Hwm := keep wm
  clear ol olq hfw hfo wq wwas wx wy wk ok om wm hsl hll hle
  cases had
  · have e1 : nq = n + 1 := by rw [hlq]; rfl
    have hqm : q = m := hnw rfl
    subst hqm
    subst e1
    clear hlq hnw cQ
    by_cases hkm : k = q.key
    · rw [decide_eq_true hkm] at qk
      clear hy1 hy2 hkm
      go_enter Try.func4, Try.ntmps4
      go_wp2_with fail
      refine (cE).mono ?_
      rintro e v1 ⟨A, c, rfl, ho, f1⟩
      replace top := fr_step top f1
      have rr := fr_refl v1
      go_wp2_with fail
      refine (cM _ _ rr).mono ?_
      rintro e v2 ⟨rfl, f2⟩
      replace top := fr_step top f2
      replace ho := keep (Own.below ho.out f2 (Nat.le_refl _))
      have rr := fr_refl v2
      have tok0 : Hid (0 < 1) := keep (by decide)
      go_wp2_with (first
        | (clear tok0; refine wpList_store_at (ds := mc q) msg_info rfl (.tmp 8) (.tmp 23) rfl v2.heap.size 0 rfl rfl Hlm.out (mc_one _) (Arr.new v2 (mc zeroM).toArray 36) (by decide) (splice_all _ _ (by rw [Hlm.out]; decide)) ?_; intro v3 hM3 hk3
           have f3 := hk3.fr (fr_new rr _) (Nat.le_refl _)
           replace top := fr_step top f3
           replace ho := keep (Own.below ho.out f3 (Nat.le_refl _))
           have rr := fr_refl v3
           have lM : ∀ W, Fr v3 W → (ldS 36 (.pointer (some ⟨v2.heap.size, 0, none⟩))).run Try.prog W = .ok (.agg (mc q).toArray) W := fun W h => msgS.ld Hlm.out (hM3.below h hM3.lt)
           have lMk := msg_keyAt hM3
           clear hM3 hk3)
        | fail)
      refine (cP _ _ _ ho).mono ?_
      rintro e v4 ⟨A2, c2, rfl, hq, f4⟩
      replace top := fr_step top f4
      replace lM := fun (W : World) (h : Fr v4 W) => lM W (fr_step f4 h)
      replace lMk := fun (W : World) (h : Fr v4 W) => lMk W (fr_step f4 h)
      replace ho := keep (Own.below ho.out f4 (Nat.le_refl _))
      have rr := fr_refl v4
      go_wp2_with fail
      refine (cF _ _ _ ho).mono ?_
      rintro e v5 ⟨rfl, f5⟩
      replace top := fr_step top f5
      replace lM := fun (W : World) (h : Fr v5 W) => lM W (fr_step f5 h)
      replace lMk := fun (W : World) (h : Fr v5 W) => lMk W (fr_step f5 h)
      replace ho := keep (Own.below ho.out f5 (Nat.le_refl _))
      replace hq := keep (Own.below hq.out f5 (Nat.le_refl _))
      have rr := fr_refl v5
      have tok0 : Hid (0 < 1) := keep (by decide)
      have tok1 : Hid (0 < 1) := keep (by decide)
      go_wp2_with (first
        | (clear tok0; refine wpList_store_at (ds := mc was) msg_info rfl (.tmp 10) (.tmp 32) rfl v5.heap.size 0 rfl rfl Hlw.out (mc_one _) (Arr.new v5 (mc zeroM).toArray 36) (by decide) (splice_all _ _ (by rw [Hlw.out]; decide)) ?_; intro v6 hM6 hk6
           have f6 := hk6.fr (fr_new rr _) (Nat.le_refl _)
           replace top := fr_step top f6
           replace lM := fun (W : World) (h : Fr v6 W) => lM W (fr_step f6 h)
           replace lMk := fun (W : World) (h : Fr v6 W) => lMk W (fr_step f6 h)
           replace ho := keep (Own.below ho.out f6 (Nat.le_refl _))
           replace hq := keep (Own.below hq.out f6 (Nat.le_refl _))
           have rr := fr_refl v6
           have lW : ∀ W, Fr v6 W → (ldS 36 (.pointer (some ⟨v5.heap.size, 0, none⟩))).run Try.prog W = .ok (.agg (mc was).toArray) W := fun W h => msgS.ld Hlw.out (hM6.below h hM6.lt)
           clear hM6 hk6)
        | (clear tok1; refine wpList_store_at (ds := mc q) msg_info rfl (.tmp 12) (.tmp 34) rfl v6.heap.size 0 rfl rfl Hlm.out (mc_one _) (Arr.new v6 (mc zeroM).toArray 36) (by decide) (splice_all _ _ (by rw [Hlm.out]; decide)) ?_; intro v7 hM7 hk7
           have f7 := hk7.fr (fr_new rr _) (Nat.le_refl _)
           replace top := fr_step top f7
           replace lM := fun (W : World) (h : Fr v7 W) => lM W (fr_step f7 h)
           replace lMk := fun (W : World) (h : Fr v7 W) => lMk W (fr_step f7 h)
           replace lW := fun (W : World) (h : Fr v7 W) => lW W (fr_step f7 h)
           replace ho := keep (Own.below ho.out f7 (Nat.le_refl _))
           replace hq := keep (Own.below hq.out f7 (Nat.le_refl _))
           have rr := fr_refl v7
           have lN : ∀ W, Fr v7 W → (ldS 36 (.pointer (some ⟨v6.heap.size, 0, none⟩))).run Try.prog W = .ok (.agg (mc q).toArray) W := fun W h => msgS.ld Hlm.out (hM7.below h hM7.lt)
           clear hM7 hk7)
        | fail)
      refine (cG _ _ _ hq).mono ?_
      rintro e v8 ⟨rfl, f8⟩
      replace top := fr_step top f8
      replace lM := fun (W : World) (h : Fr v8 W) => lM W (fr_step f8 h)
      replace lMk := fun (W : World) (h : Fr v8 W) => lMk W (fr_step f8 h)
      replace lW := fun (W : World) (h : Fr v8 W) => lW W (fr_step f8 h)
      replace lN := fun (W : World) (h : Fr v8 W) => lN W (fr_step f8 h)
      replace ho := keep (Own.below ho.out f8 (Nat.le_refl _))
      replace hq := keep (Own.below hq.out f8 (Nat.le_refl _))
      have rr := fr_refl v8
      have tok0 : Hid (0 < 1) := keep (by decide)
      go_wp2_with (first
        | (clear tok0; refine wpList_store_at (ds := mc q) msg_info rfl (.tmp 13) (.tmp 44) rfl v8.heap.size 0 rfl rfl Hlm.out (mc_one _) (Arr.new v8 (mc zeroM).toArray 36) (by decide) (splice_all _ _ (by rw [Hlm.out]; decide)) ?_; intro v9 hM9 hk9
           have f9 := hk9.fr (fr_new rr _) (Nat.le_refl _)
           replace top := fr_step top f9
           replace lM := fun (W : World) (h : Fr v9 W) => lM W (fr_step f9 h)
           replace lMk := fun (W : World) (h : Fr v9 W) => lMk W (fr_step f9 h)
           replace lW := fun (W : World) (h : Fr v9 W) => lW W (fr_step f9 h)
           replace lN := fun (W : World) (h : Fr v9 W) => lN W (fr_step f9 h)
           replace ho := keep (Own.below ho.out f9 (Nat.le_refl _))
           replace hq := keep (Own.below hq.out f9 (Nat.le_refl _))
           have rr := fr_refl v9
           have lG : ∀ W, Fr v9 W → (ldS 36 (.pointer (some ⟨v8.heap.size, 0, none⟩))).run Try.prog W = .ok (.agg (mc q).toArray) W := fun W h => msgS.ld Hlm.out (hM9.below h hM9.lt)
           clear hM9 hk9)
        | fail)
      refine (cC _ _ _ hq).mono ?_
      rintro e v10 ⟨rfl, f10⟩
      replace top := fr_step top f10
      replace lM := fun (W : World) (h : Fr v10 W) => lM W (fr_step f10 h)
      replace lMk := fun (W : World) (h : Fr v10 W) => lMk W (fr_step f10 h)
      replace lW := fun (W : World) (h : Fr v10 W) => lW W (fr_step f10 h)
      replace lN := fun (W : World) (h : Fr v10 W) => lN W (fr_step f10 h)
      replace lG := fun (W : World) (h : Fr v10 W) => lG W (fr_step f10 h)
      replace ho := keep (Own.below ho.out f10 (Nat.le_refl _))
      replace hq := keep (Own.below hq.out f10 (Nat.le_refl _))
      have rr := fr_refl v10
      go_wp2_with fail
      refine (cK _ _ rr).mono ?_
      rintro e v11 ⟨rfl, f11⟩
      replace top := fr_step top f11
      replace lM := fun (W : World) (h : Fr v11 W) => lM W (fr_step f11 h)
      replace lMk := fun (W : World) (h : Fr v11 W) => lMk W (fr_step f11 h)
      replace lW := fun (W : World) (h : Fr v11 W) => lW W (fr_step f11 h)
      replace lN := fun (W : World) (h : Fr v11 W) => lN W (fr_step f11 h)
      replace lG := fun (W : World) (h : Fr v11 W) => lG W (fr_step f11 h)
      replace ho := keep (Own.below ho.out f11 (Nat.le_refl _))
      replace hq := keep (Own.below hq.out f11 (Nat.le_refl _))
      have rr := fr_refl v11
      have tok0 : Hid (0 < 1) := keep (by decide)
      go_wp2_with (first
        | (clear tok0; refine wpList_store_at (ds := kc k) key_info rfl (.tmp 15) (.tmp 81) rfl v11.heap.size 0 rfl rfl (kc_len _) (kc_one _) (Arr.new v11 (kc zeroK).toArray 27) (by rw [kc_len]; decide) (splice_all _ _ (Nat.le_of_eq rfl)) ?_; intro v12 hM12 hk12
           have f12 := hk12.fr (fr_new rr _) (Nat.le_refl _)
           replace top := fr_step top f12
           replace lM := fun (W : World) (h : Fr v12 W) => lM W (fr_step f12 h)
           replace lMk := fun (W : World) (h : Fr v12 W) => lMk W (fr_step f12 h)
           replace lW := fun (W : World) (h : Fr v12 W) => lW W (fr_step f12 h)
           replace lN := fun (W : World) (h : Fr v12 W) => lN W (fr_step f12 h)
           replace lG := fun (W : World) (h : Fr v12 W) => lG W (fr_step f12 h)
           replace ho := keep (Own.below ho.out f12 (Nat.le_refl _))
           replace hq := keep (Own.below hq.out f12 (Nat.le_refl _))
           have rr := fr_refl v12
           have lK : ∀ W, Fr v12 W → (ldS 27 (.pointer (some ⟨v11.heap.size, 0, none⟩))).run Try.prog W = .ok (.agg (kc k).toArray) W := fun W h => keyS.ld (kc_len _) (hM12.below h hM12.lt)
           clear hM12 hk12)
        | fail)
      refine (cY _ _ _ hq).mono ?_
      rintro e v13 ⟨rfl, f13⟩
      replace top := fr_step top f13
      replace lM := fun (W : World) (h : Fr v13 W) => lM W (fr_step f13 h)
      replace lMk := fun (W : World) (h : Fr v13 W) => lMk W (fr_step f13 h)
      replace lW := fun (W : World) (h : Fr v13 W) => lW W (fr_step f13 h)
      replace lN := fun (W : World) (h : Fr v13 W) => lN W (fr_step f13 h)
      replace lG := fun (W : World) (h : Fr v13 W) => lG W (fr_step f13 h)
      replace lK := fun (W : World) (h : Fr v13 W) => lK W (fr_step f13 h)
      replace ho := keep (Own.below ho.out f13 (Nat.le_refl _))
      replace hq := keep (Own.below hq.out f13 (Nat.le_refl _))
      have rr := fr_refl v13
      have tok0 : Hid (0 < 1) := keep (by decide)
      go_wp2_with (first
        | (clear tok0; refine wpList_store_at (ds := mc x1) msg_info rfl (.tmp 16) (.tmp 86) rfl v13.heap.size 0 rfl rfl Hlx.out (mc_one _) (Arr.new v13 (mc zeroM).toArray 36) (by decide) (splice_all _ _ (by rw [Hlx.out]; decide)) ?_; intro v14 hM14 hk14
           have f14 := hk14.fr (fr_new rr _) (Nat.le_refl _)
           replace top := fr_step top f14
           replace lM := fun (W : World) (h : Fr v14 W) => lM W (fr_step f14 h)
           replace lMk := fun (W : World) (h : Fr v14 W) => lMk W (fr_step f14 h)
           replace lW := fun (W : World) (h : Fr v14 W) => lW W (fr_step f14 h)
           replace lN := fun (W : World) (h : Fr v14 W) => lN W (fr_step f14 h)
           replace lG := fun (W : World) (h : Fr v14 W) => lG W (fr_step f14 h)
           replace lK := fun (W : World) (h : Fr v14 W) => lK W (fr_step f14 h)
           replace ho := keep (Own.below ho.out f14 (Nat.le_refl _))
           replace hq := keep (Own.below hq.out f14 (Nat.le_refl _))
           have rr := fr_refl v14
           have lX : ∀ W, Fr v14 W → (ldS 36 (.pointer (some ⟨v13.heap.size, 0, none⟩))).run Try.prog W = .ok (.agg (mc x1).toArray) W := fun W h => msgS.ld Hlx.out (hM14.below h hM14.lt)
           clear hM14 hk14)
        | fail)
      refine (cZ _ _ _ ho).mono ?_
      rintro e v15 ⟨rfl, f15⟩
      replace top := fr_step top f15
      replace lM := fun (W : World) (h : Fr v15 W) => lM W (fr_step f15 h)
      replace lMk := fun (W : World) (h : Fr v15 W) => lMk W (fr_step f15 h)
      replace lW := fun (W : World) (h : Fr v15 W) => lW W (fr_step f15 h)
      replace lN := fun (W : World) (h : Fr v15 W) => lN W (fr_step f15 h)
      replace lG := fun (W : World) (h : Fr v15 W) => lG W (fr_step f15 h)
      replace lK := fun (W : World) (h : Fr v15 W) => lK W (fr_step f15 h)
      replace lX := fun (W : World) (h : Fr v15 W) => lX W (fr_step f15 h)
      replace ho := keep (Own.below ho.out f15 (Nat.le_refl _))
      replace hq := keep (Own.below hq.out f15 (Nat.le_refl _))
      have rr := fr_refl v15
      have tok0 : Hid (0 < 1) := keep (by decide)
      go_wp2_with (first
        | (clear tok0; refine wpList_store_at (ds := mc y1) msg_info rfl (.tmp 18) (.tmp 92) rfl v15.heap.size 0 rfl rfl Hly.out (mc_one _) (Arr.new v15 (mc zeroM).toArray 36) (by decide) (splice_all _ _ (by rw [Hly.out]; decide)) ?_; intro v16 hM16 hk16
           have f16 := hk16.fr (fr_new rr _) (Nat.le_refl _)
           replace top := fr_step top f16
           replace lM := fun (W : World) (h : Fr v16 W) => lM W (fr_step f16 h)
           replace lMk := fun (W : World) (h : Fr v16 W) => lMk W (fr_step f16 h)
           replace lW := fun (W : World) (h : Fr v16 W) => lW W (fr_step f16 h)
           replace lN := fun (W : World) (h : Fr v16 W) => lN W (fr_step f16 h)
           replace lG := fun (W : World) (h : Fr v16 W) => lG W (fr_step f16 h)
           replace lK := fun (W : World) (h : Fr v16 W) => lK W (fr_step f16 h)
           replace lX := fun (W : World) (h : Fr v16 W) => lX W (fr_step f16 h)
           replace ho := keep (Own.below ho.out f16 (Nat.le_refl _))
           replace hq := keep (Own.below hq.out f16 (Nat.le_refl _))
           have rr := fr_refl v16
           have lY : ∀ W, Fr v16 W → (ldS 36 (.pointer (some ⟨v15.heap.size, 0, none⟩))).run Try.prog W = .ok (.agg (mc y1).toArray) W := fun W h => msgS.ld Hly.out (hM16.below h hM16.lt)
           clear hM16 hk16)
        | fail)
      refine (cW _ _ rr).mono ?_
      rintro e v17 ⟨rfl, f17⟩
      replace top := fr_step top f17
      replace lM := fun (W : World) (h : Fr v17 W) => lM W (fr_step f17 h)
      replace lMk := fun (W : World) (h : Fr v17 W) => lMk W (fr_step f17 h)
      replace lW := fun (W : World) (h : Fr v17 W) => lW W (fr_step f17 h)
      replace lN := fun (W : World) (h : Fr v17 W) => lN W (fr_step f17 h)
      replace lG := fun (W : World) (h : Fr v17 W) => lG W (fr_step f17 h)
      replace lK := fun (W : World) (h : Fr v17 W) => lK W (fr_step f17 h)
      replace lX := fun (W : World) (h : Fr v17 W) => lX W (fr_step f17 h)
      replace lY := fun (W : World) (h : Fr v17 W) => lY W (fr_step f17 h)
      replace ho := keep (Own.below ho.out f17 (Nat.le_refl _))
      replace hq := keep (Own.below hq.out f17 (Nat.le_refl _))
      have rr := fr_refl v17
      go_wp2_with fail
      go_ret
      exact ⟨rfl, top⟩
    · rw [decide_eq_false hkm] at qk
      obtain rfl := hy1 hkm
      obtain rfl := hy2 hkm
      clear hy1 hy2 hkm
      go_enter Try.func4, Try.ntmps4
      go_wp2_with fail
      refine (cE).mono ?_
      rintro e v1 ⟨A, c, rfl, ho, f1⟩
      replace top := fr_step top f1
      have rr := fr_refl v1
      go_wp2_with fail
      refine (cM _ _ rr).mono ?_
      rintro e v2 ⟨rfl, f2⟩
      replace top := fr_step top f2
      replace ho := keep (Own.below ho.out f2 (Nat.le_refl _))
      have rr := fr_refl v2
      have tok0 : Hid (0 < 1) := keep (by decide)
      go_wp2_with (first
        | (clear tok0; refine wpList_store_at (ds := mc q) msg_info rfl (.tmp 8) (.tmp 23) rfl v2.heap.size 0 rfl rfl Hlm.out (mc_one _) (Arr.new v2 (mc zeroM).toArray 36) (by decide) (splice_all _ _ (by rw [Hlm.out]; decide)) ?_; intro v3 hM3 hk3
           have f3 := hk3.fr (fr_new rr _) (Nat.le_refl _)
           replace top := fr_step top f3
           replace ho := keep (Own.below ho.out f3 (Nat.le_refl _))
           have rr := fr_refl v3
           have lM : ∀ W, Fr v3 W → (ldS 36 (.pointer (some ⟨v2.heap.size, 0, none⟩))).run Try.prog W = .ok (.agg (mc q).toArray) W := fun W h => msgS.ld Hlm.out (hM3.below h hM3.lt)
           have lMk := msg_keyAt hM3
           clear hM3 hk3)
        | fail)
      refine (cP _ _ _ ho).mono ?_
      rintro e v4 ⟨A2, c2, rfl, hq, f4⟩
      replace top := fr_step top f4
      replace lM := fun (W : World) (h : Fr v4 W) => lM W (fr_step f4 h)
      replace lMk := fun (W : World) (h : Fr v4 W) => lMk W (fr_step f4 h)
      replace ho := keep (Own.below ho.out f4 (Nat.le_refl _))
      have rr := fr_refl v4
      go_wp2_with fail
      refine (cF _ _ _ ho).mono ?_
      rintro e v5 ⟨rfl, f5⟩
      replace top := fr_step top f5
      replace lM := fun (W : World) (h : Fr v5 W) => lM W (fr_step f5 h)
      replace lMk := fun (W : World) (h : Fr v5 W) => lMk W (fr_step f5 h)
      replace ho := keep (Own.below ho.out f5 (Nat.le_refl _))
      replace hq := keep (Own.below hq.out f5 (Nat.le_refl _))
      have rr := fr_refl v5
      have tok0 : Hid (0 < 1) := keep (by decide)
      have tok1 : Hid (0 < 1) := keep (by decide)
      go_wp2_with (first
        | (clear tok0; refine wpList_store_at (ds := mc was) msg_info rfl (.tmp 10) (.tmp 32) rfl v5.heap.size 0 rfl rfl Hlw.out (mc_one _) (Arr.new v5 (mc zeroM).toArray 36) (by decide) (splice_all _ _ (by rw [Hlw.out]; decide)) ?_; intro v6 hM6 hk6
           have f6 := hk6.fr (fr_new rr _) (Nat.le_refl _)
           replace top := fr_step top f6
           replace lM := fun (W : World) (h : Fr v6 W) => lM W (fr_step f6 h)
           replace lMk := fun (W : World) (h : Fr v6 W) => lMk W (fr_step f6 h)
           replace ho := keep (Own.below ho.out f6 (Nat.le_refl _))
           replace hq := keep (Own.below hq.out f6 (Nat.le_refl _))
           have rr := fr_refl v6
           have lW : ∀ W, Fr v6 W → (ldS 36 (.pointer (some ⟨v5.heap.size, 0, none⟩))).run Try.prog W = .ok (.agg (mc was).toArray) W := fun W h => msgS.ld Hlw.out (hM6.below h hM6.lt)
           clear hM6 hk6)
        | (clear tok1; refine wpList_store_at (ds := mc q) msg_info rfl (.tmp 12) (.tmp 34) rfl v6.heap.size 0 rfl rfl Hlm.out (mc_one _) (Arr.new v6 (mc zeroM).toArray 36) (by decide) (splice_all _ _ (by rw [Hlm.out]; decide)) ?_; intro v7 hM7 hk7
           have f7 := hk7.fr (fr_new rr _) (Nat.le_refl _)
           replace top := fr_step top f7
           replace lM := fun (W : World) (h : Fr v7 W) => lM W (fr_step f7 h)
           replace lMk := fun (W : World) (h : Fr v7 W) => lMk W (fr_step f7 h)
           replace lW := fun (W : World) (h : Fr v7 W) => lW W (fr_step f7 h)
           replace ho := keep (Own.below ho.out f7 (Nat.le_refl _))
           replace hq := keep (Own.below hq.out f7 (Nat.le_refl _))
           have rr := fr_refl v7
           have lN : ∀ W, Fr v7 W → (ldS 36 (.pointer (some ⟨v6.heap.size, 0, none⟩))).run Try.prog W = .ok (.agg (mc q).toArray) W := fun W h => msgS.ld Hlm.out (hM7.below h hM7.lt)
           clear hM7 hk7)
        | fail)
      refine (cG _ _ _ hq).mono ?_
      rintro e v8 ⟨rfl, f8⟩
      replace top := fr_step top f8
      replace lM := fun (W : World) (h : Fr v8 W) => lM W (fr_step f8 h)
      replace lMk := fun (W : World) (h : Fr v8 W) => lMk W (fr_step f8 h)
      replace lW := fun (W : World) (h : Fr v8 W) => lW W (fr_step f8 h)
      replace lN := fun (W : World) (h : Fr v8 W) => lN W (fr_step f8 h)
      replace ho := keep (Own.below ho.out f8 (Nat.le_refl _))
      replace hq := keep (Own.below hq.out f8 (Nat.le_refl _))
      have rr := fr_refl v8
      have tok0 : Hid (0 < 1) := keep (by decide)
      go_wp2_with (first
        | (clear tok0; refine wpList_store_at (ds := mc q) msg_info rfl (.tmp 13) (.tmp 44) rfl v8.heap.size 0 rfl rfl Hlm.out (mc_one _) (Arr.new v8 (mc zeroM).toArray 36) (by decide) (splice_all _ _ (by rw [Hlm.out]; decide)) ?_; intro v9 hM9 hk9
           have f9 := hk9.fr (fr_new rr _) (Nat.le_refl _)
           replace top := fr_step top f9
           replace lM := fun (W : World) (h : Fr v9 W) => lM W (fr_step f9 h)
           replace lMk := fun (W : World) (h : Fr v9 W) => lMk W (fr_step f9 h)
           replace lW := fun (W : World) (h : Fr v9 W) => lW W (fr_step f9 h)
           replace lN := fun (W : World) (h : Fr v9 W) => lN W (fr_step f9 h)
           replace ho := keep (Own.below ho.out f9 (Nat.le_refl _))
           replace hq := keep (Own.below hq.out f9 (Nat.le_refl _))
           have rr := fr_refl v9
           have lG : ∀ W, Fr v9 W → (ldS 36 (.pointer (some ⟨v8.heap.size, 0, none⟩))).run Try.prog W = .ok (.agg (mc q).toArray) W := fun W h => msgS.ld Hlm.out (hM9.below h hM9.lt)
           clear hM9 hk9)
        | fail)
      refine (cC _ _ _ hq).mono ?_
      rintro e v10 ⟨rfl, f10⟩
      replace top := fr_step top f10
      replace lM := fun (W : World) (h : Fr v10 W) => lM W (fr_step f10 h)
      replace lMk := fun (W : World) (h : Fr v10 W) => lMk W (fr_step f10 h)
      replace lW := fun (W : World) (h : Fr v10 W) => lW W (fr_step f10 h)
      replace lN := fun (W : World) (h : Fr v10 W) => lN W (fr_step f10 h)
      replace lG := fun (W : World) (h : Fr v10 W) => lG W (fr_step f10 h)
      replace ho := keep (Own.below ho.out f10 (Nat.le_refl _))
      replace hq := keep (Own.below hq.out f10 (Nat.le_refl _))
      have rr := fr_refl v10
      go_wp2_with fail
      refine (cK _ _ rr).mono ?_
      rintro e v11 ⟨rfl, f11⟩
      replace top := fr_step top f11
      replace lM := fun (W : World) (h : Fr v11 W) => lM W (fr_step f11 h)
      replace lMk := fun (W : World) (h : Fr v11 W) => lMk W (fr_step f11 h)
      replace lW := fun (W : World) (h : Fr v11 W) => lW W (fr_step f11 h)
      replace lN := fun (W : World) (h : Fr v11 W) => lN W (fr_step f11 h)
      replace lG := fun (W : World) (h : Fr v11 W) => lG W (fr_step f11 h)
      replace ho := keep (Own.below ho.out f11 (Nat.le_refl _))
      replace hq := keep (Own.below hq.out f11 (Nat.le_refl _))
      have rr := fr_refl v11
      have tok0 : Hid (0 < 1) := keep (by decide)
      go_wp2_with (first
        | (clear tok0; refine wpList_store_at (ds := kc k) key_info rfl (.tmp 15) (.tmp 81) rfl v11.heap.size 0 rfl rfl (kc_len _) (kc_one _) (Arr.new v11 (kc zeroK).toArray 27) (by rw [kc_len]; decide) (splice_all _ _ (Nat.le_of_eq rfl)) ?_; intro v12 hM12 hk12
           have f12 := hk12.fr (fr_new rr _) (Nat.le_refl _)
           replace top := fr_step top f12
           replace lM := fun (W : World) (h : Fr v12 W) => lM W (fr_step f12 h)
           replace lMk := fun (W : World) (h : Fr v12 W) => lMk W (fr_step f12 h)
           replace lW := fun (W : World) (h : Fr v12 W) => lW W (fr_step f12 h)
           replace lN := fun (W : World) (h : Fr v12 W) => lN W (fr_step f12 h)
           replace lG := fun (W : World) (h : Fr v12 W) => lG W (fr_step f12 h)
           replace ho := keep (Own.below ho.out f12 (Nat.le_refl _))
           replace hq := keep (Own.below hq.out f12 (Nat.le_refl _))
           have rr := fr_refl v12
           have lK : ∀ W, Fr v12 W → (ldS 27 (.pointer (some ⟨v11.heap.size, 0, none⟩))).run Try.prog W = .ok (.agg (kc k).toArray) W := fun W h => keyS.ld (kc_len _) (hM12.below h hM12.lt)
           clear hM12 hk12)
        | fail)
      refine (cY _ _ _ hq).mono ?_
      rintro e v13 ⟨rfl, f13⟩
      replace top := fr_step top f13
      replace lM := fun (W : World) (h : Fr v13 W) => lM W (fr_step f13 h)
      replace lMk := fun (W : World) (h : Fr v13 W) => lMk W (fr_step f13 h)
      replace lW := fun (W : World) (h : Fr v13 W) => lW W (fr_step f13 h)
      replace lN := fun (W : World) (h : Fr v13 W) => lN W (fr_step f13 h)
      replace lG := fun (W : World) (h : Fr v13 W) => lG W (fr_step f13 h)
      replace lK := fun (W : World) (h : Fr v13 W) => lK W (fr_step f13 h)
      replace ho := keep (Own.below ho.out f13 (Nat.le_refl _))
      replace hq := keep (Own.below hq.out f13 (Nat.le_refl _))
      have rr := fr_refl v13
      have tok0 : Hid (0 < 1) := keep (by decide)
      go_wp2_with (first
        | (clear tok0; refine wpList_store_at (ds := mc x1) msg_info rfl (.tmp 16) (.tmp 86) rfl v13.heap.size 0 rfl rfl Hlx.out (mc_one _) (Arr.new v13 (mc zeroM).toArray 36) (by decide) (splice_all _ _ (by rw [Hlx.out]; decide)) ?_; intro v14 hM14 hk14
           have f14 := hk14.fr (fr_new rr _) (Nat.le_refl _)
           replace top := fr_step top f14
           replace lM := fun (W : World) (h : Fr v14 W) => lM W (fr_step f14 h)
           replace lMk := fun (W : World) (h : Fr v14 W) => lMk W (fr_step f14 h)
           replace lW := fun (W : World) (h : Fr v14 W) => lW W (fr_step f14 h)
           replace lN := fun (W : World) (h : Fr v14 W) => lN W (fr_step f14 h)
           replace lG := fun (W : World) (h : Fr v14 W) => lG W (fr_step f14 h)
           replace lK := fun (W : World) (h : Fr v14 W) => lK W (fr_step f14 h)
           replace ho := keep (Own.below ho.out f14 (Nat.le_refl _))
           replace hq := keep (Own.below hq.out f14 (Nat.le_refl _))
           have rr := fr_refl v14
           have lX : ∀ W, Fr v14 W → (ldS 36 (.pointer (some ⟨v13.heap.size, 0, none⟩))).run Try.prog W = .ok (.agg (mc x1).toArray) W := fun W h => msgS.ld Hlx.out (hM14.below h hM14.lt)
           clear hM14 hk14)
        | fail)
      refine (cZ _ _ _ ho).mono ?_
      rintro e v15 ⟨rfl, f15⟩
      replace top := fr_step top f15
      replace lM := fun (W : World) (h : Fr v15 W) => lM W (fr_step f15 h)
      replace lMk := fun (W : World) (h : Fr v15 W) => lMk W (fr_step f15 h)
      replace lW := fun (W : World) (h : Fr v15 W) => lW W (fr_step f15 h)
      replace lN := fun (W : World) (h : Fr v15 W) => lN W (fr_step f15 h)
      replace lG := fun (W : World) (h : Fr v15 W) => lG W (fr_step f15 h)
      replace lK := fun (W : World) (h : Fr v15 W) => lK W (fr_step f15 h)
      replace lX := fun (W : World) (h : Fr v15 W) => lX W (fr_step f15 h)
      replace ho := keep (Own.below ho.out f15 (Nat.le_refl _))
      replace hq := keep (Own.below hq.out f15 (Nat.le_refl _))
      have rr := fr_refl v15
      have tok0 : Hid (0 < 1) := keep (by decide)
      go_wp2_with (first
        | (clear tok0; refine wpList_store_at (ds := mc x1) msg_info rfl (.tmp 18) (.tmp 92) rfl v15.heap.size 0 rfl rfl Hlx.out (mc_one _) (Arr.new v15 (mc zeroM).toArray 36) (by decide) (splice_all _ _ (by rw [Hlx.out]; decide)) ?_; intro v16 hM16 hk16
           have f16 := hk16.fr (fr_new rr _) (Nat.le_refl _)
           replace top := fr_step top f16
           replace lM := fun (W : World) (h : Fr v16 W) => lM W (fr_step f16 h)
           replace lMk := fun (W : World) (h : Fr v16 W) => lMk W (fr_step f16 h)
           replace lW := fun (W : World) (h : Fr v16 W) => lW W (fr_step f16 h)
           replace lN := fun (W : World) (h : Fr v16 W) => lN W (fr_step f16 h)
           replace lG := fun (W : World) (h : Fr v16 W) => lG W (fr_step f16 h)
           replace lK := fun (W : World) (h : Fr v16 W) => lK W (fr_step f16 h)
           replace lX := fun (W : World) (h : Fr v16 W) => lX W (fr_step f16 h)
           replace ho := keep (Own.below ho.out f16 (Nat.le_refl _))
           replace hq := keep (Own.below hq.out f16 (Nat.le_refl _))
           have rr := fr_refl v16
           have lY : ∀ W, Fr v16 W → (ldS 36 (.pointer (some ⟨v15.heap.size, 0, none⟩))).run Try.prog W = .ok (.agg (mc x1).toArray) W := fun W h => msgS.ld Hlx.out (hM16.below h hM16.lt)
           clear hM16 hk16)
        | fail)
      refine (cW _ _ rr).mono ?_
      rintro e v17 ⟨rfl, f17⟩
      replace top := fr_step top f17
      replace lM := fun (W : World) (h : Fr v17 W) => lM W (fr_step f17 h)
      replace lMk := fun (W : World) (h : Fr v17 W) => lMk W (fr_step f17 h)
      replace lW := fun (W : World) (h : Fr v17 W) => lW W (fr_step f17 h)
      replace lN := fun (W : World) (h : Fr v17 W) => lN W (fr_step f17 h)
      replace lG := fun (W : World) (h : Fr v17 W) => lG W (fr_step f17 h)
      replace lK := fun (W : World) (h : Fr v17 W) => lK W (fr_step f17 h)
      replace lX := fun (W : World) (h : Fr v17 W) => lX W (fr_step f17 h)
      replace lY := fun (W : World) (h : Fr v17 W) => lY W (fr_step f17 h)
      replace ho := keep (Own.below ho.out f17 (Nat.le_refl _))
      replace hq := keep (Own.below hq.out f17 (Nat.le_refl _))
      have rr := fr_refl v17
      go_wp2_with fail
      go_ret
      exact ⟨rfl, top⟩
  · have e1 : nq = n := by rw [hlq]; rfl
    replace cQ := cQ rfl
    subst e1
    clear hlq hnw
    by_cases hkm : k = m.key
    · rw [decide_eq_true hkm] at qk
      clear hy1 hy2 hkm
      go_enter Try.func4, Try.ntmps4
      go_wp2_with fail
      refine (cE).mono ?_
      rintro e v1 ⟨A, c, rfl, ho, f1⟩
      replace top := fr_step top f1
      have rr := fr_refl v1
      go_wp2_with fail
      refine (cM _ _ rr).mono ?_
      rintro e v2 ⟨rfl, f2⟩
      replace top := fr_step top f2
      replace ho := keep (Own.below ho.out f2 (Nat.le_refl _))
      have rr := fr_refl v2
      have tok0 : Hid (0 < 1) := keep (by decide)
      go_wp2_with (first
        | (clear tok0; refine wpList_store_at (ds := mc m) msg_info rfl (.tmp 8) (.tmp 23) rfl v2.heap.size 0 rfl rfl Hlm.out (mc_one _) (Arr.new v2 (mc zeroM).toArray 36) (by decide) (splice_all _ _ (by rw [Hlm.out]; decide)) ?_; intro v3 hM3 hk3
           have f3 := hk3.fr (fr_new rr _) (Nat.le_refl _)
           replace top := fr_step top f3
           replace ho := keep (Own.below ho.out f3 (Nat.le_refl _))
           have rr := fr_refl v3
           have lM : ∀ W, Fr v3 W → (ldS 36 (.pointer (some ⟨v2.heap.size, 0, none⟩))).run Try.prog W = .ok (.agg (mc m).toArray) W := fun W h => msgS.ld Hlm.out (hM3.below h hM3.lt)
           have lMk := msg_keyAt hM3
           clear hM3 hk3)
        | fail)
      refine (cP _ _ _ ho).mono ?_
      rintro e v4 ⟨A2, c2, rfl, hq, f4⟩
      replace top := fr_step top f4
      replace lM := fun (W : World) (h : Fr v4 W) => lM W (fr_step f4 h)
      replace lMk := fun (W : World) (h : Fr v4 W) => lMk W (fr_step f4 h)
      replace ho := keep (Own.below ho.out f4 (Nat.le_refl _))
      have rr := fr_refl v4
      go_wp2_with fail
      refine (cF _ _ _ ho).mono ?_
      rintro e v5 ⟨rfl, f5⟩
      replace top := fr_step top f5
      replace lM := fun (W : World) (h : Fr v5 W) => lM W (fr_step f5 h)
      replace lMk := fun (W : World) (h : Fr v5 W) => lMk W (fr_step f5 h)
      replace ho := keep (Own.below ho.out f5 (Nat.le_refl _))
      replace hq := keep (Own.below hq.out f5 (Nat.le_refl _))
      have rr := fr_refl v5
      have tok0 : Hid (0 < 1) := keep (by decide)
      have tok1 : Hid (0 < 1) := keep (by decide)
      go_wp2_with (first
        | (clear tok0; refine wpList_store_at (ds := mc was) msg_info rfl (.tmp 10) (.tmp 32) rfl v5.heap.size 0 rfl rfl Hlw.out (mc_one _) (Arr.new v5 (mc zeroM).toArray 36) (by decide) (splice_all _ _ (by rw [Hlw.out]; decide)) ?_; intro v6 hM6 hk6
           have f6 := hk6.fr (fr_new rr _) (Nat.le_refl _)
           replace top := fr_step top f6
           replace lM := fun (W : World) (h : Fr v6 W) => lM W (fr_step f6 h)
           replace lMk := fun (W : World) (h : Fr v6 W) => lMk W (fr_step f6 h)
           replace ho := keep (Own.below ho.out f6 (Nat.le_refl _))
           replace hq := keep (Own.below hq.out f6 (Nat.le_refl _))
           have rr := fr_refl v6
           have lW : ∀ W, Fr v6 W → (ldS 36 (.pointer (some ⟨v5.heap.size, 0, none⟩))).run Try.prog W = .ok (.agg (mc was).toArray) W := fun W h => msgS.ld Hlw.out (hM6.below h hM6.lt)
           clear hM6 hk6)
        | (clear tok1; refine wpList_store_at (ds := mc m) msg_info rfl (.tmp 12) (.tmp 34) rfl v6.heap.size 0 rfl rfl Hlm.out (mc_one _) (Arr.new v6 (mc zeroM).toArray 36) (by decide) (splice_all _ _ (by rw [Hlm.out]; decide)) ?_; intro Ya hMa hka
           have fa := hka.fr (fr_new rr _) (Nat.le_refl _)
           have ra := fr_refl Ya
           clear hka)
        | fail)
      refine (cQ _ _ ra).mono ?_
      rintro e vb ⟨rfl, fb⟩
      have hMb := hMa.below fb hMa.lt
      have fab := fr_step fa fb
      have tok0 : Hid (0 < 1) := keep (by decide)
      go_wp2_with (first
        | (clear tok0; refine wpList_store_at (ds := mc q) msg_info rfl (.tmp 12) (.tmp 38) rfl v6.heap.size 0 rfl rfl Hlq.out (mc_one _) hMb (by rw [Hlm.out]; decide) (splice_all _ _ (by rw [Hlq.out, Hlm.out]; decide)) ?_; intro v7 hMc hkc
           have f7 := hkc.fr fab (Nat.le_refl _)
           replace top := fr_step top f7
           replace lM := fun (W : World) (h : Fr v7 W) => lM W (fr_step f7 h)
           replace lMk := fun (W : World) (h : Fr v7 W) => lMk W (fr_step f7 h)
           replace lW := fun (W : World) (h : Fr v7 W) => lW W (fr_step f7 h)
           replace ho := keep (Own.below ho.out f7 (Nat.le_refl _))
           replace hq := keep (Own.below hq.out f7 (Nat.le_refl _))
           have rr := fr_refl v7
           have lN : ∀ W, Fr v7 W → (ldS 36 (.pointer (some ⟨v6.heap.size, 0, none⟩))).run Try.prog W = .ok (.agg (mc q).toArray) W := fun W h => msgS.ld Hlq.out (hMc.below h hMc.lt)
           clear hMa hMb hMc hkc fa fab fb ra)
        | fail)
      refine (cG _ _ _ hq).mono ?_
      rintro e v8 ⟨rfl, f8⟩
      replace top := fr_step top f8
      replace lM := fun (W : World) (h : Fr v8 W) => lM W (fr_step f8 h)
      replace lMk := fun (W : World) (h : Fr v8 W) => lMk W (fr_step f8 h)
      replace lW := fun (W : World) (h : Fr v8 W) => lW W (fr_step f8 h)
      replace lN := fun (W : World) (h : Fr v8 W) => lN W (fr_step f8 h)
      replace ho := keep (Own.below ho.out f8 (Nat.le_refl _))
      replace hq := keep (Own.below hq.out f8 (Nat.le_refl _))
      have rr := fr_refl v8
      have tok0 : Hid (0 < 1) := keep (by decide)
      go_wp2_with (first
        | (clear tok0; refine wpList_store_at (ds := mc q) msg_info rfl (.tmp 13) (.tmp 44) rfl v8.heap.size 0 rfl rfl Hlq.out (mc_one _) (Arr.new v8 (mc zeroM).toArray 36) (by decide) (splice_all _ _ (by rw [Hlq.out]; decide)) ?_; intro v9 hM9 hk9
           have f9 := hk9.fr (fr_new rr _) (Nat.le_refl _)
           replace top := fr_step top f9
           replace lM := fun (W : World) (h : Fr v9 W) => lM W (fr_step f9 h)
           replace lMk := fun (W : World) (h : Fr v9 W) => lMk W (fr_step f9 h)
           replace lW := fun (W : World) (h : Fr v9 W) => lW W (fr_step f9 h)
           replace lN := fun (W : World) (h : Fr v9 W) => lN W (fr_step f9 h)
           replace ho := keep (Own.below ho.out f9 (Nat.le_refl _))
           replace hq := keep (Own.below hq.out f9 (Nat.le_refl _))
           have rr := fr_refl v9
           have lG : ∀ W, Fr v9 W → (ldS 36 (.pointer (some ⟨v8.heap.size, 0, none⟩))).run Try.prog W = .ok (.agg (mc q).toArray) W := fun W h => msgS.ld Hlq.out (hM9.below h hM9.lt)
           clear hM9 hk9)
        | fail)
      refine (cC _ _ _ hq).mono ?_
      rintro e v10 ⟨rfl, f10⟩
      replace top := fr_step top f10
      replace lM := fun (W : World) (h : Fr v10 W) => lM W (fr_step f10 h)
      replace lMk := fun (W : World) (h : Fr v10 W) => lMk W (fr_step f10 h)
      replace lW := fun (W : World) (h : Fr v10 W) => lW W (fr_step f10 h)
      replace lN := fun (W : World) (h : Fr v10 W) => lN W (fr_step f10 h)
      replace lG := fun (W : World) (h : Fr v10 W) => lG W (fr_step f10 h)
      replace ho := keep (Own.below ho.out f10 (Nat.le_refl _))
      replace hq := keep (Own.below hq.out f10 (Nat.le_refl _))
      have rr := fr_refl v10
      go_wp2_with fail
      refine (cK _ _ rr).mono ?_
      rintro e v11 ⟨rfl, f11⟩
      replace top := fr_step top f11
      replace lM := fun (W : World) (h : Fr v11 W) => lM W (fr_step f11 h)
      replace lMk := fun (W : World) (h : Fr v11 W) => lMk W (fr_step f11 h)
      replace lW := fun (W : World) (h : Fr v11 W) => lW W (fr_step f11 h)
      replace lN := fun (W : World) (h : Fr v11 W) => lN W (fr_step f11 h)
      replace lG := fun (W : World) (h : Fr v11 W) => lG W (fr_step f11 h)
      replace ho := keep (Own.below ho.out f11 (Nat.le_refl _))
      replace hq := keep (Own.below hq.out f11 (Nat.le_refl _))
      have rr := fr_refl v11
      have tok0 : Hid (0 < 1) := keep (by decide)
      go_wp2_with (first
        | (clear tok0; refine wpList_store_at (ds := kc k) key_info rfl (.tmp 15) (.tmp 81) rfl v11.heap.size 0 rfl rfl (kc_len _) (kc_one _) (Arr.new v11 (kc zeroK).toArray 27) (by rw [kc_len]; decide) (splice_all _ _ (Nat.le_of_eq rfl)) ?_; intro v12 hM12 hk12
           have f12 := hk12.fr (fr_new rr _) (Nat.le_refl _)
           replace top := fr_step top f12
           replace lM := fun (W : World) (h : Fr v12 W) => lM W (fr_step f12 h)
           replace lMk := fun (W : World) (h : Fr v12 W) => lMk W (fr_step f12 h)
           replace lW := fun (W : World) (h : Fr v12 W) => lW W (fr_step f12 h)
           replace lN := fun (W : World) (h : Fr v12 W) => lN W (fr_step f12 h)
           replace lG := fun (W : World) (h : Fr v12 W) => lG W (fr_step f12 h)
           replace ho := keep (Own.below ho.out f12 (Nat.le_refl _))
           replace hq := keep (Own.below hq.out f12 (Nat.le_refl _))
           have rr := fr_refl v12
           have lK : ∀ W, Fr v12 W → (ldS 27 (.pointer (some ⟨v11.heap.size, 0, none⟩))).run Try.prog W = .ok (.agg (kc k).toArray) W := fun W h => keyS.ld (kc_len _) (hM12.below h hM12.lt)
           clear hM12 hk12)
        | fail)
      refine (cY _ _ _ hq).mono ?_
      rintro e v13 ⟨rfl, f13⟩
      replace top := fr_step top f13
      replace lM := fun (W : World) (h : Fr v13 W) => lM W (fr_step f13 h)
      replace lMk := fun (W : World) (h : Fr v13 W) => lMk W (fr_step f13 h)
      replace lW := fun (W : World) (h : Fr v13 W) => lW W (fr_step f13 h)
      replace lN := fun (W : World) (h : Fr v13 W) => lN W (fr_step f13 h)
      replace lG := fun (W : World) (h : Fr v13 W) => lG W (fr_step f13 h)
      replace lK := fun (W : World) (h : Fr v13 W) => lK W (fr_step f13 h)
      replace ho := keep (Own.below ho.out f13 (Nat.le_refl _))
      replace hq := keep (Own.below hq.out f13 (Nat.le_refl _))
      have rr := fr_refl v13
      have tok0 : Hid (0 < 1) := keep (by decide)
      go_wp2_with (first
        | (clear tok0; refine wpList_store_at (ds := mc x1) msg_info rfl (.tmp 16) (.tmp 86) rfl v13.heap.size 0 rfl rfl Hlx.out (mc_one _) (Arr.new v13 (mc zeroM).toArray 36) (by decide) (splice_all _ _ (by rw [Hlx.out]; decide)) ?_; intro v14 hM14 hk14
           have f14 := hk14.fr (fr_new rr _) (Nat.le_refl _)
           replace top := fr_step top f14
           replace lM := fun (W : World) (h : Fr v14 W) => lM W (fr_step f14 h)
           replace lMk := fun (W : World) (h : Fr v14 W) => lMk W (fr_step f14 h)
           replace lW := fun (W : World) (h : Fr v14 W) => lW W (fr_step f14 h)
           replace lN := fun (W : World) (h : Fr v14 W) => lN W (fr_step f14 h)
           replace lG := fun (W : World) (h : Fr v14 W) => lG W (fr_step f14 h)
           replace lK := fun (W : World) (h : Fr v14 W) => lK W (fr_step f14 h)
           replace ho := keep (Own.below ho.out f14 (Nat.le_refl _))
           replace hq := keep (Own.below hq.out f14 (Nat.le_refl _))
           have rr := fr_refl v14
           have lX : ∀ W, Fr v14 W → (ldS 36 (.pointer (some ⟨v13.heap.size, 0, none⟩))).run Try.prog W = .ok (.agg (mc x1).toArray) W := fun W h => msgS.ld Hlx.out (hM14.below h hM14.lt)
           clear hM14 hk14)
        | fail)
      refine (cZ _ _ _ ho).mono ?_
      rintro e v15 ⟨rfl, f15⟩
      replace top := fr_step top f15
      replace lM := fun (W : World) (h : Fr v15 W) => lM W (fr_step f15 h)
      replace lMk := fun (W : World) (h : Fr v15 W) => lMk W (fr_step f15 h)
      replace lW := fun (W : World) (h : Fr v15 W) => lW W (fr_step f15 h)
      replace lN := fun (W : World) (h : Fr v15 W) => lN W (fr_step f15 h)
      replace lG := fun (W : World) (h : Fr v15 W) => lG W (fr_step f15 h)
      replace lK := fun (W : World) (h : Fr v15 W) => lK W (fr_step f15 h)
      replace lX := fun (W : World) (h : Fr v15 W) => lX W (fr_step f15 h)
      replace ho := keep (Own.below ho.out f15 (Nat.le_refl _))
      replace hq := keep (Own.below hq.out f15 (Nat.le_refl _))
      have rr := fr_refl v15
      have tok0 : Hid (0 < 1) := keep (by decide)
      go_wp2_with (first
        | (clear tok0; refine wpList_store_at (ds := mc y1) msg_info rfl (.tmp 18) (.tmp 92) rfl v15.heap.size 0 rfl rfl Hly.out (mc_one _) (Arr.new v15 (mc zeroM).toArray 36) (by decide) (splice_all _ _ (by rw [Hly.out]; decide)) ?_; intro v16 hM16 hk16
           have f16 := hk16.fr (fr_new rr _) (Nat.le_refl _)
           replace top := fr_step top f16
           replace lM := fun (W : World) (h : Fr v16 W) => lM W (fr_step f16 h)
           replace lMk := fun (W : World) (h : Fr v16 W) => lMk W (fr_step f16 h)
           replace lW := fun (W : World) (h : Fr v16 W) => lW W (fr_step f16 h)
           replace lN := fun (W : World) (h : Fr v16 W) => lN W (fr_step f16 h)
           replace lG := fun (W : World) (h : Fr v16 W) => lG W (fr_step f16 h)
           replace lK := fun (W : World) (h : Fr v16 W) => lK W (fr_step f16 h)
           replace lX := fun (W : World) (h : Fr v16 W) => lX W (fr_step f16 h)
           replace ho := keep (Own.below ho.out f16 (Nat.le_refl _))
           replace hq := keep (Own.below hq.out f16 (Nat.le_refl _))
           have rr := fr_refl v16
           have lY : ∀ W, Fr v16 W → (ldS 36 (.pointer (some ⟨v15.heap.size, 0, none⟩))).run Try.prog W = .ok (.agg (mc y1).toArray) W := fun W h => msgS.ld Hly.out (hM16.below h hM16.lt)
           clear hM16 hk16)
        | fail)
      refine (cW _ _ rr).mono ?_
      rintro e v17 ⟨rfl, f17⟩
      replace top := fr_step top f17
      replace lM := fun (W : World) (h : Fr v17 W) => lM W (fr_step f17 h)
      replace lMk := fun (W : World) (h : Fr v17 W) => lMk W (fr_step f17 h)
      replace lW := fun (W : World) (h : Fr v17 W) => lW W (fr_step f17 h)
      replace lN := fun (W : World) (h : Fr v17 W) => lN W (fr_step f17 h)
      replace lG := fun (W : World) (h : Fr v17 W) => lG W (fr_step f17 h)
      replace lK := fun (W : World) (h : Fr v17 W) => lK W (fr_step f17 h)
      replace lX := fun (W : World) (h : Fr v17 W) => lX W (fr_step f17 h)
      replace lY := fun (W : World) (h : Fr v17 W) => lY W (fr_step f17 h)
      replace ho := keep (Own.below ho.out f17 (Nat.le_refl _))
      replace hq := keep (Own.below hq.out f17 (Nat.le_refl _))
      have rr := fr_refl v17
      go_wp2_with fail
      go_ret
      exact ⟨rfl, top⟩
    · rw [decide_eq_false hkm] at qk
      obtain rfl := hy1 hkm
      obtain rfl := hy2 hkm
      clear hy1 hy2 hkm
      go_enter Try.func4, Try.ntmps4
      go_wp2_with fail
      refine (cE).mono ?_
      rintro e v1 ⟨A, c, rfl, ho, f1⟩
      replace top := fr_step top f1
      have rr := fr_refl v1
      go_wp2_with fail
      refine (cM _ _ rr).mono ?_
      rintro e v2 ⟨rfl, f2⟩
      replace top := fr_step top f2
      replace ho := keep (Own.below ho.out f2 (Nat.le_refl _))
      have rr := fr_refl v2
      have tok0 : Hid (0 < 1) := keep (by decide)
      go_wp2_with (first
        | (clear tok0; refine wpList_store_at (ds := mc m) msg_info rfl (.tmp 8) (.tmp 23) rfl v2.heap.size 0 rfl rfl Hlm.out (mc_one _) (Arr.new v2 (mc zeroM).toArray 36) (by decide) (splice_all _ _ (by rw [Hlm.out]; decide)) ?_; intro v3 hM3 hk3
           have f3 := hk3.fr (fr_new rr _) (Nat.le_refl _)
           replace top := fr_step top f3
           replace ho := keep (Own.below ho.out f3 (Nat.le_refl _))
           have rr := fr_refl v3
           have lM : ∀ W, Fr v3 W → (ldS 36 (.pointer (some ⟨v2.heap.size, 0, none⟩))).run Try.prog W = .ok (.agg (mc m).toArray) W := fun W h => msgS.ld Hlm.out (hM3.below h hM3.lt)
           have lMk := msg_keyAt hM3
           clear hM3 hk3)
        | fail)
      refine (cP _ _ _ ho).mono ?_
      rintro e v4 ⟨A2, c2, rfl, hq, f4⟩
      replace top := fr_step top f4
      replace lM := fun (W : World) (h : Fr v4 W) => lM W (fr_step f4 h)
      replace lMk := fun (W : World) (h : Fr v4 W) => lMk W (fr_step f4 h)
      replace ho := keep (Own.below ho.out f4 (Nat.le_refl _))
      have rr := fr_refl v4
      go_wp2_with fail
      refine (cF _ _ _ ho).mono ?_
      rintro e v5 ⟨rfl, f5⟩
      replace top := fr_step top f5
      replace lM := fun (W : World) (h : Fr v5 W) => lM W (fr_step f5 h)
      replace lMk := fun (W : World) (h : Fr v5 W) => lMk W (fr_step f5 h)
      replace ho := keep (Own.below ho.out f5 (Nat.le_refl _))
      replace hq := keep (Own.below hq.out f5 (Nat.le_refl _))
      have rr := fr_refl v5
      have tok0 : Hid (0 < 1) := keep (by decide)
      have tok1 : Hid (0 < 1) := keep (by decide)
      go_wp2_with (first
        | (clear tok0; refine wpList_store_at (ds := mc was) msg_info rfl (.tmp 10) (.tmp 32) rfl v5.heap.size 0 rfl rfl Hlw.out (mc_one _) (Arr.new v5 (mc zeroM).toArray 36) (by decide) (splice_all _ _ (by rw [Hlw.out]; decide)) ?_; intro v6 hM6 hk6
           have f6 := hk6.fr (fr_new rr _) (Nat.le_refl _)
           replace top := fr_step top f6
           replace lM := fun (W : World) (h : Fr v6 W) => lM W (fr_step f6 h)
           replace lMk := fun (W : World) (h : Fr v6 W) => lMk W (fr_step f6 h)
           replace ho := keep (Own.below ho.out f6 (Nat.le_refl _))
           replace hq := keep (Own.below hq.out f6 (Nat.le_refl _))
           have rr := fr_refl v6
           have lW : ∀ W, Fr v6 W → (ldS 36 (.pointer (some ⟨v5.heap.size, 0, none⟩))).run Try.prog W = .ok (.agg (mc was).toArray) W := fun W h => msgS.ld Hlw.out (hM6.below h hM6.lt)
           clear hM6 hk6)
        | (clear tok1; refine wpList_store_at (ds := mc m) msg_info rfl (.tmp 12) (.tmp 34) rfl v6.heap.size 0 rfl rfl Hlm.out (mc_one _) (Arr.new v6 (mc zeroM).toArray 36) (by decide) (splice_all _ _ (by rw [Hlm.out]; decide)) ?_; intro Ya hMa hka
           have fa := hka.fr (fr_new rr _) (Nat.le_refl _)
           have ra := fr_refl Ya
           clear hka)
        | fail)
      refine (cQ _ _ ra).mono ?_
      rintro e vb ⟨rfl, fb⟩
      have hMb := hMa.below fb hMa.lt
      have fab := fr_step fa fb
      have tok0 : Hid (0 < 1) := keep (by decide)
      go_wp2_with (first
        | (clear tok0; refine wpList_store_at (ds := mc q) msg_info rfl (.tmp 12) (.tmp 38) rfl v6.heap.size 0 rfl rfl Hlq.out (mc_one _) hMb (by rw [Hlm.out]; decide) (splice_all _ _ (by rw [Hlq.out, Hlm.out]; decide)) ?_; intro v7 hMc hkc
           have f7 := hkc.fr fab (Nat.le_refl _)
           replace top := fr_step top f7
           replace lM := fun (W : World) (h : Fr v7 W) => lM W (fr_step f7 h)
           replace lMk := fun (W : World) (h : Fr v7 W) => lMk W (fr_step f7 h)
           replace lW := fun (W : World) (h : Fr v7 W) => lW W (fr_step f7 h)
           replace ho := keep (Own.below ho.out f7 (Nat.le_refl _))
           replace hq := keep (Own.below hq.out f7 (Nat.le_refl _))
           have rr := fr_refl v7
           have lN : ∀ W, Fr v7 W → (ldS 36 (.pointer (some ⟨v6.heap.size, 0, none⟩))).run Try.prog W = .ok (.agg (mc q).toArray) W := fun W h => msgS.ld Hlq.out (hMc.below h hMc.lt)
           clear hMa hMb hMc hkc fa fab fb ra)
        | fail)
      refine (cG _ _ _ hq).mono ?_
      rintro e v8 ⟨rfl, f8⟩
      replace top := fr_step top f8
      replace lM := fun (W : World) (h : Fr v8 W) => lM W (fr_step f8 h)
      replace lMk := fun (W : World) (h : Fr v8 W) => lMk W (fr_step f8 h)
      replace lW := fun (W : World) (h : Fr v8 W) => lW W (fr_step f8 h)
      replace lN := fun (W : World) (h : Fr v8 W) => lN W (fr_step f8 h)
      replace ho := keep (Own.below ho.out f8 (Nat.le_refl _))
      replace hq := keep (Own.below hq.out f8 (Nat.le_refl _))
      have rr := fr_refl v8
      have tok0 : Hid (0 < 1) := keep (by decide)
      go_wp2_with (first
        | (clear tok0; refine wpList_store_at (ds := mc q) msg_info rfl (.tmp 13) (.tmp 44) rfl v8.heap.size 0 rfl rfl Hlq.out (mc_one _) (Arr.new v8 (mc zeroM).toArray 36) (by decide) (splice_all _ _ (by rw [Hlq.out]; decide)) ?_; intro v9 hM9 hk9
           have f9 := hk9.fr (fr_new rr _) (Nat.le_refl _)
           replace top := fr_step top f9
           replace lM := fun (W : World) (h : Fr v9 W) => lM W (fr_step f9 h)
           replace lMk := fun (W : World) (h : Fr v9 W) => lMk W (fr_step f9 h)
           replace lW := fun (W : World) (h : Fr v9 W) => lW W (fr_step f9 h)
           replace lN := fun (W : World) (h : Fr v9 W) => lN W (fr_step f9 h)
           replace ho := keep (Own.below ho.out f9 (Nat.le_refl _))
           replace hq := keep (Own.below hq.out f9 (Nat.le_refl _))
           have rr := fr_refl v9
           have lG : ∀ W, Fr v9 W → (ldS 36 (.pointer (some ⟨v8.heap.size, 0, none⟩))).run Try.prog W = .ok (.agg (mc q).toArray) W := fun W h => msgS.ld Hlq.out (hM9.below h hM9.lt)
           clear hM9 hk9)
        | fail)
      refine (cC _ _ _ hq).mono ?_
      rintro e v10 ⟨rfl, f10⟩
      replace top := fr_step top f10
      replace lM := fun (W : World) (h : Fr v10 W) => lM W (fr_step f10 h)
      replace lMk := fun (W : World) (h : Fr v10 W) => lMk W (fr_step f10 h)
      replace lW := fun (W : World) (h : Fr v10 W) => lW W (fr_step f10 h)
      replace lN := fun (W : World) (h : Fr v10 W) => lN W (fr_step f10 h)
      replace lG := fun (W : World) (h : Fr v10 W) => lG W (fr_step f10 h)
      replace ho := keep (Own.below ho.out f10 (Nat.le_refl _))
      replace hq := keep (Own.below hq.out f10 (Nat.le_refl _))
      have rr := fr_refl v10
      go_wp2_with fail
      refine (cK _ _ rr).mono ?_
      rintro e v11 ⟨rfl, f11⟩
      replace top := fr_step top f11
      replace lM := fun (W : World) (h : Fr v11 W) => lM W (fr_step f11 h)
      replace lMk := fun (W : World) (h : Fr v11 W) => lMk W (fr_step f11 h)
      replace lW := fun (W : World) (h : Fr v11 W) => lW W (fr_step f11 h)
      replace lN := fun (W : World) (h : Fr v11 W) => lN W (fr_step f11 h)
      replace lG := fun (W : World) (h : Fr v11 W) => lG W (fr_step f11 h)
      replace ho := keep (Own.below ho.out f11 (Nat.le_refl _))
      replace hq := keep (Own.below hq.out f11 (Nat.le_refl _))
      have rr := fr_refl v11
      have tok0 : Hid (0 < 1) := keep (by decide)
      go_wp2_with (first
        | (clear tok0; refine wpList_store_at (ds := kc k) key_info rfl (.tmp 15) (.tmp 81) rfl v11.heap.size 0 rfl rfl (kc_len _) (kc_one _) (Arr.new v11 (kc zeroK).toArray 27) (by rw [kc_len]; decide) (splice_all _ _ (Nat.le_of_eq rfl)) ?_; intro v12 hM12 hk12
           have f12 := hk12.fr (fr_new rr _) (Nat.le_refl _)
           replace top := fr_step top f12
           replace lM := fun (W : World) (h : Fr v12 W) => lM W (fr_step f12 h)
           replace lMk := fun (W : World) (h : Fr v12 W) => lMk W (fr_step f12 h)
           replace lW := fun (W : World) (h : Fr v12 W) => lW W (fr_step f12 h)
           replace lN := fun (W : World) (h : Fr v12 W) => lN W (fr_step f12 h)
           replace lG := fun (W : World) (h : Fr v12 W) => lG W (fr_step f12 h)
           replace ho := keep (Own.below ho.out f12 (Nat.le_refl _))
           replace hq := keep (Own.below hq.out f12 (Nat.le_refl _))
           have rr := fr_refl v12
           have lK : ∀ W, Fr v12 W → (ldS 27 (.pointer (some ⟨v11.heap.size, 0, none⟩))).run Try.prog W = .ok (.agg (kc k).toArray) W := fun W h => keyS.ld (kc_len _) (hM12.below h hM12.lt)
           clear hM12 hk12)
        | fail)
      refine (cY _ _ _ hq).mono ?_
      rintro e v13 ⟨rfl, f13⟩
      replace top := fr_step top f13
      replace lM := fun (W : World) (h : Fr v13 W) => lM W (fr_step f13 h)
      replace lMk := fun (W : World) (h : Fr v13 W) => lMk W (fr_step f13 h)
      replace lW := fun (W : World) (h : Fr v13 W) => lW W (fr_step f13 h)
      replace lN := fun (W : World) (h : Fr v13 W) => lN W (fr_step f13 h)
      replace lG := fun (W : World) (h : Fr v13 W) => lG W (fr_step f13 h)
      replace lK := fun (W : World) (h : Fr v13 W) => lK W (fr_step f13 h)
      replace ho := keep (Own.below ho.out f13 (Nat.le_refl _))
      replace hq := keep (Own.below hq.out f13 (Nat.le_refl _))
      have rr := fr_refl v13
      have tok0 : Hid (0 < 1) := keep (by decide)
      go_wp2_with (first
        | (clear tok0; refine wpList_store_at (ds := mc x1) msg_info rfl (.tmp 16) (.tmp 86) rfl v13.heap.size 0 rfl rfl Hlx.out (mc_one _) (Arr.new v13 (mc zeroM).toArray 36) (by decide) (splice_all _ _ (by rw [Hlx.out]; decide)) ?_; intro v14 hM14 hk14
           have f14 := hk14.fr (fr_new rr _) (Nat.le_refl _)
           replace top := fr_step top f14
           replace lM := fun (W : World) (h : Fr v14 W) => lM W (fr_step f14 h)
           replace lMk := fun (W : World) (h : Fr v14 W) => lMk W (fr_step f14 h)
           replace lW := fun (W : World) (h : Fr v14 W) => lW W (fr_step f14 h)
           replace lN := fun (W : World) (h : Fr v14 W) => lN W (fr_step f14 h)
           replace lG := fun (W : World) (h : Fr v14 W) => lG W (fr_step f14 h)
           replace lK := fun (W : World) (h : Fr v14 W) => lK W (fr_step f14 h)
           replace ho := keep (Own.below ho.out f14 (Nat.le_refl _))
           replace hq := keep (Own.below hq.out f14 (Nat.le_refl _))
           have rr := fr_refl v14
           have lX : ∀ W, Fr v14 W → (ldS 36 (.pointer (some ⟨v13.heap.size, 0, none⟩))).run Try.prog W = .ok (.agg (mc x1).toArray) W := fun W h => msgS.ld Hlx.out (hM14.below h hM14.lt)
           clear hM14 hk14)
        | fail)
      refine (cZ _ _ _ ho).mono ?_
      rintro e v15 ⟨rfl, f15⟩
      replace top := fr_step top f15
      replace lM := fun (W : World) (h : Fr v15 W) => lM W (fr_step f15 h)
      replace lMk := fun (W : World) (h : Fr v15 W) => lMk W (fr_step f15 h)
      replace lW := fun (W : World) (h : Fr v15 W) => lW W (fr_step f15 h)
      replace lN := fun (W : World) (h : Fr v15 W) => lN W (fr_step f15 h)
      replace lG := fun (W : World) (h : Fr v15 W) => lG W (fr_step f15 h)
      replace lK := fun (W : World) (h : Fr v15 W) => lK W (fr_step f15 h)
      replace lX := fun (W : World) (h : Fr v15 W) => lX W (fr_step f15 h)
      replace ho := keep (Own.below ho.out f15 (Nat.le_refl _))
      replace hq := keep (Own.below hq.out f15 (Nat.le_refl _))
      have rr := fr_refl v15
      have tok0 : Hid (0 < 1) := keep (by decide)
      go_wp2_with (first
        | (clear tok0; refine wpList_store_at (ds := mc x1) msg_info rfl (.tmp 18) (.tmp 92) rfl v15.heap.size 0 rfl rfl Hlx.out (mc_one _) (Arr.new v15 (mc zeroM).toArray 36) (by decide) (splice_all _ _ (by rw [Hlx.out]; decide)) ?_; intro v16 hM16 hk16
           have f16 := hk16.fr (fr_new rr _) (Nat.le_refl _)
           replace top := fr_step top f16
           replace lM := fun (W : World) (h : Fr v16 W) => lM W (fr_step f16 h)
           replace lMk := fun (W : World) (h : Fr v16 W) => lMk W (fr_step f16 h)
           replace lW := fun (W : World) (h : Fr v16 W) => lW W (fr_step f16 h)
           replace lN := fun (W : World) (h : Fr v16 W) => lN W (fr_step f16 h)
           replace lG := fun (W : World) (h : Fr v16 W) => lG W (fr_step f16 h)
           replace lK := fun (W : World) (h : Fr v16 W) => lK W (fr_step f16 h)
           replace lX := fun (W : World) (h : Fr v16 W) => lX W (fr_step f16 h)
           replace ho := keep (Own.below ho.out f16 (Nat.le_refl _))
           replace hq := keep (Own.below hq.out f16 (Nat.le_refl _))
           have rr := fr_refl v16
           have lY : ∀ W, Fr v16 W → (ldS 36 (.pointer (some ⟨v15.heap.size, 0, none⟩))).run Try.prog W = .ok (.agg (mc x1).toArray) W := fun W h => msgS.ld Hlx.out (hM16.below h hM16.lt)
           clear hM16 hk16)
        | fail)
      refine (cW _ _ rr).mono ?_
      rintro e v17 ⟨rfl, f17⟩
      replace top := fr_step top f17
      replace lM := fun (W : World) (h : Fr v17 W) => lM W (fr_step f17 h)
      replace lMk := fun (W : World) (h : Fr v17 W) => lMk W (fr_step f17 h)
      replace lW := fun (W : World) (h : Fr v17 W) => lW W (fr_step f17 h)
      replace lN := fun (W : World) (h : Fr v17 W) => lN W (fr_step f17 h)
      replace lG := fun (W : World) (h : Fr v17 W) => lG W (fr_step f17 h)
      replace lK := fun (W : World) (h : Fr v17 W) => lK W (fr_step f17 h)
      replace lX := fun (W : World) (h : Fr v17 W) => lX W (fr_step f17 h)
      replace lY := fun (W : World) (h : Fr v17 W) => lY W (fr_step f17 h)
      replace ho := keep (Own.below ho.out f17 (Nat.le_refl _))
      replace hq := keep (Own.below hq.out f17 (Nat.le_refl _))
      have rr := fr_refl v17
      go_wp2_with fail
      go_ret
      exact ⟨rfl, top⟩
end Go.Proofs.Ytbdioipjgjbgmaa
