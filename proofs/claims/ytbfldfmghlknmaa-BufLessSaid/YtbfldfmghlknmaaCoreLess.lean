/- BufLess, walked. -/
import Derived.Test.YtbfldfmghlknmaaCoreBat
namespace Go.Proofs.Ytbfldfmghlknmaa
set_option maxRecDepth 100000
open Go.RowKit
set_option linter.unusedVariables false
attribute [local go_sem ↓] key_ld msg_ld msg_st
theorem less_facts {l g : List RM} (ol : OkL l) (k : RK) : (findL (lessL l g) k).isSome = ((findL l k).isSome && !(findL g k).isSome) ∧ ((findL (lessL l g) k).isSome = true → (findL (lessL l g) k).getD zeroM = (findL l k).getD zeroM) := by
  rw [findL_less ol]
  cases h1 : (findL g k).isSome
  · rw [if_neg (by decide)]
    exact ⟨by simp, fun _ => rfl⟩
  · rw [if_pos rfl]
    exact ⟨by simp, fun h => by cases h⟩
theorem getD_wf {o : Option RM} (h : ∀ m, o = some m → m.wf) : (o.getD zeroM).wf := by
  cases o with
  | none => exact zeroM_wf
  | some m => exact h m rfl
set_option maxHeartbeats 4000000 in
theorem bufLess_core {w : World} {A0 A1 : Option Addr} {n0 c0 n1 c1 : Nat} {ns ms : List Int} {kn : Int} (hl0 : Has w w.heap.size A0 (ns.map (Value.int .i64))) (hn0 : ns.length = n0) (hns : ∀ z ∈ ns, Is64 z) (hnm0 : n0 ≤ maxLen)
    (hl1 : Has w w.heap.size A1 (ms.map (Value.int .i64))) (hn1 : ms.length = n1) (hms : ∀ z ∈ ms, Is64 z) (hnm1 : n1 ≤ maxLen) (hkn : Is64 kn) :
    Calls Try.prog 9 #[.slice A0 n0 c0, .slice A1 n1 c1, .int .i64 kn] w fun e w' => e = .returned (.bool true) ∧ Below w.heap.size w w' := by
  have cM := law_msgs (c := c0) (most := 2000) hl0 (Nat.le_refl _) hn0 hns (by omega) hnm0
  have cM2 : ∀ W, Fr w W → Calls Try.prog 10 #[.slice A1 n1 c1, .int .i64 2000] W fun e w' => ∃ A' c', e = .returned (.slice A' (msgsL ms 2000).length c') ∧ OwnM w' W.heap.size A' c' (msgsL ms 2000) ∧ Fr W w' := fun W hW => law_msgs (hl1.fr (Nat.le_refl _) hW) hW.size hn1 hms (by omega) hnm1
  have ol := msgsL_ok ns 2000
  have hlen := msgsL_len ns 2000
  have og := msgsL_ok ms 2000
  have hlen2 := msgsL_len ms 2000
  have wk := lawK_wf kn
  have ok := lawK_ok kn
  have cK := fun W0 W h => law_key_at (W0 := W0) (W := W) (v := kn) hkn h
  generalize msgsL ns 2000 = l at *
  generalize msgsL ms 2000 = g at *
  generalize lawK kn = k at *
  clear hl0 hl1 hn0 hn1 hns hms
  obtain ⟨n, hn⟩ : ∃ n, l.length = n := ⟨_, rfl⟩
  obtain ⟨n2, hn2⟩ : ∃ n2, g.length = n2 := ⟨_, rfl⟩
  rw [hn] at cM hlen
  rw [hn2] at cM2 hlen2
  have hll : (lessL l g).length ≤ 60 := Nat.le_trans (List.length_filter_le _ _) (by omega)
  obtain ⟨hf1, hf2⟩ := less_facts (g := g) ol k
  have ols := lessL_ok (gone := g) ol
  have Hl := keep ol
  have Hg := keep og
  have Hn := keep hn
  have Hn2 := keep hn2
  have Hls := keep ols
  have Hwk := keep wk
  have Hok := keep ok
  have Hself := keep (less_self ol)
  have Hnil := keep (less_nil l)
  have Hx := keep (getD_wf (o := findL (lessL l g) k) (fun x hx => (ols.good x (findL_mem hx).1).1))
  have Hy := keep (getD_wf (o := findL l k) (fun x hx => (ol.good x (findL_mem hx).1).1))
  have Hz := keep (getD_wf (o := findL g k) (fun x hx => (og.good x (findL_mem hx).1).1))
  have Hf1 := keep hf1
  have Hf2 := keep hf2
  clear ol og hn hn2 ols wk ok hf1 hf2
  go_enter Try.func9, Try.ntmps9
  go_wp2_with (first
    | (go_at_call 10; refine cM.mono ?_; rintro e w1 ⟨A, c, rfl, ho, hz1⟩
       have Ho := keep ho
       clear ho cM)
    | (go_at_call 10; refine (cM2 _ hz1).mono ?_; rintro e w2 ⟨A2, c2, rfl, ho2, hz2⟩
       have Ho1 := keep (Ho.out.fr hz2)
       have Ho2 := keep ho2
       have hF2 := fr_step hz1 hz2
       clear ho2 cM2 Ho
       have cL := less_at (c := c) (c2 := c2) Ho1.out.has (Nat.le_refl _) Hn.out (by omega) Hl.out.good.wfm Ho2.out.has (Nat.le_refl _) Hn2.out (by omega) Hg.out.good.wfm)
    | (go_at_call 29; refine cL.mono ?_; rintro e w3 ⟨A3, c3, rfl, ho3, hz3⟩
       have Ho3 := keep ho3
       have h33 := fr_refl w3
       clear ho3 cL)
    | fail)
  have hH1 := (Ho1.out.fr hz3).has
  have hH2 := (Ho2.out.fr hz3).has
  have hH3 := Ho3.out.has
  have ol := Hl.out
  have og := Hg.out
  have ols := Hls.out
  have hF3 := fr_step hF2 hz3
  generalize hl3 : (lessL l g).length = n3 at *
  have cF1 : ∀ W, Fr w3 W → Calls Try.prog 14 #[.slice A3 n3 c3, kv k] W fun e w' => e = .returned (findV (findL (lessL l g) k)) ∧ Fr W w' := fun W hW => find_at (hH3.fr (Nat.le_refl _) hW) hW.size hl3 (by omega) ols Hwk.out Hok.out
  have cF2 : ∀ W, Fr w3 W → Calls Try.prog 15 #[.slice A n c, kv k] W fun e w' => e = .returned (findV (findL l k)) ∧ Fr W w' := fun W hW => ref_find (hH1.fr (Nat.le_refl _) hW) hW.size Hn.out (by omega) ol.good.wfm Hwk.out
  have cF3 : ∀ W, Fr w3 W → Calls Try.prog 15 #[.slice A2 n2 c2, kv k] W fun e w' => e = .returned (findV (findL g k)) ∧ Fr W w' := fun W hW => ref_find (hH2.fr (Nat.le_refl _) hW) hW.size Hn2.out (by omega) og.good.wfm Hwk.out
  have cC : ∀ W, Fr w3 W → Calls Try.prog 17 #[.slice A3 n3 c3] W fun e w' => e = .returned (.bool true) ∧ Fr w3 w' := fun W hW => (ref_check6 (c := c3) (hH3.fr (Nat.le_refl _) hW) hW.size hl3 (by omega) ols.good.wfm).mono fun e w' h => by
    obtain ⟨⟨b, e1, hb⟩, h2⟩ := h
    rw [hb.2 ols] at e1
    exact ⟨e1, fr_step hW h2⟩
  have cN : ∀ W, Fr w3 W → Calls Try.prog 29 #[.slice A n c, .slice none 0 0] W fun e w' => ∃ A' c', e = .returned (.slice A' n c') ∧ Hid (OwnM w' w3.heap.size A' c' l) ∧ Fr w3 w' := fun W hW => (less_at (c := c) (c2 := 0) (B2 := 0) (gone := []) (hH1.fr (Nat.le_refl _) hW) hW.size Hn.out (by omega) ol.good.wfm Has.nil (Nat.zero_le _) rfl (Nat.zero_le _) (fun x hx => by simp at hx)).mono fun e w' h => by
    obtain ⟨A', c', e1, h1, h2⟩ := h
    rw [Hnil.out, Hn.out] at e1
    rw [Hnil.out] at h1
    exact ⟨A', c', e1, keep (h1.mono hW.size), fr_step hW h2⟩
  have cS : ∀ W A' c', Hid (OwnM W w3.heap.size A' c' l) → Fr w3 W → Calls Try.prog 20 #[.slice A' n c', .slice A n c] W fun e w' => e = .returned (.bool true) ∧ Fr w3 w' := fun W A' c' ho hW => by
    have := same_at (W0 := w3) (c := c') (c2 := c) ho.out.has (Nat.le_refl _) Hn.out (by omega) ol.good.wfm (hH1.fr (Nat.le_refl _) hW) hW.size Hn.out (by omega) ol.good.wfm hW
    rwa [decide_eq_true rfl] at this
  have cE : ∀ W, Fr w3 W → Calls Try.prog 29 #[.slice A n c, .slice A n c] W fun e w' => (∃ A' c', e = .returned (.slice A' 0 c')) ∧ Fr w3 w' := fun W hW => (less_at (c := c) (c2 := c) (hH1.fr (Nat.le_refl _) hW) hW.size Hn.out (by omega) ol.good.wfm (hH1.fr (Nat.le_refl _) hW) hW.size Hn.out (by omega) ol.good.wfm).mono fun e w' h => by
    obtain ⟨A', c', e1, h1, h2⟩ := h
    rw [Hself.out] at e1
    exact ⟨⟨A', c', e1⟩, fr_step hW h2⟩
  have cW := fun W h => awake6_at (W0 := w3) (W := W) h
  have hf1 := Hf1.out
  have hf2 := Hf2.out
  unfold findV at cF1 cF2 cF3
  generalize (findL (lessL l g) k).isSome = b1 at *
  generalize (findL l k).isSome = b2 at *
  generalize (findL g k).isSome = b3 at *
  generalize (findL (lessL l g) k).getD zeroM = x at *
  generalize (findL l k).getD zeroM = y at *
  generalize (findL g k).getD zeroM = z at *
  subst hf1
  have hlx := keep (mc_len Hx.out.val.hl)
  have hly := keep (mc_len Hy.out.val.hl)
  have hlz := keep (mc_len Hz.out.val.hl)
  have qx := msg_self Hx.out
  clear hH1 hH2 hH3 ol og ols hF2 hz1 hz2 hz3 Hf1 Hf2 Hls Hl Hg Hself Hnil Ho1 Ho2 Ho3 hl3
  cases b2 <;> cases b3
  · try simp only [Bool.not_false, Bool.and_true] at cF1
    clear hf2
    go_wp2_with (first
      | (go_at_call 11; (with_reducible refine (cK w3 _ h33).mono ?_); rintro e w4 ⟨rfl, hz4⟩)
      | (refine wpList_store_at (ds := kc k) key_info rfl (.tmp 10) (.tmp 25) rfl w4.heap.size 0 rfl rfl (kc_len k) (kc_one _) (Arr.new w4 (kc zeroK).toArray 27) (by rw [kc_len]; decide) (splice_all _ _ (by rw [kc_len, kc_len]; decide)) ?_; intro Y hK hky
         have hY := hky.fr (fr_new hz4 _) hz4.size
         have hy := fr_refl Y
         have lK : ∀ W, Fr Y W → (ldS 27 (.pointer (some ⟨w4.heap.size, 0, none⟩))).run Try.prog W = .ok (.agg (kc k).toArray) W := fun W h => keyS.ld (kc_len k) (hK.below h hK.lt)
         clear hky hz4)
      | (go_at_call 14; (with_reducible refine (cF1 Y hY).mono ?_); rintro e v1 ⟨rfl, hv1⟩)
      | (refine wpList_store_at (ds := mc x) msg_info rfl (.tmp 11) (.tmp 30) rfl v1.heap.size 0 rfl rfl hlx.out (mc_one _) (Arr.new v1 (mc zeroM).toArray 36) (by decide) (splice_all _ _ (by rw [hlx.out]; decide)) ?_; intro Y1 hM1 hk1
         have hY1 := hk1.fr (fr_new hv1 _) hv1.size
         have h31 := fr_step hY hY1
         have h11 := fr_refl Y1
         have lx : ∀ W, Fr Y1 W → (ldS 36 (.pointer (some ⟨v1.heap.size, 0, none⟩))).run Try.prog W = .ok (.agg (mc x).toArray) W := fun W h => msgS.ld hlx.out (hM1.below h hM1.lt)
         clear hk1)
      | (go_at_call 15; (with_reducible refine (cF2 Y1 h31).mono ?_); rintro e v2 ⟨rfl, hv2⟩)
      | (refine wpList_store_at (ds := mc y) msg_info rfl (.tmp 13) (.tmp 36) rfl v2.heap.size 0 rfl rfl hly.out (mc_one _) (Arr.new v2 (mc zeroM).toArray 36) (by decide) (splice_all _ _ (by rw [hly.out]; decide)) ?_; intro Y2 hM2 hk2
         have hY2 := hk2.fr (fr_new hv2 _) hv2.size
         have h02 := fr_step hY1 hY2
         have h32 := fr_step h31 hY2
         have h22 := fr_refl Y2
         have ly : ∀ W, Fr Y2 W → (ldS 36 (.pointer (some ⟨v2.heap.size, 0, none⟩))).run Try.prog W = .ok (.agg (mc y).toArray) W := fun W h => msgS.ld hly.out (hM2.below h hM2.lt)
         clear hk2)
      | (go_at_call 15; (with_reducible refine (cF3 Y2 h32).mono ?_); rintro e v3 ⟨rfl, hv3⟩)
      | (refine wpList_store_at (ds := mc z) msg_info rfl (.tmp 15) (.tmp 42) rfl v3.heap.size 0 rfl rfl hlz.out (mc_one _) (Arr.new v3 (mc zeroM).toArray 36) (by decide) (splice_all _ _ (by rw [hlz.out]; decide)) ?_; intro Y3 hM3 hk3
         have hY3 := hk3.fr (fr_new hv3 _) hv3.size
         have h13 := fr_step hY2 hY3
         have h33' := fr_step h32 hY3
         clear hk3)
      | (go_at_call 17; (with_reducible refine (cC _ (by assumption)).mono ?_); rintro e u1 ⟨rfl, hu1⟩)
      | (go_at_call 29; (with_reducible refine (cN _ (by assumption)).mono ?_); rintro e u2 ⟨A8, c8, rfl, ho8, hu2⟩)
      | (go_at_call 20; (with_reducible refine (cS _ _ _ (by assumption) (by assumption)).mono ?_); rintro e u3 ⟨rfl, hu3⟩)
      | (go_at_call 29; (with_reducible refine (cE _ (by assumption)).mono ?_); rintro e u4 ⟨⟨A9, c9, rfl⟩, hu4⟩)
      | (go_at_call 31; (with_reducible refine (cW _ (by assumption)).mono ?_); rintro e u5 ⟨rfl, hu5⟩)
      | fail)
    go_ret
    exact ⟨rfl, fr_step hF3 hu5⟩
  · try simp only [Bool.not_true, Bool.and_self] at cF1
    clear hf2
    go_wp2_with (first
      | (go_at_call 11; (with_reducible refine (cK w3 _ h33).mono ?_); rintro e w4 ⟨rfl, hz4⟩)
      | (refine wpList_store_at (ds := kc k) key_info rfl (.tmp 10) (.tmp 25) rfl w4.heap.size 0 rfl rfl (kc_len k) (kc_one _) (Arr.new w4 (kc zeroK).toArray 27) (by rw [kc_len]; decide) (splice_all _ _ (by rw [kc_len, kc_len]; decide)) ?_; intro Y hK hky
         have hY := hky.fr (fr_new hz4 _) hz4.size
         have hy := fr_refl Y
         have lK : ∀ W, Fr Y W → (ldS 27 (.pointer (some ⟨w4.heap.size, 0, none⟩))).run Try.prog W = .ok (.agg (kc k).toArray) W := fun W h => keyS.ld (kc_len k) (hK.below h hK.lt)
         clear hky hz4)
      | (go_at_call 14; (with_reducible refine (cF1 Y hY).mono ?_); rintro e v1 ⟨rfl, hv1⟩)
      | (refine wpList_store_at (ds := mc x) msg_info rfl (.tmp 11) (.tmp 30) rfl v1.heap.size 0 rfl rfl hlx.out (mc_one _) (Arr.new v1 (mc zeroM).toArray 36) (by decide) (splice_all _ _ (by rw [hlx.out]; decide)) ?_; intro Y1 hM1 hk1
         have hY1 := hk1.fr (fr_new hv1 _) hv1.size
         have h31 := fr_step hY hY1
         have h11 := fr_refl Y1
         have lx : ∀ W, Fr Y1 W → (ldS 36 (.pointer (some ⟨v1.heap.size, 0, none⟩))).run Try.prog W = .ok (.agg (mc x).toArray) W := fun W h => msgS.ld hlx.out (hM1.below h hM1.lt)
         clear hk1)
      | (go_at_call 15; (with_reducible refine (cF2 Y1 h31).mono ?_); rintro e v2 ⟨rfl, hv2⟩)
      | (refine wpList_store_at (ds := mc y) msg_info rfl (.tmp 13) (.tmp 36) rfl v2.heap.size 0 rfl rfl hly.out (mc_one _) (Arr.new v2 (mc zeroM).toArray 36) (by decide) (splice_all _ _ (by rw [hly.out]; decide)) ?_; intro Y2 hM2 hk2
         have hY2 := hk2.fr (fr_new hv2 _) hv2.size
         have h02 := fr_step hY1 hY2
         have h32 := fr_step h31 hY2
         have h22 := fr_refl Y2
         have ly : ∀ W, Fr Y2 W → (ldS 36 (.pointer (some ⟨v2.heap.size, 0, none⟩))).run Try.prog W = .ok (.agg (mc y).toArray) W := fun W h => msgS.ld hly.out (hM2.below h hM2.lt)
         clear hk2)
      | (go_at_call 15; (with_reducible refine (cF3 Y2 h32).mono ?_); rintro e v3 ⟨rfl, hv3⟩)
      | (refine wpList_store_at (ds := mc z) msg_info rfl (.tmp 15) (.tmp 42) rfl v3.heap.size 0 rfl rfl hlz.out (mc_one _) (Arr.new v3 (mc zeroM).toArray 36) (by decide) (splice_all _ _ (by rw [hlz.out]; decide)) ?_; intro Y3 hM3 hk3
         have hY3 := hk3.fr (fr_new hv3 _) hv3.size
         have h13 := fr_step hY2 hY3
         have h33' := fr_step h32 hY3
         clear hk3)
      | (go_at_call 17; (with_reducible refine (cC _ (by assumption)).mono ?_); rintro e u1 ⟨rfl, hu1⟩)
      | (go_at_call 29; (with_reducible refine (cN _ (by assumption)).mono ?_); rintro e u2 ⟨A8, c8, rfl, ho8, hu2⟩)
      | (go_at_call 20; (with_reducible refine (cS _ _ _ (by assumption) (by assumption)).mono ?_); rintro e u3 ⟨rfl, hu3⟩)
      | (go_at_call 29; (with_reducible refine (cE _ (by assumption)).mono ?_); rintro e u4 ⟨⟨A9, c9, rfl⟩, hu4⟩)
      | (go_at_call 31; (with_reducible refine (cW _ (by assumption)).mono ?_); rintro e u5 ⟨rfl, hu5⟩)
      | fail)
    go_ret
    exact ⟨rfl, fr_step hF3 hu5⟩
  · try simp only [Bool.not_false, Bool.and_self] at cF1
    obtain rfl := hf2 rfl
    clear hf2
    go_wp2_with (first
      | (go_at_call 11; (with_reducible refine (cK w3 _ h33).mono ?_); rintro e w4 ⟨rfl, hz4⟩)
      | (refine wpList_store_at (ds := kc k) key_info rfl (.tmp 10) (.tmp 25) rfl w4.heap.size 0 rfl rfl (kc_len k) (kc_one _) (Arr.new w4 (kc zeroK).toArray 27) (by rw [kc_len]; decide) (splice_all _ _ (by rw [kc_len, kc_len]; decide)) ?_; intro Y hK hky
         have hY := hky.fr (fr_new hz4 _) hz4.size
         have hx := fr_refl Y
         have lK : ∀ W, Fr Y W → (ldS 27 (.pointer (some ⟨w4.heap.size, 0, none⟩))).run Try.prog W = .ok (.agg (kc k).toArray) W := fun W h => keyS.ld (kc_len k) (hK.below h hK.lt)
         clear hky hz4)
      | (go_at_call 14; (with_reducible refine (cF1 Y hY).mono ?_); rintro e v1 ⟨rfl, hv1⟩)
      | (refine wpList_store_at (ds := mc x) msg_info rfl (.tmp 11) (.tmp 30) rfl v1.heap.size 0 rfl rfl hlx.out (mc_one _) (Arr.new v1 (mc zeroM).toArray 36) (by decide) (splice_all _ _ (by rw [hlx.out]; decide)) ?_; intro Y1 hM1 hk1
         have hY1 := hk1.fr (fr_new hv1 _) hv1.size
         have h31 := fr_step hY hY1
         have h11 := fr_refl Y1
         have lx : ∀ W, Fr Y1 W → (ldS 36 (.pointer (some ⟨v1.heap.size, 0, none⟩))).run Try.prog W = .ok (.agg (mc x).toArray) W := fun W h => msgS.ld hlx.out (hM1.below h hM1.lt)
         clear hk1)
      | (go_at_call 15; (with_reducible refine (cF2 Y1 h31).mono ?_); rintro e v2 ⟨rfl, hv2⟩)
      | (refine wpList_store_at (ds := mc x) msg_info rfl (.tmp 13) (.tmp 36) rfl v2.heap.size 0 rfl rfl hlx.out (mc_one _) (Arr.new v2 (mc zeroM).toArray 36) (by decide) (splice_all _ _ (by rw [hlx.out]; decide)) ?_; intro Y2 hM2 hk2
         have hY2 := hk2.fr (fr_new hv2 _) hv2.size
         have h02 := fr_step hY1 hY2
         have h32 := fr_step h31 hY2
         have h22 := fr_refl Y2
         have ly : ∀ W, Fr Y2 W → (ldS 36 (.pointer (some ⟨v2.heap.size, 0, none⟩))).run Try.prog W = .ok (.agg (mc x).toArray) W := fun W h => msgS.ld hlx.out (hM2.below h hM2.lt)
         clear hk2)
      | (go_at_call 15; (with_reducible refine (cF3 Y2 h32).mono ?_); rintro e v3 ⟨rfl, hv3⟩)
      | (refine wpList_store_at (ds := mc z) msg_info rfl (.tmp 15) (.tmp 42) rfl v3.heap.size 0 rfl rfl hlz.out (mc_one _) (Arr.new v3 (mc zeroM).toArray 36) (by decide) (splice_all _ _ (by rw [hlz.out]; decide)) ?_; intro Y3 hM3 hk3
         have hY3 := hk3.fr (fr_new hv3 _) hv3.size
         have h13 := fr_step hY2 hY3
         have h33' := fr_step h32 hY3
         clear hk3)
      | (go_at_call 17; (with_reducible refine (cC _ (by assumption)).mono ?_); rintro e u1 ⟨rfl, hu1⟩)
      | (go_at_call 29; (with_reducible refine (cN _ (by assumption)).mono ?_); rintro e u2 ⟨A8, c8, rfl, ho8, hu2⟩)
      | (go_at_call 20; (with_reducible refine (cS _ _ _ (by assumption) (by assumption)).mono ?_); rintro e u3 ⟨rfl, hu3⟩)
      | (go_at_call 29; (with_reducible refine (cE _ (by assumption)).mono ?_); rintro e u4 ⟨⟨A9, c9, rfl⟩, hu4⟩)
      | (go_at_call 31; (with_reducible refine (cW _ (by assumption)).mono ?_); rintro e u5 ⟨rfl, hu5⟩)
      | fail)
    go_ret
    exact ⟨rfl, fr_step hF3 hu5⟩
  · try simp only [Bool.not_true, Bool.and_false] at cF1
    clear hf2
    go_wp2_with (first
      | (go_at_call 11; (with_reducible refine (cK w3 _ h33).mono ?_); rintro e w4 ⟨rfl, hz4⟩)
      | (refine wpList_store_at (ds := kc k) key_info rfl (.tmp 10) (.tmp 25) rfl w4.heap.size 0 rfl rfl (kc_len k) (kc_one _) (Arr.new w4 (kc zeroK).toArray 27) (by rw [kc_len]; decide) (splice_all _ _ (by rw [kc_len, kc_len]; decide)) ?_; intro Y hK hky
         have hY := hky.fr (fr_new hz4 _) hz4.size
         have hy := fr_refl Y
         have lK : ∀ W, Fr Y W → (ldS 27 (.pointer (some ⟨w4.heap.size, 0, none⟩))).run Try.prog W = .ok (.agg (kc k).toArray) W := fun W h => keyS.ld (kc_len k) (hK.below h hK.lt)
         clear hky hz4)
      | (go_at_call 14; (with_reducible refine (cF1 Y hY).mono ?_); rintro e v1 ⟨rfl, hv1⟩)
      | (refine wpList_store_at (ds := mc x) msg_info rfl (.tmp 11) (.tmp 30) rfl v1.heap.size 0 rfl rfl hlx.out (mc_one _) (Arr.new v1 (mc zeroM).toArray 36) (by decide) (splice_all _ _ (by rw [hlx.out]; decide)) ?_; intro Y1 hM1 hk1
         have hY1 := hk1.fr (fr_new hv1 _) hv1.size
         have h31 := fr_step hY hY1
         have h11 := fr_refl Y1
         have lx : ∀ W, Fr Y1 W → (ldS 36 (.pointer (some ⟨v1.heap.size, 0, none⟩))).run Try.prog W = .ok (.agg (mc x).toArray) W := fun W h => msgS.ld hlx.out (hM1.below h hM1.lt)
         clear hk1)
      | (go_at_call 15; (with_reducible refine (cF2 Y1 h31).mono ?_); rintro e v2 ⟨rfl, hv2⟩)
      | (refine wpList_store_at (ds := mc y) msg_info rfl (.tmp 13) (.tmp 36) rfl v2.heap.size 0 rfl rfl hly.out (mc_one _) (Arr.new v2 (mc zeroM).toArray 36) (by decide) (splice_all _ _ (by rw [hly.out]; decide)) ?_; intro Y2 hM2 hk2
         have hY2 := hk2.fr (fr_new hv2 _) hv2.size
         have h02 := fr_step hY1 hY2
         have h32 := fr_step h31 hY2
         have h22 := fr_refl Y2
         have ly : ∀ W, Fr Y2 W → (ldS 36 (.pointer (some ⟨v2.heap.size, 0, none⟩))).run Try.prog W = .ok (.agg (mc y).toArray) W := fun W h => msgS.ld hly.out (hM2.below h hM2.lt)
         clear hk2)
      | (go_at_call 15; (with_reducible refine (cF3 Y2 h32).mono ?_); rintro e v3 ⟨rfl, hv3⟩)
      | (refine wpList_store_at (ds := mc z) msg_info rfl (.tmp 15) (.tmp 42) rfl v3.heap.size 0 rfl rfl hlz.out (mc_one _) (Arr.new v3 (mc zeroM).toArray 36) (by decide) (splice_all _ _ (by rw [hlz.out]; decide)) ?_; intro Y3 hM3 hk3
         have hY3 := hk3.fr (fr_new hv3 _) hv3.size
         have h13 := fr_step hY2 hY3
         have h33' := fr_step h32 hY3
         clear hk3)
      | (go_at_call 17; (with_reducible refine (cC _ (by assumption)).mono ?_); rintro e u1 ⟨rfl, hu1⟩)
      | (go_at_call 29; (with_reducible refine (cN _ (by assumption)).mono ?_); rintro e u2 ⟨A8, c8, rfl, ho8, hu2⟩)
      | (go_at_call 20; (with_reducible refine (cS _ _ _ (by assumption) (by assumption)).mono ?_); rintro e u3 ⟨rfl, hu3⟩)
      | (go_at_call 29; (with_reducible refine (cE _ (by assumption)).mono ?_); rintro e u4 ⟨⟨A9, c9, rfl⟩, hu4⟩)
      | (go_at_call 31; (with_reducible refine (cW _ (by assumption)).mono ?_); rintro e u5 ⟨rfl, hu5⟩)
      | fail)
    go_ret
    exact ⟨rfl, fr_step hF3 hu5⟩
end Go.Proofs.Ytbfldfmghlknmaa
