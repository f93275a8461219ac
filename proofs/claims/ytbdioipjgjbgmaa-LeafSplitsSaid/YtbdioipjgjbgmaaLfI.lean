/- The document's 'Put' of an entry that is left. -/
import Derived.Test.YtbdioipjgjbgmaaLfH
namespace Go.Proofs.Ytbdioipjgjbgmaa
set_option maxRecDepth 100000
open Go.RowKit
set_option linter.unusedVariables false
attribute [local go_sem ↓] key_ld ent_ld val_ld msg_ld
set_option maxHeartbeats 4000000 in
theorem ref_eput_is {w : World} {A : Option Addr} {n c B : Nat} {l : List RE} {m : RM} (hl : Has w B A (rows ec l)) (hB : B ≤ w.heap.size) (hn : l.length = n) (hsm : n ≤ 100000) (ol : OkE l) (wm : m.wf) (om : okM m = true) (hb : appB m = true) :
    Calls Try.prog 49 #[.slice A n c, mm m] w fun e w' => ∃ A' c', e = .returned (.slice A' (putE l m).length c') ∧ OwnE w' w.heap.size A' c' (putE l m) ∧ Fr w w' := by
  obtain ⟨Z, hZ, hF, hZZ, hM, hS⟩ := msg_box1 w m
  have hBZ : B ≤ Z.heap.size := Nat.le_trans hB hF.size
  have lK := msg_keyAt hM
  have lM := msg_all hM wm.val.hl
  have cF := ref_efind (c := c) (hl.fr hB hF) hBZ hn hsm ol.wfe wm.key
  have wx : ((findE l m.key).getD zeroV).wf := by
    cases hf : findE l m.key with
    | none => exact zeroV_wf
    | some x => exact (findE_ok ol hf).1
  have hox : (findE l m.key).isSome = true → okV ((findE l m.key).getD zeroV) = true := by
    cases hf : findE l m.key with
    | none => intro h; cases h
    | some x => intro _; exact (findE_ok ol hf).2
  have cA : ∀ W, Calls Try.prog 53 #[vv ((findE l m.key).getD zeroV), .bool (findE l m.key).isSome, mm m] W fun e w' => e = .returned (.tuple #[vv (appV ((findE l m.key).getD zeroV) (findE l m.key).isSome m), .bool (appB m)]) ∧ Fr W w' := fun W => rmapply_at wx hox wm om (fr_refl W)
  have wv := appV_wf (t := (findE l m.key).isSome) wx wm
  have hpe : putE l m = setE l m.key (if appB m = true then some (appV ((findE l m.key).getD zeroV) (findE l m.key).isSome m) else none) := rfl
  rw [hpe]
  rw [hb] at cA ⊢
  unfold findEV at cF
  generalize appV ((findE l m.key).getD zeroV) (findE l m.key).isSome m = v at *
  generalize (findE l m.key).getD zeroV = x0 at *
  generalize (findE l m.key).isSome = b0 at *
  have HlX := keep (vc_len wx.hl)
  have HlV := keep (vc_len wv.hl)
  have hlv : (vc v).length = 17 := vc_len wv.hl
  have Hl := keep (hl.fr hB hF)
  have Hn := keep hn
  have Hol := keep ol
  have hdec : setE l m.key (if true = true then some v else none) = setE l m.key (some v) := rfl
  rw [hdec]
  have hln : (ec ⟨m.key, v⟩).length = 26 := ec_len wv.hl
  have hf1 := ent_built m.key wv.hl
  have hf2 := ent_fold (e := ⟨m.key, v⟩) wv.hl
  have we : RE.wf ⟨m.key, v⟩ := ⟨wm.key, wv⟩
  obtain ⟨e0, he⟩ : ∃ e : RE, (⟨m.key, v⟩ : RE) = e := ⟨_, rfl⟩
  have He0 := keep he
  rw [he] at hln hf1 hf2 we
  have Hwe := keep we
  clear he we
  clear hl hn ol hM hpe hox hb hdec
  go_enter Try.func49, Try.ntmps49
  go_wp2_with (first
    | (go_at_call 41; (with_reducible refine cF.mono ?_); rintro e w1 ⟨rfl, hz1⟩)
    | (refine wpList_store_at (ds := vc x0) val_info rfl (.tmp 5) (.tmp 18) rfl w1.heap.size 0 rfl rfl HlX.out (vc_one _) (Arr.new w1 (vc zeroV).toArray 34) (by decide) (splice_all _ _ (by rw [HlX.out]; decide)) ?_; intro Y1 hV1 hk1; have hF1 := hk1.fr (fr_new hz1 _) hz1.size; have lv1 := ld_fr hV1 HlX.out; have h11 := fr_refl Y1; clear hk1)
    | (go_at_call 53; (with_reducible refine (cA _).mono ?_); rintro e w3 ⟨rfl, hz3⟩; have hF3 := fr_step hF1 hz3; clear lv1 h11)
    | (refine wpList_store_at (ds := vc v) val_info rfl (.tmp 7) (.tmp 25) rfl w3.heap.size 0 rfl rfl HlV.out (vc_one _) (Arr.new w3 (vc zeroV).toArray 34) (by decide) (splice_all _ _ (by rw [HlV.out]; decide)) ?_; intro Y2 hV2 hk2; have hF2 := hk2.fr (fr_new hF3 _) hF3.size; have lv2 := ld_fr hV2 HlV.out; clear hk2)
    | fail)
  have hYY := fr_refl Y2
  have lK2 : ∀ W, Fr Y2 W → (ldS 27 (.pointer (some ⟨w.heap.size, 2, none⟩))).run Try.prog W = .ok (.agg (kc m.key).toArray) W := fun W h => lK W (fr_step hF2 h)
  have HlY := keep (Hl.out.fr hBZ hF2)
  have hBY := Nat.le_trans hBZ hF2.size
  have hwY := fr_step hF hF2
  have hSz := hwY.size
  clear lK lM cF cA hV1 hV2 hz1 hz3 hF1 hF3 Hl
  go_loopg [9, 10, 11] n (fun g s9 s10 s11 wr => ∃ (j : Nat) (p : Bool) (A' : Option Addr) (n' c' : Nat) (q : List RE), j + g = n ∧ s11 = .int .i64 j ∧ s10 = .bool p ∧ s9 = .slice A' n' c' ∧ n' ≤ j + 1 ∧ Hid (q.length = n') ∧ Hid (OwnE wr Y2.heap.size A' c' q) ∧ Hid (PutI l m.key (some v) j p q) ∧ Hid (Fr Y2 wr))
  case atStart => exact ⟨0, false, none, 0, 0, [], by omega, rfl, rfl, rfl, by omega, keep rfl, keep (Own.nil _ _ _ _), keep (putI_start _ _ _), keep hYY⟩
  case round =>
    obtain ⟨j, p, A', n', c', q, hj, rfl, rfl, rfl, hn'j, Hn', hO, HI, hZr⟩ := hrel
    by_cases hlt : j < n
    · have hx : l[j]? = some (l[j]'(by rw [Hn.out]; exact hlt)) := List.getElem?_eq_getElem _
      generalize l[j]'(by rw [Hn.out]; exact hlt) = x at hx
      have hwid := Hol.out.wfe.wid
      obtain ⟨b, off, rfl, hb1, hr⟩ := has_rows HlY.out hwid (by decide) (by intro e; rw [e] at hx; simp at hx)
      have lX := elem_ld entS hr hwid (by omega) hx
      have lXk := elem_part (o := 0) keyS hr hwid (by omega) hx (ec_key x) (kc_len _)
      simp only [Nat.add_zero] at lXk
      have gx := Hol.out.good x (emem_at hx)
      have cK := fun W0 W h => rkcomp_at (W0 := W0) (W := W) gx.wk wm.key gx.ok (okM_key om) h
      have hZ1 := hZr.out
      have hrr := fr_refl wr
      have hZD := fr_drew hZ1
      have hrD := fr_drew hrr
      have hjz : (j : Int) < (n : Int) := by omega
      have hszx : (ec x).length = 26 := ec_len gx.wv.hl
      have hfx := ent_fold (e := x) gx.wv.hl
      have Hwx := keep gx.wf
      rcases Int.lt_trichotomy (ce x) (code m.key) with hc | hc | hc
      · have hr1 : cmpK x.key m.key < 0 := cmpK_lt.2 hc
        have hp : p = false := by
          cases p with
          | false => rfl
          | true => have := putI_gt_of HI.out hx; omega
        subst hp
        have HI2 := keep (putI_lt HI.out hx hc)
        generalize cmpK x.key m.key = r at *
        have r1 : ¬ r = 0 := by omega
        have r2 : ¬ 0 ≤ r := by omega
        clear hx hr hlt gx hc hwid
        go_wp2_with fail
        go_region_held3 (fun w' => Fr Y2 w' ∧ Fr wr w') (first | (go_split_ands; exact ⟨hZD, hrD⟩) | (go_split_ands; exact ⟨by assumption, by assumption⟩))
          (first
            | (go_at_call 36; (with_reducible refine (cK wr _ (by assumption)).mono ?_); rintro e w9 ⟨rfl, hz9⟩; have hZ9 := fr_step hZ1 hz9))
        rename_i hH
        obtain ⟨hWZ, hWr⟩ := hH
        have hOW := hO.out.fr hWr
        go_wp2_with (first
          | (refine wpList_append_ent (.tmp 57) (.tmp 62) rfl rfl rfl rfl hWZ hOW Hn'.out (by omega) Hwx.out ?_; intro A9 c9 w10 ho9 hf9)
          | fail)
        go_roundg (gk - 1)
        case measure => omega
        case rel => exact ⟨j + 1, false, A9, n' + 1, c9, q ++ [x], by omega, rfl, rfl, rfl, by omega, keep (by rw [List.length_append, Hn'.out]; rfl), keep ho9, HI2, keep hf9⟩
      · have hk : x.key = m.key := code_inj gx.wk wm.key (okB_len' gx.ok) (okB_len' (okM_key om)) hc
        have hr1 : cmpK x.key m.key = 0 := (cmpK_eq gx.wk wm.key gx.ok (okM_key om)).2 hk
        have hp : p = false := by
          cases p with
          | false => rfl
          | true => have := putI_gt_of HI.out hx; omega
        subst hp
        have hq2 : n' ≤ j := by have := putI_len HI.out; rw [Hn'.out] at this; exact this
        have HI2 := keep (putI_eq Hol.out HI.out hx hk)
        rw [hr1] at cK
        clear hx hr hlt gx hc hwid hk hr1
        go_wp2_with fail
        go_region_held3 (fun w' => Fr Y2 w' ∧ Fr wr w') (first | (go_split_ands; exact ⟨hZD, hrD⟩) | (go_split_ands; exact ⟨by assumption, by assumption⟩))
          (first
            | (go_at_call 36; (with_reducible refine (cK wr _ (by assumption)).mono ?_); rintro e w9 ⟨rfl, hz9⟩; have hZ9 := fr_step hZ1 hz9))
        rename_i hH
        obtain ⟨hWZ, hWr⟩ := hH
        have hOW := hO.out.fr hWr
        have HI2 : Hid (PutI l m.key (some v) (j + 1) true (q ++ [e0])) := keep (by have := HI2.out; rw [← He0.out]; exact this)
        go_wp2_with (first
          | (refine wpList_append_ent (.tmp 48) (.tmp 53) rfl rfl rfl rfl hWZ hOW Hn'.out (by omega) Hwe.out ?_; intro A9 c9 w10 ho9 hf9)
          | fail)
        go_roundg (gk - 1)
        case measure => omega
        case rel => exact ⟨j + 1, true, A9, n' + 1, c9, q ++ [e0], by omega, rfl, rfl, rfl, by omega, keep (by rw [List.length_append, Hn'.out]; rfl), keep ho9, HI2, keep hf9⟩
      · have hr1 : 0 < cmpK x.key m.key := cmpK_gt.2 hc
        cases p with
        | false =>
          have hq2 : n' ≤ j := by have := putI_len HI.out; rw [Hn'.out] at this; exact this
          have HI2 := keep (putI_gt Hol.out HI.out hx hc)
          generalize cmpK x.key m.key = r at *
          have r1 : ¬ r = 0 := by omega
          have r2 : 0 ≤ r := by omega
          have Hn2 : Hid ((q ++ [e0]).length = n' + 1) := keep (by rw [List.length_append, Hn'.out]; rfl)
          have HI2 : Hid (PutI l m.key (some v) (j + 1) true (q ++ [e0] ++ [x])) := keep (by have := HI2.out; rw [← He0.out]; exact this)
          clear hx hr hlt gx hc hwid
          go_wp2_with fail
          go_region_held3 (fun w' => Fr Y2 w' ∧ Fr wr w') (first | (go_split_ands; exact ⟨hZD, hrD⟩) | (go_split_ands; exact ⟨by assumption, by assumption⟩))
            (first
              | (go_at_call 36; (with_reducible refine (cK wr _ (by assumption)).mono ?_); rintro e w9 ⟨rfl, hz9⟩; have hZ9 := fr_step hZ1 hz9))
          rename_i hH
          obtain ⟨hWZ, hWr⟩ := hH
          have hOW := hO.out.fr hWr
          go_wp2_with (first
            | (refine wpList_append_ent (.tmp 48) (.tmp 53) rfl rfl rfl rfl hWZ hOW Hn'.out (by omega) Hwe.out ?_; intro A8 c8 w8 ho8 hf8)
            | (refine wpList_append_ent (.tmp 57) (.tmp 62) rfl rfl rfl rfl hf8 ho8 Hn2.out (by omega) Hwx.out ?_; intro A9 c9 w10 ho9 hf9)
            | fail)
          go_roundg (gk - 1)
          case measure => omega
          case rel => exact ⟨j + 1, true, A9, n' + 1 + 1, c9, q ++ [e0] ++ [x], by omega, rfl, rfl, rfl, by omega, keep (by rw [List.length_append, Hn2.out]; rfl), keep ho9, HI2, keep hf9⟩
        | true =>
          have HI2 := keep (putI_past HI.out hx)
          generalize cmpK x.key m.key = r at *
          have r1 : ¬ r = 0 := by omega
          have r2 : 0 ≤ r := by omega
          clear hx hr hlt gx hc hwid
          go_wp2_with fail
          go_region_held3 (fun w' => Fr Y2 w' ∧ Fr wr w') (first | (go_split_ands; exact ⟨hZD, hrD⟩) | (go_split_ands; exact ⟨by assumption, by assumption⟩))
            (first
              | (go_at_call 36; (with_reducible refine (cK wr _ (by assumption)).mono ?_); rintro e w9 ⟨rfl, hz9⟩; have hZ9 := fr_step hZ1 hz9))
          rename_i hH
          obtain ⟨hWZ, hWr⟩ := hH
          have hOW := hO.out.fr hWr
          go_wp2_with (first
            | (refine wpList_append_ent (.tmp 57) (.tmp 62) rfl rfl rfl rfl hWZ hOW Hn'.out (by omega) Hwx.out ?_; intro A9 c9 w10 ho9 hf9)
            | fail)
          go_roundg (gk - 1)
          case measure => omega
          case rel => exact ⟨j + 1, true, A9, n' + 1, c9, q ++ [x], by omega, rfl, rfl, rfl, by omega, keep (by rw [List.length_append, Hn'.out]; rfl), keep ho9, HI2, keep hf9⟩
    · have hjn : j = n := by omega
      have hjz : ¬ (j : Int) < (n : Int) := by omega
      have he := putI_end HI.out (by rw [Hn.out]; omega)
      have hZ1 := hZr.out
      have hOr := hO.out
      cases p with
      | true =>
        have He : Hid (setE l m.key (some v) = q) := keep (by rw [he]; rfl)
        clear hlt hjn he
        go_wp2_with fail
        go_ret
        rw [He.out, Hn'.out]
        exact ⟨A', c', rfl, hOr.mono hSz, fr_step hwY hZ1⟩
      | false =>
        have He : Hid (setE l m.key (some v) = q ++ [e0]) := keep (by rw [he, ← He0.out]; rfl)
        clear hlt hjn he
        go_wp2_with (first
          | (refine wpList_append_ent (.tmp 69) (.tmp 74) rfl rfl rfl rfl hZ1 hOr Hn'.out (by omega) Hwe.out ?_; intro A9 c9 w10 ho9 hf9)
          | fail)
        go_ret
        rw [He.out, List.length_append, Hn'.out]
        exact ⟨A9, c9, rfl, ho9.mono hSz, fr_step hwY hf9⟩
end Go.Proofs.Ytbdioipjgjbgmaa
