/- 'awake' of layer 7; 'same'. -/
import Derived.Test.YtbdioipjgjbgmaaLfN
namespace Go.Proofs.Ytbdioipjgjbgmaa
set_option maxRecDepth 100000
open Go.RowKit
set_option linter.unusedVariables false
attribute [local go_sem ↓] key_ld ent_ld val_ld msg_ld msg_st
theorem aw_len : (entsL [0, 8, 16] 2000).length = 3 := by decide +kernel
theorem aw_put : (putE [] (lawM 0 1)).length = 1 := by decide +kernel
theorem aw_all : (allE [] [lawM 0 1]).length = 1 := by decide +kernel
theorem findE_of_mem {l : List RE} (h : OkE l) {m : RE} (hm : m ∈ l) : findE l m.key = some m.val := by
  induction l with
  | nil => simp at hm
  | cons x l ih =>
    rw [findE]
    rcases List.mem_cons.1 hm with rfl | hm'
    · rw [if_pos rfl]
    · have hx := h.head
      have hm2 := h.good m hm
      have hlt := h.lt m hm'
      rw [if_neg (fun e => by have := (ce_key hx hm2).2 e; omega)]
      exact ih h.tail hm'
theorem esame_at {w W : World} {A A2 : Option Addr} {n c B n2 c2 B2 : Nat} {l l2 : List RE} (hl : Has W B A (rows ec l)) (hB : B ≤ W.heap.size) (hn : l.length = n) (hsm : n ≤ 100000) (wl : WfE l) (hl2 : Has W B2 A2 (rows ec l2)) (hB2 : B2 ≤ W.heap.size) (hn2 : l2.length = n2) (hsm2 : n2 ≤ 100000) (wl2 : WfE l2) (hW : Fr w W) :
    Calls Try.prog 44 #[.slice A n c, .slice A2 n2 c2] W fun e w' => e = .returned (.bool (decide (l = l2))) ∧ Fr w w' := by
  have cS := (ref_esame (c := c) (c2 := c2) hl hB hn hsm wl hl2 hB2 hn2 hsm2 wl2).mono (fun e w' (hh : _ ∧ Fr W w') => (⟨hh.1, fr_step hW hh.2⟩ : _ ∧ Fr w w'))
  clear hl hl2
  go_enter Try.func44, Try.ntmps44
  go_wp2_with (first
    | (go_at_call 39; (with_reducible refine cS.mono ?_); rintro e w1 ⟨rfl, hz1⟩)
    | fail)
  go_ret
  exact ⟨rfl, hz1⟩
set_option maxHeartbeats 4000000 in
theorem awake7 (w : World) : Calls Try.prog 51 #[] w fun e w' => e = .returned (.bool true) ∧ Fr w w' := by
  have hns : Has (w.alloc (.cells #[.int .i64 0, .int .i64 8, .int .i64 16] 3)) (w.heap.size + 1) (some ⟨w.heap.size, 0, none⟩) ([0, 8, 16].map (Value.int .i64)) := arr_has (cs := [.int .i64 0, .int .i64 8, .int .i64 16]) _ (Arr.new w _ _)
  have cE := law_ents (n := 3) (c := 3) (most := 2000) hns (by simp) rfl (fun z hz => by simp at hz; unfold Is64; omega) (by omega) (by decide)
  have hFa := fr_new (fr_refl w) (.cells #[.int .i64 0, .int .i64 8, .int .i64 16] 3)
  have hl3 := aw_len
  have ol := entsL_ok [0, 8, 16] 2000
  generalize entsL [0, 8, 16] 2000 = l at *
  rw [hl3] at cE
  have hsb := splE_bd (l := l) (by omega)
  rw [hl3] at hsb
  have hp : l[splE l]? = some (l[splE l]'(by omega)) := List.getElem?_eq_getElem _
  generalize l[splE l]'(by omega) = p at hp
  have h1 : l[1]? = some (l[1]'(by omega)) := List.getElem?_eq_getElem _
  generalize l[1]'(by omega) = x at h1
  have gx := ol.good x (emem_at h1)
  have gp := ol.good p (emem_at hp)
  have hfx := findE_of_mem ol (emem_at h1)
  have Hl3 := keep hl3
  have Hol := keep ol
  have Hp := keep hp
  have H1 := keep h1
  have Hgx := keep gx
  have Hgp := keep gp
  have Hfx := keep hfx
  have HlX := keep (vc_len gx.wv.hl)
  have cSp : ∀ (w1 : World) (A : Option Addr) (c : Nat), Hid (OwnE w1 w.heap.size A c l) → 3 ≤ c → Calls Try.prog 42 #[.slice A 3 c] w1 fun e w' => ∃ A1 c1 A2 c2, e = .returned (.tuple #[.slice A1 (splE l) c1, .slice A2 (3 - splE l) c2, kv p.key, .bool true]) ∧ Hid (OwnE w' w1.heap.size A2 c2 (l.drop (splE l))) ∧ Fr w1 w' := fun w1 A c ho hc =>
    (esplit_at ho.out.has (Nat.le_refl _) Hl3.out hc (by omega) Hol.out.wfe Hol.out.sm (by omega) Hp.out).mono fun e w' h => by
      obtain ⟨A1, c1, A2, c2, e1, -, h2, h3⟩ := h
      exact ⟨A1, c1, A2, c2, e1, keep h2, h3⟩
  generalize hsp : splE l = sp at *
  obtain ⟨r, hr⟩ : ∃ r, 3 - sp = r := ⟨_, rfl⟩
  rw [hr] at cSp
  have hsr : sp + r = 3 := by omega
  have hr0 : 0 < r := by omega
  clear hr
  clear hns hl3 ol hp h1 gx gp hfx
  go_enter Try.func51, Try.ntmps51
  go_wp2_with (first
    | (go_at_call 37; (with_reducible refine cE.mono ?_); rintro e w1 ⟨A, c, rfl, ho, hz1⟩
       have hF1 := fr_step hFa hz1
       have ho0 := ho.mono hFa.size
       have hc3 : 3 ≤ c := by have := ho.cap; rw [Hl3.out] at this; exact this
       have Ho := keep ho0
       obtain ⟨g, rfl⟩ := ho0.addr (by rw [Hl3.out]; decide)
       have hr1 : w1.rangeAt g 0 (rows ec l) := fun j v hj => by
         obtain ⟨b', off', e, -, hc⟩ := ho0.has j v hj
         injection e with e
         injection e with e1 e2
         subst e1 e2
         exact hc
       have lXk := elem_part (o := 0) keyS hr1 Hol.out.wfe.wid (ho0.lt g rfl).2 H1.out (ec_key x) (kc_len _)
       have lXv := elem_part (o := 9) valS hr1 Hol.out.wfe.wid (ho0.lt g rfl).2 H1.out (ec_val Hgx.out.wv.hl) (vc_len Hgx.out.wv.hl)
       simp only [Nat.zero_add, Nat.add_zero, Nat.one_mul] at lXk lXv
       rw [show 26 + 9 = 35 from rfl] at lXv
       have q1 : ∀ W, (Instr.slice 53 (.slice (some ⟨g, 0, none⟩) 3 c) none (some (.int .i64 1)) none).run Try.prog W = .ok (.slice (some ⟨g, 0, none⟩) 1 c) W := ents_slice_hi (some ⟨g, 0, none⟩) 3 c 1 (by omega)
       clear ho ho0 hz1 hFa cE hr1)
    | (go_at_call 42; (with_reducible refine (cSp _ _ _ Ho hc3).mono ?_); rintro e w2 ⟨A1, c1, A2, c2, rfl, ho2, hz2⟩
       have hdl : (l.drop sp).length = r := by rw [List.length_drop, Hl3.out]; omega
       obtain ⟨g2, rfl⟩ := ho2.out.addr (by rw [hdl]; omega)
       have hr2 : w2.rangeAt g2 0 (rows ec (l.drop sp)) := fun j v hj => by
         obtain ⟨b', off', e, -, hc⟩ := ho2.out.has j v hj
         injection e with e
         injection e with e1 e2
         subst e1 e2
         exact hc
       have lB := elem_part (o := 0) (i := 0) keyS hr2 (Hol.out.wfe.wid.drop sp) (ho2.out.lt g2 rfl).2 (by rw [List.getElem?_drop]; exact Hp.out) (ec_key p) (kc_len _)
       simp only [Nat.zero_mul, Nat.add_zero] at lB
       clear hr2 hdl ho2)
    | (refine wpList_store_at (ds := kc p.key) key_info rfl (.tmp 4) (.tmp 22) rfl w2.heap.size 0 rfl rfl (kc_len _) (kc_one _) (Arr.new w2 (kc zeroK).toArray 27) (by rw [kc_len]; decide) (splice_all _ _ (by rw [kc_len, kc_len]; decide)) ?_; intro Y3 hK3 hk3
       have hF3 := hk3.fr (fr_new hz2 _) hz2.size
       have hB3 := hk3.fr (fr_new (fr_refl w2) _) (Nat.le_refl _)
       have lP : ∀ W, Fr Y3 W → (ldS 27 (.pointer (some ⟨w2.heap.size, 0, none⟩))).run Try.prog W = .ok (.agg (kc p.key).toArray) W := fun W h => keyS.ld (kc_len _) (hK3.below h hK3.lt)
       have h33 := fr_refl Y3
       clear hk3 hK3)
    | (go_at_call 42; (with_reducible refine (esplit_no (by decide)).mono ?_); rintro e w4 ⟨rfl, hz4⟩)
    | (refine wpList_store_at (ds := kc zeroK) key_info rfl (.tmp 8) (.tmp 30) rfl w4.heap.size 0 rfl rfl (kc_len _) (kc_one _) (Arr.new w4 (kc zeroK).toArray 27) (by rw [kc_len]; decide) (splice_all _ _ (Nat.le_refl _)) ?_; intro Y5 hK5 hk5
       have h35 := hk5.fr (fr_new hz4 _) hz4.size
       have h15 := fr_step hF3 h35
       have hF5 : ∃ B, Fr B Y5 := ⟨Y5, fr_refl Y5⟩
       have cF := efind_at (c := c) (n := 3) (Ho.out.has.fr (Nat.le_refl _) h15) h15.size Hl3.out (by omega) Hol.out Hgx.out.wk Hgx.out.ok
       rw [Hfx.out] at cF
       unfold findEV at cF
       simp only [Option.getD_some, Option.isSome_some] at cF
       clear hk5 hK5)
    | (go_at_call 40; (with_reducible refine cF.mono ?_); rintro e w6 ⟨rfl, hz6⟩; have h16 := fr_step h15 hz6; have h36 := fr_step h35 hz6)
    | (refine wpList_store_at (ds := vc x.val) val_info rfl (.tmp 10) (.tmp 39) rfl w6.heap.size 0 rfl rfl HlX.out (vc_one _) (Arr.new w6 (vc zeroV).toArray 34) (by decide) (splice_all _ _ (by rw [HlX.out]; decide)) ?_; intro Z hVZ hkZ
       have h1Z := hkZ.fr (fr_new h16 _) h16.size
       have h3Z := hkZ.fr (fr_new h36 _) h36.size
       have lV := ld_fr hVZ HlX.out
       have hZZ := fr_refl Z
       clear hkZ)
    | fail)
  have hZD := fr_drew hZZ
  have h2Z := fr_step hB3 h3Z
  have lXvZ := fun W h => lXv W (fr_step h1Z h)
  have lBZ := fun W h => lB W (fr_step h2Z h)
  have lPZ := fun W h => lP W (fr_step h3Z h)
  have hasZ := Ho.out.has.fr (Nat.le_refl _) h1Z
  have cC : ∀ W, Fr Z W → Calls Try.prog 45 #[.slice (some ⟨g, 0, none⟩) 3 c] W fun e w' => e = .returned (.bool true) ∧ Fr Z w' := fun W h => (echeck_at (c := c) (hasZ.fr h1Z.size h) (Nat.le_trans h1Z.size h.size) Hl3.out (by omega) Hol.out.wfe).mono fun e w' hh => by
    obtain ⟨⟨b, e1, hb⟩, h2⟩ := hh
    rw [hb.2 Hol.out] at e1
    exact ⟨e1, fr_step h h2⟩
  have cB : ∀ W, Fr Z W → Calls Try.prog 46 #[.slice (some ⟨g, 0, none⟩) 3 c] W fun e w' => e = .returned (.int .i64 (bytsE l)) ∧ Fr Z w' := fun W h => (ebytes_at (c := c) (hasZ.fr h1Z.size h) (Nat.le_trans h1Z.size h.size) Hl3.out (by omega) Hol.out.wfe Hol.out.sm).mono fun e w' hh => ⟨hh.1, fr_step h hh.2⟩
  have cR : ∀ W, Fr Z W → Calls Try.prog 47 #[.slice (some ⟨g, 0, none⟩) 3 c] W fun e w' => e = .returned (.int .i64 (bytsE l)) ∧ Fr Z w' := fun W h => (ref_ebytes (c := c) (hasZ.fr h1Z.size h) (Nat.le_trans h1Z.size h.size) Hl3.out (by omega) Hol.out.wfe Hol.out.sm).mono fun e w' hh => ⟨hh.1, fr_step h hh.2⟩
  have cM : ∀ W, Fr Z W → Calls Try.prog 16 #[.int .i64 0, .int .i64 1] W fun e w' => e = .returned (mm (lawM 0 1)) ∧ Fr Z w' := fun W h => law_msg_at (v := 0) (s := 1) (by simp [Is64]) (by simp [Is64]) h
  have wm := lawM_wf 0 1
  have om := lawM_ok 0 1
  have cP : ∀ W, Fr Z W → Calls Try.prog 48 #[.slice none 0 0, mm (lawM 0 1)] W fun e w' => (∃ A' c', e = .returned (.slice A' 1 c')) ∧ Fr Z w' := fun W h => (eput_at (B := 0) (l := []) (c := 0) Has.nil (Nat.zero_le _) rfl (by simp) OkE.nil wm om).mono fun e w' hh => by
    obtain ⟨A', c', e1, -, h2⟩ := hh
    rw [aw_put] at e1
    exact ⟨⟨A', c', e1⟩, fr_step h h2⟩
  have cL : ∀ W, Fr Z W → Calls Try.prog 50 #[.slice none 0 0, .slice (some ⟨W.heap.size, 0, none⟩) 1 1] (W.alloc (.cells (mc (lawM 0 1)).toArray 36)) fun e w' => (∃ A' c', e = .returned (.slice A' 1 c')) ∧ Fr Z w' := fun W h => (eall_at (B := 0) (l := []) (c := 0) (c2 := 1) (more := [lawM 0 1]) (n2 := 1) Has.nil (Nat.zero_le _) rfl (by simp) OkE.nil (by rw [rows_single]; exact arr_has _ (Arr.new W _ _)) (by simp) rfl (by omega) (fun y hy => by simp at hy; subst hy; exact ⟨wm, om⟩)).mono fun e w' hh => by
    obtain ⟨A', c', e1, -, h2⟩ := hh
    rw [aw_all] at e1
    exact ⟨⟨A', c', e1⟩, fr_step (fr_new h _) h2⟩
  have hfo := fold_at wm
  have hsz : (mc (lawM 0 1)).length = 29 := mc_len wm.val.hl
  have qK := fun W => key_self Hgp.out.wk W
  have qV := fun W => eql_self Hgx.out.wv W
  have hwZ := fr_step hF1 h1Z
  have ew : IntKind.i64.wrap ((sp : Int) + (r : Int)) = 3 := by rw [IntKind.wrap_i64]; omega
  have e0 : (0 : Int) < (r : Int) := by omega
  have e00 : decide (0 < r) = true := by simpa using hr0
  generalize lawM 0 1 = m at *
  generalize bytsE l = by0 at *
  clear hasZ lXk lXv lB lP q1 hz2 hF3 hB3 h33 hz4 h35 h15 hF5 hz6 h16 h36 h1Z h3Z h2Z hVZ wm om cSp
  go_region_held3 (fun w' => Fr Z w') (first | exact hZD | assumption | exact fr_new (by assumption) _)
    (first
      | (go_at_call 45; (with_reducible refine (cC _ (by assumption)).mono ?_); rintro e v1 ⟨rfl, hv1⟩)
      | (go_at_call 46; (with_reducible refine (cB _ (by assumption)).mono ?_); rintro e v2 ⟨rfl, hv2⟩)
      | (go_at_call 47; (with_reducible refine (cR _ (by assumption)).mono ?_); rintro e v3 ⟨rfl, hv3⟩)
      | (go_at_call 16; (with_reducible refine (cM _ (by assumption)).mono ?_); rintro e v4 ⟨rfl, hv4⟩)
      | (go_at_call 48; (with_reducible refine (cP _ (by assumption)).mono ?_); rintro e v5 ⟨⟨A5, c5, rfl⟩, hv5⟩)
      | (go_at_call 50; (with_reducible refine (cL _ (by assumption)).mono ?_); rintro e v6 ⟨⟨A6, c6, rfl⟩, hv6⟩))
  all_goals
    go_wp2_with fail
    go_ret
    exact ⟨rfl, fr_step hwZ (by assumption)⟩
end Go.Proofs.Ytbdioipjgjbgmaa
