/- Entries in memory: 'Put', 'All' of the document. -/
import Derived.Test.YtmoaddbpfekdbaaGreatM08
namespace Go.Proofs.YtmoaddbpfekdbaaGreat
set_option maxRecDepth 100000
open Go.RowKit
set_option linter.unusedVariables false
attribute [local go_sem ↓] key_ld ent_ld val_ld msg_ld
/-- What stands for a key that is given a value, or none. -/
def optE (k : RK) : Option RV → List RE
  | some v => [⟨k, v⟩]
  | none => []
theorem setE_lt {x : RE} {l : List RE} {k : RK} {o : Option RV} (h : code x.key < code k) : setE (x :: l) k o = x :: setE l k o := by
  cases o <;> simp [setE, h]
theorem setE_eq {x : RE} {l : List RE} {k : RK} {o : Option RV} (h : ¬ code x.key < code k) (hk : x.key = k) : setE (x :: l) k o = optE k o ++ l := by
  cases o <;> simp [setE, hk, optE]
theorem setE_gt {x : RE} {l : List RE} {k : RK} {o : Option RV} (h : ¬ code x.key < code k) (hk : ¬ x.key = k) : setE (x :: l) k o = optE k o ++ x :: l := by
  cases o <;> simp [setE, h, hk, optE]
/-- What has come of j entries of l, k being given the value o, or none. -/
def PutI (l : List RE) (k : RK) (o : Option RV) (j : Nat) (p : Bool) (q : List RE) : Prop :=
  if p = true then q ++ l.drop j = setE l k o ∧ ∀ y ∈ l.drop j, code k < ce y else q = l.take j ∧ ∀ y ∈ l.take j, ce y < code k
theorem setE_before : ∀ {q : List RE} (r : List RE) {k : RK} {o : Option RV}, (∀ y ∈ q, ce y < code k) → setE (q ++ r) k o = q ++ setE r k o
  | [], _, _, _, _ => rfl
  | x :: q, r, k, o, h => by
    have hx : code x.key < code k := h x (by simp)
    show setE (x :: (q ++ r)) k o = _
    rw [setE_lt hx, setE_before r (fun y hy => h y (List.mem_cons_of_mem _ hy))]
    rfl
theorem putI_start (l : List RE) (k : RK) (o : Option RV) : PutI l k o 0 false [] := ⟨rfl, fun y hy => by simp at hy⟩
theorem putI_len {l q : List RE} {k : RK} {o : Option RV} {j : Nat} (h : PutI l k o j false q) : q.length ≤ j := by
  obtain ⟨rfl, -⟩ : q = l.take j ∧ ∀ y ∈ l.take j, ce y < code k := h
  rw [List.length_take]; omega
theorem drop_one {α : Type} {l : List α} {j : Nat} {a : α} (h : l[j]? = some a) : l.drop j = a :: l.drop (j + 1) := by
  obtain ⟨hj, e⟩ := List.getElem?_eq_some_iff.1 h
  rw [List.drop_eq_getElem_cons hj, e]
theorem putI_lt {l q : List RE} {k : RK} {o : Option RV} {x : RE} {j : Nat} (h : PutI l k o j false q) (hx : l[j]? = some x) (hlt : ce x < code k) : PutI l k o (j + 1) false (q ++ [x]) := by
  obtain ⟨rfl, h2⟩ : q = l.take j ∧ ∀ y ∈ l.take j, ce y < code k := h
  show l.take j ++ [x] = l.take (j + 1) ∧ ∀ y ∈ l.take (j + 1), ce y < code k
  rw [take_one hx]
  refine ⟨rfl, fun y hy => ?_⟩
  rcases List.mem_append.1 hy with e | e
  · exact h2 y e
  · simp at e; subst e; exact hlt
theorem drop_lt {l : List RE} (ol : OkE l) {x : RE} {j : Nat} (hx : l[j]? = some x) : ∀ y ∈ l.drop (j + 1), ce x < ce y := fun y hy => by
  have h := ol.sub (List.drop_sublist j l)
  rw [drop_one hx] at h
  exact h.lt y hy
theorem putI_eq {l q : List RE} {k : RK} {o : Option RV} {x : RE} {j : Nat} (ol : OkE l) (h : PutI l k o j false q) (hx : l[j]? = some x) (hk : x.key = k) : PutI l k o (j + 1) true (q ++ optE k o) := by
  obtain ⟨rfl, h2⟩ : q = l.take j ∧ ∀ y ∈ l.take j, ce y < code k := h
  have hc : ce x = code k := by unfold ce; rw [hk]
  have h3 := drop_lt ol hx
  show _ = setE l k o ∧ ∀ y ∈ l.drop (j + 1), code k < ce y
  refine ⟨?_, fun y hy => by have := h3 y hy; omega⟩
  have e : setE l k o = setE (l.take j ++ l.drop j) k o := by rw [List.take_append_drop]
  rw [e, setE_before _ h2, drop_one hx, setE_eq (by unfold ce at hc; omega) hk, List.append_assoc]
theorem putI_gt {l q : List RE} {k : RK} {o : Option RV} {x : RE} {j : Nat} (ol : OkE l) (h : PutI l k o j false q) (hx : l[j]? = some x) (hgt : code k < ce x) : PutI l k o (j + 1) true (q ++ optE k o ++ [x]) := by
  obtain ⟨rfl, h2⟩ : q = l.take j ∧ ∀ y ∈ l.take j, ce y < code k := h
  have h3 := drop_lt ol hx
  show _ = setE l k o ∧ ∀ y ∈ l.drop (j + 1), code k < ce y
  refine ⟨?_, fun y hy => by have := h3 y hy; omega⟩
  have e : setE l k o = setE (l.take j ++ l.drop j) k o := by rw [List.take_append_drop]
  rw [e, setE_before _ h2, drop_one hx, setE_gt (by unfold ce at hgt; omega) (fun e => by unfold ce at hgt; rw [e] at hgt; omega), List.append_assoc, List.append_assoc]
  rfl
theorem putI_past {l q : List RE} {k : RK} {o : Option RV} {x : RE} {j : Nat} (h : PutI l k o j true q) (hx : l[j]? = some x) : PutI l k o (j + 1) true (q ++ [x]) := by
  obtain ⟨h1, h2⟩ : q ++ l.drop j = setE l k o ∧ ∀ y ∈ l.drop j, code k < ce y := h
  rw [drop_one hx] at h1 h2
  show _ = setE l k o ∧ ∀ y ∈ l.drop (j + 1), code k < ce y
  exact ⟨by rw [List.append_assoc]; exact h1, fun y hy => h2 y (List.mem_cons_of_mem _ hy)⟩
theorem putI_gt_of {l q : List RE} {k : RK} {o : Option RV} {x : RE} {j : Nat} (h : PutI l k o j true q) (hx : l[j]? = some x) : code k < ce x := by
  obtain ⟨h1, h2⟩ : q ++ l.drop j = setE l k o ∧ ∀ y ∈ l.drop j, code k < ce y := h
  exact h2 x (by rw [drop_one hx]; simp)
theorem putI_end {l q : List RE} {k : RK} {o : Option RV} {j : Nat} {p : Bool} (h : PutI l k o j p q) (hj : l.length ≤ j) : setE l k o = if p = true then q else q ++ optE k o := by
  cases p
  · obtain ⟨rfl, h2⟩ : q = l.take j ∧ ∀ y ∈ l.take j, ce y < code k := h
    rw [List.take_of_length_le hj] at h2 ⊢
    have := setE_before [] (o := o) h2
    rw [List.append_nil] at this
    rw [this]
    cases o <;> rfl
  · obtain ⟨h1, -⟩ : q ++ l.drop j = setE l k o ∧ ∀ y ∈ l.drop j, code k < ce y := h
    rw [List.drop_eq_nil_of_le hj, List.append_nil] at h1
    exact h1.symm
end Go.Proofs.YtmoaddbpfekdbaaGreat
/- The document's 'Put' of an entry that is left. -/
namespace Go.Proofs.YtmoaddbpfekdbaaGreat
set_option maxRecDepth 100000
open Go.RowKit
set_option linter.unusedVariables false
attribute [local go_sem ↓] key_ld ent_ld val_ld msg_ld
set_option maxHeartbeats 4000000 in
theorem ref_eput_is {w : World} {A : Option Addr} {n c B : Nat} {l : List RE} {m : RM} (hl : Has w B A (rows ec l)) (hB : B ≤ w.heap.size) (hn : l.length = n) (hsm : n ≤ 100000) (ol : OkE l) (wm : m.wf) (om : okM m = true) (hb : appB m = true) :
    Calls Tryz.prog 78 #[.slice A n c, mm m] w fun e w' => ∃ A' c', e = .returned (.slice A' (putE l m).length c') ∧ OwnE w' w.heap.size A' c' (putE l m) ∧ Fr w w' := by
  obtain ⟨Z, hZ, hF, hZZ, hM, hS⟩ := msg_box1 w m
  have hBZ : B ≤ Z.heap.size := Nat.le_trans hB hF.size
  have lK := msg_keyAt hM
  have lM := msg_all hM wm.val.hl
  have cF := ref_efind (c := c) (hl.fr hB hF) hBZ hn hsm ol.wfe wm.key
  have wx : ((findE l m.key).getD zeroV).wf := by
    cases hf : findE l m.key with
    | none => exact zeroV_wf
    | some x => exact (findE_ok ol hf).1
  have hox : (findE l m.key).isSome = true → okV ((findE l m.key).getD zeroV) = true := by
    cases hf : findE l m.key with
    | none => intro h; cases h
    | some x => intro _; exact (findE_ok ol hf).2
  have cA : ∀ W, Calls Tryz.prog 91 #[vv ((findE l m.key).getD zeroV), .bool (findE l m.key).isSome, mm m] W fun e w' => e = .returned (.tuple #[vv (appV ((findE l m.key).getD zeroV) (findE l m.key).isSome m), .bool (appB m)]) ∧ Fr W w' := fun W => rmapply_at wx hox wm om (fr_refl W)
  have wv := appV_wf (t := (findE l m.key).isSome) wx wm
  have hpe : putE l m = setE l m.key (if appB m = true then some (appV ((findE l m.key).getD zeroV) (findE l m.key).isSome m) else none) := rfl
  rw [hpe]
  rw [hb] at cA ⊢
  unfold findEV at cF
  generalize appV ((findE l m.key).getD zeroV) (findE l m.key).isSome m = v at *
  generalize (findE l m.key).getD zeroV = x0 at *
  generalize (findE l m.key).isSome = b0 at *
  have HlX := keep (vc_len wx.hl)
  have HlV := keep (vc_len wv.hl)
  have hlv : (vc v).length = 17 := vc_len wv.hl
  have Hl := keep (hl.fr hB hF)
  have Hn := keep hn
  have Hol := keep ol
  have hdec : setE l m.key (if true = true then some v else none) = setE l m.key (some v) := rfl
  rw [hdec]
  have hln : (ec ⟨m.key, v⟩).length = 26 := ec_len wv.hl
  have hf1 := ent_built m.key wv.hl
  have hf2 := ent_fold (e := ⟨m.key, v⟩) wv.hl
  have we : RE.wf ⟨m.key, v⟩ := ⟨wm.key, wv⟩
  obtain ⟨e0, he⟩ : ∃ e : RE, (⟨m.key, v⟩ : RE) = e := ⟨_, rfl⟩
  have He0 := keep he
  rw [he] at hln hf1 hf2 we
  have Hwe := keep we
  clear he we
  clear hl hn ol hM hpe hox hb hdec
  go_enter Tryz.func78, Tryz.ntmps78
  go_wp2_with (first
    | (go_at_call 90; (with_reducible refine cF.mono ?_); rintro e w1 ⟨rfl, hz1⟩)
    | (refine wpList_store_at (ds := vc x0) val_info rfl (.tmp 5) (.tmp 18) rfl w1.heap.size 0 rfl rfl HlX.out (vc_one _) (Arr.new w1 (vc zeroV).toArray 115) (by decide) (splice_all _ _ (by rw [HlX.out]; decide)) ?_; intro Y1 hV1 hk1; have hF1 := hk1.fr (fr_new hz1 _) hz1.size; have lv1 := ld_fr hV1 HlX.out; have h11 := fr_refl Y1; clear hk1)
    | (go_at_call 91; (with_reducible refine (cA _).mono ?_); rintro e w3 ⟨rfl, hz3⟩; have hF3 := fr_step hF1 hz3; clear lv1 h11)
    | (refine wpList_store_at (ds := vc v) val_info rfl (.tmp 7) (.tmp 25) rfl w3.heap.size 0 rfl rfl HlV.out (vc_one _) (Arr.new w3 (vc zeroV).toArray 115) (by decide) (splice_all _ _ (by rw [HlV.out]; decide)) ?_; intro Y2 hV2 hk2; have hF2 := hk2.fr (fr_new hF3 _) hF3.size; have lv2 := ld_fr hV2 HlV.out; clear hk2)
    | fail)
  have hYY := fr_refl Y2
  have lK2 : ∀ W, Fr Y2 W → (ldS 112 (.pointer (some ⟨w.heap.size, 2, none⟩))).run Tryz.prog W = .ok (.agg (kc m.key).toArray) W := fun W h => lK W (fr_step hF2 h)
  have HlY := keep (Hl.out.fr hBZ hF2)
  have hBY := Nat.le_trans hBZ hF2.size
  have hwY := fr_step hF hF2
  have hSz := hwY.size
  clear lK lM cF cA hV1 hV2 hz1 hz3 hF1 hF3 Hl
  go_loopg [9, 10, 11] n (fun g s9 s10 s11 wr => ∃ (j : Nat) (p : Bool) (A' : Option Addr) (n' c' : Nat) (q : List RE), j + g = n ∧ s11 = .int .i64 j ∧ s10 = .bool p ∧ s9 = .slice A' n' c' ∧ n' ≤ j + 1 ∧ Hid (q.length = n') ∧ Hid (OwnE wr Y2.heap.size A' c' q) ∧ Hid (PutI l m.key (some v) j p q) ∧ Hid (Fr Y2 wr))
  case atStart => exact ⟨0, false, none, 0, 0, [], by omega, rfl, rfl, rfl, by omega, keep rfl, keep (Own.nil _ _ _ _), keep (putI_start _ _ _), keep hYY⟩
  case round =>
    obtain ⟨j, p, A', n', c', q, hj, rfl, rfl, rfl, hn'j, Hn', hO, HI, hZr⟩ := hrel
    by_cases hlt : j < n
    · have hx : l[j]? = some (l[j]'(by rw [Hn.out]; exact hlt)) := List.getElem?_eq_getElem _
      generalize l[j]'(by rw [Hn.out]; exact hlt) = x at hx
      have hwid := Hol.out.wfe.wid
      obtain ⟨b, off, rfl, hb1, hr⟩ := has_rows HlY.out hwid (by decide) (by intro e; rw [e] at hx; simp at hx)
      have lX := elem_ld entS hr hwid (by omega) hx
      have lXk := elem_part (o := 0) keyS hr hwid (by omega) hx (ec_key x) (kc_len _)
      simp only [Nat.add_zero] at lXk
      have gx := Hol.out.good x (emem_at hx)
      have cK := fun W0 W h => rkcomp_at (W0 := W0) (W := W) gx.wk wm.key gx.ok (okM_key om) h
      have hZ1 := hZr.out
      have hrr := fr_refl wr
      have hZD := fr_drew hZ1
      have hrD := fr_drew hrr
      have hjz : (j : Int) < (n : Int) := by omega
      have hszx : (ec x).length = 26 := ec_len gx.wv.hl
      have hfx := ent_fold (e := x) gx.wv.hl
      have Hwx := keep gx.wf
      rcases Int.lt_trichotomy (ce x) (code m.key) with hc | hc | hc
      · have hr1 : cmpK x.key m.key < 0 := cmpK_lt.2 hc
        have hp : p = false := by
          cases p with
          | false => rfl
          | true => have := putI_gt_of HI.out hx; omega
        subst hp
        have HI2 := keep (putI_lt HI.out hx hc)
        generalize cmpK x.key m.key = r at *
        have r1 : ¬ r = 0 := by omega
        have r2 : ¬ 0 ≤ r := by omega
        clear hx hr hlt gx hc hwid
        go_wp2_with fail
        go_region_held3 (fun w' => Fr Y2 w' ∧ Fr wr w') (first | (go_split_ands; exact ⟨hZD, hrD⟩) | (go_split_ands; exact ⟨by assumption, by assumption⟩))
          (first
            | (go_at_call 92; (with_reducible refine (cK wr _ (by assumption)).mono ?_); rintro e w9 ⟨rfl, hz9⟩; have hZ9 := fr_step hZ1 hz9))
        rename_i hH
        obtain ⟨hWZ, hWr⟩ := hH
        have hOW := hO.out.fr hWr
        go_wp2_with (first
          | (refine wpList_append_ent (.tmp 57) (.tmp 62) rfl rfl rfl rfl hWZ hOW Hn'.out (by omega) Hwx.out ?_; intro A9 c9 w10 ho9 hf9)
          | fail)
        go_roundg (gk - 1)
        case measure => omega
        case rel => exact ⟨j + 1, false, A9, n' + 1, c9, q ++ [x], by omega, rfl, rfl, rfl, by omega, keep (by rw [List.length_append, Hn'.out]; rfl), keep ho9, HI2, keep hf9⟩
      · have hk : x.key = m.key := code_inj gx.wk wm.key (okB_len' gx.ok) (okB_len' (okM_key om)) hc
        have hr1 : cmpK x.key m.key = 0 := (cmpK_eq gx.wk wm.key gx.ok (okM_key om)).2 hk
        have hp : p = false := by
          cases p with
          | false => rfl
          | true => have := putI_gt_of HI.out hx; omega
        subst hp
        have hq2 : n' ≤ j := by have := putI_len HI.out; rw [Hn'.out] at this; exact this
        have HI2 := keep (putI_eq Hol.out HI.out hx hk)
        rw [hr1] at cK
        clear hx hr hlt gx hc hwid hk hr1
        go_wp2_with fail
        go_region_held3 (fun w' => Fr Y2 w' ∧ Fr wr w') (first | (go_split_ands; exact ⟨hZD, hrD⟩) | (go_split_ands; exact ⟨by assumption, by assumption⟩))
          (first
            | (go_at_call 92; (with_reducible refine (cK wr _ (by assumption)).mono ?_); rintro e w9 ⟨rfl, hz9⟩; have hZ9 := fr_step hZ1 hz9))
        rename_i hH
        obtain ⟨hWZ, hWr⟩ := hH
        have hOW := hO.out.fr hWr
        have HI2 : Hid (PutI l m.key (some v) (j + 1) true (q ++ [e0])) := keep (by have := HI2.out; rw [← He0.out]; exact this)
        go_wp2_with (first
          | (refine wpList_append_ent (.tmp 48) (.tmp 53) rfl rfl rfl rfl hWZ hOW Hn'.out (by omega) Hwe.out ?_; intro A9 c9 w10 ho9 hf9)
          | fail)
        go_roundg (gk - 1)
        case measure => omega
        case rel => exact ⟨j + 1, true, A9, n' + 1, c9, q ++ [e0], by omega, rfl, rfl, rfl, by omega, keep (by rw [List.length_append, Hn'.out]; rfl), keep ho9, HI2, keep hf9⟩
      · have hr1 : 0 < cmpK x.key m.key := cmpK_gt.2 hc
        cases p with
        | false =>
          have hq2 : n' ≤ j := by have := putI_len HI.out; rw [Hn'.out] at this; exact this
          have HI2 := keep (putI_gt Hol.out HI.out hx hc)
          generalize cmpK x.key m.key = r at *
          have r1 : ¬ r = 0 := by omega
          have r2 : 0 ≤ r := by omega
          have Hn2 : Hid ((q ++ [e0]).length = n' + 1) := keep (by rw [List.length_append, Hn'.out]; rfl)
          have HI2 : Hid (PutI l m.key (some v) (j + 1) true (q ++ [e0] ++ [x])) := keep (by have := HI2.out; rw [← He0.out]; exact this)
          clear hx hr hlt gx hc hwid
          go_wp2_with fail
          go_region_held3 (fun w' => Fr Y2 w' ∧ Fr wr w') (first | (go_split_ands; exact ⟨hZD, hrD⟩) | (go_split_ands; exact ⟨by assumption, by assumption⟩))
            (first
              | (go_at_call 92; (with_reducible refine (cK wr _ (by assumption)).mono ?_); rintro e w9 ⟨rfl, hz9⟩; have hZ9 := fr_step hZ1 hz9))
          rename_i hH
          obtain ⟨hWZ, hWr⟩ := hH
          have hOW := hO.out.fr hWr
          go_wp2_with (first
            | (refine wpList_append_ent (.tmp 48) (.tmp 53) rfl rfl rfl rfl hWZ hOW Hn'.out (by omega) Hwe.out ?_; intro A8 c8 w8 ho8 hf8)
            | (refine wpList_append_ent (.tmp 57) (.tmp 62) rfl rfl rfl rfl hf8 ho8 Hn2.out (by omega) Hwx.out ?_; intro A9 c9 w10 ho9 hf9)
            | fail)
          go_roundg (gk - 1)
          case measure => omega
          case rel => exact ⟨j + 1, true, A9, n' + 1 + 1, c9, q ++ [e0] ++ [x], by omega, rfl, rfl, rfl, by omega, keep (by rw [List.length_append, Hn2.out]; rfl), keep ho9, HI2, keep hf9⟩
        | true =>
          have HI2 := keep (putI_past HI.out hx)
          generalize cmpK x.key m.key = r at *
          have r1 : ¬ r = 0 := by omega
          have r2 : 0 ≤ r := by omega
          clear hx hr hlt gx hc hwid
          go_wp2_with fail
          go_region_held3 (fun w' => Fr Y2 w' ∧ Fr wr w') (first | (go_split_ands; exact ⟨hZD, hrD⟩) | (go_split_ands; exact ⟨by assumption, by assumption⟩))
            (first
              | (go_at_call 92; (with_reducible refine (cK wr _ (by assumption)).mono ?_); rintro e w9 ⟨rfl, hz9⟩; have hZ9 := fr_step hZ1 hz9))
          rename_i hH
          obtain ⟨hWZ, hWr⟩ := hH
          have hOW := hO.out.fr hWr
          go_wp2_with (first
            | (refine wpList_append_ent (.tmp 57) (.tmp 62) rfl rfl rfl rfl hWZ hOW Hn'.out (by omega) Hwx.out ?_; intro A9 c9 w10 ho9 hf9)
            | fail)
          go_roundg (gk - 1)
          case measure => omega
          case rel => exact ⟨j + 1, true, A9, n' + 1, c9, q ++ [x], by omega, rfl, rfl, rfl, by omega, keep (by rw [List.length_append, Hn'.out]; rfl), keep ho9, HI2, keep hf9⟩
    · have hjn : j = n := by omega
      have hjz : ¬ (j : Int) < (n : Int) := by omega
      have he := putI_end HI.out (by rw [Hn.out]; omega)
      have hZ1 := hZr.out
      have hOr := hO.out
      cases p with
      | true =>
        have He : Hid (setE l m.key (some v) = q) := keep (by rw [he]; rfl)
        clear hlt hjn he
        go_wp2_with fail
        go_ret
        rw [He.out, Hn'.out]
        exact ⟨A', c', rfl, hOr.mono hSz, fr_step hwY hZ1⟩
      | false =>
        have He : Hid (setE l m.key (some v) = q ++ [e0]) := keep (by rw [he, ← He0.out]; rfl)
        clear hlt hjn he
        go_wp2_with (first
          | (refine wpList_append_ent (.tmp 69) (.tmp 74) rfl rfl rfl rfl hZ1 hOr Hn'.out (by omega) Hwe.out ?_; intro A9 c9 w10 ho9 hf9)
          | fail)
        go_ret
        rw [He.out, List.length_append, Hn'.out]
        exact ⟨A9, c9, rfl, ho9.mono hSz, fr_step hwY hf9⟩
end Go.Proofs.YtmoaddbpfekdbaaGreat
/- The document's 'Put' of an entry that goes. -/
namespace Go.Proofs.YtmoaddbpfekdbaaGreat
set_option maxRecDepth 100000
open Go.RowKit
set_option linter.unusedVariables false
attribute [local go_sem ↓] key_ld ent_ld val_ld msg_ld
set_option maxHeartbeats 4000000 in
theorem ref_eput_no {w : World} {A : Option Addr} {n c B : Nat} {l : List RE} {m : RM} (hl : Has w B A (rows ec l)) (hB : B ≤ w.heap.size) (hn : l.length = n) (hsm : n ≤ 100000) (ol : OkE l) (wm : m.wf) (om : okM m = true) (hb : appB m = false) :
    Calls Tryz.prog 78 #[.slice A n c, mm m] w fun e w' => ∃ A' c', e = .returned (.slice A' (putE l m).length c') ∧ OwnE w' w.heap.size A' c' (putE l m) ∧ Fr w w' := by
  obtain ⟨Z, hZ, hF, hZZ, hM, hS⟩ := msg_box1 w m
  have hBZ : B ≤ Z.heap.size := Nat.le_trans hB hF.size
  have lK := msg_keyAt hM
  have lM := msg_all hM wm.val.hl
  have cF := ref_efind (c := c) (hl.fr hB hF) hBZ hn hsm ol.wfe wm.key
  have wx : ((findE l m.key).getD zeroV).wf := by
    cases hf : findE l m.key with
    | none => exact zeroV_wf
    | some x => exact (findE_ok ol hf).1
  have hox : (findE l m.key).isSome = true → okV ((findE l m.key).getD zeroV) = true := by
    cases hf : findE l m.key with
    | none => intro h; cases h
    | some x => intro _; exact (findE_ok ol hf).2
  have cA : ∀ W, Calls Tryz.prog 91 #[vv ((findE l m.key).getD zeroV), .bool (findE l m.key).isSome, mm m] W fun e w' => e = .returned (.tuple #[vv (appV ((findE l m.key).getD zeroV) (findE l m.key).isSome m), .bool (appB m)]) ∧ Fr W w' := fun W => rmapply_at wx hox wm om (fr_refl W)
  have wv := appV_wf (t := (findE l m.key).isSome) wx wm
  have hpe : putE l m = setE l m.key (if appB m = true then some (appV ((findE l m.key).getD zeroV) (findE l m.key).isSome m) else none) := rfl
  rw [hpe]
  rw [hb] at cA ⊢
  unfold findEV at cF
  generalize appV ((findE l m.key).getD zeroV) (findE l m.key).isSome m = v at *
  generalize (findE l m.key).getD zeroV = x0 at *
  generalize (findE l m.key).isSome = b0 at *
  have HlX := keep (vc_len wx.hl)
  have HlV := keep (vc_len wv.hl)
  have hlv : (vc v).length = 17 := vc_len wv.hl
  have Hl := keep (hl.fr hB hF)
  have Hn := keep hn
  have Hol := keep ol
  have hdec : setE l m.key (if false = true then some v else none) = setE l m.key (none) := rfl
  rw [hdec]
  clear hl hn ol hM hpe hox hb hdec
  go_enter Tryz.func78, Tryz.ntmps78
  go_wp2_with (first
    | (go_at_call 90; (with_reducible refine cF.mono ?_); rintro e w1 ⟨rfl, hz1⟩)
    | (refine wpList_store_at (ds := vc x0) val_info rfl (.tmp 5) (.tmp 18) rfl w1.heap.size 0 rfl rfl HlX.out (vc_one _) (Arr.new w1 (vc zeroV).toArray 115) (by decide) (splice_all _ _ (by rw [HlX.out]; decide)) ?_; intro Y1 hV1 hk1; have hF1 := hk1.fr (fr_new hz1 _) hz1.size; have lv1 := ld_fr hV1 HlX.out; have h11 := fr_refl Y1; clear hk1)
    | (go_at_call 91; (with_reducible refine (cA _).mono ?_); rintro e w3 ⟨rfl, hz3⟩; have hF3 := fr_step hF1 hz3; clear lv1 h11)
    | (refine wpList_store_at (ds := vc v) val_info rfl (.tmp 7) (.tmp 25) rfl w3.heap.size 0 rfl rfl HlV.out (vc_one _) (Arr.new w3 (vc zeroV).toArray 115) (by decide) (splice_all _ _ (by rw [HlV.out]; decide)) ?_; intro Y2 hV2 hk2; have hF2 := hk2.fr (fr_new hF3 _) hF3.size; have lv2 := ld_fr hV2 HlV.out; clear hk2)
    | fail)
  have hYY := fr_refl Y2
  have lK2 : ∀ W, Fr Y2 W → (ldS 112 (.pointer (some ⟨w.heap.size, 2, none⟩))).run Tryz.prog W = .ok (.agg (kc m.key).toArray) W := fun W h => lK W (fr_step hF2 h)
  have HlY := keep (Hl.out.fr hBZ hF2)
  have hBY := Nat.le_trans hBZ hF2.size
  have hwY := fr_step hF hF2
  have hSz := hwY.size
  clear lK lM cF cA hV1 hV2 hz1 hz3 hF1 hF3 Hl
  go_loopg [9, 10, 11] n (fun g s9 s10 s11 wr => ∃ (j : Nat) (p : Bool) (A' : Option Addr) (n' c' : Nat) (q : List RE), j + g = n ∧ s11 = .int .i64 j ∧ s10 = .bool p ∧ s9 = .slice A' n' c' ∧ n' ≤ j + 1 ∧ Hid (q.length = n') ∧ Hid (OwnE wr Y2.heap.size A' c' q) ∧ Hid (PutI l m.key (none) j p q) ∧ Hid (Fr Y2 wr))
  case atStart => exact ⟨0, false, none, 0, 0, [], by omega, rfl, rfl, rfl, by omega, keep rfl, keep (Own.nil _ _ _ _), keep (putI_start _ _ _), keep hYY⟩
  case round =>
    obtain ⟨j, p, A', n', c', q, hj, rfl, rfl, rfl, hn'j, Hn', hO, HI, hZr⟩ := hrel
    by_cases hlt : j < n
    · have hx : l[j]? = some (l[j]'(by rw [Hn.out]; exact hlt)) := List.getElem?_eq_getElem _
      generalize l[j]'(by rw [Hn.out]; exact hlt) = x at hx
      have hwid := Hol.out.wfe.wid
      obtain ⟨b, off, rfl, hb1, hr⟩ := has_rows HlY.out hwid (by decide) (by intro e; rw [e] at hx; simp at hx)
      have lX := elem_ld entS hr hwid (by omega) hx
      have lXk := elem_part (o := 0) keyS hr hwid (by omega) hx (ec_key x) (kc_len _)
      simp only [Nat.add_zero] at lXk
      have gx := Hol.out.good x (emem_at hx)
      have cK := fun W0 W h => rkcomp_at (W0 := W0) (W := W) gx.wk wm.key gx.ok (okM_key om) h
      have hZ1 := hZr.out
      have hrr := fr_refl wr
      have hZD := fr_drew hZ1
      have hrD := fr_drew hrr
      have hjz : (j : Int) < (n : Int) := by omega
      have hszx : (ec x).length = 26 := ec_len gx.wv.hl
      have hfx := ent_fold (e := x) gx.wv.hl
      have Hwx := keep gx.wf
      rcases Int.lt_trichotomy (ce x) (code m.key) with hc | hc | hc
      · have hr1 : cmpK x.key m.key < 0 := cmpK_lt.2 hc
        have hp : p = false := by
          cases p with
          | false => rfl
          | true => have := putI_gt_of HI.out hx; omega
        subst hp
        have HI2 := keep (putI_lt HI.out hx hc)
        generalize cmpK x.key m.key = r at *
        have r1 : ¬ r = 0 := by omega
        have r2 : ¬ 0 ≤ r := by omega
        clear hx hr hlt gx hc hwid
        go_wp2_with fail
        go_region_held3 (fun w' => Fr Y2 w' ∧ Fr wr w') (first | (go_split_ands; exact ⟨hZD, hrD⟩) | (go_split_ands; exact ⟨by assumption, by assumption⟩))
          (first
            | (go_at_call 92; (with_reducible refine (cK wr _ (by assumption)).mono ?_); rintro e w9 ⟨rfl, hz9⟩; have hZ9 := fr_step hZ1 hz9))
        rename_i hH
        obtain ⟨hWZ, hWr⟩ := hH
        have hOW := hO.out.fr hWr
        go_wp2_with (first
          | (refine wpList_append_ent (.tmp 57) (.tmp 62) rfl rfl rfl rfl hWZ hOW Hn'.out (by omega) Hwx.out ?_; intro A9 c9 w10 ho9 hf9)
          | fail)
        go_roundg (gk - 1)
        case measure => omega
        case rel => exact ⟨j + 1, false, A9, n' + 1, c9, q ++ [x], by omega, rfl, rfl, rfl, by omega, keep (by rw [List.length_append, Hn'.out]; rfl), keep ho9, HI2, keep hf9⟩
      · have hk : x.key = m.key := code_inj gx.wk wm.key (okB_len' gx.ok) (okB_len' (okM_key om)) hc
        have hr1 : cmpK x.key m.key = 0 := (cmpK_eq gx.wk wm.key gx.ok (okM_key om)).2 hk
        have hp : p = false := by
          cases p with
          | false => rfl
          | true => have := putI_gt_of HI.out hx; omega
        subst hp
        have hq2 : n' ≤ j := by have := putI_len HI.out; rw [Hn'.out] at this; exact this
        have HI2 := keep (putI_eq Hol.out HI.out hx hk)
        rw [hr1] at cK
        clear hx hr hlt gx hc hwid hk hr1
        go_wp2_with fail
        go_region_held3 (fun w' => Fr Y2 w' ∧ Fr wr w') (first | (go_split_ands; exact ⟨hZD, hrD⟩) | (go_split_ands; exact ⟨by assumption, by assumption⟩))
          (first
            | (go_at_call 92; (with_reducible refine (cK wr _ (by assumption)).mono ?_); rintro e w9 ⟨rfl, hz9⟩; have hZ9 := fr_step hZ1 hz9))
        rename_i hH
        obtain ⟨hWZ, hWr⟩ := hH
        have hOW := hO.out.fr hWr
        have HI2 : Hid (PutI l m.key none (j + 1) true q) := keep (by have := HI2.out; rw [show optE m.key none = [] from rfl, List.append_nil] at this; exact this)
        go_wp2_with fail
        go_roundg (gk - 1)
        case measure => omega
        case rel => exact ⟨j + 1, true, A', n', c', q, by omega, rfl, rfl, rfl, by omega, keep (Hn'.out), keep hOW, HI2, keep hWZ⟩
      · have hr1 : 0 < cmpK x.key m.key := cmpK_gt.2 hc
        cases p with
        | false =>
          have hq2 : n' ≤ j := by have := putI_len HI.out; rw [Hn'.out] at this; exact this
          have HI2 := keep (putI_gt Hol.out HI.out hx hc)
          generalize cmpK x.key m.key = r at *
          have r1 : ¬ r = 0 := by omega
          have r2 : 0 ≤ r := by omega
          have HI2 : Hid (PutI l m.key none (j + 1) true (q ++ [x])) := keep (by have := HI2.out; rw [show optE m.key none = [] from rfl, List.append_nil] at this; exact this)
          clear hx hr hlt gx hc hwid
          go_wp2_with fail
          go_region_held3 (fun w' => Fr Y2 w' ∧ Fr wr w') (first | (go_split_ands; exact ⟨hZD, hrD⟩) | (go_split_ands; exact ⟨by assumption, by assumption⟩))
            (first
              | (go_at_call 92; (with_reducible refine (cK wr _ (by assumption)).mono ?_); rintro e w9 ⟨rfl, hz9⟩; have hZ9 := fr_step hZ1 hz9))
          rename_i hH
          obtain ⟨hWZ, hWr⟩ := hH
          have hOW := hO.out.fr hWr
          go_wp2_with (first
            | (refine wpList_append_ent (.tmp 57) (.tmp 62) rfl rfl rfl rfl hWZ hOW Hn'.out (by omega) Hwx.out ?_; intro A9 c9 w10 ho9 hf9)
            | fail)
          go_roundg (gk - 1)
          case measure => omega
          case rel => exact ⟨j + 1, true, A9, n' + 1, c9, q ++ [x], by omega, rfl, rfl, rfl, by omega, keep (by rw [List.length_append, Hn'.out]; rfl), keep ho9, HI2, keep hf9⟩
        | true =>
          have HI2 := keep (putI_past HI.out hx)
          generalize cmpK x.key m.key = r at *
          have r1 : ¬ r = 0 := by omega
          have r2 : 0 ≤ r := by omega
          clear hx hr hlt gx hc hwid
          go_wp2_with fail
          go_region_held3 (fun w' => Fr Y2 w' ∧ Fr wr w') (first | (go_split_ands; exact ⟨hZD, hrD⟩) | (go_split_ands; exact ⟨by assumption, by assumption⟩))
            (first
              | (go_at_call 92; (with_reducible refine (cK wr _ (by assumption)).mono ?_); rintro e w9 ⟨rfl, hz9⟩; have hZ9 := fr_step hZ1 hz9))
          rename_i hH
          obtain ⟨hWZ, hWr⟩ := hH
          have hOW := hO.out.fr hWr
          go_wp2_with (first
            | (refine wpList_append_ent (.tmp 57) (.tmp 62) rfl rfl rfl rfl hWZ hOW Hn'.out (by omega) Hwx.out ?_; intro A9 c9 w10 ho9 hf9)
            | fail)
          go_roundg (gk - 1)
          case measure => omega
          case rel => exact ⟨j + 1, true, A9, n' + 1, c9, q ++ [x], by omega, rfl, rfl, rfl, by omega, keep (by rw [List.length_append, Hn'.out]; rfl), keep ho9, HI2, keep hf9⟩
    · have hjn : j = n := by omega
      have hjz : ¬ (j : Int) < (n : Int) := by omega
      have he := putI_end HI.out (by rw [Hn.out]; omega)
      have hZ1 := hZr.out
      have hOr := hO.out
      cases p with
      | true =>
        have He : Hid (setE l m.key (none) = q) := keep (by rw [he]; rfl)
        clear hlt hjn he
        go_wp2_with fail
        go_ret
        rw [He.out, Hn'.out]
        exact ⟨A', c', rfl, hOr.mono hSz, fr_step hwY hZ1⟩
      | false =>
        have He : Hid (setE l m.key none = q) := keep (by rw [he]; exact List.append_nil _)
        clear hlt hjn he
        go_wp2_with fail
        go_ret
        rw [He.out, Hn'.out]
        exact ⟨A', c', rfl, hOr.mono hSz, fr_step hwY hZ1⟩
end Go.Proofs.YtmoaddbpfekdbaaGreat
