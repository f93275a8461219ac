/- The document's cache: Pin. -/
import Derived.Test.YtmoaddbpfekdbaaGreatM20
namespace Go.Proofs.YtmoaddbpfekdbaaGreat
set_option linter.unusedSectionVars false
set_option linter.unusedVariables false
set_option linter.unusedSimpArgs false
set_option maxRecDepth 100000
open Go.RowKit
section
variable {V : Type} [NVal V]
/-- Pin as the document's cache does it: it tells by whom a frame is loaded. -/
def pinD (c : Ca V) (t b : Int) : Int × Ca V :=
  if (okT t && okBl b && !busy c t b) = true then
    match findB c.fs b with
    | some i => if (fr c.fs i).st = 2 then (1, { c with fs := c.fs.modify i pinned, line := leave c.line t }) else (2, { c with fs := c.fs.modify i pinned, line := leave c.line t, loads := c.loads ++ [(t, b)] })
    | none => match takeI c t with
      | some k => (3, { c with fs := c.fs.set k ⟨1, b, 1, true, false, default, t⟩, line := leave c.line t })
      | none => (4, { c with line := queue c.line t b })
  else (0, c)
theorem DTurn.step {w w2 W : World} {g : Nat} {h2 : CH} {t u : Ca V} {Y : Nat → Prop} (d1 : DC w2 g h2 t) (d2 : Chg Y w w2) (d3 : ∀ k, CHX g h2 k → Y k ∨ w.heap.size ≤ k) (f : DTurn w2 W (CHX g h2) g u) : DTurn w W Y g u := by
  obtain ⟨h4, l1, l2, l3⟩ := f
  refine ⟨h4, l1, d2.trans' l2 fun i hi hx => ?_, fun i hi => ?_⟩
  · rcases d3 i hx with e | e
    · exact e
    · omega
  · rcases l3 i hi with e | e
    · exact d3 i e
    · exact .inr (Nat.le_trans d2.size e)
/-- Two stores into one frame, behind a draw. -/
theorem pin_two {w wd W1 W2 : World} {g b off i : Nat} {h : CH} {t : Ca V} {f1 f2 : Fra V} (k : DC w g h t) (hA : h.A = some ⟨b, off, none⟩) (hF : Fr w wd) (h1 : Chg (· = b) wd W1) (h2 : Chg (· = b) W1 W2) (hr : Rw W2 63 11 (some ⟨b, off, none⟩) h.n h.c (rows fc ((t.fs.set i f1).set i f2))) :
    Chg (CHX g h) w W2 ∧ DC W2 g h { t with fs := t.fs.set i f2 } ∧ True := by
  rw [List.set_set] at hr
  have hch : Chg (At h.A) w W2 := (((Chg.of_fr _ hF).trans h1).trans h2).weak fun j _ hj => by rw [hA]; exact congrArg some hj.symm
  exact ⟨hch.weak fun i _ hi => .inr (.inl hi), k.frames (by rw [hA]; exact hr) hch, trivial⟩
set_option maxHeartbeats 16000000 in
theorem dpin_at {w : World} {g : Nat} {h : CH} {t : Ca V} (tk x : Int) (k : DC w g h t) (hs : t.fs.length ≤ 100000) (hl : t.line.length ≤ 100000) (hl2 : t.loads.length ≤ 100000) (hpk : PinsOk t) :
    Calls Tryz.prog 25 #[.pointer (some ⟨g, 0, none⟩), .int .i64 tk, .int .i64 x] w fun e w' => e = .returned (.int .i64 (pinD t tk x).1) ∧ Hid (DTurn w w' (CHX g h) g (pinD t tk x).2) := by
  have cT := dtask_at w tk
  have cX := dblock_at w x
  obtain ⟨-, hm, hp⟩ := k.nlen
  obtain ⟨-, c1, c2, -⟩ := k.cells
  have cA := at_at (c := h.e) tk k.ld.has (Nat.le_refl _) hp (by omega)
  have cB := at_at (c := h.d) tk k.ln.has (Nat.le_refl _) hm (by omega)
  have HK := keep k
  have lX := True.intro
  cases hT : okT tk with
  | false =>
    have e9 : pinD t tk x = (0, t) := by unfold pinD; rw [hT]; rfl
    rw [e9]
    rw [hT] at cT
    have CT := keep cT
    clear cT cX cA cB k hs hl hl2 hm hp hT e9
    go_enter Tryz.func25, Tryz.ntmps25
    go_wp2_with (first
      | (go_at_call 60; with_reducible refine CT.out.mono ?_; rintro e w2 ⟨rfl, rfl⟩)
      | fail)
    go_ret
    exact ⟨rfl, keep (.same HK.out (fr_refl w) fun _ => id)⟩
  | true =>
  rw [hT] at cT
  have CT := keep cT
  clear cT
  cases hX : okBl x with
  | false =>
    have e9 : pinD t tk x = (0, t) := by unfold pinD; rw [hT, hX]; rfl
    rw [e9]
    rw [hX] at cX
    have CK0 := keep cX
    clear cX cA cB k hs hl hl2 hm hp hT hX e9
    go_enter Tryz.func25, Tryz.ntmps25
    go_wp2_with (first
      | (go_at_call 60; with_reducible refine CT.out.mono ?_; rintro e w2 ⟨rfl, rfl⟩)
      | (go_at_call 61; with_reducible refine CK0.out.mono ?_; rintro e w2 ⟨rfl, rfl⟩)
      | fail)
    go_ret
    exact ⟨rfl, keep (.same HK.out (fr_refl w) fun _ => id)⟩
  | true =>
  rw [hX] at cX
  have CK0 := keep cX
  clear cX
  cases hat : atI t.loads tk with
  | some j =>
    obtain ⟨q, -, hq⟩ := stand_some hat
    have e9 : pinD t tk x = (0, t) := by unfold pinD busy; rw [hT, hX, hq]; rfl
    rw [e9]
    rw [hat] at cA
    have CA := keep (show Calls _ _ _ _ fun e w' => e = .returned (.int .i64 (j : Int)) ∧ w = w' from cA)
    have hj : (j : Int) ≥ 0 := by omega
    clear cA cB k hs hl hl2 hm hp hT hX e9 hat hq
    go_enter Tryz.func25, Tryz.ntmps25
    go_wp2_with (first
      | (go_at_call 60; with_reducible refine CT.out.mono ?_; rintro e w2 ⟨rfl, rfl⟩)
      | (go_at_call 61; with_reducible refine CK0.out.mono ?_; rintro e w2 ⟨rfl, rfl⟩)
      | (go_at_call 62; with_reducible refine CA.out.mono ?_; rintro e w2 ⟨rfl, rfl⟩)
      | fail)
    go_ret
    exact ⟨rfl, keep (.same HK.out (fr_refl w) fun _ => id)⟩
  | none =>
  have hq := stand_none hat
  rw [hat] at cA
  have CA := keep (show Calls _ _ _ _ fun e w' => e = .returned (.int .i64 (-1)) ∧ w = w' from cA)
  clear cA
  cases hab : atI t.line tk with
  | none =>
    have hq2 := stand_none hab
    rw [hab] at cB
    have CB := keep (show Calls _ _ _ _ fun e w' => e = .returned (.int .i64 (-1)) ∧ w = w' from cB)
    have hbz : busy t tk x = false := by unfold busy; rw [hq, hq2]; rfl
    have cN := dfind_at x k hs
    cases hfd : findB t.fs x with
    | none =>
      rw [hfd] at cN
      have CN := keep (show Calls _ _ _ _ fun e w' => e = .returned (.int .i64 (-1)) ∧ w = w' from cN)
      cases htk : takeI t tk with
      | none =>
        have CK := keep (dtakes_no tk x k hs hl (takeI_none htk))
        have e9 : pinD t tk x = (4, { t with line := queue t.line tk x }) := by unfold pinD; rw [hT, hX, hbz, hfd, htk]; rfl
        rw [e9]
        clear cN hfd htk e9 hpk cB k hs hl hl2 hm hp hT hX hat hq hab hq2 hbz
        go_enter Tryz.func25, Tryz.ntmps25
        go_wp2_with (first
          | (go_at_call 60; with_reducible refine CT.out.mono ?_; rintro e w2 ⟨rfl, rfl⟩)
          | (go_at_call 61; with_reducible refine CK0.out.mono ?_; rintro e w2 ⟨rfl, rfl⟩)
          | (go_at_call 62; with_reducible refine CA.out.mono ?_; rintro e w2 ⟨rfl, rfl⟩)
          | (go_at_call 62; with_reducible refine CB.out.mono ?_; rintro e w2 ⟨rfl, rfl⟩)
          | (go_at_call 63; with_reducible refine CN.out.mono ?_; rintro e w2 ⟨rfl, rfl⟩)
          | (go_at_call 65; with_reducible refine CK.out.mono ?_; rintro e w2 ⟨rfl, hz⟩)
          | fail)
        go_ret
        exact ⟨rfl, hz⟩
      | some i =>
        obtain ⟨hf, ha⟩ := takeI_some htk
        obtain ⟨f, hfi⟩ := free_at hf
        have CK := keep (dtakes_yes tk x k hs hl hf ha)
        have HFI := keep hfi
        have hi0 : ¬ ((i : Int) < 0) := by omega
        have e9 : pinD t tk x = (3, { t with fs := t.fs.set i ⟨1, x, 1, true, false, default, tk⟩, line := leave t.line tk }) := by unfold pinD; rw [hT, hX, hbz, hfd, htk]; rfl
        rw [e9]
        clear cN hfd htk e9 hpk hf ha hfi cB k hs hl hl2 hm hp hT hX hat hq hab hq2 hbz
        go_enter Tryz.func25, Tryz.ntmps25
        go_wp2_with (first
          | (go_at_call 60; with_reducible refine CT.out.mono ?_; rintro e w2 ⟨rfl, rfl⟩)
          | (go_at_call 61; with_reducible refine CK0.out.mono ?_; rintro e w2 ⟨rfl, rfl⟩)
          | (go_at_call 62; with_reducible refine CA.out.mono ?_; rintro e w2 ⟨rfl, rfl⟩)
          | (go_at_call 62; with_reducible refine CB.out.mono ?_; rintro e w2 ⟨rfl, rfl⟩)
          | (go_at_call 63; with_reducible refine CN.out.mono ?_; rintro e w2 ⟨rfl, rfl⟩)
          | (go_at_call 65; (with_reducible refine CK.out.mono ?_); rintro e w2 ⟨rfl, hz⟩; obtain ⟨h2, d1, d2, d3⟩ := hz.out; obtain ⟨b, off, hA, c0, hR, hiz⟩ := d1.row HFI.out; have D1 := keep d1; have D2 := keep (And.intro d2 d3); have HA := keep hA; have HR := keep hR; clear hz d1 d2 d3 hA hR)
          | (refine wpList_store_rw (cf := fc) (x := (⟨1, x, 1, true, false, default, tk⟩ : Fra V)) (j := i) frame_info rfl (.tmp 118) (.tmp 117) rfl rfl (fc_lit 1 x 1 true false tk).symm (fc_len _) (fc_one _) HR.out (fc_wid _) D1.out.nlen.1 (by omega) ?_; intro W1 h1 h3; have H1 := keep (show Rw W1 _ _ _ _ _ _ ∧ Chg _ w2 W1 from ⟨h1, h3⟩); clear h1 h3)
          | fail)
        go_ret
        refine ⟨rfl, keep ?_⟩
        exact DTurn.put D1.out D2.out.1 D2.out.2 HA.out H1.out.1 H1.out.2
    | some i =>
      rw [hfd] at cN
      have CN := keep (show Calls _ _ _ _ fun e w' => e = .returned (.int .i64 (i : Int)) ∧ w = w' from cN)
      obtain ⟨f, hfi, -⟩ := idx_at hfd
      have hi0 : (i : Int) ≥ 0 := by omega
      obtain ⟨hp1, hp2⟩ := hpk.at hfi
      have wpp : IntKind.i64.wrap (f.pins + 1) = f.pins + 1 := by rw [IntKind.wrap_i64]; omega
      obtain ⟨b, off, hA, c0, hR, hiz⟩ := k.row hfi
      obtain ⟨b2, off2, hA2, -, hc⟩ := frame_cells k.fs.has (Nat.le_refl _) hfi
      rw [hA] at hA2
      injection hA2 with hA2
      injection hA2 with hA3 hA4
      subst hA3 hA4
      obtain ⟨-, -, lP, -⟩ := hc w (fr_refl w)
      have hbg : ¬ g = b := fun e => k.ng.1 (by rw [hA, e]; rfl)
      have HR := keep hR
      have HF := keep hfi
      have HA := keep hA
      have HB := keep hbg
      have Hm := keep k.nlen.2.1
      have hml : h.m ≤ 100000 := by omega
      have hpl : t.loads.length ≤ 100000 := hl2
      by_cases h2 : f.st = 2
      · have e9 : pinD t tk x = (1, { t with fs := t.fs.set i (pinned f), line := leave t.line tk }) := by
          unfold pinD
          rw [hT, hX, hbz, hfd]
          simp only [fr_of hfi, modify_set hfi, if_pos h2]
          rfl
        have hz2 : ((f.st : Int) == 2) = true := by simp; omega
        rw [e9]
        clear cN hfd e9 hpk hp1 hp2 hA hR hfi hc hbg h2 cB k hs hl hl2 hm hp hT hX hat hq hab hq2 hbz
        go_enter Tryz.func25, Tryz.ntmps25
        go_wp2_with (first
          | (go_at_call 60; with_reducible refine CT.out.mono ?_; rintro e w2 ⟨rfl, rfl⟩)
          | (go_at_call 61; with_reducible refine CK0.out.mono ?_; rintro e w2 ⟨rfl, rfl⟩)
          | (go_at_call 62; with_reducible refine CA.out.mono ?_; rintro e w2 ⟨rfl, rfl⟩)
          | (go_at_call 62; with_reducible refine CB.out.mono ?_; rintro e w2 ⟨rfl, rfl⟩)
          | (go_at_call 63; with_reducible refine CN.out.mono ?_; rintro e w2 ⟨rfl, rfl⟩)
          | fail)
        go_still_tail 16, (by kernel_rfl)
        change wpList _ _ _ _ _ w.drew
        have HD := keep (HR.out.fr (fr_drew (fr_refl w)))
        have HFD := keep (fr_drew (fr_refl w))
        have HSD := keep (HK.out.box.chg (.of_fr (fun _ => False) (fr_drew (fr_refl w))) id)
        clear c0 c1 c2 lX
        generalize w.drew = wd at *
        go_wp2_with (first
          | (refine wpList_store_frp (cf := fc) (l := t.fs) (j := i) (x := f) (y := { f with pins := f.pins + 1 }) (tt := 2) (ds := [.int .i64 (f.pins + 1)]) int_info16 rfl (.tmp 66) (.tmp 64) rfl rfl rfl rfl (.cons rfl .nil) HD.out (fc_wid _) HF.out (by simp) rfl ?_; intro W1 h1 h2; have H1 := keep (show Rw W1 _ _ _ _ _ _ ∧ Chg _ wd W1 from ⟨h1, h2⟩); have c0 : W1.cell? ⟨g, 0, none⟩ = some (.slice (some ⟨b, off, none⟩) h.n h.c) := by { rw [← HA.out]; have := (HSD.out.chg h2 (fun e => HB.out e)).cell 0; simpa using this }; clear h1 h2)
          | (refine wpList_store_frp (cf := fc) (l := t.fs.set i { f with pins := f.pins + 1 }) (j := i) (x := { f with pins := f.pins + 1 }) (y := pinned f) (tt := 3) (ds := [.bool true]) bool_info16 rfl (.tmp 73) (.const (.bool true)) rfl rfl rfl rfl (.cons rfl .nil) H1.out.1 (fc_wid _) (List.getElem?_set_self (List.getElem?_eq_some_iff.1 HF.out).1) (by simp) rfl ?_; intro W2 h1 h2; obtain ⟨e2, d2, e9⟩ := pin_two HK.out HA.out HFD.out H1.out.2 h2 h1; have D2 := keep d2; have E2 := keep e2; have c1 := d2.cells.2.1; have CL := keep (leave_at (c := h.d) tk d2.ln.has (Nat.le_refl _) Hm.out (by omega)); have E9 := keep e9; clear h1 h2 c0 e2 d2 e9)
          | (go_at_call 64; (with_reducible refine CL.out.mono ?_); rintro e w3 ⟨O, k7, b7, rfl, hz⟩; clear c1)
          | (refine wpList_store_chg stands_info rfl (.tmp 82) (.tmp 80) rfl g 1 rfl (ds := [.slice O k7 b7]) rfl rfl (.cons rfl .nil) (D2.out.box.chg (.of_fr (fun _ => False) hz.out.2) id) (by simp) (cs' := [.slice h.A h.n h.c, .slice O k7 b7, .slice h.L h.p h.e, .int .i64 t.hand]) rfl ?_; intro W4 h1 h2; obtain ⟨h4, d4, e4, f4⟩ := D2.out.line hz.out.1.row (.of_fr _ hz.out.2) (fun i hi => .inr (hz.out.1.new i hi)) h1 h2; obtain ⟨b4, off4, hA4, c0, hR4, hiz4⟩ := d4.row (i := i) (f := pinned f) (List.getElem?_set_self (List.getElem?_eq_some_iff.1 HF.out).1); obtain ⟨bb, oo, hA5, -, hc5⟩ := frame_cells d4.fs.has (Nat.le_refl _) (i := i) (f := pinned f) (List.getElem?_set_self (List.getElem?_eq_some_iff.1 HF.out).1); rw [hA4] at hA5; injection hA5 with hA5; injection hA5 with hA6 hA7; subst hA6 hA7; obtain ⟨lS, -⟩ := hc5 W4 (fr_refl W4); have lS2 : W4.cell? ⟨b4, off4 + i * 11, none⟩ = some (.int .i64 (f.st : Int)) := lS; have c2 := d4.cells.2.2.1; have D4 := keep d4; have E4 := keep (And.intro e4 f4); have HO4 := keep (d4.ld.fr (fr_new (fr_refl W4) (.cells (sc (tk, x)).toArray 103))); have hp4 := keep (show t.loads.length = h4.p from d4.nlen.2.2); have NG4 := keep d4.ng.2.2; clear h1 h2 d4 e4 f4 hA4 hR4 hc5 lS)
          | fail)
        go_ret
        refine ⟨rfl, keep ?_⟩
        exact .step D2.out E2.out (fun _ hk => .inl hk) ⟨h4, D4.out, E4.out.1, E4.out.2⟩
      · have e9 : pinD t tk x = (2, { t with fs := t.fs.set i (pinned f), line := leave t.line tk, loads := t.loads ++ [(tk, x)] }) := by
          unfold pinD
          rw [hT, hX, hbz, hfd]
          simp only [fr_of hfi, modify_set hfi, if_neg h2]
          rfl
        have hz2 : ((f.st : Int) == 2) = false := by simp; omega
        rw [e9]
        clear cN hfd e9 hpk hp1 hp2 hA hR hfi hc hbg h2 cB k hs hl hl2 hm hp hT hX hat hq hab hq2 hbz
        go_enter Tryz.func25, Tryz.ntmps25
        go_wp2_with (first
          | (go_at_call 60; with_reducible refine CT.out.mono ?_; rintro e w2 ⟨rfl, rfl⟩)
          | (go_at_call 61; with_reducible refine CK0.out.mono ?_; rintro e w2 ⟨rfl, rfl⟩)
          | (go_at_call 62; with_reducible refine CA.out.mono ?_; rintro e w2 ⟨rfl, rfl⟩)
          | (go_at_call 62; with_reducible refine CB.out.mono ?_; rintro e w2 ⟨rfl, rfl⟩)
          | (go_at_call 63; with_reducible refine CN.out.mono ?_; rintro e w2 ⟨rfl, rfl⟩)
          | fail)
        go_still_tail 16, (by kernel_rfl)
        change wpList _ _ _ _ _ w.drew
        have HD := keep (HR.out.fr (fr_drew (fr_refl w)))
        have HFD := keep (fr_drew (fr_refl w))
        have HSD := keep (HK.out.box.chg (.of_fr (fun _ => False) (fr_drew (fr_refl w))) id)
        clear c0 c1 c2 lX
        generalize w.drew = wd at *
        go_wp2_with (first
          | (refine wpList_store_frp (cf := fc) (l := t.fs) (j := i) (x := f) (y := { f with pins := f.pins + 1 }) (tt := 2) (ds := [.int .i64 (f.pins + 1)]) int_info16 rfl (.tmp 66) (.tmp 64) rfl rfl rfl rfl (.cons rfl .nil) HD.out (fc_wid _) HF.out (by simp) rfl ?_; intro W1 h1 h2; have H1 := keep (show Rw W1 _ _ _ _ _ _ ∧ Chg _ wd W1 from ⟨h1, h2⟩); have c0 : W1.cell? ⟨g, 0, none⟩ = some (.slice (some ⟨b, off, none⟩) h.n h.c) := by { rw [← HA.out]; have := (HSD.out.chg h2 (fun e => HB.out e)).cell 0; simpa using this }; clear h1 h2)
          | (refine wpList_store_frp (cf := fc) (l := t.fs.set i { f with pins := f.pins + 1 }) (j := i) (x := { f with pins := f.pins + 1 }) (y := pinned f) (tt := 3) (ds := [.bool true]) bool_info16 rfl (.tmp 73) (.const (.bool true)) rfl rfl rfl rfl (.cons rfl .nil) H1.out.1 (fc_wid _) (List.getElem?_set_self (List.getElem?_eq_some_iff.1 HF.out).1) (by simp) rfl ?_; intro W2 h1 h2; obtain ⟨e2, d2, e9⟩ := pin_two HK.out HA.out HFD.out H1.out.2 h2 h1; have D2 := keep d2; have E2 := keep e2; have c1 := d2.cells.2.1; have CL := keep (leave_at (c := h.d) tk d2.ln.has (Nat.le_refl _) Hm.out (by omega)); have E9 := keep e9; clear h1 h2 c0 e2 d2 e9)
          | (go_at_call 64; (with_reducible refine CL.out.mono ?_); rintro e w3 ⟨O, k7, b7, rfl, hz⟩; clear c1)
          | (refine wpList_store_chg stands_info rfl (.tmp 82) (.tmp 80) rfl g 1 rfl (ds := [.slice O k7 b7]) rfl rfl (.cons rfl .nil) (D2.out.box.chg (.of_fr (fun _ => False) hz.out.2) id) (by simp) (cs' := [.slice h.A h.n h.c, .slice O k7 b7, .slice h.L h.p h.e, .int .i64 t.hand]) rfl ?_; intro W4 h1 h2; obtain ⟨h4, d4, e4, f4⟩ := D2.out.line hz.out.1.row (.of_fr _ hz.out.2) (fun i hi => .inr (hz.out.1.new i hi)) h1 h2; obtain ⟨b4, off4, hA4, c0, hR4, hiz4⟩ := d4.row (i := i) (f := pinned f) (List.getElem?_set_self (List.getElem?_eq_some_iff.1 HF.out).1); obtain ⟨bb, oo, hA5, -, hc5⟩ := frame_cells d4.fs.has (Nat.le_refl _) (i := i) (f := pinned f) (List.getElem?_set_self (List.getElem?_eq_some_iff.1 HF.out).1); rw [hA4] at hA5; injection hA5 with hA5; injection hA5 with hA6 hA7; subst hA6 hA7; obtain ⟨lS, -⟩ := hc5 W4 (fr_refl W4); have lS2 : W4.cell? ⟨b4, off4 + i * 11, none⟩ = some (.int .i64 (f.st : Int)) := lS; have c2 := d4.cells.2.2.1; have D4 := keep d4; have E4 := keep (And.intro e4 f4); have HO4 := keep (d4.ld.fr (fr_new (fr_refl W4) (.cells (sc (tk, x)).toArray 103))); have hp4 := keep (show t.loads.length = h4.p from d4.nlen.2.2); have NG4 := keep d4.ng.2.2; clear h1 h2 d4 e4 f4 hA4 hR4 hc5 lS)
          | (refine wpList_append_rw stand_elem stands_und (by decide) rfl (.tmp 96) (.tmp 100) rfl h4.L h4.p h4.e (rows sc t.loads) rfl HO4.out (W4.heap.size + 1) (some ⟨W4.heap.size, 0, none⟩) 1 1 (sc (tk, x)) rfl rfl (has_new W4 (sc (tk, x)) 103) (sc_one _) (by have := hp4.out; simp only [maxLen]; omega) (by have := hp4.out; omega) ?_; intro P p7 w5 h3 p3; have H5 := keep (show Rw w5 _ _ _ _ _ _ ∧ Put _ w5 _ _ from ⟨h3, p3⟩); have HB5 := keep ((D4.out.box.chg (.of_fr (fun _ => False) (fr_new (fr_refl W4) (.cells (sc (tk, x)).toArray 103))) id).chg p3.chg NG4.out); clear h3 p3)
          | (refine wpList_store_chg stands_info rfl (.tmp 103) (.tmp 101) rfl g 2 rfl (ds := [.slice P (h4.p + 1) p7]) rfl rfl (.cons rfl .nil) HB5.out (by simp) (cs' := [.slice h4.A h4.n h4.c, .slice h4.B h4.m h4.d, .slice P (h4.p + 1) p7, .int .i64 t.hand]) rfl ?_; intro W6 h1 h2; have H6 := keep (show Arr W6 _ _ _ ∧ Chg _ w5 W6 from ⟨h1, h2⟩); clear h1 h2)
          | fail)
        go_ret
        refine ⟨rfl, keep ?_⟩
        obtain ⟨h3, p3⟩ := H5.out
        obtain ⟨h1, h2⟩ := H6.out
        refine .step D2.out E2.out (fun _ hk => .inl hk) (.step D4.out E4.out.1 E4.out.2 ?_)
        refine D4.out.loads (by rw [rows_append, rows_single]; exact h3) ((Chg.of_fr _ (fr_new (fr_refl W4) _)).trans p3.chg) (fun i hi => ?_) h1 h2
        rcases p3.blk i hi with e | e
        · exact .inl e
        · exact .inr (by simp at e; omega)
  | some j =>
    obtain ⟨p, hpj, hq2⟩ := stand_some hab
    rw [hab] at cB
    have CB := keep (show Calls _ _ _ _ fun e w' => e = .returned (.int .i64 (j : Int)) ∧ w = w' from cB)
    have hj : (j : Int) ≥ 0 := by omega
    have hjm : (j : Int) < (h.m : Int) := by have := (List.getElem?_eq_some_iff.1 hpj).1; omega
    obtain ⟨bb, ob, hBB, hb1, hr2⟩ := has_rows k.ln.has (sc_wid t.line) (by decide) (by intro e; rw [e] at hpj; simp at hpj)
    have lX := elem_cell hr2 (sc_wid t.line) hb1 (o := 1) hpj (u := .int .i64 p.2) rfl w (fr_refl w)
    rw [hBB] at c1 CB
    by_cases hpx : p.2 = x
    · have hbz : busy t tk x = false := by unfold busy; rw [hq, hq2]; simp [hpx]
      have hxx : (p.2 != x) = false := by simp [hpx]
      have cN := dfind_at x k hs
      cases hfd : findB t.fs x with
      | none =>
        rw [hfd] at cN
        have CN := keep (show Calls _ _ _ _ fun e w' => e = .returned (.int .i64 (-1)) ∧ w = w' from cN)
        cases htk : takeI t tk with
        | none =>
          have CK := keep (dtakes_no tk x k hs hl (takeI_none htk))
          have e9 : pinD t tk x = (4, { t with line := queue t.line tk x }) := by unfold pinD; rw [hT, hX, hbz, hfd, htk]; rfl
          rw [e9]
          clear cN hfd htk e9 hpk cB k hs hl hl2 hm hp hT hX hat hq hab hq2 hbz hpj hb1 hr2 hBB hpx
          go_enter Tryz.func25, Tryz.ntmps25
          go_wp2_with (first
            | (go_at_call 60; with_reducible refine CT.out.mono ?_; rintro e w2 ⟨rfl, rfl⟩)
            | (go_at_call 61; with_reducible refine CK0.out.mono ?_; rintro e w2 ⟨rfl, rfl⟩)
            | (go_at_call 62; with_reducible refine CA.out.mono ?_; rintro e w2 ⟨rfl, rfl⟩)
            | (go_at_call 62; with_reducible refine CB.out.mono ?_; rintro e w2 ⟨rfl, rfl⟩)
            | (go_at_call 63; with_reducible refine CN.out.mono ?_; rintro e w2 ⟨rfl, rfl⟩)
            | (go_at_call 65; with_reducible refine CK.out.mono ?_; rintro e w2 ⟨rfl, hz⟩)
            | fail)
          go_ret
          exact ⟨rfl, hz⟩
        | some i =>
          obtain ⟨hf, ha⟩ := takeI_some htk
          obtain ⟨f, hfi⟩ := free_at hf
          have CK := keep (dtakes_yes tk x k hs hl hf ha)
          have HFI := keep hfi
          have hi0 : ¬ ((i : Int) < 0) := by omega
          have e9 : pinD t tk x = (3, { t with fs := t.fs.set i ⟨1, x, 1, true, false, default, tk⟩, line := leave t.line tk }) := by unfold pinD; rw [hT, hX, hbz, hfd, htk]; rfl
          rw [e9]
          clear cN hfd htk e9 hpk hf ha hfi cB k hs hl hl2 hm hp hT hX hat hq hab hq2 hbz hpj hb1 hr2 hBB hpx
          go_enter Tryz.func25, Tryz.ntmps25
          go_wp2_with (first
            | (go_at_call 60; with_reducible refine CT.out.mono ?_; rintro e w2 ⟨rfl, rfl⟩)
            | (go_at_call 61; with_reducible refine CK0.out.mono ?_; rintro e w2 ⟨rfl, rfl⟩)
            | (go_at_call 62; with_reducible refine CA.out.mono ?_; rintro e w2 ⟨rfl, rfl⟩)
            | (go_at_call 62; with_reducible refine CB.out.mono ?_; rintro e w2 ⟨rfl, rfl⟩)
            | (go_at_call 63; with_reducible refine CN.out.mono ?_; rintro e w2 ⟨rfl, rfl⟩)
            | (go_at_call 65; (with_reducible refine CK.out.mono ?_); rintro e w2 ⟨rfl, hz⟩; obtain ⟨h2, d1, d2, d3⟩ := hz.out; obtain ⟨b, off, hA, c0, hR, hiz⟩ := d1.row HFI.out; have D1 := keep d1; have D2 := keep (And.intro d2 d3); have HA := keep hA; have HR := keep hR; clear hz d1 d2 d3 hA hR)
            | (refine wpList_store_rw (cf := fc) (x := (⟨1, x, 1, true, false, default, tk⟩ : Fra V)) (j := i) frame_info rfl (.tmp 118) (.tmp 117) rfl rfl (fc_lit 1 x 1 true false tk).symm (fc_len _) (fc_one _) HR.out (fc_wid _) D1.out.nlen.1 (by omega) ?_; intro W1 h1 h3; have H1 := keep (show Rw W1 _ _ _ _ _ _ ∧ Chg _ w2 W1 from ⟨h1, h3⟩); clear h1 h3)
            | fail)
          go_ret
          refine ⟨rfl, keep ?_⟩
          exact DTurn.put D1.out D2.out.1 D2.out.2 HA.out H1.out.1 H1.out.2
      | some i =>
        rw [hfd] at cN
        have CN := keep (show Calls _ _ _ _ fun e w' => e = .returned (.int .i64 (i : Int)) ∧ w = w' from cN)
        obtain ⟨f, hfi, -⟩ := idx_at hfd
        have hi0 : (i : Int) ≥ 0 := by omega
        obtain ⟨hp1, hp2⟩ := hpk.at hfi
        have wpp : IntKind.i64.wrap (f.pins + 1) = f.pins + 1 := by rw [IntKind.wrap_i64]; omega
        obtain ⟨b, off, hA, c0, hR, hiz⟩ := k.row hfi
        obtain ⟨b2, off2, hA2, -, hc⟩ := frame_cells k.fs.has (Nat.le_refl _) hfi
        rw [hA] at hA2
        injection hA2 with hA2
        injection hA2 with hA3 hA4
        subst hA3 hA4
        obtain ⟨-, -, lP, -⟩ := hc w (fr_refl w)
        have hbg : ¬ g = b := fun e => k.ng.1 (by rw [hA, e]; rfl)
        have HR := keep hR
        have HF := keep hfi
        have HA := keep hA
        have HB := keep hbg
        have Hm := keep k.nlen.2.1
        have hml : h.m ≤ 100000 := by omega
        have hpl : t.loads.length ≤ 100000 := hl2
        by_cases h2 : f.st = 2
        · have e9 : pinD t tk x = (1, { t with fs := t.fs.set i (pinned f), line := leave t.line tk }) := by
            unfold pinD
            rw [hT, hX, hbz, hfd]
            simp only [fr_of hfi, modify_set hfi, if_pos h2]
            rfl
          have hz2 : ((f.st : Int) == 2) = true := by simp; omega
          rw [e9]
          clear cN hfd e9 hpk hp1 hp2 hA hR hfi hc hbg h2 cB k hs hl hl2 hm hp hT hX hat hq hab hq2 hbz hpj hb1 hr2 hBB hpx
          go_enter Tryz.func25, Tryz.ntmps25
          go_wp2_with (first
            | (go_at_call 60; with_reducible refine CT.out.mono ?_; rintro e w2 ⟨rfl, rfl⟩)
            | (go_at_call 61; with_reducible refine CK0.out.mono ?_; rintro e w2 ⟨rfl, rfl⟩)
            | (go_at_call 62; with_reducible refine CA.out.mono ?_; rintro e w2 ⟨rfl, rfl⟩)
            | (go_at_call 62; with_reducible refine CB.out.mono ?_; rintro e w2 ⟨rfl, rfl⟩)
            | (go_at_call 63; with_reducible refine CN.out.mono ?_; rintro e w2 ⟨rfl, rfl⟩)
            | fail)
          go_still_tail 16, (by kernel_rfl)
          change wpList _ _ _ _ _ w.drew
          have HD := keep (HR.out.fr (fr_drew (fr_refl w)))
          have HFD := keep (fr_drew (fr_refl w))
          have HSD := keep (HK.out.box.chg (.of_fr (fun _ => False) (fr_drew (fr_refl w))) id)
          clear c0 c1 c2 lX
          generalize w.drew = wd at *
          go_wp2_with (first
            | (refine wpList_store_frp (cf := fc) (l := t.fs) (j := i) (x := f) (y := { f with pins := f.pins + 1 }) (tt := 2) (ds := [.int .i64 (f.pins + 1)]) int_info16 rfl (.tmp 66) (.tmp 64) rfl rfl rfl rfl (.cons rfl .nil) HD.out (fc_wid _) HF.out (by simp) rfl ?_; intro W1 h1 h2; have H1 := keep (show Rw W1 _ _ _ _ _ _ ∧ Chg _ wd W1 from ⟨h1, h2⟩); have c0 : W1.cell? ⟨g, 0, none⟩ = some (.slice (some ⟨b, off, none⟩) h.n h.c) := by { rw [← HA.out]; have := (HSD.out.chg h2 (fun e => HB.out e)).cell 0; simpa using this }; clear h1 h2)
            | (refine wpList_store_frp (cf := fc) (l := t.fs.set i { f with pins := f.pins + 1 }) (j := i) (x := { f with pins := f.pins + 1 }) (y := pinned f) (tt := 3) (ds := [.bool true]) bool_info16 rfl (.tmp 73) (.const (.bool true)) rfl rfl rfl rfl (.cons rfl .nil) H1.out.1 (fc_wid _) (List.getElem?_set_self (List.getElem?_eq_some_iff.1 HF.out).1) (by simp) rfl ?_; intro W2 h1 h2; obtain ⟨e2, d2, e9⟩ := pin_two HK.out HA.out HFD.out H1.out.2 h2 h1; have D2 := keep d2; have E2 := keep e2; have c1 := d2.cells.2.1; have CL := keep (leave_at (c := h.d) tk d2.ln.has (Nat.le_refl _) Hm.out (by omega)); have E9 := keep e9; clear h1 h2 c0 e2 d2 e9)
            | (go_at_call 64; (with_reducible refine CL.out.mono ?_); rintro e w3 ⟨O, k7, b7, rfl, hz⟩; clear c1)
            | (refine wpList_store_chg stands_info rfl (.tmp 82) (.tmp 80) rfl g 1 rfl (ds := [.slice O k7 b7]) rfl rfl (.cons rfl .nil) (D2.out.box.chg (.of_fr (fun _ => False) hz.out.2) id) (by simp) (cs' := [.slice h.A h.n h.c, .slice O k7 b7, .slice h.L h.p h.e, .int .i64 t.hand]) rfl ?_; intro W4 h1 h2; obtain ⟨h4, d4, e4, f4⟩ := D2.out.line hz.out.1.row (.of_fr _ hz.out.2) (fun i hi => .inr (hz.out.1.new i hi)) h1 h2; obtain ⟨b4, off4, hA4, c0, hR4, hiz4⟩ := d4.row (i := i) (f := pinned f) (List.getElem?_set_self (List.getElem?_eq_some_iff.1 HF.out).1); obtain ⟨bb, oo, hA5, -, hc5⟩ := frame_cells d4.fs.has (Nat.le_refl _) (i := i) (f := pinned f) (List.getElem?_set_self (List.getElem?_eq_some_iff.1 HF.out).1); rw [hA4] at hA5; injection hA5 with hA5; injection hA5 with hA6 hA7; subst hA6 hA7; obtain ⟨lS, -⟩ := hc5 W4 (fr_refl W4); have lS2 : W4.cell? ⟨b4, off4 + i * 11, none⟩ = some (.int .i64 (f.st : Int)) := lS; have c2 := d4.cells.2.2.1; have D4 := keep d4; have E4 := keep (And.intro e4 f4); have HO4 := keep (d4.ld.fr (fr_new (fr_refl W4) (.cells (sc (tk, x)).toArray 103))); have hp4 := keep (show t.loads.length = h4.p from d4.nlen.2.2); have NG4 := keep d4.ng.2.2; clear h1 h2 d4 e4 f4 hA4 hR4 hc5 lS)
            | fail)
          go_ret
          refine ⟨rfl, keep ?_⟩
          exact .step D2.out E2.out (fun _ hk => .inl hk) ⟨h4, D4.out, E4.out.1, E4.out.2⟩
        · have e9 : pinD t tk x = (2, { t with fs := t.fs.set i (pinned f), line := leave t.line tk, loads := t.loads ++ [(tk, x)] }) := by
            unfold pinD
            rw [hT, hX, hbz, hfd]
            simp only [fr_of hfi, modify_set hfi, if_neg h2]
            rfl
          have hz2 : ((f.st : Int) == 2) = false := by simp; omega
          rw [e9]
          clear cN hfd e9 hpk hp1 hp2 hA hR hfi hc hbg h2 cB k hs hl hl2 hm hp hT hX hat hq hab hq2 hbz hpj hb1 hr2 hBB hpx
          go_enter Tryz.func25, Tryz.ntmps25
          go_wp2_with (first
            | (go_at_call 60; with_reducible refine CT.out.mono ?_; rintro e w2 ⟨rfl, rfl⟩)
            | (go_at_call 61; with_reducible refine CK0.out.mono ?_; rintro e w2 ⟨rfl, rfl⟩)
            | (go_at_call 62; with_reducible refine CA.out.mono ?_; rintro e w2 ⟨rfl, rfl⟩)
            | (go_at_call 62; with_reducible refine CB.out.mono ?_; rintro e w2 ⟨rfl, rfl⟩)
            | (go_at_call 63; with_reducible refine CN.out.mono ?_; rintro e w2 ⟨rfl, rfl⟩)
            | fail)
          go_still_tail 16, (by kernel_rfl)
          change wpList _ _ _ _ _ w.drew
          have HD := keep (HR.out.fr (fr_drew (fr_refl w)))
          have HFD := keep (fr_drew (fr_refl w))
          have HSD := keep (HK.out.box.chg (.of_fr (fun _ => False) (fr_drew (fr_refl w))) id)
          clear c0 c1 c2 lX
          generalize w.drew = wd at *
          go_wp2_with (first
            | (refine wpList_store_frp (cf := fc) (l := t.fs) (j := i) (x := f) (y := { f with pins := f.pins + 1 }) (tt := 2) (ds := [.int .i64 (f.pins + 1)]) int_info16 rfl (.tmp 66) (.tmp 64) rfl rfl rfl rfl (.cons rfl .nil) HD.out (fc_wid _) HF.out (by simp) rfl ?_; intro W1 h1 h2; have H1 := keep (show Rw W1 _ _ _ _ _ _ ∧ Chg _ wd W1 from ⟨h1, h2⟩); have c0 : W1.cell? ⟨g, 0, none⟩ = some (.slice (some ⟨b, off, none⟩) h.n h.c) := by { rw [← HA.out]; have := (HSD.out.chg h2 (fun e => HB.out e)).cell 0; simpa using this }; clear h1 h2)
            | (refine wpList_store_frp (cf := fc) (l := t.fs.set i { f with pins := f.pins + 1 }) (j := i) (x := { f with pins := f.pins + 1 }) (y := pinned f) (tt := 3) (ds := [.bool true]) bool_info16 rfl (.tmp 73) (.const (.bool true)) rfl rfl rfl rfl (.cons rfl .nil) H1.out.1 (fc_wid _) (List.getElem?_set_self (List.getElem?_eq_some_iff.1 HF.out).1) (by simp) rfl ?_; intro W2 h1 h2; obtain ⟨e2, d2, e9⟩ := pin_two HK.out HA.out HFD.out H1.out.2 h2 h1; have D2 := keep d2; have E2 := keep e2; have c1 := d2.cells.2.1; have CL := keep (leave_at (c := h.d) tk d2.ln.has (Nat.le_refl _) Hm.out (by omega)); have E9 := keep e9; clear h1 h2 c0 e2 d2 e9)
            | (go_at_call 64; (with_reducible refine CL.out.mono ?_); rintro e w3 ⟨O, k7, b7, rfl, hz⟩; clear c1)
            | (refine wpList_store_chg stands_info rfl (.tmp 82) (.tmp 80) rfl g 1 rfl (ds := [.slice O k7 b7]) rfl rfl (.cons rfl .nil) (D2.out.box.chg (.of_fr (fun _ => False) hz.out.2) id) (by simp) (cs' := [.slice h.A h.n h.c, .slice O k7 b7, .slice h.L h.p h.e, .int .i64 t.hand]) rfl ?_; intro W4 h1 h2; obtain ⟨h4, d4, e4, f4⟩ := D2.out.line hz.out.1.row (.of_fr _ hz.out.2) (fun i hi => .inr (hz.out.1.new i hi)) h1 h2; obtain ⟨b4, off4, hA4, c0, hR4, hiz4⟩ := d4.row (i := i) (f := pinned f) (List.getElem?_set_self (List.getElem?_eq_some_iff.1 HF.out).1); obtain ⟨bb, oo, hA5, -, hc5⟩ := frame_cells d4.fs.has (Nat.le_refl _) (i := i) (f := pinned f) (List.getElem?_set_self (List.getElem?_eq_some_iff.1 HF.out).1); rw [hA4] at hA5; injection hA5 with hA5; injection hA5 with hA6 hA7; subst hA6 hA7; obtain ⟨lS, -⟩ := hc5 W4 (fr_refl W4); have lS2 : W4.cell? ⟨b4, off4 + i * 11, none⟩ = some (.int .i64 (f.st : Int)) := lS; have c2 := d4.cells.2.2.1; have D4 := keep d4; have E4 := keep (And.intro e4 f4); have HO4 := keep (d4.ld.fr (fr_new (fr_refl W4) (.cells (sc (tk, x)).toArray 103))); have hp4 := keep (show t.loads.length = h4.p from d4.nlen.2.2); have NG4 := keep d4.ng.2.2; clear h1 h2 d4 e4 f4 hA4 hR4 hc5 lS)
            | (refine wpList_append_rw stand_elem stands_und (by decide) rfl (.tmp 96) (.tmp 100) rfl h4.L h4.p h4.e (rows sc t.loads) rfl HO4.out (W4.heap.size + 1) (some ⟨W4.heap.size, 0, none⟩) 1 1 (sc (tk, x)) rfl rfl (has_new W4 (sc (tk, x)) 103) (sc_one _) (by have := hp4.out; simp only [maxLen]; omega) (by have := hp4.out; omega) ?_; intro P p7 w5 h3 p3; have H5 := keep (show Rw w5 _ _ _ _ _ _ ∧ Put _ w5 _ _ from ⟨h3, p3⟩); have HB5 := keep ((D4.out.box.chg (.of_fr (fun _ => False) (fr_new (fr_refl W4) (.cells (sc (tk, x)).toArray 103))) id).chg p3.chg NG4.out); clear h3 p3)
            | (refine wpList_store_chg stands_info rfl (.tmp 103) (.tmp 101) rfl g 2 rfl (ds := [.slice P (h4.p + 1) p7]) rfl rfl (.cons rfl .nil) HB5.out (by simp) (cs' := [.slice h4.A h4.n h4.c, .slice h4.B h4.m h4.d, .slice P (h4.p + 1) p7, .int .i64 t.hand]) rfl ?_; intro W6 h1 h2; have H6 := keep (show Arr W6 _ _ _ ∧ Chg _ w5 W6 from ⟨h1, h2⟩); clear h1 h2)
            | fail)
          go_ret
          refine ⟨rfl, keep ?_⟩
          obtain ⟨h3, p3⟩ := H5.out
          obtain ⟨h1, h2⟩ := H6.out
          refine .step D2.out E2.out (fun _ hk => .inl hk) (.step D4.out E4.out.1 E4.out.2 ?_)
          refine D4.out.loads (by rw [rows_append, rows_single]; exact h3) ((Chg.of_fr _ (fr_new (fr_refl W4) _)).trans p3.chg) (fun i hi => ?_) h1 h2
          rcases p3.blk i hi with e | e
          · exact .inl e
          · exact .inr (by simp at e; omega)
    · have hxx : (p.2 != x) = true := by simp [hpx]
      have e9 : pinD t tk x = (0, t) := by unfold pinD busy; rw [hT, hX, hq, hq2]; simp [hpx]
      rw [e9]
      clear cB k hs hl hl2 hm hp hT hX hat hq hab hq2 hpj hb1 hr2 hBB hpx e9
      go_enter Tryz.func25, Tryz.ntmps25
      go_wp2_with (first
        | (go_at_call 60; with_reducible refine CT.out.mono ?_; rintro e w2 ⟨rfl, rfl⟩)
        | (go_at_call 61; with_reducible refine CK0.out.mono ?_; rintro e w2 ⟨rfl, rfl⟩)
        | (go_at_call 62; with_reducible refine CA.out.mono ?_; rintro e w2 ⟨rfl, rfl⟩)
        | (go_at_call 62; with_reducible refine CB.out.mono ?_; rintro e w2 ⟨rfl, rfl⟩)
        | fail)
      go_ret
      exact ⟨rfl, keep (.same HK.out (fr_refl w) fun _ => id)⟩
end
end Go.Proofs.YtmoaddbpfekdbaaGreat
