/- The program's cache: join. -/
import Derived.Test.YtmoaddbpfekdbaaGreatM37
import Derived.Test.YtmoaddbpfekdbaaGreatM32
namespace Go.Proofs.YtmoaddbpfekdbaaGreat
set_option linter.unusedVariables false
set_option linter.unusedSimpArgs false
set_option linter.unusedSectionVars false
set_option maxRecDepth 100000
open Go.RowKit
attribute [local go_sem ↓] want_ld pfr_ld
section
variable {V : Type} [NVal V]
/-- Two stores into one frame. -/
theorem join_two {w W1 W2 : World} {g K b off i : Nat} {h : PH} {t : Ca V} {f f1 : Fra V} (k : PC w g h K t) (hA : h.A = some ⟨b, off, none⟩) (hf : t.fs[i]? = some f) (h1 : Chg (· = b) w W1) (h2 : Chg (· = b) W1 W2) (hr : Rw W2 52 14 (some ⟨b, off, none⟩) h.n h.c (rows pc ((t.fs.set i f1).set i (pinned f)))) :
    PC W2 g h K { t with fs := t.fs.modify i pinned } ∧ Chg (At h.A) w W2 := by
  rw [List.set_set] at hr
  have hch : Chg (At h.A) w W2 := (h1.trans h2).weak fun j _ hj => by rw [hA]; exact congrArg some hj.symm
  rw [modify_set hf]
  exact ⟨k.frames (by rw [hA]; exact hr) hch fun c => find_set_other hf rfl, hch⟩
set_option maxHeartbeats 16000000 in
theorem pjoin_at {w : World} {g K b off i : Nat} {h : PH} {t : Ca V} {f : Fra V} (y : Int × Int) (k : PC w g h K t) (hA : h.A = some ⟨b, off, none⟩) (hf : t.fs[i]? = some f) (hp : 0 ≤ f.pins ∧ f.pins ≤ 4611686018427387904) (hl : t.line.length ≤ 100000) (hl2 : t.loads.length ≤ 100000) :
    Calls Tryz.prog 53 #[.pointer (some ⟨g, 0, none⟩), .pointer (some ⟨b, off + i * 14, none⟩), sv y] w fun e w' => (f.st = 2 → e = .returned (.int .i64 1) ∧ Hid (PTurn w w' (PHX g h) g K { t with fs := t.fs.modify i pinned, line := leave t.line y.1 })) ∧ (¬ f.st = 2 → e = .returned (.int .i64 2) ∧ Hid (PTurn w w' (PHX g h) g K { t with fs := t.fs.modify i pinned, line := leave t.line y.1, loads := t.loads ++ [y] })) := by
  obtain ⟨Z, hZ, hF, hX, hS⟩ := sc_box w y
  have kZ := k.fr hF
  obtain ⟨-, -, hm⟩ := k.nlen
  obtain ⟨b', off', hA', hb1, hc, -⟩ := pframe_cells kZ.fs.has (Nat.le_refl _) hf
  have e5 := hA'.symm.trans hA
  injection e5 with e5
  injection e5 with e6 e7
  subst e6 e7
  obtain ⟨-, -, lX, -⟩ := hc Z (fr_refl Z)
  have hR := kZ.fs
  rw [hA] at hR
  have wp : IntKind.i64.wrap (f.pins + 1) = f.pins + 1 := by rw [IntKind.wrap_i64]; omega
  have HR := keep hR
  have HF := keep hf
  have HA := keep hA
  have HK := keep kZ
  have HX := keep hX
  have HL := keep hl
  have HZ := keep hF
  have HNX : Hid (¬ At h.A w.heap.size) := keep (fun e => by have := k.fs.lt _ e; omega)
  have HNP : Hid (¬ PHX g h w.heap.size) := keep (fun e => by have := k.lt _ e; omega)
  have HFJ : Hid ((t.fs.modify i pinned)[i]? = some (pinned f)) := keep (by rw [modify_set hf]; exact List.getElem?_set_self (List.getElem?_eq_some_iff.1 hf).1)
  have hlm : h.ln ≤ 100000 := by omega
  clear hR hf hA hX hF hc hA' hb1 k kZ hp hl hl2 hm
  unfold sv
  by_cases hst : f.st = 2
  · have hz : (((pinned f).st : Int) == 2) = true := by show ((f.st : Int) == 2) = true; simp; omega
    go_enter Tryz.func53, Tryz.ntmps53
    go_wp2_with (first
    | (refine wpList_store_frp (cf := pc) (l := t.fs) (j := i) (x := f) (y := { f with pins := f.pins + 1 }) (tt := 2) (ds := [.int .i64 (f.pins + 1)]) int_info16 rfl (.tmp 15) (.tmp 12) rfl rfl rfl rfl (.cons rfl .nil) HR.out (pc_wid _) HF.out (by simp) rfl ?_; intro W1 h1 h2; have H1 := keep (show Rw W1 _ _ _ _ _ _ ∧ Chg _ Z W1 from ⟨h1, h2⟩); clear h1 h2)
    | (refine wpList_store_frp (cf := pc) (l := t.fs.set i { f with pins := f.pins + 1 }) (j := i) (x := { f with pins := f.pins + 1 }) (y := pinned f) (tt := 3) (ds := [.bool true]) bool_info16 rfl (.tmp 19) (.const (.bool true)) rfl rfl rfl rfl (.cons rfl .nil) H1.out.1 (pc_wid _) (List.getElem?_set_self (List.getElem?_eq_some_iff.1 HF.out).1) (by simp) rfl ?_; intro W2 h1 h2; have H2 := keep (show Rw W2 _ _ _ _ _ _ ∧ Chg _ W1 W2 from ⟨h1, h2⟩); have KW := keep (join_two HK.out HA.out HF.out H1.out.2 H2.out.2 H2.out.1); have d0 : W2.cell? ⟨w.heap.size, 0, none⟩ = some (.int .i64 y.1) := by { have := (HX.out.chg KW.out.2 HNX.out).cell 0; simpa [sc] using this }; clear h1 h2)
    | (go_at_call 76; (with_reducible refine (pleave_raw y.1 KW.out.1 HL.out).mono ?_); rintro e W3 ⟨rfl, H3⟩; obtain ⟨n', h3, c3⟩ := H3.out; obtain ⟨b2, off2, e1, -, e3, -⟩ := pframe_cells h3.fs.has (Nat.le_refl _) HFJ.out; obtain ⟨e4, -⟩ := e3 W3 (fr_refl _); have e5 := e1.symm.trans HA.out; injection e5 with e5; injection e5 with e6 e7; subst e6 e7; have K3 := keep h3; have C3 := keep c3; clear h3 c3 e3 e1 H3)
    | fail)
    go_ret
    refine ⟨fun _ => ⟨rfl, keep ?_⟩, fun n => absurd hst n⟩
    refine PTurn.fr ?_ HZ.out
    refine PTurn.step K3.out ((KW.out.2.weak fun j _ hj => .inr (.inl hj)).trans (C3.out.weak fun j _ hj => by rcases hj with hj | hj; exact .inl hj; exact .inr (.inr (.inr (.inl hj))))) (fun j hj => .inl hj) (.same K3.out (fr_refl _) fun _ => id)
  · have hz : (((pinned f).st : Int) == 2) = false := by show ((f.st : Int) == 2) = false; simp; omega
    go_enter Tryz.func53, Tryz.ntmps53
    go_wp2_with (first
    | (refine wpList_store_frp (cf := pc) (l := t.fs) (j := i) (x := f) (y := { f with pins := f.pins + 1 }) (tt := 2) (ds := [.int .i64 (f.pins + 1)]) int_info16 rfl (.tmp 15) (.tmp 12) rfl rfl rfl rfl (.cons rfl .nil) HR.out (pc_wid _) HF.out (by simp) rfl ?_; intro W1 h1 h2; have H1 := keep (show Rw W1 _ _ _ _ _ _ ∧ Chg _ Z W1 from ⟨h1, h2⟩); clear h1 h2)
    | (refine wpList_store_frp (cf := pc) (l := t.fs.set i { f with pins := f.pins + 1 }) (j := i) (x := { f with pins := f.pins + 1 }) (y := pinned f) (tt := 3) (ds := [.bool true]) bool_info16 rfl (.tmp 19) (.const (.bool true)) rfl rfl rfl rfl (.cons rfl .nil) H1.out.1 (pc_wid _) (List.getElem?_set_self (List.getElem?_eq_some_iff.1 HF.out).1) (by simp) rfl ?_; intro W2 h1 h2; have H2 := keep (show Rw W2 _ _ _ _ _ _ ∧ Chg _ W1 W2 from ⟨h1, h2⟩); have KW := keep (join_two HK.out HA.out HF.out H1.out.2 H2.out.2 H2.out.1); have d0 : W2.cell? ⟨w.heap.size, 0, none⟩ = some (.int .i64 y.1) := by { have := (HX.out.chg KW.out.2 HNX.out).cell 0; simpa [sc] using this }; clear h1 h2)
    | (go_at_call 76; (with_reducible refine (pleave_raw y.1 KW.out.1 HL.out).mono ?_); rintro e W3 ⟨rfl, H3⟩; obtain ⟨n', h3, c3⟩ := H3.out; obtain ⟨b2, off2, e1, -, e3, -⟩ := pframe_cells h3.fs.has (Nat.le_refl _) HFJ.out; obtain ⟨e4, -⟩ := e3 W3 (fr_refl _); have e5 := e1.symm.trans HA.out; injection e5 with e5; injection e5 with e6 e7; subst e6 e7; have K3 := keep h3; have C3 := keep c3; clear h3 c3 e3 e1 H3)
    | fail)
    have kW := K3.out
    have bx := (HX.out.chg KW.out.2 HNX.out).chg C3.out (fun e => HNP.out (by rcases e with e | e; exact .inl e; exact .inr (.inr (.inr (.inl e)))))
    have fd : Fr W3 W3.drew := fr_drew (fr_refl _)
    obtain ⟨w7, hw7⟩ : ∃ w7, W3.drew.alloc (.cells (sc y).toArray 93) = w7 := ⟨_, rfl⟩
    have fb : Fr W3 w7 := by rw [← hw7]; exact fr_new fd _
    have HN7 := keep (show Has w7 (W3.heap.size + 1) (some ⟨W3.heap.size, 0, none⟩) (sc y) by rw [← hw7]; exact has_new W3.drew (sc y) 93)
    have HRB := keep (kW.ld.fr fb)
    have HBX := keep kW.box
    have sd : Arr W3.drew w.heap.size 93 (sc y).toArray := bx.drew
    have sb : Arr w7 w.heap.size 93 (sc y).toArray := bx.below fb bx.lt
    have cX : ∀ U, Fr W3 U → U.cell? ⟨g, 3, none⟩ = some (.slice h.L h.ln h.lc) := fun U fU => (fU.cell kW.box.lt).trans kW.cells.2.2.2.1
    have lB := fun U (fU : Arr U w.heap.size 93 (sc y).toArray) => want_ty.ld (cs := sc y) rfl fU
    have HNB : Hid (¬ At h.L w.heap.size) := keep (fun e => HNP.out (.inr (.inr (.inr (.inr e)))))
    have HNG : Hid (¬ At h.L g) := keep kW.ng.2.2.1
    have HGB : Hid (w.heap.size ≠ g) := keep (fun e => HNP.out (.inl e))
    clear kW bx
    refine wp_region_noPanic ?_
    refine wp_region_held_drew (S := fun W => Arr W w.heap.size 93 (sc y).toArray) (by kernel_rfl) sd (fun hHeld => ?_)
    change wpAnyH _ _ _ _ _ _ _ _ _
    refine wpAnyH_take (i := 0) (v := ?_) rfl (by kernel_rfl) (by kernel_rfl) (by kernel_rfl) (fun _ _ _ h => h) (Or.inl ⟨by rfl, ?_⟩) (by assumption) ?_
    rotate_left
    · intro w' hSw
      try dsimp only at hSw
      go_simp
      try with_reducible rfl
    try simp only [List.getElem_toArray, List.getElem_cons_zero, Act.put, List.setIfInBounds_toArray, List.set_cons_zero, List.set_cons_succ]
    refine wpAnyH_take (i := 1) (v := ?_) rfl (by kernel_rfl) (by kernel_rfl) (by kernel_rfl) (fun _ _ _ h => h) (Or.inl ⟨by rfl, ?_⟩) (by assumption) ?_
    rotate_left
    · intro w' hSw
      try dsimp only at hSw
      go_simp
      try with_reducible rfl
    try simp only [List.getElem_toArray, List.getElem_cons_succ, List.getElem_cons_zero, Act.put, List.setIfInBounds_toArray, List.set_cons_zero, List.set_cons_succ]
    refine wpAnyH_take (i := 2) (v := ?_) rfl (by kernel_rfl) (by kernel_rfl) (by kernel_rfl) (fun _ _ _ h => h) (Or.inl ⟨by rfl, ?_⟩) (by assumption) ?_
    rotate_left
    · intro w' hSw
      try dsimp only at hSw
      go_simp
      try with_reducible rfl
    try simp only [List.getElem_toArray, List.getElem_cons_succ, List.getElem_cons_zero, Act.put, List.setIfInBounds_toArray, List.set_cons_zero, List.set_cons_succ]
    refine wpAnyH_take (i := 3) (v := ?_) rfl (by kernel_rfl) (by kernel_rfl) (by kernel_rfl) (fun _ _ _ h => h) (Or.inl ⟨by rfl, ?_⟩) (by assumption) ?_
    rotate_left
    · intro w' hSw
      try dsimp only at hSw
      go_simp
      try with_reducible rfl
    try simp only [List.getElem_toArray, List.getElem_cons_succ, List.getElem_cons_zero, Act.put, List.setIfInBounds_toArray, List.set_cons_zero, List.set_cons_succ]
    refine wpAnyH_take (i := 5) (v := ?_) rfl (by kernel_rfl) (by kernel_rfl) (by kernel_rfl) (fun _ _ _ h => h) (Or.inl ⟨by rfl, ?_⟩) (by assumption) ?_
    rotate_left
    · intro w' hSw
      try dsimp only at hSw
      go_simp
      try with_reducible rfl
    try simp only [List.getElem_toArray, List.getElem_cons_succ, List.getElem_cons_zero, Act.put, List.setIfInBounds_toArray, List.set_cons_zero, List.set_cons_succ]
    refine wpAnyH_ready (rs := [4, 6]) (by kernel_rfl) (by simp) ?_
    refine AllReadyH.cons rfl (fun K hK0 => ?_) (AllReadyH.cons rfl (fun K hK0 => ?_) (AllReadyH.nil))
    · have fx := fd
      go_simp
      refine hK0.out _ _ sd (fun _ => ?_)
      clear fx
      clear hK0 K
      try simp only [List.getElem_toArray, List.getElem_cons_succ, List.getElem_cons_zero, Act.put, List.setIfInBounds_toArray, List.set_cons_zero, List.set_cons_succ]
      refine wpAnyH_ready (rs := [6]) (by kernel_rfl) (by simp) ?_
      refine AllReadyH.cons rfl (fun K hK0 => ?_) AllReadyH.nil
      go_simp
      change K _ (W3.drew.alloc (.cells (sc y).toArray 93))
      rw [hw7]
      refine hK0.out _ _ sb (fun _ => ?_)
      clear hK0 K
      try simp only [List.getElem_toArray, List.getElem_cons_succ, List.getElem_cons_zero, Act.put, List.setIfInBounds_toArray, List.set_cons_zero, List.set_cons_succ]
      refine wpAnyH_ready (rs := [7]) (by kernel_rfl) (by simp) ?_
      refine AllReadyH.cons rfl (fun K hK0 => ?_) AllReadyH.nil
      refine step_append_rw want_elem wants_und (by decide) (wanted_plain16 rfl _) (.tmp 34) (.tmp 36) rfl h.L h.ln h.lc (rows sc t.loads) rfl HRB.out (W3.heap.size + 1) (some ⟨W3.heap.size, 0, none⟩) 1 1 (sc y) rfl rfl HN7.out (sc_one _) (by simp only [maxLen]; omega) (by omega) ?_
      intro O k7 w8 h8 p8
      have s8 := sb.chg p8.chg HNB.out
      have e8 := (HBX.out.chg (.of_fr (fun _ => False) fb) id).chg p8.chg HNG.out
      have H8 := keep (show Rw w8 _ _ _ _ _ _ ∧ Put _ w8 _ _ from ⟨h8, p8⟩)
      clear h8 p8
      refine hK0.out _ _ s8 (fun _ => ?_)
      clear hK0 K
      try simp only [List.getElem_toArray, List.getElem_cons_succ, List.getElem_cons_zero, Act.put, List.setIfInBounds_toArray, List.set_cons_zero, List.set_cons_succ]
      refine wpAnyH_take (i := 8) (v := ?_) rfl (by kernel_rfl) (by kernel_rfl) (by kernel_rfl) (fun _ _ _ h => h) (Or.inl ⟨by rfl, ?_⟩) (by assumption) ?_
      rotate_left
      · intro w' hSw
        try dsimp only at hSw
        go_simp
        try with_reducible rfl
      try simp only [List.getElem_toArray, List.getElem_cons_succ, List.getElem_cons_zero, Act.put, List.setIfInBounds_toArray, List.set_cons_zero, List.set_cons_succ]
      refine wpAnyH_take (i := 9) (v := ?_) rfl (by kernel_rfl) (by kernel_rfl) (by kernel_rfl) (fun _ _ _ h => h) (Or.inl ⟨by rfl, ?_⟩) (by assumption) ?_
      rotate_left
      · intro w' hSw
        try dsimp only at hSw
        go_simp
        try with_reducible rfl
      try simp only [List.getElem_toArray, List.getElem_cons_succ, List.getElem_cons_zero, Act.put, List.setIfInBounds_toArray, List.set_cons_zero, List.set_cons_succ]
      refine wpAnyH_ready (rs := [10]) (by kernel_rfl) (by simp) ?_
      refine AllReadyH.cons rfl (fun K hK0 => ?_) AllReadyH.nil
      refine step_store_chg wants_info (wanted_plain16 rfl _) (.tmp 39) (.tmp 37) rfl g 3 rfl (ds := [.slice O (h.ln + 1) k7]) rfl rfl (.cons rfl .nil) e8 (by simp [PH.cells]) (cs' := PH.cells { h with bn := n', L := O, ln := h.ln + 1, lc := k7 } t.hand) rfl ?_
      intro w9 h9 c9
      have H9 := keep (show Arr w9 _ _ _ ∧ Chg _ w8 w9 from ⟨h9, c9⟩)
      have s9 := s8.chg c9 HGB.out
      clear h9 c9
      refine hK0.out _ _ s9 (fun _ => ?_)
      clear hK0 K
      try simp only [List.getElem_toArray, List.getElem_cons_succ, List.getElem_cons_zero, Act.put, List.setIfInBounds_toArray, List.set_cons_zero, List.set_cons_succ]
      refine wpAnyH_done (by kernel_rfl) ?_ _
      refine NoPanic.normal ?_
      go_wp2_with fail
      go_ret
      refine ⟨rfl, keep ?_⟩
      obtain ⟨h8, p8⟩ := H8.out
      obtain ⟨h9, c9⟩ := H9.out
      refine PTurn.fr ?_ HZ.out
      refine PTurn.step K3.out ((KW.out.2.weak fun j _ hj => .inr (.inl hj)).trans (C3.out.weak fun j _ hj => by rcases hj with hj | hj; exact .inl hj; exact .inr (.inr (.inr (.inl hj))))) (fun j hj => .inl hj) (K3.out.loads (by rw [rows_append, rows_single]; exact h8) ((Chg.of_fr _ fb).trans p8.chg) (fun i hi => ?_) h9 c9)
      rcases p8.blk i hi with e | e
      · exact .inl e
      · exact .inr (by have := fb.size; omega)
    · go_simp
      change K _ (W3.drew.alloc (.cells (sc y).toArray 93))
      rw [hw7]
      refine hK0.out _ _ sb (fun _ => ?_)
      clear hK0 K
      try simp only [List.getElem_toArray, List.getElem_cons_succ, List.getElem_cons_zero, Act.put, List.setIfInBounds_toArray, List.set_cons_zero, List.set_cons_succ]
      refine wpAnyH_ready (rs := [4]) (by kernel_rfl) (by simp) ?_
      refine AllReadyH.cons rfl (fun K hK0 => ?_) AllReadyH.nil
      have fx := fb
      go_simp
      refine hK0.out _ _ sb (fun _ => ?_)
      clear fx
      clear hK0 K
      try simp only [List.getElem_toArray, List.getElem_cons_succ, List.getElem_cons_zero, Act.put, List.setIfInBounds_toArray, List.set_cons_zero, List.set_cons_succ]
      refine wpAnyH_ready (rs := [7]) (by kernel_rfl) (by simp) ?_
      refine AllReadyH.cons rfl (fun K hK0 => ?_) AllReadyH.nil
      refine step_append_rw want_elem wants_und (by decide) (wanted_plain16 rfl _) (.tmp 34) (.tmp 36) rfl h.L h.ln h.lc (rows sc t.loads) rfl HRB.out (W3.heap.size + 1) (some ⟨W3.heap.size, 0, none⟩) 1 1 (sc y) rfl rfl HN7.out (sc_one _) (by simp only [maxLen]; omega) (by omega) ?_
      intro O k7 w8 h8 p8
      have s8 := sb.chg p8.chg HNB.out
      have e8 := (HBX.out.chg (.of_fr (fun _ => False) fb) id).chg p8.chg HNG.out
      have H8 := keep (show Rw w8 _ _ _ _ _ _ ∧ Put _ w8 _ _ from ⟨h8, p8⟩)
      clear h8 p8
      refine hK0.out _ _ s8 (fun _ => ?_)
      clear hK0 K
      try simp only [List.getElem_toArray, List.getElem_cons_succ, List.getElem_cons_zero, Act.put, List.setIfInBounds_toArray, List.set_cons_zero, List.set_cons_succ]
      refine wpAnyH_take (i := 8) (v := ?_) rfl (by kernel_rfl) (by kernel_rfl) (by kernel_rfl) (fun _ _ _ h => h) (Or.inl ⟨by rfl, ?_⟩) (by assumption) ?_
      rotate_left
      · intro w' hSw
        try dsimp only at hSw
        go_simp
        try with_reducible rfl
      try simp only [List.getElem_toArray, List.getElem_cons_succ, List.getElem_cons_zero, Act.put, List.setIfInBounds_toArray, List.set_cons_zero, List.set_cons_succ]
      refine wpAnyH_take (i := 9) (v := ?_) rfl (by kernel_rfl) (by kernel_rfl) (by kernel_rfl) (fun _ _ _ h => h) (Or.inl ⟨by rfl, ?_⟩) (by assumption) ?_
      rotate_left
      · intro w' hSw
        try dsimp only at hSw
        go_simp
        try with_reducible rfl
      try simp only [List.getElem_toArray, List.getElem_cons_succ, List.getElem_cons_zero, Act.put, List.setIfInBounds_toArray, List.set_cons_zero, List.set_cons_succ]
      refine wpAnyH_ready (rs := [10]) (by kernel_rfl) (by simp) ?_
      refine AllReadyH.cons rfl (fun K hK0 => ?_) AllReadyH.nil
      refine step_store_chg wants_info (wanted_plain16 rfl _) (.tmp 39) (.tmp 37) rfl g 3 rfl (ds := [.slice O (h.ln + 1) k7]) rfl rfl (.cons rfl .nil) e8 (by simp [PH.cells]) (cs' := PH.cells { h with bn := n', L := O, ln := h.ln + 1, lc := k7 } t.hand) rfl ?_
      intro w9 h9 c9
      have H9 := keep (show Arr w9 _ _ _ ∧ Chg _ w8 w9 from ⟨h9, c9⟩)
      have s9 := s8.chg c9 HGB.out
      clear h9 c9
      refine hK0.out _ _ s9 (fun _ => ?_)
      clear hK0 K
      try simp only [List.getElem_toArray, List.getElem_cons_succ, List.getElem_cons_zero, Act.put, List.setIfInBounds_toArray, List.set_cons_zero, List.set_cons_succ]
      refine wpAnyH_done (by kernel_rfl) ?_ _
      refine NoPanic.normal ?_
      go_wp2_with fail
      go_ret
      refine ⟨rfl, keep ?_⟩
      obtain ⟨h8, p8⟩ := H8.out
      obtain ⟨h9, c9⟩ := H9.out
      refine PTurn.fr ?_ HZ.out
      refine PTurn.step K3.out ((KW.out.2.weak fun j _ hj => .inr (.inl hj)).trans (C3.out.weak fun j _ hj => by rcases hj with hj | hj; exact .inl hj; exact .inr (.inr (.inr (.inl hj))))) (fun j hj => .inl hj) (K3.out.loads (by rw [rows_append, rows_single]; exact h8) ((Chg.of_fr _ fb).trans p8.chg) (fun i hi => ?_) h9 c9)
      rcases p8.blk i hi with e | e
      · exact .inl e
      · exact .inr (by have := fb.size; omega)
end
end Go.Proofs.YtmoaddbpfekdbaaGreat
/- The program's cache: Claim. -/
namespace Go.Proofs.YtmoaddbpfekdbaaGreat
set_option linter.unusedVariables false
set_option linter.unusedSimpArgs false
set_option linter.unusedSectionVars false
set_option maxRecDepth 100000
open Go.RowKit
attribute [local go_sem ↓] want_ld pfr_ld
section
variable {V : Type} [NVal V]
theorem m1_64 : W64 (-1) := ⟨by decide, by decide⟩
theorem free_ix {l : List (Fra V)} {i : Nat} (h : freeI l = some i) : ∃ f, l[i]? = some f ∧ f.st = 0 := by
  obtain ⟨f, h1, h2⟩ := idx_at h
  exact ⟨f, h1, by simpa using h2⟩
theorem take_free {c : Ca V} {t : Int} {i : Nat} (h : takeI c t = some i) : freeI c.fs = some i := by
  unfold takeI at h
  split at h
  · exact h
  · cases h
set_option maxHeartbeats 8000000 in
theorem pclaim_at {w : World} {g K : Nat} {h : PH} {t : Ca V} (x : Int) (k : PC w g h K t) (p : PI t) (hs : t.fs.length ≤ 100000) (hl : t.line.length ≤ 100000) (hl2 : t.loads.length ≤ 100000) :
    Calls Tryz.prog 16 #[.pointer (some ⟨g, 0, none⟩), .int .i64 x] w fun e w' => e = .returned (.bool (claimC t x).1) ∧ Hid (PTurn w w' (PHX g h) g K (claimC t x).2) := by
  have HK := keep k
  have cT := isTask_at (x := x)
  unfold claimC
  cases hT : okT x with
  | false =>
    rw [hT] at cT
    simp only [Bool.false_and, Bool.false_eq_true, if_false]
    clear k hs hl hl2 hT p
    go_enter Tryz.func16, Tryz.ntmps16
    go_wp2_with (first | (refine wpList_store_at (ds := sc (x, -1)) want_info rfl (.tmp 5) (.tmp 8) rfl w.heap.size 0 rfl rfl rfl (sc_one _) (zsc_new w) (Nat.le_refl 2) (splice_all _ _ (Nat.le_refl 2)) ?_; intro W5 hM5 hk5; have hF5 := keep (hk5.fr (fr_new (fr_refl w) _) (Nat.le_refl _)); clear hk5; have lM := fun U (h : Fr W5 U) => want_ty.ld (cs := sc (x, -1)) rfl (hM5.below h hM5.lt); have h55 := fr_refl W5; clear hM5) | (go_at_call 50; (with_reducible refine (cT _).mono ?_); rintro e w2 ⟨rfl, rfl⟩) | fail)
    go_ret
    exact ⟨rfl, keep (.same HK.out hF5.out fun _ => id)⟩
  | true =>
    rw [hT] at cT
    have hy : WOk (x, -1) := ⟨tk_64 hT, m1_64⟩
    have cA : ∀ W, Fr w W → Calls Tryz.prog 52 #[.pointer (some ⟨g, 0, none⟩), .agg (sc (x, -1)).toArray] W fun e w' => e = .returned (.bool (unasked t x)) ∧ Fr W w' := fun W f => by
      rw [ask_claim p]
      exact asks_at (x, -1) hy p.wok (k.fr f) hl hl2
    cases hU : unasked t x with
    | false =>
      rw [hU] at cA
      simp only [Bool.and_false, Bool.false_eq_true, if_false]
      clear k hs hl hl2 hT p hU
      go_enter Tryz.func16, Tryz.ntmps16
      go_wp2_with (first | (refine wpList_store_at (ds := sc (x, -1)) want_info rfl (.tmp 5) (.tmp 8) rfl w.heap.size 0 rfl rfl rfl (sc_one _) (zsc_new w) (Nat.le_refl 2) (splice_all _ _ (Nat.le_refl 2)) ?_; intro W5 hM5 hk5; have hF5 := keep (hk5.fr (fr_new (fr_refl w) _) (Nat.le_refl _)); clear hk5; have lM := fun U (h : Fr W5 U) => want_ty.ld (cs := sc (x, -1)) rfl (hM5.below h hM5.lt); have h55 := fr_refl W5; clear hM5) | (go_at_call 50; (with_reducible refine (cT _).mono ?_); rintro e w2 ⟨rfl, rfl⟩) | (go_at_call 52; (with_reducible refine (cA _ hF5.out).mono ?_); rintro e W6 ⟨rfl, f6⟩; have hF6 := keep (fr_step hF5.out f6); have l6 := lM _ f6) | fail)
      go_ret
      exact ⟨rfl, keep (.same HK.out hF6.out fun _ => id)⟩
    | true =>
      have nb : busy t x (-1) = false := by
        rw [ask_claim p] at hU
        simpa using hU
      rw [hU] at cA
      simp only [Bool.and_self, if_true]
      cases ht : takeI t x with
      | none =>
        have cO : ∀ W, Fr w W → Calls Tryz.prog 54 #[.pointer (some ⟨g, 0, none⟩), .agg (sc (x, -1)).toArray] W fun e w' => e = .returned (.int .i64 (-1)) ∧ Hid (PTurn W w' (PHX g h) g K { t with line := queue t.line x (-1) }) := fun W f => pobtain_no (x, -1) hy p.wok nb (k.fr f) hs hl ht
        have hz : ((-1 : Int) == -1) = true := rfl
        clear k hs hl hl2 hT p hU nb ht
        go_enter Tryz.func16, Tryz.ntmps16
        go_wp2_with (first | (refine wpList_store_at (ds := sc (x, -1)) want_info rfl (.tmp 5) (.tmp 8) rfl w.heap.size 0 rfl rfl rfl (sc_one _) (zsc_new w) (Nat.le_refl 2) (splice_all _ _ (Nat.le_refl 2)) ?_; intro W5 hM5 hk5; have hF5 := keep (hk5.fr (fr_new (fr_refl w) _) (Nat.le_refl _)); clear hk5; have lM := fun U (h : Fr W5 U) => want_ty.ld (cs := sc (x, -1)) rfl (hM5.below h hM5.lt); have h55 := fr_refl W5; clear hM5) | (go_at_call 50; (with_reducible refine (cT _).mono ?_); rintro e w2 ⟨rfl, rfl⟩) | (go_at_call 52; (with_reducible refine (cA _ hF5.out).mono ?_); rintro e W6 ⟨rfl, f6⟩; have hF6 := keep (fr_step hF5.out f6); have l6 := lM _ f6) | (go_at_call 54; (with_reducible refine (cO _ hF6.out).mono ?_); rintro e W7 ⟨rfl, H7⟩) | fail)
        go_ret
        exact ⟨rfl, keep (H7.out.fr hF6.out)⟩
      | some i =>
        have cO : ∀ W, Fr w W → Calls Tryz.prog 54 #[.pointer (some ⟨g, 0, none⟩), .agg (sc (x, -1)).toArray] W fun e w' => e = .returned (.int .i64 (i : Int)) ∧ Hid (PTurn W w' (PHX g h) g K { t with line := leave t.line x }) := fun W f => pobtain_yes (x, -1) hy p.wok nb (k.fr f) hs hl ht
        have hz : ((i : Int) == -1) = false := by first | (simp; omega) | simp
        obtain ⟨fo, hfo, hf0⟩ := free_ix (take_free ht)
        have HFI := keep (show t.fs[i]? = some fo ∧ fo.st = 0 from ⟨hfo, hf0⟩)
        clear k hs hl hl2 hT p hU nb ht hfo hf0
        go_enter Tryz.func16, Tryz.ntmps16
        go_wp2_with (first | (refine wpList_store_at (ds := sc (x, -1)) want_info rfl (.tmp 5) (.tmp 8) rfl w.heap.size 0 rfl rfl rfl (sc_one _) (zsc_new w) (Nat.le_refl 2) (splice_all _ _ (Nat.le_refl 2)) ?_; intro W5 hM5 hk5; have hF5 := keep (hk5.fr (fr_new (fr_refl w) _) (Nat.le_refl _)); clear hk5; have lM := fun U (h : Fr W5 U) => want_ty.ld (cs := sc (x, -1)) rfl (hM5.below h hM5.lt); have h55 := fr_refl W5; clear hM5) | (go_at_call 50; (with_reducible refine (cT _).mono ?_); rintro e w2 ⟨rfl, rfl⟩) | (go_at_call 52; (with_reducible refine (cA _ hF5.out).mono ?_); rintro e W6 ⟨rfl, f6⟩; have hF6 := keep (fr_step hF5.out f6); have l6 := lM _ f6) | (go_at_call 54; (with_reducible refine (cO _ hF6.out).mono ?_); rintro e W7 ⟨rfl, H7⟩) | fail)
        obtain ⟨h2, k2, k3, k4⟩ := H7.out
        obtain ⟨b, off, hA, -, -, -⟩ := pframe_cells k2.fs.has (Nat.le_refl _) HFI.out.1
        have hR := k2.fs
        rw [hA] at hR
        have HRW := keep hR
        have HAW := keep hA
        have HGA : Hid (g ≠ b) := keep (fun e => k2.ng.1 (by rw [hA, e]; rfl))
        have hln := k2.nlen.1
        have HLN := keep (show t.fs.length = h2.n from hln)
        have hix : i < h2.n := by rw [← HLN.out]; exact (List.getElem?_eq_some_iff.1 HFI.out.1).1
        have HIX := keep hix
        have hiz : (i : Int) < (h2.n : Int) := by omega
        obtain ⟨CV, hCV⟩ : ∃ CV, CV = Value.slice (some ⟨b, off, none⟩) h2.n h2.c := ⟨_, rfl⟩
        have sd : W7.drew.cell? ⟨g, 0, none⟩ = some CV := by rw [hCV, ← hA]; exact k2.cells.1
        have HKW := keep (show PC W7 g h2 K { t with line := leave t.line x } ∧ _ ∧ _ from ⟨k2, k3, k4⟩)
        subst hCV
        clear k2 k3 k4 hA hR hln H7
        refine wp_region_noPanic ?_
        refine wp_region_held_drew (S := fun U => U.cell? ⟨g, 0, none⟩ = some (Value.slice (some ⟨b, off, none⟩) h2.n h2.c)) (by kernel_rfl) sd (fun hHeld => ?_)
        change wpAnyH _ _ _ _ _ _ _ _ _
        refine wpAnyH_take (i := 0) (v := ?_) rfl (by kernel_rfl) (by kernel_rfl) (by kernel_rfl) (fun _ _ _ h => h) (Or.inl ⟨by rfl, ?_⟩) (by assumption) ?_
        rotate_left
        · intro w' hSw
          try dsimp only at hSw
          go_simp
          try with_reducible rfl
        try simp only [List.getElem_toArray, List.getElem_cons_zero, Act.put, List.setIfInBounds_toArray, List.set_cons_zero, List.set_cons_succ]
        refine wpAnyH_take (i := 1) (v := ?_) rfl (by kernel_rfl) (by kernel_rfl) (by kernel_rfl) (fun _ _ _ h => h) (Or.inl ⟨by rfl, ?_⟩) (by assumption) ?_
        rotate_left
        · intro w' hSw
          try dsimp only at hSw
          go_simp
          try with_reducible rfl
        try simp only [List.getElem_toArray, List.getElem_cons_succ, List.getElem_cons_zero, Act.put, List.setIfInBounds_toArray, List.set_cons_zero, List.set_cons_succ]
        refine wpAnyH_take (i := 2) (v := ?_) rfl (by kernel_rfl) (by kernel_rfl) (by kernel_rfl) (fun _ _ _ h => h) (Or.inl ⟨by rfl, ?_⟩) (by assumption) ?_
        rotate_left
        · intro w' hSw
          try dsimp only at hSw
          go_simp
          try with_reducible rfl
        try simp only [List.getElem_toArray, List.getElem_cons_succ, List.getElem_cons_zero, Act.put, List.setIfInBounds_toArray, List.set_cons_zero, List.set_cons_succ]
        refine wpAnyH_take (i := 3) (v := ?_) rfl (by kernel_rfl) (by kernel_rfl) (by kernel_rfl) (fun _ _ _ h => h) (Or.inl ⟨by rfl, ?_⟩) (by assumption) ?_
        rotate_left
        · intro w' hSw
          try dsimp only at hSw
          go_simp
          try with_reducible rfl
        try simp only [List.getElem_toArray, List.getElem_cons_succ, List.getElem_cons_zero, Act.put, List.setIfInBounds_toArray, List.set_cons_zero, List.set_cons_succ]
        refine wpAnyH_take (i := 4) (v := ?_) rfl (by kernel_rfl) (by kernel_rfl) (by kernel_rfl) (fun _ _ _ h => h) (Or.inl ⟨by rfl, ?_⟩) (by assumption) ?_
        rotate_left
        · intro w' hSw
          try dsimp only at hSw
          go_simp
          try with_reducible rfl
        try simp only [List.getElem_toArray, List.getElem_cons_succ, List.getElem_cons_zero, Act.put, List.setIfInBounds_toArray, List.set_cons_zero, List.set_cons_succ]
        refine wpAnyH_take (i := 5) (v := ?_) rfl (by kernel_rfl) (by kernel_rfl) (by kernel_rfl) (fun _ _ _ h => h) (Or.inl ⟨by rfl, ?_⟩) (by assumption) ?_
        rotate_left
        · intro w' hSw
          try dsimp only at hSw
          go_simp
          try with_reducible rfl
        try simp only [List.getElem_toArray, List.getElem_cons_succ, List.getElem_cons_zero, Act.put, List.setIfInBounds_toArray, List.set_cons_zero, List.set_cons_succ]
        refine wpAnyH_ready (rs := [6]) (by kernel_rfl) (by simp) ?_
        refine AllReadyH.cons rfl (fun K hK0 => ?_) AllReadyH.nil
        go_simp
        refine (claimed_at (V := V) _ x).mono ?_
        rintro e w4 ⟨rfl, f4⟩
        go_simp
        have s4 := (f4.cell (show (⟨g, 0, none⟩ : Addr).block < _ from HKW.out.1.box.lt)).trans sd
        refine hK0.out _ _ s4 (fun _ => ?_)
        clear hK0 K
        try simp only [List.getElem_toArray, List.getElem_cons_succ, List.getElem_cons_zero, Act.put, List.setIfInBounds_toArray, List.set_cons_zero, List.set_cons_succ]
        refine wpAnyH_take (i := 7) (v := ?_) rfl (by kernel_rfl) (by kernel_rfl) (by kernel_rfl) (fun _ _ _ h => h) (Or.inl ⟨by rfl, ?_⟩) (by assumption) ?_
        rotate_left
        · intro w' hSw
          try dsimp only at hSw
          go_simp
          try with_reducible rfl
        try simp only [List.getElem_toArray, List.getElem_cons_succ, List.getElem_cons_zero, Act.put, List.setIfInBounds_toArray, List.set_cons_zero, List.set_cons_succ]
        refine wpAnyH_ready (rs := [8]) (by kernel_rfl) (by simp) ?_
        refine AllReadyH.cons rfl (fun K hK0 => ?_) AllReadyH.nil
        refine step_store_rw (cf := pc) (x := ⟨3, -1, 1, false, false, default, x⟩) (j := i) pfr_info (wanted_plain16 rfl _) (.tmp 30) (.tmp 29) rfl rfl rfl (pc_len _) (pc_one _) (HRW.out.fr (fr_step (fr_drew (fr_refl _)) f4)) (pc_wid _) HLN.out HIX.out ?_
        intro w5 h5 c5
        have s5 := (c5.cell (p := ⟨g, 0, none⟩) (by have := f4.size; have := HKW.out.1.box.lt; show g < _; exact Nat.lt_of_lt_of_le this f4.size) (fun e => HGA.out e)).trans s4
        have H5 := keep (show Rw w5 _ _ _ _ _ _ ∧ Chg _ w4 w5 ∧ Fr W7 w4 from ⟨h5, c5, fr_step (fr_drew (fr_refl _)) f4⟩)
        clear h5 c5
        refine hK0.out _ _ s5 (fun _ => ?_)
        clear hK0 K
        try simp only [List.getElem_toArray, List.getElem_cons_succ, List.getElem_cons_zero, Act.put, List.setIfInBounds_toArray, List.set_cons_zero, List.set_cons_succ]
        refine wpAnyH_done (by kernel_rfl) ?_ _
        refine NoPanic.normal ?_
        go_wp2_with fail
        go_ret
        refine ⟨rfl, keep ?_⟩
        obtain ⟨h5, c5, f4⟩ := H5.out
        refine PTurn.fr ?_ hF6.out
        refine PTurn.step HKW.out.1 HKW.out.2.1 HKW.out.2.2 ?_
        have k4 := HKW.out.1.fr f4
        refine (PC.framesT k4 (by rw [HAW.out]; exact h5) (c5.weak fun j _ hj => by rw [HAW.out]; exact congrArg some hj.symm) (fun c => find_set_other HFI.out.1 (by have := HFI.out.2; simp [isB, this]))).fr f4
end
end Go.Proofs.YtmoaddbpfekdbaaGreat
