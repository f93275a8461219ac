/- The document's cache: rows laid anew; takes. -/
import Derived.Test.YtmoaddbpfekdbaaGreatM18
namespace Go.Proofs.YtmoaddbpfekdbaaGreat
set_option linter.unusedSectionVars false
set_option linter.unusedVariables false
set_option linter.unusedSimpArgs false
set_option maxRecDepth 100000
open Go.RowKit
theorem stands_info : (Tryz.prog.info? 59).map (·.size) = some 1 := by kernel_rfl
theorem stand_none {l : List (Int × Int)} {t : Int} (h : atI l t = none) : stand l t = none := by
  unfold atI at h
  rw [List.findIdx?_eq_none_iff] at h
  unfold stand
  rw [List.find?_eq_none]
  intro x hx
  simpa using h x hx
theorem stand_some {l : List (Int × Int)} {t : Int} {i : Nat} (h : atI l t = some i) : ∃ p, l[i]? = some p ∧ stand l t = some p := by
  induction l generalizing i with
  | nil => cases h
  | cons p l ih =>
    unfold atI at h
    rw [List.findIdx?_cons] at h
    unfold stand
    cases hp : p.1 == t with
    | true =>
      rw [hp] at h
      simp at h
      subst h
      exact ⟨p, rfl, by rw [List.find?_cons, hp]⟩
    | false =>
      rw [hp] at h
      simp only [Bool.false_eq_true, if_false] at h
      cases hq : List.findIdx? (fun p : Int × Int => p.1 == t) l with
      | none => rw [hq] at h; cases h
      | some j =>
        rw [hq] at h
        injection h with h
        subst h
        obtain ⟨q, h1, h2⟩ := ih (i := j) hq
        refine ⟨q, by simpa using h1, ?_⟩
        rw [List.find?_cons, hp]
        exact h2
section
variable {V : Type} [NVal V]
section
variable {w w3 W : World} {g m' d' : Nat} {h : CH} {t : Ca V} {B' : Option Addr}
theorem DC.line {l' : List (Int × Int)} (k : DC w g h t) (hr : Rw w3 103 2 B' m' d' (rows sc l')) (f : Chg (At h.B) w w3) (hb : ∀ i, At B' i → At h.B i ∨ w.heap.size ≤ i)
    (ha : Arr W g 61 #[.slice h.A h.n h.c, .slice B' m' d', .slice h.L h.p h.e, .int .i64 t.hand]) (k2 : Chg (· = g) w3 W) : DTurn w W (CHX g h) g { t with line := l' } := by
  have ng : ¬ At B' g := fun e => by
    rcases hb g e with e | e
    · exact k.ng.2.1 e
    · have := k.box.lt; omega
  refine ⟨{ h with B := B', m := m', d := d' }, ⟨ha, (k.fs.chg f fun b hb => (k.nA hb).1).chg k2 fun b hb e => k.ng.1 (e ▸ hb), hr.chg k2 fun b hb e => ng (e ▸ hb), (k.ld.chg f fun b hb e => k.ap b e hb).chg k2 fun b hb e => k.ng.2.2 (e ▸ hb), fun i hi hl => ?_⟩, (f.weak fun i _ hi => .inr (.inr (.inl hi))).trans (k2.weak fun i _ hi => .inl hi), fun i hi => ?_⟩
  · rcases hb i hi with e | e
    · exact k.ap i e hl
    · have := k.ld.lt i hl; omega
  · rcases hi with hi | hi | hi | hi
    · exact .inl (.inl hi)
    · exact .inl (.inr (.inl hi))
    · rcases hb i hi with e | e
      · exact .inl (.inr (.inr (.inl e)))
      · exact .inr e
    · exact .inl (.inr (.inr (.inr hi)))
theorem DC.loads {l' : List (Int × Int)} (k : DC w g h t) (hr : Rw w3 103 2 B' m' d' (rows sc l')) (f : Chg (At h.L) w w3) (hb : ∀ i, At B' i → At h.L i ∨ w.heap.size ≤ i)
    (ha : Arr W g 61 #[.slice h.A h.n h.c, .slice h.B h.m h.d, .slice B' m' d', .int .i64 t.hand]) (k2 : Chg (· = g) w3 W) : DTurn w W (CHX g h) g { t with loads := l' } := by
  have ng : ¬ At B' g := fun e => by
    rcases hb g e with e | e
    · exact k.ng.2.2 e
    · have := k.box.lt; omega
  refine ⟨{ h with L := B', p := m', e := d' }, ⟨ha, (k.fs.chg f fun b hb => (k.nA hb).2).chg k2 fun b hb e => k.ng.1 (e ▸ hb), (k.ln.chg f fun b hb e => k.ap b hb e).chg k2 fun b hb e => k.ng.2.1 (e ▸ hb), hr.chg k2 fun b hb e => ng (e ▸ hb), fun i hi hl => ?_⟩, (f.weak fun i _ hi => .inr (.inr (.inr hi))).trans (k2.weak fun i _ hi => .inl hi), fun i hi => ?_⟩
  · rcases hb i hl with e | e
    · exact k.ap i hi e
    · have := k.ln.lt i hi; omega
  · rcases hi with hi | hi | hi | hi
    · exact .inl (.inl hi)
    · exact .inl (.inr (.inl hi))
    · exact .inl (.inr (.inr (.inl hi)))
    · rcases hb i hi with e | e
      · exact .inl (.inr (.inr (.inr e)))
      · exact .inr e
end
set_option maxHeartbeats 4000000 in
/-- It takes the first free one. -/
theorem dtakes_yes {w : World} {g : Nat} {h : CH} {t : Ca V} {i : Nat} (tk x : Int) (k : DC w g h t) (hs : t.fs.length ≤ 100000) (hl : t.line.length ≤ 100000) (hf : freeI t.fs = some i) (ha : ahead t.line tk = true) :
    Calls Tryz.prog 65 #[.pointer (some ⟨g, 0, none⟩), .int .i64 tk, .int .i64 x] w fun e w' => e = .returned (.int .i64 (i : Int)) ∧ Hid (DTurn w w' (CHX g h) g { t with line := leave t.line tk }) := by
  have cF := dfree_at k hs
  rw [hf] at cF
  have CF := keep (show Calls _ _ _ _ fun e w' => e = .returned (.int .i64 (i : Int)) ∧ w = w' from cF)
  obtain ⟨-, hm, -⟩ := k.nlen
  have CL := keep (leave_at (c := h.d) tk k.ln.has (Nat.le_refl _) hm (by omega))
  have HK := keep k
  have HBX := keep k.box
  obtain ⟨-, c1, -, -⟩ := k.cells
  cases hq : t.line with
  | nil =>
    rw [hq] at hm
    have h0 : h.m = 0 := by simpa using hm.symm
    rw [h0] at c1 CL HBX
    rw [hq] at CL
    rw [← hq] at CL ⊢
    clear cF k hs hl hf ha hm hq
    go_enter Tryz.func65, Tryz.ntmps65
    go_wp2_with (first
      | (go_at_call 69; with_reducible refine CF.out.mono ?_; rintro e w2 ⟨rfl, rfl⟩)
      | (go_at_call 64; with_reducible refine CL.out.mono ?_; rintro e w2 ⟨O, k7, b7, rfl, hz⟩)
      | (refine wpList_store_chg stands_info rfl (.tmp 39) (.tmp 37) rfl g 1 rfl (ds := [.slice O k7 b7]) rfl rfl (.cons rfl .nil) (HBX.out.chg (.of_fr (fun _ => False) hz.out.2) id) (by simp) (cs' := [.slice h.A h.n h.c, .slice O k7 b7, .slice h.L h.p h.e, .int .i64 t.hand]) rfl ?_; intro W1 h1 h2; have H1 := keep (show Arr W1 _ _ _ ∧ Chg _ w2 W1 from ⟨h1, h2⟩); clear h1 h2)
      | fail)
    go_ret
    refine ⟨rfl, keep ?_⟩
    obtain ⟨h1, h2⟩ := H1.out
    exact HK.out.line hz.out.1.row (.of_fr _ hz.out.2) (fun i hi => .inr (hz.out.1.new i hi)) h1 h2
  | cons p r =>
    rw [hq] at ha
    have hp : p.1 = tk := by simpa [ahead] using ha
    have hmp : 0 < h.m := by rw [← hm, hq]; simp
    have h0 : ((h.m : Int) == 0) = false := by simp; omega
    have hmz : (0 : Int) < (h.m : Int) := by omega
    obtain ⟨b, off, hB, hb1, hr2⟩ := has_rows k.ln.has (sc_wid t.line) (by decide) (by rw [hq]; simp)
    have lX := elem_cell0 hr2 (sc_wid t.line) hb1 (i := 0) (a := p) (by rw [hq]; rfl) (u := .int .i64 p.1) rfl w (fr_refl w)
    rw [Nat.zero_mul, Nat.add_zero] at lX
    rw [hB] at c1 CL HBX
    rw [hq] at CL
    rw [← hq] at CL ⊢
    subst hp
    clear cF k hs hl hf ha hm hr2 hb1 hq hmp
    go_enter Tryz.func65, Tryz.ntmps65
    go_wp2_with (first
      | (go_at_call 69; with_reducible refine CF.out.mono ?_; rintro e w2 ⟨rfl, rfl⟩)
      | (go_at_call 64; with_reducible refine CL.out.mono ?_; rintro e w2 ⟨O, k7, b7, rfl, hz⟩)
      | (refine wpList_store_chg stands_info rfl (.tmp 39) (.tmp 37) rfl g 1 rfl (ds := [.slice O k7 b7]) rfl rfl (.cons rfl .nil) (HBX.out.chg (.of_fr (fun _ => False) hz.out.2) id) (by simp) (cs' := [.slice h.A h.n h.c, .slice O k7 b7, .slice h.L h.p h.e, .int .i64 t.hand]) rfl ?_; intro W1 h1 h2; have H1 := keep (show Arr W1 _ _ _ ∧ Chg _ w2 W1 from ⟨h1, h2⟩); clear h1 h2)
      | fail)
    go_ret
    refine ⟨rfl, keep ?_⟩
    obtain ⟨h1, h2⟩ := H1.out
    exact HK.out.line hz.out.1.row (.of_fr _ hz.out.2) (fun i hi => .inr (hz.out.1.new i hi)) h1 h2
set_option maxHeartbeats 4000000 in
/-- It does not, and stands in the line. -/
theorem dtakes_no {w : World} {g : Nat} {h : CH} {t : Ca V} (tk x : Int) (k : DC w g h t) (hs : t.fs.length ≤ 100000) (hl : t.line.length ≤ 100000) (hn : freeI t.fs = none ∨ ahead t.line tk = false) :
    Calls Tryz.prog 65 #[.pointer (some ⟨g, 0, none⟩), .int .i64 tk, .int .i64 x] w fun e w' => e = .returned (.int .i64 (-1)) ∧ Hid (DTurn w w' (CHX g h) g { t with line := queue t.line tk x }) := by
  have cF := dfree_at k hs
  obtain ⟨-, hm, -⟩ := k.nlen
  have cA := at_at (c := h.d) tk k.ln.has (Nat.le_refl _) hm (by omega)
  have HK := keep k
  have HBX := keep k.box
  have HNG := keep k.ng.2.1
  have hml : h.m ≤ 100000 := by omega
  have HO := keep (k.ln.fr (fr_new (fr_refl w) (.cells (sc (tk, x)).toArray 103)))
  obtain ⟨-, c1, -, -⟩ := k.cells
  cases hf : freeI t.fs with
  | none =>
    rw [hf] at cF
    have CF := keep (show Calls _ _ _ _ fun e w' => e = .returned (.int .i64 (-1)) ∧ w = w' from cF)
    cases hat : atI t.line tk with
    | none =>
      rw [hat] at cA
      have CA := keep (show Calls _ _ _ _ fun e w' => e = .returned (.int .i64 (-1)) ∧ w = w' from cA)
      have HAT := keep hat
      clear cF cA k hs hl hf hm hn hat
      go_enter Tryz.func65, Tryz.ntmps65
      go_wp2_with (first
        | (go_at_call 69; with_reducible refine CF.out.mono ?_; rintro e w2 ⟨rfl, rfl⟩)
        | (go_at_call 62; with_reducible refine CA.out.mono ?_; rintro e w2 ⟨rfl, rfl⟩)
        | (refine wpList_append_rw stand_elem stands_und (by decide) rfl (.tmp 52) (.tmp 56) rfl h.B h.m h.d (rows sc t.line) rfl HO.out (w.heap.size + 1) (some ⟨w.heap.size, 0, none⟩) 1 1 (sc (tk, x)) rfl rfl (has_new w (sc (tk, x)) 103) (sc_one _) (by simp only [maxLen]; omega) (by omega) ?_; intro O k7 w3 h3 p3; have H3 := keep (show Rw w3 _ _ _ _ _ _ ∧ Put _ w3 _ _ from ⟨h3, p3⟩); have HB3 := keep ((HBX.out.chg (.of_fr (fun _ => False) (fr_new (fr_refl w) (.cells (sc (tk, x)).toArray 103))) id).chg p3.chg HNG.out); clear h3 p3)
        | (refine wpList_store_chg stands_info rfl (.tmp 59) (.tmp 57) rfl g 1 rfl (ds := [.slice O (h.m + 1) k7]) rfl rfl (.cons rfl .nil) HB3.out (by simp) (cs' := [.slice h.A h.n h.c, .slice O (h.m + 1) k7, .slice h.L h.p h.e, .int .i64 t.hand]) rfl ?_; intro W1 h1 h2; have H1 := keep (show Arr W1 _ _ _ ∧ Chg _ w3 W1 from ⟨h1, h2⟩); clear h1 h2)
        | fail)
      go_ret
      refine ⟨rfl, keep ?_⟩
      obtain ⟨h1, h2⟩ := H1.out
      obtain ⟨h3, p3⟩ := H3.out
      have hq : queue t.line tk x = t.line ++ [(tk, x)] := by unfold queue; rw [stand_none HAT.out]; rfl
      rw [hq]
      refine HK.out.line (by rw [rows_append, rows_single]; exact h3) ((Chg.of_fr _ (fr_new (fr_refl w) _)).trans p3.chg) (fun i hi => ?_) h1 h2
      rcases p3.blk i hi with e | e
      · exact .inl e
      · exact .inr (by simp at e; omega)
    | some j =>
      rw [hat] at cA
      have CA := keep (show Calls _ _ _ _ fun e w' => e = .returned (.int .i64 (j : Int)) ∧ w = w' from cA)
      have HAT := keep hat
      have hj : ¬ ((j : Int) < 0) := by omega
      clear cF cA k hs hl hf hm hn hat
      go_enter Tryz.func65, Tryz.ntmps65
      go_wp2_with (first
        | (go_at_call 69; with_reducible refine CF.out.mono ?_; rintro e w2 ⟨rfl, rfl⟩)
        | (go_at_call 62; with_reducible refine CA.out.mono ?_; rintro e w2 ⟨rfl, rfl⟩)
        | fail)
      go_ret
      refine ⟨rfl, keep ?_⟩
      obtain ⟨p, -, h2⟩ := stand_some HAT.out
      have hq : queue t.line tk x = t.line := by unfold queue; rw [h2]; rfl
      rw [hq]
      exact .same HK.out (fr_refl w) fun _ => id
  | some i =>
    rw [hf] at cF
    have CF := keep (show Calls _ _ _ _ fun e w' => e = .returned (.int .i64 (i : Int)) ∧ w = w' from cF)
    have ha : ahead t.line tk = false := by
      rcases hn with e | e
      · rw [hf] at e; cases e
      · exact e
    cases hq : t.line with
    | nil => rw [hq] at ha; cases ha
    | cons p r =>
      rw [hq] at ha
      have hp : ¬ p.1 = tk := by simpa [ahead] using ha
      have hpz : (p.1 == tk) = false := by simpa using hp
      have hmp : 0 < h.m := by rw [← hm, hq]; simp
      have h0 : ((h.m : Int) == 0) = false := by simp; omega
      have hmz : (0 : Int) < (h.m : Int) := by omega
      obtain ⟨b, off, hB, hb1, hr2⟩ := has_rows k.ln.has (sc_wid t.line) (by decide) (by rw [hq]; simp)
      have lX := elem_cell0 hr2 (sc_wid t.line) hb1 (i := 0) (a := p) (by rw [hq]; rfl) (u := .int .i64 p.1) rfl w (fr_refl w)
      rw [Nat.zero_mul, Nat.add_zero] at lX
      rw [hB] at c1 cA HBX
      have HBB := keep hB
      cases hat : atI t.line tk with
      | none =>
        rw [hat] at cA
        have CA := keep (show Calls _ _ _ _ fun e w' => e = .returned (.int .i64 (-1)) ∧ w = w' from cA)
        have HAT := keep hat
        have HO2 := HO.out
        rw [hB] at HO2
        rw [← hq]
        clear cF cA k hs hl hf hm hn hat HO hp ha hr2 hb1 hq hmp hB
        have HO := keep HO2
        clear HO2
        go_enter Tryz.func65, Tryz.ntmps65
        go_wp2_with (first
          | (go_at_call 69; with_reducible refine CF.out.mono ?_; rintro e w2 ⟨rfl, rfl⟩)
          | (go_at_call 62; with_reducible refine CA.out.mono ?_; rintro e w2 ⟨rfl, rfl⟩)
          | (refine wpList_append_rw stand_elem stands_und (by decide) rfl (.tmp 52) (.tmp 56) rfl (some ⟨b, off, none⟩) h.m h.d (rows sc t.line) rfl HO.out (w.heap.size + 1) (some ⟨w.heap.size, 0, none⟩) 1 1 (sc (tk, x)) rfl rfl (has_new w (sc (tk, x)) 103) (sc_one _) (by simp only [maxLen]; omega) (by omega) ?_; intro O k7 w3 h3 p3; have H3 := keep (show Rw w3 _ _ _ _ _ _ ∧ Put _ w3 _ _ from ⟨h3, p3⟩); have HB3 := keep ((HBX.out.chg (.of_fr (fun _ => False) (fr_new (fr_refl w) (.cells (sc (tk, x)).toArray 103))) id).chg p3.chg (by rw [← HBB.out]; exact HNG.out)); clear h3 p3)
          | (refine wpList_store_chg stands_info rfl (.tmp 59) (.tmp 57) rfl g 1 rfl (ds := [.slice O (h.m + 1) k7]) rfl rfl (.cons rfl .nil) HB3.out (by simp) (cs' := [.slice h.A h.n h.c, .slice O (h.m + 1) k7, .slice h.L h.p h.e, .int .i64 t.hand]) rfl ?_; intro W1 h1 h2; have H1 := keep (show Arr W1 _ _ _ ∧ Chg _ w3 W1 from ⟨h1, h2⟩); clear h1 h2)
          | fail)
        go_ret
        refine ⟨rfl, keep ?_⟩
        obtain ⟨h1, h2⟩ := H1.out
        obtain ⟨h3, p3⟩ := H3.out
        have hq : queue t.line tk x = t.line ++ [(tk, x)] := by unfold queue; rw [stand_none HAT.out]; rfl
        rw [hq]
        refine HK.out.line (by rw [rows_append, rows_single]; exact h3) (by rw [HBB.out]; exact (Chg.of_fr _ (fr_new (fr_refl w) _)).trans p3.chg) (fun i hi => ?_) h1 h2
        rcases p3.blk i hi with e | e
        · exact .inl (by rw [HBB.out]; exact e)
        · exact .inr (by simp at e; omega)
      | some j =>
        rw [hat] at cA
        have CA := keep (show Calls _ _ _ _ fun e w' => e = .returned (.int .i64 (j : Int)) ∧ w = w' from cA)
        have HAT := keep hat
        have hj : ¬ ((j : Int) < 0) := by omega
        rw [← hq]
        clear cF cA k hs hl hf hm hn hat hp ha hr2 hb1 hq hmp hB
        go_enter Tryz.func65, Tryz.ntmps65
        go_wp2_with (first
          | (go_at_call 69; with_reducible refine CF.out.mono ?_; rintro e w2 ⟨rfl, rfl⟩)
          | (go_at_call 62; with_reducible refine CA.out.mono ?_; rintro e w2 ⟨rfl, rfl⟩)
          | fail)
        go_ret
        refine ⟨rfl, keep ?_⟩
        obtain ⟨p, -, h2⟩ := stand_some HAT.out
        have hq : queue t.line tk x = t.line := by unfold queue; rw [h2]; rfl
        rw [hq]
        exact .same HK.out (fr_refl w) fun _ => id
end
end Go.Proofs.YtmoaddbpfekdbaaGreat
/- The document's cache: Claim. -/
namespace Go.Proofs.YtmoaddbpfekdbaaGreat
set_option linter.unusedSectionVars false
set_option linter.unusedVariables false
set_option linter.unusedSimpArgs false
set_option maxRecDepth 100000
open Go.RowKit
theorem frame_info : (Tryz.prog.info? 63).map (·.size) = some 11 := by kernel_rfl
section
variable {V : Type} [NVal V]
theorem fc_lit (s : Nat) (b p : Int) (r d : Bool) (o : Int) : fc (⟨s, b, p, r, d, default, o⟩ : Fra V) = [.int .i64 (s : Int), .int .i64 b, .int .i64 p, .bool r, .bool d, .bool false, .slice none 0 0, .slice none 0 0, .slice none 0 0, .slice none 0 0, .int .i64 o] := by
  unfold fc
  simp only [NVal.zero]
  rfl
/-- Where a frame lies. -/
theorem DC.row {w : World} {g : Nat} {h : CH} {t : Ca V} {i : Nat} {f : Fra V} (k : DC w g h t) (hf : t.fs[i]? = some f) :
    ∃ b off, h.A = some ⟨b, off, none⟩ ∧ w.cell? ⟨g, 0, none⟩ = some (.slice (some ⟨b, off, none⟩) h.n h.c) ∧ Rw w 63 11 (some ⟨b, off, none⟩) h.n h.c (rows fc t.fs) ∧ (i : Int) < (h.n : Int) := by
  obtain ⟨b, off, hA, -⟩ := frame_cells k.fs.has (Nat.le_refl _) hf
  obtain ⟨c0, -⟩ := k.cells
  have hR := k.fs
  rw [hA] at c0 hR
  have := (List.getElem?_eq_some_iff.1 hf).1
  have := k.nlen.1
  exact ⟨b, off, hA, c0, hR, by omega⟩
omit [NVal V] in
theorem takeI_some {t : Ca V} {tk : Int} {i : Nat} (h : takeI t tk = some i) : freeI t.fs = some i ∧ ahead t.line tk = true := by
  unfold takeI at h
  split at h
  · exact ⟨h, by assumption⟩
  · cases h
omit [NVal V] in
theorem takeI_none {t : Ca V} {tk : Int} (h : takeI t tk = none) : freeI t.fs = none ∨ ahead t.line tk = false := by
  unfold takeI at h
  split at h
  · exact .inl h
  · rename_i h2
    exact .inr (by simpa using h2)
omit [NVal V] in
theorem free_at {l : List (Fra V)} {i : Nat} (h : freeI l = some i) : ∃ f, l[i]? = some f := by
  obtain ⟨f, h1, -⟩ := idx_at h
  exact ⟨f, h1⟩
/-- One frame laid anew behind a turn. -/
theorem DTurn.put {w w2 W : World} {g b off i : Nat} {h2 : CH} {t : Ca V} {Y : Nat → Prop} {x : Fra V} (d1 : DC w2 g h2 t) (d2 : Chg Y w w2) (d3 : ∀ k, CHX g h2 k → Y k ∨ w.heap.size ≤ k) (hA : h2.A = some ⟨b, off, none⟩) (hr : Rw W 63 11 (some ⟨b, off, none⟩) h2.n h2.c (rows fc (t.fs.set i x))) (f : Chg (· = b) w2 W) : DTurn w W Y g { t with fs := t.fs.set i x } := by
  have hf : Chg (At h2.A) w2 W := f.weak fun j _ hj => by rw [hA]; exact congrArg some hj.symm
  refine ⟨h2, d1.frames (by rw [hA]; exact hr) hf, d2.trans' (hf.weak fun j _ hj => (show CHX g h2 j from .inr (.inl hj))) fun i hi hx => ?_, d3⟩
  rcases d3 i hx with e | e
  · exact e
  · omega
set_option maxHeartbeats 8000000 in
theorem dclaim_at {w : World} {g : Nat} {h : CH} {t : Ca V} (tk : Int) (k : DC w g h t) (hs : t.fs.length ≤ 100000) (hl : t.line.length ≤ 100000) (hl2 : t.loads.length ≤ 100000) :
    Calls Tryz.prog 28 #[.pointer (some ⟨g, 0, none⟩), .int .i64 tk] w fun e w' => e = .returned (.bool (claimC t tk).1) ∧ Hid (DTurn w w' (CHX g h) g (claimC t tk).2) := by
  have cT := dtask_at w tk
  obtain ⟨-, hm, hp⟩ := k.nlen
  obtain ⟨-, c1, c2, -⟩ := k.cells
  have cA := at_at (c := h.e) tk k.ld.has (Nat.le_refl _) hp (by omega)
  have cB := at_at (c := h.d) tk k.ln.has (Nat.le_refl _) hm (by omega)
  have HK := keep k
  cases hT : okT tk with
  | false =>
    have e9 : claimC t tk = (false, t) := by unfold claimC; rw [hT]; rfl
    rw [e9]
    rw [hT] at cT
    have CT := keep cT
    clear cT cA cB k hs hl hl2 hm hp hT e9
    go_enter Tryz.func28, Tryz.ntmps28
    go_wp2_with (first
      | (go_at_call 60; with_reducible refine CT.out.mono ?_; rintro e w2 ⟨rfl, rfl⟩)
      | fail)
    go_ret
    exact ⟨rfl, keep (.same HK.out (fr_refl w) fun _ => id)⟩
  | true =>
    rw [hT] at cT
    have CT := keep cT
    clear cT
    cases hat : atI t.loads tk with
    | some j =>
      obtain ⟨q, -, hq⟩ := stand_some hat
      have e9 : claimC t tk = (false, t) := by unfold claimC unasked; rw [hT, hq]; rfl
      rw [e9]
      rw [hat] at cA
      have CA := keep (show Calls _ _ _ _ fun e w' => e = .returned (.int .i64 (j : Int)) ∧ w = w' from cA)
      have hj : (j : Int) ≥ 0 := by omega
      clear cA cB k hs hl hl2 hm hp hT e9 hat hq
      go_enter Tryz.func28, Tryz.ntmps28
      go_wp2_with (first
        | (go_at_call 60; with_reducible refine CT.out.mono ?_; rintro e w2 ⟨rfl, rfl⟩)
        | (go_at_call 62; with_reducible refine CA.out.mono ?_; rintro e w2 ⟨rfl, rfl⟩)
        | fail)
      go_ret
      exact ⟨rfl, keep (.same HK.out (fr_refl w) fun _ => id)⟩
    | none =>
      have hq := stand_none hat
      rw [hat] at cA
      have CA := keep (show Calls _ _ _ _ fun e w' => e = .returned (.int .i64 (-1)) ∧ w = w' from cA)
      clear cA
      have hgo : unasked t tk = true → claimC t tk = match takeI t tk with | some i => (true, { t with fs := t.fs.set i ⟨3, -1, 1, false, false, default, tk⟩, line := leave t.line tk }) | none => (false, { t with line := queue t.line tk (-1) }) := fun hu => by unfold claimC; rw [hT, hu]; rfl
      cases hab : atI t.line tk with
      | none =>
        have hq2 := stand_none hab
        rw [hab] at cB
        have CB := keep (show Calls _ _ _ _ fun e w' => e = .returned (.int .i64 (-1)) ∧ w = w' from cB)
        rw [hgo (by unfold unasked; rw [hq, hq2]; rfl)]
        cases htk : takeI t tk with
        | none =>
          have CK := keep (dtakes_no tk (-1) k hs hl (takeI_none htk))
          clear cB k hs hl hl2 hm hp hT hat hq hgo hab hq2 htk
          go_enter Tryz.func28, Tryz.ntmps28
          go_wp2_with (first
            | (go_at_call 60; with_reducible refine CT.out.mono ?_; rintro e w2 ⟨rfl, rfl⟩)
            | (go_at_call 62; with_reducible refine CA.out.mono ?_; rintro e w2 ⟨rfl, rfl⟩)
            | (go_at_call 62; with_reducible refine CB.out.mono ?_; rintro e w2 ⟨rfl, rfl⟩)
            | (go_at_call 65; with_reducible refine CK.out.mono ?_; rintro e w2 ⟨rfl, hz⟩)
            | fail)
          go_ret
          exact ⟨rfl, hz⟩
        | some i =>
          obtain ⟨hf, ha⟩ := takeI_some htk
          obtain ⟨f, hfi⟩ := free_at hf
          have CK := keep (dtakes_yes tk (-1) k hs hl hf ha)
          have HFI := keep hfi
          have hi0 : ¬ ((i : Int) < 0) := by omega
          clear cB k hs hl hl2 hm hp hT hat hq hgo hab hq2 htk hf ha hfi
          go_enter Tryz.func28, Tryz.ntmps28
          go_wp2_with (first
            | (go_at_call 60; with_reducible refine CT.out.mono ?_; rintro e w2 ⟨rfl, rfl⟩)
            | (go_at_call 62; with_reducible refine CA.out.mono ?_; rintro e w2 ⟨rfl, rfl⟩)
            | (go_at_call 62; with_reducible refine CB.out.mono ?_; rintro e w2 ⟨rfl, rfl⟩)
            | (go_at_call 65; (with_reducible refine CK.out.mono ?_); rintro e w2 ⟨rfl, hz⟩; obtain ⟨h2, d1, d2, d3⟩ := hz.out; obtain ⟨b, off, hA, c0, hR, hiz⟩ := d1.row HFI.out; have D1 := keep d1; have D2 := keep (And.intro d2 d3); have HA := keep hA; have HR := keep hR; clear hz d1 d2 d3 hA hR)
            | (refine wpList_store_rw (cf := fc) (x := (⟨3, -1, 1, false, false, default, tk⟩ : Fra V)) (j := i) frame_info rfl (.tmp 50) (.tmp 49) rfl rfl (fc_lit 3 (-1) 1 false false tk).symm (fc_len _) (fc_one _) HR.out (fc_wid _) D1.out.nlen.1 (by omega) ?_; intro W1 h1 h3; have H1 := keep (show Rw W1 _ _ _ _ _ _ ∧ Chg _ w2 W1 from ⟨h1, h3⟩); clear h1 h3)
            | fail)
          go_ret
          refine ⟨rfl, keep ?_⟩
          exact DTurn.put D1.out D2.out.1 D2.out.2 HA.out H1.out.1 H1.out.2
      | some j =>
        obtain ⟨p, hpj, hq2⟩ := stand_some hab
        rw [hab] at cB
        have CB := keep (show Calls _ _ _ _ fun e w' => e = .returned (.int .i64 (j : Int)) ∧ w = w' from cB)
        have hj : (j : Int) ≥ 0 := by omega
        have hjm : (j : Int) < (h.m : Int) := by have := (List.getElem?_eq_some_iff.1 hpj).1; omega
        obtain ⟨bb, ob, hB, hb1, hr2⟩ := has_rows k.ln.has (sc_wid t.line) (by decide) (by intro e; rw [e] at hpj; simp at hpj)
        have lX := elem_cell hr2 (sc_wid t.line) hb1 (o := 1) hpj (u := .int .i64 p.2) rfl w (fr_refl w)
        rw [hB] at c1 CB
        by_cases hp2 : p.2 ≥ 0
        · have e9 : claimC t tk = (false, t) := by unfold claimC unasked; rw [hT, hq, hq2]; simp [hp2]; omega
          rw [e9]
          clear cB k hs hl hl2 hm hp hT hat hq hgo hab hq2 hpj hb1 hr2 hB e9
          go_enter Tryz.func28, Tryz.ntmps28
          go_wp2_with (first
            | (go_at_call 60; with_reducible refine CT.out.mono ?_; rintro e w2 ⟨rfl, rfl⟩)
            | (go_at_call 62; with_reducible refine CA.out.mono ?_; rintro e w2 ⟨rfl, rfl⟩)
            | (go_at_call 62; with_reducible refine CB.out.mono ?_; rintro e w2 ⟨rfl, rfl⟩)
            | fail)
          go_ret
          exact ⟨rfl, keep (.same HK.out (fr_refl w) fun _ => id)⟩
        · rw [hgo (by unfold unasked; rw [hq, hq2]; simp; omega)]
          cases htk : takeI t tk with
          | none =>
            have CK := keep (dtakes_no tk (-1) k hs hl (takeI_none htk))
            clear cB k hs hl hl2 hm hp hT hat hq hgo hab hq2 htk hpj hb1 hr2 hB
            go_enter Tryz.func28, Tryz.ntmps28
            go_wp2_with (first
              | (go_at_call 60; with_reducible refine CT.out.mono ?_; rintro e w2 ⟨rfl, rfl⟩)
              | (go_at_call 62; with_reducible refine CA.out.mono ?_; rintro e w2 ⟨rfl, rfl⟩)
              | (go_at_call 62; with_reducible refine CB.out.mono ?_; rintro e w2 ⟨rfl, rfl⟩)
              | (go_at_call 65; with_reducible refine CK.out.mono ?_; rintro e w2 ⟨rfl, hz⟩)
              | fail)
            go_ret
            exact ⟨rfl, hz⟩
          | some i =>
            obtain ⟨hf, ha⟩ := takeI_some htk
            obtain ⟨f, hfi⟩ := free_at hf
            have CK := keep (dtakes_yes tk (-1) k hs hl hf ha)
            have HFI := keep hfi
            have hi0 : ¬ ((i : Int) < 0) := by omega
            clear cB k hs hl hl2 hm hp hT hat hq hgo hab hq2 htk hf ha hfi hpj hb1 hr2 hB
            go_enter Tryz.func28, Tryz.ntmps28
            go_wp2_with (first
              | (go_at_call 60; with_reducible refine CT.out.mono ?_; rintro e w2 ⟨rfl, rfl⟩)
              | (go_at_call 62; with_reducible refine CA.out.mono ?_; rintro e w2 ⟨rfl, rfl⟩)
              | (go_at_call 62; with_reducible refine CB.out.mono ?_; rintro e w2 ⟨rfl, rfl⟩)
              | (go_at_call 65; (with_reducible refine CK.out.mono ?_); rintro e w2 ⟨rfl, hz⟩; obtain ⟨h2, d1, d2, d3⟩ := hz.out; obtain ⟨b, off, hA, c0, hR, hiz⟩ := d1.row HFI.out; have D1 := keep d1; have D2 := keep (And.intro d2 d3); have HA := keep hA; have HR := keep hR; clear hz d1 d2 d3 hA hR)
              | (refine wpList_store_rw (cf := fc) (x := (⟨3, -1, 1, false, false, default, tk⟩ : Fra V)) (j := i) frame_info rfl (.tmp 50) (.tmp 49) rfl rfl (fc_lit 3 (-1) 1 false false tk).symm (fc_len _) (fc_one _) HR.out (fc_wid _) D1.out.nlen.1 (by omega) ?_; intro W1 h1 h3; have H1 := keep (show Rw W1 _ _ _ _ _ _ ∧ Chg _ w2 W1 from ⟨h1, h3⟩); clear h1 h3)
              | fail)
            go_ret
            refine ⟨rfl, keep ?_⟩
            exact DTurn.put D1.out D2.out.1 D2.out.2 HA.out H1.out.1 H1.out.2
end
end Go.Proofs.YtmoaddbpfekdbaaGreat
