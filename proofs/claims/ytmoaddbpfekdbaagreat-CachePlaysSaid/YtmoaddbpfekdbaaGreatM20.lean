/- The document's cache: Line, May. -/
import Derived.Test.YtmoaddbpfekdbaaGreatM19
namespace Go.Proofs.YtmoaddbpfekdbaaGreat
set_option linter.unusedSectionVars false
set_option linter.unusedVariables false
set_option linter.unusedSimpArgs false
set_option maxRecDepth 100000
open Go.RowKit
theorem ahead_at {l : List (Int × Int)} {t : Int} {j : Nat} (h : atI l t = some j) : ahead l t = decide (j = 0) := by
  unfold atI at h
  cases l with
  | nil => cases h
  | cons p r =>
    rw [List.findIdx?_cons] at h
    unfold ahead
    cases hp : p.1 == t with
    | true =>
      rw [hp] at h
      simp at h
      subst h
      simpa using hp
    | false =>
      rw [hp] at h
      simp only [Bool.false_eq_true, if_false] at h
      cases hq : List.findIdx? (fun p : Int × Int => p.1 == t) r with
      | none => rw [hq] at h; cases h
      | some i =>
        rw [hq] at h
        injection h with h
        subst h
        simpa using hp
theorem fst_in {l : List (Int × Int)} {j : Nat} {m : Int × Int} (hm : l[j]? = some m) : (l.take (j + 1)).map (·.1) = (l.take j).map (·.1) ++ [m.1] := by
  obtain ⟨hj, e⟩ := List.getElem?_eq_some_iff.1 hm
  rw [List.take_succ_eq_append_getElem hj, e, List.map_append]
  rfl
section
variable {V : Type} [NVal V]
set_option maxHeartbeats 4000000 in
theorem dline_at {w : World} {g : Nat} {h : CH} {t : Ca V} (k : DC w g h t) (hs : t.line.length ≤ 100000) :
    Calls Tryz.prog 40 #[.pointer (some ⟨g, 0, none⟩)] w fun e w' => ∃ O n c, e = .returned (.slice O n c) ∧ Hid (ResI w w' O n c (lineC t) ∧ Fr w w') := by
  obtain ⟨-, hm, -⟩ := k.nlen
  obtain ⟨-, c1, -, -⟩ := k.cells
  have Hm := keep hm
  have Hl := keep k.ln.has
  have hs' : h.m ≤ 100000 := by omega
  have hgb := k.box.lt
  unfold lineC
  generalize t.line = l at *
  obtain ⟨A, n, c, B, m, d, L, p, e⟩ := h
  simp only at *
  have HC := keep c1
  clear hm k hs c1
  go_enter Tryz.func40, Tryz.ntmps40
  go_wp2_with fail
  go_loopg [3, 4] m (fun gg s3 s4 wr => ∃ (j b : Nat) (O : Option Addr), j + gg = m ∧ s3 = .slice O j b ∧ s4 = .int .i64 j ∧ Hid (ResI w wr O j b ((l.take j).map (·.1)) ∧ Fr w wr))
  case atStart => exact ⟨0, 0, none, by omega, rfl, rfl, keep ⟨⟨Rw.nil _ _ _, rfl, fun k hk => by cases hk⟩, fr_refl w⟩⟩
  case round =>
    obtain ⟨j, b, O, hj, rfl, rfl, HI⟩ := hrel
    have c1 : wr.cell? ⟨g, 1, none⟩ = some (.slice B m d) := (HI.out.2.cell hgb).trans HC.out
    by_cases hlt : j < m
    · have hmm : l[j]? = some (l[j]'(by rw [Hm.out]; exact hlt)) := List.getElem?_eq_getElem _
      generalize l[j]'(by rw [Hm.out]; exact hlt) = q at hmm
      obtain ⟨bb, off, rfl, hb1, hr⟩ := has_rows (Hl.out.fr (Nat.le_refl _) HI.out.2) (sc_wid l) (by decide) (by intro e; rw [e] at hmm; simp at hmm)
      have hgw : bb < wr.heap.size := Nat.lt_of_lt_of_le hb1 HI.out.2.size
      have lX := elem_cell0 hr (sc_wid l) hgw hmm (u := .int .i64 q.1) rfl wr (fr_refl wr)
      have HL := keep (fst_in hmm)
      have hjz : (j : Int) < (m : Int) := by omega
      have wj : IntKind.i64.wrap ((j : Int) + 1) = (j : Int) + 1 := by rw [IntKind.wrap_i64]; omega
      have HO := keep (HI.out.1.row.fr (fr_new (fr_refl wr) (.cells #[.int .i64 q.1] 3)))
      clear hmm hr hlt hb1 hgw
      go_wp2_with (first
        | (refine wpList_append_rw int_elem ints_und (by decide) rfl (.tmp 14) (.tmp 23) rfl O j b (rows ic ((l.take j).map (·.1))) rfl HO.out (wr.heap.size + 1) (some ⟨wr.heap.size, 0, none⟩) 1 1 (ic q.1) rfl rfl (has_new wr (ic q.1) 3) (ic_one _) (by simp only [maxLen]; omega) (by omega) ?_; intro O' b' w3 h3 p3; have H3 := keep (show Rw w3 _ _ _ _ _ _ ∧ Put _ w3 _ _ from ⟨h3, p3⟩); clear h3 p3)
        | fail)
      go_roundg (gk - 1)
      case measure => omega
      case rel =>
        obtain ⟨h3, p3⟩ := H3.out
        refine ⟨j + 1, b', O', by omega, rfl, rfl, keep ⟨⟨?_, ?_, fun i hi => ?_⟩, ?_⟩⟩
        · rw [HL.out, rows_append, rows_single]; exact h3
        · rw [HL.out, List.length_append, HI.out.1.len]; rfl
        · rcases p3.blk i hi with e | e
          · exact HI.out.1.new i e
          · have := HI.out.2.size
            simp at e
            omega
        · exact (fr_new HI.out.2 _).step_chg p3.chg HI.out.1.new
    · have hjn : j = m := by omega
      have hjz : ¬ (j : Int) < (m : Int) := by omega
      subst hjn
      have E9 := keep (show l.take j = l by rw [← Hm.out, List.take_length])
      clear hlt
      go_wp2_with fail
      go_ret
      refine ⟨O, j, b, rfl, keep ?_⟩
      have := HI.out
      rw [E9.out] at this
      exact this
set_option maxHeartbeats 8000000 in
theorem dmay_at {w : World} {g : Nat} {h : CH} {t : Ca V} (tk : Int) (k : DC w g h t) (hs : t.fs.length ≤ 100000) (hl : t.line.length ≤ 100000) (hl2 : t.loads.length ≤ 100000) :
    Calls Tryz.prog 42 #[.pointer (some ⟨g, 0, none⟩), .int .i64 tk] w fun e w' => e = .returned (.bool (mayC t tk)) ∧ w = w' := by
  have cT := dtask_at w tk
  obtain ⟨-, hm, hp⟩ := k.nlen
  obtain ⟨-, c1, c2, -⟩ := k.cells
  have cA := at_at (c := h.e) tk k.ld.has (Nat.le_refl _) hp (by omega)
  have cB := at_at (c := h.d) tk k.ln.has (Nat.le_refl _) hm (by omega)
  have cF := dfree_at k hs
  cases hT : okT tk with
  | false =>
    have e9 : mayC t tk = false := by unfold mayC; rw [hT]; rfl
    rw [e9]
    rw [hT] at cT
    have CT := keep cT
    clear cT cA cB cF k hs hl hl2 hm hp hT e9
    go_enter Tryz.func42, Tryz.ntmps42
    go_wp2_with (first
      | (go_at_call 60; with_reducible refine CT.out.mono ?_; rintro e w2 ⟨rfl, rfl⟩)
      | fail)
    go_ret
    exact ⟨rfl, rfl⟩
  | true =>
    rw [hT] at cT
    have CT := keep cT
    clear cT
    cases hat : atI t.loads tk with
    | some j =>
      obtain ⟨q, -, hq⟩ := stand_some hat
      have e9 : mayC t tk = false := by unfold mayC; rw [hT, hq]; rfl
      rw [e9]
      rw [hat] at cA
      have CA := keep (show Calls _ _ _ _ fun e w' => e = .returned (.int .i64 (j : Int)) ∧ w = w' from cA)
      have hj : (j : Int) ≥ 0 := by omega
      clear cA cB cF k hs hl hl2 hm hp hT e9 hat hq
      go_enter Tryz.func42, Tryz.ntmps42
      go_wp2_with (first
        | (go_at_call 60; with_reducible refine CT.out.mono ?_; rintro e w2 ⟨rfl, rfl⟩)
        | (go_at_call 62; with_reducible refine CA.out.mono ?_; rintro e w2 ⟨rfl, rfl⟩)
        | fail)
      go_ret
      exact ⟨rfl, rfl⟩
    | none =>
      have hq := stand_none hat
      rw [hat] at cA
      have CA := keep (show Calls _ _ _ _ fun e w' => e = .returned (.int .i64 (-1)) ∧ w = w' from cA)
      clear cA
      cases hab : atI t.line tk with
      | none =>
        have hq2 := stand_none hab
        rw [hab] at cB
        have CB := keep (show Calls _ _ _ _ fun e w' => e = .returned (.int .i64 (-1)) ∧ w = w' from cB)
        have e9 : mayC t tk = true := by unfold mayC; rw [hT, hq, hq2]; rfl
        rw [e9]
        clear cB cF k hs hl hl2 hm hp hT hat hq hab hq2 e9
        go_enter Tryz.func42, Tryz.ntmps42
        go_wp2_with (first
          | (go_at_call 60; with_reducible refine CT.out.mono ?_; rintro e w2 ⟨rfl, rfl⟩)
          | (go_at_call 62; with_reducible refine CA.out.mono ?_; rintro e w2 ⟨rfl, rfl⟩)
          | (go_at_call 62; with_reducible refine CB.out.mono ?_; rintro e w2 ⟨rfl, rfl⟩)
          | fail)
        go_ret
        exact ⟨rfl, rfl⟩
      | some j =>
        obtain ⟨p, hpj, hq2⟩ := stand_some hab
        have hah := ahead_at hab
        rw [hab] at cB
        have CB := keep (show Calls _ _ _ _ fun e w' => e = .returned (.int .i64 (j : Int)) ∧ w = w' from cB)
        have hj : ¬ ((j : Int) < 0) := by omega
        have hjm : (j : Int) < (h.m : Int) := by have := (List.getElem?_eq_some_iff.1 hpj).1; omega
        obtain ⟨bb, ob, hB, hb1, hr2⟩ := has_rows k.ln.has (sc_wid t.line) (by decide) (by intro e; rw [e] at hpj; simp at hpj)
        have lX := elem_cell hr2 (sc_wid t.line) hb1 (o := 1) hpj (u := .int .i64 p.2) rfl w (fr_refl w)
        rw [hB] at c1 CB
        by_cases hj0 : j = 0
        · subst hj0
          cases hfr : freeI t.fs with
          | some i =>
            rw [hfr] at cF
            have CF := keep (show Calls _ _ _ _ fun e w' => e = .returned (.int .i64 (i : Int)) ∧ w = w' from cF)
            have hi : (i : Int) ≥ 0 := by omega
            have e9 : mayC t tk = true := by unfold mayC; rw [hT, hq, hq2, hah, hfr]; rfl
            rw [e9]
            clear cF hfr e9 cB k hs hl hl2 hm hp hT hat hq hab hq2 hpj hb1 hr2 hB hah
            go_enter Tryz.func42, Tryz.ntmps42
            go_wp2_with (first
              | (go_at_call 60; with_reducible refine CT.out.mono ?_; rintro e w2 ⟨rfl, rfl⟩)
              | (go_at_call 62; with_reducible refine CA.out.mono ?_; rintro e w2 ⟨rfl, rfl⟩)
              | (go_at_call 62; with_reducible refine CB.out.mono ?_; rintro e w2 ⟨rfl, rfl⟩)
              | (go_at_call 69; with_reducible refine CF.out.mono ?_; rintro e w2 ⟨rfl, rfl⟩)
              | fail)
            go_ret
            exact ⟨rfl, rfl⟩
          | none =>
            rw [hfr] at cF
            have CF := keep (show Calls _ _ _ _ fun e w' => e = .returned (.int .i64 (-1)) ∧ w = w' from cF)
            clear cF
            by_cases hp2 : p.2 ≥ 0
            · have hp3 : 0 ≤ p.2 := hp2
              have cN := dfind_at p.2 k hs
              cases hfd : findB t.fs p.2 with
              | none =>
                rw [hfd] at cN
                have CN := keep (show Calls _ _ _ _ fun e w' => e = .returned (.int .i64 (-1)) ∧ w = w' from cN)
                have e9 : mayC t tk = false := by unfold mayC; rw [hT, hq, hq2]; simp [hfr, hfd]
                rw [e9]
                clear cN hfd e9 hp3 hfr cB k hs hl hl2 hm hp hT hat hq hab hq2 hpj hb1 hr2 hB hah
                go_enter Tryz.func42, Tryz.ntmps42
                go_wp2_with (first
                  | (go_at_call 60; with_reducible refine CT.out.mono ?_; rintro e w2 ⟨rfl, rfl⟩)
                  | (go_at_call 62; with_reducible refine CA.out.mono ?_; rintro e w2 ⟨rfl, rfl⟩)
                  | (go_at_call 62; with_reducible refine CB.out.mono ?_; rintro e w2 ⟨rfl, rfl⟩)
                  | (go_at_call 69; with_reducible refine CF.out.mono ?_; rintro e w2 ⟨rfl, rfl⟩)
                  | (go_at_call 63; with_reducible refine CN.out.mono ?_; rintro e w2 ⟨rfl, rfl⟩)
                  | fail)
                go_ret
                exact ⟨rfl, rfl⟩
              | some i =>
                rw [hfd] at cN
                have CN := keep (show Calls _ _ _ _ fun e w' => e = .returned (.int .i64 (i : Int)) ∧ w = w' from cN)
                have e9 : mayC t tk = true := by unfold mayC; rw [hT, hq, hq2]; simp [hfr, hfd, hp3]
                have hi : (i : Int) ≥ 0 := by omega
                rw [e9]
                clear cN hfd e9 hp3 hfr cB k hs hl hl2 hm hp hT hat hq hab hq2 hpj hb1 hr2 hB hah
                go_enter Tryz.func42, Tryz.ntmps42
                go_wp2_with (first
                  | (go_at_call 60; with_reducible refine CT.out.mono ?_; rintro e w2 ⟨rfl, rfl⟩)
                  | (go_at_call 62; with_reducible refine CA.out.mono ?_; rintro e w2 ⟨rfl, rfl⟩)
                  | (go_at_call 62; with_reducible refine CB.out.mono ?_; rintro e w2 ⟨rfl, rfl⟩)
                  | (go_at_call 69; with_reducible refine CF.out.mono ?_; rintro e w2 ⟨rfl, rfl⟩)
                  | (go_at_call 63; with_reducible refine CN.out.mono ?_; rintro e w2 ⟨rfl, rfl⟩)
                  | fail)
                go_ret
                exact ⟨rfl, rfl⟩
            · have e9 : mayC t tk = false := by unfold mayC; rw [hT, hq, hq2]; simp [hfr]; intro h9; omega
              rw [e9]
              clear e9 hfr cB k hs hl hl2 hm hp hT hat hq hab hq2 hpj hb1 hr2 hB hah
              go_enter Tryz.func42, Tryz.ntmps42
              go_wp2_with (first
                | (go_at_call 60; with_reducible refine CT.out.mono ?_; rintro e w2 ⟨rfl, rfl⟩)
                | (go_at_call 62; with_reducible refine CA.out.mono ?_; rintro e w2 ⟨rfl, rfl⟩)
                | (go_at_call 62; with_reducible refine CB.out.mono ?_; rintro e w2 ⟨rfl, rfl⟩)
                | (go_at_call 69; with_reducible refine CF.out.mono ?_; rintro e w2 ⟨rfl, rfl⟩)
                | fail)
              go_ret
              exact ⟨rfl, rfl⟩
        · have hjz : ((j : Int) == 0) = false := by simp; omega
          have CF := keep cF
          clear cF
          have hah2 : ahead t.line tk = false := by rw [hah]; simp [hj0]
          by_cases hp2 : p.2 ≥ 0
          · have hp3 : 0 ≤ p.2 := hp2
            have cN := dfind_at p.2 k hs
            cases hfd : findB t.fs p.2 with
            | none =>
              rw [hfd] at cN
              have CN := keep (show Calls _ _ _ _ fun e w' => e = .returned (.int .i64 (-1)) ∧ w = w' from cN)
              have e9 : mayC t tk = false := by unfold mayC; rw [hT, hq, hq2]; simp [hah2, hfd]
              rw [e9]
              clear cN hfd e9 hp3 hah2 hj0 cB k hs hl hl2 hm hp hT hat hq hab hq2 hpj hb1 hr2 hB hah
              go_enter Tryz.func42, Tryz.ntmps42
              go_wp2_with (first
                | (go_at_call 60; with_reducible refine CT.out.mono ?_; rintro e w2 ⟨rfl, rfl⟩)
                | (go_at_call 62; with_reducible refine CA.out.mono ?_; rintro e w2 ⟨rfl, rfl⟩)
                | (go_at_call 62; with_reducible refine CB.out.mono ?_; rintro e w2 ⟨rfl, rfl⟩)
                | (go_at_call 69; with_reducible refine CF.out.mono ?_; rintro e w2 ⟨rfl, rfl⟩)
                | (go_at_call 63; with_reducible refine CN.out.mono ?_; rintro e w2 ⟨rfl, rfl⟩)
                | fail)
              go_ret
              exact ⟨rfl, rfl⟩
            | some i =>
              rw [hfd] at cN
              have CN := keep (show Calls _ _ _ _ fun e w' => e = .returned (.int .i64 (i : Int)) ∧ w = w' from cN)
              have e9 : mayC t tk = true := by unfold mayC; rw [hT, hq, hq2]; simp [hah2, hfd, hp3]
              have hi : (i : Int) ≥ 0 := by omega
              rw [e9]
              clear cN hfd e9 hp3 hah2 hj0 cB k hs hl hl2 hm hp hT hat hq hab hq2 hpj hb1 hr2 hB hah
              go_enter Tryz.func42, Tryz.ntmps42
              go_wp2_with (first
                | (go_at_call 60; with_reducible refine CT.out.mono ?_; rintro e w2 ⟨rfl, rfl⟩)
                | (go_at_call 62; with_reducible refine CA.out.mono ?_; rintro e w2 ⟨rfl, rfl⟩)
                | (go_at_call 62; with_reducible refine CB.out.mono ?_; rintro e w2 ⟨rfl, rfl⟩)
                | (go_at_call 69; with_reducible refine CF.out.mono ?_; rintro e w2 ⟨rfl, rfl⟩)
                | (go_at_call 63; with_reducible refine CN.out.mono ?_; rintro e w2 ⟨rfl, rfl⟩)
                | fail)
              go_ret
              exact ⟨rfl, rfl⟩
          · have e9 : mayC t tk = false := by unfold mayC; rw [hT, hq, hq2]; simp [hah2]; intro h9; omega
            rw [e9]
            clear e9 hah2 hj0 cB k hs hl hl2 hm hp hT hat hq hab hq2 hpj hb1 hr2 hB hah
            go_enter Tryz.func42, Tryz.ntmps42
            go_wp2_with (first
              | (go_at_call 60; with_reducible refine CT.out.mono ?_; rintro e w2 ⟨rfl, rfl⟩)
              | (go_at_call 62; with_reducible refine CA.out.mono ?_; rintro e w2 ⟨rfl, rfl⟩)
              | (go_at_call 62; with_reducible refine CB.out.mono ?_; rintro e w2 ⟨rfl, rfl⟩)
              | (go_at_call 69; with_reducible refine CF.out.mono ?_; rintro e w2 ⟨rfl, rfl⟩)
              | fail)
            go_ret
            exact ⟨rfl, rfl⟩
end
end Go.Proofs.YtmoaddbpfekdbaaGreat
