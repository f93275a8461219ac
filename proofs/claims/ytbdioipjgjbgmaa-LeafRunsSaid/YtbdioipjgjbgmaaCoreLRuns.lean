/- LeafRuns, walked. -/
import Derived.Test.YtbdioipjgjbgmaaLfQ
import Derived.Test.YtbdioipjgjbgmaaLfU
namespace Go.Proofs.Ytbdioipjgjbgmaa
set_option maxRecDepth 100000
open Go.RowKit
set_option linter.unusedVariables false
attribute [local go_sem ↓] key_ld ent_ld val_ld msg_ld
/-- The first j numbers as messages. -/
def runJ (ns : List Int) : Nat → List RM
  | 0 => []
  | j + 1 => runJ ns j ++ [lawM (ns.getD j 0) (j : Int)]
theorem runJ_len (ns : List Int) : ∀ j, (runJ ns j).length = j
  | 0 => rfl
  | j + 1 => by rw [runJ, List.length_append, runJ_len ns j]; rfl
theorem runJ_good (ns : List Int) : ∀ j, Good (runJ ns j)
  | 0 => Good.nil
  | j + 1 => fun x hx => by
    rw [runJ] at hx
    rcases List.mem_append.1 hx with hx | hx
    · exact runJ_good ns j x hx
    · simp at hx
      subst hx
      exact ⟨lawM_wf _ _, lawM_ok _ _⟩
theorem Good.take {l : List RM} (h : Good l) (p : Nat) : Good (l.take p) := h.sub (List.take_sublist p l)
theorem Good.drop {l : List RM} (h : Good l) (p : Nat) : Good (l.drop p) := h.sub (List.drop_sublist p l)
theorem runs_two (l : List RE) (ms : List RM) (p : Nat) : allE (allE l (ms.take p)) (ms.drop p) = allE l ms := by
  rw [← allE_app, List.take_append_drop]
theorem runs_comp {l : List RE} {ms : List RM} (ol : OkE l) (g : Good ms) : allE l (allL [] ms) = allE l ms := by
  rw [allE_comp ol OkL.nil g]; rfl
set_option maxHeartbeats 4000000 in
theorem leafRuns_core {w : World} {A0 A1 : Option Addr} {n0 c0 n1 c1 : Nat} {ns ms : List Int} {at_ : Int} (hl0 : Has w w.heap.size A0 (ns.map (Value.int .i64))) (hn0 : ns.length = n0) (hns : ∀ z ∈ ns, Is64 z) (hnm0 : n0 ≤ maxLen) (hl1 : Has w w.heap.size A1 (ms.map (Value.int .i64))) (hn1 : ms.length = n1) (hms : ∀ z ∈ ms, Is64 z) (hnm1 : n1 ≤ maxLen) (hat : Is64 at_) :
    Calls Try.prog 10 #[.slice A0 n0 c0, .slice A1 n1 c1, .int .i64 at_] w fun e w' => e = .returned (.bool true) ∧ Below w.heap.size w w' := by
  have cE := qents (c := c0) (most := 3000) hl0 (Nat.le_refl _) hn0 hns (by omega) hnm0
  have ol := entsL_ok ns 3000
  have hlen := entsL_len ns 3000
  generalize entsL ns 3000 = l at *
  clear hl0 hn0 hns
  have Hol := keep ol
  have hnm2 : (n1 : Int) ≤ 9223372036854775807 := by simp only [maxLen] at hnm1; omega
  have Hl1 := keep hl1
  have Hn1 := keep hn1
  have Hms := keep hms
  clear ol hl1 hn1 hms
  go_enter Try.func10, Try.ntmps10
  go_wp2_with fail
  refine cE.mono ?_
  rintro e X ⟨A, c, rfl, ho, top⟩
  have rr := fr_refl X
  clear cE
  go_wp2_with fail
  go_loopg [8, 9] 60 (fun gk s8 s9 wr => ∃ (j : Nat) (A' : Option Addr) (c' : Nat), j ≤ 60 ∧ 60 - j ≤ gk ∧ j ≤ n1 ∧ s9 = .int .i64 j ∧ s8 = .slice A' j c' ∧ Hid (OwnM wr X.heap.size A' c' (runJ ms j)) ∧ Hid (Fr X wr))
  case atStart => exact ⟨0, none, 0, by omega, by omega, by omega, rfl, rfl, keep (Own.nil _ _ _ _), keep rr⟩
  case round =>
    obtain ⟨j, A', c', hj60, hjg, hjn, rfl, rfl, hO, hF⟩ := hrel
    have hF1 := hF.out
    by_cases hgo : j < n1 ∧ j < 60
    · obtain ⟨hlt, h60⟩ := hgo
      have hjz : (j : Int) < (n1 : Int) := by omega
      have h60z : (j : Int) < 60 := by omega
      have hv : ms[j]? = some (ms[j]'(by rw [Hn1.out]; exact hlt)) := List.getElem?_eq_getElem _
      generalize ms[j]'(by rw [Hn1.out]; exact hlt) = v at hv
      obtain ⟨b, off, rfl, hb1, hx⟩ := int_at Hl1.out hv
      have iv : Is64 v := Hms.out v (List.mem_of_getElem? hv)
      have cell : wr.cell? ⟨b, off + j, none⟩ = some (.int .i64 v) := ((fr_step top hF1).cell (by show b < w.heap.size; omega)).trans hx
      have cM := law_msg_at (W0 := wr) (W := wr) (v := v) (s := (j : Int)) iv (by unfold Is64; omega) (fr_refl wr)
      have wm := lawM_wf v (j : Int)
      have hst : runJ ms (j + 1) = runJ ms j ++ [lawM v (j : Int)] := by
        have e : ms.getD j 0 = v := by simp [List.getD, hv]
        rw [runJ, e]
      have Hst := keep hst
      have hnl := runJ_len ms j
      have Hnl := keep hnl
      generalize lawM v (j : Int) = m at *
      generalize runJ ms j = q at *
      have hfo := fold_at wm
      have hsz : (mc m).length = 29 := mc_len wm.val.hl
      have Hwm := keep wm
      clear hv hx hlt h60 hst hnl wm
      go_wp2_with fail
      refine cM.mono ?_
      rintro e w1 ⟨rfl, f1⟩
      have hX1 := fr_step hF1 f1
      have hO1 := hO.out.fr f1
      go_wp2_with (first
        | (refine wpList_append_msg (.tmp 24) (.tmp 31) rfl rfl rfl rfl hX1 hO1 Hnl.out (by omega) Hwm.out ?_; intro A9 c9 w10 ho9 hf9)
        | fail)
      go_roundg (gk - 1)
      case measure => omega
      case rel => exact ⟨j + 1, A9, c9, by omega, by omega, by omega, rfl, rfl, by rw [Hst.out]; exact keep ho9, keep hf9⟩
    · have hnl := runJ_len ms j
      have hg := runJ_good ms j
      generalize runJ ms j = q at *
      have cPl := law_place at_ (j + 1) hat (by omega) (by omega) wr
      obtain ⟨p, hp, hpj⟩ : ∃ p : Nat, at_ % ((j + 1 : Nat) : Int) = (p : Int) ∧ p ≤ j := ⟨(at_ % ((j + 1 : Nat) : Int)).toNat, by rw [Int.toNat_of_nonneg (Int.emod_nonneg _ (by omega))], by have := Int.emod_lt_of_pos at_ (show (0 : Int) < ((j + 1 : Nat) : Int) by omega); omega⟩
      rw [hp, Int.natCast_succ] at cPl
      have Hq := keep hnl
      have Hg := keep hg
      have hcap := hO.out.cap
      rw [hnl] at hcap
      have hw1 : IntKind.i64.wrap ((j : Int) + 1) = (j : Int) + 1 := by rw [IntKind.wrap_i64]; omega
      have q1 := msgs_slice_hi A' j c' p (by omega)
      have q2 := msgs_slice_lo A' j c' p hpj
      have Htwo := keep (runs_two l q p)
      have Hcomp := keep (runs_comp Hol.out hg)
      clear hp
      by_cases hlt : j < n1
      · have h60z : ¬ (j : Int) < 60 := by omega
        have hjz : (j : Int) < (n1 : Int) := by omega
        clear hgo hlt hnl hg
        go_wp2_with fail
        refine cPl.mono ?_
        rintro e X2 ⟨rfl, f2⟩
        have hX2 := fr_step hF1 f2
        have ho2 : Hid (OwnE X2 0 A c l) := keep (Own.below ho.out hX2 (Nat.le_refl _))
        have hq2 := keep (hO.out.fr f2)
        go_wp2_with fail
        refine (qall (c2 := c') (ms := q) ho2 (by omega) Hol.out (keep hq2.out.has) (keep (Nat.le_refl _)) Hq (by omega) Hg.out).mono ?_
        rintro e X3 ⟨A3, c3, rfl, h3, f3⟩
        have ho3 : Hid (OwnE X3 0 A c l) := keep (Own.below ho2.out f3 (Nat.le_refl _))
        have hq3 := keep (hq2.out.fr f3)
        have top3 := fr_step top (fr_step hX2 f3)
        have rr3 := fr_drew (fr_refl X3)
        have cA1 : ∀ W, Fr X3 W → Calls Try.prog 50 #[.slice A l.length c, .slice A' p c'] W fun e w' => ∃ A4 c4, e = .returned (.slice A4 (allE l (q.take p)).length c4) ∧ Hid (OwnE w' 0 A4 c4 (allE l (q.take p))) ∧ Fr X3 w' := fun W h =>
          (qall (c2 := c') (ms := q.take p) (keep (Own.below ho3.out h (Nat.le_refl _))) (by omega) Hol.out (keep (has_rows_take (hq3.out.fr h).has Hg.out.wfm.wid p)) (keep (Nat.le_refl _)) (keep (by rw [List.length_take, Hq.out]; omega)) (by omega) (Hg.out.take p)).mono fun e w' hh => by
            obtain ⟨A4, c4, e1, g1, g2⟩ := hh
            exact ⟨A4, c4, e1, g1, fr_step h g2⟩
        have l1 := allE_le (q.take p) l
        rw [List.length_take, Hq.out] at l1
        have o1 := keep (allE_ok Hol.out (Hg.out.take p))
        have cA2 : ∀ W A4 c4, Hid (OwnE W 0 A4 c4 (allE l (q.take p))) → Fr X3 W → Calls Try.prog 50 #[.slice A4 (allE l (q.take p)).length c4, .slice (lowM A' c' p) (j - p) (c' - p)] W fun e w' => ∃ A5 c5, e = .returned (.slice A5 (allE l q).length c5) ∧ Hid (OwnE w' 0 A5 c5 (allE l q)) ∧ Fr X3 w' := fun W A4 c4 h4 h => by
          have k := qall (c2 := c' - p) (ms := q.drop p) h4 (by omega) o1.out (keep (has_low (hq3.out.fr h).has Hg.out.wfm (by rw [Hq.out]; exact hcap) (by rw [Hq.out]; exact hpj))) (keep (Nat.le_refl _)) (keep (by rw [List.length_drop, Hq.out])) (by omega) (Hg.out.drop p)
          rw [Htwo.out] at k
          exact k.mono fun e w' hh => by
            obtain ⟨A5, c5, e1, g1, g2⟩ := hh
            exact ⟨A5, c5, e1, g1, fr_step h g2⟩
        have l2 := allE_le q l
        rw [Hq.out] at l2
        have o2 := keep (allE_ok Hol.out Hg.out)
        have cS : ∀ W A5 c5, Hid (OwnE W 0 A5 c5 (allE l q)) → Fr X3 W → Calls Try.prog 44 #[.slice A5 (allE l q).length c5, .slice A3 (allE l q).length c3] W fun e w' => e = .returned (.bool true) ∧ Fr X3 w' := fun W A5 c5 h5 h => by
          have k := qsame h5 (by omega) o2.out.wfe (keep (Own.below h3.out h (Nat.le_refl _))) (by omega) o2.out.wfe
          rw [decide_eq_true rfl] at k
          exact k.mono fun e w' hh => ⟨hh.1, fr_step h hh.2⟩
        have l3 := allL_le q []
        rw [Hq.out, List.length_nil] at l3
        have o3 := keep (allL_ok OkL.nil Hg.out)
        have cR : ∀ W, Fr X3 W → Calls Try.prog 27 #[.slice none 0 0, .slice A' j c'] W fun e w' => ∃ A6 c6, e = .returned (.slice A6 (allL [] q).length c6) ∧ Hid (OwnM w' 0 A6 c6 (allL [] q)) ∧ Fr X3 w' := fun W h =>
          (ref_all (B := 0) (l := []) (c := 0) (c2 := c') Has.nil (Nat.zero_le _) rfl (by simp) OkL.nil (hq3.out.fr h).has (Nat.le_refl _) Hq.out (by omega) Hg.out).mono fun e w' hh => by
            obtain ⟨A6, c6, e1, g1, g2⟩ := hh
            exact ⟨A6, c6, e1, keep (g1.mono (Nat.zero_le _)), fr_step h g2⟩
        have cA3 : ∀ W A6 c6, Hid (OwnM W 0 A6 c6 (allL [] q)) → Fr X3 W → Calls Try.prog 50 #[.slice A l.length c, .slice A6 (allL [] q).length c6] W fun e w' => ∃ A5 c5, e = .returned (.slice A5 (allE l q).length c5) ∧ Hid (OwnE w' 0 A5 c5 (allE l q)) ∧ Fr X3 w' := fun W A6 c6 h6 h => by
          have k := qall (c2 := c6) (ms := allL [] q) (keep (Own.below ho3.out h (Nat.le_refl _))) (by omega) Hol.out (keep h6.out.has) (keep (Nat.le_refl _)) (keep rfl) (by omega) o3.out.good
          rw [Hcomp.out] at k
          exact k.mono fun e w' hh => by
            obtain ⟨A5, c5, e1, g1, g2⟩ := hh
            exact ⟨A5, c5, e1, g1, fr_step h g2⟩
        have cW := fun W h => awake7_at (W0 := X3) (W := W) h
        generalize (allE l (q.take p)).length = t1 at *
        generalize (allE l q).length = t2 at *
        generalize (allL [] q).length = t3 at *
        clear cPl hX2 ho2 hq2 f2 f3 h3 ho3 hq3 hO hF1 hF rr
        go_wp2_with fail
        go_region_held3 (fun w' => Fr X3 w') (first | exact rr3 | assumption)
          (first
            | (go_at_call 50; (with_reducible refine (cA1 _ (by assumption)).mono ?_); rintro e y1 ⟨A4, c4, rfl, g4, z1⟩)
            | (go_at_call 50; (with_reducible refine (cA2 _ _ _ g4 (by assumption)).mono ?_); rintro e y2 ⟨A5, c5, rfl, g5, z2⟩)
            | (go_at_call 44; (with_reducible refine (cS _ _ _ g5 (by assumption)).mono ?_); rintro e y3 ⟨rfl, z3⟩)
            | (go_at_call 27; (with_reducible refine (cR _ (by assumption)).mono ?_); rintro e y4 ⟨A6, c6, rfl, g6, z4⟩)
            | (go_at_call 50; (with_reducible refine (cA3 _ _ _ g6 (by assumption)).mono ?_); rintro e y5 ⟨A7, c7, rfl, g7, z5⟩)
            | (go_at_call 44; (with_reducible refine (cS _ _ _ g7 (by assumption)).mono ?_); rintro e y6 ⟨rfl, z6⟩)
            | (go_at_call 51; (with_reducible refine (cW _ (by assumption)).mono ?_); rintro e y7 ⟨rfl, z7⟩))
        all_goals
          go_wp2_with fail
          go_ret
          exact ⟨rfl, fr_step top3 (by assumption)⟩
      · have hjz : ¬ (j : Int) < (n1 : Int) := by omega
        clear hgo hlt hnl hg
        go_wp2_with fail
        refine cPl.mono ?_
        rintro e X2 ⟨rfl, f2⟩
        have hX2 := fr_step hF1 f2
        have ho2 : Hid (OwnE X2 0 A c l) := keep (Own.below ho.out hX2 (Nat.le_refl _))
        have hq2 := keep (hO.out.fr f2)
        go_wp2_with fail
        refine (qall (c2 := c') (ms := q) ho2 (by omega) Hol.out (keep hq2.out.has) (keep (Nat.le_refl _)) Hq (by omega) Hg.out).mono ?_
        rintro e X3 ⟨A3, c3, rfl, h3, f3⟩
        have ho3 : Hid (OwnE X3 0 A c l) := keep (Own.below ho2.out f3 (Nat.le_refl _))
        have hq3 := keep (hq2.out.fr f3)
        have top3 := fr_step top (fr_step hX2 f3)
        have rr3 := fr_drew (fr_refl X3)
        have cA1 : ∀ W, Fr X3 W → Calls Try.prog 50 #[.slice A l.length c, .slice A' p c'] W fun e w' => ∃ A4 c4, e = .returned (.slice A4 (allE l (q.take p)).length c4) ∧ Hid (OwnE w' 0 A4 c4 (allE l (q.take p))) ∧ Fr X3 w' := fun W h =>
          (qall (c2 := c') (ms := q.take p) (keep (Own.below ho3.out h (Nat.le_refl _))) (by omega) Hol.out (keep (has_rows_take (hq3.out.fr h).has Hg.out.wfm.wid p)) (keep (Nat.le_refl _)) (keep (by rw [List.length_take, Hq.out]; omega)) (by omega) (Hg.out.take p)).mono fun e w' hh => by
            obtain ⟨A4, c4, e1, g1, g2⟩ := hh
            exact ⟨A4, c4, e1, g1, fr_step h g2⟩
        have l1 := allE_le (q.take p) l
        rw [List.length_take, Hq.out] at l1
        have o1 := keep (allE_ok Hol.out (Hg.out.take p))
        have cA2 : ∀ W A4 c4, Hid (OwnE W 0 A4 c4 (allE l (q.take p))) → Fr X3 W → Calls Try.prog 50 #[.slice A4 (allE l (q.take p)).length c4, .slice (lowM A' c' p) (j - p) (c' - p)] W fun e w' => ∃ A5 c5, e = .returned (.slice A5 (allE l q).length c5) ∧ Hid (OwnE w' 0 A5 c5 (allE l q)) ∧ Fr X3 w' := fun W A4 c4 h4 h => by
          have k := qall (c2 := c' - p) (ms := q.drop p) h4 (by omega) o1.out (keep (has_low (hq3.out.fr h).has Hg.out.wfm (by rw [Hq.out]; exact hcap) (by rw [Hq.out]; exact hpj))) (keep (Nat.le_refl _)) (keep (by rw [List.length_drop, Hq.out])) (by omega) (Hg.out.drop p)
          rw [Htwo.out] at k
          exact k.mono fun e w' hh => by
            obtain ⟨A5, c5, e1, g1, g2⟩ := hh
            exact ⟨A5, c5, e1, g1, fr_step h g2⟩
        have l2 := allE_le q l
        rw [Hq.out] at l2
        have o2 := keep (allE_ok Hol.out Hg.out)
        have cS : ∀ W A5 c5, Hid (OwnE W 0 A5 c5 (allE l q)) → Fr X3 W → Calls Try.prog 44 #[.slice A5 (allE l q).length c5, .slice A3 (allE l q).length c3] W fun e w' => e = .returned (.bool true) ∧ Fr X3 w' := fun W A5 c5 h5 h => by
          have k := qsame h5 (by omega) o2.out.wfe (keep (Own.below h3.out h (Nat.le_refl _))) (by omega) o2.out.wfe
          rw [decide_eq_true rfl] at k
          exact k.mono fun e w' hh => ⟨hh.1, fr_step h hh.2⟩
        have l3 := allL_le q []
        rw [Hq.out, List.length_nil] at l3
        have o3 := keep (allL_ok OkL.nil Hg.out)
        have cR : ∀ W, Fr X3 W → Calls Try.prog 27 #[.slice none 0 0, .slice A' j c'] W fun e w' => ∃ A6 c6, e = .returned (.slice A6 (allL [] q).length c6) ∧ Hid (OwnM w' 0 A6 c6 (allL [] q)) ∧ Fr X3 w' := fun W h =>
          (ref_all (B := 0) (l := []) (c := 0) (c2 := c') Has.nil (Nat.zero_le _) rfl (by simp) OkL.nil (hq3.out.fr h).has (Nat.le_refl _) Hq.out (by omega) Hg.out).mono fun e w' hh => by
            obtain ⟨A6, c6, e1, g1, g2⟩ := hh
            exact ⟨A6, c6, e1, keep (g1.mono (Nat.zero_le _)), fr_step h g2⟩
        have cA3 : ∀ W A6 c6, Hid (OwnM W 0 A6 c6 (allL [] q)) → Fr X3 W → Calls Try.prog 50 #[.slice A l.length c, .slice A6 (allL [] q).length c6] W fun e w' => ∃ A5 c5, e = .returned (.slice A5 (allE l q).length c5) ∧ Hid (OwnE w' 0 A5 c5 (allE l q)) ∧ Fr X3 w' := fun W A6 c6 h6 h => by
          have k := qall (c2 := c6) (ms := allL [] q) (keep (Own.below ho3.out h (Nat.le_refl _))) (by omega) Hol.out (keep h6.out.has) (keep (Nat.le_refl _)) (keep rfl) (by omega) o3.out.good
          rw [Hcomp.out] at k
          exact k.mono fun e w' hh => by
            obtain ⟨A5, c5, e1, g1, g2⟩ := hh
            exact ⟨A5, c5, e1, g1, fr_step h g2⟩
        have cW := fun W h => awake7_at (W0 := X3) (W := W) h
        generalize (allE l (q.take p)).length = t1 at *
        generalize (allE l q).length = t2 at *
        generalize (allL [] q).length = t3 at *
        clear cPl hX2 ho2 hq2 f2 f3 h3 ho3 hq3 hO hF1 hF rr
        go_wp2_with fail
        go_region_held3 (fun w' => Fr X3 w') (first | exact rr3 | assumption)
          (first
            | (go_at_call 50; (with_reducible refine (cA1 _ (by assumption)).mono ?_); rintro e y1 ⟨A4, c4, rfl, g4, z1⟩)
            | (go_at_call 50; (with_reducible refine (cA2 _ _ _ g4 (by assumption)).mono ?_); rintro e y2 ⟨A5, c5, rfl, g5, z2⟩)
            | (go_at_call 44; (with_reducible refine (cS _ _ _ g5 (by assumption)).mono ?_); rintro e y3 ⟨rfl, z3⟩)
            | (go_at_call 27; (with_reducible refine (cR _ (by assumption)).mono ?_); rintro e y4 ⟨A6, c6, rfl, g6, z4⟩)
            | (go_at_call 50; (with_reducible refine (cA3 _ _ _ g6 (by assumption)).mono ?_); rintro e y5 ⟨A7, c7, rfl, g7, z5⟩)
            | (go_at_call 44; (with_reducible refine (cS _ _ _ g7 (by assumption)).mono ?_); rintro e y6 ⟨rfl, z6⟩)
            | (go_at_call 51; (with_reducible refine (cW _ (by assumption)).mono ?_); rintro e y7 ⟨rfl, z7⟩))
        all_goals
          go_wp2_with fail
          go_ret
          exact ⟨rfl, fr_step top3 (by assumption)⟩
end Go.Proofs.Ytbdioipjgjbgmaa
