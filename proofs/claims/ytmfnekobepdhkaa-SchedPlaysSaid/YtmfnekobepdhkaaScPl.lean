/- SchedPlays, walked. -/
import Derived.Test.YtmfnekobepdhkaaScPf
namespace Go.Proofs.Ytmfnekobepdhkaa
set_option linter.unusedVariables false
set_option linter.unusedSimpArgs false
set_option maxRecDepth 100000
open Go.RowKit
set_option maxHeartbeats 8000000 in
theorem plays_core {w : World} {n : Int} (hn : Is64 n) {A : Option Addr} {m c : Nat} {l : List RStep} (hl : Has w w.heap.size A (rows stepC l)) (hm : l.length = m) (hmx : m ≤ maxLen) (hw : ∀ s ∈ l, s.wf) :
    Calls Try.prog 3 #[.int .i64 n, .slice A m c] w fun e w' => e = .returned (.bool true) ∧ Below w.heap.size w w' := by
  by_cases hf : n < 1 ∨ 8 < n ∨ 200 < m
  · exact plays_few hn hmx hf
  obtain ⟨k, rfl, hk1, hk2⟩ : ∃ k : Nat, n = k ∧ 1 ≤ k ∧ k ≤ 8 := ⟨n.toNat, by omega, by omega, by omega⟩
  have c1 := new_yes w k hk1 hk2
  have c2 := fun W => rnew_yes W k hk1 hk2
  have h200 : ¬ 200 < m := by omega
  clear hf hmx
  have HL := keep hl
  have HM := keep hm
  have HW := keep hw
  clear hl hm hw hn
  go_enter Try.func3, Try.ntmps3
  go_wp2_with fail
  refine c1.mono ?_
  rintro e w1 ⟨g, rfl, h1⟩
  go_wp2_with fail
  refine (c2 w1).mono ?_
  rintro e w2 ⟨r, gs, gw, gp, rfl, h2⟩
  have P0 : Hid (BIn w w2 k g r gs gw gp 0 (newT k)) := by
    have hg := h1.out.1.box.lt
    have hs := h1.out.2.1.size
    exact keep ⟨h1.out.1.fr h2.out.2, h2.out.1.weak fun i _ hi => ⟨by omega, by omega⟩, by simp [newT], h1.out.2.2, fr_step h1.out.2.1 h2.out.2⟩
  clear h1 h2 c1 c2
  go_wp2_with fail
  go_loopg [9] m (fun g' s9 wr => ∃ (j : Nat) (t : Tab), j + g' = m ∧ s9 = .int .i64 j ∧ Hid (BIn w wr k g r gs gw gp j t))
  case atStart => exact ⟨0, _, by omega, rfl, P0⟩
  case round =>
    clear P0
    obtain ⟨j, t, hj, rfl, hP⟩ := hrel
    by_cases hlt : j < m
    · have hjz : (j : Int) < (m : Int) := by omega
      have hx : l[j]? = some (l[j]'(by rw [HM.out]; exact hlt)) := List.getElem?_eq_getElem _
      generalize l[j]'(by rw [HM.out]; exact hlt) = s at hx
      obtain ⟨v0, v1⟩ := HW.out s (List.mem_of_getElem? hx)
      obtain ⟨b0, off, rfl, hb0, hr0⟩ := has_rows HL.out (stepC_wid l) (by decide) (by intro e; rw [e] at hx; simp at hx)
      have x0 := elem_cell0 hr0 (stepC_wid l) hb0 hx (u := .int .i64 s.what) rfl
      have x1 := elem_cell (o := 1) hr0 (stepC_wid l) hb0 hx (u := .int .i64 s.id) rfl
      have fw := hP.out.fr
      obtain ⟨s0, s1⟩ := s
      simp only at v0 v1 x0 x1
      unfold Is64 at v0 v1
      have cPk : ∀ W, Calls Try.prog 11 #[.int .i64 s1, .int .i64 ((k : Int) + 1)] W fun e w' => e = .returned (.int .i64 (s1 % ((k : Int) + 1))) ∧ Fr W w' := fun W => by
        have := law_place s1 (k + 1) v1 (by omega) (by omega) W
        rwa [show ((k + 1 : Nat) : Int) = (k : Int) + 1 by omega] at this
      have Hlt := keep hlt
      have ww := fr_refl wr
      obtain ⟨q4, hq4, hq5⟩ : ∃ q : Nat, Int.tmod (j : Int) 4 = q ∧ q < 4 := ⟨j % 4, by rw [Int.tmod_eq_emod_of_nonneg (by omega)]; omega, by omega⟩
      clear hx hlt hr0
      go_upto_if 57 with fail
      go_cut [10] from 55 to 61 (fun s10 W => ∃ v : Int, s10 = .int .i64 v ∧ (-9223372036854775808 ≤ v ∧ v ≤ 9223372036854775807) ∧ Hid (Fr wr W))
      case first =>
        by_cases h4 : 0 < (q4 : Int)
        · go_wp2_with fail
          refine (cPk wr).mono ?_
          rintro e w' ⟨rfl, f⟩
          go_wp2_with fail
          go_meet
          exact ⟨_, rfl, by have := Int.emod_nonneg s1 (b := (k : Int) + 1) (by omega); have := Int.emod_lt_of_pos s1 (b := (k : Int) + 1) (by omega); omega, keep f⟩
        · go_wp2_with fail
          go_meet
          exact ⟨s1, rfl, v1, keep ww⟩
      case rest =>
        obtain ⟨v, rfl, hv, hF⟩ := hcut
        obtain ⟨V1, eW⟩ : ∃ W, W = wc := ⟨_, rfl⟩
        rw [← eW]
        rw [← eW] at hF
        clear eW cPk
        have P1 := keep (hP.out.to hF.out)
        have fw1 := P1.out.fr
        clear hP hF fw
        go_upto_block 2 with fail
        go_cut [5] from 67 to 110 (fun s5 W => ∃ t', s5 = .pointer (some ⟨g, 0, none⟩) ∧ Hid (BIn w W k g r gs gw gp (j + 1) t'))
        case first =>
          rcases (show s0 = 0 ∨ s0 = 1 ∨ s0 = 2 ∨ (s0 ≠ 0 ∧ s0 ≠ 1 ∧ s0 ≠ 2) by omega) with rfl | rfl | rfl | ⟨n0, n1, n2⟩
          · have c1 := block_at (i := v) P1.out.pt hv
            go_wp2_with fail
            refine c1.mono ?_
            rintro e w3 ⟨rfl, h⟩
            obtain ⟨hr, f3⟩ := P1.out.prog h.out.2
            have c2 := rblock_at (i := v) hr hv
            clear c1
            go_wp2_with fail
            refine c2.mono ?_
            rintro e w4 ⟨rfl, h'⟩
            go_wp2_with fail
            go_meet
            exact ⟨_, rfl, keep ((bin_both h.out.1 h'.out.1 h'.out.2 (by rw [turnT_n]; exact P1.out.len) P1.out.lo f3).mono (Nat.le_succ j))⟩
          · have c1 := wake_at (i := v) P1.out.pt hv
            go_wp2_with fail
            refine c1.mono ?_
            rintro e w3 ⟨rfl, h⟩
            obtain ⟨hr, f3⟩ := P1.out.prog h.out.2
            have c2 := rwake_at (i := v) hr hv
            clear c1
            go_wp2_with fail
            refine c2.mono ?_
            rintro e w4 ⟨rfl, h'⟩
            go_wp2_with fail
            go_meet
            exact ⟨_, rfl, keep ((bin_both h.out.1 h'.out.1 h'.out.2 (by rw [turnT_n]; exact P1.out.len) P1.out.lo f3).mono (Nat.le_succ j))⟩
          · have c1 := end_at (i := v) P1.out.pt hv
            go_wp2_with fail
            refine c1.mono ?_
            rintro e w3 ⟨rfl, h⟩
            obtain ⟨hr, f3⟩ := P1.out.prog h.out.2
            have c2 := rend_at (i := v) hr hv
            clear c1
            go_wp2_with fail
            refine c2.mono ?_
            rintro e w4 ⟨rfl, h'⟩
            go_wp2_with fail
            go_meet
            exact ⟨_, rfl, keep ((bin_both h.out.1 h'.out.1 h'.out.2 (by rw [turnT_n]; exact P1.out.len) P1.out.lo f3).mono (Nat.le_succ j))⟩
          · have e0 : (s0 == 0) = false := by rw [beq_eq_false_iff_ne]; exact n0
            have e1 : (s0 == 1) = false := by rw [beq_eq_false_iff_ne]; exact n1
            have e2 : (s0 == 2) = false := by rw [beq_eq_false_iff_ne]; exact n2
            have c1 := pick_at (p := v) P1.out.pt (by omega) hv
            go_wp2_with fail
            refine c1.mono ?_
            rintro e w3 ⟨rfl, h⟩
            obtain ⟨hr, f3⟩ := P1.out.prog h.out.2
            have c2 := rpick_at (p := v) hr (by omega) hv
            have hst := pickT_n t v
            generalize pickI t v = pI at *
            generalize pickB t = pB at *
            clear c1
            go_wp2_with fail
            refine c2.mono ?_
            rintro e w4 ⟨rfl, h'⟩
            go_wp2_with fail
            go_meet
            exact ⟨_, rfl, keep (bin_both h.out.1 h'.out.1 h'.out.2 (by rw [hst]; exact P1.out.len) P1.out.lo f3)⟩
        case rest =>
          obtain ⟨t', rfl, hB⟩ := hcut
          obtain ⟨V2, eW⟩ : ∃ W, W = wc := ⟨_, rfl⟩
          rw [← eW]
          rw [← eW] at hB
          clear eW P1 fw1
          have vd := fr_drew (fr_refl V2)
          obtain ⟨N, hN⟩ : ∃ N, (runL t').length = N := ⟨_, rfl⟩
          have HN := keep hN
          have hN8 : N ≤ 8 := by have := runJ_len t'.st t'.st.length; have := hB.out.pt.ok.n; rw [← hN, runL, natI_len, runN]; omega
          have cR1 : ∀ W, Fr V2 W → Calls Try.prog 21 #[.pointer (some ⟨g, 0, none⟩)] W fun e w' => ∃ A c, e = .returned (.slice A N c) ∧ Fr V2 w' ∧ Fr W w' ∧ HasP w' (fun _ => True) A (ints (runL t')) := fun W f => (runnable_at (hB.out.pt.fr f)).mono fun e w' ⟨A, n', c, he, hh⟩ => ⟨A, c, by rw [he, ← hh.out.1, HN.out], fr_step f hh.out.2.2, hh.out.2.2, hh.out.2.1.hasP fun _ _ => trivial⟩
          have cR2 : ∀ W, Fr V2 W → Calls Try.prog 22 #[.pointer (some ⟨r, 0, none⟩)] W fun e w' => ∃ A c, e = .returned (.slice A N c) ∧ Fr V2 w' ∧ Fr W w' ∧ HasP w' (fun _ => True) A (ints (runL t')) := fun W f => (rrunnable_at (hB.out.dt.fr f)).mono fun e w' ⟨A, n', c, he, hh⟩ => ⟨A, c, by rw [he, ← hh.out.1, HN.out], fr_step f hh.out.2.2, hh.out.2.2, hh.out.2.1.hasP fun _ _ => trivial⟩
          have cS : ∀ W, Fr V2 W → ∀ A d A' d', HasP W (fun _ => True) A (ints (runL t')) → HasP W (fun _ => True) A' (ints (runL t')) → Calls Try.prog 20 #[.slice A N d, .slice A' N d'] W fun e w' => e = .returned (.bool true) ∧ Fr V2 w' := fun W f A d A' d' h1 h2 => by
            have := sameints_at (c := d) (c2 := d') h1.has (Nat.le_refl _) HN.out (by omega) h2.has (Nat.le_refl _) HN.out (by omega) f
            rwa [decide_eq_true rfl] at this
          have cE : ∀ W, Fr V2 W → Calls Try.prog 23 #[.pointer (some ⟨g, 0, none⟩)] W fun e w' => e = .returned (.bool (endT t')) ∧ Fr V2 w' := fun W f => (ended_at (hB.out.pt.fr f)).mono fun e w' ⟨he, hh⟩ => ⟨he, fr_step f hh⟩
          have cE2 : ∀ W, Fr V2 W → Calls Try.prog 24 #[.pointer (some ⟨r, 0, none⟩)] W fun e w' => e = .returned (.bool (endT t')) ∧ Fr V2 w' := fun W f => (rended_at (hB.out.dt.fr f)).mono fun e w' ⟨he, hh⟩ => ⟨he, hh ▸ f⟩
          have cW : ∀ W, Fr V2 W → Calls Try.prog 25 #[.pointer (some ⟨g, 0, none⟩)] W fun e w' => e = .returned (.int .i64 t'.mo) ∧ Fr V2 w' := fun W f => (worst_at (hB.out.pt.fr f)).mono fun e w' ⟨he, hh⟩ => ⟨he, hh ▸ f⟩
          have cMo : ∀ W, Fr V2 W → W.cell? ⟨r, 3, none⟩ = some (.int .i64 t'.mo) := fun W f => ((hB.out.dt.fr f).db.cells).2.2.2
          generalize endT t' = E at *
          generalize t'.mo = M at *
          clear hN
          go_wp2_with fail
          refine wp_region_noPanic ?_
          refine wp_region_held_drew (S := fun W => Fr V2 W) (by kernel_rfl) vd (fun hHeld => ?_)
          change wpAnyH _ _ _ _ _ _ _ _ _
          refine wpAnyH_take (i := 0) (v := ?_) rfl (by kernel_rfl) (by kernel_rfl) (by kernel_rfl) (fun _ _ _ h => h) (Or.inl ⟨by rfl, ?_⟩) (by assumption) ?_
          rotate_left
          · intro w' hSw
            try dsimp only at hSw
            go_simp
            try with_reducible rfl
          try simp only [List.getElem_toArray, List.getElem_cons_zero, Act.put, List.setIfInBounds_toArray, List.set_cons_zero, List.set_cons_succ]
          refine wpAnyH_take (i := 2) (v := ?_) rfl (by kernel_rfl) (by kernel_rfl) (by kernel_rfl) (fun _ _ _ h => h) (Or.inl ⟨by rfl, ?_⟩) (by assumption) ?_
          rotate_left
          · intro w' hSw
            try dsimp only at hSw
            go_simp
            try with_reducible rfl
          try simp only [List.getElem_toArray, List.getElem_cons_succ, List.getElem_cons_zero, Act.put, List.setIfInBounds_toArray, List.set_cons_zero, List.set_cons_succ]
          refine wpAnyH_ready (rs := [1]) (by kernel_rfl) (by simp) ?_
          refine AllReadyH.cons rfl (fun K hK0 => ?_) AllReadyH.nil
          go_simp
          refine (cR1 _ (by assumption)).mono ?_
          rintro e w1x ⟨A1, d1, rfl, f1x, g1x, ha1⟩
          go_simp
          refine hK0.out _ _ f1x (fun hS1 => ?_)
          clear hK0 K
          try simp only [List.getElem_toArray, List.getElem_cons_succ, List.getElem_cons_zero, Act.put, List.setIfInBounds_toArray, List.set_cons_zero, List.set_cons_succ]
          refine wpAnyH_ready (rs := [3]) (by kernel_rfl) (by simp) ?_
          refine AllReadyH.cons rfl (fun K hK0 => ?_) AllReadyH.nil
          go_simp
          refine (cR2 _ (by assumption)).mono ?_
          rintro e w3x ⟨A3, d3, rfl, f3x, g3x, ha3⟩
          go_simp
          refine hK0.out _ _ f3x (fun hS3 => ?_)
          clear hK0 K
          try simp only [List.getElem_toArray, List.getElem_cons_succ, List.getElem_cons_zero, Act.put, List.setIfInBounds_toArray, List.set_cons_zero, List.set_cons_succ]
          refine wpAnyH_ready (rs := [4]) (by kernel_rfl) (by simp) ?_
          refine AllReadyH.cons rfl (fun K hK0 => ?_) AllReadyH.nil
          go_simp
          refine (cS _ (by assumption) A1 d1 A3 d3 (by first | exact ha1 | exact ha1.fr g3x) (by first | exact ha3 | exact ha3.fr g1x)).mono ?_
          rintro e w4x ⟨rfl, f4x⟩
          go_simp
          refine hK0.out _ _ f4x (fun hS4 => ?_)
          clear hK0 K
          try simp only [List.getElem_toArray, List.getElem_cons_succ, List.getElem_cons_zero, Act.put, List.setIfInBounds_toArray, List.set_cons_zero, List.set_cons_succ]
          refine wpAnyH_take (i := 5) (v := .bool false) rfl (by kernel_rfl) (by kernel_rfl) (by kernel_rfl) (fun _ _ _ h => h) (Or.inl ⟨by rfl, ?_⟩) (by assumption) ?_
          · intro w' hSw
            try dsimp only at hSw
            try go_simp
            all_goals first | done | with_reducible rfl | omega | assumption | (simp; omega)
          try simp only [List.getElem_toArray, List.getElem_cons_succ, List.getElem_cons_zero, Act.put, List.setIfInBounds_toArray, List.set_cons_zero, List.set_cons_succ]
          refine wpAnyH_take (i := 6) (v := .bool false) rfl (by kernel_rfl) (by kernel_rfl) (by kernel_rfl) (fun _ _ _ h => h) (Or.inl ⟨by rfl, ?_⟩) (by assumption) ?_
          · intro w' hSw
            try dsimp only at hSw
            try go_simp
            all_goals first | done | with_reducible rfl | omega | assumption | (simp; omega)
          try simp only [List.getElem_toArray, List.getElem_cons_succ, List.getElem_cons_zero, Act.put, List.setIfInBounds_toArray, List.set_cons_zero, List.set_cons_succ]
          refine wpAnyH_take (i := 7) (v := ?_) rfl (by kernel_rfl) (by kernel_rfl) (by kernel_rfl) (fun _ _ _ h => h) (Or.inl ⟨by rfl, ?_⟩) (by assumption) ?_
          rotate_left
          · intro w' hSw
            try dsimp only at hSw
            go_simp
            try with_reducible rfl
          try simp only [List.getElem_toArray, List.getElem_cons_succ, List.getElem_cons_zero, Act.put, List.setIfInBounds_toArray, List.set_cons_zero, List.set_cons_succ]
          refine wpAnyH_take (i := 9) (v := ?_) rfl (by kernel_rfl) (by kernel_rfl) (by kernel_rfl) (fun _ _ _ h => h) (Or.inl ⟨by rfl, ?_⟩) (by assumption) ?_
          rotate_left
          · intro w' hSw
            try dsimp only at hSw
            go_simp
            try with_reducible rfl
          try simp only [List.getElem_toArray, List.getElem_cons_succ, List.getElem_cons_zero, Act.put, List.setIfInBounds_toArray, List.set_cons_zero, List.set_cons_succ]
          refine wpAnyH_ready (rs := [8]) (by kernel_rfl) (by simp) ?_
          refine AllReadyH.cons rfl (fun K hK0 => ?_) AllReadyH.nil
          go_simp
          refine (cE _ (by assumption)).mono ?_
          rintro e w8x ⟨rfl, f8x⟩
          go_simp
          refine hK0.out _ _ f8x (fun hS8 => ?_)
          clear hK0 K
          try simp only [List.getElem_toArray, List.getElem_cons_succ, List.getElem_cons_zero, Act.put, List.setIfInBounds_toArray, List.set_cons_zero, List.set_cons_succ]
          refine wpAnyH_ready (rs := [10]) (by kernel_rfl) (by simp) ?_
          refine AllReadyH.cons rfl (fun K hK0 => ?_) AllReadyH.nil
          go_simp
          refine (cE2 _ (by assumption)).mono ?_
          rintro e w10x ⟨rfl, f10x⟩
          go_simp
          refine hK0.out _ _ f10x (fun hS10 => ?_)
          clear hK0 K
          try simp only [List.getElem_toArray, List.getElem_cons_succ, List.getElem_cons_zero, Act.put, List.setIfInBounds_toArray, List.set_cons_zero, List.set_cons_succ]
          refine wpAnyH_take (i := 11) (v := .bool false) rfl (by kernel_rfl) (by kernel_rfl) (by kernel_rfl) (fun _ _ _ h => h) (Or.inl ⟨by rfl, ?_⟩) (by assumption) ?_
          · intro w' hSw
            try dsimp only at hSw
            try go_simp
            all_goals first | done | with_reducible rfl | omega | assumption | (simp; omega)
          try simp only [List.getElem_toArray, List.getElem_cons_succ, List.getElem_cons_zero, Act.put, List.setIfInBounds_toArray, List.set_cons_zero, List.set_cons_succ]
          refine wpAnyH_take (i := 12) (v := .bool false) rfl (by kernel_rfl) (by kernel_rfl) (by kernel_rfl) (fun _ _ _ h => h) (Or.inl ⟨by rfl, ?_⟩) (by assumption) ?_
          · intro w' hSw
            try dsimp only at hSw
            try go_simp
            all_goals first | done | with_reducible rfl | omega | assumption | (simp; omega)
          try simp only [List.getElem_toArray, List.getElem_cons_succ, List.getElem_cons_zero, Act.put, List.setIfInBounds_toArray, List.set_cons_zero, List.set_cons_succ]
          refine wpAnyH_take (i := 13) (v := .bool false) rfl (by kernel_rfl) (by kernel_rfl) (by kernel_rfl) (fun _ _ _ h => h) (Or.inl ⟨by rfl, ?_⟩) (by assumption) ?_
          · intro w' hSw
            try dsimp only at hSw
            try go_simp
            all_goals first | done | with_reducible rfl | omega | assumption | (simp; omega)
          try simp only [List.getElem_toArray, List.getElem_cons_succ, List.getElem_cons_zero, Act.put, List.setIfInBounds_toArray, List.set_cons_zero, List.set_cons_succ]
          refine wpAnyH_take (i := 14) (v := ?_) rfl (by kernel_rfl) (by kernel_rfl) (by kernel_rfl) (fun _ _ _ h => h) (Or.inl ⟨by rfl, ?_⟩) (by assumption) ?_
          rotate_left
          · intro w' hSw
            try dsimp only at hSw
            go_simp
            try with_reducible rfl
          try simp only [List.getElem_toArray, List.getElem_cons_succ, List.getElem_cons_zero, Act.put, List.setIfInBounds_toArray, List.set_cons_zero, List.set_cons_succ]
          refine wpAnyH_take (i := 16) (v := ?_) rfl (by kernel_rfl) (by kernel_rfl) (by kernel_rfl) (fun _ _ _ h => h) (Or.inl ⟨by rfl, ?_⟩) (by assumption) ?_
          rotate_left
          · intro w' hSw
            try dsimp only at hSw
            go_simp
            try with_reducible rfl
          try simp only [List.getElem_toArray, List.getElem_cons_succ, List.getElem_cons_zero, Act.put, List.setIfInBounds_toArray, List.set_cons_zero, List.set_cons_succ]
          refine wpAnyH_take (i := 17) (v := ?_) rfl (by kernel_rfl) (by kernel_rfl) (by kernel_rfl) (fun _ _ _ h => h) (Or.inl ⟨by rfl, ?_⟩) (by assumption) ?_
          rotate_left
          · intro w' hSw
            try dsimp only at hSw
            go_simp
            try with_reducible rfl
          try simp only [List.getElem_toArray, List.getElem_cons_succ, List.getElem_cons_zero, Act.put, List.setIfInBounds_toArray, List.set_cons_zero, List.set_cons_succ]
          refine wpAnyH_take (i := 18) (v := ?_) rfl (by kernel_rfl) (by kernel_rfl) (by kernel_rfl) (fun _ _ _ h => h) (Or.inl ⟨by rfl, ?_⟩) (by assumption) ?_
          rotate_left
          · intro w' hSw
            try dsimp only at hSw
            go_simp
            try with_reducible rfl
          try simp only [List.getElem_toArray, List.getElem_cons_succ, List.getElem_cons_zero, Act.put, List.setIfInBounds_toArray, List.set_cons_zero, List.set_cons_succ]
          refine wpAnyH_take (i := 19) (v := ?_) rfl (by kernel_rfl) (by kernel_rfl) (by kernel_rfl) (fun _ _ _ h => h) (Or.inl ⟨by rfl, ?_⟩) (by assumption) ?_
          rotate_left
          · intro w' hSw
            try dsimp only at hSw
            go_simp
            try with_reducible rfl
          try simp only [List.getElem_toArray, List.getElem_cons_succ, List.getElem_cons_zero, Act.put, List.setIfInBounds_toArray, List.set_cons_zero, List.set_cons_succ]
          refine wpAnyH_ready (rs := [15]) (by kernel_rfl) (by simp) ?_
          refine AllReadyH.cons rfl (fun K hK0 => ?_) AllReadyH.nil
          go_simp
          refine (cW _ (by assumption)).mono ?_
          rintro e w15x ⟨rfl, f15x⟩
          go_simp
          refine hK0.out _ _ f15x (fun hS15 => ?_)
          clear hK0 K
          try simp only [List.getElem_toArray, List.getElem_cons_succ, List.getElem_cons_zero, Act.put, List.setIfInBounds_toArray, List.set_cons_zero, List.set_cons_succ]
          refine wpAnyH_take (i := 20) (v := .bool false) rfl (by kernel_rfl) (by kernel_rfl) (by kernel_rfl) (fun _ _ _ h => h) (Or.inl ⟨by rfl, ?_⟩) (by assumption) ?_
          · intro w' hSw
            try dsimp only at hSw
            try go_simp
            all_goals first | done | with_reducible rfl | omega | assumption | (simp; omega)
          try simp only [List.getElem_toArray, List.getElem_cons_succ, List.getElem_cons_zero, Act.put, List.setIfInBounds_toArray, List.set_cons_zero, List.set_cons_succ]
          refine wpAnyH_take (i := 21) (v := .bool false) rfl (by kernel_rfl) (by kernel_rfl) (by kernel_rfl) (fun _ _ _ h => h) (Or.inl ⟨by rfl, ?_⟩) (by assumption) ?_
          · intro w' hSw
            try dsimp only at hSw
            try go_simp
            all_goals first | done | with_reducible rfl | omega | assumption | (simp; omega)
          try simp only [List.getElem_toArray, List.getElem_cons_succ, List.getElem_cons_zero, Act.put, List.setIfInBounds_toArray, List.set_cons_zero, List.set_cons_succ]
          refine wpAnyH_done (by kernel_rfl) ?_ _
          refine NoPanic.normal ?_
          have P3 := keep (hB.out.to f15x)
          have Wx : Hid (∃ W, W = w15x) := keep ⟨_, rfl⟩
          clear hB cR1 cR2 cS cE cE2 cW cMo vd HN hN8
          generalize w15x = V3 at *
          go_wp2_with fail
          obtain ⟨gko, rfl⟩ : ∃ x, x = gk := ⟨_, rfl⟩
          go_loopg [15] (k + 2) (fun g2 s15 wr2 => ∃ y : Nat, y + g2 = k + 2 ∧ s15 = .int .i64 ((y : Int) - 1) ∧ Hid (wr2 = V3))
          case atStart => exact ⟨0, by omega, rfl, keep rfl⟩
          case round =>
            obtain ⟨y, hy, rfl, hW2⟩ := hrel
            obtain rfl : V3 = wr := hW2.out.symm
            by_cases hyk : y < k + 2
            · have hyz : (y : Int) - 1 ≤ (k : Int) := by omega
              have hyb : -9223372036854775808 ≤ (y : Int) - 1 ∧ (y : Int) - 1 ≤ 9223372036854775807 := by omega
              have d1 := picks_at (i := (y : Int) - 1) P3.out.pt hyb
              have d2 := rpicks_at (i := (y : Int) - 1) P3.out.dt hyb
              have d3 := wait_at (i := (y : Int) - 1) P3.out.pt hyb
              have d4 := rwait_at (i := (y : Int) - 1) P3.out.dt hyb
              generalize atI t'.pk ((y : Int) - 1) = a1 at *
              generalize atI t'.wa ((y : Int) - 1) = a2 at *
              have hy1 : (y : Int) - 1 + 1 = ((y + 1 : Nat) : Int) - 1 := by omega
              clear hyk
              go_wp2_with (first
                | (go_at_call 26; refine d1.mono ?_; rintro e w' ⟨rfl, rfl⟩)
                | (go_at_call 27; refine d2.mono ?_; rintro e w' ⟨rfl, rfl⟩)
                | (go_at_call 28; refine d3.mono ?_; rintro e w' ⟨rfl, rfl⟩)
                | (go_at_call 29; refine d4.mono ?_; rintro e w' ⟨rfl, rfl⟩)
                | fail)
              go_roundg (gk - 1)
              case measure => omega
              case rel => exact ⟨y + 1, by omega, by congr 1; omega, keep rfl⟩
            · have hyz : ¬ (y : Int) - 1 ≤ (k : Int) := by omega
              clear hyk
              go_wp2_with fail
              have hjm := Hlt.out
              go_roundg (gko - 1)
              case measure => omega
              case rel => exact ⟨j + 1, t', by omega, rfl, P3⟩
    · have hjm : j = m := by omega
      have hjz : ¬ (j : Int) < (m : Int) := by omega
      have ca := awake13 wr
      clear hlt hjm
      go_wp2_with (first | (refine ca.mono ?_; rintro e wa ⟨rfl, fa⟩) | fail)
      go_ret
      exact ⟨rfl, fr_step hP.out.fr fa⟩
end Go.Proofs.Ytmfnekobepdhkaa
