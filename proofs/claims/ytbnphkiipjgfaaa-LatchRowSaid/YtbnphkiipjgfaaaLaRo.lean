/- LatchRow, walked. -/
import Derived.Test.YtbnphkiipjgfaaaLaDo
import Derived.Test.YtbnphkiipjgfaaaLaRm
namespace Go.Proofs.Ytbnphkiipjgfaaa
set_option linter.unusedVariables false
set_option linter.unusedSimpArgs false
set_option maxRecDepth 100000
open Go.RowKit
theorem ro1 : tryB newT 100 true = true ∧ takeT newT 100 true = ⟨[], 100, [], 0⟩ := ⟨by decide, by rfl⟩
theorem ro2 {ws : List Bool} (h : ws.length ≤ 20) : dropT ⟨[], 100, enq ws 0, 0⟩ 100 = rowL ws 0 := by
  have e : outT ⟨[], 100, enq ws 0, 0⟩ 100 = ⟨[], -1, enq ws 0, 0⟩ := by
    have h9 : (enq ws 0).filter (fun y => !decide (y.1 = 100)) = enq ws 0 := List.filter_eq_self.2 fun y hy => by
      have := enq_mem hy
      simp only [Bool.not_eq_true', decide_eq_false_iff_not]
      omega
    simp only [outT, if_true, List.filter_nil, h9]
  rw [dropT, if_neg (by omega), e]
  rfl
theorem Rw.klen {w : World} {B : Option Addr} {k b : Nat} {l : List Int} (h : Rw w 3 1 B k b (rows ic l)) : l.length = k := by
  have := h.len
  rw [rows_len (ic_wid _)] at this
  omega
set_option maxHeartbeats 16000000 in
theorem row_core {w : World} {A : Option Addr} {m c : Nat} {ws : List Bool} (hl : Has w w.heap.size A (bls ws)) (hm : ws.length = m) (hmx : m ≤ maxLen) :
    Calls Try.prog 5 #[.slice A m c] w fun e w' => e = .returned (.bool true) ∧ Below w.heap.size w w' := by
  unfold maxLen at hmx
  by_cases h20 : 20 < m
  · have h20z : 20 < (m : Int) := by omega
    clear hl hm
    go_enter Try.func5, Try.ntmps5
    go_wp2_with fail
    with_reducible refine (lnewg w).mono ?_
    rintro e v0 ⟨g, rfl, h0⟩
    go_wp2_with fail
    with_reducible refine (awake14 v0).mono ?_
    rintro e v1 ⟨rfl, f⟩
    go_wp2_with fail
    go_ret
    exact ⟨rfl, fr_step h0.out.fr f⟩
  · have h20z : ¬ 20 < (m : Int) := by omega
    have HL := keep hl
    have HM := keep hm
    clear hl hm
    go_enter Try.func5, Try.ntmps5
    go_wp2_with fail
    with_reducible refine (lnewg w).mono ?_
    rintro e v0 ⟨g, rfl, h0⟩
    have c1 := ltake (x := 100) (b := true) h0.out (by omega) (by omega)
    rw [ro1.1, ro1.2] at c1
    clear h0
    go_wp2_with fail
    with_reducible refine c1.mono ?_
    rintro e v1 ⟨rfl, h1⟩
    clear c1
    go_wp2_with fail
    go_loopg [4] m (fun gg s4 wr => ∃ j : Nat, j + gg = m ∧ s4 = .int .i64 j ∧ Hid (LB w wr g ⟨[], 100, enq (ws.take j) 0, 0⟩ (j + 1)))
    case atStart => exact ⟨0, by omega, rfl, h1⟩
    case round =>
      clear h1
      obtain ⟨j, hj, rfl, hB⟩ := hrel
      by_cases hlt : j < m
      · have hx : ws[j]? = some (ws[j]'(by rw [HM.out]; exact hlt)) := List.getElem?_eq_getElem _
        generalize ws[j]'(by rw [HM.out]; exact hlt) = b at hx
        have hlj : (ws.take j).length = j := by rw [List.length_take, HM.out]; omega
        obtain ⟨g1, o1, rfl, x1⟩ := bl_cell HL.out hx
        have hjz : (j : Int) < (m : Int) := by omega
        have ct := ltake (x := (j : Int)) (b := b) hB.out (by omega) (by omega)
        have hte := take_enq (rs := []) (wr := 100) (q0 := []) (l := ws.take j) (b := b) (.inl (by omega)) (by simp) (.inr (by omega)) (by simp)
        rw [hlj] at hte
        simp only [List.nil_append] at hte
        rw [hte.1, hte.2, ← take_one' hx] at ct
        have x0 := x1 wr hB.out.fr
        clear hte hlt hx hB hlj x1
        go_wp2_with fail
        with_reducible refine ct.mono ?_
        rintro e w2 ⟨rfl, h2⟩
        clear ct x0
        go_wp2_with fail
        go_roundg (gk - 1)
        case measure => omega
        case rel => exact ⟨j + 1, by omega, rfl, h2⟩
      · have hjn : j = m := by omega
        subst hjn
        have e1 : ws.take j = ws := List.take_of_length_le (by rw [HM.out]; exact Nat.le_refl _)
        rw [e1] at hB
        have hjz : ¬ (j : Int) < (j : Int) := by omega
        have cd := ldrop (x := 100) hB.out (by omega)
        rw [ro2 (by rw [HM.out]; omega)] at cd
        have hj20 : j ≤ 20 := by omega
        clear hB hlt e1
        go_wp2_with fail
        with_reducible refine cd.mono ?_
        rintro e w3 ⟨B3, k3, b3, rfl, h3⟩
        have L3 := keep h3.out.1
        have R3 := keep h3.out.2.1.2.1
        clear cd h3
        go_wp2_with fail
        go_loopg [5, 6, 7, 8, 9, 10] j (fun gg s5 s6 _ _ _ _ wr => ∃ (a : Nat) (B : Option Addr) (k b : Nat), a + gg = j ∧ s6 = .int .i64 a ∧ s5 = .slice B k b ∧ Hid (LB w wr g (rowL ws a).1 (j + 1)) ∧ Hid (Rw wr 3 1 B k b (rows ic (rowL ws a).2)))
        case atStart => exact ⟨0, B3, k3, b3, by omega, rfl, rfl, L3, R3⟩
        case round =>
          clear L3 R3
          obtain ⟨a, B, k, b, ha, rfl, rfl, hL, hR⟩ := hrel
          by_cases hlt : a < j
          · have hal : a < ws.length := by rw [HM.out]; exact hlt
            have hx : ws[a]? = some (ws[a]'hal) := List.getElem?_eq_getElem _
            generalize ws[a]'hal = mk at hx
            obtain ⟨G, hG⟩ : ∃ G, grp ws a = G := ⟨_, rfl⟩
            have hgp := grp_pos hal
            rw [hG, HM.out] at hgp
            have hin := rowL_in hal
            rw [hG] at hin
            have hkG : k = G := by rw [← hR.out.klen, hin, nums_len]
            subst hkG
            rw [hin] at hR
            have HG := keep hG
            have HX := keep hx
            have HAL := keep hal
            obtain ⟨g1, o1, rfl, x1⟩ := bl_cell HL.out hx
            have x0 := x1 wr hL.out.fr
            have haz : (a : Int) < (j : Int) := by omega
            obtain ⟨gko, rfl⟩ : ∃ x, x = gk := ⟨_, rfl⟩
            clear hx hG hin hal hlt x1
            go_upto_block 4 with fail
            go_cut [7] from 46 to 69 (fun s7 W => s7 = .int .i64 k ∧ wr = W)
            case first =>
              go_wp2_with fail
              go_loopg [7] k (fun gg s7 W => ∃ n : Nat, n + gg = k + 1 ∧ 1 ≤ n ∧ n ≤ k ∧ s7 = .int .i64 n ∧ wr = W)
              case atStart => exact ⟨1, by omega, by omega, by omega, rfl, rfl⟩
              case round =>
                obtain ⟨n, hn, hn1, hnk, rfl, rfl⟩ := hrel
                obtain ⟨p, hp⟩ : ∃ p : Nat, (a : Int) + (n : Int) = (p : Int) := ⟨a + n, by omega⟩
                by_cases hnk2 : n < k
                · have hgo : mk = false ∧ p < j ∧ ws[p]? = some false := by
                    cases mk with
                    | true =>
                      have := HG.out
                      rw [grp, HX.out] at this
                      simp only at this
                      omega
                    | false =>
                      have h2 := grp_get HX.out (i := n) (by rw [HG.out]; exact hnk2)
                      rw [show a + n = p by omega] at h2
                      exact ⟨rfl, by rw [← HM.out]; exact (List.getElem?_eq_some_iff.1 h2).1, h2⟩
                  obtain ⟨rfl, hpj, hpx⟩ := hgo
                  obtain ⟨g2, o2, hA2, x2⟩ := bl_cell HL.out hpx
                  injection hA2 with hA2
                  injection hA2 with e1 e2
                  subst e1 e2
                  have x2 := x2 wr hL.out.fr
                  have hpz : (p : Int) < (j : Int) := by omega
                  clear hpx
                  go_wp2_with fail
                  go_roundg (gk - 1)
                  case measure => omega
                  case rel => exact ⟨n + 1, by omega, by omega, by omega, rfl, rfl⟩
                · have hnk3 : n = k := by omega
                  subst hnk3
                  cases mk with
                  | true =>
                    clear hnk2
                    go_wp2_with fail
                    go_meet
                    exact ⟨rfl, rfl⟩
                  | false =>
                    by_cases hpj : p < j
                    · have h2 := grp_end HX.out
                      rw [HG.out, show a + n = p by omega] at h2
                      have h3 := List.getElem?_eq_getElem (show p < ws.length by rw [HM.out]; exact hpj)
                      have h4 : ws[p]? = some true := by
                        cases hb : ws[p]'(by rw [HM.out]; exact hpj)
                        · rw [hb] at h3; exact absurd h3 h2
                        · rw [hb] at h3; exact h3
                      obtain ⟨g2, o2, hA2, x2⟩ := bl_cell HL.out h4
                      injection hA2 with hA2
                      injection hA2 with e1 e2
                      subst e1 e2
                      have x2 := x2 wr hL.out.fr
                      have hpz : (p : Int) < (j : Int) := by omega
                      clear h2 h3 h4 hnk2
                      go_wp2_with fail
                      go_meet
                      exact ⟨rfl, rfl⟩
                    · have hpz : ¬ (p : Int) < (j : Int) := by omega
                      clear hnk2
                      go_wp2_with fail
                      go_meet
                      exact ⟨rfl, rfl⟩
            case rest =>
              obtain ⟨rfl, rfl⟩ := hcut
              clear x0
              go_wp2_with fail
              go_loopg [8] k (fun gg s8 W => ∃ i : Nat, i + gg = k ∧ s8 = .int .i64 i ∧ wr = W)
              case atStart => exact ⟨0, by omega, rfl, rfl⟩
              case round =>
                obtain ⟨i, hi, rfl, rfl⟩ := hrel
                by_cases hik : i < k
                · obtain ⟨p, hp⟩ : ∃ p : Nat, (a : Int) + (i : Int) = (p : Int) := ⟨a + i, by omega⟩
                  have hx := nums_get (n := k) (i := a) hik
                  rw [show a + i = p by omega] at hx
                  obtain ⟨gr, or, rfl, xr⟩ := rw_cell hR.out hx
                  have hiz : (i : Int) < (k : Int) := by omega
                  clear hx hik
                  go_wp2_with fail
                  go_roundg (gk - 1)
                  case measure => omega
                  case rel => exact ⟨i + 1, by omega, rfl, rfl⟩
                · have hiz : ¬ (i : Int) < (k : Int) := by omega
                  have L0 : Hid (LB w wr g (rowD ws a 0) (j + 1)) := keep (by rw [rowD_zero HAL.out]; exact hL.out)
                  clear hik
                  go_wp2_with fail
                  go_loopg [9, 10] k (fun gg s9 s10 W => ∃ (i : Nat) (B9 : Option Addr) (k9 b9 : Nat), i + gg = k ∧ s10 = .int .i64 i ∧ s9 = .slice B9 k9 b9 ∧ Hid (LB w W g (rowD ws a i) (j + 1)) ∧ Hid (0 < i → Rw W 3 1 B9 k9 b9 (rows ic (rowN ws a i))))
                  case atStart => exact ⟨0, none, 0, 0, by omega, rfl, rfl, L0, keep (fun h => by omega)⟩
                  case round =>
                    clear L0
                    obtain ⟨i2, B9, k9, b9, hi2, rfl, rfl, hL2, hR2⟩ := hrel
                    by_cases hik : i2 < k
                    · obtain ⟨p, hp⟩ : ∃ p : Nat, (a : Int) + (i2 : Int) = (p : Int) := ⟨a + i2, by omega⟩
                      have hstep := rowD_step HAL.out (j := i2) (by rw [HG.out]; exact hik)
                      rw [show a + i2 = p by omega] at hstep
                      have cd := ldrop (x := (p : Int)) hL2.out (by omega)
                      rw [hstep] at cd
                      have hiz : (i2 : Int) < (k : Int) := by omega
                      clear hstep hik hL2 hR2
                      go_wp2_with fail
                      with_reducible refine cd.mono ?_
                      rintro e w5 ⟨B5, k5, b5, rfl, h5⟩
                      have L5 := keep h5.out.1
                      have R5 : Hid (0 < i2 + 1 → Rw w5 3 1 B5 k5 b5 (rows ic (rowN ws a (i2 + 1)))) := keep (fun _ => h5.out.2.1.2.1)
                      by_cases hlast : (i2 : Int) < (k : Int) - 1
                      · have hk5 : k5 = 0 := by
                          rw [← h5.out.2.1.1, rowN, if_neg (by rw [HG.out]; omega)]
                          rfl
                        subst hk5
                        clear cd h5
                        go_wp2_with fail
                        go_roundg (gk - 1)
                        case measure => omega
                        case rel => exact ⟨i2 + 1, B5, 0, b5, by omega, rfl, rfl, L5, R5⟩
                      · clear cd h5
                        go_wp2_with fail
                        go_roundg (gk - 1)
                        case measure => omega
                        case rel => exact ⟨i2 + 1, B5, k5, b5, by omega, rfl, rfl, L5, R5⟩
                    · have hie : i2 = k := by omega
                      subst hie
                      have hiz : ¬ (i2 : Int) < (i2 : Int) := by omega
                      have hL3 := hL2.out
                      have hR3 := hR2.out (by omega)
                      rw [rowD, if_pos HG.out.symm, HG.out] at hL3
                      rw [rowN, if_pos HG.out.symm, HG.out] at hR3
                      have L3 := keep hL3
                      have R3 := keep hR3
                      obtain ⟨p, hp⟩ : ∃ p : Nat, (a : Int) + (i2 : Int) = (p : Int) := ⟨a + i2, by omega⟩
                      rw [show a + i2 = p by omega] at L3 R3
                      have Hp : Hid (p + (gko - i2) = j ∧ gko - i2 < gko) := keep (by omega)
                      clear hL3 hR3 hik hL2 hR2
                      go_wp2_with fail
                      go_roundg (gko - i2)
                      case measure => have := Hp.out; omega
                      case rel => exact ⟨p, B9, k9, b9, Hp.out.1, rfl, rfl, L3, R3⟩
          · have hae : a = j := by omega
            subst hae
            have hiz : ¬ (a : Int) < (a : Int) := by omega
            have hend := rowL_end (ws := ws) (a := a) (by rw [HM.out]; exact Nat.le_refl _)
            rw [hend] at hL hR
            have hk0 : k = 0 := by rw [← hR.out.klen]; rfl
            subst hk0
            have ci := lidle hL.out
            have F := keep hL.out.fr
            rw [show idleB ⟨[], -1, [], 0⟩ = true from by decide] at ci
            clear hend hlt
            go_wp2_with fail
            with_reducible refine ci.mono ?_
            rintro e w7 ⟨rfl, rfl⟩
            clear ci
            go_wp2_with fail
            with_reducible refine (awake14 wr).mono ?_
            rintro e w8 ⟨rfl, f⟩
            go_wp2_with fail
            go_ret
            exact ⟨rfl, fr_step F.out f⟩
end Go.Proofs.Ytbnphkiipjgfaaa
