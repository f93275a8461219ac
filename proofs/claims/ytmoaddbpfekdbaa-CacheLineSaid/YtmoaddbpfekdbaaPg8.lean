/- CacheLine, walked. -/
import Derived.Test.YtmoaddbpfekdbaaPg7
namespace Go.Proofs.Ytmoaddbpfekdbaa
set_option linter.unusedVariables false
set_option linter.unusedSimpArgs false
set_option linter.unusedSectionVars false
set_option maxRecDepth 100000
open Go.RowKit
attribute [local go_sem ↓] node16_ld
set_option maxHeartbeats 32000000 in
theorem line_core {w : World} {n : Int} {A : Option Addr} {m cc : Nat} {cl : List Bool} (hn : 0 ≤ n ∧ n ≤ 255) (hc : Has w w.heap.size A (rows bc cl)) (hl : cl.length = m) (hm : m ≤ maxLen) :
    Calls Try.prog 5 #[.int .u8 n, .slice A m cc] w fun e w' => e = .returned (.bool true) ∧ Fr w w' := by
  obtain ⟨q9, hq9, hq9l⟩ : ∃ q : Nat, Int.tmod n 5 = q ∧ q < 5 := ⟨(n % 5).toNat, by rw [Int.tmod_eq_emod_of_nonneg (by omega)]; omega, by omega⟩
  obtain ⟨k, hk⟩ : ∃ k : Nat, (1 : Int) + (q9 : Int) = (k : Int) := ⟨1 + q9, by omega⟩
  have hk1 : 1 ≤ k ∧ k ≤ 5 := by omega
  have is100 : W64 100 := ⟨by decide, by decide⟩
  have is6 : W64 6 := ⟨by decide, by decide⟩
  obtain ⟨bA, oA, hA⟩ := has_bcells hc hl
  have HA := keep hA
  have HL := keep hl
  have q1 := q_set1 (V := NX)
  have q2 := q_set2 (V := NX)
  have q3 := fun (v' : NX) (_ : v'.n = lfX.n) => q_fill (V := NX) (b := 100) (l := []) (h := 0) (by decide) v'
  clear hc hl hA
  go_enter Try.func5, Try.ntmps5
  go_wp2_with (first
    | (go_at_call 8; (with_reducible refine (z_new _ 2 (N := 2) rfl (by decide) (by decide)).mono ?_); rintro e w1 ⟨g, rfl, H1⟩)
    | (go_at_call 12; (with_reducible refine (z_pin H1.out (by decide) q1).mono ?_); rintro e w2 ⟨rfl, H2⟩)
    | (go_at_call 14; (with_reducible refine (z_claim H2.out.1 (by decide) q2).mono ?_); rintro e w3 ⟨rfl, H3⟩)
    | (go_at_call 13; (with_reducible refine (y_fill H3.out.1 (by decide) is100 lfX lf_val (lf_np _ (fun _ => True)) q3 rfl).mono ?_); rintro e w4 ⟨v4, O4, c4, hv4, rfl, H4⟩; have H5 := keep (H4.out.2.1.more (K' := 10) (by decide)))
    | fail)
  clear q1 q2 q3
  go_loopg [8] k (fun gg s8 wr => ∃ t : Nat, t + gg = k ∧ s8 = .int .i64 t ∧ Hid (PL w wr g 2 (10 + t) (qS ⟨2, 100, 1, true, false, v4, 0⟩ (lnL cl 0 t) 0)))
  case atStart => exact ⟨0, by omega, rfl, H5⟩
  case round =>
    obtain ⟨t, ht, rfl, HI⟩ := hrel
    by_cases hlt : t < k
    · have hin : (t : Int) < (k : Int) := by omega
      have wi : IntKind.i64.wrap ((t : Int) + 1) = (t : Int) + 1 := by rw [IntKind.wrap_i64]; omega
      have w10 : IntKind.i64.wrap ((10 : Int) + (t : Int)) = (10 : Int) + (t : Int) := by rw [IntKind.wrap_i64]; omega
      have hK : 10 + t ≤ 1000 := by omega
      have Hlt := keep hlt
      by_cases htm : t < m
      · have htmz : (t : Int) < (m : Int) := by omega
        obtain ⟨e1, e2⟩ := HA.out t htm
        have lX := e2 wr HI.out.frw
        subst e1
        cases hg : gd cl t with
        | true =>
          have qc := qq_new_claim (v := v4) hlt hk1.2 hg
          rw [hg] at lX
          clear hlt e2 htm
          go_wp2_with (first
            | (go_at_call 14; (with_reducible refine (z_claim HI.out hK qc).mono ?_); rintro e w6 ⟨rfl, H6⟩)
            | fail)
          go_roundg (gk - 1)
          case measure => have := Hlt.out; omega
          case rel => exact ⟨t + 1, by have := Hlt.out; omega, rfl, keep H6.out.1⟩
        | false =>
          have qp := qq_new_pin (v := v4) hlt hk1.2 hg
          rw [hg] at lX
          clear hlt e2 htm
          go_wp2_with (first
            | (go_at_call 12; (with_reducible refine (z_pin HI.out hK qp).mono ?_); rintro e w6 ⟨rfl, H6⟩)
            | fail)
          go_roundg (gk - 1)
          case measure => have := Hlt.out; omega
          case rel => exact ⟨t + 1, by have := Hlt.out; omega, rfl, keep H6.out.1⟩
      · have htmz : ¬ (t : Int) < (m : Int) := by omega
        have qp := qq_new_pin (v := v4) hlt hk1.2 (gd_off HL.out (by omega))
        clear hlt htm
        go_wp2_with (first
          | (go_at_call 12; (with_reducible refine (z_pin HI.out hK qp).mono ?_); rintro e w6 ⟨rfl, H6⟩)
          | fail)
        go_roundg (gk - 1)
        case measure => have := Hlt.out; omega
        case rel => exact ⟨t + 1, by have := Hlt.out; omega, rfl, keep H6.out.1⟩
    · obtain rfl : t = k := by omega
      have hK : 10 + t ≤ 1000 := by omega
      have hKe : (qS (⟨2, 100, 1, true, false, v4, 0⟩ : Fra NX) (lnL cl 0 t) 0).line.length = t := lnL_len cl 0 t
      have qu := q_unpin (V := NX) (b := 100) (l := lnL cl 0 t) (h := 0) (by decide) v4
      have hbe : ((t : Int) != (t : Int)) = false := by simp
      have hk0 : 0 < t := hk1.1
      obtain ⟨wo, rfl⟩ : ∃ x, x = wr := ⟨_, rfl⟩
      obtain ⟨gko, rfl⟩ : ∃ x, x = gk := ⟨_, rfl⟩
      go_wp2_with (first
        | (go_at_call 24; (with_reducible refine (z_line HI.out hK hKe).mono ?_); rintro e w6 ⟨O6, c6, rfl, H6⟩; have H7 := keep (HI.out.fr H6.out.2))
        | (go_at_call 16; (with_reducible refine (z_unpin H7.out hK is100 qu).mono ?_); rintro e w7 ⟨rfl, H8⟩; have H9 := keep (show PL w w7 g 2 (30 + 10 * 0) (qS (frS cl v4 0) (lnS cl 0 t) 0) from by { rw [← lnS_zero]; exact H8.out.1.more (by omega) }))
        | fail)
      go_loopg [9] t (fun gg s9 wr => ∃ (j : Nat) (v : NX) (h : Int), j + gg = t ∧ s9 = .int .i64 j ∧ (h = 0 ∨ h = 1) ∧ Hid (PL w wr g 2 (30 + 10 * j) (qS (frS cl v j) (lnS cl j t) h)))
      case atStart => exact ⟨0, v4, 0, by omega, rfl, .inl rfl, H9⟩
      case round =>
        obtain ⟨j, v, h, hj, rfl, hh, HJ⟩ := hrel
        have HH := keep hh
        clear hh
        by_cases hlt : j < t
        · have hin : (j : Int) < (t : Int) := by omega
          have Hlt := keep hlt
          have wi : IntKind.i64.wrap ((j : Int) + 1) = (j : Int) + 1 := by rw [IntKind.wrap_i64]; omega
          have w10 : IntKind.i64.wrap ((10 : Int) + (j : Int)) = (10 : Int) + (j : Int) := by rw [IntKind.wrap_i64]; omega
          have w09 : IntKind.i64.wrap ((9 : Int) + (j : Int)) = (9 : Int) + (j : Int) := by rw [IntKind.wrap_i64]; omega
          have is9 : W64 ((9 : Int) + (j : Int)) := ⟨by omega, by omega⟩
          have hK0 : 30 + 10 * j ≤ 1000 := by omega
          have hK1 : 30 + 10 * j + 1 ≤ 1000 := by omega
          have hK2 : 30 + 10 * j + 1 + 1 ≤ 1000 := by omega
          have hK3 : 30 + 10 * j + 1 + 1 + 1 ≤ 1000 := by omega
          have hK4 : 30 + 10 * j + 1 + 1 + 1 + 1 ≤ 1000 := by omega
          clear hlt
          have HW := HJ
          obtain ⟨wq, rfl⟩ : ∃ x, x = wr := ⟨_, rfl⟩
          go_upto_region 21 with fail
          go_cut [94] from 73 to 178 (fun s94 W => s94 = .bool (decide (0 < j) && !gd cl (j - 1)) ∧ wq = W)
          case first =>
            by_cases hj0 : j = 0
            · have hgt : ¬ (j : Int) > 0 := by omega
              have hgt2 : ¬ (0 : Int) < (j : Int) := by omega
              have HV : (decide (0 < j) && !gd cl (j - 1)) = false := by subst hj0; rfl
              clear hj0
              go_wp2_with fail
              go_meet
              exact ⟨by rw [HV], rfl⟩
            · obtain ⟨p, hp⟩ : ∃ p : Nat, (j : Int) - 1 = (p : Int) := ⟨j - 1, by omega⟩
              have hpn : j - 1 = p := by omega
              have hgt : (j : Int) > 0 := by omega
              have wp : IntKind.i64.wrap (p : Int) = (p : Int) := by rw [IntKind.wrap_i64]; omega
              have hd0 : decide (0 < j) = true := decide_eq_true (by omega)
              by_cases hpm : p < m
              · have hge : ¬ (p : Int) ≥ (m : Int) := by omega
                have hge2 : (p : Int) < (m : Int) := by omega
                obtain ⟨e1, e2⟩ := HA.out p hpm
                have lX := e2 wq HW.out.frw
                subst e1
                have HV := keep (show (decide (0 < j) && !gd cl (j - 1)) = !gd cl p by rw [hpn, hd0, Bool.true_and])
                clear e2 hpm hpn hd0 hj0
                cases hg : gd cl p with
                | true =>
                  rw [hg] at lX HV
                  clear hg
                  go_wp2_with fail
                  go_meet
                  exact ⟨by rw [HV.out] <;> rfl, rfl⟩
                | false =>
                  rw [hg] at lX HV
                  clear hg
                  go_wp2_with fail
                  go_meet
                  exact ⟨by rw [HV.out] <;> rfl, rfl⟩
              · have hge : (p : Int) ≥ (m : Int) := by omega
                have hge2 : ¬ (p : Int) < (m : Int) := by omega
                have HV := keep (show (decide (0 < j) && !gd cl (j - 1)) = true by rw [hpn, hd0, gd_off HL.out (Nat.le_of_not_lt hpm)]; rfl)
                clear hpm hpn hd0 hj0
                go_wp2_with fail
                go_meet
                exact ⟨by rw [HV.out], rfl⟩
          case rest =>
            obtain ⟨rfl, rfl⟩ := hcut
            clear HW
            go_upto_if 94 with fail
            go_cut [] from 73 to 178 (fun W => ∃ (b : Int) (v' : NX), Hid (PL w W g 2 (30 + 10 * j + 1 + 1) (qS (if decide (0 < j) && gd cl (j - 1) then ⟨3, -1, 1, false, false, default, (j : Int) - 1⟩ else ⟨2, b, 0, true, false, v', 0⟩) (lnS cl j t) h)))
            case first =>
              cases hB : (decide (0 < j) && !gd cl (j - 1)) with
              | true =>
                obtain ⟨hB1, hB2⟩ := Bool.and_eq_true_iff.1 hB
                rw [Bool.not_eq_true'] at hB2
                obtain ⟨p, hp⟩ : ∃ p : Nat, (j : Int) - 1 = (p : Int) := ⟨j - 1, by have := of_decide_eq_true hB1; omega⟩
                have hpn : j - 1 = p := by omega
                rw [hpn] at hB2
                have HF := keep (show PL w wq g 2 (30 + 10 * j) (qS ⟨1, 9 + (j : Int), 1, true, false, default, 0⟩ (lnS cl j t) h) from by
                  have h9 := HJ.out
                  rw [frS_no hp hB2] at h9
                  exact h9)
                have q3 := fun (v' : NX) (_ : v'.n = lfX.n) => q_fill (V := NX) (b := 9 + (j : Int)) (l := lnS cl j t) (h := h) (by omega) v'
                have hu := fun (v' : NX) => q_unpin (V := NX) (b := 9 + (j : Int)) (l := lnS cl j t) (h := h) (by omega) v'
                have HU := keep hu
                have HG := keep (show (decide (0 < j) && gd cl (j - 1)) = false by rw [hpn, hB2, Bool.and_false])
                clear hB hB1 hB2 hp hpn hu
                go_wp2_with (first
                  | (go_at_call 13; (with_reducible refine (y_fill HF.out hK0 is9 lfX lf_val (lf_np _ (fun _ => True)) q3 rfl).mono ?_); rintro e w10 ⟨v5, O5, c5, hv5, rfl, H10⟩)
                  | (go_at_call 16; (with_reducible refine (z_unpin H10.out.2.1 hK1 is9 (HU.out v5)).mono ?_); rintro e w11 ⟨rfl, H11⟩)
                  | fail)
                go_meet
                exact ⟨9 + (j : Int), v5, keep (by rw [HG.out]; exact H11.out.1)⟩
              | false =>
                have HC : ∃ v' : NX, Hid (PL w wq g 2 (30 + 10 * j + 1 + 1) (qS (if decide (0 < j) && gd cl (j - 1) then ⟨3, -1, 1, false, false, default, (j : Int) - 1⟩ else ⟨2, 100, 0, true, false, v', 0⟩) (lnS cl j t) h)) := by
                  have h9 := HJ.out.more (K' := 30 + 10 * j + 1 + 1) (by omega)
                  by_cases hj0 : j = 0
                  · subst hj0
                    exact ⟨v, keep h9⟩
                  · have hd0 : decide (0 < j) = true := decide_eq_true (by omega)
                    obtain ⟨p, hp⟩ : ∃ p : Nat, (j : Int) - 1 = (p : Int) := ⟨j - 1, by omega⟩
                    have hpn : j - 1 = p := by omega
                    rw [hpn, hd0, Bool.true_and] at hB
                    have hg : gd cl p = true := by cases hx : gd cl p with | true => rfl | false => rw [hx] at hB; exact absurd hB (by decide)
                    rw [frS_yes hp hg] at h9
                    refine ⟨v, keep ?_⟩
                    rw [hpn, hg, hd0, Bool.true_and, if_pos rfl, hp]
                    exact h9
                obtain ⟨v6, HC⟩ := HC
                clear hB
                go_wp2_with fail
                go_meet
                exact ⟨100, v6, HC⟩
            case rest =>
              obtain ⟨b, v', HB⟩ := hcut
              clear HJ
              have HW := HB
              obtain ⟨wq, rfl⟩ : ∃ x, x = wc := ⟨_, rfl⟩
              go_upto_region 24 with fail
              go_cut [119] from 73 to 178 (fun s119 W => s119 = .bool (decide (0 < j) && gd cl (j - 1)) ∧ wq = W)
              case first =>
                by_cases hj0 : j = 0
                · have hgt : ¬ (j : Int) > 0 := by omega
                  have hgt2 : ¬ (0 : Int) < (j : Int) := by omega
                  have HV : (decide (0 < j) && gd cl (j - 1)) = false := by subst hj0; rfl
                  clear hj0
                  go_wp2_with fail
                  go_meet
                  exact ⟨by rw [HV], rfl⟩
                · obtain ⟨p, hp⟩ : ∃ p : Nat, (j : Int) - 1 = (p : Int) := ⟨j - 1, by omega⟩
                  have hpn : j - 1 = p := by omega
                  have hgt : (j : Int) > 0 := by omega
                  have wp : IntKind.i64.wrap (p : Int) = (p : Int) := by rw [IntKind.wrap_i64]; omega
                  have hd0 : decide (0 < j) = true := decide_eq_true (by omega)
                  by_cases hpm : p < m
                  · have hge : ¬ (p : Int) ≥ (m : Int) := by omega
                    have hge2 : (p : Int) < (m : Int) := by omega
                    obtain ⟨e1, e2⟩ := HA.out p hpm
                    have lX := e2 wq HW.out.frw
                    subst e1
                    have HV := keep (show (decide (0 < j) && gd cl (j - 1)) = gd cl p by rw [hpn, hd0, Bool.true_and])
                    clear e2 hpm hpn hd0 hj0
                    cases hg : gd cl p with
                    | true =>
                      rw [hg] at lX HV
                      clear hg
                      go_wp2_with fail
                      go_meet
                      exact ⟨by rw [HV.out] <;> rfl, rfl⟩
                    | false =>
                      rw [hg] at lX HV
                      clear hg
                      go_wp2_with fail
                      go_meet
                      exact ⟨by rw [HV.out] <;> rfl, rfl⟩
                  · have hge : (p : Int) ≥ (m : Int) := by omega
                    have hge2 : ¬ (p : Int) < (m : Int) := by omega
                    have HV := keep (show (decide (0 < j) && gd cl (j - 1)) = false by rw [hpn, hd0, gd_off HL.out (Nat.le_of_not_lt hpm)]; rfl)
                    clear hpm hpn hd0 hj0
                    go_wp2_with fail
                    go_meet
                    exact ⟨by rw [HV.out], rfl⟩
              case rest =>
                obtain ⟨rfl, rfl⟩ := hcut
                clear HW
                go_upto_if 119 with fail
                go_cut [10, 11, 12, 13] from 73 to 178 (fun _ _ _ _ W => ∃ h' : Int, Hid (h' = 0 ∨ h' = 1) ∧ Hid (PL w W g 2 (30 + 10 * j + 1 + 1 + 1) (qS freeF (lnS cl j t) h')))
                case first =>
                  cases hB : (decide (0 < j) && gd cl (j - 1)) with
                  | true =>
                    rw [hB, if_pos rfl] at HB
                    obtain ⟨hB1, hB2⟩ := Bool.and_eq_true_iff.1 hB
                    obtain ⟨p, hp⟩ : ∃ p : Nat, (j : Int) - 1 = (p : Int) := ⟨j - 1, by have := of_decide_eq_true hB1; omega⟩
                    rw [hp] at HB
                    have wp : IntKind.i64.wrap (p : Int) = (p : Int) := by rw [IntKind.wrap_i64]; omega
                    have qg := q_give (V := NX) (t := (p : Int)) (h := h) (l := lnS cl j t) (by omega)
                    clear hB hB1 hB2
                    go_wp2_with (first
                      | (go_at_call 25; (with_reducible refine (z_give HB.out qg (R := 1) rfl).mono ?_); rintro e w12 ⟨rfl, H12⟩)
                      | fail)
                    go_meet
                    exact ⟨h, HH, keep H12.out.1⟩
                  | false =>
                    rw [hB, if_neg (by decide)] at HB
                    have qe := q_evict (V := NX) (b := b) (l := lnS cl j t) HH.out v'
                    clear hB
                    go_wp2_with (first
                      | (go_at_call 18; (with_reducible refine (z_evict HB.out qe (evP_some _ _ _ _ _ _ _)).mono ?_); rintro e w12 ⟨rfl, H12⟩)
                      | (refine wpList_store_at (ds := v'.v.cells) node16_info rfl (.tmp 11) (.tmp 128) rfl w12.heap.size 0 rfl rfl rfl (nv_onex v'.v) (Arr.new w12 zeroNV.cells.toArray 41) (by decide) (splice_all _ _ (by show 5 ≤ 5; decide)) ?_; intro W13 hA13 hk13; have H13 := keep (H12.out.1.fr (hk13.fr (fr_new (fr_refl w12) _) (Nat.le_refl _))); clear hA13 hk13)
                      | fail)
                    go_meet
                    exact ⟨1, keep (.inr rfl), H13⟩
                case rest =>
                  obtain ⟨h', HH', HE⟩ := hcut
                  clear HB HH
                  go_upto_region 29 with fail
                  have qf := q_freeN (V := NX) (lnS cl j t) h'
                  have qm := qq_may1 (cl := cl) (h := h') Hlt.out hk1.2
                  have qp := qq_pin6 (cl := cl) (h := h') Hlt.out hk1.2
                  obtain ⟨wq, rfl⟩ : ∃ x, x = wc := ⟨_, rfl⟩
                  go_cut [158] from 73 to 178 (fun s158 W => s158 = .bool false ∧ Hid (PL w W g 2 (30 + 10 * j + 1 + 1 + 1 + 1) (qS freeF (lnL cl j (t - j) ++ [(6, 200)]) h')))
                  case first =>
                    by_cases hjt : (j : Int) + 1 < (t : Int)
                    · have qn := qq_may2 (cl := cl) (t := j) (k := t) (h := h') (by omega) hk1.2
                      go_wp2_with (first
                        | (go_at_call 23; (with_reducible refine (z_free HE.out qf (R := 1) rfl).mono ?_); rintro e w21 ⟨rfl, f21⟩; have H21 := keep (HE.out.fr f21); clear f21)
                        | (go_at_call 21; (with_reducible refine (z_may H21.out hK3 qm).mono ?_); rintro e w22 ⟨rfl, f22⟩; have H22 := keep (H21.out.fr f22); clear f22)
                        | (go_at_call 21; (with_reducible refine (z_may H22.out hK3 qn).mono ?_); rintro e w23 ⟨rfl, f23⟩; have H23 := keep (H22.out.fr f23); clear f23)
                        | (go_at_call 12; (with_reducible refine (z_pin H23.out hK3 qp).mono ?_); rintro e w24 ⟨rfl, H24⟩)
                        | fail)
                      go_meet
                      exact ⟨rfl, keep H24.out.1⟩
                    · go_wp2_with (first
                        | (go_at_call 23; (with_reducible refine (z_free HE.out qf (R := 1) rfl).mono ?_); rintro e w21 ⟨rfl, f21⟩; have H21 := keep (HE.out.fr f21); clear f21)
                        | (go_at_call 21; (with_reducible refine (z_may H21.out hK3 qm).mono ?_); rintro e w22 ⟨rfl, f22⟩; have H22 := keep (H21.out.fr f22); clear f22)
                        | (go_at_call 12; (with_reducible refine (z_pin H22.out hK3 qp).mono ?_); rintro e w24 ⟨rfl, H24⟩)
                        | fail)
                      go_meet
                      exact ⟨rfl, keep H24.out.1⟩
                  case rest =>
                    obtain ⟨rfl, HP⟩ := hcut
                    clear HE
                    by_cases hjm : j < m
                    · have htmz : (j : Int) < (m : Int) := by omega
                      obtain ⟨e1, e2⟩ := HA.out j hjm
                      subst e1
                      have lX := e2 wc HP.out.frw
                      cases hg : gd cl j with
                      | true =>
                        have qc := qq_claim (cl := cl) (h := h') Hlt.out hk1.2 hg
                        have HN := keep (frS_next1 (cl := cl) (v := v) hg)
                        rw [hg] at lX
                        clear e2 hjm hg
                        go_wp2_with (first
                          | (go_at_call 14; (with_reducible refine (z_claim HP.out hK4 qc).mono ?_); rintro e w25 ⟨rfl, H25⟩)
                          | fail)
                        go_roundg (gk - 1)
                        case measure => have := Hlt.out; omega
                        case rel => exact ⟨j + 1, v, h', by have := Hlt.out; omega, rfl, HH'.out, keep (by rw [HN.out]; exact H25.out.1.more (by omega))⟩
                      | false =>
                        have qc := qq_pin (cl := cl) (h := h') Hlt.out hk1.2 hg
                        have HN := keep (frS_next2 (cl := cl) (v := v) hg)
                        rw [hg] at lX
                        clear e2 hjm hg
                        go_wp2_with (first
                          | (go_at_call 12; (with_reducible refine (z_pin HP.out hK4 qc).mono ?_); rintro e w25 ⟨rfl, H25⟩)
                          | fail)
                        go_roundg (gk - 1)
                        case measure => have := Hlt.out; omega
                        case rel => exact ⟨j + 1, v, h', by have := Hlt.out; omega, rfl, HH'.out, keep (by rw [HN.out]; exact H25.out.1.more (by omega))⟩
                    · have htmz : ¬ (j : Int) < (m : Int) := by omega
                      have hg : gd cl j = false := gd_off HL.out (by omega)
                      have qc := qq_pin (cl := cl) (h := h') Hlt.out hk1.2 hg
                      have HN := keep (frS_next2 (cl := cl) (v := v) hg)
                      clear hjm hg
                      go_wp2_with (first
                        | (go_at_call 12; (with_reducible refine (z_pin HP.out hK4 qc).mono ?_); rintro e w25 ⟨rfl, H25⟩)
                        | fail)
                      go_roundg (gk - 1)
                      case measure => have := Hlt.out; omega
                      case rel => exact ⟨j + 1, v, h', by have := Hlt.out; omega, rfl, HH'.out, keep (by rw [HN.out]; exact H25.out.1.more (by omega))⟩
        · obtain rfl : j = t := by omega
          have hK0 : 30 + 10 * j ≤ 1000 := by omega
          have hLe := lnS_end_len (cl := cl) (v := v) (h := h) hk0
          obtain ⟨wq, rfl⟩ : ∃ x, x = wr := ⟨_, rfl⟩
          clear hlt
          go_wp2_with (first
            | (go_at_call 24; (with_reducible refine (z_line HJ.out hK0 hLe).mono ?_); rintro e w31 ⟨O31, c31, rfl, H31⟩; have H32 := keep (HJ.out.fr H31.out.2))
            | (go_at_call 9; (with_reducible refine (awake16 _).mono ?_); rintro e w32 ⟨rfl, f32⟩; have HZ := keep (fr_step H32.out.frw f32))
            | fail)
          go_ret
          exact ⟨rfl, HZ.out⟩
end Go.Proofs.Ytmoaddbpfekdbaa
