/- LatchDowns, walked. -/
import Derived.Test.YtbnphkiipjgfaaaLaOpen
import Derived.Test.YtbnphkiipjgfaaaLaW
namespace Go.Proofs.Ytbnphkiipjgfaaa
set_option linter.unusedVariables false
set_option linter.unusedSimpArgs false
set_option maxRecDepth 100000
open Go.RowKit
theorem Off.go {w w' : World} {g : Nat} {t : Lat} {B : Option Addr} (h : Off w g t B) (f : Fr w w') : Off w' g t B := by
  obtain ⟨A, n, c, Q, m, d, hp, hy⟩ := h
  exact ⟨A, n, c, Q, m, d, hp.fr f, hy⟩
/-- A cell of a row of numbers. -/
theorem rw_cell {w : World} {B : Option Addr} {k b j : Nat} {x : Int} {l : List Int} (h : Rw w 3 1 B k b (rows ic l)) (hx : l[j]? = some x) : ∃ g o, B = some ⟨g, o, none⟩ ∧ w.cell? ⟨g, o + j, none⟩ = some (.int .i64 x) := by
  have hu : (rows ic l)[j]? = some (.int .i64 x) := by rw [ic_ints]; exact ints_get hx
  obtain ⟨b', off, e, hb, hc⟩ := h.has j _ hu
  exact ⟨b', off, e, hc⟩
/-- A mark that came in. -/
theorem bl_cell {w : World} {A : Option Addr} {j : Nat} {b : Bool} {ws : List Bool} (h : Has w w.heap.size A (bls ws)) (hx : ws[j]? = some b) : ∃ g o, A = some ⟨g, o, none⟩ ∧ ∀ W, Fr w W → W.cell? ⟨g, o + j, none⟩ = some (.bool b) := by
  obtain ⟨b', off, e, hb, hc⟩ := h j _ (bls_get hx)
  exact ⟨b', off, e, fun W fW => (fW.cell hb).trans hc⟩
theorem lnewg (w : World) : Calls Try.prog 10 #[] w fun e w' => ∃ g, e = .returned (.pointer (some ⟨g, 0, none⟩)) ∧ Hid (LB w w' g newT 0) := by
  refine (lnew w).mono ?_
  rintro e w' ⟨rfl, hh⟩
  exact ⟨_, rfl, hh⟩
theorem do1 : tryB newT 50 true = true ∧ takeT newT 50 true = ⟨[], 50, [], 0⟩ := ⟨by decide, by rfl⟩
theorem do2 (q : List Wt) : downT ⟨[], 50, q, 0⟩ 50 = letT ⟨[50], -1, q, 0⟩ := by
  rw [down_yes (by simp)]
  rfl
theorem do3 {rs : List Int} {q : List Wt} : downT ⟨rs, -1, q, 0⟩ 50 = (⟨rs, -1, q, 0⟩, []) := down_no (.inr (by simp))
set_option maxHeartbeats 8000000 in
theorem downs_core {w : World} {A : Option Addr} {m c : Nat} {ws : List Bool} (hl : Has w w.heap.size A (bls ws)) (hm : ws.length = m) (hmx : m ≤ maxLen) :
    Calls Try.prog 7 #[.slice A m c] w fun e w' => e = .returned (.bool true) ∧ Below w.heap.size w w' := by
  unfold maxLen at hmx
  by_cases h20 : 20 < m
  · have h20z : 20 < (m : Int) := by omega
    clear hl hm
    go_enter Try.func7, Try.ntmps7
    go_wp2_with fail
    refine (lnew w).mono ?_
    rintro e v0 ⟨rfl, h0⟩
    go_wp2_with fail
    refine (awake14 v0).mono ?_
    rintro e v1 ⟨rfl, f⟩
    go_wp2_with fail
    go_ret
    exact ⟨rfl, fr_step h0.out.fr f⟩
  · have h20z : ¬ 20 < (m : Int) := by omega
    have HL := keep hl
    have HM := keep hm
    have hld := lead_le ws
    clear hl hm
    go_enter Try.func7, Try.ntmps7
    go_wp2_with fail
    refine (lnewg w).mono ?_
    rintro e v0 ⟨g, rfl, h0⟩
    have c1 := ltake (x := 50) (b := true) h0.out (by omega) (by omega)
    rw [do1.1, do1.2] at c1
    clear h0
    go_wp2_with fail
    refine c1.mono ?_
    rintro e v1 ⟨rfl, h1⟩
    clear c1
    go_wp2_with fail
    go_loopg [4, 5] m (fun gg s4 s5 wr => ∃ j : Nat, j + gg = m ∧ s5 = .int .i64 j ∧ s4 = .int .i64 (lead (ws.take j) : Nat) ∧ Hid (LB w wr g ⟨[], 50, enq (ws.take j) 0, 0⟩ (j + 1)))
    case atStart => exact ⟨0, by omega, rfl, rfl, h1⟩
    case round =>
      clear h1
      obtain ⟨j, hj, rfl, rfl, hB⟩ := hrel
      by_cases hlt : j < m
      · have hx : ws[j]? = some (ws[j]'(by rw [HM.out]; exact hlt)) := List.getElem?_eq_getElem _
        generalize ws[j]'(by rw [HM.out]; exact hlt) = b at hx
        have hlj : (ws.take j).length = j := by rw [List.length_take, HM.out]; omega
        obtain ⟨g1, o1, rfl, x1⟩ := bl_cell HL.out hx
        have hjz : (j : Int) < (m : Int) := by omega
        have ct := ltake (x := (j : Int)) (b := b) hB.out (by omega) (by omega)
        have hte := take_enq (rs := []) (wr := 50) (q0 := []) (l := ws.take j) (b := b) (.inl (by omega)) (by simp) (.inr (by omega)) (by simp)
        rw [hlj] at hte
        simp only [List.nil_append] at hte
        rw [hte.1, hte.2, ← take_one' hx] at ct
        have x0 := x1 wr hB.out.fr
        have Hlt2 := keep (lead_take hx)
        have hll : lead (ws.take j) ≤ j := by have := lead_le (ws.take j); omega
        have Hj := keep hjz
        obtain ⟨n, hn⟩ : ∃ n, n = lead (ws.take j) := ⟨_, rfl⟩
        rw [← hn] at Hlt2 hll ⊢
        clear hte hlt hx hB hn hlj
        go_wp2_with fail
        with_reducible refine ct.mono ?_
        rintro e w2 ⟨rfl, h2⟩
        have x2 := x1 w2 h2.out.fr
        clear ct x0 x1
        by_cases hnj : n = j
        · subst hnj
          cases b with
          | false =>
            go_wp2_with fail
            go_roundg (gk - 1)
            case measure => omega
            case rel => exact ⟨n + 1, by omega, rfl, by rw [Hlt2.out]; simp, h2⟩
          | true =>
            go_wp2_with fail
            go_roundg (gk - 1)
            case measure => omega
            case rel => exact ⟨n + 1, by omega, rfl, by rw [Hlt2.out]; simp, h2⟩
        · have hnz : ((n : Int) == (j : Int)) = false := by rw [beq_eq_false_iff_ne]; omega
          go_wp2_with fail
          go_roundg (gk - 1)
          case measure => omega
          case rel => exact ⟨j + 1, by omega, rfl, by rw [Hlt2.out, if_neg (fun h => hnj h.1)], h2⟩
      · have hjn : j = m := by omega
        subst hjn
        have e1 : ws.take j = ws := List.take_of_length_le (by rw [HM.out]; exact Nat.le_refl _)
        rw [e1] at hB ⊢
        have hjz : ¬ (j : Int) < (j : Int) := by omega
        have cd := ldown (x := 50) hB.out (by omega) (by omega)
        obtain ⟨rs', r1, r2, r3⟩ := let_readers (rs := [50]) (by simp) ws 0 0
        rw [do2, r3] at cd
        have hql : (enq (ws.drop (lead ws)) (0 + lead ws)).length = j - lead ws := by rw [enq_len, List.length_drop, HM.out]
        have hnm : lead ws ≤ j := by rw [← HM.out]; exact hld
        have hj20 : j ≤ 20 := by omega
        generalize enq (ws.drop (lead ws)) (0 + lead ws) = q at *
        generalize lead ws = n at *
        have hrl : rs'.length = n + 1 := by rw [r1]; simp; omega
        have Hrl := keep hrl
        have Hql := keep hql
        clear r1 r2 r3 hB hlt e1 hrl hql
        go_wp2_with fail
        with_reducible refine cd.mono ?_
        rintro e w3 ⟨B, k, b, rfl, h3⟩
        have hk : k = n := by rw [← h3.out.2.1.1, nums_len]
        subst hk
        have cr := lreaders h3.out.1 (by omega)
        clear cd
        go_wp2_with fail
        with_reducible refine cr.mono ?_
        rintro e w4 ⟨B4, k4, b4, rfl, h4⟩
        have hz1 : ((k4 : Int) != (k : Int) + 1) = false := by
          have hk : k4 = k + 1 := by rw [← h4.out.1, Hrl.out]
          rw [bne_eq_false_iff_eq]; omega
        have L4 := keep (h3.out.1.go h4.out.2.2)
        have O4 := keep (h3.out.2.2.go h4.out.2.2)
        have R4 := keep (h3.out.2.1.2.1.fr h4.out.2.2)
        have cw := lwriter L4.out
        clear cr h3 h4
        go_wp2_with fail
        with_reducible refine cw.mono ?_
        rintro e w5 ⟨rfl, rfl⟩
        have cq := lqueue L4.out (by omega)
        clear cw
        go_wp2_with fail
        with_reducible refine cq.mono ?_
        rintro e w5 ⟨B5, k5, b5, rfl, h5⟩
        have hz2 : ((k5 : Int) != (j : Int) - (k : Int)) = false := by
          have hk : k5 = j - k := by rw [← h5.out.1, Hql.out]
          rw [bne_eq_false_iff_eq]; omega
        have L5 := keep (L4.out.go h5.out.2.2)
        have O5 := keep (O4.out.go h5.out.2.2)
        have R5 := keep (R4.out.fr h5.out.2.2)
        have cd := ldown_off (x := 50) L5.out (by omega) (by omega) O5.out R5.out
        rw [do3] at cd
        clear cq h5
        go_wp2_with fail
        with_reducible refine cd.mono ?_
        rintro e w6 ⟨B6, k6, b6, rfl, h6⟩
        have hk : k6 = 0 := h6.out.2.1.1.symm
        subst hk
        have R6 := keep h6.out.2.2
        have F6 := keep h6.out.1.fr
        clear cd h6
        go_wp2_with fail
        go_loopg [7] k (fun gg s7 wr => ∃ i : Nat, i + gg = k ∧ s7 = .int .i64 i ∧ w6 = wr)
        case atStart => exact ⟨0, by omega, rfl, rfl⟩
        case round =>
          obtain ⟨i, hi, rfl, rfl⟩ := hrel
          by_cases hlt : i < k
          · have hx := nums_get (n := k) (i := 0) hlt
            rw [Nat.zero_add] at hx
            obtain ⟨gr, or, rfl, xr⟩ := rw_cell R6.out hx
            have hiz : (i : Int) < (k : Int) := by omega
            clear hx hlt
            go_wp2_with fail
            go_roundg (gk - 1)
            case measure => omega
            case rel => exact ⟨i + 1, by omega, rfl, rfl⟩
          · have hiz : ¬ (i : Int) < (k : Int) := by omega
            clear hlt
            go_wp2_with fail
            refine (awake14 w6).mono ?_
            rintro e w7 ⟨rfl, f⟩
            go_wp2_with fail
            go_ret
            exact ⟨rfl, fr_step F6.out f⟩
end Go.Proofs.Ytbnphkiipjgfaaa
