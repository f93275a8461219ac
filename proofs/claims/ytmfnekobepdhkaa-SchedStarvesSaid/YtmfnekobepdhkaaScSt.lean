/- SchedStarves, walked. -/
import Derived.Test.YtmfnekobepdhkaaScG
namespace Go.Proofs.Ytmfnekobepdhkaa
set_option linter.unusedVariables false
set_option linter.unusedSimpArgs false
set_option maxRecDepth 100000
open Go.RowKit
/-- Three tasks, the third waits since the beginning. -/
def sta (a b x y j : Int) : Tab := ⟨[0, 0, 0], [a, b, j], [x, y, 0], j⟩
theorem sta_0 {a b x y j : Int} (ha : 0 ≤ a ∧ a ≤ j) (hb : 0 ≤ b ∧ b ≤ j) : pickI (sta a b x y j) 0 = 0 ∧ pickB (sta a b x y j) = true ∧ pickT (sta a b x y j) 0 = sta 0 (b + 1) (x + 1) y (j + 1) := by
  have e : pickT (sta a b x y j) 0 = ⟨[0, 0, 0], [0, b + 1, j + 1], [x + 1, y, 0], gmx j [0, b + 1, j + 1]⟩ := rfl
  refine ⟨by rfl, by rfl, ?_⟩
  rw [e, sta, show gmx j [0, b + 1, j + 1] = max (max (max j 0) (b + 1)) (j + 1) from rfl, show max (max (max j 0) (b + 1)) (j + 1) = j + 1 by omega]
theorem sta_1 {a b x y j : Int} (ha : 0 ≤ a ∧ a ≤ j) (hb : 0 ≤ b ∧ b ≤ j) : pickI (sta a b x y j) 1 = 1 ∧ pickB (sta a b x y j) = true ∧ pickT (sta a b x y j) 1 = sta (a + 1) 0 x (y + 1) (j + 1) := by
  have e : pickT (sta a b x y j) 1 = ⟨[0, 0, 0], [a + 1, 0, j + 1], [x, y + 1, 0], gmx j [a + 1, 0, j + 1]⟩ := rfl
  refine ⟨by rfl, by rfl, ?_⟩
  rw [e, sta, show gmx j [a + 1, 0, j + 1] = max (max (max j (a + 1)) 0) (j + 1) from rfl, show max (max (max j (a + 1)) 0) (j + 1) = j + 1 by omega]
theorem sta_t1 (a b x y j : Int) : turnT (sta a b x y j) 2 1 = ⟨[0, 0, 1], [a, b, 0], [x, y, 0], j⟩ := rfl
theorem sta_t2 (a b x y j : Int) : turnT ⟨[0, 0, 1], [a, b, 0], [x, y, 0], j⟩ 2 0 = ⟨[0, 0, 0], [a, b, 0], [x, y, 0], j⟩ := rfl
theorem sta_t3 (a b x y j : Int) : turnT ⟨[0, 0, 0], [a, b, 0], [x, y, 0], j⟩ 2 0 = ⟨[0, 0, 0], [a, b, 0], [x, y, 0], j⟩ := rfl
theorem sta_t4 (a b x y j : Int) : turnT ⟨[0, 0, 0], [a, b, 0], [x, y, 0], j⟩ 0 1 = ⟨[1, 0, 0], [0, b, 0], [x, y, 0], j⟩ := rfl
theorem sta_t5 (b x y j : Int) : turnT ⟨[1, 0, 0], [0, b, 0], [x, y, 0], j⟩ 1 1 = ⟨[1, 1, 0], [0, 0, 0], [x, y, 0], j⟩ := rfl
theorem sta_t6 (x y j : Int) : turnT ⟨[1, 1, 0], [0, 0, 0], [x, y, 1], j⟩ 2 1 = ⟨[1, 1, 1], [0, 0, 0], [x, y, 1], j⟩ := rfl
theorem sta_p {x y j : Int} (hj : 0 ≤ j) (p : Int) : pickI ⟨[1, 1, 0], [0, 0, 0], [x, y, 0], j⟩ p = 2 ∧ pickB ⟨[1, 1, 0], [0, 0, 0], [x, y, 0], j⟩ = true ∧ pickT ⟨[1, 1, 0], [0, 0, 0], [x, y, 0], j⟩ p = ⟨[1, 1, 0], [0, 0, 0], [x, y, 1], j⟩ := by
  have hr : runN ⟨[1, 1, 0], [0, 0, 0], [x, y, 0], j⟩ = [2] := rfl
  have hA : pickA ⟨[1, 1, 0], [0, 0, 0], [x, y, 0], j⟩ p = 0 := by simp [pickA, hr]
  obtain ⟨e1, e2, e3⟩ := pickB_yes (t := ⟨[1, 1, 0], [0, 0, 0], [x, y, 0], j⟩) (p := p) (i := 2) (by rw [hA, hr]; rfl)
  refine ⟨e2, e1, ?_⟩
  rw [e3]
  have e : pickW ⟨[1, 1, 0], [0, 0, 0], [x, y, 0], j⟩ 2 = ⟨[1, 1, 0], [0, 0, 0], [x, y, 0 + 1], gmx j [0, 0, 0]⟩ := rfl
  rw [e, show gmx j [0, 0, 0] = max (max (max j 0) 0) 0 from rfl, show max (max (max j 0) 0) 0 = j by omega]
  rfl
theorem sta_n (x y j : Int) (p : Int) : pickI ⟨[1, 1, 1], [0, 0, 0], [x, y, 1], j⟩ p = 0 ∧ pickB ⟨[1, 1, 1], [0, 0, 0], [x, y, 1], j⟩ = false ∧ pickT ⟨[1, 1, 1], [0, 0, 0], [x, y, 1], j⟩ p = ⟨[1, 1, 1], [0, 0, 0], [x, y, 1], j⟩ := by
  obtain ⟨e1, e2, e3⟩ := pickB_no (t := ⟨[1, 1, 1], [0, 0, 0], [x, y, 1], j⟩) (by rfl) p
  exact ⟨e2, e1, e3⟩
set_option maxHeartbeats 4000000 in
theorem starves_core {w : World} {n p : Int} (hn : 0 ≤ n ∧ n ≤ 255) (hp : Is64 p) :
    Calls Try.prog 5 #[.int .u8 n, .int .i64 p] w fun e w' => e = .returned (.bool true) ∧ Below w.heap.size w w' := by
  have c0 := new_yes w 3 (by decide) (by decide)
  rw [show ((3 : Nat) : Int) = 3 from rfl] at c0
  obtain ⟨m, hm, hm1⟩ : ∃ m : Nat, Int.tmod n 100 = m ∧ m < 100 := ⟨(n % 100).toNat, by rw [Int.tmod_eq_emod_of_nonneg hn.1]; omega, by omega⟩
  unfold Is64 at hp
  go_enter Try.func5, Try.ntmps5
  go_wp2_with fail
  refine c0.mono ?_
  rintro e w1 ⟨g, rfl, h⟩
  have hq := h.out.2.2
  have P0 := keep h.out
  clear h c0
  go_wp2_with fail
  go_loopg [8] m (fun g' s8 wr => ∃ (j : Nat) (a b x y : Int), j + g' = m ∧ s8 = .int .i64 j ∧ Hid (PT wr g (sta a b x y j) j ∧ Fr w wr))
  case atStart => exact ⟨0, 0, 0, 0, 0, by omega, rfl, keep ⟨P0.out.1, P0.out.2.1⟩⟩
  case round =>
    obtain ⟨j, a, b, x, y, hj, rfl, hP⟩ := hrel
    obtain ⟨hT, hf⟩ := hP.out
    have ha := hT.ok.wa a (by simp [sta])
    have hb := hT.ok.wa b (by simp [sta])
    simp only [sta] at ha hb
    by_cases hlt : j < m
    · have hjz : (j : Int) < (m : Int) := by omega
      have hjw : (j : Int) + 1 ≤ 200 := by omega
      rcases Nat.mod_two_eq_zero_or_one j with h2 | h2
      · have h3 : Int.tmod (j : Int) 2 = 0 := by rw [Int.tmod_eq_emod_of_nonneg (by omega)]; omega
        have c1 := pick_at (p := 0) hT (by omega) (by decide)
        obtain ⟨e1, e2, e3⟩ := sta_0 (x := x) (y := y) ha hb
        rw [e1, e2, e3] at c1
        clear hT e1 e2 e3 ha hb h2
        go_wp2_with fail
        refine c1.mono ?_
        rintro e w2 ⟨rfl, h⟩
        have hf2 := fr_chg hf h.out.2 hq
        have c2 := wait_at (i := 2) h.out.1 (by decide)
        rw [show atI (sta 0 (b + 1) (x + 1) y ((j : Int) + 1)).wa 2 = (j : Int) + 1 from rfl] at c2
        clear hP c1
        go_wp2_with (first | (refine c2.mono ?_; rintro e w' ⟨rfl, rfl⟩) | fail)
        go_roundg (gk - 1)
        case measure => omega
        case rel => exact ⟨j + 1, _, _, _, _, by omega, rfl, keep ⟨h.out.1, hf2⟩⟩
      · have h3 : Int.tmod (j : Int) 2 = 1 := by rw [Int.tmod_eq_emod_of_nonneg (by omega)]; omega
        have c1 := pick_at (p := 1) hT (by omega) (by decide)
        obtain ⟨e1, e2, e3⟩ := sta_1 (x := x) (y := y) ha hb
        rw [e1, e2, e3] at c1
        clear hT e1 e2 e3 ha hb h2
        go_wp2_with fail
        refine c1.mono ?_
        rintro e w2 ⟨rfl, h⟩
        have hf2 := fr_chg hf h.out.2 hq
        have c2 := wait_at (i := 2) h.out.1 (by decide)
        rw [show atI (sta (a + 1) 0 x (y + 1) ((j : Int) + 1)).wa 2 = (j : Int) + 1 from rfl] at c2
        clear hP c1
        go_wp2_with (first | (refine c2.mono ?_; rintro e w' ⟨rfl, rfl⟩) | fail)
        go_roundg (gk - 1)
        case measure => omega
        case rel => exact ⟨j + 1, _, _, _, _, by omega, rfl, keep ⟨h.out.1, hf2⟩⟩
    · obtain rfl : j = m := by omega
      have hjz : ¬ (j : Int) < (j : Int) := by omega
      have c1 := block_at (i := 2) hT (by decide)
      rw [sta_t1] at c1
      clear hT hP ha hb hlt
      go_wp2_with fail
      refine c1.mono ?_
      rintro e w2 ⟨rfl, h⟩
      replace hf := fr_chg hf h.out.2 hq
      have c2 := wait_at (i := 2) h.out.1 (by decide)
      have c3 := worst_at h.out.1
      simp only at c3
      rw [show atI (Tab.wa ⟨[0, 0, 1], [a, b, 0], [x, y, 0], j⟩) 2 = 0 from rfl] at c2
      have P := keep h.out.1
      clear c1 h
      go_wp2_with (first
        | (go_at_call 28; refine c2.mono ?_; rintro e w' ⟨rfl, rfl⟩)
        | (go_at_call 25; refine c3.mono ?_; rintro e w' ⟨rfl, rfl⟩)
        | fail)
      all_goals
        have c4 := wake_at (i := 2) P.out (by decide)
        rw [sta_t2] at c4
        clear c2 c3
        refine c4.mono ?_
        rintro e w3 ⟨rfl, h⟩
        have hf3 := fr_chg hf h.out.2 hq
        have c5 := wake_at (i := 2) h.out.1 (by decide)
        rw [sta_t3] at c5
        clear c4 h
        go_wp2_with fail
        refine c5.mono ?_
        rintro e w4 ⟨rfl, h⟩
        replace hf3 := fr_chg hf3 h.out.2 hq
        have c6 := block_at (i := 0) h.out.1 (by decide)
        rw [sta_t4] at c6
        clear c5 h
        go_wp2_with fail
        refine c6.mono ?_
        rintro e w5 ⟨rfl, h⟩
        replace hf3 := fr_chg hf3 h.out.2 hq
        have c7 := block_at (i := 1) h.out.1 (by decide)
        rw [sta_t5] at c7
        clear c6 h
        go_wp2_with fail
        refine c7.mono ?_
        rintro e w6 ⟨rfl, h⟩
        replace hf3 := fr_chg hf3 h.out.2 hq
        have c8 := pick_at (p := p) h.out.1 (by omega) hp
        obtain ⟨e1, e2, e3⟩ := sta_p (x := x) (y := y) (j := (j : Int)) (by omega) p
        rw [e1, e2, e3] at c8
        clear c7 h e1 e2 e3
        go_wp2_with fail
        refine c8.mono ?_
        rintro e w7 ⟨rfl, h⟩
        replace hf3 := fr_chg hf3 h.out.2 hq
        have c9 := block_at (i := 2) h.out.1 (by decide)
        rw [sta_t6] at c9
        clear c8 h
        go_wp2_with fail
        refine c9.mono ?_
        rintro e w8 ⟨rfl, h⟩
        replace hf3 := fr_chg hf3 h.out.2 hq
        have c10 := pick_at (p := p) h.out.1 (by omega) hp
        obtain ⟨e1, e2, e3⟩ := sta_n x y (j : Int) p
        rw [e1, e2, e3] at c10
        clear c9 h e1 e2 e3
        go_wp2_with fail
        refine c10.mono ?_
        rintro e w9 ⟨rfl, h⟩
        replace hf3 := fr_chg hf3 h.out.2 hq
        have c11 := picks_at (i := 2) h.out.1 (by decide)
        have c12 := wait_at (i := 2) h.out.1 (by decide)
        rw [show atI (Tab.pk ⟨[1, 1, 1], [0, 0, 0], [x, y, 1], j⟩) 2 = 1 from rfl] at c11
        rw [show atI (Tab.wa ⟨[1, 1, 1], [0, 0, 0], [x, y, 1], j⟩) 2 = 0 from rfl] at c12
        have ca := awake13 w9
        clear c10 h
        go_wp2_with (first
          | (go_at_call 26; refine c11.mono ?_; rintro e w' ⟨rfl, rfl⟩)
          | (go_at_call 28; refine c12.mono ?_; rintro e w' ⟨rfl, rfl⟩)
          | (go_at_call 10; refine ca.mono ?_; rintro e wa ⟨rfl, fa⟩)
          | fail)
        go_ret
        exact ⟨rfl, fr_step hf3 fa⟩
end Go.Proofs.Ytmfnekobepdhkaa
