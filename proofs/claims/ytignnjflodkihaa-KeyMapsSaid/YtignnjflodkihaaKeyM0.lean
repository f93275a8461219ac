/- The next key: what it is. -/
import Derived.Test.YtignnjflodkihaaKeyL
namespace Go.Proofs.Ytignnjflodkihaa
open Go.RowKit Go.Maps
set_option linter.unusedVariables false
theorem wf_of {k : RK} (hn : -9223372036854775808 ≤ k.n ∧ k.n ≤ 9223372036854775807) (h : ∀ t, t < 8 → Byt (k.at t)) : k.wf :=
  ⟨hn, h 0 (by omega), h 1 (by omega), h 2 (by omega), h 3 (by omega), h 4 (by omega), h 5 (by omega), h 6 (by omega), h 7 (by omega)⟩
theorem okB_of {k : RK} (m : Nat) (hm : m ≤ 8) (hn : k.n = m) (h : ∀ t, m ≤ t → t < 8 → k.at t = 0) : okB k = true := by
  rw [okB_in hm hn, decide_eq_true_iff]
  exact (first_iff k m hm hn).2 h
set_option maxRecDepth 100000 in
set_option maxHeartbeats 2000000 in
theorem bump_at (k : RK) (j t : Nat) (hj : j < 8) (ht : t < 8) : (bump k j).at t = if t < j then k.at t else if t = j then k.at j + 1 else 0 := by
  rcases j with _|_|_|_|_|_|_|_|j
  all_goals first | omega | skip
  all_goals
    rcases t with _|_|_|_|_|_|_|_|t
    all_goals first | omega | simp [bump, setB, firstK, RK.at]
theorem bump_n (k : RK) (j : Nat) (hj : j < 8) : (bump k j).n = (j : Int) + 1 := by
  rcases j with _|_|_|_|_|_|_|_|j
  all_goals first | omega | simp [bump, setB, firstK]
theorem nextAt_some {k n : RK} : ∀ {i : Nat}, nextAt k i = some n → ∃ j, j < i ∧ k.at j ≠ 255 ∧ (∀ t, j < t → t < i → k.at t = 255) ∧ n = bump k j
  | 0, h => by simp [nextAt] at h
  | i + 1, h => by
    unfold nextAt at h
    by_cases e : k.at i = 255
    · rw [if_pos e] at h
      obtain ⟨j, h1, h2, h3, h4⟩ := nextAt_some h
      refine ⟨j, by omega, h2, fun t a b => ?_, h4⟩
      by_cases e2 : t = i
      · rw [e2]; exact e
      · exact h3 t a (by omega)
    · rw [if_neg e] at h
      injection h with h
      exact ⟨i, by omega, e, fun t a b => by omega, h.symm⟩
theorem nextAt_none {k : RK} : ∀ {i : Nat}, nextAt k i = none → ∀ t, t < i → k.at t = 255
  | 0, _, t, ht => by omega
  | i + 1, h, t, ht => by
    unfold nextAt at h
    by_cases e : k.at i = 255
    · rw [if_pos e] at h
      by_cases e2 : t = i
      · rw [e2]; exact e
      · exact nextAt_none h t (by omega)
    · rw [if_neg e] at h; cases h
theorem bump_val {k : RK} (j : Nat) (hj : j < 8) (h : ∀ t, j < t → t < 8 → k.at t = 255) : val8 (bump k j) = val8 k + 1 := by
  rcases j with _|_|_|_|_|_|_|_|j
  all_goals first | omega | skip
  all_goals
    have h1 := fun a => h 1 a (by omega)
    have h2 := fun a => h 2 a (by omega)
    have h3 := fun a => h 3 a (by omega)
    have h4 := fun a => h 4 a (by omega)
    have h5 := fun a => h 5 a (by omega)
    have h6 := fun a => h 6 a (by omega)
    have h7 := fun a => h 7 a (by omega)
    simp [RK.at] at h1 h2 h3 h4 h5 h6 h7
    simp [bump, setB, firstK, RK.at, val8, *]
  all_goals omega
theorem val8_inj {a b : RK} (ha : a.wf) (hb : b.wf) (h : val8 a = val8 b) : ∀ t, t < 8 → a.at t = b.at t := by
  unfold val8 at h
  obtain ⟨h, e7⟩ := step256 ha.h7 hb.h7 h
  obtain ⟨h, e6⟩ := step256 ha.h6 hb.h6 h
  obtain ⟨h, e5⟩ := step256 ha.h5 hb.h5 h
  obtain ⟨h, e4⟩ := step256 ha.h4 hb.h4 h
  obtain ⟨h, e3⟩ := step256 ha.h3 hb.h3 h
  obtain ⟨h, e2⟩ := step256 ha.h2 hb.h2 h
  obtain ⟨h, e1⟩ := step256 ha.h1 hb.h1 h
  intro t ht
  rcases t with _|_|_|_|_|_|_|_|t
  all_goals first | omega | assumption
/-- All that is asked of a next key. -/
theorem next_some {k n : RK} (wk : k.wf) (ok : okB k = true) (h : nextK k = some n) : n.wf ∧ okB n = true ∧ code k < code n ∧ (∀ b : RK, b.wf → okB b = true → code k < code b → code n ≤ code b) ∧ ¬ (k.n = 8 ∧ ∀ t, t < 8 → k.at t = 255) := by
  have lk := okB_len ok
  unfold Len at lk
  unfold nextK at h
  by_cases hn : k.n < 8
  · rw [if_pos hn] at h
    injection h with h
    subst h
    have ha : ∀ t, (setN k (k.n + 1)).at t = k.at t := fun t => by unfold RK.at setN; rfl
    have hc : code (setN k (k.n + 1)) = code k + 1 := by simp [code, val8, setN]; omega
    refine ⟨wf_of (by simp [setN]; omega) (fun t ht => by rw [ha]; exact at_byt wk t), okB_of (k.n.toNat + 1) (by omega) (by simp [setN]; omega) (fun t h1 h2 => by rw [ha]; exact okB_zero ok t h2 (by omega)), by omega, fun b _ _ hb => by omega, fun e => by omega⟩
  · rw [if_neg hn] at h
    obtain ⟨j, h1, h2, h3, rfl⟩ := nextAt_some h
    have h8 : k.n = 8 := by omega
    have hv := bump_val j h1 h3
    have hbn := bump_n k j h1
    have wn : (bump k j).wf := wf_of (by omega) (fun t ht => by
      rw [bump_at k j t h1 ht]
      have hb := at_byt wk j
      have hb2 := at_byt wk t
      unfold Byt at *
      split
      · exact hb2
      · split <;> omega)
    refine ⟨wn, okB_of (j + 1) (by omega) (by omega) (fun t a b => by rw [bump_at k j t h1 b, if_neg (by omega), if_neg (by omega)]), by unfold code; omega, fun b wb ob hlt => ?_, fun e => h2 (e.2 j h1)⟩
    have lb := okB_len ob
    unfold Len at lb
    unfold code at hlt ⊢
    by_cases e : val8 b = val8 (bump k j)
    · have hbj := val8_inj wb wn e j h1
      rw [bump_at k j j h1 h1, if_neg (by omega), if_pos rfl] at hbj
      have hlo := (at_byt wk j).1
      have : ¬ b.n ≤ j := fun hle => by have := okB_zero ob j h1 hle; omega
      omega
    · omega
theorem next_none {k : RK} (wk : k.wf) (ok : okB k = true) (h : nextK k = none) : (k.n = 8 ∧ ∀ t, t < 8 → k.at t = 255) ∧ ∀ b : RK, b.wf → okB b = true → code b ≤ code k := by
  have lk := okB_len ok
  unfold Len at lk
  unfold nextK at h
  by_cases hn : k.n < 8
  · rw [if_pos hn] at h; cases h
  · rw [if_neg hn] at h
    have ha := nextAt_none h
    refine ⟨⟨by omega, ha⟩, fun b wb ob => ?_⟩
    have lb := okB_len ob
    unfold Len at lb
    have := val8_le (a := b) (b := k) fun t ht => by rw [ha t ht]; exact (at_byt wb t).2
    unfold code
    omega
end Go.Proofs.Ytignnjflodkihaa
