/- What the functions of layer 3 come to, five: 'Compare', of the document. -/
import Derived.Test.YtignnjflodkihaaKeyC
import Derived.Test.YtignnjflodkihaaKeyD
import Derived.BigQuiet
import Derived.Deep.QuietTactic
import Derived.Deep.LoopGhost
namespace Go.Proofs.Ytignnjflodkihaa
open Go.RowKit
set_option linter.unusedVariables false

theorem val8_le {a b : RK} (h : ∀ t, t < 8 → a.at t ≤ b.at t) : val8 a ≤ val8 b := by
  have h0 : a.b0 ≤ b.b0 := h 0 (by omega)
  have h1 : a.b1 ≤ b.b1 := h 1 (by omega)
  have h2 : a.b2 ≤ b.b2 := h 2 (by omega)
  have h3 : a.b3 ≤ b.b3 := h 3 (by omega)
  have h4 : a.b4 ≤ b.b4 := h 4 (by omega)
  have h5 : a.b5 ≤ b.b5 := h 5 (by omega)
  have h6 : a.b6 ≤ b.b6 := h 6 (by omega)
  have h7 : a.b7 ≤ b.b7 := h 7 (by omega)
  unfold val8
  omega
theorem val8_lt {a b : RK} (ha : a.wf) (hb : b.wf) (j : Nat) (hj : j < 8) (h : ∀ t, t < j → a.at t = b.at t) (hl : a.at j < b.at j) : val8 a < val8 b := by
  obtain ⟨_, a0, a1, a2, a3, a4, a5, a6, a7⟩ := ha
  obtain ⟨_, c0, c1, c2, c3, c4, c5, c6, c7⟩ := hb
  unfold Byt at *
  unfold val8
  have h0 : 0 < j → a.b0 = b.b0 := fun q => h 0 q
  have h1 : 1 < j → a.b1 = b.b1 := fun q => h 1 q
  have h2 : 2 < j → a.b2 = b.b2 := fun q => h 2 q
  have h3 : 3 < j → a.b3 = b.b3 := fun q => h 3 q
  have h4 : 4 < j → a.b4 = b.b4 := fun q => h 4 q
  have h5 : 5 < j → a.b5 = b.b5 := fun q => h 5 q
  have h6 : 6 < j → a.b6 = b.b6 := fun q => h 6 q
  clear h
  rcases j with _|_|_|_|_|_|_|_|j
  all_goals simp only [RK.at] at hl
  all_goals omega
theorem okB_len {k : RK} (h : okB k = true) : Len k := by
  obtain ⟨m, hm, hn, _⟩ := okB_n h
  unfold Len; omega
theorem okB_zero {k : RK} (h : okB k = true) (t : Nat) (ht : t < 8) (hn : k.n ≤ t) : k.at t = 0 := by
  obtain ⟨m, hm, hn', he⟩ := okB_n h
  exact (first_iff k m hm hn').1 he t (by omega) ht
/-- Before place j the keys are alike, and both reach there. -/
def Pre (a b : RK) (j : Nat) : Prop := ∀ t, t < j → a.at t = b.at t ∧ (t : Int) < a.n ∧ (t : Int) < b.n
theorem pre_ge {a b : RK} {j : Nat} (h : Pre a b j) : (j : Int) ≤ a.n ∨ j = 0 := by
  rcases j with _|j
  · exact .inr rfl
  · have := (h j (by omega)).2.1; left; omega
theorem pre_ge' {a b : RK} {j : Nat} (h : Pre a b j) : (j : Int) ≤ b.n ∨ j = 0 := by
  rcases j with _|j
  · exact .inr rfl
  · have := (h j (by omega)).2.2; left; omega
theorem cmp_both {a b : RK} (oa : okB a = true) (ob : okB b = true) (j : Nat) (hj : j ≤ 8) (h : Pre a b j) (h1 : a.n ≤ j) (h2 : b.n ≤ j) : cmpK a b = 0 := by
  have la := okB_len oa
  have lb := okB_len ob
  unfold Len at la lb
  have g1 := pre_ge h
  have g2 := pre_ge' h
  have e : ∀ t, t < 8 → a.at t = b.at t := fun t ht => by
    by_cases hl : t < j
    · exact (h t hl).1
    · rw [okB_zero oa t ht (by omega), okB_zero ob t ht (by omega)]
  have v1 := val8_le (a := a) (b := b) fun t ht => by rw [e t ht]; exact Int.le_refl _
  have v2 := val8_le (a := b) (b := a) fun t ht => by rw [e t ht]; exact Int.le_refl _
  exact cmpI_eq (by unfold code; omega)
theorem cmp_short {a b : RK} (oa : okB a = true) (ob : okB b = true) (wb : b.wf) (j : Nat) (hj : j < 8) (h : Pre a b j) (h1 : a.n ≤ j) (h2 : (j : Int) < b.n) : cmpK a b = -1 := by
  have v1 := val8_le (a := a) (b := b) fun t ht => by
    by_cases hl : t < j
    · rw [(h t hl).1]; exact Int.le_refl _
    · rw [okB_zero oa t ht (by omega)]; exact (at_byt wb t).1
  exact cmpI_lt (by unfold code; omega)
theorem cmp_long {a b : RK} (oa : okB a = true) (ob : okB b = true) (wa : a.wf) (j : Nat) (hj : j < 8) (h : Pre a b j) (h1 : (j : Int) < a.n) (h2 : b.n ≤ j) : cmpK a b = 1 := by
  have v1 := val8_le (a := b) (b := a) fun t ht => by
    by_cases hl : t < j
    · rw [(h t hl).1]; exact Int.le_refl _
    · rw [okB_zero ob t ht (by omega)]; exact (at_byt wa t).1
  exact cmpI_gt (by unfold code; omega)
theorem cmp_at_lt {a b : RK} (oa : okB a = true) (ob : okB b = true) (wa : a.wf) (wb : b.wf) (j : Nat) (hj : j < 8) (h : Pre a b j) (hl : a.at j < b.at j) : cmpK a b = -1 := by
  have la := okB_len oa
  have lb := okB_len ob
  unfold Len at la lb
  have := val8_lt wa wb j hj (fun t ht => (h t ht).1) hl
  exact cmpI_lt (by unfold code; omega)
theorem cmp_at_gt {a b : RK} (oa : okB a = true) (ob : okB b = true) (wa : a.wf) (wb : b.wf) (j : Nat) (hj : j < 8) (h : Pre a b j) (hl : b.at j < a.at j) : cmpK a b = 1 := by
  have la := okB_len oa
  have lb := okB_len ob
  unfold Len at la lb
  have := val8_lt wb wa j hj (fun t ht => (h t ht).1.symm) hl
  exact cmpI_gt (by unfold code; omega)
end Go.Proofs.Ytignnjflodkihaa
