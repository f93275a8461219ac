/- CacheLine, by plain functions: a round of it. -/
import Derived.Test.YtmoaddbpfekdbaaM40
import Derived.Test.YtmoaddbpfekdbaaM21
namespace Go.Proofs.Ytmoaddbpfekdbaa
set_option linter.unusedVariables false
set_option linter.unusedSimpArgs false
set_option linter.unusedSectionVars false
set_option maxRecDepth 100000
open Go.RowKit
def frS (cl : List Bool) (v : NX) : Nat → Fra NX
  | 0 => ⟨2, 100, 0, true, false, v, 0⟩
  | t + 1 => if gd cl t = true then ⟨3, -1, 1, false, false, default, (t : Int)⟩ else ⟨1, 10 + (t : Int), 1, true, false, default, 0⟩
def tlS : Nat → List (Int × Int)
  | 0 => []
  | _ + 1 => [(6, 200)]
def lnS (cl : List Bool) (t k : Nat) : List (Int × Int) := lnL cl t (k - t) ++ tlS t
section
variable {cl : List Bool} {t k p : Nat} {h : Int} {v : NX}
theorem ln_next (ht : t < k) (tl : List (Int × Int)) : lnL cl t (k - t) ++ tl = ((t : Int), want cl t) :: (lnL cl (t + 1) (k - (t + 1)) ++ tl) := by
  rw [show k - t = (k - (t + 1)) + 1 by omega]
  rfl
theorem ln_rest (ht : t < k) (hk : k ≤ 5) : leave (lnL cl (t + 1) (k - (t + 1)) ++ [((6 : Int), (200 : Int))]) (t : Int) = lnL cl (t + 1) (k - (t + 1)) ++ [(6, 200)] := by
  refine leave_none ?_
  rw [stand_ln, if_neg (by omega)]
  have : ¬ (6 : Int) = (t : Int) := by omega
  simp [stand, this]
theorem qq_claim (ht : t < k) (hk : k ≤ 5) (hg : gd cl t = true) : claimC (qS (V := NX) freeF (lnL cl t (k - t) ++ [(6, 200)]) h) (t : Int) = (true, qS ⟨3, -1, 1, false, false, default, (t : Int)⟩ (lnL cl (t + 1) (k - (t + 1)) ++ [(6, 200)]) h) := by
  have hw : want cl t = -1 := by unfold want; rw [if_pos hg]
  rw [ln_next ht, hw, q_claim1 (by omega), ln_rest ht hk]
theorem qq_pin (ht : t < k) (hk : k ≤ 5) (hg : gd cl t = false) : pinC (qS (V := NX) freeF (lnL cl t (k - t) ++ [(6, 200)]) h) (t : Int) (10 + (t : Int)) = (3, qS ⟨1, 10 + (t : Int), 1, true, false, default, 0⟩ (lnL cl (t + 1) (k - (t + 1)) ++ [(6, 200)]) h) := by
  have hw : want cl t = 10 + (t : Int) := by unfold want; rw [if_neg (by rw [hg]; decide)]; omega
  rw [ln_next ht, hw, q_pin3 (by omega) (by omega), ln_rest ht hk]
theorem qq_line (ht : t < k) (hk : k ≤ 5) : stand (lnS cl t k) 6 = none ∨ stand (lnS cl t k) 6 = some (6, 200) := by
  obtain ⟨h1, h2⟩ := stand6 cl (t := t) (d := k - t) (by omega)
  cases t with
  | zero => exact .inl (by unfold lnS; rw [show tlS 0 = [] from rfl, List.append_nil]; exact h2)
  | succ t => exact .inr h1
theorem qq_pin6 (ht : t < k) (hk : k ≤ 5) : pinC (qS (V := NX) freeF (lnS cl t k) h) 6 200 = (4, qS freeF (lnL cl t (k - t) ++ [(6, 200)]) h) := by
  have ha : ahead (lnS cl t k) 6 = false := by
    have := ahead_ln cl t (k - (t + 1)) (tlS t) 6
    rw [show k - (t + 1) + 1 = k - t by omega, decide_eq_false (by omega)] at this
    exact this
  rw [q_pin6 (by omega) (by omega) ha (qq_line ht hk)]
  obtain ⟨h1, h2⟩ := queue6 cl (t := t) (d := k - t) (by omega)
  cases t with
  | zero => unfold lnS; rw [show tlS 0 = [] from rfl, List.append_nil, h1]
  | succ t => unfold lnS; rw [show tlS (t + 1) = [(6, 200)] from rfl, h2]
theorem qq_may1 (ht : t < k) (hk : k ≤ 5) : mayC (qS (V := NX) freeF (lnS cl t k) h) (t : Int) = true := by
  unfold lnS
  rw [ln_next ht]
  exact q_may1 (by omega)
theorem qq_may2 (ht : t + 1 < k) (hk : k ≤ 5) : mayC (qS (V := NX) freeF (lnS cl t k) h) ((t : Int) + 1) = false := by
  have ha : ahead (lnS cl t k) ((t : Int) + 1) = false := by
    have := ahead_ln cl t (k - (t + 1)) (tlS t) (t + 1)
    rw [show k - (t + 1) + 1 = k - t by omega, decide_eq_false (by omega)] at this
    exact this
  have hs : stand (lnS cl t k) ((t : Int) + 1) = some ((t : Int) + 1, want cl (t + 1)) := by
    have := stand_ln cl t (k - t) (t + 1) (tlS t)
    rw [if_pos (by omega)] at this
    exact this
  by_cases hw : want cl (t + 1) = -1
  · exact q_may3 (by rw [hs, hw]) ha
  · exact q_may2 hs ha hw
/-- The line as it fills. -/
theorem qq_new_claim (ht : t < k) (hk : k ≤ 5) (hg : gd cl t = true) : claimC (qS (⟨2, 100, 1, true, false, v, 0⟩ : Fra NX) (lnL cl 0 t) 0) (t : Int) = (false, qS ⟨2, 100, 1, true, false, v, 0⟩ (lnL cl 0 (t + 1)) 0) := by
  have hl : stand (lnL cl 0 t) (t : Int) = none := by
    have := stand_ln cl 0 t t []
    rw [if_neg (by omega), List.append_nil] at this
    exact this
  have hw : want cl t = -1 := by unfold want; rw [if_pos hg]
  rw [q_claim0 (by simp) (by omega) hl, lnL_snoc, Nat.zero_add, hw]
theorem qq_new_pin (ht : t < k) (hk : k ≤ 5) (hg : gd cl t = false) : pinC (qS (⟨2, 100, 1, true, false, v, 0⟩ : Fra NX) (lnL cl 0 t) 0) (t : Int) (10 + (t : Int)) = (4, qS ⟨2, 100, 1, true, false, v, 0⟩ (lnL cl 0 (t + 1)) 0) := by
  have hl : stand (lnL cl 0 t) (t : Int) = none := by
    have := stand_ln cl 0 t t []
    rw [if_neg (by omega), List.append_nil] at this
    exact this
  have hw : want cl t = 10 + (t : Int) := by unfold want; rw [if_neg (by rw [hg]; decide)]; omega
  rw [q_pin4 (by simp) (by simp only; omega) (by omega) (by omega) hl, lnL_snoc, Nat.zero_add, hw]
theorem lnS_zero : lnL cl 0 k = lnS cl 0 k := by unfold lnS; rw [show tlS 0 = [] from rfl, List.append_nil, Nat.sub_zero]
theorem lnS_end_len (hk : 0 < k) : (qS (frS cl v k) (lnS cl k k) h).line.length = 1 := by
  unfold lnS
  cases k with
  | zero => omega
  | succ k => rw [Nat.sub_self]; rfl
theorem frS_yes (hp : (t : Int) - 1 = (p : Int)) (hg : gd cl p = true) : frS cl v t = ⟨3, -1, 1, false, false, default, (p : Int)⟩ := by
  obtain rfl : t = p + 1 := by omega
  show (if gd cl p = true then _ else _) = _
  rw [if_pos hg]
theorem frS_no (hp : (t : Int) - 1 = (p : Int)) (hg : gd cl p = false) : frS cl v t = ⟨1, 9 + (t : Int), 1, true, false, default, 0⟩ := by
  obtain rfl : t = p + 1 := by omega
  show (if gd cl p = true then _ else _) = _
  rw [if_neg (by rw [hg]; decide)]
  rw [show (10 : Int) + (p : Int) = 9 + ((p + 1 : Nat) : Int) by omega]
theorem frS_next1 (hg : gd cl t = true) : frS cl v (t + 1) = ⟨3, -1, 1, false, false, default, (t : Int)⟩ := by show (if gd cl t = true then _ else _) = _; rw [if_pos hg]
theorem frS_next2 (hg : gd cl t = false) : frS cl v (t + 1) = ⟨1, 10 + (t : Int), 1, true, false, default, 0⟩ := by show (if gd cl t = true then _ else _) = _; rw [if_neg (by rw [hg]; decide)]
end
theorem has_bcells {w : World} {A : Option Addr} {m : Nat} {l : List Bool} (h : Has w w.heap.size A (rows bc l)) (hl : l.length = m) : ∃ b o, ∀ t, t < m → A = some ⟨b, o, none⟩ ∧ ∀ V, Fr w V → V.cell? ⟨b, o + t, none⟩ = some (.bool (gd l t)) := by
  by_cases hm : m = 0
  · exact ⟨0, 0, fun t ht => by omega⟩
  · obtain ⟨b2, off2, e2, hb2, hr2⟩ := has_rows h (bc_wid l) (by decide) (by intro e; rw [e] at hl; simp at hl; omega)
    refine ⟨b2, off2, fun t ht => ⟨e2, fun V hV => ?_⟩⟩
    have hb : l[t]? = some (gd l t) := by
      unfold gd
      rw [List.getD_eq_getElem?_getD, List.getElem?_eq_getElem (by omega)]
      rfl
    have lX := elem_cell0 hr2 (bc_wid l) (by omega) hb (u := .bool (gd l t)) rfl V hV
    rw [Nat.mul_one] at lX
    exact lX
theorem gd_off {l : List Bool} {t m : Nat} (hl : l.length = m) (h : m ≤ t) : gd l t = false := by
  unfold gd
  rw [List.getD_eq_getElem?_getD, List.getElem?_eq_none (by omega)]
  rfl
end Go.Proofs.Ytmoaddbpfekdbaa
