/- Those who wait, by their numbers; rows of them that are let in. No program text. -/
import Derived.Test.YtbnphkiipjgfaaaLaN
namespace Go.Proofs.Ytbnphkiipjgfaaa
set_option linter.unusedVariables false
set_option linter.unusedSimpArgs false
/-- Tasks i, i + 1, .. -/
def enq : List Bool → Nat → List Wt
  | [], _ => []
  | b :: l, i => ((i : Int), b) :: enq l (i + 1)
theorem enq_snoc (l : List Bool) (b : Bool) (i : Nat) : enq (l ++ [b]) i = enq l i ++ [(((i + l.length : Nat) : Int), b)] := by
  induction l generalizing i with
  | nil => rfl
  | cons c l ih =>
    simp only [List.cons_append, enq, ih, List.length_cons]
    rw [show i + 1 + l.length = i + (l.length + 1) by omega]
theorem enq_len (l : List Bool) (i : Nat) : (enq l i).length = l.length := by
  induction l generalizing i with
  | nil => rfl
  | cons c l ih => simp [enq, ih]
theorem enq_mem {l : List Bool} {i : Nat} {x : Wt} (h : x ∈ enq l i) : (i : Int) ≤ x.1 ∧ x.1 < (i : Int) + l.length := by
  induction l generalizing i with
  | nil => cases h
  | cons c l ih =>
    simp only [enq, List.mem_cons] at h
    rcases h with rfl | h
    · simp only [List.length_cons]; omega
    · have := ih h
      simp only [List.length_cons]; omega
theorem enq_any {l : List Bool} {i : Nat} {x : Int} (h : x < i ∨ (i : Int) + l.length ≤ x) : ((enq l i).any fun y => decide (y.1 = x)) = false := by
  rw [List.any_eq_false]
  intro y hy
  have := enq_mem hy
  simp only [decide_eq_true_eq]
  omega
/-- How many readers stand in front. -/
def lead : List Bool → Nat
  | [] => 0
  | b :: l => if b then 0 else lead l + 1
theorem lead_le (l : List Bool) : lead l ≤ l.length := by
  induction l with
  | nil => exact Nat.le_refl _
  | cons b l ih =>
    simp only [lead, List.length_cons]
    split <;> omega
theorem lead_take {l : List Bool} {j : Nat} {b : Bool} (h : l[j]? = some b) : lead (l.take (j + 1)) = if lead (l.take j) = j ∧ b = false then j + 1 else lead (l.take j) := by
  induction l generalizing j with
  | nil => simp at h
  | cons c l ih =>
    cases j with
    | zero =>
      simp at h
      subst h
      cases c <;> simp [lead]
    | succ j =>
      have := ih (j := j) (by simpa using h)
      simp only [List.take_succ_cons, lead]
      cases c
      · simp only [Bool.false_eq_true, if_false, this]
        by_cases hh : lead (l.take j) = j ∧ b = false
        · rw [if_pos hh, if_pos ⟨by omega, hh.2⟩]
        · rw [if_neg hh, if_neg (fun x => hh ⟨by omega, x.2⟩)]
      · simp
/-- The numbers of n from i on. -/
def nums : Nat → Nat → List Int
  | 0, _ => []
  | n + 1, i => (i : Int) :: nums n (i + 1)
theorem nums_len (n i : Nat) : (nums n i).length = n := by
  induction n generalizing i with
  | zero => rfl
  | succ n ih => simp [nums, ih]
theorem nums_get {n i j : Nat} (h : j < n) : (nums n i)[j]? = some (((i + j : Nat) : Int)) := by
  induction n generalizing i j with
  | zero => omega
  | succ n ih =>
    cases j with
    | zero => simp [nums]
    | succ j =>
      simp only [nums, List.getElem?_cons_succ]
      rw [ih (by omega)]
      congr 2
      omega
/-- Readers at the front of a queue come in beside readers. -/
theorem let_readers {rs : List Int} (hr : rs ≠ []) (l : List Bool) (i : Nat) (p : Int) : ∃ rs', rs'.length = rs.length + lead l ∧ (∀ z, z ∈ rs' ↔ z ∈ rs ∨ z ∈ nums (lead l) i) ∧ letT ⟨rs, -1, enq l i, p⟩ = (⟨rs', -1, enq (l.drop (lead l)) (i + lead l), p⟩, nums (lead l) i) := by
  induction l generalizing rs i with
  | nil => exact ⟨rs, rfl, by simp [lead, nums], by rw [let_nil rfl]; rfl⟩
  | cons b l ih =>
    cases b with
    | true =>
      refine ⟨rs, rfl, by simp [lead, nums], ?_⟩
      rw [let_no (x := ((i : Int), true)) (q := enq l (i + 1)) rfl]
      · rfl
      · cases rs with
        | nil => exact absurd rfl hr
        | cons x rs => simp [canT]
    | false =>
      obtain ⟨rs', h1, h2, h3⟩ := ih (rs := insT rs i) (fun e => by have := ins_len rs i; rw [e] at this; cases this) (i + 1)
      refine ⟨rs', by rw [h1, ins_len]; simp [lead]; omega, fun z => ?_, ?_⟩
      · rw [h2, mem_ins]
        simp only [lead, Bool.false_eq_true, if_false, nums, List.mem_cons]
        constructor
        · rintro ((h | h) | h) <;> simp [h]
        · rintro (h | h | h) <;> simp [h]
      · rw [let_yes (x := ((i : Int), false)) (q := enq l (i + 1)) rfl (by simp [canT])]
        have e : giveT { rs := rs, wr := -1, q := enq l (i + 1), pn := p } ((i : Int), false) = ⟨insT rs i, -1, enq l (i + 1), p⟩ := rfl
        rw [e, h3]
        simp only [lead, Bool.false_eq_true, if_false, List.drop_succ_cons, nums, Prod.mk.injEq, Lat.mk.injEq, true_and, and_true]
        rw [show i + 1 + lead l = i + (lead l + 1) by omega]
/-- One more who waits behind one that has it. -/
theorem take_enq {rs : List Int} {wr : Int} {q0 : List Wt} {l : List Bool} {b : Bool} (hb : (wr ≠ -1 ∨ q0 ≠ [])) (hr : ∀ z ∈ rs, (l.length : Int) < z) (hw : wr < 0 ∨ (l.length : Int) < wr) (hq : ∀ x ∈ q0, (l.length : Int) < x.1) :
    tryB ⟨rs, wr, q0 ++ enq l 0, 0⟩ l.length b = false ∧ takeT ⟨rs, wr, q0 ++ enq l 0, 0⟩ l.length b = ⟨rs, wr, q0 ++ enq (l ++ [b]) 0, 0⟩ := by
  have h1 : tryB ⟨rs, wr, q0 ++ enq l 0, 0⟩ l.length b = false := by
    rcases hb with hb | hb
    · simp [tryB, canT, hb]
    · cases q0 with
      | nil => exact absurd rfl hb
      | cons x q0 => simp [tryB]
  have h2 : hasT ⟨rs, wr, q0 ++ enq l 0, 0⟩ l.length = false := by
    simp only [hasT, Bool.or_eq_false_iff]
    refine ⟨⟨decide_eq_false (by omega), ?_⟩, ?_⟩
    · simp only [List.contains_eq_mem, decide_eq_false_iff_not]
      intro hm
      have := hr _ hm
      omega
    · rw [List.any_append, Bool.or_eq_false_iff]
      refine ⟨?_, enq_any (.inr (by omega))⟩
      rw [List.any_eq_false]
      intro y hy
      have := hq y hy
      simp only [decide_eq_true_eq]
      omega
  have h3 : waitB ⟨rs, wr, q0 ++ enq l 0, 0⟩ l.length = true := by rw [waitB, h2, decide_eq_true (by omega)]; rfl
  refine ⟨h1, ?_⟩
  rw [takeT, h1, h3]
  simp only [Bool.false_eq_true, if_false, if_true, Lat.mk.injEq, true_and, and_true, List.append_assoc]
  rw [enq_snoc, Nat.zero_add]
end Go.Proofs.Ytbnphkiipjgfaaa
