/- Where the one that waits longest is picked, nobody waits longer than there are others. No program text. -/
import Derived.Test.YtmfnekobepdhkaaScM
namespace Go.Proofs.Ytmfnekobepdhkaa
set_option linter.unusedVariables false
set_option linter.unusedSimpArgs false
/-- How many wait j times and more. -/
def cnt (wa : List Int) (j : Nat) : Nat := wa.countP fun x => decide ((j : Int) ≤ x)
theorem cnt_le (wa : List Int) (j : Nat) : cnt wa j ≤ wa.length := List.countP_le_length
theorem cnt_range (wa : List Int) (j : Nat) : cnt wa j = (List.range wa.length).countP fun i => decide ((j : Int) ≤ wa[i]?.getD 0) := by
  have e : wa = (List.range wa.length).map fun i => wa[i]?.getD 0 := by
    apply List.ext_getElem?
    intro i
    by_cases h : i < wa.length
    · simp [h]
    · rw [List.getElem?_eq_none (by omega), List.getElem?_eq_none (by simp; omega)]
  rw [cnt]
  conv => lhs; rw [e, List.countP_map]
  rfl
theorem countP_strict {l : List Nat} {P Q : Nat → Bool} {p : Nat} (h : ∀ i ∈ l, P i = true → Q i = true) (hp : p ∈ l) (h1 : Q p = true) (h2 : P p = false) : l.countP P + 1 ≤ l.countP Q := by
  induction l with
  | nil => simp at hp
  | cons x l ih =>
    rw [List.countP_cons, List.countP_cons]
    have hm : l.countP P ≤ l.countP Q := List.countP_mono_left fun i hi => h i (List.mem_cons_of_mem _ hi)
    by_cases e : x = p
    · subst e
      rw [h1, h2]
      simp
      omega
    · have ih := ih (fun i hi => h i (List.mem_cons_of_mem _ hi)) (by
        rcases List.mem_cons.1 hp with q | q
        · exact absurd q.symm e
        · exact q)
      have hx := h x (List.mem_cons_self ..)
      cases hP : P x <;> cases hQ : Q x <;> simp [hP, hQ] at * <;> omega
/-- No more than k - j wait j times and more. -/
structure Old (t : Tab) (k : Nat) : Prop where
  wl : t.wa.length = k
  few : ∀ j, cnt t.wa j ≤ k - j
  mo : t.mo ≤ (k : Int) - 1
theorem old_new {k : Nat} (hk : 1 ≤ k) : Old (newT k) k := by
  refine ⟨by simp [newT], fun j => ?_, by simp [newT]; omega⟩
  cases j with
  | zero => have := cnt_le (newT k).wa 0; simpa [newT] using this
  | succ j =>
    have : cnt (newT k).wa (j + 1) = 0 := by
      rw [cnt, List.countP_eq_zero]
      intro x hx
      have := List.eq_of_mem_replicate hx
      simp
      omega
    omega
theorem Old.turn {t : Tab} {k : Nat} (h : Old t k) (i z : Int) : Old (turnT t i z) k := by
  unfold turnT
  split
  · by_cases e : z = 0
    · simp only [e, ite_true]
      exact ⟨h.wl, h.few, h.mo⟩
    · simp only [e, ite_false]
      refine ⟨by simpa using h.wl, fun j => ?_, h.mo⟩
      cases j with
      | zero => have := cnt_le (t.wa.set i.toNat 0) 0; simpa [h.wl] using this
      | succ j =>
        refine Nat.le_trans ?_ (h.few (j + 1))
        rw [cnt_range, cnt_range, List.length_set]
        refine List.countP_mono_left fun y hy hp => ?_
        rw [List.getElem?_set] at hp
        simp only [decide_eq_true_eq] at hp ⊢
        split at hp
        · split at hp
          · simp at hp; omega
          · simp at hp; omega
        · exact hp
  · exact h
/-- Nobody runnable waits longer than p. -/
def Longest (t : Tab) (p : Nat) : Prop := ∀ i ∈ runN t, atI t.wa (i : Int) ≤ atI t.wa (p : Int)
theorem atI_d (l : List Int) (i : Nat) : atI l (i : Int) = l[i]?.getD 0 := by simp [atI]
theorem Old.pick {t : Tab} {k p : Nat} (h : Old t k) (hs : t.st.length = k) (hp : p ∈ runN t) (hl : Longest t p) : Old (pickW t p) k := by
  have hpk := runN_lt hp
  rw [hs] at hpk
  have hfew : ∀ j, cnt (dnW t.wa (runN t) p) j ≤ k - j := fun j => by
    cases j with
    | zero => have := cnt_le (dnW t.wa (runN t) p) 0; rw [dnW_len, h.wl] at this; simpa using this
    | succ j =>
      have hd : ∀ i, i < k → (dnW t.wa (runN t) p)[i]?.getD 0 = if i ∈ runN t then (if i = p then 0 else t.wa[i]?.getD 0 + 1) else t.wa[i]?.getD 0 := fun i hi => by
        have hx : t.wa[i]? = some (t.wa[i]'(by rw [h.wl]; exact hi)) := List.getElem?_eq_getElem _
        rw [dnW_get hx, hx]
        rfl
      rw [cnt_range, dnW_len, h.wl]
      by_cases hq : (j : Int) ≤ t.wa[p]?.getD 0
      · have h1 := h.few j
        rw [cnt_range, h.wl] at h1
        have h2 := countP_strict (l := List.range k) (P := fun i => decide (((j + 1 : Nat) : Int) ≤ (dnW t.wa (runN t) p)[i]?.getD 0)) (Q := fun i => decide ((j : Int) ≤ t.wa[i]?.getD 0)) (p := p) (fun i hi hP => by
          simp only [List.mem_range] at hi
          simp only [decide_eq_true_eq] at hP ⊢
          rw [hd i hi] at hP
          split at hP
          · split at hP <;> omega
          · omega) (by simpa using hpk) (by simpa using hq) (by
          simp only [decide_eq_false_iff_not]
          rw [hd p hpk, if_pos hp, if_pos rfl]
          omega)
        omega
      · refine Nat.le_trans ?_ (h.few (j + 1))
        rw [cnt_range, h.wl]
        refine List.countP_mono_left fun i hi hP => ?_
        simp only [List.mem_range] at hi
        simp only [decide_eq_true_eq] at hP ⊢
        rw [hd i hi] at hP
        split at hP
        · rename_i hr
          have := hl i hr
          rw [atI_d, atI_d] at this
          split at hP <;> omega
        · exact hP
  refine ⟨by rw [pickW, dnW_len]; exact h.wl, hfew, gmx_le h.mo fun x hx => ?_⟩
  have h0 := hfew k
  rw [Nat.sub_self, Nat.le_zero, cnt, List.countP_eq_zero] at h0
  have := h0 x hx
  simp at this
  omega
end Go.Proofs.Ytmfnekobepdhkaa
