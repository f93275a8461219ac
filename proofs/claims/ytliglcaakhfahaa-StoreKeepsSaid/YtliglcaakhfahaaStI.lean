/- Package store: stores that are filled, one block behind the other. -/
import Derived.Test.YtliglcaakhfahaaStH
namespace Go.Proofs.Ytliglcaakhfahaa
set_option linter.unusedVariables false
set_option linter.unusedSimpArgs false
set_option maxRecDepth 100000
open Go.RowKit
/-- Of k blocks the first i used, as Alloc leaves them. -/
def filS (k i : Nat) : List Slot := List.replicate i (true, z256) ++ List.replicate (k - i) (false, z256)
theorem filS_zero (k : Nat) : filS k 0 = newS k := by simp [filS, newS]
theorem filS_len {k i : Nat} (h : i ≤ k) : (filS k i).length = k := by simp [filS]; omega
theorem filS_get {k i : Nat} (h : i ≤ k) (t : Nat) : (filS k i)[t]? = if t < i then some (true, z256) else if t < k then some (false, z256) else none := by
  unfold filS
  by_cases h1 : t < i
  · rw [if_pos h1, List.getElem?_append_left (by simpa using h1)]; simp [h1]
  · rw [if_neg h1, List.getElem?_append_right (by simpa using h1)]
    by_cases h2 : t < k
    · rw [if_pos h2, List.getElem?_replicate, List.length_replicate, if_pos (by omega)]
    · rw [if_neg h2, List.getElem?_replicate, List.length_replicate, if_neg (by omega)]
theorem frS_fil {k i : Nat} (h : i < k) : frS (filS k i) = i := frS_at (b := z256) (fun t ht x hx => by
  rw [filS_get (by omega), if_pos ht] at hx
  injection hx with hx
  rw [← hx]) (by rw [filS_get (by omega), if_neg (by omega), if_pos h])
theorem frS_full (k : Nat) : frS (filS k k) = k := by
  rw [frS_end fun t ht x hx => by
    rw [filS_len (Nat.le_refl _)] at ht
    rw [filS_get (Nat.le_refl _), if_pos ht] at hx
    injection hx with hx
    rw [← hx]]
  exact filS_len (Nat.le_refl _)
theorem al_fil {k i : Nat} (h : i < k) : alI (filS k i) = i ∧ alE (filS k i) = 0 ∧ alL (filS k i) = filS k (i + 1) := by
  have hl := filS_len (Nat.le_of_lt h)
  refine ⟨by rw [alI, frS_fil h, hl, if_pos h], by rw [alE, frS_fil h, hl, if_pos h], ?_⟩
  rw [alL, frS_fil h]
  apply List.ext_getElem?
  intro t
  rw [filS_get (by omega)]
  by_cases e : i = t
  · subst e
    rw [List.getElem?_set_self (by omega), if_pos (by omega)]
  · rw [List.getElem?_set_ne e, filS_get (by omega)]
    by_cases h1 : t < i
    · rw [if_pos h1, if_pos (show t < i + 1 by omega)]
    · rw [if_neg h1, if_neg (show ¬ t < i + 1 by omega)]
theorem al_full (k : Nat) : alI (filS k k) = 0 ∧ alE (filS k k) = 3 ∧ alL (filS k k) = filS k k := by
  have hl := filS_len (Nat.le_refl k)
  refine ⟨by rw [alI, frS_full, hl, if_neg (by omega)], by rw [alE, frS_full, hl, if_neg (by omega)], ?_⟩
  rw [alL, frS_full, List.set_eq_of_length_le (by omega)]
theorem usJ_fil {k i : Nat} (h : i ≤ k) (j : Nat) : (usJ (filS k i) j).length = min i j := by
  induction j with
  | zero => simp [usJ]
  | succ j ih =>
    rw [usJ, filS_get h]
    by_cases h1 : j < i
    · rw [if_pos h1, if_pos (by simp), List.length_append, ih]; simp; omega
    · rw [if_neg h1]
      have : ¬ (Option.map (fun x : Slot => x.1) (if j < k then some (false, z256) else none) = some true) := by split <;> simp
      rw [if_neg this, ih]; omega
theorem lfN_fil {k i : Nat} (h : i ≤ k) : lfN (filS k i) = (k : Int) - i := by
  rw [lfN, usL, usJ_fil h, filS_len h, Nat.min_eq_left h]
/-- All blocks used. -/
def AU (l : List Slot) : Prop := ∀ t, t < l.length → ∃ b, l[t]? = some (true, b)
theorem au_fil (k : Nat) : AU (filS k k) := fun t ht => by
  rw [filS_len (Nat.le_refl _)] at ht
  exact ⟨_, by rw [filS_get (Nat.le_refl _), if_pos ht]⟩
theorem AU.set {l : List Slot} (h : AU l) (a : Nat) (b : List Int) : AU (l.set a (true, b)) := fun t ht => by
  rw [List.length_set] at ht
  by_cases e : a = t
  · subst e; exact ⟨b, List.getElem?_set_self ht⟩
  · rw [List.getElem?_set_ne e]; exact h t ht
theorem AU.wr {l : List Slot} (h : AU l) {a : Nat} (ha : a < l.length) : wrE l (a : Int) 256 = 0 ∧ ∀ bs : List Int, bs.length = 256 → wrL l (a : Int) bs = l.set a (true, bs) := by
  obtain ⟨b, hb⟩ := h a ha
  have e := atS_nat hb
  exact ⟨by rw [wrE, e]; rfl, fun bs hl => by rw [wrL, e, if_pos ⟨rfl, hl⟩]; rfl⟩
theorem rd_self {l : List Slot} {a : Nat} (ha : a < l.length) (x : List Int) : rdE (l.set a (true, x)) (a : Int) = 0 ∧ rdB (l.set a (true, x)) (a : Int) = x := by
  have e := atS_nat (List.getElem?_set_self ha (a := ((true, x) : Slot)))
  exact ⟨by rw [rdE, e]; rfl, by rw [rdB, e]; rfl⟩
theorem rd_set {l : List Slot} {a b : Nat} (hab : b ≠ a) (y : Slot) : rdE (l.set b y) (a : Int) = rdE l (a : Int) ∧ rdB (l.set b y) (a : Int) = rdB l (a : Int) := by
  have e : atS (l.set b y) (a : Int) = atS l (a : Int) := by
    simp only [atS, Int.toNat_natCast, List.getElem?_set_ne hab]
  exact ⟨by rw [rdE, e, rdE], by rw [rdB, e, rdB]⟩
end Go.Proofs.Ytliglcaakhfahaa
