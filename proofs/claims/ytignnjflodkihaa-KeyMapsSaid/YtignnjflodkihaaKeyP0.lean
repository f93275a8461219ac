/- Keys and their texts. -/
import Derived.Test.YtignnjflodkihaaKeyN
import Derived.Lib.Strings
namespace Go.Proofs.Ytignnjflodkihaa
open Go.RowKit Go.Maps
set_option linter.unusedVariables false
theorem kbs_at (k : RK) (i : Nat) (h : i < 8) : (kbs k)[i]? = some (k.at i) := by
  rcases i with _|_|_|_|_|_|_|_|i
  all_goals first | omega | rfl
theorem txt_ofS (s : ByteArray) (h : s.size ≤ 8) : txt (ofS s) = s := by
  apply ByteArray.ext
  apply Array.ext'
  show ((kbs (ofS s)).take (ofS s).n.toNat).map (fun n => UInt8.ofNat n.toNat) = s.data.toList
  rw [show (ofS s).n.toNat = s.size from by simp [ofS]]
  apply List.ext_getElem?
  intro i
  rw [List.getElem?_map, data_get]
  by_cases hi : i < s.size
  · rw [List.getElem?_take_of_lt hi, kbs_at _ i (by omega), ofS_at s i (by omega), sb_in s i hi, dif_pos hi]
    simp
  · rw [dif_neg hi, List.getElem?_eq_none (by simp; omega)]
    rfl
theorem drop_cons {l r : List UInt8} {x : UInt8} {j : Nat} (h : l.drop j = x :: r) : l[j]? = some x ∧ l.drop (j + 1) = r ∧ j < l.length := by
  have h1 : l[j]? = some x := by
    have := congrArg (·[0]?) h
    simpa [List.getElem?_drop] using this
  have hj := (List.getElem?_eq_some_iff.1 h1).1
  refine ⟨h1, ?_, hj⟩
  rw [List.drop_eq_getElem_cons hj] at h
  injection h
theorem at_data {s : ByteArray} {j : Nat} {x : UInt8} (hs : s.size ≤ 8) (h : s.data.toList[j]? = some x) : (ofS s).at j = (x.toNat : Int) ∧ j < s.size := by
  rw [data_get] at h
  by_cases hj : j < s.size
  · rw [dif_pos hj] at h
    injection h with h
    exact ⟨by rw [ofS_at s j (by omega), sb_in s j hj, h], hj⟩
  · rw [dif_neg hj] at h; cases h
theorem cmp_texts {s t : ByteArray} (hs : s.size ≤ 8) (ht : t.size ≤ 8) : ∀ (ls lt : List UInt8) (j : Nat), j ≤ 8 → s.data.toList.drop j = ls → t.data.toList.drop j = lt → Pre (ofS s) (ofS t) j →
    (decide (cmpK (ofS s) (ofS t) < 0) = Op.bytesLess ls lt) ∧ (cmpK (ofS s) (ofS t) = 0 ↔ ls = lt) := by
  have os := ofS_ok s hs
  have ot := ofS_ok t ht
  have ws := ofS_wf s hs
  have wt := ofS_wf t ht
  intro ls
  induction ls with
  | nil =>
    intro lt j hj h1 h2 hp
    have n1 : (ofS s).n ≤ j := by
      have := List.drop_eq_nil_iff.1 h1
      rw [← Lib.size_eq] at this
      simp [ofS]; omega
    cases lt with
    | nil =>
      have n2 : (ofS t).n ≤ j := by
        have := List.drop_eq_nil_iff.1 h2
        rw [← Lib.size_eq] at this
        simp [ofS]; omega
      rw [cmp_both os ot j hj hp n1 n2]
      simp [Op.bytesLess]
    | cons y ys =>
      obtain ⟨g1, _, _⟩ := drop_cons h2
      obtain ⟨_, g3⟩ := at_data ht g1
      rw [cmp_short os ot wt j (by omega) hp n1 (by simp [ofS]; omega)]
      simp [Op.bytesLess]
  | cons x xs ih =>
    intro lt j hj h1 h2 hp
    obtain ⟨f1, f2, _⟩ := drop_cons h1
    obtain ⟨f3, f4⟩ := at_data hs f1
    cases lt with
    | nil =>
      have n2 : (ofS t).n ≤ j := by
        have := List.drop_eq_nil_iff.1 h2
        rw [← Lib.size_eq] at this
        simp [ofS]; omega
      rw [cmp_long os ot ws j (by omega) hp (by simp [ofS]; omega) n2]
      simp [Op.bytesLess]
    | cons y ys =>
      obtain ⟨g1, g2, _⟩ := drop_cons h2
      obtain ⟨g3, g4⟩ := at_data ht g1
      by_cases hlt : x < y
      · have h5 : x.toNat < y.toNat := UInt8.lt_iff_toNat_lt.1 hlt
        rw [cmp_at_lt os ot ws wt j (by omega) hp (by rw [f3, g3]; omega)]
        have hne : x ≠ y := fun e => by rw [e] at h5; omega
        simp [Op.bytesLess, hlt, hne]
      · by_cases hgt : y < x
        · have h5 : y.toNat < x.toNat := UInt8.lt_iff_toNat_lt.1 hgt
          rw [cmp_at_gt os ot ws wt j (by omega) hp (by rw [f3, g3]; omega)]
          have hne : x ≠ y := fun e => by rw [e] at h5; omega
          simp [Op.bytesLess, hlt, hne]
        · have hxy : x = y := by
            have h5 : ¬ x.toNat < y.toNat := fun e => hlt (UInt8.lt_iff_toNat_lt.2 e)
            have h6 : ¬ y.toNat < x.toNat := fun e => hgt (UInt8.lt_iff_toNat_lt.2 e)
            exact UInt8.toNat_inj.1 (by omega)
          subst hxy
          obtain ⟨r1, r2⟩ := ih ys (j + 1) (by omega) f2 g2 (fun q hq => by
            by_cases e : q = j
            · subst e; exact ⟨by rw [f3, g3], by simp [ofS]; omega, by simp [ofS]; omega⟩
            · exact hp q (by omega))
          constructor
          · rw [r1]; simp [Op.bytesLess]
          · rw [r2]; simp
end Go.Proofs.Ytignnjflodkihaa
