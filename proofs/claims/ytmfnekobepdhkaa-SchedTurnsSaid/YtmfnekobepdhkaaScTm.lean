/- Tasks picked by turns: what their table is. No program text. -/
import Derived.Test.YtmfnekobepdhkaaScM
namespace Go.Proofs.Ytmfnekobepdhkaa
set_option linter.unusedVariables false
set_option linter.unusedSimpArgs false
theorem mod_next {k : Nat} (hk : 0 < k) (u : Nat) : (u + 1) % k = (if u % k = k - 1 then 0 else u % k + 1) ∧ (u + 1) / k = (if u % k = k - 1 then u / k + 1 else u / k) := by
  have h1 := Nat.div_add_mod u k
  have h2 := Nat.mod_lt u hk
  generalize u / k = d at *
  generalize u % k = r at *
  subst h1
  split
  · rename_i e
    have e2 : k * d + r + 1 = k * (d + 1) := by rw [Nat.mul_add]; omega
    rw [e2]
    exact ⟨Nat.mul_mod_right _ _, Nat.mul_div_cancel_left _ hk⟩
  · rename_i e
    rw [Nat.add_assoc, Nat.mul_add_mod, Nat.mod_eq_of_lt (by omega), Nat.mul_add_div hk, Nat.div_eq_of_lt (by omega)]
    exact ⟨rfl, rfl⟩
/-- How far task x is ahead of its turn at the beginning. -/
def pX (k a x : Nat) : Nat := (a + (k - 1 - x)) % k
theorem pX_mod {k a x i : Nat} (hk : 0 < k) (hx : x < k) : ((i + pX k a x) % k = k - 1 ↔ x = (a + i) % k) ∧ pX k a x < k := by
  refine ⟨?_, Nat.mod_lt _ hk⟩
  have e : (i + pX k a x) % k = ((a + i) % k + (k - 1 - x)) % k := by
    rw [pX, Nat.add_mod_mod, Nat.mod_add_mod]
    congr 1
    omega
  rw [e]
  have hz := Nat.mod_lt (a + i) hk
  generalize (a + i) % k = z at *
  rcases Nat.lt_or_ge (z + (k - 1 - x)) k with h | h
  · rw [Nat.mod_eq_of_lt h]; omega
  · rw [Nat.mod_eq_sub_mod h, Nat.mod_eq_of_lt (by omega)]; omega
def wX (k a i x : Nat) : Int := ((min i ((i + pX k a x) % k) : Nat) : Int)
def kX (k a i x : Nat) : Int := (((i + pX k a x) / k : Nat) : Int)
/-- The table of k tasks behind i picks by turns from a on. -/
def turT (k a i : Nat) : Tab := ⟨List.replicate k 0, (List.range k).map (wX k a i), (List.range k).map (kX k a i), ((min i (k - 1) : Nat) : Int)⟩
theorem turT_new {k a : Nat} (hk : 0 < k) : turT k a 0 = newT k := by
  have e1 : (List.range k).map (wX k a 0) = List.replicate k 0 := by
    apply List.ext_getElem?
    intro x
    rw [List.getElem?_map, List.getElem?_replicate]
    by_cases hx : x < k
    · simp [hx, wX]
    · simp [hx]
  have e2 : (List.range k).map (kX k a 0) = List.replicate k 0 := by
    apply List.ext_getElem?
    intro x
    rw [List.getElem?_map, List.getElem?_replicate]
    by_cases hx : x < k
    · simp [hx, kX, Nat.div_eq_of_lt (pX_mod (a := a) (i := 0) hk hx).2]
    · simp [hx]
  rw [turT, e1, e2, newT]
  simp
theorem turT_run (k a i : Nat) : runN (turT k a i) = List.range k := by
  simp only [runN, runJ, turT, List.length_replicate]
  rw [List.filter_eq_self]
  intro x hx
  simp at hx
  simp [hx]
theorem turT_pick {k a i : Nat} (hk : 0 < k) : pickI (turT k a i) ((a : Int) + (i : Int)) = ((a + i) % k : Nat) ∧ pickB (turT k a i) = true ∧ pickT (turT k a i) ((a : Int) + (i : Int)) = turT k a (i + 1) := by
  have hz := Nat.mod_lt (a + i) hk
  have hA : pickA (turT k a i) ((a : Int) + (i : Int)) = (a + i) % k := by
    rw [pickA, turT_run, List.length_range, ← Int.natCast_add, ← Int.natCast_emod, Int.toNat_natCast]
  obtain ⟨e1, e2, e3⟩ := pickB_yes (t := turT k a i) (p := (a : Int) + (i : Int)) (i := (a + i) % k) (by rw [hA, turT_run, List.getElem?_range hz])
  refine ⟨e2, e1, ?_⟩
  rw [e3]
  have hw : dnW (turT k a i).wa (runN (turT k a i)) ((a + i) % k) = (List.range k).map (wX k a (i + 1)) := by
    rw [turT_run]
    apply List.ext_getElem?
    intro x
    by_cases hx : x < k
    · have h1 : (turT k a i).wa[x]? = some (wX k a i x) := by simp [turT, hx]
      rw [dnW_get h1, if_pos (by simpa using hx), List.getElem?_map, List.getElem?_range hx, Option.map_some]
      congr 1
      have h2 := pX_mod (a := a) (i := i) hk hx
      have h3 := (mod_next hk (i + pX k a x)).1
      rw [wX, wX, show i + 1 + pX k a x = i + pX k a x + 1 by omega, h3]
      by_cases e : x = (a + i) % k
      · rw [if_pos e, if_pos (h2.1.2 e)]
        simp
      · rw [if_neg e, if_neg (fun h => e (h2.1.1 h))]
        omega
    · rw [List.getElem?_eq_none (by simp [dnW_len, turT]; omega), List.getElem?_eq_none (by simp; omega)]
  have hp : moreL (turT k a i).pk ((a + i) % k) = (List.range k).map (kX k a (i + 1)) := by
    apply List.ext_getElem?
    intro x
    rw [moreL, List.getElem?_set]
    by_cases hx : x < k
    · have h2 := pX_mod (a := a) (i := i) hk hx
      have h3 := (mod_next hk (i + pX k a x)).2
      have h4 : ((List.range k).map (kX k a (i + 1)))[x]? = some (kX k a (i + 1) x) := by simp [hx]
      have h5 : (turT k a i).pk[x]? = some (kX k a i x) := by simp [turT, hx]
      rw [h4]
      by_cases e : (a + i) % k = x
      · rw [if_pos e, e, if_pos (by simp [turT]; omega), h5]
        congr 1
        rw [kX, kX, show i + 1 + pX k a x = i + pX k a x + 1 by omega, h3, if_pos (h2.1.2 e.symm)]
        simp
      · rw [if_neg e, h5]
        congr 1
        rw [kX, kX, show i + 1 + pX k a x = i + pX k a x + 1 by omega, h3, if_neg (fun h => e (h2.1.1 h).symm)]
    · have h6 : ¬ (a + i) % k = x := by omega
      rw [if_neg h6, List.getElem?_eq_none (by simp [turT]; omega), List.getElem?_eq_none (by simp; omega)]
  have hm : gmx (turT k a i).mo ((List.range k).map (wX k a (i + 1))) = ((min (i + 1) (k - 1) : Nat) : Int) := by
    refine GM.unique (gmx_gm _ _) ⟨?_, fun x hx y hy => ?_, ?_⟩
    · show ((min i (k - 1) : Nat) : Int) ≤ _
      omega
    · have hl := (List.getElem?_eq_some_iff.1 hy).1
      simp at hl
      simp [hl] at hy
      subst hy
      rw [wX]
      have := Nat.mod_lt (i + 1 + pX k a x) hk
      omega
    · rcases Nat.lt_or_ge i (k - 1) with h | h
      · have hz2 := Nat.mod_lt (a + (i + 1)) hk
        refine .inr ⟨(a + (i + 1)) % k, by simpa using hz2, ?_⟩
        have h2 := pX_mod (a := a) (i := i + 1) hk hz2
        simp only [List.getElem?_map, List.getElem?_range hz2, Option.map_some, wX]
        rw [h2.1.2 rfl]
      · left
        show _ = ((min i (k - 1) : Nat) : Int)
        omega
  rw [pickW, hw, hp, hm]
  rfl
theorem turT_at {k a i x : Nat} (hk : 0 < k) (hx : x < k) : atI (turT k a i).pk (x : Int) = kX k a i x ∧ atI (turT k a i).wa (x : Int) = wX k a i x :=
  ⟨atI_nat (by simp [turT, hx]), atI_nat (by simp [turT, hx])⟩
theorem turT_bd {k a i x : Nat} (hk : 0 < k) (hx : x < k) : ((i / k : Nat) : Int) ≤ kX k a i x ∧ kX k a i x ≤ ((i / k : Nat) : Int) + 1 ∧ wX k a i x ≤ (k : Int) - 1 := by
  have h2 := (pX_mod (a := a) (i := i) hk hx).2
  have h3 : i / k ≤ (i + pX k a x) / k := Nat.div_le_div_right (by omega)
  have h4 : (i + pX k a x) / k ≤ (i + k) / k := Nat.div_le_div_right (by omega)
  rw [Nat.add_div_right _ hk] at h4
  have h5 := Nat.mod_lt (i + pX k a x) hk
  rw [kX, wX]
  omega
end Go.Proofs.Ytmfnekobepdhkaa
