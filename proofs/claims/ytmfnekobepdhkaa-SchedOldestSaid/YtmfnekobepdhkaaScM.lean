/- Package sched: its state as lists, and what each call makes of it. No program text. -/
import Derived.Test.YtmfnekobepdhkaaObj
namespace Go.Proofs.Ytmfnekobepdhkaa
set_option linter.unusedVariables false
set_option linter.unusedSimpArgs false
/-- A table: states (0 runnable, 1 blocked, 2 ended), waits, picks, the longest wait. -/
structure Tab where
  st : List Int
  wa : List Int
  pk : List Int
  mo : Int
abbrev Tab.n (t : Tab) : Nat := t.st.length
structure ShT (t : Tab) : Prop where
  n : 1 ≤ t.st.length ∧ t.st.length ≤ 8
  wl : t.wa.length = t.st.length
  pl : t.pk.length = t.st.length
/-- K picks were made at most. -/
structure OkT (t : Tab) (K : Nat) : Prop extends ShT t where
  wa : ∀ x ∈ t.wa, 0 ≤ x ∧ x ≤ t.mo
  mo : 0 ≤ t.mo ∧ t.mo ≤ K
  pk : ∀ x ∈ t.pk, 0 ≤ x ∧ x ≤ K
theorem OkT.mono {t : Tab} {K L : Nat} (h : OkT t K) (hl : K ≤ L) : OkT t L := { h with mo := by have := h.mo; omega, pk := fun x hx => by have := h.pk x hx; omega }
def newT (n : Nat) : Tab := ⟨List.replicate n 0, List.replicate n 0, List.replicate n 0, 0⟩
theorem newT_ok {n : Nat} (h1 : 1 ≤ n) (h2 : n ≤ 8) (K : Nat) : OkT (newT n) K :=
  ⟨⟨by simp [newT]; omega, by simp [newT], by simp [newT]⟩, fun x hx => by rw [List.eq_of_mem_replicate hx]; simp [newT], by simp [newT], fun x hx => by rw [List.eq_of_mem_replicate hx]; omega⟩
/-- A task may be turned. -/
def mayT (t : Tab) (i : Int) : Bool := decide (0 ≤ i) && (match t.st[i.toNat]? with | some s => s != 2 | none => false)
theorem mayT_yes {t : Tab} {i : Int} (h : mayT t i = true) : ∃ (k : Nat) (s : Int), i = k ∧ k < t.st.length ∧ t.st[k]? = some s ∧ s ≠ 2 := by
  simp only [mayT, Bool.and_eq_true, decide_eq_true_eq] at h
  obtain ⟨h0, h1⟩ := h
  obtain ⟨k, rfl⟩ := Int.eq_ofNat_of_zero_le h0
  simp only [Int.ofNat_eq_natCast, Int.toNat_natCast] at h1 ⊢
  cases e : t.st[k]? with
  | none => rw [e] at h1; cases h1
  | some s =>
    rw [e] at h1
    exact ⟨k, s, rfl, (List.getElem?_eq_some_iff.1 e).1, e, by simpa using h1⟩
theorem mayT_no {t : Tab} {i : Int} (h : mayT t i = false) : i < 0 ∨ (t.st.length : Int) ≤ i ∨ ∃ k : Nat, i = k ∧ k < t.st.length ∧ t.st[k]? = some 2 := by
  rcases Int.lt_or_le i 0 with h0 | h0
  · exact .inl h0
  · obtain ⟨k, rfl⟩ := Int.eq_ofNat_of_zero_le h0
    rcases Nat.lt_or_ge k t.st.length with hk | hk
    · refine .inr (.inr ⟨k, rfl, hk, ?_⟩)
      simp only [mayT, Int.toNat_natCast, List.getElem?_eq_getElem hk, h0, decide_true, Bool.true_and] at h
      rw [List.getElem?_eq_getElem hk]
      simpa using h
    · exact .inr (.inl (by omega))
def turnT (t : Tab) (i z : Int) : Tab := if mayT t i then { t with st := t.st.set i.toNat z, wa := if z = 0 then t.wa else t.wa.set i.toNat 0 } else t
theorem mem_set {α : Type} {l : List α} {k : Nat} {x y : α} (h : y ∈ l.set k x) : y ∈ l ∨ y = x := List.mem_or_eq_of_mem_set h
theorem turnT_ok {t : Tab} {K : Nat} (h : OkT t K) (i z : Int) : OkT (turnT t i z) K := by
  unfold turnT
  split
  · refine ⟨⟨by simpa using h.n, ?_, by simpa using h.pl⟩, fun x hx => ?_, h.mo, h.pk⟩
    · by_cases e : z = 0 <;> simp [e, h.wl]
    · by_cases e : z = 0
      · simp only [e, ite_true] at hx; exact h.wa x hx
      · simp only [e, ite_false] at hx
        rcases mem_set hx with hx | rfl
        · exact h.wa x hx
        · exact ⟨Int.le_refl _, h.mo.1⟩
  · exact h
theorem turnT_n (t : Tab) (i z : Int) : (turnT t i z).st.length = t.st.length := by unfold turnT; split <;> simp
/-- The runnable ones among the first j. -/
def runJ (st : List Int) (j : Nat) : List Nat := (List.range j).filter fun i => st[i]? == some 0
def runN (t : Tab) : List Nat := runJ t.st t.st.length
def natI (l : List Nat) : List Int := l.map Int.ofNat
def runL (t : Tab) : List Int := natI (runN t)
theorem runJ_yes {st : List Int} {j : Nat} (h : st[j]? = some 0) : runJ st (j + 1) = runJ st j ++ [j] := by simp [runJ, List.range_succ, List.filter_append, h]
theorem runJ_no {st : List Int} {j : Nat} {s : Int} (h : st[j]? = some s) (hs : s ≠ 0) : runJ st (j + 1) = runJ st j := by simp [runJ, List.range_succ, List.filter_append, h, hs]
theorem runJ_len (st : List Int) (j : Nat) : (runJ st j).length ≤ j := by
  have := List.length_filter_le (fun i => st[i]? == some 0) (List.range j)
  simpa [runJ] using this
theorem runN_mem {t : Tab} {i : Nat} : i ∈ runN t ↔ t.st[i]? = some 0 := by
  simp only [runN, runJ, List.mem_filter, List.mem_range, beq_iff_eq]
  exact ⟨fun h => h.2, fun h => ⟨(List.getElem?_eq_some_iff.1 h).1, h⟩⟩
theorem runN_nodup (t : Tab) : (runN t).Nodup := List.nodup_range.filter _
theorem runN_lt {t : Tab} {i : Nat} (h : i ∈ runN t) : i < t.st.length := (List.getElem?_eq_some_iff.1 (runN_mem.1 h)).1
theorem natI_len (l : List Nat) : (natI l).length = l.length := by simp [natI]
theorem natI_get {l : List Nat} {k i : Nat} (h : l[k]? = some i) : (natI l)[k]? = some (i : Int) := by simp [natI, h]
theorem natI_app (a b : List Nat) : natI (a ++ b) = natI a ++ natI b := by simp [natI]
/-- All have ended. -/
def endT (t : Tab) : Bool := t.st.all (· == 2)
/-- The waits where those of s have waited once more. -/
def upW (wa : List Int) (s : List Nat) : List Int := wa.mapIdx fun j x => if j ∈ s then x + 1 else x
/-- .. and p was picked. -/
def dnW (wa : List Int) (s : List Nat) (p : Nat) : List Int := wa.mapIdx fun j x => if j ∈ s then (if j = p then 0 else x + 1) else x
theorem upW_len (wa : List Int) (s : List Nat) : (upW wa s).length = wa.length := by simp [upW]
theorem dnW_len (wa : List Int) (s : List Nat) (p : Nat) : (dnW wa s p).length = wa.length := by simp [dnW]
theorem upW_get {wa : List Int} {s : List Nat} {j : Nat} {x : Int} (h : wa[j]? = some x) : (upW wa s)[j]? = some (if j ∈ s then x + 1 else x) := by simp [upW, h]
theorem dnW_get {wa : List Int} {s : List Nat} {p j : Nat} {x : Int} (h : wa[j]? = some x) : (dnW wa s p)[j]? = some (if j ∈ s then (if j = p then 0 else x + 1) else x) := by simp [dnW, h]
theorem upW_nil (wa : List Int) : upW wa [] = wa := by apply List.ext_getElem?; intro j; cases h : wa[j]? <;> simp [upW, h]
theorem dnW_nil (wa : List Int) (p : Nat) : dnW wa [] p = wa := by apply List.ext_getElem?; intro j; cases h : wa[j]? <;> simp [dnW, h]
theorem upW_step {wa : List Int} {s : List Nat} {i : Nat} {x : Int} (hi : i ∉ s) (hx : wa[i]? = some x) : (upW wa s).set i (x + 1) = upW wa (s ++ [i]) := by
  apply List.ext_getElem?
  intro j
  have hl := (List.getElem?_eq_some_iff.1 hx).1
  rw [List.getElem?_set]
  by_cases e : i = j
  · subst e
    rw [if_pos rfl, if_pos (by rw [upW_len]; exact hl), upW_get hx, if_pos (by simp)]
  · have e' : ¬ j = i := fun h => e h.symm
    cases h : wa[j]? <;> simp [upW, h, e, e']
theorem dnW_step {wa : List Int} {s : List Nat} {i p : Nat} {x : Int} (hi : i ∉ s) (hx : wa[i]? = some x) : (dnW wa s p).set i (if i = p then 0 else x + 1) = dnW wa (s ++ [i]) p := by
  apply List.ext_getElem?
  intro j
  have hl := (List.getElem?_eq_some_iff.1 hx).1
  rw [List.getElem?_set]
  by_cases e : i = j
  · subst e
    rw [if_pos rfl, if_pos (by rw [dnW_len]; exact hl), dnW_get hx, if_pos (show i ∈ s ++ [i] by simp)]
  · have e' : ¬ j = i := fun h => e h.symm
    cases h : wa[j]? <;> simp [dnW, h, e, e']
theorem upW_picked {wa : List Int} {s : List Nat} {p : Nat} (hp : p ∈ s) : (upW wa s).set p 0 = dnW wa s p := by
  apply List.ext_getElem?
  intro j
  rw [List.getElem?_set]
  by_cases e : p = j
  · subst e
    cases h : wa[p]? with
    | none => simp [dnW, upW_len, h, List.getElem?_eq_none_iff.1 h]
    | some x => simp [dnW, upW_len, h, (List.getElem?_eq_some_iff.1 h).1, hp]
  · have e' : ¬ j = p := fun h => e h.symm
    cases h : wa[j]? <;> simp [upW, dnW, h, e, e']
/-- m is the greatest of mo and the numbers of W at the places s. -/
structure GM (m mo : Int) (W : List Int) (s : List Nat) : Prop where
  le : mo ≤ m
  all : ∀ j ∈ s, ∀ x, W[j]? = some x → x ≤ m
  one : m = mo ∨ ∃ j ∈ s, W[j]? = some m
theorem GM.unique {m m' mo : Int} {W : List Int} {s : List Nat} (h : GM m mo W s) (k : GM m' mo W s) : m = m' := by
  have h1 : m ≤ m' := by
    rcases h.one with e | ⟨j, hj, e⟩
    · rw [e]; exact k.le
    · exact k.all j hj _ e
  have h2 : m' ≤ m := by
    rcases k.one with e | ⟨j, hj, e⟩
    · rw [e]; exact h.le
    · exact h.all j hj _ e
  omega
/-- The greatest of all. -/
def gmx (mo : Int) (W : List Int) : Int := W.foldl max mo
theorem gmx_snoc (mo : Int) (W : List Int) (x : Int) : gmx mo (W ++ [x]) = max (gmx mo W) x := by simp [gmx]
theorem gmx_gm (mo : Int) (W : List Int) : GM (gmx mo W) mo W (List.range W.length) := by
  induction W generalizing mo with
  | nil => exact ⟨by simp [gmx], fun j h => by simp at h, .inl (by simp [gmx])⟩
  | cons x W ih =>
    have e : gmx mo (x :: W) = gmx (max mo x) W := rfl
    rw [e]
    replace ih := ih (max mo x)
    generalize gmx (max mo x) W = m at ih
    have h1 := ih.le
    refine ⟨by omega, fun j hj y hy => ?_, ?_⟩
    · cases j with
      | zero => simp at hy; omega
      | succ j => exact ih.all j (by simpa using hj) y (by simpa using hy)
    · rcases ih.one with e | ⟨j, hj, e⟩
      · rcases Int.le_total mo x with h | h
        · exact .inr ⟨0, by simp, by simp; omega⟩
        · exact .inl (by omega)
      · exact .inr ⟨j + 1, by simpa using hj, by simpa using e⟩
/-- One more at a place. -/
def moreL (l : List Int) (p : Nat) : List Int := l.set p (l[p]?.getD 0 + 1)
theorem moreL_len (l : List Int) (p : Nat) : (moreL l p).length = l.length := by simp [moreL]
theorem moreL_le {l : List Int} {K : Nat} (h : ∀ x ∈ l, 0 ≤ x ∧ x ≤ (K : Int)) (p : Nat) : ∀ x ∈ moreL l p, 0 ≤ x ∧ x ≤ ((K + 1 : Nat) : Int) := fun x hx => by
  rcases mem_set hx with hx | rfl
  · have := h x hx; omega
  · cases e : l[p]? with
    | none => simp; omega
    | some y => have := h y (List.mem_of_getElem? e); simp; omega
/-- What a pick of p makes of the table. -/
def pickW (t : Tab) (p : Nat) : Tab := { t with wa := dnW t.wa (runN t) p, pk := moreL t.pk p, mo := gmx t.mo (dnW t.wa (runN t) p) }
/-- The place in the row of the runnable ones. -/
def pickA (t : Tab) (p : Int) : Nat := (p % ((runN t).length : Int)).toNat
def pickT (t : Tab) (p : Int) : Tab := match (runN t)[pickA t p]? with | some i => pickW t i | none => t
def pickI (t : Tab) (p : Int) : Int := match (runN t)[pickA t p]? with | some i => i | none => 0
def pickB (t : Tab) : Bool := (runN t).length != 0
theorem dnW_le {t : Tab} {K : Nat} (h : OkT t K) {j : Nat} {x : Int} (s : List Nat) (p : Nat) (hx : (dnW t.wa s p)[j]? = some x) : 0 ≤ x ∧ x ≤ K + 1 ∧ (j ∉ s → x ≤ t.mo) := by
  have hl : j < t.wa.length := by have := (List.getElem?_eq_some_iff.1 hx).1; rwa [dnW_len] at this
  rw [dnW_get (List.getElem?_eq_getElem hl)] at hx
  have h1 := h.wa _ (List.getElem_mem hl)
  have h2 := h.mo
  injection hx with hx
  split at hx
  · rename_i hj
    split at hx
    · exact ⟨by omega, by omega, fun n => absurd hj n⟩
    · exact ⟨by omega, by omega, fun n => absurd hj n⟩
  · exact ⟨by omega, by omega, fun _ => by omega⟩
/-- What is greatest among the runnable ones is greatest among all. -/
theorem GM.run {t : Tab} {K : Nat} (h : OkT t K) {m : Int} {p : Nat} (k : GM m t.mo (dnW t.wa (runN t) p) (runN t)) : m = gmx t.mo (dnW t.wa (runN t) p) := by
  refine GM.unique (s := List.range (dnW t.wa (runN t) p).length) ⟨k.le, fun j hj x hx => ?_, ?_⟩ (gmx_gm _ _)
  · by_cases hr : j ∈ runN t
    · exact k.all j hr x hx
    · have := (dnW_le h _ _ hx).2.2 hr
      have := k.le
      omega
  · rcases k.one with e | ⟨j, hj, e⟩
    · exact .inl e
    · exact .inr ⟨j, by simpa using (List.getElem?_eq_some_iff.1 e).1, e⟩
theorem gmx_le {mo : Int} {W : List Int} {K : Int} (h : mo ≤ K) (hw : ∀ x ∈ W, x ≤ K) : gmx mo W ≤ K := by
  rcases (gmx_gm mo W).one with e | ⟨j, hj, e⟩
  · omega
  · exact hw _ (List.mem_of_getElem? e)
theorem pickW_ok {t : Tab} {K : Nat} (h : OkT t K) (p : Nat) : OkT (pickW t p) (K + 1) := by
  refine ⟨⟨h.n, by simp [pickW, dnW_len, h.wl], by simp [pickW, moreL_len, h.pl]⟩, fun x hx => ?_, ?_, fun x hx => ?_⟩
  · obtain ⟨j, hj⟩ := List.getElem?_of_mem (show x ∈ dnW t.wa (runN t) p from hx)
    refine ⟨(dnW_le h _ _ hj).1, (gmx_gm t.mo (dnW t.wa (runN t) p)).all j ?_ x hj⟩
    simpa using (List.getElem?_eq_some_iff.1 hj).1
  · have h1 := (gmx_gm t.mo (dnW t.wa (runN t) p)).le
    have h2 := h.mo
    have h3 : gmx t.mo (dnW t.wa (runN t) p) ≤ (K : Int) + 1 := gmx_le (by omega) fun x hx => by
      obtain ⟨j, hj⟩ := List.getElem?_of_mem hx
      exact (dnW_le h _ _ hj).2.1
    show 0 ≤ gmx t.mo (dnW t.wa (runN t) p) ∧ gmx t.mo (dnW t.wa (runN t) p) ≤ ((K + 1 : Nat) : Int)
    omega
  · exact moreL_le h.pk p x hx
theorem pickT_ok {t : Tab} {K : Nat} (h : OkT t K) (p : Int) : OkT (pickT t p) (K + 1) := by
  unfold pickT
  split
  · exact pickW_ok h _
  · exact h.mono (by omega)
theorem pickT_n (t : Tab) (p : Int) : (pickT t p).st = t.st := by unfold pickT; split <;> rfl
theorem pickA_lt {t : Tab} (p : Int) (h : (runN t).length ≠ 0) : pickA t p < (runN t).length := by
  have h1 := Int.emod_nonneg p (b := ((runN t).length : Int)) (by omega)
  have h2 := Int.emod_lt_of_pos p (b := ((runN t).length : Int)) (by omega)
  unfold pickA
  omega
theorem pickB_no {t : Tab} (h : (runN t).length = 0) (p : Int) : pickB t = false ∧ pickI t p = 0 ∧ pickT t p = t := by
  have e : runN t = [] := List.eq_nil_of_length_eq_zero h
  simp [pickB, pickI, pickT, e]
theorem pickB_yes {t : Tab} {p : Int} {i : Nat} (h : (runN t)[pickA t p]? = some i) : pickB t = true ∧ pickI t p = i ∧ pickT t p = pickW t i := by
  have hl := (List.getElem?_eq_some_iff.1 h).1
  refine ⟨?_, by simp [pickI, h], by simp [pickT, h]⟩
  have h0 : (runN t).length ≠ 0 := by omega
  simpa [pickB] using h0
/-- A number at a place, 0 if there is none. -/
def atI (l : List Int) (i : Int) : Int := if 0 ≤ i then l[i.toNat]?.getD 0 else 0
theorem atI_nat {l : List Int} {k : Nat} {x : Int} (h : l[k]? = some x) : atI l (k : Int) = x := by simp [atI, h]
theorem atI_no {l : List Int} {i : Int} (h : i < 0 ∨ (l.length : Int) ≤ i) : atI l i = 0 := by
  unfold atI
  split
  · rw [List.getElem?_eq_none (by omega)]; rfl
  · rfl
end Go.Proofs.Ytmfnekobepdhkaa
