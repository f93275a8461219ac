/- Those who wait behind one that writes: who comes in, behind each that goes. No program text. -/
import Derived.Test.YtbnphkiipjgfaaaLaW
namespace Go.Proofs.Ytbnphkiipjgfaaa
set_option linter.unusedVariables false
set_option linter.unusedSimpArgs false
theorem ins_last {rs : List Int} {t : Int} (h : ∀ z ∈ rs, z < t) : insT rs t = rs ++ [t] := by
  induction rs with
  | nil => rfl
  | cons x rs ih =>
    rw [ins_cons, if_pos (h x (by simp)), ih (fun z hz => h z (by simp [hz]))]
    rfl
theorem let_up {rs : List Int} (hr : rs ≠ []) (l : List Bool) (i : Nat) (p : Int) (h : ∀ z ∈ rs, z < (i : Int)) : letT ⟨rs, -1, enq l i, p⟩ = (⟨rs ++ nums (lead l) i, -1, enq (l.drop (lead l)) (i + lead l), p⟩, nums (lead l) i) := by
  induction l generalizing rs i with
  | nil => rw [let_nil rfl]; simp [lead, nums, enq]
  | cons b l ih =>
    cases b with
    | true =>
      rw [let_no (x := ((i : Int), true)) (q := enq l (i + 1)) rfl]
      · simp [lead, nums]
      · cases rs with
        | nil => exact absurd rfl hr
        | cons x rs => simp [canT]
    | false =>
      have e : giveT { rs := rs, wr := -1, q := enq l (i + 1), pn := p } ((i : Int), false) = ⟨rs ++ [(i : Int)], -1, enq l (i + 1), p⟩ := by
        simp only [giveT, Bool.false_eq_true, if_false, ins_last h]
      rw [let_yes (x := ((i : Int), false)) (q := enq l (i + 1)) rfl (by simp [canT]), e, ih (by simp) (i + 1) (fun z hz => by
        rcases List.mem_append.1 hz with hz | hz
        · have := h z hz; omega
        · rw [List.mem_singleton.1 hz]; omega)]
      simp only [lead, Bool.false_eq_true, if_false, List.drop_succ_cons, nums, List.append_assoc, List.singleton_append, Prod.mk.injEq, Lat.mk.injEq, true_and, and_true]
      rw [show i + 1 + lead l = i + (lead l + 1) by omega]
theorem lead_head (l : List Bool) : l.drop (lead l) = [] ∨ ∃ r, l.drop (lead l) = true :: r := by
  induction l with
  | nil => exact .inl rfl
  | cons b l ih =>
    cases b with
    | true => exact .inr ⟨l, rfl⟩
    | false => simpa [lead] using ih
theorem lead_get {l : List Bool} {i : Nat} (h : i < lead l) : l[i]? = some false := by
  induction l generalizing i with
  | nil => simp [lead] at h
  | cons b l ih =>
    cases b with
    | true => simp [lead] at h
    | false =>
      cases i with
      | zero => rfl
      | succ i =>
        simp only [lead, Bool.false_eq_true, if_false] at h
        simpa using ih (i := i) (by omega)
theorem let_stop {rs : List Int} {wr : Int} {l : List Bool} {i : Nat} {p : Int} (hr : rs ≠ []) (h : l = [] ∨ ∃ r, l = true :: r) : letT ⟨rs, wr, enq l i, p⟩ = (⟨rs, wr, enq l i, p⟩, []) := by
  rcases h with rfl | ⟨r, rfl⟩
  · exact let_nil rfl
  · refine let_no (x := ((i : Int), true)) (q := enq r (i + 1)) rfl ?_
    cases rs with
    | nil => exact absurd rfl hr
    | cons x rs => simp [canT]
theorem let_held {wr : Int} {q : List Wt} {p : Int} (h : wr ≠ -1) : letT ⟨[], wr, q, p⟩ = (⟨[], wr, q, p⟩, []) := by
  cases q with
  | nil => exact let_nil rfl
  | cons x q => exact let_no (x := x) (q := q) rfl (by simp [canT, h])
/-- Those at 'at' and behind, all others gone. -/
def rowL (ws : List Bool) (a : Nat) : Lat × List Int := letT ⟨[], -1, enq (ws.drop a) a, 0⟩
/-- How many come in together. -/
def grp (ws : List Bool) (a : Nat) : Nat := match ws[a]? with | some true => 1 | some false => lead (ws.drop a) | none => 0
theorem drop_cons {ws : List Bool} {a : Nat} {b : Bool} (h : ws[a]? = some b) : ws.drop a = b :: ws.drop (a + 1) := by
  obtain ⟨h1, h2⟩ := List.getElem?_eq_some_iff.1 h
  rw [List.drop_eq_getElem_cons h1, h2]
theorem rowL_end {ws : List Bool} {a : Nat} (h : ws.length ≤ a) : rowL ws a = (⟨[], -1, [], 0⟩, []) := by
  rw [rowL, List.drop_eq_nil_of_le h]
  exact let_nil rfl
theorem rowL_w {ws : List Bool} {a : Nat} (h : ws[a]? = some true) : rowL ws a = (⟨[], a, enq (ws.drop (a + 1)) (a + 1), 0⟩, [(a : Int)]) := by
  have e : giveT { rs := [], wr := -1, q := enq (ws.drop (a + 1)) (a + 1), pn := 0 } ((a : Int), true) = ⟨[], a, enq (ws.drop (a + 1)) (a + 1), 0⟩ := rfl
  rw [rowL, drop_cons h, let_yes (x := ((a : Int), true)) (q := enq (ws.drop (a + 1)) (a + 1)) rfl (by simp [canT]), e, let_held (by omega)]
theorem lead_pos {ws : List Bool} {a : Nat} (h : ws[a]? = some false) : lead (ws.drop a) = lead (ws.drop (a + 1)) + 1 := by
  rw [drop_cons h]; rfl
theorem rowL_r {ws : List Bool} {a : Nat} (h : ws[a]? = some false) : rowL ws a = (⟨nums (lead (ws.drop a)) a, -1, enq (ws.drop (a + lead (ws.drop a))) (a + lead (ws.drop a)), 0⟩, nums (lead (ws.drop a)) a) := by
  have e : giveT { rs := [], wr := -1, q := enq (ws.drop (a + 1)) (a + 1), pn := 0 } ((a : Int), false) = ⟨[(a : Int)], -1, enq (ws.drop (a + 1)) (a + 1), 0⟩ := rfl
  rw [lead_pos h, rowL, drop_cons h, let_yes (x := ((a : Int), false)) (q := enq (ws.drop (a + 1)) (a + 1)) rfl (by simp [canT]), e, let_up (by simp) _ _ _ (by intro z hz; rw [List.mem_singleton.1 hz]; omega)]
  rw [List.drop_drop, show a + 1 + lead (ws.drop (a + 1)) = a + (lead (ws.drop (a + 1)) + 1) by omega]
  rfl
theorem rowL_in {ws : List Bool} {a : Nat} (h : a < ws.length) : (rowL ws a).2 = nums (grp ws a) a := by
  have hx := List.getElem?_eq_getElem h
  cases hb : ws[a]
  · rw [hb] at hx
    rw [rowL_r hx, grp, hx]
  · rw [hb] at hx
    rw [rowL_w hx, grp, hx]
    rfl
theorem grp_pos {ws : List Bool} {a : Nat} (h : a < ws.length) : 0 < grp ws a ∧ a + grp ws a ≤ ws.length := by
  have hx := List.getElem?_eq_getElem h
  cases hb : ws[a]
  · rw [hb] at hx
    have := lead_pos hx
    have h2 := lead_le (ws.drop a)
    rw [List.length_drop] at h2
    rw [grp, hx]
    simp only
    omega
  · rw [hb] at hx
    rw [grp, hx]
    simp only
    omega
/-- Within a group, and at its end. -/
theorem grp_get {ws : List Bool} {a i : Nat} (h : ws[a]? = some false) (hi : i < grp ws a) : ws[a + i]? = some false := by
  rw [grp, h] at hi
  have := lead_get hi
  rwa [List.getElem?_drop] at this
theorem grp_end {ws : List Bool} {a : Nat} (h : ws[a]? = some false) : ¬ ws[a + grp ws a]? = some false := by
  rw [grp, h]
  simp only
  intro e
  rcases lead_head (ws.drop a) with h1 | ⟨r, h1⟩
  · rw [List.drop_drop] at h1
    have := List.drop_eq_nil_iff.1 h1
    rw [List.getElem?_eq_none this] at e
    cases e
  · rw [List.drop_drop] at h1
    have : (ws.drop (a + lead (ws.drop a)))[0]? = some true := by rw [h1]; rfl
    rw [List.getElem?_drop, Nat.add_zero, e] at this
    cases this
theorem nums_mem' {k i : Nat} {z : Int} (h : z ∈ nums k i) : (i : Int) ≤ z ∧ z < (i : Int) + k := by
  induction k generalizing i with
  | zero => cases h
  | succ k ih =>
    simp only [nums, List.mem_cons] at h
    rcases h with rfl | h
    · omega
    · have := ih h
      omega
theorem enq_filter {l : List Bool} {i : Nat} {x : Int} (h : x < i) : (enq l i).filter (fun y => !decide (y.1 = x)) = enq l i := List.filter_eq_self.2 fun y hy => by
  have := enq_mem hy
  simp only [Bool.not_eq_true', decide_eq_false_iff_not]
  omega
theorem nums_filter {k i : Nat} {x : Int} (h : x < i) : (nums k i).filter (fun z => !decide (z = x)) = nums k i := List.filter_eq_self.2 fun y hy => by
  have := nums_mem' hy
  simp only [Bool.not_eq_true', decide_eq_false_iff_not]
  omega
/-- Behind j of those who came in together have gone. -/
def rowD (ws : List Bool) (a j : Nat) : Lat :=
  if j = grp ws a then (rowL ws (a + grp ws a)).1 else if ws[a]? = some true then (rowL ws a).1 else ⟨nums (grp ws a - j) (a + j), -1, enq (ws.drop (a + grp ws a)) (a + grp ws a), 0⟩
def rowN (ws : List Bool) (a j : Nat) : List Int := if j = grp ws a then (rowL ws (a + grp ws a)).2 else []
theorem rowD_zero {ws : List Bool} {a : Nat} (h : a < ws.length) : rowD ws a 0 = (rowL ws a).1 := by
  have hp := grp_pos h
  rw [rowD, if_neg (by omega)]
  have hx := List.getElem?_eq_getElem h
  cases hb : ws[a]
  · rw [hb] at hx
    rw [if_neg (by rw [hx]; simp), rowL_r hx]
    have hg : grp ws a = lead (ws.drop a) := by rw [grp, hx]
    rw [← hg]
    rfl
  · rw [hb] at hx
    rw [if_pos hx]
theorem rowD_step {ws : List Bool} {a j : Nat} (h : a < ws.length) (hj : j < grp ws a) : dropT (rowD ws a j) ((a + j : Nat) : Int) = (rowD ws a (j + 1), rowN ws a (j + 1)) := by
  have hx := List.getElem?_eq_getElem h
  have h0 : ¬ ((a + j : Nat) : Int) < 0 := by omega
  cases hb : ws[a]
  · rw [hb] at hx
    have hne : ¬ ws[a]? = some true := by rw [hx]; simp
    have hg : grp ws a = lead (ws.drop a) := by rw [grp, hx]
    have hst : ws.drop (a + grp ws a) = [] ∨ ∃ r, ws.drop (a + grp ws a) = true :: r := by
      have := lead_head (ws.drop a)
      rwa [List.drop_drop, ← hg] at this
    have hD : rowD ws a j = ⟨nums (grp ws a - j) (a + j), -1, enq (ws.drop (a + grp ws a)) (a + grp ws a), 0⟩ := by rw [rowD, if_neg (by omega), if_neg hne]
    obtain ⟨n, hn⟩ : ∃ n, grp ws a - j = n + 1 := ⟨grp ws a - j - 1, by omega⟩
    have ho : outT (rowD ws a j) ((a + j : Nat) : Int) = ⟨nums n (a + (j + 1)), -1, enq (ws.drop (a + grp ws a)) (a + grp ws a), 0⟩ := by
      have hw : ¬ (-1 : Int) = ((a + j : Nat) : Int) := by omega
      rw [hD, hn]
      simp only [outT, hw, if_false, nums, List.filter_cons, decide_true, Bool.not_true, Bool.false_eq_true, Lat.mk.injEq, true_and, and_true]
      refine ⟨?_, enq_filter (by omega)⟩
      rw [nums_filter (by omega)]
      rfl
    rw [dropT, if_neg h0, ho]
    by_cases hl : j + 1 = grp ws a
    · have hn0 : n = 0 := by omega
      subst hn0
      rw [rowD, rowN, if_pos hl, if_pos hl]
      rfl
    · rw [let_stop (by obtain ⟨n2, rfl⟩ : ∃ n2, n = n2 + 1 := ⟨n - 1, by omega⟩; simp [nums]) hst]
      rw [rowD, rowN, if_neg hl, if_neg hl, if_neg hne]
      rw [show grp ws a - (j + 1) = n by omega]
  · rw [hb] at hx
    have hg : grp ws a = 1 := by rw [grp, hx]
    obtain rfl : j = 0 := by omega
    rw [rowD_zero h, rowL_w hx]
    have ho : outT ⟨[], (a : Int), enq (ws.drop (a + 1)) (a + 1), 0⟩ ((a + 0 : Nat) : Int) = ⟨[], -1, enq (ws.drop (a + 1)) (a + 1), 0⟩ := by
      simp only [outT, Nat.add_zero, if_true, List.filter_nil, Lat.mk.injEq, true_and, and_true]
      exact enq_filter (by omega)
    rw [dropT, if_neg h0]
    simp only
    rw [ho, rowD, rowN, if_pos (by omega), if_pos (by omega), hg]
    rfl
end Go.Proofs.Ytbnphkiipjgfaaa
