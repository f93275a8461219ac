/- Latches as plain values: who has one, who waits, what is done. No program text. -/
import Derived.Test.YtbnphkiipjgfaaaObj
namespace Go.Proofs.Ytbnphkiipjgfaaa
set_option linter.unusedVariables false
set_option linter.unusedSimpArgs false
abbrev Wt := Int × Bool
structure Lat where
  rs : List Int
  wr : Int
  q : List Wt
  pn : Int
def hasT (l : Lat) (t : Int) : Bool := decide (l.wr = t) || l.rs.contains t || l.q.any fun x => decide (x.1 = t)
def canT (l : Lat) (b : Bool) : Bool := decide (l.wr = -1) && !(b && decide (0 < l.rs.length))
def plT (rs : List Int) (t : Int) : Nat := (rs.takeWhile fun x => decide (x < t)).length
def insT (rs : List Int) (t : Int) : List Int := rs.take (plT rs t) ++ t :: rs.drop (plT rs t)
def giveT (l : Lat) (x : Wt) : Lat := if x.2 then { l with wr := x.1 } else { l with rs := insT l.rs x.1 }
def letG : List Wt → Lat → Lat × List Int
  | [], l => ({ l with q := [] }, [])
  | x :: q, l => if canT l x.2 then ((letG q (giveT { l with q := q } x)).1, x.1 :: (letG q (giveT { l with q := q } x)).2) else ({ l with q := x :: q }, [])
def letT (l : Lat) : Lat × List Int := letG l.q l
def outT (l : Lat) (t : Int) : Lat := { l with wr := if l.wr = t then -1 else l.wr, rs := l.rs.filter (fun z => !decide (z = t)), q := l.q.filter (fun x => !decide (x.1 = t)) }
def dropT (l : Lat) (t : Int) : Lat × List Int := if t < 0 then (l, []) else letT (outT l t)
def downT (l : Lat) (t : Int) : Lat × List Int := if t < 0 ∨ l.wr ≠ t then (l, []) else letT (giveT { l with wr := -1 } (t, false))
def tryB (l : Lat) (t : Int) (b : Bool) : Bool := decide (0 ≤ t) && !hasT l t && l.q.isEmpty && canT l b
def tryT (l : Lat) (t : Int) (b : Bool) : Lat := if tryB l t b then giveT l (t, b) else l
def waitB (l : Lat) (t : Int) : Bool := decide (0 ≤ t) && !hasT l t
def takeT (l : Lat) (t : Int) (b : Bool) : Lat := if tryB l t b then giveT l (t, b) else if waitB l t then { l with q := l.q ++ [(t, b)] } else l
def pinT (l : Lat) : Lat := { l with pn := l.pn + 1 }
def unpinT (l : Lat) : Lat := if l.pn = 0 then l else { l with pn := l.pn - 1 }
def unpinI (l : Lat) : Int := if l.pn = 0 then 0 else l.pn - 1
def unpinB (l : Lat) : Bool := decide (l.pn ≠ 0)
def idleB (l : Lat) : Bool := decide (l.wr = -1) && l.rs.isEmpty && l.q.isEmpty && decide (l.pn = 0)
def newT : Lat := ⟨[], -1, [], 0⟩
def maxI : Int := 9223372036854775807
structure OkT (l : Lat) (K : Nat) : Prop where
  rs : ∀ z ∈ l.rs, 0 ≤ z ∧ z ≤ maxI
  wr : -1 ≤ l.wr ∧ l.wr ≤ maxI
  q : ∀ x ∈ l.q, 0 ≤ x.1 ∧ x.1 ≤ maxI
  sorted : l.rs.Pairwise (· ≤ ·)
  len : l.rs.length + l.q.length ≤ K
  pn : 0 ≤ l.pn ∧ l.pn ≤ K
/-- The first of the queue can't have it. -/
def Fb (l : Lat) : Prop := ∀ x q, l.q = x :: q → canT l x.2 = false
theorem OkT.more {l : Lat} {K L : Nat} (h : OkT l K) (hK : K ≤ L) : OkT l L := ⟨h.rs, h.wr, h.q, h.sorted, by have := h.len; omega, by have := h.pn; omega⟩
/-! Places among the readers. -/
theorem pl_cons (x : Int) (rs : List Int) (t : Int) : plT (x :: rs) t = if x < t then plT rs t + 1 else 0 := by
  unfold plT
  rw [List.takeWhile_cons]
  by_cases h : x < t <;> simp [h]
theorem ins_cons (x : Int) (rs : List Int) (t : Int) : insT (x :: rs) t = if x < t then x :: insT rs t else t :: x :: rs := by
  unfold insT
  rw [pl_cons]
  by_cases h : x < t <;> simp [h]
theorem ins_nil (t : Int) : insT [] t = [t] := rfl
theorem pl_le (rs : List Int) (t : Int) : plT rs t ≤ rs.length := by
  induction rs with
  | nil => exact Nat.le_refl _
  | cons x rs ih =>
    rw [pl_cons]
    split <;> simp <;> omega
theorem ins_len (rs : List Int) (t : Int) : (insT rs t).length = rs.length + 1 := by
  have := pl_le rs t
  simp [insT]
  omega
theorem mem_ins {rs : List Int} {t z : Int} : z ∈ insT rs t ↔ z = t ∨ z ∈ rs := by
  induction rs with
  | nil => simp [ins_nil]
  | cons x rs ih =>
    rw [ins_cons]
    split
    · simp only [List.mem_cons, ih]
      constructor
      · rintro (h | h | h) <;> simp [h]
      · rintro (h | h | h) <;> simp [h]
    · simp only [List.mem_cons]
theorem ins_sorted {rs : List Int} (t : Int) (h : rs.Pairwise (· ≤ ·)) : (insT rs t).Pairwise (· ≤ ·) := by
  induction rs with
  | nil => simp [ins_nil]
  | cons x rs ih =>
    rw [ins_cons]
    have h2 := List.pairwise_cons.1 h
    split
    · rename_i hx
      refine List.pairwise_cons.2 ⟨fun z hz => ?_, ih h2.2⟩
      rcases mem_ins.1 hz with rfl | hz
      · omega
      · exact h2.1 z hz
    · rename_i hx
      refine List.pairwise_cons.2 ⟨fun z hz => ?_, h⟩
      rcases List.mem_cons.1 hz with rfl | hz
      · omega
      · have := h2.1 z hz; omega
/-- The place, told by what lies ahead of it and at it. -/
theorem pl_unique {rs : List Int} {t : Int} {p : Nat} (hp : p ≤ rs.length) (h1 : ∀ i z, i < p → rs[i]? = some z → z < t) (h2 : ∀ z, rs[p]? = some z → t ≤ z) : p = plT rs t := by
  induction rs generalizing p with
  | nil => simp at hp; rw [hp]; rfl
  | cons x rs ih =>
    rw [pl_cons]
    cases p with
    | zero =>
      have := h2 x rfl
      rw [if_neg (by omega)]
    | succ p =>
      have := h1 0 x (by omega) rfl
      rw [if_pos this, ih (p := p) (by simpa using hp) (fun i z hi hz => h1 (i + 1) z (by omega) (by simpa using hz)) (fun z hz => h2 z (by simpa using hz))]
theorem sorted_le {rs : List Int} (h : rs.Pairwise (· ≤ ·)) {i j : Nat} {x y : Int} (hi : rs[i]? = some x) (hj : rs[j]? = some y) (hij : i ≤ j) : x ≤ y := by
  obtain ⟨h1, rfl⟩ := List.getElem?_eq_some_iff.1 hi
  obtain ⟨h2, rfl⟩ := List.getElem?_eq_some_iff.1 hj
  rcases Nat.lt_or_eq_of_le hij with h3 | h3
  · exact List.pairwise_iff_getElem.1 h i j h1 h2 h3
  · subst h3; exact Int.le_refl _
/-! What is let in. -/
theorem let_nil {l : Lat} (h : l.q = []) : letT l = (l, []) := by
  obtain ⟨rs, wr, q, pn⟩ := l
  simp only at h
  subst h
  rfl
theorem let_no {l : Lat} {x : Wt} {q : List Wt} (h : l.q = x :: q) (hc : canT l x.2 = false) : letT l = (l, []) := by
  obtain ⟨rs, wr, q', pn⟩ := l
  simp only at h
  subst h
  simp [letT, letG, hc]
theorem give_q (l : Lat) (x : Wt) : (giveT l x).q = l.q := by
  unfold giveT
  split <;> rfl
theorem give_pn (l : Lat) (x : Wt) : (giveT l x).pn = l.pn := by
  unfold giveT
  split <;> rfl
theorem let_yes {l : Lat} {x : Wt} {q : List Wt} (h : l.q = x :: q) (hc : canT l x.2 = true) : letT l = ((letT (giveT { l with q := q } x)).1, x.1 :: (letT (giveT { l with q := q } x)).2) := by
  obtain ⟨rs, wr, q', pn⟩ := l
  simp only at h
  subst h
  simp [letT, letG, hc, give_q]
theorem Fb.let {l : Lat} (h : Fb l) : letT l = (l, []) := by
  cases hq : l.q with
  | nil => exact let_nil hq
  | cons x q => exact let_no hq (h x q hq)
theorem give_sz (l : Lat) (x : Wt) : (giveT l x).rs.length ≤ l.rs.length + 1 := by
  unfold giveT
  split
  · simp
  · simp [ins_len]
theorem OkT.give {l : Lat} {K : Nat} (h : OkT l K) {x : Wt} (hx : -1 ≤ x.1 ∧ x.1 ≤ maxI) (h0 : x.2 = false → 0 ≤ x.1) (hl : l.rs.length + l.q.length + 1 ≤ K) : OkT (giveT l x) K := by
  have h1 := give_sz l x
  have h2 := give_q l x
  refine ⟨?_, ?_, by rw [h2]; exact h.q, ?_, by rw [h2]; omega, by rw [give_pn]; exact h.pn⟩
  · intro z hz
    unfold giveT at hz
    split at hz
    · exact h.rs z hz
    · rename_i hb
      rcases mem_ins.1 hz with rfl | hz
      · exact ⟨h0 (by simpa using hb), hx.2⟩
      · exact h.rs z hz
  · unfold giveT
    split
    · exact hx
    · exact h.wr
  · unfold giveT
    split
    · exact h.sorted
    · exact ins_sorted _ h.sorted
theorem OkT.tail {l : Lat} {K : Nat} (h : OkT l K) {x : Wt} {q : List Wt} (hq : l.q = x :: q) : OkT { l with q := q } K ∧ l.rs.length + q.length + 1 ≤ K ∧ 0 ≤ x.1 ∧ x.1 ≤ maxI := by
  have h1 := h.len
  have h2 := h.q x (by rw [hq]; simp)
  rw [hq, List.length_cons] at h1
  exact ⟨⟨h.rs, h.wr, fun y hy => h.q y (by rw [hq]; simp [hy]), h.sorted, by simp only; omega, h.pn⟩, by omega, h2⟩
theorem OkT.step {l : Lat} {K : Nat} (h : OkT l K) {x : Wt} {q : List Wt} (hq : l.q = x :: q) : OkT (giveT { l with q := q } x) K := by
  obtain ⟨h1, h2, h3⟩ := h.tail hq
  exact h1.give ⟨by omega, h3.2⟩ (fun _ => h3.1) h2
theorem let_ind {M : Lat → Prop} (hs : ∀ l x q, M l → l.q = x :: q → canT l x.2 = true → M (giveT { l with q := q } x)) : ∀ (n : Nat) (l : Lat), l.q.length = n → M l → M (letT l).1 ∧ Fb (letT l).1
  | 0, l, hn, h => by
    have hq := List.eq_nil_of_length_eq_zero hn
    rw [let_nil hq]
    exact ⟨h, fun x q e => by rw [hq] at e; cases e⟩
  | n + 1, l, hn, h => by
    cases hq : l.q with
    | nil => rw [hq] at hn; cases hn
    | cons x q =>
      cases hc : canT l x.2 with
      | false =>
        rw [let_no hq hc]
        exact ⟨h, fun y q' e => by simp only at e; rw [hq] at e; injection e with e1 e2; rw [← e1]; exact hc⟩
      | true =>
        rw [let_yes hq hc]
        exact let_ind hs n _ (by rw [give_q]; rw [hq] at hn; simpa using hn) (hs l x q h hq hc)
theorem OkT.let {l : Lat} {K : Nat} (h : OkT l K) : OkT (letT l).1 K ∧ Fb (letT l).1 := let_ind (M := fun l => OkT l K) (fun l x q h hq _ => h.step hq) _ l rfl h
theorem let_out : ∀ (n : Nat) (l : Lat), l.q.length = n → (letT l).2.length ≤ n ∧ (letT l).1.pn = l.pn ∧ (∀ z ∈ (letT l).2, ∃ x ∈ l.q, x.1 = z)
  | 0, l, hn => by
    rw [let_nil (List.eq_nil_of_length_eq_zero hn)]
    simp
  | n + 1, l, hn => by
    cases hq : l.q with
    | nil => rw [hq] at hn; cases hn
    | cons x q =>
      cases hc : canT l x.2 with
      | false => rw [let_no hq hc]; simp
      | true =>
        rw [let_yes hq hc]
        have ih := let_out n (giveT { l with q := q } x) (by rw [give_q]; rw [hq] at hn; simpa using hn)
        rw [give_pn, give_q] at ih
        refine ⟨by simp only [List.length_cons]; omega, ih.2.1, fun z hz => ?_⟩
        simp only [List.mem_cons] at hz
        rcases hz with rfl | hz
        · exact ⟨x, by simp, rfl⟩
        · obtain ⟨y, hy, e⟩ := ih.2.2 z hz
          exact ⟨y, by simp only at hy; simp [hy], e⟩
theorem OkT.out {l : Lat} {K : Nat} (h : OkT l K) (t : Int) : OkT (outT l t) K := by
  have h1 := List.length_filter_le (fun z => !decide (z = t)) l.rs
  have h2 := List.length_filter_le (fun x : Wt => !decide (x.1 = t)) l.q
  have h3 := h.len
  refine ⟨fun z hz => h.rs z (List.mem_filter.1 hz).1, ?_, fun x hx => h.q x (List.mem_filter.1 hx).1, h.sorted.filter _, by simp only [outT]; omega, h.pn⟩
  simp only [outT]
  split
  · exact ⟨Int.le_refl _, by decide⟩
  · exact h.wr
theorem OkT.drop {l : Lat} {K : Nat} (h : OkT l K) (hf : Fb l) (t : Int) : OkT (dropT l t).1 K ∧ Fb (dropT l t).1 := by
  unfold dropT
  split
  · exact ⟨h, hf⟩
  · exact (h.out t).let
theorem OkT.down {l : Lat} {K : Nat} (h : OkT l K) (hf : Fb l) (t : Int) (ht : t ≤ maxI) : OkT (downT l t).1 (K + 1) ∧ Fb (downT l t).1 := by
  unfold downT
  split
  · exact ⟨h.more (Nat.le_succ _), hf⟩
  · rename_i h1
    have h2 := h.len
    refine (OkT.give (l := { l with wr := -1 }) ⟨h.rs, ⟨by simp, by simp [maxI]⟩, h.q, h.sorted, by simp only; omega, by have := h.pn; simp only; omega⟩ (x := (t, false)) ⟨by simp only; omega, ht⟩ (fun _ => by simp only; omega) (by simp only; omega)).let
theorem OkT.take {l : Lat} {K : Nat} (h : OkT l K) (hf : Fb l) (t : Int) (ht : t ≤ maxI) (b : Bool) : OkT (takeT l t b) (K + 1) ∧ Fb (takeT l t b) := by
  have h2 := h.len
  have h3 := h.pn
  unfold takeT
  split
  · rename_i h1
    simp only [tryB, Bool.and_eq_true, decide_eq_true_eq, List.isEmpty_iff] at h1
    refine ⟨(h.more (Nat.le_succ K)).give ⟨by simp only; omega, ht⟩ (fun _ => h1.1.1.1) (by omega), fun x q e => ?_⟩
    rw [give_q, h1.1.2] at e
    cases e
  · split
    · rename_i h1 h4
      simp only [waitB, Bool.and_eq_true, decide_eq_true_eq] at h4
      refine ⟨⟨h.rs, h.wr, fun x hx => ?_, h.sorted, by simp only [List.length_append, List.length_singleton]; omega, by simp only; omega⟩, fun x q e => ?_⟩
      · rcases List.mem_append.1 hx with hx | hx
        · exact h.q x hx
        · rw [List.mem_singleton.1 hx]; exact ⟨h4.1, ht⟩
      · simp only at e
        show canT l x.2 = false
        cases hq : l.q with
        | cons y q' =>
          rw [hq] at e
          injection e with e1 e2
          rw [← e1]
          exact hf y q' hq
        | nil =>
          rw [hq] at e
          injection e with e1 e2
          rw [← e1]
          rw [Bool.not_eq_true] at h1
          simpa [tryB, h4, hq] using h1
    · exact ⟨h.more (Nat.le_succ _), hf⟩
theorem OkT.try {l : Lat} {K : Nat} (h : OkT l K) (hf : Fb l) (t : Int) (ht : t ≤ maxI) (b : Bool) : OkT (tryT l t b) (K + 1) ∧ Fb (tryT l t b) := by
  have h2 := h.len
  unfold tryT
  split
  · rename_i h1
    simp only [tryB, Bool.and_eq_true, decide_eq_true_eq, List.isEmpty_iff] at h1
    refine ⟨(h.more (Nat.le_succ K)).give ⟨by simp only; omega, ht⟩ (fun _ => h1.1.1.1) (by omega), fun x q e => ?_⟩
    rw [give_q, h1.1.2] at e
    cases e
  · exact ⟨h.more (Nat.le_succ _), hf⟩
theorem OkT.pin {l : Lat} {K : Nat} (h : OkT l K) (hf : Fb l) : OkT (pinT l) (K + 1) ∧ Fb (pinT l) := ⟨⟨h.rs, h.wr, h.q, h.sorted, by have := h.len; simp only [pinT]; omega, by have := h.pn; simp only [pinT]; omega⟩, hf⟩
theorem OkT.unpin {l : Lat} {K : Nat} (h : OkT l K) (hf : Fb l) : OkT (unpinT l) K ∧ Fb (unpinT l) := by
  unfold unpinT
  split
  · exact ⟨h, hf⟩
  · exact ⟨⟨h.rs, h.wr, h.q, h.sorted, h.len, by have := h.pn; simp only; omega⟩, hf⟩
theorem new_ok : OkT newT 0 ∧ Fb newT := ⟨⟨by simp [newT], ⟨by simp [newT], by simp [newT, maxI]⟩, by simp [newT], by simp [newT], by simp [newT], by simp [newT]⟩, fun x q e => by cases e⟩
/-- A number below 0 ends nothing. -/
theorem out_neg {l : Lat} {K : Nat} (h : OkT l K) {t : Int} (ht : t < 0) : outT l t = l := by
  obtain ⟨rs, wr, q, pn⟩ := l
  have h1 := h.rs
  have h2 := h.q
  have h3 := h.wr
  simp only at h1 h2 h3
  simp only [outT, Lat.mk.injEq, and_true, true_and]
  refine ⟨List.filter_eq_self.2 fun z hz => ?_, ?_, List.filter_eq_self.2 fun x hx => ?_⟩
  · have := h1 z hz
    simp only [Bool.not_eq_true', decide_eq_false_iff_not]
    omega
  · split <;> omega
  · have := h2 x hx
    simp only [Bool.not_eq_true', decide_eq_false_iff_not]
    omega
theorem drop_eq {l : Lat} {K : Nat} (h : OkT l K) (hf : Fb l) (t : Int) : letT (outT l t) = dropT l t := by
  unfold dropT
  split
  · rename_i ht
    rw [out_neg h ht, hf.let]
  · rfl
end Go.Proofs.Ytbnphkiipjgfaaa
