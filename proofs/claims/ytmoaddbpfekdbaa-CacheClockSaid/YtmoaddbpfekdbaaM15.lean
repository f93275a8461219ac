/- The clock as plain functions on rows of marks: a sweep along places, all of them, in one run and one behind the other. No program text. -/
import Derived.Test.YtmoaddbpfekdbaaM01
namespace Go.Proofs.Ytmoaddbpfekdbaa
set_option linter.unusedVariables false
set_option linter.unusedSimpArgs false
/-- The mark at a place. -/
def gd (l : List Bool) (k : Nat) : Bool := l.getD k false
theorem gd_get {l : List Bool} {k : Nat} (h : k < l.length) : l[k]? = some (gd l k) := by
  unfold gd
  rw [List.getD_eq_getElem?_getD, List.getElem?_eq_getElem h]
  rfl
theorem gd_out {l : List Bool} {k : Nat} (h : l.length ≤ k) : gd l k = false := by
  unfold gd
  rw [List.getD_eq_getElem?_getD, List.getElem?_eq_none h]
  rfl
theorem gd_of {l : List Bool} {k : Nat} {b : Bool} (h : l[k]? = some b) : gd l k = b := by
  unfold gd
  rw [List.getD_eq_getElem?_getD, h]
  rfl
theorem gd_set (l : List Bool) (k i : Nat) : gd (l.set k false) i = if i = k then false else gd l i := by
  by_cases hi : i < l.length
  · have := gd_get (l := l.set k false) (k := i) (by simpa using hi)
    rw [List.getElem?_set] at this
    split
    · next h => subst h; simp [hi] at this; exact this
    · next h => rw [if_neg (fun e => h e.symm), gd_get hi] at this; injection this with this; exact this.symm
  · rw [gd_out (by simpa using hi), gd_out (by omega)]
    simp
theorem gd_ext {a b : List Bool} (hl : a.length = b.length) (h : ∀ i, i < a.length → gd a i = gd b i) : a = b := by
  apply List.ext_getElem?
  intro i
  by_cases hi : i < a.length
  · rw [gd_get hi, gd_get (by omega), h i hi]
  · rw [List.getElem?_eq_none (by omega), List.getElem?_eq_none (by omega)]
theorem set_same {l : List Bool} {k : Nat} (h : gd l k = false) : l.set k false = l := by
  apply gd_ext (by simp)
  intro i _
  rw [gd_set]
  split
  · next e => rw [e, h]
  · rfl
/-- Is this one chosen? -/
def hit (c l : List Bool) (k : Nat) : Bool := gd c k && !gd l k
/-- The marks behind a visit. -/
def wash (c l : List Bool) (k : Nat) : List Bool := if gd c k then l.set k false else l
theorem wash_len (c l : List Bool) (k : Nat) : (wash c l k).length = l.length := by unfold wash; split <;> simp
theorem gd_wash (c l : List Bool) (k i : Nat) : gd (wash c l k) i = if i = k ∧ gd c k = true then false else gd l i := by
  unfold wash
  cases h : gd c k with
  | true => simp [gd_set]
  | false => simp
theorem wash_hit {c l : List Bool} {k : Nat} (h : hit c l k = true) : wash c l k = l := by
  unfold hit at h
  simp at h
  unfold wash
  rw [if_pos h.1, set_same h.2]
/-- A sweep along places. -/
def sweepL (c : List Bool) : List Nat → List Bool → Option Nat × List Bool
  | [], l => (none, l)
  | k :: ks, l => if hit c l k then (some k, wash c l k) else sweepL c ks (wash c l k)
theorem sweep_cons (c : List Bool) (k : Nat) (ks : List Nat) (l : List Bool) : sweepL c (k :: ks) l = if hit c l k then (some k, wash c l k) else sweepL c ks (wash c l k) := rfl
theorem sweep_app (c : List Bool) (a b : List Nat) (l : List Bool) : sweepL c (a ++ b) l = if (sweepL c a l).1 = none then sweepL c b (sweepL c a l).2 else sweepL c a l := by
  induction a generalizing l with
  | nil => simp [sweepL]
  | cons k a ih =>
    rw [List.cons_append, sweep_cons, sweep_cons]
    split
    · simp
    · exact ih _
theorem sweep_snoc_hit {c : List Bool} {a : List Nat} {l m : List Bool} {x : Nat} (h : sweepL c a l = (none, m)) (hx : hit c m x = true) : sweepL c (a ++ [x]) l = (some x, wash c m x) := by
  rw [sweep_app, h]
  simp [sweepL, hx]
theorem sweep_snoc_miss {c : List Bool} {a : List Nat} {l m : List Bool} {x : Nat} (h : sweepL c a l = (none, m)) (hx : hit c m x = false) : sweepL c (a ++ [x]) l = (none, wash c m x) := by
  rw [sweep_app, h]
  simp [sweepL, hx]
theorem sweep_pre {c : List Bool} {a b : List Nat} {l m : List Bool} {x : Nat} (hp : a <+: b) (h : sweepL c a l = (some x, m)) : sweepL c b l = (some x, m) := by
  obtain ⟨t, rfl⟩ := hp
  rw [sweep_app, h]
  simp
theorem sweep_len (c : List Bool) (ks : List Nat) (l : List Bool) : (sweepL c ks l).2.length = l.length := by
  induction ks generalizing l with
  | nil => rfl
  | cons k ks ih =>
    rw [sweep_cons]
    split
    · exact wash_len ..
    · rw [ih, wash_len]
/-- No mark is gained. -/
theorem sweep_mono {c : List Bool} {ks : List Nat} {l : List Bool} {i : Nat} (h : gd (sweepL c ks l).2 i = true) : gd l i = true := by
  induction ks generalizing l with
  | nil => exact h
  | cons k ks ih =>
    have hw : gd (wash c l k) i = true → gd l i = true := by
      rw [gd_wash]
      split
      · simp
      · exact id
    rw [sweep_cons] at h
    split at h
    · exact hw h
    · exact hw (ih h)
/-- None is lost by who can't go. -/
theorem sweep_kept {c : List Bool} {ks : List Nat} {l : List Bool} {i : Nat} (hc : gd c i = false) : gd (sweepL c ks l).2 i = gd l i := by
  induction ks generalizing l with
  | nil => rfl
  | cons k ks ih =>
    have hw : gd (wash c l k) i = gd l i := by
      rw [gd_wash]
      split
      · next h => rw [← h.1, hc] at h; simp at h
      · rfl
    rw [sweep_cons]
    split
    · exact hw
    · rw [ih, hw]
theorem sweep_some {c : List Bool} {ks : List Nat} {l m : List Bool} {k : Nat} (h : sweepL c ks l = (some k, m)) : k ∈ ks ∧ gd c k = true ∧ gd m k = false := by
  induction ks generalizing l with
  | nil => cases h
  | cons x ks ih =>
    rw [sweep_cons] at h
    split at h
    · next hx =>
      injection h with h1 h2
      injection h1 with h1
      subst h1 h2
      rw [wash_hit hx]
      unfold hit at hx
      simp at hx
      exact ⟨by simp, hx.1, hx.2⟩
    · obtain ⟨h1, h2⟩ := ih h
      exact ⟨by simp [h1], h2⟩
/-- Where none is chosen: all that can go had their mark, and have lost it. -/
theorem sweep_none {c : List Bool} {ks : List Nat} {l m : List Bool} (h : sweepL c ks l = (none, m)) {i : Nat} (hi : i ∈ ks) (hc : gd c i = true) : gd l i = true ∧ gd m i = false := by
  induction ks generalizing l with
  | nil => cases hi
  | cons x ks ih =>
    rw [sweep_cons] at h
    split at h
    · cases h
    · next hx =>
      by_cases e : i = x
      · subst e
        unfold hit at hx
        simp [hc] at hx
        refine ⟨hx, ?_⟩
        cases hm : gd m i with
        | false => rfl
        | true =>
          have := sweep_mono (c := c) (ks := ks) (l := wash c l i) (i := i) (by rw [h]; exact hm)
          rw [gd_wash] at this
          simp [hc] at this
      · have hi' : i ∈ ks := by
          rcases List.mem_cons.1 hi with e' | e'
          · exact (e e').elim
          · exact e'
        obtain ⟨h1, h2⟩ := ih h hi'
        rw [gd_wash] at h1
        rw [if_neg (fun e' => e e'.1)] at h1
        exact ⟨h1, h2⟩
/-- With both rounds one goes, if any can. -/
theorem sweep_two {c : List Bool} {a b : List Nat} {l m : List Bool} (h : sweepL c (a ++ b) l = (none, m)) {i : Nat} (ha : i ∈ a) (hb : i ∈ b) : gd c i = false := by
  cases hc : gd c i with
  | false => rfl
  | true =>
    rw [sweep_app] at h
    cases hs : sweepL c a l with
    | mk p l1 =>
      rw [hs] at h
      cases p with
      | some k => simp at h
      | none =>
        simp at h
        have h1 := (sweep_none hs ha hc).2
        have h2 := (sweep_none h hb hc).1
        rw [h1] at h2
        cases h2
/-- Where the hand is. -/
def hd (z : Int) (n : Nat) : Nat := (z % (n : Int)).toNat
theorem hd_lt (z : Int) {n : Nat} (hn : 0 < n) : hd z n < n := by
  unfold hd
  have h1 := Int.emod_nonneg z (b := (n : Int)) (by omega)
  have h2 := Int.emod_lt_of_pos z (b := (n : Int)) (by omega)
  omega
theorem hd_cast (z : Int) {n : Nat} (hn : 0 < n) : (hd z n : Int) = z % (n : Int) := by
  unfold hd
  have h1 := Int.emod_nonneg z (b := (n : Int)) (by omega)
  omega
theorem hd_nat (j n : Nat) : hd (j : Int) n = j % n := by
  unfold hd
  rw [← Int.natCast_emod]
  rfl
/-- Go's remainder: the hand, or n below it. -/
theorem tmod_hd (z : Int) {n : Nat} (hn : 0 < n) : (z.tmod n = (hd z n : Int)) ∨ (z.tmod n = (hd z n : Int) - n ∧ z.tmod n < 0) := by
  have e := Int.tmod_eq_emod (a := z) (b := (n : Int))
  rw [hd_cast z hn]
  have h2 := Int.emod_lt_of_pos z (b := (n : Int)) (by omega)
  split at e
  · left; omega
  · right
    simp at e
    omega
theorem red_hd (z : Int) {n : Nat} (hn : 0 < n) : (z.tmod n + n).tmod n = (hd z n : Int) := by
  have hl := hd_lt z hn
  rcases tmod_hd z hn with h | ⟨h, _⟩
  · rw [h, ← Int.natCast_add, ← Int.ofNat_tmod, Nat.add_mod_right, Nat.mod_eq_of_lt hl]
  · rw [h, Int.sub_add_cancel, ← Int.ofNat_tmod, Nat.mod_eq_of_lt hl]
/-- The places from h on, round n. -/
def vis (h n m : Nat) : List Nat := (List.range m).map fun j => (h + j) % n
theorem vis_len (h n m : Nat) : (vis h n m).length = m := by simp [vis]
theorem vis_succ (h n m : Nat) : vis h n (m + 1) = vis h n m ++ [(h + m) % n] := by simp [vis, List.range_succ]
theorem vis_app (h n a b : Nat) : vis h n (a + b) = vis h n a ++ vis (h + a) n b := by
  induction b with
  | zero => simp [vis]
  | succ b ih => rw [← Nat.add_assoc, vis_succ, ih, vis_succ, List.append_assoc, Nat.add_assoc]
theorem vis_pre (h n : Nat) {a b : Nat} (hab : a ≤ b) : vis h n a <+: vis h n b := by
  obtain ⟨d, rfl⟩ : ∃ d, b = a + d := ⟨b - a, by omega⟩
  rw [vis_app]
  exact List.prefix_append _ _
theorem vis_mod (h n m : Nat) : vis (h % n) n m = vis h n m := by
  unfold vis
  apply List.map_congr_left
  intro j _
  simp [Nat.add_mod]
theorem vis_lt {h n m k : Nat} (hn : 0 < n) (hk : k ∈ vis h n m) : k < n := by
  simp only [vis, List.mem_map] at hk
  obtain ⟨j, _, rfl⟩ := hk
  exact Nat.mod_lt _ hn
theorem vis_mem {h n k : Nat} (hh : h < n) (hk : k < n) : k ∈ vis h n n := by
  simp only [vis, List.mem_map, List.mem_range]
  by_cases e : h ≤ k
  · exact ⟨k - h, by omega, by rw [show h + (k - h) = k by omega]; exact Nat.mod_eq_of_lt hk⟩
  · exact ⟨k + n - h, by omega, by rw [show h + (k + n - h) = k + n by omega, Nat.add_mod_right]; exact Nat.mod_eq_of_lt hk⟩
theorem vis_twice (h n : Nat) : vis h n (2 * n) = vis h n n ++ vis h n n := by
  rw [Nat.two_mul, vis_app]
  congr 1
  rw [← vis_mod (h + n), Nat.add_mod_right, vis_mod]
/-- What a sweep answers. -/
def place (n : Nat) (h : Nat) : Option Nat → Int × Int
  | some k => (k, ((k + 1) % n : Nat))
  | none => (-1, h)
def swpL (c l : List Bool) (z : Int) : Int × Int × List Bool :=
  if c.length = l.length ∧ 0 < c.length then
    ((place c.length (hd z c.length) (sweepL c (vis (hd z c.length) c.length (2 * c.length)) l).1).1,
     (place c.length (hd z c.length) (sweepL c (vis (hd z c.length) c.length (2 * c.length)) l).1).2,
     (sweepL c (vis (hd z c.length) c.length (2 * c.length)) l).2)
  else (-1, 0, [])
theorem swp_no {c l : List Bool} (z : Int) (h : ¬(c.length = l.length ∧ 0 < c.length)) : swpL c l z = (-1, 0, []) := by unfold swpL; rw [if_neg h]
theorem swp_yes {c l : List Bool} (z : Int) {n h : Nat} (hc : c.length = n) (hl : l.length = n) (hn : 0 < n) (hh : hd z n = h) {p : Option Nat} {m : List Bool} (hs : sweepL c (vis h n (2 * n)) l = (p, m)) : swpL c l z = ((place n h p).1, (place n h p).2, m) := by
  subst hh
  unfold swpL
  rw [if_pos ⟨by omega, by omega⟩, hc, hs]
/-- All of them, in one run: who can go, the marks, who went. -/
def ost (s : List Bool × List Bool × List Nat) (k : Nat) : List Bool × List Bool × List Nat :=
  if hit s.1 s.2.1 k then (s.1.set k false, wash s.1 s.2.1 k, s.2.2 ++ [k]) else (s.1, wash s.1 s.2.1 k, s.2.2)
def orun (ks : List Nat) (s : List Bool × List Bool × List Nat) : List Bool × List Bool × List Nat := ks.foldl ost s
def ordL (c l : List Bool) (z : Int) : List Nat :=
  if c.length = l.length ∧ 0 < c.length then (orun (vis (hd z c.length) c.length (2 * c.length)) (c, l, [])).2.2 else []
theorem ost_len (s : List Bool × List Bool × List Nat) (k : Nat) : (ost s k).1.length = s.1.length ∧ (ost s k).2.1.length = s.2.1.length ∧ (ost s k).2.2.length ≤ s.2.2.length + 1 := by
  unfold ost
  split
  · simp [wash_len]
  · simp [wash_len]
theorem orun_len (ks : List Nat) (s : List Bool × List Bool × List Nat) : (orun ks s).1.length = s.1.length ∧ (orun ks s).2.1.length = s.2.1.length ∧ (orun ks s).2.2.length ≤ s.2.2.length + ks.length := by
  induction ks generalizing s with
  | nil => simp [orun]
  | cons k ks ih =>
    obtain ⟨h1, h2, h3⟩ := ost_len s k
    obtain ⟨g1, g2, g3⟩ := ih (ost s k)
    refine ⟨g1.trans h1, g2.trans h2, ?_⟩
    have : (orun (k :: ks) s).2.2.length ≤ _ := g3
    simp
    omega
/-- What went ahead plays no part. -/
theorem orun_out (ks : List Nat) (c l : List Bool) (o : List Nat) : orun ks (c, l, o) = ((orun ks (c, l, [])).1, (orun ks (c, l, [])).2.1, o ++ (orun ks (c, l, [])).2.2) := by
  induction ks generalizing c l o with
  | nil => simp [orun]
  | cons k ks ih =>
    have e : ∀ o, orun (k :: ks) (c, l, o) = orun ks (ost (c, l, o) k) := fun _ => rfl
    rw [e, e]
    unfold ost
    simp only
    split
    · rw [ih _ _ (o ++ [k]), ih _ _ ([] ++ [k])]
      simp
    · rw [ih _ _ o]
/-- A run up to the first that goes. -/
theorem orun_sweep (ks : List Nat) (c l : List Bool) : match sweepL c ks l with
    | (none, m) => orun ks (c, l, []) = (c, m, [])
    | (some k, m) => ∃ a b, ks = a ++ k :: b ∧ orun ks (c, l, []) = ((orun b (c.set k false, m, [])).1, (orun b (c.set k false, m, [])).2.1, k :: (orun b (c.set k false, m, [])).2.2) := by
  induction ks generalizing l with
  | nil => rfl
  | cons x ks ih =>
    have e : orun (x :: ks) (c, l, []) = orun ks (ost (c, l, []) x) := rfl
    rw [sweep_cons]
    cases hx : hit c l x with
    | true =>
      simp only [if_true]
      refine ⟨[], ks, rfl, ?_⟩
      rw [e]
      unfold ost
      simp only [hx, if_true]
      rw [orun_out]
      rfl
    | false =>
      have e2 : ost (c, l, []) x = (c, wash c l x, []) := by unfold ost; simp [hx]
      simp only [Bool.false_eq_true, if_false]
      rw [e, e2]
      have := ih (wash c l x)
      cases hs : sweepL c ks (wash c l x) with
      | mk p m =>
        rw [hs] at this
        cases p with
        | none => exact this
        | some k =>
          obtain ⟨a, b, h1, h2⟩ := this
          exact ⟨x :: a, b, by rw [h1]; rfl, h2⟩
end Go.Proofs.Ytmoaddbpfekdbaa
