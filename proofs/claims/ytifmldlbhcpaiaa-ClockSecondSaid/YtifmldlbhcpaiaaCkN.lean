/- All that can go, one behind the other: in one run, and by sweeps. No program text. -/
import Derived.Test.YtifmldlbhcpaiaaCkM
namespace Go.Proofs.Ytifmldlbhcpaiaa
set_option linter.unusedVariables false
set_option linter.unusedSimpArgs false
abbrev OSt := List Bool × List Bool × List Nat
theorem orun_cons (k : Nat) (ks : List Nat) (s : OSt) : orun (k :: ks) s = orun ks (ost s k) := rfl
theorem orun_app (a b : List Nat) (s : OSt) : orun (a ++ b) s = orun b (orun a s) := by simp [orun, List.foldl_append]
theorem gd_lt {l : List Bool} {i : Nat} (h : gd l i = true) : i < l.length := by
  rcases Nat.lt_or_ge i l.length with h' | h'
  · exact h'
  · rw [gd_out h'] at h; cases h
theorem ost_can (s : OSt) (k i : Nat) (h : gd (ost s k).1 i = true) : gd s.1 i = true := by
  unfold ost at h
  split at h
  · simp only at h
    rw [gd_set] at h
    split at h
    · cases h
    · exact h
  · exact h
theorem ost_left (s : OSt) (k i : Nat) (h : gd (ost s k).2.1 i = true) : gd s.2.1 i = true := by
  have h2 : gd (wash s.1 s.2.1 k) i = true := by
    unfold ost at h
    split at h <;> exact h
  rw [gd_wash] at h2
  split at h2
  · cases h2
  · exact h2
theorem run_can {ks : List Nat} {s : OSt} {i : Nat} (h : gd (orun ks s).1 i = true) : gd s.1 i = true := by
  induction ks generalizing s with
  | nil => exact h
  | cons k ks ih => exact ost_can s k i (ih (by rw [orun_cons] at h; exact h))
theorem run_left {ks : List Nat} {s : OSt} {i : Nat} (h : gd (orun ks s).2.1 i = true) : gd s.2.1 i = true := by
  induction ks generalizing s with
  | nil => exact h
  | cons k ks ih => exact ost_left s k i (ih (by rw [orun_cons] at h; exact h))
/-- Whoever was visited and is there still has no mark. -/
theorem run_seen {ks : List Nat} {s : OSt} {i : Nat} (hi : i ∈ ks) (h : gd (orun ks s).1 i = true) : gd (orun ks s).2.1 i = false := by
  induction ks generalizing s with
  | nil => cases hi
  | cons k ks ih =>
    rw [orun_cons] at h ⊢
    by_cases e : i ∈ ks
    · exact ih e h
    · obtain rfl : i = k := by
        rcases List.mem_cons.1 hi with e' | e'
        · exact e'
        · exact (e e').elim
      cases hm : gd (orun ks (ost s i)).2.1 i with
      | false => rfl
      | true =>
        have h1 := run_left hm
        have h2 := ost_can s i i (run_can h)
        have h3 : gd (wash s.1 s.2.1 i) i = true := by
          unfold ost at h1
          split at h1 <;> exact h1
        rw [gd_wash, if_pos ⟨rfl, h2⟩] at h3
        cases h3
/-- Whoever has no mark goes when it is visited. -/
theorem run_gone {ks : List Nat} {s : OSt} {i : Nat} (hi : i ∈ ks) (h : gd s.2.1 i = false) : gd (orun ks s).1 i = false := by
  induction ks generalizing s with
  | nil => cases hi
  | cons k ks ih =>
    rw [orun_cons]
    by_cases e : i ∈ ks
    · refine ih e ?_
      cases hm : gd (ost s k).2.1 i with
      | false => rfl
      | true => rw [ost_left s k i hm] at h; cases h
    · obtain rfl : i = k := by
        rcases List.mem_cons.1 hi with e' | e'
        · exact e'
        · exact (e e').elim
      cases hm : gd (orun ks (ost s i)).1 i with
      | false => rfl
      | true =>
        have h1 := run_can hm
        have h2 := ost_can s i i h1
        have hh : hit s.1 s.2.1 i = true := by unfold hit; rw [h2, h]; rfl
        unfold ost at h1
        rw [if_pos hh] at h1
        simp only at h1
        rw [gd_set, if_pos rfl] at h1
        cases h1
/-- Two rounds, and all have gone. -/
theorem run_drain {h n : Nat} (hh : h < n) {s : OSt} (hc : s.1.length = n) (i : Nat) : gd (orun (vis h n (2 * n)) s).1 i = false := by
  cases hm : gd (orun (vis h n (2 * n)) s).1 i with
  | false => rfl
  | true =>
    rw [vis_twice, orun_app] at hm
    have h1 := run_can hm
    have hi : i < n := by
      have := gd_lt h1
      rw [(orun_len _ s).1, hc] at this
      exact this
    have h2 := run_seen (vis_mem hh hi) h1
    rw [run_gone (vis_mem hh hi) h2] at hm
    cases hm
/-- How many can go. -/
def cnt : List Bool → Nat
  | [] => 0
  | b :: l => (if b then 1 else 0) + cnt l
theorem cnt_le (l : List Bool) : cnt l ≤ l.length := by
  induction l with
  | nil => exact Nat.le_refl _
  | cons b l ih =>
    unfold cnt
    simp only [List.length_cons]
    split <;> omega
theorem cnt_set {l : List Bool} {k : Nat} (h : gd l k = true) : cnt (l.set k false) + 1 = cnt l := by
  induction l generalizing k with
  | nil => rw [gd_out (Nat.zero_le _)] at h; cases h
  | cons b l ih =>
    cases k with
    | zero =>
      have hb : b = true := h
      subst hb
      simp [cnt]
      omega
    | succ k =>
      have h2 : gd l k = true := h
      have := ih h2
      simp only [List.set_cons_succ, cnt]
      omega
theorem cnt_none {l : List Bool} (h : ∀ i, gd l i = false) : cnt l = 0 := by
  induction l with
  | nil => rfl
  | cons b l ih =>
    have hb : b = false := h 0
    subst hb
    simp only [cnt, Bool.false_eq_true, if_false, Nat.zero_add]
    exact ih fun i => h (i + 1)
theorem cnt_pos {l : List Bool} (h : cnt l ≠ 0) : ∃ i, i < l.length ∧ gd l i = true := by
  induction l with
  | nil => exact (h rfl).elim
  | cons b l ih =>
    cases b with
    | true => exact ⟨0, by simp, rfl⟩
    | false =>
      simp only [cnt, Bool.false_eq_true, if_false, Nat.zero_add] at h
      obtain ⟨i, h1, h2⟩ := ih h
      exact ⟨i + 1, by simp; omega, h2⟩
theorem cnt_take {l : List Bool} {i : Nat} (hi : i < l.length) : cnt (l.take (i + 1)) = cnt (l.take i) + (if gd l i then 1 else 0) := by
  induction l generalizing i with
  | nil => simp at hi
  | cons b l ih =>
    cases i with
    | zero => simp [cnt, gd]
    | succ i =>
      simp only [List.length_cons] at hi
      have := ih (i := i) (by omega)
      simp only [List.take_succ_cons, cnt]
      rw [this]
      have e : gd (b :: l) (i + 1) = gd l i := rfl
      rw [e]
      omega
/-- What lasts on the way. -/
structure Went (c0 : List Bool) (s : OSt) : Prop where
  sub : ∀ i, gd s.1 i = true → gd c0 i = true
  gone : ∀ k ∈ s.2.2, gd s.1 k = false ∧ gd c0 k = true
  once : s.2.2.Nodup
  many : s.2.2.length + cnt s.1 = cnt c0
theorem Went.step {c0 : List Bool} {s : OSt} (h : Went c0 s) (k : Nat) : Went c0 (ost s k) := by
  unfold ost
  cases hk : hit s.1 s.2.1 k with
  | false => exact ⟨h.sub, h.gone, h.once, h.many⟩
  | true =>
    have hc : gd s.1 k = true := by unfold hit at hk; simp at hk; exact hk.1
    refine ⟨fun i hi => ?_, fun i hi => ?_, ?_, ?_⟩
    · simp only [if_true] at hi
      rw [gd_set] at hi
      split at hi
      · cases hi
      · exact h.sub i hi
    · simp only [if_true] at hi ⊢
      rw [gd_set]
      rcases List.mem_append.1 hi with e | e
      · obtain ⟨h1, h2⟩ := h.gone i e
        refine ⟨?_, h2⟩
        split
        · rfl
        · exact h1
      · simp at e
        subst e
        exact ⟨by rw [if_pos rfl], h.sub _ hc⟩
    · simp only [if_true]
      refine List.nodup_append.2 ⟨h.once, by simp, fun x hx y hy e => ?_⟩
      simp at hy
      subst hy
      subst e
      rw [(h.gone _ hx).1] at hc
      cases hc
    · simp only [if_true]
      have := cnt_set hc
      have := h.many
      simp only [List.length_append, List.length_cons, List.length_nil]
      omega
theorem Went.run {c0 : List Bool} (ks : List Nat) {s : OSt} (h : Went c0 s) : Went c0 (orun ks s) := by
  induction ks generalizing s with
  | nil => exact h
  | cons k ks ih => exact ih (h.step k)
theorem went_start (c l : List Bool) : Went c (c, l, []) := ⟨fun _ h => h, fun k h => (by cases h), by simp, by simp⟩
/-- What the order is: all that can go, each once. -/
theorem ord_went {c l : List Bool} {z : Int} {n : Nat} (hc : c.length = n) (hl : l.length = n) (hn : 0 < n) : (∀ k ∈ ordL c l z, k < n ∧ gd c k = true) ∧ (ordL c l z).Nodup ∧ (ordL c l z).length = cnt c := by
  unfold ordL
  rw [if_pos ⟨by omega, by omega⟩, hc]
  have h := (went_start c l).run (vis (hd z n) n (2 * n))
  have hd0 : cnt (orun (vis (hd z n) n (2 * n)) (c, l, [])).1 = 0 := cnt_none (run_drain (hd_lt z hn) hc)
  refine ⟨fun k hk => ⟨?_, (h.gone k hk).2⟩, h.once, ?_⟩
  · have := gd_lt (h.gone k hk).2
    omega
  · have := h.many
    omega
/-- Those with no mark ahead of those with one. -/
theorem ord_first {c l : List Bool} {z : Int} {n k : Nat} {o : List Nat} (hc : c.length = n) (hl : l.length = n) (hn : 0 < n) (ho : ordL c l z = k :: o) (hk : gd l k = true) (i : Nat) (hi : gd c i = true) : gd l i = true := by
  unfold ordL at ho
  rw [if_pos ⟨by omega, by omega⟩, hc] at ho
  have hs := orun_sweep (vis (hd z n) n (2 * n)) c l
  cases hq : sweepL c (vis (hd z n) n (2 * n)) l with
  | mk p m =>
    rw [hq] at hs
    cases p with
    | none =>
      simp only at hs
      rw [hs] at ho
      cases ho
    | some x =>
      simp only at hs
      obtain ⟨a, b, h1, h2⟩ := hs
      rw [h2] at ho
      injection ho with ho _
      subst ho
      rw [vis_twice] at hq
      exact sweep_first (vis_nodup (Nat.le_refl _)) hq hk (vis_mem (hd_lt z hn) (by have := gd_lt hi; omega)) hi
/-- One behind the other, by sweeps. -/
def ordD : Nat → List Bool → List Bool → Int → List Nat
  | 0, _, _, _ => []
  | f + 1, c, l, z => if (swpL c l z).1 < 0 then [] else (swpL c l z).1.toNat :: ordD f (c.set (swpL c l z).1.toNat false) (swpL c l z).2.2 (swpL c l z).2.1
theorem ordD_succ (f : Nat) (c l : List Bool) (z : Int) : ordD (f + 1) c l z = if (swpL c l z).1 < 0 then [] else (swpL c l z).1.toNat :: ordD f (c.set (swpL c l z).1.toNat false) (swpL c l z).2.2 (swpL c l z).2.1 := rfl
theorem ordD_some (f : Nat) {c l m : List Bool} {z q : Int} {k : Nat} (h : swpL c l z = ((k : Int), q, m)) : ordD (f + 1) c l z = k :: ordD f (c.set k false) m q := by
  have : ¬ ((k : Int) < 0) := by omega
  rw [ordD_succ]
  simp [h, this]
theorem ordD_none (f : Nat) {c l m : List Bool} {z q : Int} (h : swpL c l z = (-1, q, m)) : ordD (f + 1) c l z = [] := by
  rw [ordD_succ]
  simp [h]
theorem vis_split {h n m : Nat} {a b : List Nat} {k : Nat} (e : vis h n m = a ++ k :: b) : b = vis ((k + 1) % n) n b.length ∧ b.length ≤ m := by
  have hl : a.length + (b.length + 1) = m := by
    have := congrArg List.length e
    rw [vis_len] at this
    simp at this
    omega
  have e2 : vis h n m = vis h n a.length ++ ((h + a.length) % n :: vis (h + a.length + 1) n b.length) := by
    rw [← hl, vis_app, Nat.add_comm b.length 1, vis_app]
    simp [vis]
  rw [e2] at e
  obtain ⟨e3, e4⟩ := List.append_inj e (by rw [vis_len])
  injection e4 with e4 e5
  refine ⟨?_, by omega⟩
  rw [← e5, vis_len]
  have e6 : (k + 1) % n = (h + a.length + 1) % n := by rw [← e4, Nat.mod_add_mod]
  rw [e6, vis_mod]
theorem ordD_run (f : Nat) {c l : List Bool} {z : Int} {n m : Nat} (hc : c.length = n) (hl : l.length = n) (hn : 0 < n) (hm : m ≤ 2 * n) (hd0 : ∀ i, gd (orun (vis (hd z n) n m) (c, l, [])).1 i = false) (hf : cnt c < f) : ordD f c l z = (orun (vis (hd z n) n m) (c, l, [])).2.2 := by
  induction f generalizing c l z m with
  | zero => omega
  | succ f ih =>
    have hs := orun_sweep (vis (hd z n) n m) c l
    cases hq : sweepL c (vis (hd z n) n m) l with
    | mk p l' =>
      rw [hq] at hs
      cases p with
      | none =>
        simp only at hs
        rw [hs] at hd0 ⊢
        have hp : ∃ l2, sweepL c (vis (hd z n) n (2 * n)) l = (none, l2) := by
          cases hq2 : sweepL c (vis (hd z n) n (2 * n)) l with
          | mk p2 l2 =>
            cases p2 with
            | none => exact ⟨l2, rfl⟩
            | some x =>
              have := (sweep_some hq2).2.1
              rw [hd0 x] at this
              cases this
        obtain ⟨l2, hq2⟩ := hp
        exact ordD_none f (swp_yes z hc hl hn rfl hq2)
      | some k =>
        simp only at hs
        obtain ⟨a, b, h1, h2⟩ := hs
        obtain ⟨b1, b2⟩ := vis_split h1
        have hq2 := sweep_pre (vis_pre (hd z n) n hm) hq
        have hck := (sweep_some hq).2.1
        have hk : k < n := by have := gd_lt hck; omega
        rw [ordD_some f (swp_yes z hc hl hn rfl hq2), h2]
        have hlen : l'.length = n := by
          have := sweep_len c (vis (hd z n) n m) l
          rw [hq] at this
          exact this.trans hl
        have e1 : hd (((k + 1) % n : Nat) : Int) n = (k + 1) % n := by rw [hd_nat, Nat.mod_mod]
        have hb : orun b (c.set k false, l', []) = orun (vis (hd (((k + 1) % n : Nat) : Int) n) n b.length) (c.set k false, l', []) := by rw [e1, ← b1]
        have hcs := cnt_set hck
        have := ih (c := c.set k false) (l := l') (z := (((k + 1) % n : Nat) : Int)) (m := b.length) (by simp [hc]) hlen (by omega) (by rw [← hb]; rw [h2] at hd0; exact hd0) (by omega)
        rw [← hb] at this
        show k :: ordD f (c.set k false) l' (((k + 1) % n : Nat) : Int) = _
        rw [this]
/-- The document's order is the program's. -/
theorem ord_same (c l : List Bool) (z : Int) : ordD (c.length + 1) c l z = ordL c l z := by
  unfold ordL
  split
  · next h =>
    exact ordD_run _ rfl h.1.symm h.2 (Nat.le_refl _) (run_drain (hd_lt z h.2) rfl) (by have := cnt_le c; omega)
  · next h =>
    rw [ordD_succ, swp_no z h]
    simp
theorem swp_cases (c l : List Bool) (z : Int) : (swpL c l z).1 = -1 ∨ ∃ k : Nat, (swpL c l z).1 = (k : Int) ∧ k < c.length ∧ gd c k = true := by
  unfold swpL
  split
  · next h =>
    cases hq : sweepL c (vis (hd z c.length) c.length (2 * c.length)) l with
    | mk p m =>
      cases p with
      | none => exact .inl rfl
      | some k =>
        have := (sweep_some hq).2.1
        exact .inr ⟨k, rfl, gd_lt this, this⟩
  · exact .inl rfl
theorem swp_left_len (c l : List Bool) (z : Int) {k : Nat} (h : (swpL c l z).1 = (k : Int)) : (swpL c l z).2.2.length = l.length := by
  unfold swpL at h ⊢
  split
  · exact sweep_len _ _ _
  · next hh => rw [if_neg hh] at h; simp at h
end Go.Proofs.Ytifmldlbhcpaiaa
