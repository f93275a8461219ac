/- All that can go, one behind the other: in one run, and by sweeps. No program text. -/
import Derived.Test.YtmoaddbpfekdbaaM15
namespace Go.Proofs.Ytmoaddbpfekdbaa
set_option linter.unusedVariables false
set_option linter.unusedSimpArgs false
abbrev OSt := List Bool × List Bool × List Nat
theorem orun_cons (k : Nat) (ks : List Nat) (s : OSt) : orun (k :: ks) s = orun ks (ost s k) := rfl
theorem orun_app (a b : List Nat) (s : OSt) : orun (a ++ b) s = orun b (orun a s) := by simp [orun, List.foldl_append]
theorem gd_lt {l : List Bool} {i : Nat} (h : gd l i = true) : i < l.length := by
  rcases Nat.lt_or_ge i l.length with h' | h'
  · exact h'
  · rw [gd_out h'] at h; cases h
theorem ost_can (s : OSt) (k i : Nat) (h : gd (ost s k).1 i = true) : gd s.1 i = true := by
  unfold ost at h
  split at h
  · simp only at h
    rw [gd_set] at h
    split at h
    · cases h
    · exact h
  · exact h
theorem ost_left (s : OSt) (k i : Nat) (h : gd (ost s k).2.1 i = true) : gd s.2.1 i = true := by
  have h2 : gd (wash s.1 s.2.1 k) i = true := by
    unfold ost at h
    split at h <;> exact h
  rw [gd_wash] at h2
  split at h2
  · cases h2
  · exact h2
theorem run_can {ks : List Nat} {s : OSt} {i : Nat} (h : gd (orun ks s).1 i = true) : gd s.1 i = true := by
  induction ks generalizing s with
  | nil => exact h
  | cons k ks ih => exact ost_can s k i (ih (by rw [orun_cons] at h; exact h))
theorem run_left {ks : List Nat} {s : OSt} {i : Nat} (h : gd (orun ks s).2.1 i = true) : gd s.2.1 i = true := by
  induction ks generalizing s with
  | nil => exact h
  | cons k ks ih => exact ost_left s k i (ih (by rw [orun_cons] at h; exact h))
/-- Whoever was visited and is there still has no mark. -/
theorem run_seen {ks : List Nat} {s : OSt} {i : Nat} (hi : i ∈ ks) (h : gd (orun ks s).1 i = true) : gd (orun ks s).2.1 i = false := by
  induction ks generalizing s with
  | nil => cases hi
  | cons k ks ih =>
    rw [orun_cons] at h ⊢
    by_cases e : i ∈ ks
    · exact ih e h
    · obtain rfl : i = k := by
        rcases List.mem_cons.1 hi with e' | e'
        · exact e'
        · exact (e e').elim
      cases hm : gd (orun ks (ost s i)).2.1 i with
      | false => rfl
      | true =>
        have h1 := run_left hm
        have h2 := ost_can s i i (run_can h)
        have h3 : gd (wash s.1 s.2.1 i) i = true := by
          unfold ost at h1
          split at h1 <;> exact h1
        rw [gd_wash, if_pos ⟨rfl, h2⟩] at h3
        cases h3
/-- Whoever has no mark goes when it is visited. -/
theorem run_gone {ks : List Nat} {s : OSt} {i : Nat} (hi : i ∈ ks) (h : gd s.2.1 i = false) : gd (orun ks s).1 i = false := by
  induction ks generalizing s with
  | nil => cases hi
  | cons k ks ih =>
    rw [orun_cons]
    by_cases e : i ∈ ks
    · refine ih e ?_
      cases hm : gd (ost s k).2.1 i with
      | false => rfl
      | true => rw [ost_left s k i hm] at h; cases h
    · obtain rfl : i = k := by
        rcases List.mem_cons.1 hi with e' | e'
        · exact e'
        · exact (e e').elim
      cases hm : gd (orun ks (ost s i)).1 i with
      | false => rfl
      | true =>
        have h1 := run_can hm
        have h2 := ost_can s i i h1
        have hh : hit s.1 s.2.1 i = true := by unfold hit; rw [h2, h]; rfl
        unfold ost at h1
        rw [if_pos hh] at h1
        simp only at h1
        rw [gd_set, if_pos rfl] at h1
        cases h1
/-- Two rounds, and all have gone. -/
theorem run_drain {h n : Nat} (hh : h < n) {s : OSt} (hc : s.1.length = n) (i : Nat) : gd (orun (vis h n (2 * n)) s).1 i = false := by
  cases hm : gd (orun (vis h n (2 * n)) s).1 i with
  | false => rfl
  | true =>
    rw [vis_twice, orun_app] at hm
    have h1 := run_can hm
    have hi : i < n := by
      have := gd_lt h1
      rw [(orun_len _ s).1, hc] at this
      exact this
    have h2 := run_seen (vis_mem hh hi) h1
    rw [run_gone (vis_mem hh hi) h2] at hm
    cases hm
/-- How many can go. -/
def cnt : List Bool → Nat
  | [] => 0
  | b :: l => (if b then 1 else 0) + cnt l
theorem cnt_le (l : List Bool) : cnt l ≤ l.length := by
  induction l with
  | nil => exact Nat.le_refl _
  | cons b l ih =>
    unfold cnt
    simp only [List.length_cons]
    split <;> omega
theorem cnt_set {l : List Bool} {k : Nat} (h : gd l k = true) : cnt (l.set k false) + 1 = cnt l := by
  induction l generalizing k with
  | nil => rw [gd_out (Nat.zero_le _)] at h; cases h
  | cons b l ih =>
    cases k with
    | zero =>
      have hb : b = true := h
      subst hb
      simp [cnt]
      omega
    | succ k =>
      have h2 : gd l k = true := h
      have := ih h2
      simp only [List.set_cons_succ, cnt]
      omega
theorem cnt_none {l : List Bool} (h : ∀ i, gd l i = false) : cnt l = 0 := by
  induction l with
  | nil => rfl
  | cons b l ih =>
    have hb : b = false := h 0
    subst hb
    simp only [cnt, Bool.false_eq_true, if_false, Nat.zero_add]
    exact ih fun i => h (i + 1)
/-- What lasts on the way. -/
structure Went (c0 : List Bool) (s : OSt) : Prop where
  sub : ∀ i, gd s.1 i = true → gd c0 i = true
  gone : ∀ k ∈ s.2.2, gd s.1 k = false ∧ gd c0 k = true
  once : s.2.2.Nodup
  many : s.2.2.length + cnt s.1 = cnt c0
theorem Went.step {c0 : List Bool} {s : OSt} (h : Went c0 s) (k : Nat) : Went c0 (ost s k) := by
  unfold ost
  cases hk : hit s.1 s.2.1 k with
  | false => exact ⟨h.sub, h.gone, h.once, h.many⟩
  | true =>
    have hc : gd s.1 k = true := by unfold hit at hk; simp at hk; exact hk.1
    refine ⟨fun i hi => ?_, fun i hi => ?_, ?_, ?_⟩
    · simp only [if_true] at hi
      rw [gd_set] at hi
      split at hi
      · cases hi
      · exact h.sub i hi
    · simp only [if_true] at hi ⊢
      rw [gd_set]
      rcases List.mem_append.1 hi with e | e
      · obtain ⟨h1, h2⟩ := h.gone i e
        refine ⟨?_, h2⟩
        split
        · rfl
        · exact h1
      · simp at e
        subst e
        exact ⟨by rw [if_pos rfl], h.sub _ hc⟩
    · simp only [if_true]
      refine List.nodup_append.2 ⟨h.once, by simp, fun x hx y hy e => ?_⟩
      simp at hy
      subst hy
      subst e
      rw [(h.gone _ hx).1] at hc
      cases hc
    · simp only [if_true]
      have := cnt_set hc
      have := h.many
      simp only [List.length_append, List.length_cons, List.length_nil]
      omega
theorem Went.run {c0 : List Bool} (ks : List Nat) {s : OSt} (h : Went c0 s) : Went c0 (orun ks s) := by
  induction ks generalizing s with
  | nil => exact h
  | cons k ks ih => exact ih (h.step k)
theorem went_start (c l : List Bool) : Went c (c, l, []) := ⟨fun _ h => h, fun k h => (by cases h), by simp, by simp⟩
/-- What the order is: all that can go, each once. -/
theorem ord_went {c l : List Bool} {z : Int} {n : Nat} (hc : c.length = n) (hl : l.length = n) (hn : 0 < n) : (∀ k ∈ ordL c l z, k < n ∧ gd c k = true) ∧ (ordL c l z).Nodup ∧ (ordL c l z).length = cnt c := by
  unfold ordL
  rw [if_pos ⟨by omega, by omega⟩, hc]
  have h := (went_start c l).run (vis (hd z n) n (2 * n))
  have hd0 : cnt (orun (vis (hd z n) n (2 * n)) (c, l, [])).1 = 0 := cnt_none (run_drain (hd_lt z hn) hc)
  refine ⟨fun k hk => ⟨?_, (h.gone k hk).2⟩, h.once, ?_⟩
  · have := gd_lt (h.gone k hk).2
    omega
  · have := h.many
    omega
/-- One behind the other, by sweeps. -/
def ordD : Nat → List Bool → List Bool → Int → List Nat
  | 0, _, _, _ => []
  | f + 1, c, l, z => if (swpL c l z).1 < 0 then [] else (swpL c l z).1.toNat :: ordD f (c.set (swpL c l z).1.toNat false) (swpL c l z).2.2 (swpL c l z).2.1
theorem ordD_succ (f : Nat) (c l : List Bool) (z : Int) : ordD (f + 1) c l z = if (swpL c l z).1 < 0 then [] else (swpL c l z).1.toNat :: ordD f (c.set (swpL c l z).1.toNat false) (swpL c l z).2.2 (swpL c l z).2.1 := rfl
theorem ordD_some (f : Nat) {c l m : List Bool} {z q : Int} {k : Nat} (h : swpL c l z = ((k : Int), q, m)) : ordD (f + 1) c l z = k :: ordD f (c.set k false) m q := by
  have : ¬ ((k : Int) < 0) := by omega
  rw [ordD_succ]
  simp [h, this]
theorem ordD_none (f : Nat) {c l m : List Bool} {z q : Int} (h : swpL c l z = (-1, q, m)) : ordD (f + 1) c l z = [] := by
  rw [ordD_succ]
  simp [h]
theorem vis_split {h n m : Nat} {a b : List Nat} {k : Nat} (e : vis h n m = a ++ k :: b) : b = vis ((k + 1) % n) n b.length ∧ b.length ≤ m := by
  have hl : a.length + (b.length + 1) = m := by
    have := congrArg List.length e
    rw [vis_len] at this
    simp at this
    omega
  have e2 : vis h n m = vis h n a.length ++ ((h + a.length) % n :: vis (h + a.length + 1) n b.length) := by
    rw [← hl, vis_app, Nat.add_comm b.length 1, vis_app]
    simp [vis]
  rw [e2] at e
  obtain ⟨e3, e4⟩ := List.append_inj e (by rw [vis_len])
  injection e4 with e4 e5
  refine ⟨?_, by omega⟩
  rw [← e5, vis_len]
  have e6 : (k + 1) % n = (h + a.length + 1) % n := by rw [← e4, Nat.mod_add_mod]
  rw [e6, vis_mod]
theorem ordD_run (f : Nat) {c l : List Bool} {z : Int} {n m : Nat} (hc : c.length = n) (hl : l.length = n) (hn : 0 < n) (hm : m ≤ 2 * n) (hd0 : ∀ i, gd (orun (vis (hd z n) n m) (c, l, [])).1 i = false) (hf : cnt c < f) : ordD f c l z = (orun (vis (hd z n) n m) (c, l, [])).2.2 := by
  induction f generalizing c l z m with
  | zero => omega
  | succ f ih =>
    have hs := orun_sweep (vis (hd z n) n m) c l
    cases hq : sweepL c (vis (hd z n) n m) l with
    | mk p l' =>
      rw [hq] at hs
      cases p with
      | none =>
        simp only at hs
        rw [hs] at hd0 ⊢
        have hp : ∃ l2, sweepL c (vis (hd z n) n (2 * n)) l = (none, l2) := by
          cases hq2 : sweepL c (vis (hd z n) n (2 * n)) l with
          | mk p2 l2 =>
            cases p2 with
            | none => exact ⟨l2, rfl⟩
            | some x =>
              have := (sweep_some hq2).2.1
              rw [hd0 x] at this
              cases this
        obtain ⟨l2, hq2⟩ := hp
        exact ordD_none f (swp_yes z hc hl hn rfl hq2)
      | some k =>
        simp only at hs
        obtain ⟨a, b, h1, h2⟩ := hs
        obtain ⟨b1, b2⟩ := vis_split h1
        have hq2 := sweep_pre (vis_pre (hd z n) n hm) hq
        have hck := (sweep_some hq).2.1
        have hk : k < n := by have := gd_lt hck; omega
        rw [ordD_some f (swp_yes z hc hl hn rfl hq2), h2]
        have hlen : l'.length = n := by
          have := sweep_len c (vis (hd z n) n m) l
          rw [hq] at this
          exact this.trans hl
        have e1 : hd (((k + 1) % n : Nat) : Int) n = (k + 1) % n := by rw [hd_nat, Nat.mod_mod]
        have hb : orun b (c.set k false, l', []) = orun (vis (hd (((k + 1) % n : Nat) : Int) n) n b.length) (c.set k false, l', []) := by rw [e1, ← b1]
        have hcs := cnt_set hck
        have := ih (c := c.set k false) (l := l') (z := (((k + 1) % n : Nat) : Int)) (m := b.length) (by simp [hc]) hlen (by omega) (by rw [← hb]; rw [h2] at hd0; exact hd0) (by omega)
        rw [← hb] at this
        show k :: ordD f (c.set k false) l' (((k + 1) % n : Nat) : Int) = _
        rw [this]
/-- The document's order is the program's. -/
theorem ord_same (c l : List Bool) (z : Int) : ordD (c.length + 1) c l z = ordL c l z := by
  unfold ordL
  split
  · next h =>
    exact ordD_run _ rfl h.1.symm h.2 (Nat.le_refl _) (run_drain (hd_lt z h.2) rfl) (by have := cnt_le c; omega)
  · next h =>
    rw [ordD_succ, swp_no z h]
    simp
theorem swp_cases (c l : List Bool) (z : Int) : (swpL c l z).1 = -1 ∨ ∃ k : Nat, (swpL c l z).1 = (k : Int) ∧ k < c.length ∧ gd c k = true := by
  unfold swpL
  split
  · next h =>
    cases hq : sweepL c (vis (hd z c.length) c.length (2 * c.length)) l with
    | mk p m =>
      cases p with
      | none => exact .inl rfl
      | some k =>
        have := (sweep_some hq).2.1
        exact .inr ⟨k, rfl, gd_lt this, this⟩
  · exact .inl rfl
theorem swp_left_len (c l : List Bool) (z : Int) {k : Nat} (h : (swpL c l z).1 = (k : Int)) : (swpL c l z).2.2.length = l.length := by
  unfold swpL at h ⊢
  split
  · exact sweep_len _ _ _
  · next hh => rw [if_neg hh] at h; simp at h
end Go.Proofs.Ytmoaddbpfekdbaa
/- The cache as plain functions: frames, the line, loads, the hand. No program text. -/
namespace Go.Proofs.Ytmoaddbpfekdbaa
set_option linter.unusedSectionVars false
set_option linter.unusedVariables false
set_option linter.unusedSimpArgs false
/-- A frame: 0 free, 1 loading, 2 ready, 3 claimed. -/
structure Fra (V : Type) where
  st : Nat
  blk : Int
  pins : Int
  ref : Bool
  dirty : Bool
  node : V
  own : Int
structure Ca (V : Type) where
  fs : List (Fra V)
  line : List (Int × Int)
  loads : List (Int × Int)
  hand : Int
section
variable {V : Type} [Inhabited V]
def freeF : Fra V := ⟨0, -1, 0, false, false, default, 0⟩
def newC (n : Nat) : Ca V := ⟨List.replicate n freeF, [], [], 0⟩
def okT (t : Int) : Bool := decide (0 ≤ t) && decide (t < 8)
def okBl (b : Int) : Bool := decide (0 ≤ b) && decide (b < 256)
def isB (b : Int) (f : Fra V) : Bool := f.blk == b && (f.st == 1 || f.st == 2)
def findB (l : List (Fra V)) (b : Int) : Option Nat := l.findIdx? (isB b)
def freeI (l : List (Fra V)) : Option Nat := l.findIdx? fun f => f.st == 0
def freeN (l : List (Fra V)) : Nat := l.countP fun f => f.st == 0
def fr (l : List (Fra V)) (i : Nat) : Fra V := l.getD i freeF
def stand (l : List (Int × Int)) (t : Int) : Option (Int × Int) := l.find? fun p => p.1 == t
def leave (l : List (Int × Int)) (t : Int) : List (Int × Int) := l.filter fun p => !(p.1 == t)
def ahead (l : List (Int × Int)) (t : Int) : Bool := match l with | [] => true | p :: _ => p.1 == t
def takeI (c : Ca V) (t : Int) : Option Nat := if ahead c.line t then freeI c.fs else none
def queue (l : List (Int × Int)) (t b : Int) : List (Int × Int) := if (stand l t).isSome then l else l ++ [(t, b)]
/-- It waits, or stands for something else. -/
def busy (c : Ca V) (t b : Int) : Bool := (stand c.loads t).isSome || (match stand c.line t with | some p => !(p.2 == b) | none => false)
def pinned (f : Fra V) : Fra V := { f with pins := f.pins + 1, ref := true }
def pinC (c : Ca V) (t b : Int) : Int × Ca V :=
  if (okT t && okBl b && !busy c t b) = true then
    match findB c.fs b with
    | some i => if (fr c.fs i).st = 2 then (1, { c with fs := c.fs.modify i pinned, line := leave c.line t }) else (2, { c with fs := c.fs.modify i pinned, line := leave c.line t, loads := c.loads ++ [(t, b)] })
    | none => match takeI c t with
      | some k => (3, { c with fs := c.fs.set k ⟨1, b, 1, true, false, default, 0⟩, line := leave c.line t })
      | none => (4, { c with line := queue c.line t b })
  else (0, c)
def loadI (c : Ca V) (b : Int) : Option Nat := if okBl b = true then match findB c.fs b with | some i => if (fr c.fs i).st = 1 then some i else none | none => none else none
def fillC (c : Ca V) (b : Int) (n : V) : List Int × Bool × Ca V :=
  match loadI c b with
  | some i => ((c.loads.filter fun p => p.2 == b).map (·.1), true, { c with fs := c.fs.modify i fun f => { f with st := 2, node := n }, loads := c.loads.filter fun p => !(p.2 == b) })
  | none => ([], false, c)
/-- It may ask for a claim. -/
def unasked (c : Ca V) (t : Int) : Bool := !(stand c.loads t).isSome && (match stand c.line t with | some p => decide (p.2 < 0) | none => true)
def claimC (c : Ca V) (t : Int) : Bool × Ca V :=
  if (okT t && unasked c t) = true then
    match takeI c t with
    | some k => (true, { c with fs := c.fs.set k ⟨3, -1, 1, false, false, default, t⟩, line := leave c.line t })
    | none => (false, { c with line := queue c.line t (-1) })
  else (false, c)
def isC (t : Int) (f : Fra V) : Bool := f.st == 3 && f.own == t
def giveC (c : Ca V) (t : Int) : Nat × Ca V :=
  if okT t = true then (c.fs.countP (isC t), { c with fs := c.fs.map fun f => if isC t f = true then freeF else f }) else (0, c)
def nameC (c : Ca V) (t b : Int) (n : V) : Bool × Ca V :=
  if (okT t && okBl b && (findB c.fs b).isNone) = true then
    match c.fs.findIdx? (isC t) with
    | some k => (true, { c with fs := c.fs.set k ⟨2, b, 0, true, true, n, 0⟩ })
    | none => (false, c)
  else (false, c)
def readyI (c : Ca V) (b : Int) : Option Nat := if okBl b = true then match findB c.fs b with | some i => if (fr c.fs i).st = 2 then some i else none | none => none else none
def unpinC (c : Ca V) (b : Int) : Bool × Ca V :=
  match readyI c b with
  | some i => if (fr c.fs i).pins = 0 then (false, c) else (true, { c with fs := c.fs.modify i fun f => { f with pins := f.pins - 1 } })
  | none => (false, c)
def nodC (c : Ca V) (b : Int) : V × Bool := match readyI c b with | some i => ((fr c.fs i).node, true) | none => (default, false)
def setC (c : Ca V) (b : Int) (n : V) : Bool × Ca V :=
  match readyI c b with
  | some i => (true, { c with fs := c.fs.modify i fun f => { f with node := n, dirty := true } })
  | none => (false, c)
def canE (f : Fra V) : Bool := f.st == 2 && f.pins == 0
def canL (l : List (Fra V)) : List Bool := l.map canE
def refL (l : List (Fra V)) : List Bool := l.map (·.ref)
def reref (l : List (Fra V)) (m : List Bool) : List (Fra V) := l.zipWith (fun f b => { f with ref := b }) m
def sweepC (c : Ca V) : Int × Int × List Bool := swpL (canL c.fs) (refL c.fs) c.hand
def evictC (c : Ca V) : Option (Fra V) × Ca V :=
  if (sweepC c).1 < 0 then (none, c) else (some (fr c.fs (sweepC c).1.toNat), { c with fs := (reref c.fs (sweepC c).2.2).set (sweepC c).1.toNat freeF, hand := (sweepC c).2.1 })
def lineC (c : Ca V) : List Int := c.line.map (·.1)
def mayC (c : Ca V) (t : Int) : Bool :=
  okT t && !(stand c.loads t).isSome && (match stand c.line t with | none => true | some p => (ahead c.line t && (freeI c.fs).isSome) || (decide (0 ≤ p.2) && (findB c.fs p.2).isSome))
end
section
variable {V : Type}
/-! What lasts: a block has one frame. -/
structure GoodF (l : List (Fra V)) : Prop where
  held : ∀ (i : Nat) f, l[i]? = some f → 0 ≤ f.blk → f.st = 1 ∨ f.st = 2
  once : ∀ (i j : Nat) f g, l[i]? = some f → l[j]? = some g → i ≠ j → 0 ≤ f.blk → f.blk ≠ g.blk
/-- Frames that keep their blocks. -/
theorem GoodF.like {l m : List (Fra V)} (h : GoodF l) (k : ∀ (i : Nat) g, m[i]? = some g → 0 ≤ g.blk → ∃ f, l[i]? = some f ∧ f.blk = g.blk ∧ (f.st = 1 ∨ f.st = 2 → g.st = 1 ∨ g.st = 2)) (k2 : ∀ (i : Nat) g, m[i]? = some g → g.blk = -1 ∨ 0 ≤ g.blk ∨ g.blk < 0) : GoodF m := by
  refine ⟨fun i g hg h0 => ?_, fun i j f g hf hg hij h0 e => ?_⟩
  · obtain ⟨f, h1, h2, h3⟩ := k i g hg h0
    exact h3 (h.held i f h1 (by omega))
  · obtain ⟨f', h1, h2, _⟩ := k i f hf h0
    obtain ⟨g', h3, h4, _⟩ := k j g hg (by omega)
    exact h.once i j f' g' h1 h3 hij (by omega) (by omega)
theorem GoodF.modify {l : List (Fra V)} (h : GoodF l) (i : Nat) {q : Fra V → Fra V} (hb : ∀ f, (q f).blk = f.blk) (hs : ∀ f, (f.st = 1 ∨ f.st = 2) → ((q f).st = 1 ∨ (q f).st = 2)) : GoodF (l.modify i q) := by
  refine h.like (fun j g hg h0 => ?_) fun j g _ => by omega
  rw [List.getElem?_modify] at hg
  cases hl : l[j]? with
  | none => rw [hl] at hg; simp at hg
  | some f =>
    rw [hl] at hg
    simp at hg
    refine ⟨f, rfl, ?_, ?_⟩
    · rw [← hg]
      split
      · exact (hb f).symm
      · rfl
    · rw [← hg]
      split
      · exact hs f
      · exact id
theorem find_none {l : List (Fra V)} (h : GoodF l) {b : Int} (hb : 0 ≤ b) (hn : findB l b = none) (i : Nat) (f : Fra V) (hf : l[i]? = some f) : f.blk ≠ b := fun e => by
  have h1 := h.held i f hf (by omega)
  have h2 := List.findIdx?_eq_none_iff.1 hn f (List.mem_of_getElem? hf)
  unfold isB at h2
  simp [e] at h2
  omega
theorem GoodF.set {l : List (Fra V)} (h : GoodF l) (k : Nat) {n : Fra V} (hn : n.blk < 0 ∨ ((n.st = 1 ∨ n.st = 2) ∧ ∀ (i : Nat) f, l[i]? = some f → f.blk ≠ n.blk)) : GoodF (l.set k n) := by
  have hg : ∀ (i : Nat) f, (l.set k n)[i]? = some f → (i = k ∧ f = n) ∨ (i ≠ k ∧ l[i]? = some f) := fun i f hf => by
    rw [List.getElem?_set] at hf
    split at hf
    · next e =>
      split at hf
      · injection hf with hf; exact .inl ⟨e.symm, hf.symm⟩
      · cases hf
    · next e => exact .inr ⟨fun e2 => e e2.symm, hf⟩
  refine ⟨fun i f hf h0 => ?_, fun i j f g hf hg' hij h0 => ?_⟩
  · rcases hg i f hf with ⟨_, rfl⟩ | ⟨_, e⟩
    · rcases hn with hn | ⟨hn, _⟩
      · omega
      · exact hn
    · exact h.held i f e h0
  · rcases hg i f hf with ⟨e1, rfl⟩ | ⟨e1, e⟩ <;> rcases hg j g hg' with ⟨e2, rfl⟩ | ⟨e2, e'⟩
    · omega
    · rcases hn with hn | ⟨_, hn⟩
      · omega
      · exact fun q => hn j g e' q.symm
    · rcases hn with hn | ⟨_, hn⟩
      · omega
      · exact hn i f e
    · exact h.once i j f g e e' hij h0
theorem reref_get {l : List (Fra V)} {m : List Bool} {i : Nat} {g : Fra V} (h : (reref l m)[i]? = some g) : ∃ f, l[i]? = some f ∧ g.st = f.st ∧ g.blk = f.blk ∧ g.pins = f.pins ∧ g.dirty = f.dirty ∧ g.node = f.node ∧ g.own = f.own := by
  unfold reref at h
  rw [List.getElem?_zipWith] at h
  cases hl : l[i]? with
  | none => rw [hl] at h; simp at h
  | some f =>
    cases hm : m[i]? with
    | none => rw [hl, hm] at h; simp at h
    | some b =>
      rw [hl, hm] at h
      simp at h
      subst h
      exact ⟨f, rfl, rfl, rfl, rfl, rfl, rfl, rfl⟩
theorem good_name {c : Ca V} (h : GoodF c.fs) (t b : Int) (n : V) : GoodF (nameC c t b n).2.fs := by
  unfold nameC
  split
  · next hok =>
    have hb : 0 ≤ b := by simp [okBl] at hok; omega
    have hf : findB c.fs b = none := by simp at hok; exact hok.2
    cases c.fs.findIdx? (isC t) with
    | some k => exact h.set k (.inr ⟨.inr rfl, fun i f hl => find_none h hb hf i f hl⟩)
    | none => exact h
  · exact h
theorem len_name (c : Ca V) (t b : Int) (n : V) : (nameC c t b n).2.fs.length = c.fs.length := by
  unfold nameC
  split
  · split <;> simp
  · rfl
theorem sweep_left {c : Ca V} (h : ¬ (sweepC c).1 < 0) : (sweepC c).2.2.length = c.fs.length := by
  rcases swp_cases (canL c.fs) (refL c.fs) c.hand with h1 | ⟨k, h1, _⟩
  · exact (h (by show (sweepC c).1 < 0; have h1 : (sweepC c).1 = -1 := h1; omega)).elim
  · have := swp_left_len _ _ _ h1
    rw [show (refL c.fs).length = c.fs.length by simp [refL]] at this
    exact this
variable [Inhabited V]
theorem good_new (n : Nat) : GoodF (List.replicate n (freeF (V := V))) := by
  have h : ∀ (i : Nat) f, (List.replicate n (freeF (V := V)))[i]? = some f → f.blk = -1 := fun i f hf => by
    rw [List.getElem?_replicate] at hf
    split at hf
    · injection hf with hf; rw [← hf]; rfl
    · cases hf
  exact ⟨fun i f hf h0 => by rw [h i f hf] at h0; omega, fun i j f g hf hg _ h0 => by rw [h i f hf] at h0; omega⟩
theorem good_pin {c : Ca V} (h : GoodF c.fs) (t b : Int) : GoodF (pinC c t b).2.fs := by
  unfold pinC
  split
  · next hok =>
    have hb : 0 ≤ b := by simp [okBl] at hok; omega
    cases hf : findB c.fs b with
    | some i =>
      simp only
      split
      · exact h.modify i (fun _ => rfl) fun _ => id
      · exact h.modify i (fun _ => rfl) fun _ => id
    | none =>
      simp only
      cases takeI c t with
      | some k => exact h.set k (.inr ⟨.inl rfl, fun i f hl => find_none h hb hf i f hl⟩)
      | none => exact h
  · exact h
theorem good_fill {c : Ca V} (h : GoodF c.fs) (b : Int) (n : V) : GoodF (fillC c b n).2.2.fs := by
  unfold fillC
  cases loadI c b with
  | some i => exact h.modify i (fun _ => rfl) fun _ _ => .inr rfl
  | none => exact h
theorem good_claim {c : Ca V} (h : GoodF c.fs) (t : Int) : GoodF (claimC c t).2.fs := by
  unfold claimC
  split
  · cases takeI c t with
    | some k => exact h.set k (.inl (show (-1 : Int) < 0 by decide))
    | none => exact h
  · exact h
theorem good_unpin {c : Ca V} (h : GoodF c.fs) (b : Int) : GoodF (unpinC c b).2.fs := by
  unfold unpinC
  cases readyI c b with
  | some i =>
    simp only
    split
    · exact h
    · exact h.modify i (fun _ => rfl) fun _ => id
  | none => exact h
theorem good_set {c : Ca V} (h : GoodF c.fs) (b : Int) (n : V) : GoodF (setC c b n).2.fs := by
  unfold setC
  cases readyI c b with
  | some i => exact h.modify i (fun _ => rfl) fun _ => id
  | none => exact h
theorem good_evict {c : Ca V} (h : GoodF c.fs) : GoodF (evictC c).2.fs := by
  unfold evictC
  split
  · exact h
  · refine GoodF.set (h.like (fun i g hg h0 => ?_) fun i g _ => by omega) _ (.inl (show (-1 : Int) < 0 by decide))
    obtain ⟨f, h1, h2, h3, _⟩ := reref_get hg
    exact ⟨f, h1, h3.symm, by rw [h2]; exact id⟩
/-- What is pinned stays. -/
theorem evict_kept {c : Ca V} {i : Nat} {f g : Fra V} (hf : c.fs[i]? = some f) (hp : 0 < f.pins) (hg : (evictC c).2.fs[i]? = some g) : g.st = f.st ∧ g.blk = f.blk ∧ g.pins = f.pins := by
  unfold evictC at hg
  split at hg
  · rw [hf] at hg
    injection hg with hg
    subst hg
    exact ⟨rfl, rfl, rfl⟩
  · next hs =>
    simp only at hg
    rw [List.getElem?_set] at hg
    split at hg
    · next e =>
      exfalso
      rcases swp_cases (canL c.fs) (refL c.fs) c.hand with h1 | ⟨k, h1, h2, h3⟩
      · have h1 : (sweepC c).1 = -1 := h1
        omega
      · have h1 : (sweepC c).1 = (k : Int) := h1
        rw [h1, Int.toNat_natCast] at e
        subst e
        have h4 : gd (canL c.fs) k = canE f := gd_of (by unfold canL; rw [List.getElem?_map, hf]; rfl)
        rw [h4] at h3
        unfold canE at h3
        simp at h3
        omega
    · obtain ⟨f', h1, h2, h3, h4, _⟩ := reref_get hg
      rw [hf] at h1
      injection h1 with h1
      subst h1
      exact ⟨h2, h3, h4⟩
theorem len_pin (c : Ca V) (t b : Int) : (pinC c t b).2.fs.length = c.fs.length := by
  unfold pinC
  split
  · split
    · split <;> simp
    · split <;> simp
  · rfl
theorem len_fill (c : Ca V) (b : Int) (n : V) : (fillC c b n).2.2.fs.length = c.fs.length := by unfold fillC; split <;> simp
theorem len_claim (c : Ca V) (t : Int) : (claimC c t).2.fs.length = c.fs.length := by
  unfold claimC
  split
  · split <;> simp
  · rfl
theorem len_unpin (c : Ca V) (b : Int) : (unpinC c b).2.fs.length = c.fs.length := by
  unfold unpinC
  split
  · split <;> simp
  · rfl
theorem len_set (c : Ca V) (b : Int) (n : V) : (setC c b n).2.fs.length = c.fs.length := by unfold setC; split <;> simp
theorem len_evict (c : Ca V) : (evictC c).2.fs.length = c.fs.length := by
  unfold evictC
  split
  · rfl
  · next h =>
    have := sweep_left h
    simp [reref, this]
end
end Go.Proofs.Ytmoaddbpfekdbaa
