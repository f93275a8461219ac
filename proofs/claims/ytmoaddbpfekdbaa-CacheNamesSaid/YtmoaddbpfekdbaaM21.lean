/- The cache, by plain functions: the line. No program text. -/
import Derived.Test.YtmoaddbpfekdbaaM20
import Derived.Test.YtmoaddbpfekdbaaM11
import Derived.Test.YtmoaddbpfekdbaaM19
namespace Go.Proofs.Ytmoaddbpfekdbaa
set_option linter.unusedSectionVars false
set_option linter.unusedVariables false
set_option linter.unusedSimpArgs false
theorem leave_none {l : List (Int × Int)} {t : Int} (h : stand l t = none) : leave l t = l := by
  unfold stand at h
  unfold leave
  rw [List.find?_eq_none] at h
  exact List.filter_eq_self.2 fun p hp => by simpa using h p hp
/-- Who stands in the line from t on, and what for. -/
def want (cl : List Bool) (t : Nat) : Int := if gd cl t = true then -1 else ((10 + t : Nat) : Int)
def lnL (cl : List Bool) (t : Nat) : Nat → List (Int × Int)
  | 0 => []
  | d + 1 => ((t : Int), want cl t) :: lnL cl (t + 1) d
theorem lnL_len (cl : List Bool) (t d : Nat) : (lnL cl t d).length = d := by
  induction d generalizing t with
  | zero => rfl
  | succ d ih => simp [lnL, ih]
theorem lnL_snoc (cl : List Bool) (t d : Nat) : lnL cl t (d + 1) = lnL cl t d ++ [(((t + d : Nat) : Int), want cl (t + d))] := by
  induction d generalizing t with
  | zero => rfl
  | succ d ih =>
    rw [lnL, ih, lnL]
    simp
    rw [show t + 1 + d = t + (d + 1) by omega]
    exact ⟨by omega, rfl⟩
theorem stand_ln (cl : List Bool) (t d s : Nat) (tl : List (Int × Int)) : stand (lnL cl t d ++ tl) (s : Int) = if t ≤ s ∧ s < t + d then some ((s : Int), want cl s) else stand tl (s : Int) := by
  induction d generalizing t with
  | zero => rw [if_neg (by omega)]; rfl
  | succ d ih =>
    rw [lnL, List.cons_append]
    unfold stand
    rw [List.find?_cons]
    by_cases e : t = s
    · subst e
      simp
    · have e2 : (((t : Int), want cl t).1 == (s : Int)) = false := by simp; omega
      rw [e2]
      have := ih (t + 1)
      unfold stand at this
      simp only
      rw [this]
      by_cases h : t ≤ s ∧ s < t + (d + 1)
      · rw [if_pos h, if_pos (by omega)]
      · rw [if_neg h, if_neg (by omega)]
section
variable {V : Type} [Inhabited V]
def c7 : Fra V := ⟨3, -1, 1, false, false, default, 7⟩
/-- Two frames, one of them claimed by 7. -/
def qS (x : Fra V) (l : List (Int × Int)) (h : Int) : Ca V := ⟨[x, c7], l, [], h⟩
theorem q_freeI (l : List (Int × Int)) (h : Int) : freeI (qS (V := V) freeF l h).fs = some 0 := by simp [freeI, qS, freeF, List.findIdx?_cons]
theorem q_freeN (l : List (Int × Int)) (h : Int) : freeN (qS (V := V) freeF l h).fs = 1 := by simp [freeN, qS, freeF, c7, List.countP_cons]
theorem q_noneI {x : Fra V} (hx : x.st ≠ 0) (l : List (Int × Int)) (h : Int) : freeI (qS x l h).fs = none := by
  simp [freeI, qS, c7, List.findIdx?_cons, hx]
theorem q_find {x : Fra V} {b : Int} (hb : x.blk ≠ b) (l : List (Int × Int)) (h : Int) : findB (qS x l h).fs b = none := by
  simp [findB, isB, qS, c7, List.findIdx?_cons, hb]
theorem q_find0 {x : Fra V} {b : Int} (hb : x.blk = b) (hs : x.st = 1 ∨ x.st = 2) (l : List (Int × Int)) (h : Int) : findB (qS x l h).fs b = some 0 := by
  rcases hs with hs | hs <;> simp [findB, isB, qS, c7, List.findIdx?_cons, hb, hs]
/-- No frame is free: it stands in the line. -/
theorem q_pin4 {x : Fra V} {l : List (Int × Int)} {h t b : Int} (hx : x.st ≠ 0) (hb : x.blk ≠ b) (ht : 0 ≤ t ∧ t < 8) (hb2 : 0 ≤ b ∧ b < 256) (hl : stand l t = none) : pinC (qS x l h) t b = (4, qS x (l ++ [(t, b)]) h) := by
  have h1 : busy (qS x l h) t b = false := by
    show (match stand l t with | some p => !(p.2 == b) | none => false) = false
    rw [hl]
  have h3 : takeI (qS x l h) t = none := by
    unfold takeI
    rw [q_noneI hx]
    split <;> rfl
  unfold pinC
  rw [okT_of ht, okBl_of hb2, h1, q_find hb, h3]
  simp [qS, queue, hl]
theorem q_claim0 {x : Fra V} {l : List (Int × Int)} {h t : Int} (hx : x.st ≠ 0) (ht : 0 ≤ t ∧ t < 8) (hl : stand l t = none) : claimC (qS x l h) t = (false, qS x (l ++ [(t, -1)]) h) := by
  have h1 : unasked (qS x l h) t = true := by
    show (match stand l t with | some p => decide (p.2 < 0) | none => true) = true
    rw [hl]
  have h3 : takeI (qS x l h) t = none := by
    unfold takeI
    rw [q_noneI hx]
    split <;> rfl
  unfold claimC
  rw [okT_of ht, h1, h3]
  simp [qS, queue, hl]
/-- A frame is free, but somebody else is first. -/
theorem q_pin6 {l : List (Int × Int)} {h t b : Int} (ht : 0 ≤ t ∧ t < 8) (hb2 : 0 ≤ b ∧ b < 256) (ha : ahead l t = false) (hl : stand l t = none ∨ stand l t = some (t, b)) : pinC (qS (V := V) freeF l h) t b = (4, qS freeF (queue l t b) h) := by
  have h1 : busy (qS (V := V) freeF l h) t b = false := by
    show (match stand l t with | some p => !(p.2 == b) | none => false) = false
    rcases hl with e | e <;> rw [e]
    simp
  have h2 : findB (qS (V := V) freeF l h).fs b = none := q_find (by simp [freeF]; omega) l h
  unfold pinC
  rw [okT_of ht, okBl_of hb2, h1, h2]
  have h3 : takeI (qS (V := V) freeF l h) t = none := by simp [takeI, qS, ha]
  simp [h3]
  rfl
/-- The first one takes the frame. -/
theorem q_pin3 {l : List (Int × Int)} {h t b : Int} (ht : 0 ≤ t ∧ t < 8) (hb2 : 0 ≤ b ∧ b < 256) : pinC (qS (V := V) freeF ((t, b) :: l) h) t b = (3, qS ⟨1, b, 1, true, false, default, 0⟩ (leave l t) h) := by
  have h1 : busy (qS (V := V) freeF ((t, b) :: l) h) t b = false := by simp [busy, qS, stand]
  have h2 : findB (qS (V := V) freeF ((t, b) :: l) h).fs b = none := q_find (by simp [freeF]; omega) _ h
  have h3 : takeI (qS (V := V) freeF ((t, b) :: l) h) t = some 0 := by
    unfold takeI
    rw [q_freeI]
    simp [qS, ahead]
  unfold pinC
  rw [okT_of ht, okBl_of hb2, h1, h2, h3]
  simp [qS, leave]
theorem q_claim1 {l : List (Int × Int)} {h t : Int} (ht : 0 ≤ t ∧ t < 8) : claimC (qS (V := V) freeF ((t, -1) :: l) h) t = (true, qS ⟨3, -1, 1, false, false, default, t⟩ (leave l t) h) := by
  have h1 : unasked (qS (V := V) freeF ((t, -1) :: l) h) t = true := by simp [unasked, qS, stand]
  have h3 : takeI (qS (V := V) freeF ((t, -1) :: l) h) t = some 0 := by
    unfold takeI
    rw [q_freeI]
    simp [qS, ahead]
  unfold claimC
  rw [okT_of ht, h1, h3]
  simp [qS, leave]
theorem q_may1 {l : List (Int × Int)} {h t w : Int} (ht : 0 ≤ t ∧ t < 8) : mayC (qS (V := V) freeF ((t, w) :: l) h) t = true := by
  unfold mayC
  rw [okT_of ht, q_freeI]
  simp [qS, stand, ahead]
theorem q_may2 {l : List (Int × Int)} {h t w : Int} (hs : stand l t = some (t, w)) (ha : ahead l t = false) (hw : w ≠ -1) : mayC (qS (V := V) freeF l h) t = false := by
  have h2 : findB (qS (V := V) freeF l h).fs w = none := q_find (fun e => hw e.symm) _ h
  unfold mayC
  show (okT t && true && (match stand l t with | none => true | some p => (ahead l t && (freeI (qS (V := V) freeF l h).fs).isSome) || (decide (0 ≤ p.2) && (findB (qS (V := V) freeF l h).fs p.2).isSome))) = false
  rw [hs]
  simp only
  rw [h2, ha]
  simp
theorem q_may3 {l : List (Int × Int)} {h t : Int} (hs : stand l t = some (t, -1)) (ha : ahead l t = false) : mayC (qS (V := V) freeF l h) t = false := by
  unfold mayC
  show (okT t && true && (match stand l t with | none => true | some p => (ahead l t && (freeI (qS (V := V) freeF l h).fs).isSome) || (decide (0 ≤ p.2) && (findB (qS (V := V) freeF l h).fs p.2).isSome))) = false
  rw [hs, ha]
  simp
/-- Filled, and let go. -/
theorem q_fill {b : Int} {l : List (Int × Int)} {h : Int} (hb : 0 ≤ b ∧ b < 256) (n : V) : fillC (qS ⟨1, b, 1, true, false, default, 0⟩ l h) b n = ([], true, qS ⟨2, b, 1, true, false, n, 0⟩ l h) := by
  have h1 : findB (qS (V := V) ⟨1, b, 1, true, false, default, 0⟩ l h).fs b = some 0 := q_find0 rfl (.inl rfl) l h
  have h2 : loadI (qS (V := V) ⟨1, b, 1, true, false, default, 0⟩ l h) b = some 0 := by
    unfold loadI
    rw [okBl_of hb, h1]
    simp [qS, fr]
  unfold fillC
  rw [h2]
  simp [qS, List.modify]
theorem q_unpin {b : Int} {l : List (Int × Int)} {h : Int} (hb : 0 ≤ b ∧ b < 256) (n : V) : unpinC (qS ⟨2, b, 1, true, false, n, 0⟩ l h) b = (true, qS ⟨2, b, 0, true, false, n, 0⟩ l h) := by
  have h1 : findB (qS (V := V) ⟨2, b, 1, true, false, n, 0⟩ l h).fs b = some 0 := q_find0 rfl (.inr rfl) l h
  have h2 : readyI (qS (V := V) ⟨2, b, 1, true, false, n, 0⟩ l h) b = some 0 := by
    unfold readyI
    rw [okBl_of hb, h1]
    simp [qS, fr]
  unfold unpinC
  rw [h2]
  simp [qS, fr, List.modify]
theorem q_evict {b h : Int} {l : List (Int × Int)} (hh : h = 0 ∨ h = 1) (n : V) : evictC (qS ⟨2, b, 0, true, false, n, 0⟩ l h) = (some ⟨2, b, 0, true, false, n, 0⟩, qS freeF l 1) := by
  have h1 : sweepC (qS (V := V) ⟨2, b, 0, true, false, n, 0⟩ l h) = (0, 1, [false, false]) := by
    have e1 : canL (qS (V := V) ⟨2, b, 0, true, false, n, 0⟩ l h).fs = [true, false] := by simp [canL, canE, qS, c7]
    have e2 : refL (qS (V := V) ⟨2, b, 0, true, false, n, 0⟩ l h).fs = [true, false] := by simp [refL, qS, c7]
    unfold sweepC
    rw [e1, e2]
    rcases hh with rfl | rfl
    · show swpL [true, false] [true, false] 0 = _
      decide
    · show swpL [true, false] [true, false] 1 = _
      decide
  unfold evictC
  rw [h1]
  simp [qS, fr, reref, c7]
theorem q_give {t h : Int} {l : List (Int × Int)} (ht : 0 ≤ t ∧ t < 7) : giveC (qS (V := V) ⟨3, -1, 1, false, false, default, t⟩ l h) t = (1, qS freeF l h) := by
  have h7 : ¬ (7 : Int) = t := by omega
  unfold giveC
  rw [okT_of (by omega)]
  simp [qS, isC, c7, List.countP_cons, h7]
theorem q_set1 : pinC (newC (V := V) 2) 7 100 = (3, ⟨[⟨1, 100, 1, true, false, default, 0⟩, freeF], [], [], 0⟩) := rfl
theorem q_set2 : claimC (V := V) ⟨[⟨1, 100, 1, true, false, default, 0⟩, freeF], [], [], 0⟩ 7 = (true, qS ⟨1, 100, 1, true, false, default, 0⟩ [] 0) := rfl
end
theorem ahead_ln (cl : List Bool) (t d : Nat) (tl : List (Int × Int)) (s : Nat) : ahead (lnL cl t (d + 1) ++ tl) (s : Int) = decide (t = s) := by
  show ((t : Int) == (s : Int)) = decide (t = s)
  by_cases e : t = s
  · subst e; simp
  · rw [decide_eq_false e]; simp; omega
theorem stand6 (cl : List Bool) {t d : Nat} (h : t + d ≤ 6) : stand (lnL cl t d ++ [(6, 200)]) 6 = some (6, 200) ∧ stand (lnL cl t d) 6 = none := by
  have h1 := stand_ln cl t d 6 [(6, 200)]
  have h2 := stand_ln cl t d 6 []
  rw [if_neg (by omega)] at h1 h2
  rw [List.append_nil] at h2
  exact ⟨h1, h2⟩
theorem queue6 (cl : List Bool) {t d : Nat} (h : t + d ≤ 6) : queue (lnL cl t d) 6 200 = lnL cl t d ++ [(6, 200)] ∧ queue (lnL cl t d ++ [(6, 200)]) 6 200 = lnL cl t d ++ [(6, 200)] := by
  obtain ⟨h1, h2⟩ := stand6 cl h
  unfold queue
  rw [h1, h2]
  exact ⟨rfl, rfl⟩
end Go.Proofs.Ytmoaddbpfekdbaa
/- The cache, by plain functions: who goes by the clock; claims that are named. No program text. -/
namespace Go.Proofs.Ytmoaddbpfekdbaa
set_option linter.unusedSectionVars false
set_option linter.unusedVariables false
set_option linter.unusedSimpArgs false
section
variable {V : Type}
/-- Six frames, each ready and not pinned: refs r. -/
def kL (n : V) (r : Nat → Bool) (p : Nat → Int) : List (Fra V) := [⟨2, 0, p 0, r 0, false, n, 0⟩, ⟨2, 1, p 1, r 1, false, n, 0⟩, ⟨2, 2, p 2, r 2, false, n, 0⟩, ⟨2, 3, p 3, r 3, false, n, 0⟩, ⟨2, 4, p 4, r 4, false, n, 0⟩, ⟨2, 5, p 5, r 5, false, n, 0⟩]
/-- What goes is its own place's block, and not dirty. -/
def Own6 (l : List (Fra V)) : Prop := ∀ (i : Nat) f, l[i]? = some f → f.st = 2 → f.blk = (i : Int) ∧ f.dirty = false
theorem own6_k (n : V) (r : Nat → Bool) (p : Nat → Int) : Own6 (kL n r p) := fun i f hf hs => by
  match i with
  | 0 | 1 | 2 | 3 | 4 | 5 => injection hf with hf; subst hf; exact ⟨rfl, rfl⟩
  | i + 6 => simp [kL] at hf
theorem free_reref (l : List (Fra V)) (m : List Bool) (h : m.length = l.length) : freeN (reref l m) = freeN l := by
  induction l generalizing m with
  | nil => cases m <;> rfl
  | cons x l ih =>
    cases m with
    | nil => simp at h
    | cons b m =>
      have := ih m (by simpa using h)
      simp only [freeN, reref, List.zipWith_cons_cons, List.countP_cons] at this ⊢
      omega
theorem can_reref (l : List (Fra V)) (m : List Bool) (h : m.length = l.length) : canL (reref l m) = canL l := by
  induction l generalizing m with
  | nil => cases m <;> rfl
  | cons x l ih =>
    cases m with
    | nil => simp at h
    | cons b m =>
      have := ih m (by simpa using h)
      simp only [canL, reref, List.zipWith_cons_cons, List.map_cons] at this ⊢
      rw [this]
      rfl
theorem ref_reref (l : List (Fra V)) (m : List Bool) (h : m.length = l.length) : refL (reref l m) = m := by
  induction l generalizing m with
  | nil =>
    cases m with
    | nil => rfl
    | cons b m => simp at h
  | cons x l ih =>
    cases m with
    | nil => simp at h
    | cons b m =>
      have := ih m (by simpa using h)
      simp only [refL, reref, List.zipWith_cons_cons, List.map_cons] at this ⊢
      rw [this]
variable [Inhabited V]
/-! Six blocks, one behind the other. -/
def kRow (n : V) (b : Nat) (f : Fra V) : List (Fra V) := (List.range 6).map fun i => if i < b then ⟨2, (i : Int), 0, true, false, n, 0⟩ else if i = b then f else freeF
def kE (n : V) (b : Nat) : Ca V := ⟨kRow n b freeF, [], [], 0⟩
def kP (n : V) (b : Nat) : Ca V := ⟨kRow n b ⟨1, (b : Int), 1, true, false, default, 0⟩, [], [], 0⟩
def kQ (n : V) (b : Nat) : Ca V := ⟨kRow n b ⟨2, (b : Int), 1, true, false, n, 0⟩, [], [], 0⟩
theorem k_new (n : V) : newC 6 = kE n 0 := rfl
theorem k_pin1 (n : V) {b : Nat} (hb : b < 6) : pinC (kE n b) 0 b = (3, kP n b) := by
  match b, hb with
  | 0, _ => rfl
  | 1, _ => rfl
  | 2, _ => rfl
  | 3, _ => rfl
  | 4, _ => rfl
  | 5, _ => rfl
theorem k_fill1 (n : V) {b : Nat} (hb : b < 6) : fillC (kP n b) b n = ([], true, kQ n b) := by
  match b, hb with
  | 0, _ => rfl
  | 1, _ => rfl
  | 2, _ => rfl
  | 3, _ => rfl
  | 4, _ => rfl
  | 5, _ => rfl
theorem k_let1 (n : V) {b : Nat} (hb : b < 6) : unpinC (kQ n b) b = (true, kE n (b + 1)) := by
  match b, hb with
  | 0, _ => rfl
  | 1, _ => rfl
  | 2, _ => rfl
  | 3, _ => rfl
  | 4, _ => rfl
  | 5, _ => rfl
def kS (n : V) (r : Nat → Bool) (p : Nat → Int) (h : Int) : Ca V := ⟨kL n r p, [], [], h⟩
theorem k_evict0 (n : V) : evictC (kS n (fun _ => true) (fun _ => 0) 0) = (some ⟨2, 0, 0, true, false, n, 0⟩, ⟨freeF :: (kL n (fun _ => false) (fun _ => 0)).tail, [], [], 1⟩) := by
  have h : sweepC (kS n (fun _ => true) (fun _ => 0) 0) = (0, 1, [false, false, false, false, false, false]) := by
    show swpL [true, true, true, true, true, true] [true, true, true, true, true, true] 0 = _
    decide
  unfold evictC
  rw [h]
  rfl
theorem k_again (n : V) : pinC (V := V) ⟨freeF :: (kL n (fun _ => false) (fun _ => 0)).tail, [], [], 1⟩ 0 0 = (3, ⟨⟨1, 0, 1, true, false, default, 0⟩ :: (kL n (fun _ => false) (fun _ => 0)).tail, [], [], 1⟩) := rfl
theorem k_fill (n : V) : fillC (V := V) ⟨⟨1, 0, 1, true, false, default, 0⟩ :: (kL n (fun _ => false) (fun _ => 0)).tail, [], [], 1⟩ 0 n = ([], true, kS n (fun i => i == 0) (fun i => if i = 0 then 1 else 0) 1) := rfl
theorem k_let (n : V) : unpinC (kS n (fun i => i == 0) (fun i => if i = 0 then 1 else 0) 1) 0 = (true, kS n (fun i => i == 0) (fun _ => 0) 1) := rfl
theorem k_pin (n : V) (r : Nat → Bool) (h : Int) {t : Int} (ht : 0 ≤ t ∧ t < 8) {b : Nat} (hb : b < 6) : pinC (kS n r (fun _ => 0) h) t b = (1, kS n (fun i => if i = b then true else r i) (fun i => if i = b then 1 else 0) h) := by
  unfold pinC
  rw [okT_of ht, okBl_of (b := (b : Int)) (by omega)]
  match b, hb with
  | 0, _ => rfl
  | 1, _ => rfl
  | 2, _ => rfl
  | 3, _ => rfl
  | 4, _ => rfl
  | 5, _ => rfl
theorem k_unpin (n : V) (r : Nat → Bool) (h : Int) {b : Nat} (hb : b < 6) : unpinC (kS n r (fun i => if i = b then 1 else 0) h) b = (true, kS n r (fun _ => 0) h) := by
  match b, hb with
  | 0, _ => rfl
  | 1, _ => rfl
  | 2, _ => rfl
  | 3, _ => rfl
  | 4, _ => rfl
  | 5, _ => rfl
theorem free_set {l : List (Fra V)} {k : Nat} {f : Fra V} (hf : l[k]? = some f) (hs : f.st ≠ 0) : freeN (l.set k freeF) = freeN l + 1 := by
  induction l generalizing k with
  | nil => simp at hf
  | cons x l ih =>
    cases k with
    | zero =>
      simp at hf
      subst hf
      simp [freeN, List.countP_cons, freeF, hs]
    | succ k =>
      simp at hf
      have := ih hf
      simp only [freeN, List.set_cons_succ, List.countP_cons] at this ⊢
      omega
theorem swp_gone (c l : List Bool) (z : Int) {k : Nat} (h : (swpL c l z).1 = (k : Int)) : gd (swpL c l z).2.2 k = false := by
  unfold swpL at h ⊢
  split
  · next hh =>
    rw [if_pos hh] at h
    cases hq : sweepL c (vis (hd z c.length) c.length (2 * c.length)) l with
    | mk p m =>
      rw [hq] at h
      cases p with
      | none => simp [place] at h
      | some x =>
        simp [place] at h
        have e : x = k := by omega
        subst e
        exact (sweep_some hq).2.2
  · rfl
/-- One goes. -/
theorem ev_step {c : Ca V} {m k : Nat} {rest : List Nat} (ho : Own6 c.fs) (hq : ordD (m + 1) (canL c.fs) (refL c.fs) c.hand = k :: rest) :
    ∃ f c', evictC c = (some f, c') ∧ f.blk = (k : Int) ∧ f.dirty = false ∧ f.pins = 0 ∧ Own6 c'.fs ∧ ordD m (canL c'.fs) (refL c'.fs) c'.hand = rest ∧ freeN c'.fs = freeN c.fs + 1 ∧ c'.fs.length = c.fs.length := by
  rcases swp_cases (canL c.fs) (refL c.fs) c.hand with h1 | ⟨x, h1, h2, h3⟩
  · rw [ordD_succ, if_pos (by rw [h1]; decide)] at hq
    cases hq
  · have hs : sweepC c = ((x : Int), (swpL (canL c.fs) (refL c.fs) c.hand).2.1, (swpL (canL c.fs) (refL c.fs) c.hand).2.2) := by
      unfold sweepC
      rw [← h1]
    rw [ordD_some m (show swpL (canL c.fs) (refL c.fs) c.hand = ((x : Int), (swpL (canL c.fs) (refL c.fs) c.hand).2.1, (swpL (canL c.fs) (refL c.fs) c.hand).2.2) by rw [← h1])] at hq
    injection hq with e1 e2
    subst e1
    have hll : (swpL (canL c.fs) (refL c.fs) c.hand).2.2.length = c.fs.length := by rw [swp_left_len _ _ _ h1]; simp [refL]
    have hg := swp_gone _ _ _ h1
    have hx : x < c.fs.length := by simpa [canL] using h2
    have hf : c.fs[x]? = some c.fs[x] := List.getElem?_eq_getElem hx
    have hce : canE c.fs[x] = true := by
      have h4 : gd (canL c.fs) x = canE c.fs[x] := gd_of (by unfold canL; rw [List.getElem?_map, hf]; rfl)
      rw [← h4]; exact h3
    have hst : c.fs[x].st = 2 ∧ c.fs[x].pins = 0 := by unfold canE at hce; simp at hce; exact hce
    obtain ⟨o1, o2⟩ := ho x _ hf hst.1
    generalize hm : (swpL (canL c.fs) (refL c.fs) c.hand).2.2 = lf at *
    generalize hn : (swpL (canL c.fs) (refL c.fs) c.hand).2.1 = nx at *
    have hev : evictC c = (some c.fs[x], { c with fs := (reref c.fs lf).set x freeF, hand := nx }) := by
      unfold evictC
      rw [hs]
      have : ¬ ((x : Int) < 0) := by omega
      simp only [this, if_false, Int.toNat_natCast]
      have e : fr c.fs x = c.fs[x] := by
        unfold fr
        rw [List.getD_eq_getElem?_getD, hf]
        rfl
      rw [e]
    refine ⟨_, _, hev, o1, o2, hst.2, fun i f hi hsi => ?_, ?_, ?_, ?_⟩
    · simp only at hi
      rw [List.getElem?_set] at hi
      split at hi
      · split at hi
        · injection hi with hi; rw [← hi] at hsi; cases hsi
        · cases hi
      · obtain ⟨f', q1, q2, q3, q4, q5, _⟩ := reref_get hi
        obtain ⟨p1, p2⟩ := ho i f' q1 (by rw [← q2]; exact hsi)
        exact ⟨by rw [q3]; exact p1, by rw [q5]; exact p2⟩
    · simp only
      have c1 : canL ((reref c.fs lf).set x freeF) = (canL c.fs).set x false := by
        rw [← can_reref c.fs lf hll]
        unfold canL
        rw [List.map_set]
        rfl
      have c2 : refL ((reref c.fs lf).set x freeF) = lf := by
        unfold refL
        rw [List.map_set]
        have := ref_reref c.fs lf hll
        unfold refL at this
        rw [this]
        exact set_same hg
      rw [c1, c2]
      exact e2
    · simp only
      have hr : ∃ f, (reref c.fs lf)[x]? = some f ∧ f.st ≠ 0 := by
        have hl2 : x < (reref c.fs lf).length := by simp [reref, hll]; exact hx
        refine ⟨(reref c.fs lf)[x], List.getElem?_eq_getElem hl2, ?_⟩
        obtain ⟨f', q1, q2, _⟩ := reref_get (List.getElem?_eq_getElem hl2)
        rw [hf] at q1
        injection q1 with q1
        rw [q2, ← q1, hst.1]
        decide
      obtain ⟨f, r1, r2⟩ := hr
      rw [free_set r1 r2, free_reref _ _ hll]
    · simp [reref, hll]
theorem ev_end {c : Ca V} {m : Nat} (hq : ordD (m + 1) (canL c.fs) (refL c.fs) c.hand = []) : evictC c = (none, c) := by
  rcases swp_cases (canL c.fs) (refL c.fs) c.hand with h1 | ⟨x, h1, h2, h3⟩
  · unfold evictC
    rw [if_pos (by show (sweepC c).1 < 0; have h1 : (sweepC c).1 = -1 := h1; omega)]
  · rw [ordD_some m (show swpL (canL c.fs) (refL c.fs) c.hand = ((x : Int), (swpL (canL c.fs) (refL c.fs) c.hand).2.1, (swpL (canL c.fs) (refL c.fs) c.hand).2.2) by rw [← h1])] at hq
    cases hq
end
end Go.Proofs.Ytmoaddbpfekdbaa
/- The cache, by plain functions: claims that are named; the chapter's example. No program text. -/
namespace Go.Proofs.Ytmoaddbpfekdbaa
set_option linter.unusedSectionVars false
set_option linter.unusedVariables false
set_option linter.unusedSimpArgs false
section
variable {V : Type} [Inhabited V]
def c3 : Fra V := ⟨3, -1, 1, false, false, default, 3⟩
def nRow (k : Nat) : List (Fra V) := (List.range 6).map fun i => if i < k then c3 else freeF
def nS (k : Nat) : Ca V := ⟨nRow k, [], [], 0⟩
theorem n_new : newC (V := V) 6 = nS 0 := rfl
theorem n_claim {k : Nat} (hk : k < 6) : claimC (nS (V := V) k) 3 = (true, nS (k + 1)) := by
  match k, hk with
  | 0, _ => rfl
  | 1, _ => rfl
  | 2, _ => rfl
  | 3, _ => rfl
  | 4, _ => rfl
  | 5, _ => rfl
theorem n_free {k : Nat} (hk : k ≤ 6) : freeN (nS (V := V) k).fs = 6 - k := by
  match k, hk with
  | 0, _ => rfl
  | 1, _ => rfl
  | 2, _ => rfl
  | 3, _ => rfl
  | 4, _ => rfl
  | 5, _ => rfl
  | 6, _ => rfl
theorem n_name2 (n : V) {k : Nat} (hk : k ≤ 6) : nameC (nS k) 2 9 n = (false, nS k) := by
  match k, hk with
  | 0, _ => rfl
  | 1, _ => rfl
  | 2, _ => rfl
  | 3, _ => rfl
  | 4, _ => rfl
  | 5, _ => rfl
  | 6, _ => rfl
theorem n_give {k : Nat} (hk : k ≤ 6) : giveC (nS (V := V) k) 3 = (k, nS 0) := by
  match k, hk with
  | 0, _ => rfl
  | 1, _ => rfl
  | 2, _ => rfl
  | 3, _ => rfl
  | 4, _ => rfl
  | 5, _ => rfl
  | 6, _ => rfl
theorem n_name3 (n : V) : nameC (nS 0) 3 9 n = (false, nS 0) := rfl
/-- The first claimed frame is a block's now. -/
def nN (k : Nat) (a : Int) (x : V) : Ca V := ⟨⟨2, a, 0, true, true, x, 0⟩ :: (nRow k).tail, [], [], 0⟩
def nE (k : Nat) : Ca V := ⟨freeF :: (nRow k).tail, [], [], 1⟩
theorem n_no {k : Nat} {a : Int} (ha : 0 ≤ a) : findB (nRow (V := V) k) a = none := by
  unfold findB
  rw [List.findIdx?_eq_none_iff]
  intro f hf
  unfold nRow at hf
  obtain ⟨i, _, rfl⟩ := List.mem_map.1 hf
  have h1 : ¬ (-1 : Int) = a := by omega
  split <;> simp [isB, c3, freeF, h1]
theorem n_name {k : Nat} (hk : 1 ≤ k ∧ k ≤ 6) {a : Int} (ha : 0 ≤ a ∧ a < 256) (x : V) : nameC (nS k) 3 a x = (true, nN k a x) := by
  have h1 : findB (nS (V := V) k).fs a = none := n_no ha.1
  unfold nameC
  rw [okBl_of ha, h1]
  match k, hk with
  | 1, _ => rfl
  | 2, _ => rfl
  | 3, _ => rfl
  | 4, _ => rfl
  | 5, _ => rfl
  | 6, _ => rfl
theorem n_has (k : Nat) (a : Int) (x : V) : findB (nN k a x).fs a = some 0 := by
  simp [findB, isB, nN, List.findIdx?_cons]
theorem n_again (k : Nat) (a : Int) (x y : V) : nameC (nN k a x) 3 a y = (false, nN k a x) := by
  unfold nameC
  rw [n_has]
  simp
theorem n_evict {k : Nat} (hk : 1 ≤ k ∧ k ≤ 6) (a : Int) (x : V) : evictC (nN k a x) = (some ⟨2, a, 0, true, true, x, 0⟩, nE k) := by
  have h : sweepC (nN k a x) = (0, 1, [false, false, false, false, false, false]) := by
    have e : sweepC (nN k a x) = swpL [true, false, false, false, false, false] [true, false, false, false, false, false] 0 := by
      match k, hk with
      | 1, _ => rfl
      | 2, _ => rfl
      | 3, _ => rfl
      | 4, _ => rfl
      | 5, _ => rfl
      | 6, _ => rfl
    rw [e]
    decide
  unfold evictC
  rw [h]
  match k, hk with
  | 1, _ => rfl
  | 2, _ => rfl
  | 3, _ => rfl
  | 4, _ => rfl
  | 5, _ => rfl
  | 6, _ => rfl
theorem n_give2 {k : Nat} (hk : 1 ≤ k ∧ k ≤ 6) : (giveC (nE (V := V) k) 3).1 = k - 1 := by
  match k, hk with
  | 1, _ => rfl
  | 2, _ => rfl
  | 3, _ => rfl
  | 4, _ => rfl
  | 5, _ => rfl
  | 6, _ => rfl
end
section
variable {V : Type}
/-! The chapter's example: one frame. -/
def aS (f : Fra V) (l d : List (Int × Int)) : Ca V := ⟨[f], l, d, 0⟩
theorem a_may2 (n : V) : mayC (aS ⟨2, 5, 2, true, false, n, 0⟩ [(2, 6)] []) 2 = false := rfl
theorem a_may1 (n : V) : mayC (aS ⟨2, 5, 2, true, false, n, 0⟩ [(2, 6)] []) 1 = true := rfl
theorem a_free (n : V) : freeN (aS ⟨2, 5, 2, true, false, n, 0⟩ [(2, 6)] []).fs = 0 := rfl
variable [Inhabited V]
theorem a_new : newC (V := V) 1 = aS freeF [] [] := rfl
theorem a_pin0 : pinC (aS (V := V) freeF [] []) 0 5 = (3, aS ⟨1, 5, 1, true, false, default, 0⟩ [] []) := rfl
theorem a_pin1 : pinC (aS (V := V) ⟨1, 5, 1, true, false, default, 0⟩ [] []) 1 5 = (2, aS ⟨1, 5, 2, true, false, default, 0⟩ [] [(1, 5)]) := rfl
theorem a_pin2 : pinC (aS (V := V) ⟨1, 5, 2, true, false, default, 0⟩ [] [(1, 5)]) 2 6 = (4, aS ⟨1, 5, 2, true, false, default, 0⟩ [(2, 6)] [(1, 5)]) := rfl
theorem a_claim : claimC (aS (V := V) ⟨1, 5, 2, true, false, default, 0⟩ [(2, 6)] [(1, 5)]) 2 = (false, aS ⟨1, 5, 2, true, false, default, 0⟩ [(2, 6)] [(1, 5)]) := rfl
theorem a_fill (n : V) : fillC (aS ⟨1, 5, 2, true, false, default, 0⟩ [(2, 6)] [(1, 5)]) 5 n = ([1], true, aS ⟨2, 5, 2, true, false, n, 0⟩ [(2, 6)] []) := rfl
theorem a_node (n : V) : nodC (aS ⟨2, 5, 2, true, false, n, 0⟩ [(2, 6)] []) 5 = (n, true) := rfl
theorem a_evict (n : V) : evictC (aS ⟨2, 5, 2, true, false, n, 0⟩ [(2, 6)] []) = (none, aS ⟨2, 5, 2, true, false, n, 0⟩ [(2, 6)] []) := by
  have h : sweepC (aS (V := V) ⟨2, 5, 2, true, false, n, 0⟩ [(2, 6)] []) = (-1, 0, [true]) := by
    show swpL [false] [true] 0 = _
    decide
  unfold evictC
  rw [h]
  rfl
end
end Go.Proofs.Ytmoaddbpfekdbaa
/- A node's value as the cache holds it. (Written without a seat: not built yet.) -/
namespace Go.Proofs.Ytmoaddbpfekdbaa
set_option linter.unusedSectionVars false
theorem nv_one16 (v : NV) : One v.cells := .cons rfl (.cons rfl (.cons rfl (.cons rfl (.cons rfl .nil))))
instance : NVal NV where
  toInhabited := ⟨zeroNV⟩
  nc := NV.cells
  len _ := rfl
  one := nv_one16
  zero := rfl
end Go.Proofs.Ytmoaddbpfekdbaa
/- The document's cache: New. -/
namespace Go.Proofs.Ytmoaddbpfekdbaa
set_option linter.unusedSectionVars false
set_option linter.unusedVariables false
set_option linter.unusedSimpArgs false
set_option maxRecDepth 100000
open Go.RowKit
section
variable {V : Type} [NVal V]
def zeroF : Fra V := ⟨0, 0, 0, false, false, default, 0⟩
def made (n j : Nat) : List (Fra V) := List.replicate j freeF ++ List.replicate (n - j) zeroF
end
end Go.Proofs.Ytmoaddbpfekdbaa
