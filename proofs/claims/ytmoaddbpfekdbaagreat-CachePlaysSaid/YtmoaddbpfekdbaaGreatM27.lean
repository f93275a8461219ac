/- The document's cache and the plain one: they tell of a frame by whom it is where it is claimed. -/
import Derived.Test.YtmoaddbpfekdbaaGreatM23
import Derived.Test.YtmoaddbpfekdbaaGreatM16
import Derived.Test.YtmoaddbpfekdbaaGreatM11
namespace Go.Proofs.YtmoaddbpfekdbaaGreat
set_option linter.unusedVariables false
set_option linter.unusedSimpArgs false
set_option linter.unusedSectionVars false
section
variable {V : Type} [NVal V]
def nrmF (f : Fra V) : Fra V := if f.st = 3 then f else { f with own := 0 }
def nrmC (c : Ca V) : Ca V := { c with fs := c.fs.map nrmF }
omit [NVal V] in
theorem nf_same (f : Fra V) : (nrmF f).st = f.st ∧ (nrmF f).blk = f.blk ∧ (nrmF f).pins = f.pins ∧ (nrmF f).ref = f.ref ∧ (nrmF f).dirty = f.dirty ∧ (nrmF f).node = f.node := by
  unfold nrmF
  split <;> exact ⟨rfl, rfl, rfl, rfl, rfl, rfl⟩
omit [NVal V] in
theorem nf_isC (t : Int) (f : Fra V) : isC t (nrmF f) = isC t f := by
  unfold isC nrmF
  by_cases h : f.st = 3
  · rw [if_pos h]
  · have h9 : (f.st == 3) = false := by simpa using h
    rw [if_neg h]; simp [h9]
theorem nf_free : nrmF (freeF : Fra V) = freeF := rfl
omit [NVal V] in
theorem nf_find (l : List (Fra V)) (b : Int) : findB (l.map nrmF) b = findB l b := by
  unfold findB
  rw [List.findIdx?_map]
  congr 1
  funext f
  obtain ⟨h1, h2, -⟩ := nf_same f
  simp only [Function.comp, isB, h1, h2]
omit [NVal V] in
theorem nf_freeI (l : List (Fra V)) : freeI (l.map nrmF) = freeI l := by
  unfold freeI
  rw [List.findIdx?_map]
  congr 1
  funext f
  obtain ⟨h1, -⟩ := nf_same f
  simp only [Function.comp, h1]
omit [NVal V] in
theorem nf_freeN (l : List (Fra V)) : freeN (l.map nrmF) = freeN l := by
  unfold freeN
  rw [List.countP_map]
  congr 1
  funext f
  obtain ⟨h1, -⟩ := nf_same f
  simp only [Function.comp, h1]
theorem nf_fr (l : List (Fra V)) (i : Nat) : fr (l.map nrmF) i = nrmF (fr l i) := by
  unfold fr
  simp only [List.getD_eq_getElem?_getD, List.getElem?_map]
  cases l[i]? with
  | none => rfl
  | some f => rfl
theorem nf_frst (l : List (Fra V)) (i : Nat) : (fr (l.map nrmF) i).st = (fr l i).st := by rw [nf_fr]; exact (nf_same _).1
omit [NVal V] in
theorem nf_modify (l : List (Fra V)) (i : Nat) (q : Fra V → Fra V) (hq : ∀ f, l[i]? = some f → nrmF (q f) = q (nrmF f)) : (l.modify i q).map nrmF = (l.map nrmF).modify i q := by
  refine List.ext_getElem? fun j => ?_
  rw [List.getElem?_map, List.getElem?_modify, List.getElem?_modify, List.getElem?_map]
  by_cases e : i = j
  · subst e
    cases hl : l[i]? with
    | none => simp
    | some f => simp [hq f hl]
  · simp [e]
theorem nf_ready (c : Ca V) (b : Int) : readyI (nrmC c) b = readyI c b := by
  unfold readyI nrmC
  simp only [nf_find, nf_frst]
theorem nf_load (c : Ca V) (b : Int) : loadI (nrmC c) b = loadI c b := by
  unfold loadI nrmC
  simp only [nf_find, nf_frst]
theorem nf_take (c : Ca V) (t : Int) : takeI (nrmC c) t = takeI c t := by
  unfold takeI nrmC
  simp only [nf_freeI]
theorem nf_node (c : Ca V) (b : Int) : nodC (nrmC c) b = nodC c b := by
  unfold nodC
  rw [nf_ready]
  cases readyI c b with
  | none => rfl
  | some i =>
    have := (nf_same (fr c.fs i)).2.2.2.2.2
    simp only [nrmC, nf_fr, this]
theorem nf_line (c : Ca V) : lineC (nrmC c) = lineC c := rfl
theorem nf_may (c : Ca V) (t : Int) : mayC (nrmC c) t = mayC c t := by
  unfold mayC nrmC
  simp only [nf_find, nf_freeI]
theorem nf_set {c : Ca V} {b : Int} {v : V} : setC (nrmC c) b v = ((setC c b v).1, nrmC (setC c b v).2) := by
  unfold setC
  rw [nf_ready]
  cases readyI c b with
  | none => rfl
  | some i =>
    simp only [nrmC]
    rw [nf_modify _ _ _ fun f _ => by unfold nrmF; by_cases h : f.st = 3 <;> simp [h]]
theorem nf_unpin {c : Ca V} {b : Int} : unpinC (nrmC c) b = ((unpinC c b).1, nrmC (unpinC c b).2) := by
  unfold unpinC
  rw [nf_ready]
  cases readyI c b with
  | none => rfl
  | some i =>
    have h3 := (nf_same (fr c.fs i)).2.2.1
    have h9 : (fr (nrmC c).fs i).pins = (fr c.fs i).pins := by show (fr (c.fs.map nrmF) i).pins = _; rw [nf_fr, h3]
    simp only [h9]
    split
    · rfl
    · simp only [nrmC]
      rw [nf_modify _ _ _ fun f _ => by unfold nrmF; by_cases h : f.st = 3 <;> simp [h]]
theorem nf_fill {c : Ca V} {b : Int} {v : V} : fillC (nrmC c) b v = ((fillC c b v).1, (fillC c b v).2.1, nrmC (fillC c b v).2.2) := by
  unfold fillC
  rw [nf_load]
  cases hl : loadI c b with
  | none => rfl
  | some i =>
    simp only [nrmC]
    rw [nf_modify _ _ _ fun f hf => ?_]
    have h1 : f.st = 1 := by
      unfold loadI at hl
      split at hl
      · cases hq : findB c.fs b with
        | none => rw [hq] at hl; cases hl
        | some j =>
          rw [hq] at hl
          simp only at hl
          split at hl
          · rename_i h9
            injection hl with hl
            subst hl
            rw [fr_of hf] at h9
            exact h9
          · cases hl
      · cases hl
    unfold nrmF
    simp [h1]
theorem nf_claim {c : Ca V} {t : Int} : claimC (nrmC c) t = ((claimC c t).1, nrmC (claimC c t).2) := by
  unfold claimC
  have hu : unasked (nrmC c) t = unasked c t := rfl
  rw [hu, nf_take]
  split
  · cases takeI c t with
    | none => rfl
    | some i =>
      simp only [nrmC, List.map_set]
      rfl
  · rfl
theorem nf_give {c : Ca V} {t : Int} : giveC (nrmC c) t = ((giveC c t).1, nrmC (giveC c t).2) := by
  unfold giveC
  split
  · have h1 : (nrmC c).fs.countP (isC t) = c.fs.countP (isC t) := by
      show (c.fs.map nrmF).countP (isC t) = _
      rw [List.countP_map]
      congr 1
      funext f
      exact nf_isC t f
    rw [h1]
    simp only [nrmC, List.map_map]
    congr 2
    refine List.map_congr_left fun f _ => ?_
    simp only [Function.comp, nf_isC]
    split
    · rfl
    · rfl
  · rfl
theorem nf_name {c : Ca V} {t b : Int} {v : V} : nameC (nrmC c) t b v = ((nameC c t b v).1, nrmC (nameC c t b v).2) := by
  unfold nameC
  have h1 : (nrmC c).fs.findIdx? (isC t) = c.fs.findIdx? (isC t) := by
    show (c.fs.map nrmF).findIdx? (isC t) = _
    rw [List.findIdx?_map]
    congr 1
    funext f
    exact nf_isC t f
  have h2 : findB (nrmC c).fs b = findB c.fs b := nf_find c.fs b
  rw [h1, h2]
  split
  · cases c.fs.findIdx? (isC t) with
    | none => rfl
    | some i =>
      simp only [nrmC, List.map_set]
      rfl
  · rfl
theorem nf_pin {c : Ca V} {t b : Int} : pinC (nrmC c) t b = ((pinD c t b).1, nrmC (pinD c t b).2) := by
  unfold pinC pinD
  have h1 : busy (nrmC c) t b = busy c t b := rfl
  have h2 : findB (nrmC c).fs b = findB c.fs b := nf_find c.fs b
  have hm : ∀ i, (c.fs.modify i pinned).map nrmF = (c.fs.map nrmF).modify i pinned := fun i => nf_modify _ _ _ fun f _ => by unfold nrmF pinned; by_cases h : f.st = 3 <;> simp [h]
  rw [h1, h2, nf_take]
  split
  · cases findB c.fs b with
    | none =>
      cases takeI c t with
      | none => rfl
      | some i =>
        simp only [nrmC, List.map_set]
        rfl
    | some i =>
      have h3 : (fr (nrmC c).fs i).st = (fr c.fs i).st := nf_frst c.fs i
      simp only [h3]
      split
      · simp only [nrmC, hm]
      · simp only [nrmC, hm]
  · rfl
theorem nf_sweep (c : Ca V) : sweepC (nrmC c) = sweepC c := by
  unfold sweepC nrmC canL refL
  simp only [List.map_map]
  have h1 : (canE ∘ nrmF : Fra V → Bool) = canE := by
    funext f
    obtain ⟨h1, -, h3, -⟩ := nf_same f
    simp only [Function.comp, canE, h1, h3]
  have h2 : ((fun f : Fra V => f.ref) ∘ nrmF) = fun f => f.ref := by
    funext f
    exact (nf_same f).2.2.2.1
  rw [h1, h2]
theorem nf_evict {c : Ca V} : evictC (nrmC c) = ((evictC c).1.map nrmF, nrmC (evictC c).2) := by
  unfold evictC
  rw [nf_sweep]
  split
  · rfl
  · have h1 : ∀ (l : List (Fra V)) (m : List Bool), (reref l m).map nrmF = reref (l.map nrmF) m := fun l m => by
      unfold reref
      rw [List.map_zipWith, List.zipWith_map_left]
      congr 1
      funext f b
      unfold nrmF
      by_cases h : f.st = 3 <;> simp [h]
    simp only [nrmC, List.map_set, h1, nf_free, Option.map_some, nf_fr]
theorem nf_new (n : Nat) : nrmC (newC (V := V) n) = newC n := by
  unfold nrmC newC
  simp only [List.map_replicate, nf_free]
end
end Go.Proofs.YtmoaddbpfekdbaaGreat
/- What a cache comes to in so many steps: pins, the line, loads. -/
namespace Go.Proofs.YtmoaddbpfekdbaaGreat
set_option linter.unusedVariables false
set_option linter.unusedSimpArgs false
set_option linter.unusedSectionVars false
section
variable {V : Type} [NVal V]
structure Bd (c : Ca V) (n K : Nat) : Prop where
  len : c.fs.length = n
  pin : ∀ f ∈ c.fs, 0 ≤ f.pins ∧ f.pins ≤ (K : Int)
  ln : c.line.length ≤ K
  ld : c.loads.length ≤ K
theorem Bd.more {c : Ca V} {n K : Nat} (h : Bd c n K) : Bd c n (K + 1) := ⟨h.len, fun f hf => by have := h.pin f hf; omega, by have := h.ln; omega, by have := h.ld; omega⟩
theorem Bd.pins {c : Ca V} {n K : Nat} (h : Bd c n K) (hK : K ≤ 100000) : PinsOk c := fun f hf => by
  have := h.pin f hf
  omega
theorem bd_new (n : Nat) : Bd (newC (V := V) n) n 0 := ⟨by simp [newC], fun f hf => by
  unfold newC at hf
  rw [List.eq_of_mem_replicate hf]
  exact ⟨Int.le_refl _, Int.le_refl _⟩, Nat.le_refl _, Nat.le_refl _⟩
theorem bd_modify {l : List (Fra V)} {i : Nat} {q : Fra V → Fra V} {K K' : Int} (h : ∀ f ∈ l, 0 ≤ f.pins ∧ f.pins ≤ K) (hK : K ≤ K') (hq : ∀ f ∈ l, l[i]? = some f → 0 ≤ (q f).pins ∧ (q f).pins ≤ K') : ∀ f ∈ l.modify i q, 0 ≤ f.pins ∧ f.pins ≤ K' := fun f hf => by
  obtain ⟨j, hj, e⟩ := List.mem_iff_getElem.1 hf
  have e2 : (l.modify i q)[j]? = some f := by rw [List.getElem?_eq_getElem hj, e]
  rw [List.getElem?_modify] at e2
  cases hl : l[j]? with
  | none => rw [hl] at e2; simp at e2
  | some g =>
    have hg := List.mem_of_getElem? hl
    have h9 := h g hg
    rw [hl] at e2
    by_cases e3 : i = j
    · subst e3
      simp at e2
      rw [← e2]
      exact hq g hg hl
    · simp [e3] at e2
      rw [← e2]
      omega
theorem bd_set {l : List (Fra V)} {i : Nat} {x : Fra V} {K K' : Int} (h : ∀ f ∈ l, 0 ≤ f.pins ∧ f.pins ≤ K) (hK : K ≤ K') (hx : 0 ≤ x.pins ∧ x.pins ≤ K') : ∀ f ∈ l.set i x, 0 ≤ f.pins ∧ f.pins ≤ K' := fun f hf => by
  rcases List.mem_or_eq_of_mem_set hf with e | e
  · have := h f e
    omega
  · rw [e]; exact hx
theorem leave_len (l : List (Int × Int)) (t : Int) : (leave l t).length ≤ l.length := List.length_filter_le _ _
theorem queue_len (l : List (Int × Int)) (t b : Int) : (queue l t b).length ≤ l.length + 1 := by
  unfold queue
  split
  · omega
  · rw [List.length_append]; exact Nat.le_refl _
variable {c : Ca V} {n K : Nat}
theorem bd_pin (h : Bd c n K) (t b : Int) : Bd (pinD c t b).2 n (K + 1) := by
  have h1 := leave_len c.line t
  have h2 := h.ln
  have h3 := h.ld
  unfold pinD
  split
  · cases findB c.fs b with
    | none =>
      cases takeI c t with
      | none => exact ⟨h.len, h.more.pin, Nat.le_trans (queue_len _ _ _) (by omega), by simp only; omega⟩
      | some k => exact ⟨by simp only [List.length_set]; exact h.len, bd_set h.pin (by omega) ⟨by simp, by simp only; omega⟩, by simp only; omega, by simp only; omega⟩
    | some i =>
      have hp := bd_modify (i := i) (q := pinned) (K' := ((K + 1 : Nat) : Int)) h.pin (by omega) fun f hf _ => by
        have := h.pin f hf
        simp only [pinned]
        omega
      simp only
      split
      · exact ⟨by simp only [List.length_modify]; exact h.len, hp, by simp only; omega, by simp only; omega⟩
      · exact ⟨by simp only [List.length_modify]; exact h.len, hp, by simp only; omega, by simp only [List.length_append, List.length_cons, List.length_nil]; omega⟩
  · exact h.more
theorem bd_fill (h : Bd c n K) (b : Int) (v : V) : Bd (fillC c b v).2.2 n K := by
  unfold fillC
  cases loadI c b with
  | none => exact h
  | some i => exact ⟨by simp only [List.length_modify]; exact h.len, bd_modify h.pin (Int.le_refl _) fun f hf _ => h.pin f hf, h.ln, Nat.le_trans (List.length_filter_le _ _) h.ld⟩
theorem bd_claim (h : Bd c n K) (t : Int) : Bd (claimC c t).2 n (K + 1) := by
  have h1 := leave_len c.line t
  have h2 := h.ln
  have h3 := h.ld
  unfold claimC
  split
  · cases takeI c t with
    | none => exact ⟨h.len, h.more.pin, Nat.le_trans (queue_len _ _ _) (by omega), by simp only; omega⟩
    | some k => exact ⟨by simp only [List.length_set]; exact h.len, bd_set h.pin (by omega) ⟨by simp, by simp only; omega⟩, by simp only; omega, by simp only; omega⟩
  · exact h.more
theorem bd_give (h : Bd c n K) (t : Int) : Bd (giveC c t).2 n K := by
  unfold giveC
  split
  · refine ⟨by simp only [List.length_map]; exact h.len, fun f hf => ?_, h.ln, h.ld⟩
    obtain ⟨g, hg, e⟩ := List.mem_map.1 hf
    rw [← e]
    split
    · exact ⟨Int.le_refl _, by show (0 : Int) ≤ K; omega⟩
    · exact h.pin g hg
  · exact h
theorem bd_name (h : Bd c n K) (t b : Int) (v : V) : Bd (nameC c t b v).2 n K := by
  unfold nameC
  split
  · cases c.fs.findIdx? (isC t) with
    | none => exact h
    | some k => exact ⟨by simp only [List.length_set]; exact h.len, bd_set h.pin (Int.le_refl _) ⟨Int.le_refl _, by show (0 : Int) ≤ K; omega⟩, h.ln, h.ld⟩
  · exact h
theorem bd_unpin (h : Bd c n K) (b : Int) : Bd (unpinC c b).2 n K := by
  unfold unpinC
  cases hr : readyI c b with
  | none => exact h
  | some i =>
    simp only
    split
    · exact h
    · rename_i h0
      refine ⟨by simp only [List.length_modify]; exact h.len, bd_modify h.pin (Int.le_refl _) fun f hf hi => ?_, h.ln, h.ld⟩
      have := h.pin f hf
      rw [fr_of hi] at h0
      simp only
      omega
theorem bd_setC (h : Bd c n K) (b : Int) (v : V) : Bd (setC c b v).2 n K := by
  unfold setC
  cases readyI c b with
  | none => exact h
  | some i => exact ⟨by simp only [List.length_modify]; exact h.len, bd_modify h.pin (Int.le_refl _) fun f hf _ => h.pin f hf, h.ln, h.ld⟩
theorem bd_evict (h : Bd c n K) : Bd (evictC c).2 n K := by
  have h9 := len_evict c
  have h8 := h.len
  refine ⟨by omega, ?_, ?_, ?_⟩
  · unfold evictC
    split
    · exact h.pin
    · refine bd_set (K := (K : Int)) (fun f hf => ?_) (Int.le_refl _) ⟨Int.le_refl _, by show (0 : Int) ≤ K; omega⟩
      obtain ⟨j, hj⟩ := List.getElem?_of_mem hf
      obtain ⟨g, hg, _, _, e, _⟩ := reref_get hj
      rw [e]
      exact h.pin g (List.mem_of_getElem? hg)
  · unfold evictC
    split
    · exact h.ln
    · exact h.ln
  · unfold evictC
    split
    · exact h.ld
    · exact h.ld
end
end Go.Proofs.YtmoaddbpfekdbaaGreat
/- The cache, by plain functions: who loads, who waits. No program text. -/
namespace Go.Proofs.YtmoaddbpfekdbaaGreat
set_option linter.unusedSectionVars false
set_option linter.unusedVariables false
set_option linter.unusedSimpArgs false
section
variable {V : Type} [Inhabited V]
/-- Three frames, and those who want one block. -/
def ldC (b : Int) : List Int → Ca V
  | [] => newC 3
  | t :: ts => ⟨[⟨1, b, (ts.length : Int) + 1, true, false, default, 0⟩, freeF, freeF], [], ts.map fun x => (x, b), 0⟩
end
end Go.Proofs.YtmoaddbpfekdbaaGreat
/- The cache, by plain functions: the line. No program text. -/
namespace Go.Proofs.YtmoaddbpfekdbaaGreat
set_option linter.unusedSectionVars false
set_option linter.unusedVariables false
set_option linter.unusedSimpArgs false
/-- Who stands in the line from t on, and what for. -/
def want (cl : List Bool) (t : Nat) : Int := if gd cl t = true then -1 else ((10 + t : Nat) : Int)
def lnL (cl : List Bool) (t : Nat) : Nat → List (Int × Int)
  | 0 => []
  | d + 1 => ((t : Int), want cl t) :: lnL cl (t + 1) d
section
variable {V : Type} [Inhabited V]
def c7 : Fra V := ⟨3, -1, 1, false, false, default, 7⟩
/-- Two frames, one of them claimed by 7. -/
def qS (x : Fra V) (l : List (Int × Int)) (h : Int) : Ca V := ⟨[x, c7], l, [], h⟩
end
end Go.Proofs.YtmoaddbpfekdbaaGreat
/- The cache, by plain functions: who goes by the clock; claims that are named. No program text. -/
namespace Go.Proofs.YtmoaddbpfekdbaaGreat
set_option linter.unusedSectionVars false
set_option linter.unusedVariables false
set_option linter.unusedSimpArgs false
section
variable {V : Type}
/-- Six frames, each ready and not pinned: refs r. -/
def kL (n : V) (r : Nat → Bool) (p : Nat → Int) : List (Fra V) := [⟨2, 0, p 0, r 0, false, n, 0⟩, ⟨2, 1, p 1, r 1, false, n, 0⟩, ⟨2, 2, p 2, r 2, false, n, 0⟩, ⟨2, 3, p 3, r 3, false, n, 0⟩, ⟨2, 4, p 4, r 4, false, n, 0⟩, ⟨2, 5, p 5, r 5, false, n, 0⟩]
/-- What goes is its own place's block, and not dirty. -/
def Own6 (l : List (Fra V)) : Prop := ∀ (i : Nat) f, l[i]? = some f → f.st = 2 → f.blk = (i : Int) ∧ f.dirty = false
variable [Inhabited V]
/-! Six blocks, one behind the other. -/
def kRow (n : V) (b : Nat) (f : Fra V) : List (Fra V) := (List.range 6).map fun i => if i < b then ⟨2, (i : Int), 0, true, false, n, 0⟩ else if i = b then f else freeF
def kE (n : V) (b : Nat) : Ca V := ⟨kRow n b freeF, [], [], 0⟩
def kP (n : V) (b : Nat) : Ca V := ⟨kRow n b ⟨1, (b : Int), 1, true, false, default, 0⟩, [], [], 0⟩
def kQ (n : V) (b : Nat) : Ca V := ⟨kRow n b ⟨2, (b : Int), 1, true, false, n, 0⟩, [], [], 0⟩
def kS (n : V) (r : Nat → Bool) (p : Nat → Int) (h : Int) : Ca V := ⟨kL n r p, [], [], h⟩
end
end Go.Proofs.YtmoaddbpfekdbaaGreat
/- The cache, by plain functions: claims that are named; the chapter's example. No program text. -/
namespace Go.Proofs.YtmoaddbpfekdbaaGreat
set_option linter.unusedSectionVars false
set_option linter.unusedVariables false
set_option linter.unusedSimpArgs false
section
variable {V : Type} [Inhabited V]
def c3 : Fra V := ⟨3, -1, 1, false, false, default, 3⟩
def nRow (k : Nat) : List (Fra V) := (List.range 6).map fun i => if i < k then c3 else freeF
def nS (k : Nat) : Ca V := ⟨nRow k, [], [], 0⟩
/-- The first claimed frame is a block's now. -/
def nN (k : Nat) (a : Int) (x : V) : Ca V := ⟨⟨2, a, 0, true, true, x, 0⟩ :: (nRow k).tail, [], [], 0⟩
def nE (k : Nat) : Ca V := ⟨freeF :: (nRow k).tail, [], [], 1⟩
end
section
variable {V : Type}
/-! The chapter's example: one frame. -/
def aS (f : Fra V) (l d : List (Int × Int)) : Ca V := ⟨[f], l, d, 0⟩
theorem a_may2 (n : V) : mayC (aS ⟨2, 5, 2, true, false, n, 0⟩ [(2, 6)] []) 2 = false := rfl
theorem a_may1 (n : V) : mayC (aS ⟨2, 5, 2, true, false, n, 0⟩ [(2, 6)] []) 1 = true := rfl
theorem a_free (n : V) : freeN (aS ⟨2, 5, 2, true, false, n, 0⟩ [(2, 6)] []).fs = 0 := rfl
variable [Inhabited V]
theorem a_new : newC (V := V) 1 = aS freeF [] [] := rfl
theorem a_pin0 : pinC (aS (V := V) freeF [] []) 0 5 = (3, aS ⟨1, 5, 1, true, false, default, 0⟩ [] []) := rfl
theorem a_pin1 : pinC (aS (V := V) ⟨1, 5, 1, true, false, default, 0⟩ [] []) 1 5 = (2, aS ⟨1, 5, 2, true, false, default, 0⟩ [] [(1, 5)]) := rfl
theorem a_pin2 : pinC (aS (V := V) ⟨1, 5, 2, true, false, default, 0⟩ [] [(1, 5)]) 2 6 = (4, aS ⟨1, 5, 2, true, false, default, 0⟩ [(2, 6)] [(1, 5)]) := rfl
theorem a_claim : claimC (aS (V := V) ⟨1, 5, 2, true, false, default, 0⟩ [(2, 6)] [(1, 5)]) 2 = (false, aS ⟨1, 5, 2, true, false, default, 0⟩ [(2, 6)] [(1, 5)]) := rfl
theorem a_fill (n : V) : fillC (aS ⟨1, 5, 2, true, false, default, 0⟩ [(2, 6)] [(1, 5)]) 5 n = ([1], true, aS ⟨2, 5, 2, true, false, n, 0⟩ [(2, 6)] []) := rfl
theorem a_node (n : V) : nodC (aS ⟨2, 5, 2, true, false, n, 0⟩ [(2, 6)] []) 5 = (n, true) := rfl
theorem a_evict (n : V) : evictC (aS ⟨2, 5, 2, true, false, n, 0⟩ [(2, 6)] []) = (none, aS ⟨2, 5, 2, true, false, n, 0⟩ [(2, 6)] []) := by
  have h : sweepC (aS (V := V) ⟨2, 5, 2, true, false, n, 0⟩ [(2, 6)] []) = (-1, 0, [true]) := by
    show swpL [false] [true] 0 = _
    decide
  unfold evictC
  rw [h]
  rfl
end
end Go.Proofs.YtmoaddbpfekdbaaGreat
/- A node's value as the cache holds it. (Written without a seat: not built yet.) -/
namespace Go.Proofs.YtmoaddbpfekdbaaGreat
set_option linter.unusedSectionVars false
theorem nv_one16 (v : NV) : One v.cells := .cons rfl (.cons rfl (.cons rfl (.cons rfl (.cons rfl .nil))))
instance : NVal NV where
  toInhabited := ⟨zeroNV⟩
  nc := NV.cells
  len _ := rfl
  one := nv_one16
  zero := rfl
end Go.Proofs.YtmoaddbpfekdbaaGreat
