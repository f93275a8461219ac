/- The program's cache as the laws use it: nodes, bounds, what lasts, all in one. -/
import Derived.Test.YtmoaddbpfekdbaaM31
import Derived.Test.YtmoaddbpfekdbaaM32
import Derived.Test.YtmoaddbpfekdbaaM36
import Derived.Test.YtmoaddbpfekdbaaM37
import Derived.Test.YtmoaddbpfekdbaaM38
import Derived.Test.YtmoaddbpfekdbaaM20
namespace Go.Proofs.Ytmoaddbpfekdbaa
set_option linter.unusedVariables false
set_option linter.unusedSimpArgs false
set_option linter.unusedSectionVars false
set_option maxRecDepth 100000
open Go.RowKit
theorem bd_pinC {V : Type} [NVal V] {c : Ca V} {n K : Nat} (h : Bd c n K) (t b : Int) : Bd (pinC c t b).2 n (K + 1) := by
  have h1 := leave_len c.line t
  have h2 := h.ln
  have h3 := h.ld
  unfold pinC
  split
  · cases findB c.fs b with
    | none =>
      cases takeI c t with
      | none => exact ⟨h.len, h.more.pin, Nat.le_trans (queue_len _ _ _) (by omega), by simp only; omega⟩
      | some k => exact ⟨by simp only [List.length_set]; exact h.len, bd_set h.pin (by omega) ⟨by simp, by simp only; omega⟩, by simp only; omega, by simp only; omega⟩
    | some i =>
      have hp := bd_modify (i := i) (q := pinned) (K' := ((K + 1 : Nat) : Int)) h.pin (by omega) fun f hf _ => by
        have := h.pin f hf
        simp only [pinned]
        omega
      simp only
      split
      · exact ⟨by simp only [List.length_modify]; exact h.len, hp, by simp only; omega, by simp only; omega⟩
      · exact ⟨by simp only [List.length_modify]; exact h.len, hp, by simp only; omega, by simp only [List.length_append, List.length_cons, List.length_nil]; omega⟩
  · exact h.more
/-- A cache of n frames in memory, K steps old. -/
structure PN (w : World) (g : Nat) (h : PH) (n K : Nat) (t : Ca NX) : Prop where
  pc : PC w g h K t
  pi : PI t
  nod : ∀ f ∈ t.fs, NP w (fun b => ¬ PHX g h b) f.node.v f.node.n
  bd : Bd t n K
  hnd : 0 ≤ t.hand ∧ t.hand < (n : Int)
  sm : 1 ≤ n ∧ n ≤ 64
def PNT (w w' : World) (g : Nat) (h : PH) (n K : Nat) (t : Ca NX) : Prop :=
  ∃ h', PN w' g h' n K t ∧ Chg (PHX g h) w w' ∧ ∀ k, PHX g h' k → PHX g h k ∨ w.heap.size ≤ k
theorem NP.turn {w W : World} {g : Nat} {h h' : PH} {v : NV} {n : RN} (k : NP w (fun b => ¬ PHX g h b) v n) (c : Chg (PHX g h) w W) (a : ∀ i, PHX g h' i → PHX g h i ∨ w.heap.size ≤ i) : NP W (fun b => ¬ PHX g h' b) v n := by
  have k2 := k.weak (ok' := fun b => ¬ PHX g h b ∧ ¬ PHX g h' b) fun b hb hn => ⟨hn, fun e => by
    rcases a b e with e | e
    · exact hn e
    · omega⟩
  exact (k2.chg c fun b hb => hb.1).weak fun b _ hb => hb.2
/-- Whose nodes the frames hold. -/
def NodIn (l l' : List (Fra NX)) : Prop := ∀ f ∈ l', (∃ f0 ∈ l, f.node = f0.node) ∨ f.node = default
theorem nod_same (l : List (Fra NX)) : NodIn l l := fun f hf => .inl ⟨f, hf, rfl⟩
theorem nod_modify {l : List (Fra NX)} {i : Nat} {q : Fra NX → Fra NX} (hq : ∀ f, (q f).node = f.node) : NodIn l (l.modify i q) := fun f hf => by
  obtain ⟨j, e2⟩ := List.mem_iff_getElem?.1 hf
  rw [List.getElem?_modify] at e2
  cases hl : l[j]? with
  | none => rw [hl] at e2; simp at e2
  | some x =>
    rw [hl] at e2
    refine .inl ⟨x, List.mem_of_getElem? hl, ?_⟩
    by_cases e3 : i = j
    · simp [e3] at e2
      rw [← e2, hq]
    · simp [e3] at e2
      rw [← e2]
theorem nod_set {l : List (Fra NX)} {i : Nat} {x : Fra NX} (hx : x.node = default) : NodIn l (l.set i x) := fun f hf => by
  rcases List.mem_or_eq_of_mem_set hf with e | e
  · exact .inl ⟨f, e, rfl⟩
  · exact .inr (by rw [e]; exact hx)
theorem nod_pin (t : Ca NX) (x b : Int) : NodIn t.fs (pinC t x b).2.fs := by
  unfold pinC
  split
  · cases findB t.fs b with
    | some i =>
      simp only
      split <;> exact nod_modify fun _ => rfl
    | none =>
      cases takeI t x with
      | some k => exact nod_set rfl
      | none => exact nod_same _
  · exact nod_same _
theorem nod_claim (t : Ca NX) (x : Int) : NodIn t.fs (claimC t x).2.fs := by
  unfold claimC
  split
  · cases takeI t x with
    | some k => exact nod_set rfl
    | none => exact nod_same _
  · exact nod_same _
theorem nod_give (t : Ca NX) (x : Int) : NodIn t.fs (giveC t x).2.fs := by
  unfold giveC
  split
  · intro f hf
    obtain ⟨f0, h1, h2⟩ := List.mem_map.1 hf
    split at h2
    · exact .inr (by rw [← h2]; rfl)
    · exact .inl ⟨f0, h1, by rw [← h2]⟩
  · exact nod_same _
theorem nod_unpin (t : Ca NX) (x : Int) : NodIn t.fs (unpinC t x).2.fs := by
  unfold unpinC
  cases readyI t x with
  | none => exact nod_same _
  | some i =>
    simp only
    split
    · exact nod_same _
    · exact nod_modify fun _ => rfl
theorem nod_evict (t : Ca NX) : NodIn t.fs (evictC t).2.fs := by
  unfold evictC
  split
  · exact nod_same _
  · intro f hf
    rcases List.mem_or_eq_of_mem_set hf with e | e
    · obtain ⟨j, hj⟩ := List.mem_iff_getElem?.1 e
      obtain ⟨f0, h1, -, -, -, -, h2, -⟩ := reref_get hj
      exact .inl ⟨f0, List.mem_of_getElem? h1, h2⟩
    · exact .inr (by rw [e]; rfl)
section
variable {w W : World} {g n K : Nat} {h : PH} {t u : Ca NX}
theorem PN.fr (k : PN w g h n K t) (f : Fr w W) : PN W g h n K t := ⟨k.pc.fr f, k.pi, fun x hx => (k.nod x hx).fr f, k.bd, k.hnd, k.sm⟩
theorem PN.chg {X : Nat → Prop} (k : PN w g h n K t) (f : Chg X w W) (hx : ∀ i, PHX g h i → ¬ X i) (hy : ∀ x ∈ t.fs, ∃ ok : Nat → Prop, NP w ok x.node.v x.node.n ∧ ∀ b, ok b → ¬ X b ∧ ¬ PHX g h b) : PN W g h n K t :=
  ⟨k.pc.chg f hx, k.pi, fun x hm => by obtain ⟨ok, h1, h2⟩ := hy x hm; exact (h1.chg f fun b hb => (h2 b hb).1).weak fun b _ hb => (h2 b hb).2, k.bd, k.hnd, k.sm⟩
theorem PNT.same (k : PN w g h n K t) (f : Fr w W) : PNT w W g h n K t := ⟨h, k.fr f, .of_fr _ f, fun i hi => .inl hi⟩
theorem Bd.many {c : Ca NX} {n K K' : Nat} (h : Bd c n K) (hk : K ≤ K') : Bd c n K' := ⟨h.len, fun f hf => by have := h.pin f hf; omega, by have := h.ln; omega, by have := h.ld; omega⟩
theorem PN.more (k : PN w g h n K t) {K' : Nat} (hk : K ≤ K') : PN w g h n K' t := ⟨k.pc.more hk, k.pi, k.nod, k.bd.many hk, k.hnd, k.sm⟩
theorem PNT.of {K' : Nat} (k : PN w g h n K t) (p : PTurn w W (PHX g h) g K' u) (h1 : PI u) (h2 : NodIn t.fs u.fs) (h3 : Bd u n K') (h4 : 0 ≤ u.hand ∧ u.hand < (n : Int)) : PNT w W g h n K' u := by
  obtain ⟨h', a1, a2, a3⟩ := p
  refine ⟨h', ⟨a1, h1, fun f hf => ?_, h3, h4, k.sm⟩, a2, a3⟩
  rcases h2 f hf with ⟨f0, e1, e2⟩ | e
  · rw [e2]; exact (k.nod f0 e1).turn a2 a3
  · rw [e]; exact zeroN_np
/-- One node more. -/
theorem PNT.ofV {K' : Nat} {c : Bool} {v : NX} (k : PN w g h n K t) (p : PTurnV w W (PHX g h) g K' u c v) (h1 : PI u) (h2 : ∀ f ∈ u.fs, ((∃ f0 ∈ t.fs, f.node = f0.node) ∨ f.node = default) ∨ (c = true ∧ f.node = v)) (h3 : Bd u n K') (h4 : 0 ≤ u.hand ∧ u.hand < (n : Int)) : PNT w W g h n K' u := by
  obtain ⟨h', a1, a2, a3, a4⟩ := p
  refine ⟨h', ⟨a1, h1, fun f hf => ?_, h3, h4, k.sm⟩, a2, a3⟩
  rcases h2 f hf with (⟨f0, e1, e2⟩ | e) | ⟨e1, e2⟩
  · rw [e2]; exact (k.nod f0 e1).turn a2 a3
  · rw [e]; exact zeroN_np
  · rw [e2]; exact a4 e1
theorem PN.len (k : PN w g h n K t) : t.fs.length ≤ 100000 := by have := k.bd.len; have := k.sm.2; omega
theorem PN.ln (k : PN w g h n K t) (hK : K ≤ 1000) : t.line.length ≤ 100000 := by have := k.bd.ln; omega
theorem PN.ld (k : PN w g h n K t) (hK : K ≤ 1000) : t.loads.length ≤ 100000 := by have := k.bd.ld; omega
theorem PN.pos (k : PN w g h n K t) : 0 < t.fs.length := by have := k.bd.len; have := k.sm.1; omega
theorem l_pin (k : PN w g h n K t) (hK : K ≤ 1000) (x b : Int) :
    Calls Try.prog 12 #[.pointer (some ⟨g, 0, none⟩), .int .i64 x, .int .i64 b] w fun e w' => e = .returned (.int .i64 (pinC t x b).1) ∧ Hid (PNT w w' g h n (K + 1) (pinC t x b).2) := by
  refine (ppin_at x b k.pc k.pi k.len (k.ln hK) (k.ld hK) (k.bd.pins (by omega)) (by omega)).mono ?_
  rintro e w' ⟨rfl, H⟩
  refine ⟨rfl, keep (.of k H.out (pi_pin k.pi x b) (nod_pin t x b) (bd_pinC k.bd x b) ?_)⟩
  have e : (pinC t x b).2.hand = t.hand := by
    unfold pinC
    split
    · cases findB t.fs b with
      | some i => simp only; split <;> rfl
      | none => cases takeI t x <;> rfl
    · rfl
  rw [e]; exact k.hnd
theorem l_claim (k : PN w g h n K t) (hK : K ≤ 1000) (x : Int) :
    Calls Try.prog 14 #[.pointer (some ⟨g, 0, none⟩), .int .i64 x] w fun e w' => e = .returned (.bool (claimC t x).1) ∧ Hid (PNT w w' g h n (K + 1) (claimC t x).2) := by
  refine (pclaim_at x k.pc k.pi k.len (k.ln hK) (k.ld hK)).mono ?_
  rintro e w' ⟨rfl, H⟩
  refine ⟨rfl, keep (.of k (H.out.more (Nat.le_succ K)) (pi_claim k.pi x) (nod_claim t x) (bd_claim k.bd x) ?_)⟩
  have e : (claimC t x).2.hand = t.hand := by
    unfold claimC
    split
    · cases takeI t x <;> rfl
    · rfl
  rw [e]; exact k.hnd
theorem l_give (k : PN w g h n K t) (x : Int) :
    Calls Try.prog 25 #[.pointer (some ⟨g, 0, none⟩), .int .i64 x] w fun e w' => e = .returned (.int .i64 ((giveC t x).1 : Nat)) ∧ Hid (PNT w w' g h n (K + 1) (giveC t x).2) := by
  refine (pgive_at x k.pc k.pi k.len).mono ?_
  rintro e w' ⟨rfl, H⟩
  refine ⟨rfl, keep (.of k (H.out.more (Nat.le_succ K)) (pi_give k.pi x) (nod_give t x) ((bd_give k.bd x).more) ?_)⟩
  have e : (giveC t x).2.hand = t.hand := by unfold giveC; split <;> rfl
  rw [e]; exact k.hnd
theorem l_unpin (k : PN w g h n K t) (hK : K ≤ 1000) (x : Int) (hx : W64 x) :
    Calls Try.prog 16 #[.pointer (some ⟨g, 0, none⟩), .int .i64 x] w fun e w' => e = .returned (.bool (unpinC t x).1) ∧ Hid (PNT w w' g h n (K + 1) (unpinC t x).2) := by
  refine (punpin_at x hx k.pc k.pi k.len (k.bd.pins (by omega))).mono ?_
  rintro e w' ⟨rfl, H⟩
  refine ⟨rfl, keep (.of k (H.out.more (Nat.le_succ K)) (pi_unpin k.pi x) (nod_unpin t x) ((bd_unpin k.bd x).more) ?_)⟩
  have e : (unpinC t x).2.hand = t.hand := by
    unfold unpinC
    cases readyI t x with
    | none => rfl
    | some i => simp only; split <;> rfl
  rw [e]; exact k.hnd
theorem l_evict (k : PN w g h n K t) :
    Calls Try.prog 18 #[.pointer (some ⟨g, 0, none⟩)] w fun e w' => e = .returned (evP (evictC t).1) ∧ Hid (PNT w w' g h n (K + 1) (evictC t).2) := by
  have hh : 0 ≤ t.hand ∧ t.hand < (t.fs.length : Int) := by rw [k.bd.len]; exact k.hnd
  refine (pevict_at k.pc k.pi k.len k.pos hh).mono ?_
  rintro e w' ⟨rfl, H⟩
  have hp : PTurn w w' (PHX g h) g (K + 1) (evictC t).2 := ⟨h, H.out.1.more (Nat.le_succ K), H.out.2, fun i hi => .inl hi⟩
  refine ⟨rfl, keep (.of k hp (pi_evict k.pi) (nod_evict t) ((bd_evict k.bd).more) ?_)⟩
  unfold evictC
  split
  · exact k.hnd
  · have := swp_hand (c := canL t.fs) (l := refL t.fs) (z := t.hand) (by simp [canL, refL]) (by simp [canL]; exact k.pos)
    have e : (canL t.fs).length = n := by simp [canL]; exact k.bd.len
    rw [e] at this
    exact this
theorem mem_mod {l : List (Fra NX)} {i : Nat} {q : Fra NX → Fra NX} {v : NX} (hq : ∀ f, (q f).node = v) : ∀ f ∈ l.modify i q, ((∃ f0 ∈ l, f.node = f0.node) ∨ f.node = default) ∨ (true = true ∧ f.node = v) := fun f hf => by
  obtain ⟨j, e2⟩ := List.mem_iff_getElem?.1 hf
  rw [List.getElem?_modify] at e2
  cases hl : l[j]? with
  | none => rw [hl] at e2; simp at e2
  | some x =>
    rw [hl] at e2
    by_cases e3 : i = j
    · simp [e3] at e2
      exact .inr ⟨rfl, by rw [← e2, hq]⟩
    · simp [e3] at e2
      exact .inl (.inl ⟨x, List.mem_of_getElem? hl, by rw [← e2]⟩)
theorem l_set {ok : Nat → Prop} (k : PN w g h n K t) (x : Int) (hx : W64 x) (v : NX) (hv : NP w ok v.v v.n) :
    Calls Try.prog 17 #[.pointer (some ⟨g, 0, none⟩), .int .i64 x, nv v.v] w fun e w' => ∃ v' : NX, v'.n = v.n ∧ e = .returned (.bool (setC t x v').1) ∧ Hid (PNT w w' g h n (K + 1) (setC t x v').2) := by
  refine (pset_at x v hx k.pc k.pi hv).mono ?_
  rintro e w' ⟨v', h1, rfl, H⟩
  refine ⟨v', h1, rfl, keep ?_⟩
  obtain ⟨h', a1, a2, a3, a4⟩ := H.out
  refine PNT.ofV k (c := (readyI t x).isSome) ⟨h', a1.more (Nat.le_succ K), a2, a3, a4⟩ (pi_setC k.pi x v') ?_ ((bd_setC k.bd x v').more) ?_
  · unfold setC
    cases readyI t x with
    | none => exact fun f hf => .inl (nod_same _ f hf)
    | some i => exact mem_mod fun _ => rfl
  · have e : (setC t x v').2.hand = t.hand := by unfold setC; cases readyI t x <;> rfl
    rw [e]; exact k.hnd
theorem l_name {ok : Nat → Prop} (k : PN w g h n K t) (hK : K ≤ 1000) (x b : Int) (hx : W64 x) (hb : W64 b) (v : NX) (hv : NP w ok v.v v.n) :
    Calls Try.prog 15 #[.pointer (some ⟨g, 0, none⟩), .int .i64 x, .int .i64 b, nv v.v] w fun e w' => ∃ v' : NX, v'.n = v.n ∧ e = .returned (.bool (nameC t x b v').1) ∧ Hid (PNT w w' g h n (K + 1) (nameC t x b v').2) := by
  refine (pname_at x b v hx hb k.pc k.pi k.len (by omega) hv).mono ?_
  rintro e w' ⟨v', h1, rfl, H⟩
  refine ⟨v', h1, rfl, keep (PNT.ofV k H.out (pi_name k.pi x b v') ?_ ((bd_name k.bd x b v').more) ?_)⟩
  · unfold nameC
    split
    · cases t.fs.findIdx? (isC x) with
      | none => exact fun f hf => .inl (nod_same _ f hf)
      | some i =>
        intro f hf
        rcases List.mem_or_eq_of_mem_set hf with e | e
        · exact .inl (.inl ⟨f, e, rfl⟩)
        · exact .inr ⟨rfl, by rw [e]⟩
    · exact fun f hf => .inl (nod_same _ f hf)
  · have e : (nameC t x b v').2.hand = t.hand := by
      unfold nameC
      split
      · cases t.fs.findIdx? (isC x) <;> rfl
      · rfl
    rw [e]; exact k.hnd
theorem l_fill {ok : Nat → Prop} (k : PN w g h n K t) (hK : K ≤ 1000) (x : Int) (hx : W64 x) (v : NX) (hv : NP w ok v.v v.n) :
    Calls Try.prog 13 #[.pointer (some ⟨g, 0, none⟩), .int .i64 x, nv v.v] w fun e w' => ∃ (v' : NX) (O : Option Addr) (m c : Nat), v'.n = v.n ∧ e = .returned (.tuple #[.slice O m c, .bool (fillC t x v').2.1]) ∧ Hid (ResI w w' O m c (fillC t x v').1 ∧ PNT w w' g h n (K + 1) (fillC t x v').2.2) := by
  cases hl : loadI t x with
  | none =>
    refine (pfill_no x v hx k.pc k.pi hl).mono ?_
    rintro e w' ⟨rfl, f⟩
    have e : fillC t x v = ([], false, t) := by unfold fillC; rw [hl]
    exact ⟨v, none, 0, 0, rfl, by rw [e], keep (by rw [e]; exact ⟨⟨Rw.nil _ _ _, rfl, fun k hk => by cases hk⟩, .same (k.more (Nat.le_succ K)) f⟩)⟩
  | some i =>
    refine (pfill_yes x v hx k.pc k.pi (k.ld hK) hv hl).mono ?_
    rintro e w' ⟨v', O, m, c, h1, rfl, H⟩
    have e : fillC t x v' = (waitL t.loads x, true, { t with fs := t.fs.modify i fun f => { f with st := 2, node := v' }, loads := restL t.loads x }) := by unfold fillC; rw [hl]; rfl
    refine ⟨v', O, m, c, h1, by rw [e], keep ?_⟩
    have hpi := pi_fill k.pi x v'
    have hbd := bd_fill k.bd x v'
    rw [e] at hpi hbd ⊢
    obtain ⟨a0, h', a1, a2, a3, a4⟩ := H.out
    exact ⟨a0, PNT.ofV k (c := true) ⟨h', a1.more (Nat.le_succ K), a2, a3, a4⟩ hpi (mem_mod fun _ => rfl) hbd.more k.hnd⟩
theorem l_node (k : PN w g h n K t) (x : Int) (hx : W64 x) :
    Calls Try.prog 30 #[.pointer (some ⟨g, 0, none⟩), .int .i64 x] w fun e w' => ∃ v' : NV, e = .returned (.tuple #[nv v', .bool (nodC t x).2]) ∧ Hid (NP w' (fun _ => True) v' (nodC t x).1.n) ∧ Fr w w' := pnode_at x hx k.pc k.pi k.nod
theorem l_free (k : PN w g h n K t) : Calls Try.prog 23 #[.pointer (some ⟨g, 0, none⟩)] w fun e w' => e = .returned (.int .i64 (freeN t.fs : Nat)) ∧ Fr w w' := pfreen_at k.pc k.len
theorem l_line (k : PN w g h n K t) (hK : K ≤ 1000) : Calls Try.prog 24 #[.pointer (some ⟨g, 0, none⟩)] w fun e w' => ∃ O c, e = .returned (.slice O t.line.length c) ∧ Hid (ResI w w' O t.line.length c (lineC t) ∧ Fr w w') := pline_at k.pc (k.ln hK)
theorem l_may (k : PN w g h n K t) (hK : K ≤ 1000) (x : Int) : Calls Try.prog 21 #[.pointer (some ⟨g, 0, none⟩), .int .i64 x] w fun e w' => e = .returned (.bool (mayC t x)) ∧ Fr w w' := pmay_at x k.pc k.pi k.len (k.ln hK) (k.ld hK)
theorem l_frames (k : PN w g h n K t) : Calls Try.prog 10 #[.pointer (some ⟨g, 0, none⟩)] w fun e w' => ∃ (O : Option Addr) (c : Nat) (l' : List (Fra NX)), e = .returned (.slice O n c) ∧ Hid (TellF w w' O n c l' t.fs ∧ Fr w w') := by
  have := pframes_at k.pc k.len k.nod
  rw [k.bd.len] at this
  exact this
theorem l_new (w : World) (n : Nat) (h1 : 1 ≤ n) (h2 : n ≤ 64) : Calls Try.prog 8 #[.int .i64 n] w fun e w' => ∃ g, e = .returned (.tuple #[.pointer (some ⟨g, 0, none⟩), .int .i64 0]) ∧ Hid ((∃ h, PN w' g h n 0 (newC n : Ca NX) ∧ ∀ k, PHX g h k → w.heap.size ≤ k) ∧ Fr w w') := by
  refine (pnew_yes w n h1 h2).mono ?_
  rintro e w' ⟨g, rfl, H⟩
  obtain ⟨⟨h, a1, a2⟩, a3⟩ := H.out
  exact ⟨g, rfl, keep ⟨⟨h, ⟨a1, pi_new n, fun f hf => by rw [List.eq_of_mem_replicate (show f ∈ List.replicate n freeF from hf)]; exact zeroN_np, bd_new n, ⟨Int.le_refl _, by show (0 : Int) < n; omega⟩, h1, h2⟩, a2⟩, a3⟩⟩
end
end Go.Proofs.Ytmoaddbpfekdbaa
