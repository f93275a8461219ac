/- The program's cache as the laws use it: nodes, bounds, what lasts, all in one. -/
import Derived.Test.YtmoaddbpfekdbaaGreatM39
import Derived.Test.YtmoaddbpfekdbaaGreatM40
import Derived.Test.YtmoaddbpfekdbaaGreatM42
import Derived.Test.YtmoaddbpfekdbaaGreatM43
import Derived.Test.YtmoaddbpfekdbaaGreatM35
import Derived.Test.YtmoaddbpfekdbaaGreatM27
import Derived.Test.YtmoaddbpfekdbaaGreatM11
namespace Go.Proofs.YtmoaddbpfekdbaaGreat
set_option linter.unusedVariables false
set_option linter.unusedSimpArgs false
set_option linter.unusedSectionVars false
set_option maxRecDepth 100000
open Go.RowKit
theorem bd_pinC {V : Type} [NVal V] {c : Ca V} {n K : Nat} (h : Bd c n K) (t b : Int) : Bd (pinC c t b).2 n (K + 1) := by
  have h1 := leave_len c.line t
  have h2 := h.ln
  have h3 := h.ld
  unfold pinC
  split
  · cases findB c.fs b with
    | none =>
      cases takeI c t with
      | none => exact ⟨h.len, h.more.pin, Nat.le_trans (queue_len _ _ _) (by omega), by simp only; omega⟩
      | some k => exact ⟨by simp only [List.length_set]; exact h.len, bd_set h.pin (by omega) ⟨by simp, by simp only; omega⟩, by simp only; omega, by simp only; omega⟩
    | some i =>
      have hp := bd_modify (i := i) (q := pinned) (K' := ((K + 1 : Nat) : Int)) h.pin (by omega) fun f hf _ => by
        have := h.pin f hf
        simp only [pinned]
        omega
      simp only
      split
      · exact ⟨by simp only [List.length_modify]; exact h.len, hp, by simp only; omega, by simp only; omega⟩
      · exact ⟨by simp only [List.length_modify]; exact h.len, hp, by simp only; omega, by simp only [List.length_append, List.length_cons, List.length_nil]; omega⟩
  · exact h.more
/-- A cache of n frames in memory, K steps old. -/
structure PN (w : World) (g : Nat) (h : PH) (n K : Nat) (t : Ca NX) : Prop where
  pc : PC w g h K t
  pi : PI t
  nod : ∀ f ∈ t.fs, NP w (fun b => ¬ PHX g h b) f.node.v f.node.n
  bd : Bd t n K
  hnd : 0 ≤ t.hand ∧ t.hand < (n : Int)
  sm : 1 ≤ n ∧ n ≤ 64
def PNT (w w' : World) (g : Nat) (h : PH) (n K : Nat) (t : Ca NX) : Prop :=
  ∃ h', PN w' g h' n K t ∧ Chg (PHX g h) w w' ∧ ∀ k, PHX g h' k → PHX g h k ∨ w.heap.size ≤ k
theorem NP.turn {w W : World} {g : Nat} {h h' : PH} {v : NV} {n : RN} (k : NP w (fun b => ¬ PHX g h b) v n) (c : Chg (PHX g h) w W) (a : ∀ i, PHX g h' i → PHX g h i ∨ w.heap.size ≤ i) : NP W (fun b => ¬ PHX g h' b) v n := by
  have k2 := k.weak (ok' := fun b => ¬ PHX g h b ∧ ¬ PHX g h' b) fun b hb hn => ⟨hn, fun e => by
    rcases a b e with e | e
    · exact hn e
    · omega⟩
  exact (k2.chg c fun b hb => hb.1).weak fun b _ hb => hb.2
/-- Whose nodes the frames hold. -/
def NodIn (l l' : List (Fra NX)) : Prop := ∀ f ∈ l', (∃ f0 ∈ l, f.node = f0.node) ∨ f.node = default
theorem nod_same (l : List (Fra NX)) : NodIn l l := fun f hf => .inl ⟨f, hf, rfl⟩
theorem nod_modify {l : List (Fra NX)} {i : Nat} {q : Fra NX → Fra NX} (hq : ∀ f, (q f).node = f.node) : NodIn l (l.modify i q) := fun f hf => by
  obtain ⟨j, e2⟩ := List.mem_iff_getElem?.1 hf
  rw [List.getElem?_modify] at e2
  cases hl : l[j]? with
  | none => rw [hl] at e2; simp at e2
  | some x =>
    rw [hl] at e2
    refine .inl ⟨x, List.mem_of_getElem? hl, ?_⟩
    by_cases e3 : i = j
    · simp [e3] at e2
      rw [← e2, hq]
    · simp [e3] at e2
      rw [← e2]
theorem nod_set {l : List (Fra NX)} {i : Nat} {x : Fra NX} (hx : x.node = default) : NodIn l (l.set i x) := fun f hf => by
  rcases List.mem_or_eq_of_mem_set hf with e | e
  · exact .inl ⟨f, e, rfl⟩
  · exact .inr (by rw [e]; exact hx)
theorem nod_pin (t : Ca NX) (x b : Int) : NodIn t.fs (pinC t x b).2.fs := by
  unfold pinC
  split
  · cases findB t.fs b with
    | some i =>
      simp only
      split <;> exact nod_modify fun _ => rfl
    | none =>
      cases takeI t x with
      | some k => exact nod_set rfl
      | none => exact nod_same _
  · exact nod_same _
theorem nod_claim (t : Ca NX) (x : Int) : NodIn t.fs (claimC t x).2.fs := by
  unfold claimC
  split
  · cases takeI t x with
    | some k => exact nod_set rfl
    | none => exact nod_same _
  · exact nod_same _
theorem nod_give (t : Ca NX) (x : Int) : NodIn t.fs (giveC t x).2.fs := by
  unfold giveC
  split
  · intro f hf
    obtain ⟨f0, h1, h2⟩ := List.mem_map.1 hf
    split at h2
    · exact .inr (by rw [← h2]; rfl)
    · exact .inl ⟨f0, h1, by rw [← h2]⟩
  · exact nod_same _
theorem nod_unpin (t : Ca NX) (x : Int) : NodIn t.fs (unpinC t x).2.fs := by
  unfold unpinC
  cases readyI t x with
  | none => exact nod_same _
  | some i =>
    simp only
    split
    · exact nod_same _
    · exact nod_modify fun _ => rfl
theorem nod_evict (t : Ca NX) : NodIn t.fs (evictC t).2.fs := by
  unfold evictC
  split
  · exact nod_same _
  · intro f hf
    rcases List.mem_or_eq_of_mem_set hf with e | e
    · obtain ⟨j, hj⟩ := List.mem_iff_getElem?.1 e
      obtain ⟨f0, h1, -, -, -, -, h2, -⟩ := reref_get hj
      exact .inl ⟨f0, List.mem_of_getElem? h1, h2⟩
    · exact .inr (by rw [e]; rfl)
section
variable {w W : World} {g n K : Nat} {h : PH} {t u : Ca NX}
theorem PN.fr (k : PN w g h n K t) (f : Fr w W) : PN W g h n K t := ⟨k.pc.fr f, k.pi, fun x hx => (k.nod x hx).fr f, k.bd, k.hnd, k.sm⟩
theorem PN.chg {X : Nat → Prop} (k : PN w g h n K t) (f : Chg X w W) (hx : ∀ i, PHX g h i → ¬ X i) (hy : ∀ x ∈ t.fs, ∃ ok : Nat → Prop, NP w ok x.node.v x.node.n ∧ ∀ b, ok b → ¬ X b ∧ ¬ PHX g h b) : PN W g h n K t :=
  ⟨k.pc.chg f hx, k.pi, fun x hm => by obtain ⟨ok, h1, h2⟩ := hy x hm; exact (h1.chg f fun b hb => (h2 b hb).1).weak fun b _ hb => (h2 b hb).2, k.bd, k.hnd, k.sm⟩
theorem PNT.same (k : PN w g h n K t) (f : Fr w W) : PNT w W g h n K t := ⟨h, k.fr f, .of_fr _ f, fun i hi => .inl hi⟩
theorem Bd.many {c : Ca NX} {n K K' : Nat} (h : Bd c n K) (hk : K ≤ K') : Bd c n K' := ⟨h.len, fun f hf => by have := h.pin f hf; omega, by have := h.ln; omega, by have := h.ld; omega⟩
theorem PN.more (k : PN w g h n K t) {K' : Nat} (hk : K ≤ K') : PN w g h n K' t := ⟨k.pc.more hk, k.pi, k.nod, k.bd.many hk, k.hnd, k.sm⟩
theorem PNT.of {K' : Nat} (k : PN w g h n K t) (p : PTurn w W (PHX g h) g K' u) (h1 : PI u) (h2 : NodIn t.fs u.fs) (h3 : Bd u n K') (h4 : 0 ≤ u.hand ∧ u.hand < (n : Int)) : PNT w W g h n K' u := by
  obtain ⟨h', a1, a2, a3⟩ := p
  refine ⟨h', ⟨a1, h1, fun f hf => ?_, h3, h4, k.sm⟩, a2, a3⟩
  rcases h2 f hf with ⟨f0, e1, e2⟩ | e
  · rw [e2]; exact (k.nod f0 e1).turn a2 a3
  · rw [e]; exact zeroN_np
/-- One node more. -/
theorem PNT.ofV {K' : Nat} {c : Bool} {v : NX} (k : PN w g h n K t) (p : PTurnV w W (PHX g h) g K' u c v) (h1 : PI u) (h2 : ∀ f ∈ u.fs, ((∃ f0 ∈ t.fs, f.node = f0.node) ∨ f.node = default) ∨ (c = true ∧ f.node = v)) (h3 : Bd u n K') (h4 : 0 ≤ u.hand ∧ u.hand < (n : Int)) : PNT w W g h n K' u := by
  obtain ⟨h', a1, a2, a3, a4⟩ := p
  refine ⟨h', ⟨a1, h1, fun f hf => ?_, h3, h4, k.sm⟩, a2, a3⟩
  rcases h2 f hf with (⟨f0, e1, e2⟩ | e) | ⟨e1, e2⟩
  · rw [e2]; exact (k.nod f0 e1).turn a2 a3
  · rw [e]; exact zeroN_np
  · rw [e2]; exact (a4 e1).weak fun b _ hb => hb.2
theorem PN.len (k : PN w g h n K t) : t.fs.length ≤ 100000 := by have := k.bd.len; have := k.sm.2; omega
theorem PN.ln (k : PN w g h n K t) (hK : K ≤ 1000) : t.line.length ≤ 100000 := by have := k.bd.ln; omega
theorem PN.ld (k : PN w g h n K t) (hK : K ≤ 1000) : t.loads.length ≤ 100000 := by have := k.bd.ld; omega
theorem PN.pos (k : PN w g h n K t) : 0 < t.fs.length := by have := k.bd.len; have := k.sm.1; omega
theorem l_pin (k : PN w g h n K t) (hK : K ≤ 1000) (x b : Int) :
    Calls Tryz.prog 15 #[.pointer (some ⟨g, 0, none⟩), .int .i64 x, .int .i64 b] w fun e w' => e = .returned (.int .i64 (pinC t x b).1) ∧ Hid (PNT w w' g h n (K + 1) (pinC t x b).2) := by
  refine (ppin_at x b k.pc k.pi k.len (k.ln hK) (k.ld hK) (k.bd.pins (by omega)) (by omega)).mono ?_
  rintro e w' ⟨rfl, H⟩
  refine ⟨rfl, keep (.of k H.out (pi_pin k.pi x b) (nod_pin t x b) (bd_pinC k.bd x b) ?_)⟩
  have e : (pinC t x b).2.hand = t.hand := by
    unfold pinC
    split
    · cases findB t.fs b with
      | some i => simp only; split <;> rfl
      | none => cases takeI t x <;> rfl
    · rfl
  rw [e]; exact k.hnd
theorem l_claim (k : PN w g h n K t) (hK : K ≤ 1000) (x : Int) :
    Calls Tryz.prog 16 #[.pointer (some ⟨g, 0, none⟩), .int .i64 x] w fun e w' => e = .returned (.bool (claimC t x).1) ∧ Hid (PNT w w' g h n (K + 1) (claimC t x).2) := by
  refine (pclaim_at x k.pc k.pi k.len (k.ln hK) (k.ld hK)).mono ?_
  rintro e w' ⟨rfl, H⟩
  refine ⟨rfl, keep (.of k (H.out.more (Nat.le_succ K)) (pi_claim k.pi x) (nod_claim t x) (bd_claim k.bd x) ?_)⟩
  have e : (claimC t x).2.hand = t.hand := by
    unfold claimC
    split
    · cases takeI t x <;> rfl
    · rfl
  rw [e]; exact k.hnd
theorem l_give (k : PN w g h n K t) (x : Int) :
    Calls Tryz.prog 29 #[.pointer (some ⟨g, 0, none⟩), .int .i64 x] w fun e w' => e = .returned (.int .i64 ((giveC t x).1 : Nat)) ∧ Hid (PNT w w' g h n (K + 1) (giveC t x).2) := by
  refine (pgive_at x k.pc k.pi k.len).mono ?_
  rintro e w' ⟨rfl, H⟩
  refine ⟨rfl, keep (.of k (H.out.more (Nat.le_succ K)) (pi_give k.pi x) (nod_give t x) ((bd_give k.bd x).more) ?_)⟩
  have e : (giveC t x).2.hand = t.hand := by unfold giveC; split <;> rfl
  rw [e]; exact k.hnd
theorem l_unpin (k : PN w g h n K t) (hK : K ≤ 1000) (x : Int) (hx : W64 x) :
    Calls Tryz.prog 33 #[.pointer (some ⟨g, 0, none⟩), .int .i64 x] w fun e w' => e = .returned (.bool (unpinC t x).1) ∧ Hid (PNT w w' g h n (K + 1) (unpinC t x).2) := by
  refine (punpin_at x hx k.pc k.pi k.len (k.bd.pins (by omega))).mono ?_
  rintro e w' ⟨rfl, H⟩
  refine ⟨rfl, keep (.of k (H.out.more (Nat.le_succ K)) (pi_unpin k.pi x) (nod_unpin t x) ((bd_unpin k.bd x).more) ?_)⟩
  have e : (unpinC t x).2.hand = t.hand := by
    unfold unpinC
    cases readyI t x with
    | none => rfl
    | some i => simp only; split <;> rfl
  rw [e]; exact k.hnd
theorem l_evict (k : PN w g h n K t) :
    Calls Tryz.prog 19 #[.pointer (some ⟨g, 0, none⟩)] w fun e w' => e = .returned (evP (evictC t).1) ∧ Hid (PNT w w' g h n (K + 1) (evictC t).2) := by
  have hh : 0 ≤ t.hand ∧ t.hand < (t.fs.length : Int) := by rw [k.bd.len]; exact k.hnd
  refine (pevict_at k.pc k.pi k.len k.pos hh).mono ?_
  rintro e w' ⟨rfl, H⟩
  have hp : PTurn w w' (PHX g h) g (K + 1) (evictC t).2 := ⟨h, H.out.1.more (Nat.le_succ K), H.out.2, fun i hi => .inl hi⟩
  refine ⟨rfl, keep (.of k hp (pi_evict k.pi) (nod_evict t) ((bd_evict k.bd).more) ?_)⟩
  unfold evictC
  split
  · exact k.hnd
  · have := swp_hand (c := canL t.fs) (l := refL t.fs) (z := t.hand) (by simp [canL, refL]) (by simp [canL]; exact k.pos)
    have e : (canL t.fs).length = n := by simp [canL]; exact k.bd.len
    rw [e] at this
    exact this
theorem mem_mod {l : List (Fra NX)} {i : Nat} {q : Fra NX → Fra NX} {v : NX} (hq : ∀ f, (q f).node = v) : ∀ f ∈ l.modify i q, ((∃ f0 ∈ l, f.node = f0.node) ∨ f.node = default) ∨ (true = true ∧ f.node = v) := fun f hf => by
  obtain ⟨j, e2⟩ := List.mem_iff_getElem?.1 hf
  rw [List.getElem?_modify] at e2
  cases hl : l[j]? with
  | none => rw [hl] at e2; simp at e2
  | some x =>
    rw [hl] at e2
    by_cases e3 : i = j
    · simp [e3] at e2
      exact .inr ⟨rfl, by rw [← e2, hq]⟩
    · simp [e3] at e2
      exact .inl (.inl ⟨x, List.mem_of_getElem? hl, by rw [← e2]⟩)
theorem l_set {ok : Nat → Prop} (k : PN w g h n K t) (x : Int) (hx : W64 x) (v : NX) (hv : NP w ok v.v v.n) :
    Calls Tryz.prog 35 #[.pointer (some ⟨g, 0, none⟩), .int .i64 x, nv v.v] w fun e w' => ∃ v' : NX, v'.n = v.n ∧ e = .returned (.bool (setC t x v').1) ∧ Hid (PNT w w' g h n (K + 1) (setC t x v').2) := by
  refine (pset_at x v hx k.pc k.pi hv).mono ?_
  rintro e w' ⟨v', h1, rfl, H⟩
  refine ⟨v', h1, rfl, keep ?_⟩
  obtain ⟨h', a1, a2, a3, a4⟩ := H.out
  refine PNT.ofV k (c := (readyI t x).isSome) ⟨h', a1.more (Nat.le_succ K), a2, a3, a4⟩ (pi_setC k.pi x v') ?_ ((bd_setC k.bd x v').more) ?_
  · unfold setC
    cases readyI t x with
    | none => exact fun f hf => .inl (nod_same _ f hf)
    | some i => exact mem_mod fun _ => rfl
  · have e : (setC t x v').2.hand = t.hand := by unfold setC; cases readyI t x <;> rfl
    rw [e]; exact k.hnd
theorem l_name {ok : Nat → Prop} (k : PN w g h n K t) (hK : K ≤ 1000) (x b : Int) (hx : W64 x) (hb : W64 b) (v : NX) (hv : NP w ok v.v v.n) :
    Calls Tryz.prog 31 #[.pointer (some ⟨g, 0, none⟩), .int .i64 x, .int .i64 b, nv v.v] w fun e w' => ∃ v' : NX, v'.n = v.n ∧ e = .returned (.bool (nameC t x b v').1) ∧ Hid (PNT w w' g h n (K + 1) (nameC t x b v').2) := by
  refine (pname_at x b v hx hb k.pc k.pi k.len (by omega) hv).mono ?_
  rintro e w' ⟨v', h1, rfl, H⟩
  refine ⟨v', h1, rfl, keep (PNT.ofV k H.out (pi_name k.pi x b v') ?_ ((bd_name k.bd x b v').more) ?_)⟩
  · unfold nameC
    split
    · cases t.fs.findIdx? (isC x) with
      | none => exact fun f hf => .inl (nod_same _ f hf)
      | some i =>
        intro f hf
        rcases List.mem_or_eq_of_mem_set hf with e | e
        · exact .inl (.inl ⟨f, e, rfl⟩)
        · exact .inr ⟨rfl, by rw [e]⟩
    · exact fun f hf => .inl (nod_same _ f hf)
  · have e : (nameC t x b v').2.hand = t.hand := by
      unfold nameC
      split
      · cases t.fs.findIdx? (isC x) <;> rfl
      · rfl
    rw [e]; exact k.hnd
theorem l_fill {ok : Nat → Prop} (k : PN w g h n K t) (hK : K ≤ 1000) (x : Int) (hx : W64 x) (v : NX) (hv : NP w ok v.v v.n) :
    Calls Tryz.prog 17 #[.pointer (some ⟨g, 0, none⟩), .int .i64 x, nv v.v] w fun e w' => ∃ (v' : NX) (O : Option Addr) (m c : Nat), v'.n = v.n ∧ e = .returned (.tuple #[.slice O m c, .bool (fillC t x v').2.1]) ∧ Hid (ResI w w' O m c (fillC t x v').1 ∧ PNT w w' g h n (K + 1) (fillC t x v').2.2) := by
  cases hl : loadI t x with
  | none =>
    refine (pfill_no x v hx k.pc k.pi hl).mono ?_
    rintro e w' ⟨rfl, f⟩
    have e : fillC t x v = ([], false, t) := by unfold fillC; rw [hl]
    exact ⟨v, none, 0, 0, rfl, by rw [e], keep (by rw [e]; exact ⟨⟨Rw.nil _ _ _, rfl, fun k hk => by cases hk⟩, .same (k.more (Nat.le_succ K)) f⟩)⟩
  | some i =>
    refine (pfill_yes x v hx k.pc k.pi (k.ld hK) hv hl).mono ?_
    rintro e w' ⟨v', O, m, c, h1, rfl, H⟩
    have e : fillC t x v' = (waitL t.loads x, true, { t with fs := t.fs.modify i fun f => { f with st := 2, node := v' }, loads := restL t.loads x }) := by unfold fillC; rw [hl]; rfl
    refine ⟨v', O, m, c, h1, by rw [e], keep ?_⟩
    have hpi := pi_fill k.pi x v'
    have hbd := bd_fill k.bd x v'
    rw [e] at hpi hbd ⊢
    obtain ⟨a0, h', a1, a2, a3, a4⟩ := H.out
    exact ⟨a0, PNT.ofV k (c := true) ⟨h', a1.more (Nat.le_succ K), a2, a3, a4⟩ hpi (mem_mod fun _ => rfl) hbd.more k.hnd⟩
theorem l_node (k : PN w g h n K t) (x : Int) (hx : W64 x) :
    Calls Tryz.prog 10 #[.pointer (some ⟨g, 0, none⟩), .int .i64 x] w fun e w' => ∃ v' : NV, e = .returned (.tuple #[nv v', .bool (nodC t x).2]) ∧ Hid (NP w' (fun _ => True) v' (nodC t x).1.n) ∧ Fr w w' := pnode_at x hx k.pc k.pi k.nod
theorem l_free (k : PN w g h n K t) : Calls Tryz.prog 23 #[.pointer (some ⟨g, 0, none⟩)] w fun e w' => e = .returned (.int .i64 (freeN t.fs : Nat)) ∧ Fr w w' := pfreen_at k.pc k.len
theorem l_line (k : PN w g h n K t) (hK : K ≤ 1000) : Calls Tryz.prog 21 #[.pointer (some ⟨g, 0, none⟩)] w fun e w' => ∃ O c, e = .returned (.slice O t.line.length c) ∧ Hid (ResI w w' O t.line.length c (lineC t) ∧ Fr w w') := pline_at k.pc (k.ln hK)
theorem l_may (k : PN w g h n K t) (hK : K ≤ 1000) (x : Int) : Calls Tryz.prog 22 #[.pointer (some ⟨g, 0, none⟩), .int .i64 x] w fun e w' => e = .returned (.bool (mayC t x)) ∧ Fr w w' := pmay_at x k.pc k.pi k.len (k.ln hK) (k.ld hK)
theorem l_frames (k : PN w g h n K t) : Calls Tryz.prog 20 #[.pointer (some ⟨g, 0, none⟩)] w fun e w' => ∃ (O : Option Addr) (c : Nat) (l' : List (Fra NX)), e = .returned (.slice O n c) ∧ Hid (TellF w w' O n c l' t.fs ∧ Fr w w') := by
  have := pframes_at k.pc k.len k.nod
  rw [k.bd.len] at this
  exact this
theorem l_new (w : World) (n : Nat) (h1 : 1 ≤ n) (h2 : n ≤ 64) : Calls Tryz.prog 4 #[.int .i64 n] w fun e w' => ∃ g, e = .returned (.tuple #[.pointer (some ⟨g, 0, none⟩), .int .i64 0]) ∧ Hid ((∃ h, PN w' g h n 0 (newC n : Ca NX) ∧ ∀ k, PHX g h k → w.heap.size ≤ k) ∧ Fr w w') := by
  refine (pnew_yes w n h1 h2).mono ?_
  rintro e w' ⟨g, rfl, H⟩
  obtain ⟨⟨h, a1, a2⟩, a3⟩ := H.out
  exact ⟨g, rfl, keep ⟨⟨h, ⟨a1, pi_new n, fun f hf => by rw [List.eq_of_mem_replicate (show f ∈ List.replicate n freeF from hf)]; exact zeroN_np, bd_new n, ⟨Int.le_refl _, by show (0 : Int) < n; omega⟩, h1, h2⟩, a2⟩, a3⟩⟩
end
end Go.Proofs.YtmoaddbpfekdbaaGreat
/- The program's cache in a law: what is behind each call, told by one fact. -/
namespace Go.Proofs.YtmoaddbpfekdbaaGreat
set_option linter.unusedVariables false
set_option linter.unusedSimpArgs false
set_option linter.unusedSectionVars false
set_option maxRecDepth 100000
open Go.RowKit
/-- A cache of the law's own, in blocks made since w0. -/
def PL (w0 W : World) (g n K : Nat) (t : Ca NX) : Prop := ∃ h, PN W g h n K t ∧ (∀ k, PHX g h k → w0.heap.size ≤ k) ∧ Fr w0 W
/-- Blocks of other types stay. -/
def KeepT (W w' : World) : Prop := ∀ k T cs, Arr W k T cs → T ≠ 57 → T ≠ 52 → T ≠ 93 → Arr w' k T cs
section
variable {w0 W w' w'' : World} {g n K : Nat} {h : PH} {t u : Ca NX}
theorem KeepT.of_fr (f : Fr W w') : KeepT W w' := fun k T cs ha _ _ _ => ha.below f ha.lt
theorem KeepT.trans (a : KeepT W w') (b : KeepT w' w'') : KeepT W w'' := fun k T cs ha h1 h2 h3 => b k T cs (a k T cs ha h1 h2 h3) h1 h2 h3
theorem KeepT.rw {e size m c : Nat} {A : Option Addr} {xs : List Value} (a : KeepT W w') (hr : Rw W e size A m c xs) (h1 : e ≠ 57) (h2 : e ≠ 52) (h3 : e ≠ 93) : Rw w' e size A m c xs := by
  refine ⟨hr.1, hr.2.imp id fun ⟨g, p, r, e1, ha, k⟩ => ⟨g, p, r, e1, a g e _ ha h1 h2 h3, k⟩⟩
theorem PNT.keepT (k : PN W g h n K t) (p : Chg (PHX g h) W w') : KeepT W w' := fun b T cs ha h1 h2 h3 => ha.chg p fun hx => by
  rcases hx with e | e | e | e | e
  · subst e; exact h1 (ha.ty k.pc.box)
  · obtain ⟨cs2, h9⟩ := k.pc.fs.arrT e; exact h2 (ha.ty h9)
  · exact k.pc.mp.ty ha e
  · obtain ⟨cs2, h9⟩ := k.pc.ln.arrT e; exact h3 (ha.ty h9)
  · obtain ⟨cs2, h9⟩ := k.pc.ld.arrT e; exact h3 (ha.ty h9)
theorem PL.fr (k : PL w0 W g n K t) (f : Fr W w') : PL w0 w' g n K t := by
  obtain ⟨h, h1, h2, h3⟩ := k
  exact ⟨h, h1.fr f, h2, fr_step h3 f⟩
theorem PL.frw (k : PL w0 W g n K t) : Fr w0 W := by obtain ⟨h, h1, h2, h3⟩ := k; exact h3
theorem PL.step {K' : Nat} (k : PN W g h n K t) (hb : ∀ k, PHX g h k → w0.heap.size ≤ k) (hf : Fr w0 W) (p : PNT W w' g h n K' u) : PL w0 w' g n K' u ∧ KeepT W w' := by
  obtain ⟨h', a1, a2, a3⟩ := p
  refine ⟨⟨h', a1, fun i hi => ?_, hf.step_chg a2 hb⟩, PNT.keepT k a2⟩
  rcases a3 i hi with e | e
  · exact hb i e
  · exact Nat.le_trans hf.size e
theorem z_new (w : World) (n : Nat) {N : Int} (hN : N = (n : Int)) (h1 : 1 ≤ n) (h2 : n ≤ 64) : Calls Tryz.prog 4 #[.int .i64 N] w fun e w' => ∃ g, e = .returned (.tuple #[.pointer (some ⟨g, 0, none⟩), .int .i64 0]) ∧ Hid (PL w w' g n 0 (newC n : Ca NX)) := by
  subst hN
  refine (l_new w n h1 h2).mono ?_
  rintro e w' ⟨g, rfl, H⟩
  obtain ⟨⟨h, a1, a2⟩, a3⟩ := H.out
  exact ⟨g, rfl, keep ⟨h, a1, a2, a3⟩⟩
theorem z_pin (k : PL w0 W g n K t) (hK : K ≤ 1000) {x b r : Int} (e0 : pinC t x b = (r, u)) :
    Calls Tryz.prog 15 #[.pointer (some ⟨g, 0, none⟩), .int .i64 x, .int .i64 b] W fun e w' => e = .returned (.int .i64 r) ∧ Hid (PL w0 w' g n (K + 1) u ∧ KeepT W w') := by
  obtain ⟨h, k1, k2, k3⟩ := k
  refine (l_pin k1 hK x b).mono ?_
  rintro e w' ⟨rfl, H⟩
  rw [e0] at H ⊢
  exact ⟨rfl, keep (PL.step k1 k2 k3 H.out)⟩
theorem z_claim (k : PL w0 W g n K t) (hK : K ≤ 1000) {x : Int} {r : Bool} (e0 : claimC t x = (r, u)) :
    Calls Tryz.prog 16 #[.pointer (some ⟨g, 0, none⟩), .int .i64 x] W fun e w' => e = .returned (.bool r) ∧ Hid (PL w0 w' g n (K + 1) u ∧ KeepT W w') := by
  obtain ⟨h, k1, k2, k3⟩ := k
  refine (l_claim k1 hK x).mono ?_
  rintro e w' ⟨rfl, H⟩
  rw [e0] at H ⊢
  exact ⟨rfl, keep (PL.step k1 k2 k3 H.out)⟩
theorem z_give (k : PL w0 W g n K t) {x R : Int} {r : Nat} (e0 : giveC t x = (r, u)) (hR : R = (r : Int)) :
    Calls Tryz.prog 29 #[.pointer (some ⟨g, 0, none⟩), .int .i64 x] W fun e w' => e = .returned (.int .i64 R) ∧ Hid (PL w0 w' g n (K + 1) u ∧ KeepT W w') := by
  subst hR
  obtain ⟨h, k1, k2, k3⟩ := k
  refine (l_give k1 x).mono ?_
  rintro e w' ⟨rfl, H⟩
  rw [e0] at H ⊢
  exact ⟨rfl, keep (PL.step k1 k2 k3 H.out)⟩
theorem z_unpin (k : PL w0 W g n K t) (hK : K ≤ 1000) {x : Int} (hx : W64 x) {r : Bool} (e0 : unpinC t x = (r, u)) :
    Calls Tryz.prog 33 #[.pointer (some ⟨g, 0, none⟩), .int .i64 x] W fun e w' => e = .returned (.bool r) ∧ Hid (PL w0 w' g n (K + 1) u ∧ KeepT W w') := by
  obtain ⟨h, k1, k2, k3⟩ := k
  refine (l_unpin k1 hK x hx).mono ?_
  rintro e w' ⟨rfl, H⟩
  rw [e0] at H ⊢
  exact ⟨rfl, keep (PL.step k1 k2 k3 H.out)⟩
theorem z_evict (k : PL w0 W g n K t) {o : Option (Fra NX)} {val : Value} (e0 : evictC t = (o, u)) (hv : evP o = val) :
    Calls Tryz.prog 19 #[.pointer (some ⟨g, 0, none⟩)] W fun e w' => e = .returned val ∧ Hid (PL w0 w' g n (K + 1) u ∧ KeepT W w') := by
  subst hv
  obtain ⟨h, k1, k2, k3⟩ := k
  refine (l_evict k1).mono ?_
  rintro e w' ⟨rfl, H⟩
  rw [e0] at H ⊢
  exact ⟨rfl, keep (PL.step k1 k2 k3 H.out)⟩
theorem z_set {ok : Nat → Prop} {val : Value} (k : PL w0 W g n K t) {x : Int} (hx : W64 x) (v : NX) (hval : val = nv v.v) (hv : NP W ok v.v v.n) :
    Calls Tryz.prog 35 #[.pointer (some ⟨g, 0, none⟩), .int .i64 x, val] W fun e w' => ∃ v' : NX, v'.n = v.n ∧ e = .returned (.bool (setC t x v').1) ∧ Hid (PL w0 w' g n (K + 1) (setC t x v').2 ∧ KeepT W w') := by
  obtain ⟨h, k1, k2, k3⟩ := k
  subst hval
  refine (l_set k1 x hx v hv).mono ?_
  rintro e w' ⟨v', h1, rfl, H⟩
  exact ⟨v', h1, rfl, keep (PL.step k1 k2 k3 H.out)⟩
theorem z_name {ok : Nat → Prop} {val : Value} (k : PL w0 W g n K t) (hK : K ≤ 1000) {x b : Int} (hx : W64 x) (hb : W64 b) (v : NX) (hval : val = nv v.v) (hv : NP W ok v.v v.n) :
    Calls Tryz.prog 31 #[.pointer (some ⟨g, 0, none⟩), .int .i64 x, .int .i64 b, val] W fun e w' => ∃ v' : NX, v'.n = v.n ∧ e = .returned (.bool (nameC t x b v').1) ∧ Hid (PL w0 w' g n (K + 1) (nameC t x b v').2 ∧ KeepT W w') := by
  obtain ⟨h, k1, k2, k3⟩ := k
  subst hval
  refine (l_name k1 hK x b hx hb v hv).mono ?_
  rintro e w' ⟨v', h1, rfl, H⟩
  exact ⟨v', h1, rfl, keep (PL.step k1 k2 k3 H.out)⟩
theorem z_fill {ok : Nat → Prop} {val : Value} (k : PL w0 W g n K t) (hK : K ≤ 1000) {x : Int} (hx : W64 x) (v : NX) (hval : val = nv v.v) (hv : NP W ok v.v v.n) :
    Calls Tryz.prog 17 #[.pointer (some ⟨g, 0, none⟩), .int .i64 x, val] W fun e w' => ∃ (v' : NX) (O : Option Addr) (m c : Nat), v'.n = v.n ∧ e = .returned (.tuple #[.slice O m c, .bool (fillC t x v').2.1]) ∧ Hid (ResI W w' O m c (fillC t x v').1 ∧ PL w0 w' g n (K + 1) (fillC t x v').2.2 ∧ KeepT W w') := by
  obtain ⟨h, k1, k2, k3⟩ := k
  subst hval
  refine (l_fill k1 hK x hx v hv).mono ?_
  rintro e w' ⟨v', O, m, c, h1, rfl, H⟩
  exact ⟨v', O, m, c, h1, rfl, keep ⟨H.out.1, PL.step k1 k2 k3 H.out.2⟩⟩
theorem z_node (k : PL w0 W g n K t) {x : Int} (hx : W64 x) {o : NX} {r : Bool} (e0 : nodC t x = (o, r)) :
    Calls Tryz.prog 10 #[.pointer (some ⟨g, 0, none⟩), .int .i64 x] W fun e w' => ∃ v' : NV, e = .returned (.tuple #[nv v', .bool r]) ∧ Hid (NP w' (fun _ => True) v' o.n) ∧ Fr W w' := by
  obtain ⟨h, k1, k2, k3⟩ := k
  have := l_node k1 x hx
  rw [e0] at this
  exact this
theorem z_free (k : PL w0 W g n K t) {r : Nat} {R : Int} (e0 : freeN t.fs = r) (hR : R = (r : Int)) : Calls Tryz.prog 23 #[.pointer (some ⟨g, 0, none⟩)] W fun e w' => e = .returned (.int .i64 R) ∧ Fr W w' := by
  subst hR
  obtain ⟨h, k1, k2, k3⟩ := k
  have := l_free k1
  rw [e0] at this
  exact this
theorem z_line (k : PL w0 W g n K t) (hK : K ≤ 1000) {m : Nat} (e0 : t.line.length = m) : Calls Tryz.prog 21 #[.pointer (some ⟨g, 0, none⟩)] W fun e w' => ∃ O c, e = .returned (.slice O m c) ∧ Hid (ResI W w' O m c (lineC t) ∧ Fr W w') := by
  obtain ⟨h, k1, k2, k3⟩ := k
  have := l_line k1 hK
  rw [e0] at this
  exact this
theorem z_may (k : PL w0 W g n K t) (hK : K ≤ 1000) {x : Int} {r : Bool} (e0 : mayC t x = r) : Calls Tryz.prog 22 #[.pointer (some ⟨g, 0, none⟩), .int .i64 x] W fun e w' => e = .returned (.bool r) ∧ Fr W w' := by
  obtain ⟨h, k1, k2, k3⟩ := k
  have := l_may k1 hK x
  rw [e0] at this
  exact this
theorem z_frames (k : PL w0 W g n K t) : Calls Tryz.prog 20 #[.pointer (some ⟨g, 0, none⟩)] W fun e w' => ∃ (O : Option Addr) (c : Nat) (l' : List (Fra NX)), e = .returned (.slice O n c) ∧ Hid (TellF W w' O n c l' t.fs ∧ Fr W w') := by
  obtain ⟨h, k1, k2, k3⟩ := k
  exact l_frames k1
/-- The leaf node with nothing in it, as the laws write it. -/
def lfNV : NV := ⟨true, none, 0, 0, none, 0, 0, none, 0, 0, none, 0, 0⟩
def lfN : RN := ⟨true, [], [], [], []⟩
def lfX : NX := ⟨lfNV, lfN⟩
theorem lf_np (w : World) (ok : Nat → Prop) : NP w ok lfX.v lfX.n := ⟨rfl, HasP.nil, rfl, by decide, by intro m hm; simp [lfX, lfN] at hm, HasP.nil, rfl, Nat.le_refl _, by decide, HasP.nil, rfl, by decide, by intro m hm; simp [lfX, lfN] at hm, HasP.nil, rfl, Nat.le_refl _, by decide, by intro m hm; simp [lfX, lfN] at hm⟩
theorem y_name {ok : Nat → Prop} {val : Value} {r : Bool} {uf : NX → Ca NX} (k : PL w0 W g n K t) (hK : K ≤ 1000) {x b : Int} (hx : W64 x) (hb : W64 b) (v : NX) (hval : val = nv v.v) (hv : NP W ok v.v v.n) (e0 : ∀ v', v'.n = v.n → nameC t x b v' = (r, uf v')) :
    Calls Tryz.prog 31 #[.pointer (some ⟨g, 0, none⟩), .int .i64 x, .int .i64 b, val] W fun e w' => ∃ v' : NX, v'.n = v.n ∧ e = .returned (.bool r) ∧ Hid (PL w0 w' g n (K + 1) (uf v') ∧ KeepT W w') := by
  refine (z_name k hK hx hb v hval hv).mono ?_
  rintro e w' ⟨v', h1, rfl, H⟩
  have h2 := H.out
  rw [e0 v' h1] at h2 ⊢
  exact ⟨v', h1, rfl, keep h2⟩
theorem y_set {ok : Nat → Prop} {val : Value} {r : Bool} {uf : NX → Ca NX} (k : PL w0 W g n K t) {x : Int} (hx : W64 x) (v : NX) (hval : val = nv v.v) (hv : NP W ok v.v v.n) (e0 : ∀ v', v'.n = v.n → setC t x v' = (r, uf v')) :
    Calls Tryz.prog 35 #[.pointer (some ⟨g, 0, none⟩), .int .i64 x, val] W fun e w' => ∃ v' : NX, v'.n = v.n ∧ e = .returned (.bool r) ∧ Hid (PL w0 w' g n (K + 1) (uf v') ∧ KeepT W w') := by
  refine (z_set k hx v hval hv).mono ?_
  rintro e w' ⟨v', h1, rfl, H⟩
  have h2 := H.out
  rw [e0 v' h1] at h2 ⊢
  exact ⟨v', h1, rfl, keep h2⟩
theorem y_fill {ok : Nat → Prop} {val : Value} {r : Bool} {l : List Int} {m : Nat} {uf : NX → Ca NX} (k : PL w0 W g n K t) (hK : K ≤ 1000) {x : Int} (hx : W64 x) (v : NX) (hval : val = nv v.v) (hv : NP W ok v.v v.n) (e0 : ∀ v', v'.n = v.n → fillC t x v' = (l, r, uf v')) (hm : l.length = m) :
    Calls Tryz.prog 17 #[.pointer (some ⟨g, 0, none⟩), .int .i64 x, val] W fun e w' => ∃ (v' : NX) (O : Option Addr) (c : Nat), v'.n = v.n ∧ e = .returned (.tuple #[.slice O m c, .bool r]) ∧ Hid (ResI W w' O m c l ∧ PL w0 w' g n (K + 1) (uf v') ∧ KeepT W w') := by
  refine (z_fill k hK hx v hval hv).mono ?_
  rintro e w' ⟨v', O, m', c, h1, rfl, H⟩
  have h2 := H.out
  rw [e0 v' h1] at h2 ⊢
  have h3 := h2.1.len
  simp only at h3
  have h4 : m' = m := by omega
  subst h4
  exact ⟨v', O, c, h1, rfl, keep h2⟩
theorem PL.more (k : PL w0 W g n K t) {K' : Nat} (hk : K ≤ K') : PL w0 W g n K' t := by
  obtain ⟨h, k1, k2, k3⟩ := k
  exact ⟨h, { k1 with pc := k1.pc.more hk, bd := ⟨k1.bd.len, fun f hf => by have := k1.bd.pin f hf; omega, by have := k1.bd.ln; omega, by have := k1.bd.ld; omega⟩ }, k2, k3⟩
/-- What a frame's node holds. -/
theorem PL.ents (k : PL w0 W g n K t) {f : Fra NX} (hf : f ∈ t.fs) : f.node.n.es.length = f.node.v.n1 := by
  obtain ⟨h, k1, -, -⟩ := k
  exact (k1.nod f hf).l1
theorem lf_val : Value.agg #[.bool true, .slice none 0 0, .slice none 0 0, .slice none 0 0, .slice none 0 0] = nv lfX.v := rfl
end
end Go.Proofs.YtmoaddbpfekdbaaGreat
/- The laws' 'awake'. -/
namespace Go.Proofs.YtmoaddbpfekdbaaGreat
set_option linter.unusedVariables false
set_option linter.unusedSimpArgs false
set_option linter.unusedSectionVars false
set_option maxRecDepth 100000
open Go.RowKit
attribute [local go_sem ↓] node16_ld
theorem one_leaf : (leafN [0]).es.length = 1 := by decide
theorem leaf_one (w : World) (z : Int) (hz : Is64 z) : Calls Tryz.prog 18 #[.slice (some ⟨w.heap.size, 0, none⟩) 1 1] (w.alloc (.cells #[.int .i64 z] 3)) fun e w' => ∃ v, e = .returned (nv v) ∧ Hid (NP w' (fun _ => True) v (leafN [z])) ∧ Fr w w' := by
  refine (q_leaf (ns := [z]) (c := 1) (n := 1) (has_new w ([z].map (Value.int .i64)) 3) (by simp) rfl (by intro y hy; simp at hy; subst hy; exact hz) (by decide)).mono ?_
  rintro e w' ⟨v, rfl, h1, h2⟩
  exact ⟨v, rfl, keep (h1.out.np fun _ _ => trivial), fr_step (fr_new (fr_refl w) _) h2⟩
theorem ri_at {W : World} {e g o n c : Nat} {l : List Int} (h : Rw W e 1 (some ⟨g, o, none⟩) n c (rows ic l)) {i : Nat} {b : Int} (hb : l[i]? = some b) : W.cell? ⟨g, o + i, none⟩ = some (.int .i64 b) := by
  obtain ⟨b2, off2, e2, hb2, hr2⟩ := has_rows h.has (ic_wid l) (by decide) (by intro e; rw [e] at hb; simp at hb)
  injection e2 with e2
  injection e2 with e2 e3
  subst e2 e3
  have lX := elem_cell0 hr2 (ic_wid l) (by omega) hb (u := .int .i64 b) rfl W (fr_refl W)
  rw [Nat.mul_one] at lX
  exact lX
theorem TellF.cells {w W : World} {O : Option Addr} {n c : Nat} {l' l : List (Fra NX)} (h : TellF w W O n c l' l) (hn : 0 < n) : ∃ g o, O = some ⟨g, o, none⟩ ∧ ∀ V, Fr W V → ∀ i f, l'[i]? = some f → ∀ j u, (fac f)[j]? = some u → V.cell? ⟨g, o + i * 13 + j, none⟩ = some u := by
  obtain ⟨g, o, rfl⟩ := h.res.row.addr hn
  refine ⟨g, o, rfl, fun V hV i f hb j u hu => ?_⟩
  obtain ⟨b2, off2, e2, hb2, hr2⟩ := has_rows h.res.row.has (fac_wid l') (by decide) (by intro e; rw [e] at hb; simp at hb)
  injection e2 with e2
  injection e2 with e2 e3
  subst e2 e3
  exact elem_cell hr2 (fac_wid l') (by omega) hb hu V hV
theorem TellF.get {w W : World} {O : Option Addr} {n c : Nat} {l' l : List (Fra NX)} (h : TellF w W O n c l' l) {i : Nat} {f : Fra NX} (hi : l[i]? = some f) : ∃ f', l'[i]? = some f' ∧ f'.st = f.st ∧ f'.blk = f.blk ∧ f'.pins = f.pins ∧ f'.ref = f.ref ∧ f'.dirty = f.dirty ∧ f'.node.n = f.node.n ∧ NP W (fun b => ¬ At O b) f'.node.v f.node.n := by
  have hs := h.same
  have h1 : (l.map (mF NX.n))[i]? = some (mF NX.n f) := by rw [List.getElem?_map, hi]; rfl
  rw [← hs, List.getElem?_map] at h1
  cases h2 : l'[i]? with
  | none => rw [h2] at h1; simp at h1
  | some f' =>
    rw [h2] at h1
    simp only [Option.map_some, Option.some.injEq, mF, Fra.mk.injEq] at h1
    refine ⟨f', rfl, h1.1, h1.2.1, h1.2.2.1, h1.2.2.2.1, h1.2.2.2.2.1, h1.2.2.2.2.2.1, ?_⟩
    rw [← h1.2.2.2.2.2.1]
    exact h.nod f' (List.mem_of_getElem? h2)
theorem nv_ents {v : NV} {m : Nat} (h : v.n1 = m) : v.cells.toArray[1]? = some (.slice v.A1 m v.c1) := by subst h; rfl
theorem fac_st {f : Fra NX} {z : Nat} (h : f.st = z) : (fac f)[0]? = some (.int .i64 (z : Int)) := by subst h; rfl
theorem fac_blk {f : Fra NX} {z : Int} (h : f.blk = z) : (fac f)[1]? = some (.int .i64 z) := by subst h; rfl
theorem fac_pins {f : Fra NX} {z : Int} (h : f.pins = z) : (fac f)[2]? = some (.int .i64 z) := by subst h; rfl
theorem fac_ref {f : Fra NX} {z : Bool} (h : f.ref = z) : (fac f)[3]? = some (.bool z) := by subst h; rfl
theorem fac_dirty {f : Fra NX} {z : Bool} (h : f.dirty = z) : (fac f)[4]? = some (.bool z) := by subst h; rfl
theorem evP_none : evP none = .tuple #[.int .i64 0, nv zeroNV, .bool false, .bool false] := rfl
theorem evP_some (a : Nat) (b c : Int) (d e : Bool) (x : NX) (o : Int) : evP (some ⟨a, b, c, d, e, x, o⟩) = .tuple #[.int .i64 b, nv x.v, .bool e, .bool true] := rfl
theorem fac_ents {f : Fra NX} {m : Nat} (h : f.node.v.n1 = m) : (fac f)[6]? = some (.slice f.node.v.A1 m f.node.v.c1) := by subst h; rfl
set_option maxHeartbeats 16000000 in
theorem awake16 (w : World) : Calls Tryz.prog 6 #[] w fun e w' => e = .returned (.bool true) ∧ Fr w w' := by
  have hww := fr_refl w
  have is5 : W64 5 := ⟨by decide, by decide⟩
  have a1 : (1 : Nat) ≤ 64 := by decide
  go_enter Tryz.func6, Tryz.ntmps6
  go_wp2_with (first
    | (go_at_call 4; (with_reducible refine (z_new _ 1 (N := 1) rfl (by decide) (by decide)).mono ?_); rintro e w1 ⟨g, rfl, H1⟩; rw [a_new] at H1)
    | (go_at_call 4; (with_reducible refine (pnew_no _ 0 (by decide)).mono ?_); rintro e w2 ⟨rfl, rfl⟩)
    | (go_at_call 15; (with_reducible refine (z_pin H1.out (by decide) a_pin0).mono ?_); rintro e w3 ⟨rfl, H3⟩)
    | (go_at_call 15; (with_reducible refine (z_pin H3.out.1 (by decide) a_pin1).mono ?_); rintro e w4 ⟨rfl, H4⟩)
    | (go_at_call 15; (with_reducible refine (z_pin H4.out.1 (by decide) a_pin2).mono ?_); rintro e w5 ⟨rfl, H5⟩)
    | (go_at_call 16; (with_reducible refine (z_claim H5.out.1 (by decide) a_claim).mono ?_); rintro e w6 ⟨rfl, H6⟩)
    | (go_at_call 18; (with_reducible refine (leaf_one w6 0 (by simp [Is64])).mono ?_); rintro e w7 ⟨v, rfl, HV, f67⟩; have H7 := keep (H6.out.1.fr f67); clear f67)
    | (go_at_call 17; (with_reducible refine (z_fill H7.out (by decide) is5 ⟨v, leafN [0]⟩ rfl HV.out).mono ?_); rintro e w8 ⟨v1, O, m, c, hvn, rfl, H8⟩; rw [a_fill] at H8 ⊢; have hm1 : m = 1 := H8.out.1.len.symm; subst hm1; obtain ⟨bO, oO, hO⟩ := H8.out.1.row.addr (by decide); subst hO; have HR8 := keep H8.out.1.row)
    | (go_at_call 10; (with_reducible refine (z_node H8.out.2.1 is5 (a_node v1)).mono ?_); rintro e w9 ⟨v2, rfl, h9, f9⟩; have hn2 : v2.n1 = 1 := by { have := h9.out.l1; rw [hvn, one_leaf] at this; exact this.symm }; have HR9 := keep (HR8.fr f9); have H9 := keep (H8.out.2.1.fr f9); clear h9 f9)
    | (refine wpList_store_at (ds := v2.cells) node16_info rfl (.tmp 11) (.tmp 58) rfl w9.heap.size 0 rfl rfl rfl (nv_onex v2) (Arr.new w9 zeroNV.cells.toArray 41) (by decide) (splice_all _ _ (by show 5 ≤ 5; decide)) ?_; intro W10 hA10 hk10; have f10 : Fr w9 W10 := hk10.fr (fr_new (fr_refl w9) _) (Nat.le_refl _); have HR10 := keep (HR9.out.fr f10); have H10 := keep (H9.out.fr f10); have HA10 := keep hA10; clear hA10 hk10 f10)
    | (go_at_call 19; (with_reducible refine (z_evict H10.out (a_evict v1) evP_none).mono ?_); rintro e w11 ⟨rfl, H11⟩; have HR11 := keep (H11.out.2.rw HR10.out (by decide) (by decide) (by decide)); have HA11 := keep (H11.out.2 _ _ _ HA10.out (by decide) (by decide) (by decide)))
    | (refine wpList_store_at (ds := zeroNV.cells) node16_info rfl (.tmp 14) (.tmp 64) rfl w11.heap.size 0 rfl rfl rfl (nv_onex zeroNV) (Arr.new w11 zeroNV.cells.toArray 41) (by decide) (splice_all _ _ (by show 5 ≤ 5; decide)) ?_; intro W12 hA12 hk12; have f12 : Fr w11 W12 := hk12.fr (fr_new (fr_refl w11) _) (Nat.le_refl _); have HR12 := keep (HR11.out.fr f12); have H12 := keep (H11.out.1.fr f12); have HA12 := keep (HA11.out.below f12 HA11.out.lt); clear hA12 hk12 f12)
    | (go_at_call 20; (with_reducible refine (z_frames H12.out).mono ?_); rintro e w13 ⟨Q, qc, l', rfl, H13⟩; obtain ⟨f', e1, e2, e3, e4, e5, e6, e7, e8⟩ := H13.out.1.get (i := 0) rfl; obtain ⟨bQ, oQ, hQ, hq⟩ := H13.out.1.cells (by decide); subst hQ; have hq2 := hq w13 (fr_refl _) 0 f' e1 2 (.int .i64 2) (fac_pins e4); have hl0 := ri_at (HR12.out.fr H13.out.2) (i := 0) rfl; have hA := HA12.out.below H13.out.2 HA12.out.lt; have hnE : w13.cell? ⟨w9.heap.size, 1, none⟩ = some (.slice v2.A1 1 v2.c1) := (hA.cell 1).trans (nv_ents hn2); simp only [Nat.add_zero, Nat.zero_mul] at hl0 hq2; have H14 := keep (H12.out.fr H13.out.2); clear e2 e3 e5 e6 e7 e8 e4 e1 hq)
    | (go_at_call 21; (with_reducible refine (z_line H14.out (by decide) (m := 1) rfl).mono ?_); rintro e w15 ⟨O5, c5, rfl, H15⟩; have H16 := keep (H14.out.fr H15.out.2))
    | (go_at_call 22; (with_reducible refine (z_may H16.out (by decide) (a_may2 v1)).mono ?_); rintro e w17 ⟨rfl, f17⟩; have H17 := keep (H16.out.fr f17); clear f17)
    | (go_at_call 22; (with_reducible refine (z_may H17.out (by decide) (a_may1 v1)).mono ?_); rintro e w18 ⟨rfl, f18⟩; have H18 := keep (H17.out.fr f18); clear f18)
    | (go_at_call 23; (with_reducible refine (z_free H18.out (r := 0) (R := 0) (a_free v1) rfl).mono ?_); rintro e w19 ⟨rfl, f19⟩; have H19 := keep (H18.out.fr f19); clear f19)
    | fail)
  go_ret
  exact ⟨rfl, H19.out.frw⟩
end Go.Proofs.YtmoaddbpfekdbaaGreat
