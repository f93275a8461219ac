/- CachePlays: both caches in memory, side by side. -/
import Derived.Test.YtmoaddbpfekdbaaGreatPz1
import Derived.Test.YtmoaddbpfekdbaaGreatM25
import Derived.Test.YtmoaddbpfekdbaaGreatM26
namespace Go.Proofs.YtmoaddbpfekdbaaGreat
set_option linter.unusedVariables false
set_option linter.unusedSimpArgs false
set_option linter.unusedSectionVars false
set_option maxRecDepth 100000
open Go.RowKit
/-- A block of neither cache. -/
def Apt (gp : Nat) (hp : PH) (gd : Nat) (hd : CH) (b : Nat) : Prop := ¬ PHX gp hp b ∧ ¬ CHX gd hd b
/-- Blocks of other types stay. -/
def KeepA (W W' : World) : Prop := ∀ k T cs, Arr W k T cs → T ≠ 57 → T ≠ 52 → T ≠ 93 → T ≠ 61 → T ≠ 63 → T ≠ 103 → Arr W' k T cs
/-- Both caches in memory, in blocks made since w0; their nodes lie apart from both. -/
structure PD (w0 W : World) (gp : Nat) (hp : PH) (gd : Nat) (hd : CH) (n K : Nat) (t d : Ca NX) : Prop where
  pn : PN W gp hp n K t
  dc : DC W gd hd d
  np : ∀ f ∈ t.fs, NP W (Apt gp hp gd hd) f.node.v f.node.n
  nd : ∀ f ∈ d.fs, NP W (Apt gp hp gd hd) f.node.v f.node.n
  bp : ∀ k, PHX gp hp k → w0.heap.size ≤ k
  bdd : ∀ k, CHX gd hd k → w0.heap.size ≤ k
  fr : Fr w0 W
structure PTo (W W' : World) (gp : Nat) (hp hp' : PH) (gd : Nat) (hd hd' : CH) : Prop where
  keep : KeepA W W'
  nodes : ∀ (v : NV) (m : RN), NP W (Apt gp hp gd hd) v m → NP W' (Apt gp hp' gd hd') v m
theorem NP.nh {w : World} {ok : Nat → Prop} {v : NV} {n : RN} (h : NP w ok v n) : NH w w.heap.size v n := { h with hB := Nat.le_refl _, h1 := h.h1.has, h2 := h.h2.has, h3 := h.h3.has, h4 := h.h4.has }
theorem HasP.both {w : World} {ok1 ok2 : Nat → Prop} {A : Option Addr} {xs : List Value} (h1 : HasP w ok1 A xs) (h2 : HasP w ok2 A xs) : HasP w (fun b => ok1 b ∧ ok2 b) A xs := fun j u hu => by
  obtain ⟨b, off, e, o1, c⟩ := h1 j u hu
  obtain ⟨b2, off2, e2, o2, -⟩ := h2 j u hu
  rw [e] at e2
  injection e2 with e2
  injection e2 with e3 e4
  subst e3 e4
  exact ⟨b, off, e, ⟨o1, o2⟩, c⟩
theorem NP.both {w : World} {ok1 ok2 : Nat → Prop} {v : NV} {n : RN} (h : NP w ok1 v n) (k : NP w ok2 v n) : NP w (fun b => ok1 b ∧ ok2 b) v n := { h with h1 := h.h1.both k.h1, h2 := h.h2.both k.h2, h3 := h.h3.both k.h3, h4 := h.h4.both k.h4 }
section
variable {w0 W W' : World} {gp gd n K K' : Nat} {hp hp' : PH} {hd hd' : CH} {t t' d d' : Ca NX}
theorem PN.off {g : Nat} {h : PH} (k : PN W g h n K t) {i T : Nat} {cs : Array Value} (ha : Arr W i T cs) (h1 : T ≠ 57) (h2 : T ≠ 52) (h3 : T ≠ 93) : ¬ PHX g h i := fun hx => by
  rcases hx with e | e | e | e | e
  · subst e; exact h1 (ha.ty k.pc.box)
  · obtain ⟨cs2, h9⟩ := k.pc.fs.arrT e; exact h2 (ha.ty h9)
  · exact k.pc.mp.ty ha e
  · obtain ⟨cs2, h9⟩ := k.pc.ln.arrT e; exact h3 (ha.ty h9)
  · obtain ⟨cs2, h9⟩ := k.pc.ld.arrT e; exact h3 (ha.ty h9)
theorem DC.off {g : Nat} {h : CH} (k : DC W g h d) {i T : Nat} {cs : Array Value} (ha : Arr W i T cs) (h1 : T ≠ 61) (h2 : T ≠ 63) (h3 : T ≠ 103) : ¬ CHX g h i := fun hx => by
  rcases hx with e | e | e | e
  · subst e; exact h1 (ha.ty k.box)
  · obtain ⟨cs2, h9⟩ := k.fs.arrT e; exact h2 (ha.ty h9)
  · obtain ⟨cs2, h9⟩ := k.ln.arrT e; exact h3 (ha.ty h9)
  · obtain ⟨cs2, h9⟩ := k.ld.arrT e; exact h3 (ha.ty h9)
theorem pd_apart (k : PN W gp hp n K t) (l : DC W gd hd d) : ∀ i, CHX gd hd i → ¬ PHX gp hp i := fun i hi => by
  rcases hi with e | e | e | e
  · subst e; exact k.off l.box (by decide) (by decide) (by decide)
  · obtain ⟨cs2, h9⟩ := l.fs.arrT e; exact k.off h9 (by decide) (by decide) (by decide)
  · obtain ⟨cs2, h9⟩ := l.ln.arrT e; exact k.off h9 (by decide) (by decide) (by decide)
  · obtain ⟨cs2, h9⟩ := l.ld.arrT e; exact k.off h9 (by decide) (by decide) (by decide)
theorem KeepA.of_fr (f : Fr W W') : KeepA W W' := fun k T cs ha _ _ _ _ _ _ => ha.below f ha.lt
theorem KeepA.trans {W'' : World} (a : KeepA W W') (b : KeepA W' W'') : KeepA W W'' := fun k T cs ha h1 h2 h3 h4 h5 h6 => b k T cs (a k T cs ha h1 h2 h3 h4 h5 h6) h1 h2 h3 h4 h5 h6
theorem PD.go (h : PD w0 W gp hp gd hd n K t d) (f : Fr W W') : PD w0 W' gp hp gd hd n K t d := ⟨h.pn.fr f, h.dc.fr f, fun x hx => (h.np x hx).fr f, fun x hx => (h.nd x hx).fr f, h.bp, h.bdd, fr_step h.fr f⟩
theorem PD.more (h : PD w0 W gp hp gd hd n K t d) (hk : K ≤ K') : PD w0 W gp hp gd hd n K' t d := { h with pn := h.pn.more hk }
/-- The program's cache takes a step. -/
theorem PD.prog (h : PD w0 W gp hp gd hd n K t d) (p : PNT W W' gp hp n K' t') (hn : ∀ f ∈ t'.fs, ((∃ f0 ∈ t.fs, f.node = f0.node) ∨ f.node = default) ∨ NP W' (fun b => W.heap.size ≤ b) f.node.v f.node.n) :
    ∃ hp', PD w0 W' gp hp' gd hd n K' t' d ∧ PTo W W' gp hp hp' gd hd hd := by
  obtain ⟨hp', a1, a2, a3⟩ := p
  have ap := pd_apart h.pn h.dc
  have hlt := h.dc.lt
  have turn : ∀ (v : NV) (m : RN), NP W (Apt gp hp gd hd) v m → NP W' (Apt gp hp' gd hd) v m := fun v m k => by
    have k2 := k.weak (ok' := fun b => Apt gp hp gd hd b ∧ Apt gp hp' gd hd b) fun b hb hk => ⟨hk, fun e => by
      rcases a3 b e with e | e
      · exact hk.1 e
      · omega, hk.2⟩
    exact (k2.chg a2 fun b hb => hb.1.1).weak fun b _ hb => hb.2
  refine ⟨hp', ⟨a1, h.dc.chg a2 fun i hi => ap i hi, fun f hf => ?_, fun f hf => turn _ _ (h.nd f hf), fun k hk => ?_, h.bdd, h.fr.step_chg a2 h.bp⟩, fun k T cs ha h1 h2 h3 _ _ _ => PNT.keepT h.pn a2 k T cs ha h1 h2 h3, turn⟩
  · rcases hn f hf with (⟨f0, e1, e2⟩ | e) | e
    · rw [e2]; exact turn _ _ (h.np f0 e1)
    · rw [e]; exact zeroN_np
    · exact (e.both (a1.nod f hf)).weak fun b _ hb => ⟨hb.2, fun hx => by have := hlt b hx; have := hb.1; omega⟩
  · rcases a3 k hk with e | e
    · exact h.bp k e
    · exact Nat.le_trans h.fr.size e
/-- The document's cache takes a step. -/
theorem PD.doc (h : PD w0 W gp hp gd hd n K t d) (p : DTurn W W' (CHX gd hd) gd d') (hn : ∀ f ∈ d'.fs, ((∃ f0 ∈ d.fs, f.node = f0.node) ∨ f.node = default) ∨ NP W (Apt gp hp gd hd) f.node.v f.node.n) :
    ∃ hd', PD w0 W' gp hp gd hd' n K t d' ∧ PTo W W' gp hp hp gd hd hd' := by
  obtain ⟨hd', a1, a2, a3⟩ := p
  have ap := pd_apart h.pn h.dc
  have turn : ∀ (v : NV) (m : RN), NP W (Apt gp hp gd hd) v m → NP W' (Apt gp hp gd hd') v m := fun v m k => by
    have k2 := k.weak (ok' := fun b => Apt gp hp gd hd b ∧ Apt gp hp gd hd' b) fun b hb hk => ⟨hk, hk.1, fun e => by
      rcases a3 b e with e | e
      · exact hk.2 e
      · omega⟩
    exact (k2.chg a2 fun b hb => hb.1.2).weak fun b _ hb => hb.2
  refine ⟨hd', ⟨h.pn.chg a2 (fun i hi hx => ap i hx hi) fun x hx => ⟨Apt gp hp gd hd, h.np x hx, fun b hb => ⟨hb.2, hb.1⟩⟩, a1, fun f hf => turn _ _ (h.np f hf), fun f hf => ?_, h.bp, fun k hk => ?_, h.fr.step_chg a2 h.bdd⟩, fun k T cs ha _ _ _ h4 h5 h6 => ha.chg a2 (h.dc.off ha h4 h5 h6), turn⟩
  · rcases hn f hf with (⟨f0, e1, e2⟩ | e) | e
    · rw [e2]; exact turn _ _ (h.nd f0 e1)
    · rw [e]; exact zeroN_np
    · exact turn _ _ e
  · rcases a3 k hk with e | e
    · exact h.bdd k e
    · exact Nat.le_trans h.fr.size e
theorem PNT.ofV2 {g : Nat} {h : PH} {c : Bool} {v : NX} {u : Ca NX} (k : PN W g h n K t) (p : PTurnV W W' (PHX g h) g K' u c v) (h1 : PI u) (h2 : ∀ f ∈ u.fs, ((∃ f0 ∈ t.fs, f.node = f0.node) ∨ f.node = default) ∨ (c = true ∧ f.node = v)) (h3 : Bd u n K') (h4 : 0 ≤ u.hand ∧ u.hand < (n : Int)) :
    PNT W W' g h n K' u ∧ ∀ f ∈ u.fs, ((∃ f0 ∈ t.fs, f.node = f0.node) ∨ f.node = default) ∨ NP W' (fun b => W.heap.size ≤ b) f.node.v f.node.n := by
  refine ⟨PNT.ofV k p h1 h2 h3 h4, fun f hf => ?_⟩
  obtain ⟨h', a1, a2, a3, a4⟩ := p
  rcases h2 f hf with e | ⟨e1, e2⟩
  · exact .inl e
  · exact .inr (by rw [e2]; exact (a4 e1).weak fun b _ hb => hb.1)
theorem b_pin (h : PD w0 W gp hp gd hd n K t d) (hK : K ≤ 1000) {x b r : Int} (hr : (pinC t x b).1 = r) :
    Calls Tryz.prog 15 #[.pointer (some ⟨gp, 0, none⟩), .int .i64 x, .int .i64 b] W fun e w' => e = .returned (.int .i64 r) ∧ Hid (∃ hp', PD w0 w' gp hp' gd hd n (K + 1) (pinC t x b).2 d ∧ PTo W w' gp hp hp' gd hd hd) := by
  subst hr
  refine (l_pin h.pn hK x b).mono ?_
  rintro e w' ⟨rfl, H⟩
  exact ⟨rfl, keep (h.prog H.out fun f hf => .inl (nod_pin t x b f hf))⟩
theorem b_claim (h : PD w0 W gp hp gd hd n K t d) (hK : K ≤ 1000) {x : Int} {r : Bool} (hr : (claimC t x).1 = r) :
    Calls Tryz.prog 16 #[.pointer (some ⟨gp, 0, none⟩), .int .i64 x] W fun e w' => e = .returned (.bool r) ∧ Hid (∃ hp', PD w0 w' gp hp' gd hd n (K + 1) (claimC t x).2 d ∧ PTo W w' gp hp hp' gd hd hd) := by
  subst hr
  refine (l_claim h.pn hK x).mono ?_
  rintro e w' ⟨rfl, H⟩
  exact ⟨rfl, keep (h.prog H.out fun f hf => .inl (nod_claim t x f hf))⟩
theorem b_give (h : PD w0 W gp hp gd hd n K t d) (hK : K ≤ 1000) {x r : Int} (hr : ((giveC t x).1 : Int) = r) :
    Calls Tryz.prog 29 #[.pointer (some ⟨gp, 0, none⟩), .int .i64 x] W fun e w' => e = .returned (.int .i64 r) ∧ Hid (∃ hp', PD w0 w' gp hp' gd hd n (K + 1) (giveC t x).2 d ∧ PTo W w' gp hp hp' gd hd hd) := by
  subst hr
  refine (l_give h.pn x).mono ?_
  rintro e w' ⟨rfl, H⟩
  exact ⟨rfl, keep (h.prog H.out fun f hf => .inl (nod_give t x f hf))⟩
theorem b_unpin (h : PD w0 W gp hp gd hd n K t d) (hK : K ≤ 1000) {x : Int} (hx : W64 x) {r : Bool} (hr : (unpinC t x).1 = r) :
    Calls Tryz.prog 33 #[.pointer (some ⟨gp, 0, none⟩), .int .i64 x] W fun e w' => e = .returned (.bool r) ∧ Hid (∃ hp', PD w0 w' gp hp' gd hd n (K + 1) (unpinC t x).2 d ∧ PTo W w' gp hp hp' gd hd hd) := by
  subst hr
  refine (l_unpin h.pn hK x hx).mono ?_
  rintro e w' ⟨rfl, H⟩
  exact ⟨rfl, keep (h.prog H.out fun f hf => .inl (nod_unpin t x f hf))⟩
theorem d_pin (h : PD w0 W gp hp gd hd n K t d) (hb : Bd d n K') (hK : K' ≤ 1000) {x b r : Int} (hr : (pinD d x b).1 = r) :
    Calls Tryz.prog 25 #[.pointer (some ⟨gd, 0, none⟩), .int .i64 x, .int .i64 b] W fun e w' => e = .returned (.int .i64 r) ∧ Hid (∃ hd', PD w0 w' gp hp gd hd' n K t (pinD d x b).2 ∧ PTo W w' gp hp hp gd hd hd') := by
  subst hr
  have b1 : d.fs.length ≤ 100000 := by have := hb.len; have := h.pn.sm.2; omega
  have b2 : d.line.length ≤ 100000 := by have := hb.ln; omega
  have b3 : d.loads.length ≤ 100000 := by have := hb.ld; omega
  have b4 := hb.pins (by omega)
  refine (dpin_at x b h.dc b1 b2 b3 b4).mono ?_
  rintro e w' ⟨rfl, H⟩
  exact ⟨rfl, keep (h.doc H.out fun f hf => .inl (nod_pinD d x b f hf))⟩
theorem d_claim (h : PD w0 W gp hp gd hd n K t d) (hb : Bd d n K') (hK : K' ≤ 1000) {x : Int} {r : Bool} (hr : (claimC d x).1 = r) :
    Calls Tryz.prog 28 #[.pointer (some ⟨gd, 0, none⟩), .int .i64 x] W fun e w' => e = .returned (.bool r) ∧ Hid (∃ hd', PD w0 w' gp hp gd hd' n K t (claimC d x).2 ∧ PTo W w' gp hp hp gd hd hd') := by
  subst hr
  have b1 : d.fs.length ≤ 100000 := by have := hb.len; have := h.pn.sm.2; omega
  have b2 : d.line.length ≤ 100000 := by have := hb.ln; omega
  have b3 : d.loads.length ≤ 100000 := by have := hb.ld; omega
  have b4 := hb.pins (by omega)
  refine (dclaim_at x h.dc b1 b2 b3).mono ?_
  rintro e w' ⟨rfl, H⟩
  exact ⟨rfl, keep (h.doc H.out fun f hf => .inl (nod_claim d x f hf))⟩
theorem d_give (h : PD w0 W gp hp gd hd n K t d) (hb : Bd d n K') (hK : K' ≤ 1000) {x r : Int} (hr : ((giveC d x).1 : Int) = r) :
    Calls Tryz.prog 30 #[.pointer (some ⟨gd, 0, none⟩), .int .i64 x] W fun e w' => e = .returned (.int .i64 r) ∧ Hid (∃ hd', PD w0 w' gp hp gd hd' n K t (giveC d x).2 ∧ PTo W w' gp hp hp gd hd hd') := by
  subst hr
  have b1 : d.fs.length ≤ 100000 := by have := hb.len; have := h.pn.sm.2; omega
  have b2 : d.line.length ≤ 100000 := by have := hb.ln; omega
  have b3 : d.loads.length ≤ 100000 := by have := hb.ld; omega
  have b4 := hb.pins (by omega)
  refine (dgive_at x h.dc b1).mono ?_
  rintro e w' ⟨rfl, H⟩
  exact ⟨rfl, keep (h.doc H.out fun f hf => .inl (nod_give d x f hf))⟩
theorem d_unpin (h : PD w0 W gp hp gd hd n K t d) (hb : Bd d n K') (hK : K' ≤ 1000) {x : Int} {r : Bool} (hr : (unpinC d x).1 = r) :
    Calls Tryz.prog 34 #[.pointer (some ⟨gd, 0, none⟩), .int .i64 x] W fun e w' => e = .returned (.bool r) ∧ Hid (∃ hd', PD w0 w' gp hp gd hd' n K t (unpinC d x).2 ∧ PTo W w' gp hp hp gd hd hd') := by
  subst hr
  have b1 : d.fs.length ≤ 100000 := by have := hb.len; have := h.pn.sm.2; omega
  have b2 : d.line.length ≤ 100000 := by have := hb.ln; omega
  have b3 : d.loads.length ≤ 100000 := by have := hb.ld; omega
  have b4 := hb.pins (by omega)
  refine (dunpin_at x h.dc b1 b4).mono ?_
  rintro e w' ⟨rfl, H⟩
  exact ⟨rfl, keep (h.doc H.out fun f hf => .inl (nod_unpin d x f hf))⟩
theorem nods_set (t : Ca NX) (x : Int) (v : NX) : ∀ f ∈ (setC t x v).2.fs, ((∃ f0 ∈ t.fs, f.node = f0.node) ∨ f.node = default) ∨ ((readyI t x).isSome = true ∧ f.node = v) := by
  unfold setC
  cases readyI t x with
  | none => exact fun f hf => .inl (nod_same _ f hf)
  | some i => exact mem_mod fun _ => rfl
theorem nods_name (t : Ca NX) (x b : Int) (v : NX) : ∀ f ∈ (nameC t x b v).2.fs, ((∃ f0 ∈ t.fs, f.node = f0.node) ∨ f.node = default) ∨ ((nameC t x b v).1 = true ∧ f.node = v) := by
  unfold nameC
  split
  · cases t.fs.findIdx? (isC x) with
    | none => exact fun f hf => .inl (nod_same _ f hf)
    | some i =>
      intro f hf
      rcases List.mem_or_eq_of_mem_set hf with e | e
      · exact .inl (.inl ⟨f, e, rfl⟩)
      · exact .inr ⟨rfl, by rw [e]⟩
  · exact fun f hf => .inl (nod_same _ f hf)
theorem nods_fill (t : Ca NX) (x : Int) (v : NX) : ∀ f ∈ (fillC t x v).2.2.fs, ((∃ f0 ∈ t.fs, f.node = f0.node) ∨ f.node = default) ∨ ((loadI t x).isSome = true ∧ f.node = v) := by
  unfold fillC
  cases loadI t x with
  | none => exact fun f hf => .inl (nod_same _ f hf)
  | some i => exact mem_mod fun _ => rfl
theorem b_set (h : PD w0 W gp hp gd hd n K t d) {x : Int} (hx : W64 x) {ok : Nat → Prop} {val : Value} (v : NX) (hval : val = nv v.v) (hv : NP W ok v.v v.n) {r : Bool} (hr : ∀ v' : NX, v'.n = v.n → (setC t x v').1 = r) :
    Calls Tryz.prog 35 #[.pointer (some ⟨gp, 0, none⟩), .int .i64 x, val] W fun e w' => ∃ v' : NX, v'.n = v.n ∧ e = .returned (.bool r) ∧ Hid (∃ hp', PD w0 w' gp hp' gd hd n (K + 1) (setC t x v').2 d ∧ PTo W w' gp hp hp' gd hd hd) := by
  subst hval
  refine (pset_at x v hx h.pn.pc h.pn.pi hv).mono ?_
  rintro e w' ⟨v', h1, rfl, H⟩
  refine ⟨v', h1, by rw [hr v' h1], keep ?_⟩
  obtain ⟨h', a1, a2, a3, a4⟩ := H.out
  have e : (setC t x v').2.hand = t.hand := by unfold setC; cases readyI t x <;> rfl
  obtain ⟨p, q⟩ := PNT.ofV2 h.pn (c := (readyI t x).isSome) ⟨h', a1.more (Nat.le_succ K), a2, a3, a4⟩ (pi_setC h.pn.pi x v') (nods_set t x v') ((bd_setC h.pn.bd x v').more) (by rw [e]; exact h.pn.hnd)
  exact h.prog p q
theorem b_name (h : PD w0 W gp hp gd hd n K t d) (hK : K ≤ 1000) {x b : Int} (hx : W64 x) (hb : W64 b) {ok : Nat → Prop} {val : Value} (v : NX) (hval : val = nv v.v) (hv : NP W ok v.v v.n) {r : Bool} (hr : ∀ v' : NX, v'.n = v.n → (nameC t x b v').1 = r) :
    Calls Tryz.prog 31 #[.pointer (some ⟨gp, 0, none⟩), .int .i64 x, .int .i64 b, val] W fun e w' => ∃ v' : NX, v'.n = v.n ∧ e = .returned (.bool r) ∧ Hid (∃ hp', PD w0 w' gp hp' gd hd n (K + 1) (nameC t x b v').2 d ∧ PTo W w' gp hp hp' gd hd hd) := by
  subst hval
  refine (pname_at x b v hx hb h.pn.pc h.pn.pi h.pn.len (by omega) hv).mono ?_
  rintro e w' ⟨v', h1, rfl, H⟩
  refine ⟨v', h1, by rw [hr v' h1], keep ?_⟩
  have e : (nameC t x b v').2.hand = t.hand := by
    unfold nameC
    split
    · cases t.fs.findIdx? (isC x) <;> rfl
    · rfl
  obtain ⟨p, q⟩ := PNT.ofV2 h.pn H.out (pi_name h.pn.pi x b v') (nods_name t x b v') ((bd_name h.pn.bd x b v').more) (by rw [e]; exact h.pn.hnd)
  exact h.prog p q
theorem b_fill (h : PD w0 W gp hp gd hd n K t d) (hK : K ≤ 1000) {x : Int} (hx : W64 x) {ok : Nat → Prop} {val : Value} (v : NX) (hval : val = nv v.v) (hv : NP W ok v.v v.n) {l : List Int} {r : Bool} (hr : ∀ v' : NX, v'.n = v.n → (fillC t x v').1 = l ∧ (fillC t x v').2.1 = r) :
    Calls Tryz.prog 17 #[.pointer (some ⟨gp, 0, none⟩), .int .i64 x, val] W fun e w' => ∃ (v' : NX) (O : Option Addr) (m c : Nat), v'.n = v.n ∧ e = .returned (.tuple #[.slice O m c, .bool r]) ∧ Hid (ResI W w' O m c l ∧ ∃ hp', PD w0 w' gp hp' gd hd n (K + 1) (fillC t x v').2.2 d ∧ PTo W w' gp hp hp' gd hd hd) := by
  subst hval
  cases hl : loadI t x with
  | none =>
    have e : ∀ v : NX, fillC t x v = ([], false, t) := fun v => by unfold fillC; rw [hl]
    obtain ⟨r1, r2⟩ := hr v rfl
    rw [e v] at r1 r2
    simp only at r1 r2
    subst r1 r2
    refine (pfill_no x v hx h.pn.pc h.pn.pi hl).mono ?_
    rintro e w' ⟨rfl, f⟩
    refine ⟨v, none, 0, 0, rfl, rfl, keep ⟨⟨Rw.nil _ _ _, rfl, fun k hk => by cases hk⟩, ?_⟩⟩
    rw [e v]
    exact h.prog (.same (h.pn.more (Nat.le_succ K)) f) fun f hf => .inl (nod_same _ f hf)
  | some i =>
    refine (pfill_yes x v hx h.pn.pc h.pn.pi (h.pn.ld hK) hv hl).mono ?_
    rintro e w' ⟨v', O, m, c, h1, rfl, H⟩
    have e : fillC t x v' = (waitL t.loads x, true, { t with fs := t.fs.modify i fun f => { f with st := 2, node := v' }, loads := restL t.loads x }) := by unfold fillC; rw [hl]; rfl
    obtain ⟨r1, r2⟩ := hr v' h1
    have hpi := pi_fill h.pn.pi x v'
    have hbd := bd_fill h.pn.bd x v'
    have hno := nods_fill t x v'
    rw [hl] at hno
    rw [e] at r1 r2 hpi hbd hno
    simp only at r1 r2
    subst r1 r2
    refine ⟨v', O, m, c, h1, rfl, keep ?_⟩
    obtain ⟨a0, h', a1, a2, a3, a4⟩ := H.out
    rw [e]
    obtain ⟨p, q⟩ := PNT.ofV2 h.pn (c := true) ⟨h', a1.more (Nat.le_succ K), a2, a3, a4⟩ hpi (fun f hf => (hno f hf).imp id fun z => ⟨rfl, z.2⟩) hbd.more h.pn.hnd
    exact ⟨a0, h.prog p q⟩
theorem d_set (h : PD w0 W gp hp gd hd n K t d) (hb : Bd d n K') (hK : K' ≤ 1000) {x : Int} {r : Bool} {val : Value} (v : NX) (hval : val = nv v.v) (hv : NP W (Apt gp hp gd hd) v.v v.n) (hr : (setC d x v).1 = r) :
    Calls Tryz.prog 36 #[.pointer (some ⟨gd, 0, none⟩), .int .i64 x, val] W fun e w' => e = .returned (.bool r) ∧ Hid (∃ hd', PD w0 w' gp hp gd hd' n K t (setC d x v).2 ∧ PTo W w' gp hp hp gd hd hd') := by
  subst hval
  subst hr
  have b1 : d.fs.length ≤ 100000 := by have := hb.len; have := h.pn.sm.2; omega
  have b2 : d.line.length ≤ 100000 := by have := hb.ln; omega
  have b3 : d.loads.length ≤ 100000 := by have := hb.ld; omega
  refine (dset_at x v h.dc b1).mono ?_
  rintro e w' ⟨rfl, H⟩
  exact ⟨rfl, keep (h.doc H.out fun f hf => (nods_set d x v f hf).imp id fun z => by rw [z.2]; exact hv)⟩
theorem d_name (h : PD w0 W gp hp gd hd n K t d) (hb : Bd d n K') (hK : K' ≤ 1000) {x b : Int} {r : Bool} {val : Value} (v : NX) (hval : val = nv v.v) (hv : NP W (Apt gp hp gd hd) v.v v.n) (hr : (nameC d x b v).1 = r) :
    Calls Tryz.prog 32 #[.pointer (some ⟨gd, 0, none⟩), .int .i64 x, .int .i64 b, val] W fun e w' => e = .returned (.bool r) ∧ Hid (∃ hd', PD w0 w' gp hp gd hd' n K t (nameC d x b v).2 ∧ PTo W w' gp hp hp gd hd hd') := by
  subst hval
  subst hr
  have b1 : d.fs.length ≤ 100000 := by have := hb.len; have := h.pn.sm.2; omega
  have b2 : d.line.length ≤ 100000 := by have := hb.ln; omega
  have b3 : d.loads.length ≤ 100000 := by have := hb.ld; omega
  refine (dname_at x b v h.dc b1).mono ?_
  rintro e w' ⟨rfl, H⟩
  exact ⟨rfl, keep (h.doc H.out fun f hf => (nods_name d x b v f hf).imp id fun z => by rw [z.2]; exact hv)⟩
theorem d_fill (h : PD w0 W gp hp gd hd n K t d) (hb : Bd d n K') (hK : K' ≤ 1000) {x : Int} {l : List Int} {r : Bool} {val : Value} (v : NX) (hval : val = nv v.v) (hv : NP W (Apt gp hp gd hd) v.v v.n) (hr : (fillC d x v).1 = l ∧ (fillC d x v).2.1 = r) :
    Calls Tryz.prog 26 #[.pointer (some ⟨gd, 0, none⟩), .int .i64 x, val] W fun e w' => ∃ (O : Option Addr) (m c : Nat), e = .returned (.tuple #[.slice O m c, .bool r]) ∧ Hid (ResI W w' O m c l ∧ ∃ hd', PD w0 w' gp hp gd hd' n K t (fillC d x v).2.2 ∧ PTo W w' gp hp hp gd hd hd') := by
  subst hval
  obtain ⟨rfl, rfl⟩ := hr
  have b1 : d.fs.length ≤ 100000 := by have := hb.len; have := h.pn.sm.2; omega
  have b2 : d.line.length ≤ 100000 := by have := hb.ln; omega
  have b3 : d.loads.length ≤ 100000 := by have := hb.ld; omega
  refine (dfill_at x v h.dc b1 b3).mono ?_
  rintro e w' ⟨O, m, c, rfl, H⟩
  exact ⟨O, m, c, rfl, keep ⟨H.out.1, (h.doc H.out.2 fun f hf => (nods_fill d x v f hf).imp id fun z => by rw [z.2]; exact hv)⟩⟩
theorem ev_node {t : Ca NX} {o : Fra NX} (h : (evictC t).1 = some o) : (∃ f0 ∈ t.fs, o = f0) ∨ o = freeF := by
  unfold evictC at h
  split at h
  · cases h
  · injection h with h
    unfold fr at h
    cases h1 : t.fs[(sweepC t).1.toNat]? with
    | none => rw [List.getD_eq_getElem?_getD, h1] at h; exact .inr h.symm
    | some f => rw [List.getD_eq_getElem?_getD, h1] at h; exact .inl ⟨f, List.mem_of_getElem? h1, h.symm⟩
theorem b_evict (h : PD w0 W gp hp gd hd n K t d) {P : Value} (hr : evP (evictC t).1 = P) :
    Calls Tryz.prog 19 #[.pointer (some ⟨gp, 0, none⟩)] W fun e w' => e = .returned P ∧ Hid (∃ hp', PD w0 w' gp hp' gd hd n (K + 1) (evictC t).2 d ∧ PTo W w' gp hp hp' gd hd hd ∧ ∀ o, (evictC t).1 = some o → NP w' (Apt gp hp' gd hd) o.node.v o.node.n) := by
  subst hr
  refine (l_evict h.pn).mono ?_
  rintro e w' ⟨rfl, H⟩
  obtain ⟨hp', q1, q2⟩ := h.prog H.out fun f hf => .inl (nod_evict t f hf)
  refine ⟨rfl, keep ⟨hp', q1, q2, fun o ho => ?_⟩⟩
  rcases ev_node ho with ⟨f0, e1, e2⟩ | e
  · rw [e2]; exact q2.nodes _ _ (h.np f0 e1)
  · rw [e]; exact zeroN_np
theorem d_evict (h : PD w0 W gp hp gd hd n K t d) (hb : Bd d n K') (hK : K' ≤ 1000) :
    Calls Tryz.prog 37 #[.pointer (some ⟨gd, 0, none⟩)] W fun e w' => e = .returned (.tuple #[.int .i64 (sweepC d).1, .agg (evF (evictC d).1).toArray]) ∧ Hid (∃ hd', PD w0 w' gp hp gd hd' n K t (evictC d).2 ∧ PTo W w' gp hp hp gd hd hd' ∧ ∀ o, (evictC d).1 = some o → NP w' (Apt gp hp gd hd') o.node.v o.node.n) := by
  have b1 : d.fs.length ≤ 100000 := by have := hb.len; have := h.pn.sm.2; omega
  refine (devict_at h.dc b1).mono ?_
  rintro e w' ⟨rfl, H⟩
  obtain ⟨hd', q1, q2⟩ := h.doc H.out fun f hf => .inl (nod_evict d f hf)
  refine ⟨rfl, keep ⟨hd', q1, q2, fun o ho => ?_⟩⟩
  rcases ev_node ho with ⟨f0, e1, e2⟩ | e
  · rw [e2]; exact q2.nodes _ _ (h.nd f0 e1)
  · rw [e]; exact zeroN_np
/-- Nodes that hold the same are the same to the document. -/
theorem same_nx {w : World} {o1 o2 : Nat → Prop} {v1 v2 : NV} {m : RN} (h1 : NP w o1 v1 m) (h2 : NP w o2 v2 m) : ∀ W, Fr w W → Calls Tryz.prog 12 #[nv v1, nv v2] W fun e w' => e = .returned (.bool true) ∧ Fr w w' := fun W hW => by
  refine (q_rsame (h1.fr hW).nh (h2.fr hW).nh).mono ?_
  rintro e w' ⟨rfl, f⟩
  exact ⟨by simp [smN], fr_step hW f⟩
end
end Go.Proofs.YtmoaddbpfekdbaaGreat
