/- Package clock: Sweep. -/
import Derived.Test.YtifmldlbhcpaiaaCkB
namespace Go.Proofs.Ytifmldlbhcpaiaa
set_option linter.unusedVariables false
set_option linter.unusedSimpArgs false
set_option maxRecDepth 100000
open Go.RowKit
attribute [local go_sem] Oper.semAt_some
theorem Fr.step_chg {a w W : World} {X : Nat → Prop} (h : Fr a w) (k : Chg X w W) (hx : ∀ i, X i → a.heap.size ≤ i) : Fr a W := Below.trans h (k.below h.size hx)
/-- A store into a box. -/
theorem wpListIn_store_arr {F : Fence} {N : Nat} {P : Program} {w : World} {ops : Array Oper} {rest : List Oper} {o : Oper} {a : Act} {Q : Exit → Act → World → Prop} {T n : Nat} (hs : (P.info? T).map (·.size) = some n) (hgd : o.guard = none) (x y : Operand) (ho : o.op = .store T x y)
    (g off : Nat) (hx : a.eval x = .pointer (some ⟨g, off, none⟩)) {ds : List Value} (hv : (a.eval y).cells.toList = ds) (hl : ds.length = n) (h1 : One ds)
    {T' : Nat} {cs : List Value} (ha : Arr w g T' cs.toArray) (hf : off + n ≤ cs.length) {cs' : List Value} (hc : splice cs off ds = cs')
    (h : ∀ W, Arr W g T' cs'.toArray → Chg (· = g) w W → wpListIn F N P ops Q rest (a.put o.dst undef) W) : wpListIn F N P ops Q (o :: rest) a w := by
  refine wpListIn_plain hgd fun K hK => ?_
  unfold Oper.wpIn
  refine ⟨?_, ?_⟩
  · simp [Oper.about, ho]
  · rw [Oper.semAt_plain F _ _ (by rw [ho]; intro c hc'; cases hc')]
    simp only [execOp, ho, hx, Instr.storeAt, Instr.sureAddr, Sem.run_bind, Sem.run_pure, Result.andThen_ok, run_store_at hs hv hl h1 ha hf, hc]
    exact hK _ _ (h _ (ha.setRow _) (chg_row w g _))
theorem slice_info : (Try.prog.info? 22).map (·.size) = some 1 := by kernel_rfl
/-- What Sweep's results are. -/
theorem sweep_results {tmps : Array Value} {W : World} {a b c : Nat} {v1 v2 v3 : Value} (h1 : tmps.getD 6 undef = .pointer (some ⟨a, 0, none⟩)) (h2 : tmps.getD 7 undef = .pointer (some ⟨b, 0, none⟩)) (h3 : tmps.getD 8 undef = .pointer (some ⟨c, 0, none⟩))
    (a1 : Arr W a 3 #[v1]) (a2 : Arr W b 3 #[v2]) (a3 : Arr W c 22 #[v3]) : (results Try.f9 tmps).run Try.prog W = .ok (.tuple #[v1, v2, v3]) W := by
  have c1 := a1.cell 0
  have c2 := a2.cell 0
  have c3 := a3.cell 0
  simp at c1 c2 c3 h1 h2 h3
  simp [results, Try.f9, go_sem, c1, c2, c3, h1, h2, h3]
/-- A row of marks that a call made. -/
structure ResB (w W : World) (L : Option Addr) (n c : Nat) (l : List Bool) : Prop where
  row : Rw W 4 1 L n c (rows bc l)
  len : l.length = n
  new : ∀ k, At L k → w.heap.size ≤ k
/-- The world of a sweep: the boxes from s on, the marks left. -/
structure SI (w W : World) (b1 b2 : Nat) (z : Int) (C : Option Addr) (n cc : Nat) (L : Option Addr) (lc : Nat) (v1 v2 : Value) (l : List Bool) : Prop where
  fr : Fr w W
  can : Arr W w.heap.size 22 #[.slice C n cc]
  place : Arr W (w.heap.size + 1) 3 #[v1]
  next : Arr W (w.heap.size + 2) 3 #[v2]
  left : Arr W (w.heap.size + 3) 22 #[.slice L n lc]
  many : Arr W (w.heap.size + 4) 3 #[.int .i64 n]
  vb : VB W b1 b2 z n
  off : w.heap.size + 5 ≤ b1 ∧ w.heap.size + 5 ≤ b2
  res : ResB w W L n lc l
section
variable {w W W' : World} {b1 b2 : Nat} {z : Int} {C L : Option Addr} {n cc lc : Nat} {v1 v2 : Value} {l l' : List Bool} {X : Nat → Prop}
/-- What turns no cells leaves all of it. -/
theorem SI.grown {B : Nat} (h : SI w W b1 b2 z C n cc L lc v1 v2 l) (hB : w.heap.size ≤ B) (k : Chg (NC B W) W W') : SI w W' b1 b2 z C n cc L lc v1 v2 l :=
  ⟨h.fr.step_chg k fun i hi => Nat.le_trans hB hi.1, h.can.chg k h.can.nc, h.place.chg k h.place.nc, h.next.chg k h.next.nc, h.left.chg k h.left.nc, h.many.chg k h.many.nc, ⟨h.vb.hand.chg k h.vb.hand.nc, h.vb.many.chg k h.vb.many.nc⟩, h.off, ⟨h.res.row.chg k h.res.row.nc, h.res.len, h.res.new⟩⟩
/-- A visit. -/
theorem SI.washed (h : SI w W b1 b2 z C n cc L lc v1 v2 l) (k : Chg (At L) W W') (hr : Rw W' 4 1 L n lc (rows bc l')) (hl : l'.length = n) : SI w W' b1 b2 z C n cc L lc v1 v2 l' :=
  ⟨h.fr.step_chg k h.res.new, h.can.chg k (h.res.row.ty h.can (by decide)), h.place.chg k (h.res.row.ty h.place (by decide)), h.next.chg k (h.res.row.ty h.next (by decide)), h.left.chg k (h.res.row.ty h.left (by decide)), h.many.chg k (h.res.row.ty h.many (by decide)), ⟨h.vb.hand.chg k (h.res.row.ty h.vb.hand (by decide)), h.vb.many.chg k (h.res.row.ty h.vb.many (by decide))⟩, h.off, ⟨hr, hl, h.res.new⟩⟩
theorem SI.keeps {B : Nat} (h : SI w W b1 b2 z C n cc L lc v1 v2 l) (k : Chg (At L) W W') : KeepsFrom B W W' := keeps_chg k h.res.row.arr
theorem SI.kp (h : SI w W b1 b2 z C n cc L lc v1 v2 l) (k : Chg (At L) W W') : Kp2 b1 b2 W W' :=
  kp2_chg k h.vb.hand.lt h.vb.many.lt (h.res.row.ty h.vb.hand (by decide)) (h.res.row.ty h.vb.many (by decide))
end
/-- How a sweep goes on, and how it ends. -/
def SwI (w : World) (b1 b2 : Nat) (z : Int) (C : Option Addr) (n cc : Nat) (L : Option Addr) (lc : Nat) (c r : List Bool) (pre : List (Fin n)) (W : World) : Prop :=
  ∃ l, sweepL c (pre.map Fin.val) r = (none, l) ∧ SI w W b1 b2 z C n cc L lc (.int .i64 0) (.int .i64 0) l
def SwX (w : World) (b1 b2 : Nat) (z : Int) (C : Option Addr) (n cc : Nat) (L : Option Addr) (lc : Nat) (c r : List Bool) (cd : Code) (pre : List (Fin n)) (W : World) : Prop :=
  cd = .ret ∧ ∃ l k, sweepL c (pre.map Fin.val) r = (some k, l) ∧ SI w W b1 b2 z C n cc L lc (.int .i64 k) (.int .i64 ((k + 1) % n : Nat)) l
theorem swI_own {w : World} {b1 b2 : Nat} {z : Int} {C : Option Addr} {n cc : Nat} {L : Option Addr} {lc : Nat} {c r : List Bool} {B : Nat} (hB : w.heap.size ≤ B) : OwnFrom B (SwI w b1 b2 z C n cc L lc c r) := fun s W W' row ⟨l, h1, h2⟩ hg hr =>
  ⟨l, h1, h2.grown hB (grown_chg hg hr)⟩
theorem swX_own {w : World} {b1 b2 : Nat} {z : Int} {C : Option Addr} {n cc : Nat} {L : Option Addr} {lc : Nat} {c r : List Bool} {B : Nat} (hB : w.heap.size ≤ B) (cd : Code) : OwnFrom B (SwX w b1 b2 z C n cc L lc c r cd) := fun s W W' row ⟨h0, l, k, h1, h2⟩ hg hr =>
  ⟨h0, l, k, h1, h2.grown hB (grown_chg hg hr)⟩
/-- Ahead of a region that draws: what a panic would owe is nothing that it could pay. -/
theorem wpIn_no_panic {F : Fence} {N : Nat} {P : Program} {c : Code} {K : Act → World → Prop} {Q : Exit → Act → World → Prop} {a : Act} {w : World} (h : c.wpIn F N P (Exit.then K fun _ _ _ => False) a w) : c.wpIn F N P (Exit.then K Q) a w :=
  wpIn_mono h fun e a w hq => by
    cases e with
    | normal => exact hq
    | _ => exact hq.elim
/-- A region that draws, in a round: by the plain laws. -/
theorem wpIn_of_oper {l N : Nat} {P : Program} {o : Oper} {a : Act} {w : World} {K : Act → World → Prop} {Q : Exit → Act → World → Prop} (hnd : ∀ c, o.op ≠ .defer c) (h : o.wp P a w K Q) : o.wpIn (Fence.wide.inRound l) N P a w K Q := by
  unfold Oper.wpIn
  refine ⟨fun _ _ => trivial, ?_⟩
  rw [Oper.semAt_plain _ _ _ hnd]
  unfold Oper.wp at h
  generalize (execOp a.eval o).run P w = r at h ⊢
  cases r with
  | ok x w' =>
    cases x with
    | value v => exact h
    | skip => exact h
    | defer d => exact h
    | enter f args =>
      have h : Calls _ _ _ _ _ := h
      refine ⟨fun e => (by cases e), CallsIn.inRound l ((callsIn_wide.2 h).mono fun e w'' he => ?_)⟩
      cases e <;> exact he
    | row row args =>
      have h : Rows _ _ _ _ _ := h
      refine ⟨fun e => (by cases e), fun c cs _ => ?_⟩
      obtain ⟨v, w'', r, s⟩ := h c cs
      exact ⟨v, w'', r, stepsIn_wide.2 s⟩
    | _ => exact h.elim
  | halt x w' =>
    cases x with
    | panic v => exact h
    | _ => exact h.elim
theorem wpOpsIn_of_wpOps {l N : Nat} {P : Program} {ops : Array Oper} {K : Act → World → Prop} (hnd : ∀ o ∈ ops, ∀ c, o.op ≠ .defer c) : ∀ (is : List Nat) (a : Act) (w : World), wpOps P ops (Exit.then K fun _ _ _ => False) is a w → wpOpsIn (Fence.wide.inRound l) N P ops (Exit.then K fun _ _ _ => False) is a w
  | [], _, _, h => h
  | i :: is, a, w, h => by
    unfold wpOpsIn
    unfold wpOps at h
    cases ho : ops[i]? with
    | none =>
      rw [ho] at h
      exact wpOpsIn_of_wpOps hnd is a w h
    | some o =>
      rw [ho] at h
      simp only at h ⊢
      split at h
      · next hw =>
        rw [if_pos hw]
        rcases h with h | ⟨_, _, _, h⟩
        · exact wpIn_of_oper (hnd o (Array.mem_of_getElem? ho)) (Oper.wp_mono (fun a w => wpOpsIn_of_wpOps hnd is a w) h)
        · exact h.elim
      · next hw =>
        rw [if_neg hw]
        exact ⟨fun _ _ => trivial, wpOpsIn_of_wpOps hnd is _ _ h⟩
def noDefer (o : Oper) : Bool := match o.op with | .defer _ => false | _ => true
theorem noDefer_out {ops : Array Oper} (h : ops.all noDefer = true) : ∀ o ∈ ops, ∀ c, o.op ≠ .defer c := fun o ho c e => by
  have := Array.all_eq_true_iff_forall_mem.1 h o ho
  unfold noDefer at this
  rw [e] at this
  cases this
theorem wpIn_round_held {l N id : Nat} {P : Program} {ops : Array Oper} {K : Act → World → Prop} {Q : Exit → Act → World → Prop} {S : World → Prop} {a : Act} {w : World} (hm : P.follows .mixedOrders = true) (hnd : ops.all noDefer = true) (hS : S w.drew)
    (h : S w.drew → wpAnyH P .any ops (Exit.then K fun _ _ _ => False) S ops.size (Array.replicate ops.size false) a w.drew) : (Code.region id ops true).wpIn (Fence.wide.inRound l) N P (Exit.then K Q) a w := by
  refine wpIn_no_panic (wpIn_region_draw fun t => wpOpsIn_of_wpOps (noDefer_out hnd) _ _ _ ?_)
  simp only [Region.schedule, hm, Bool.true_or, if_true]
  exact wpAny_sound ops.size t _ a _ (wpAny_of_held _ _ _ _ (h hS))
/-- The results laid in their boxes. -/
theorem SI.stored {w W : World} {b1 b2 : Nat} {z : Int} {C L : Option Addr} {n cc lc : Nat} {v1 v2 : Value} {l : List Bool} (h : SI w W b1 b2 z C n cc L lc v1 v2 l) (u1 u2 : Value) :
    SI w (((W.setCell ⟨w.heap.size + 1, 0, none⟩ u1).setCell ⟨w.heap.size + 1 + 1, 0, none⟩ u2).setCell ⟨w.heap.size + 1 + 1 + 1, 0, none⟩ (.slice L n lc)).drew b1 b2 z C n cc L lc u1 u2 l ∧ KeepsOthers W (((W.setCell ⟨w.heap.size + 1, 0, none⟩ u1).setCell ⟨w.heap.size + 1 + 1, 0, none⟩ u2).setCell ⟨w.heap.size + 1 + 1 + 1, 0, none⟩ (.slice L n lc)).drew ∧ Kp2 b1 b2 W (((W.setCell ⟨w.heap.size + 1, 0, none⟩ u1).setCell ⟨w.heap.size + 1 + 1, 0, none⟩ u2).setCell ⟨w.heap.size + 1 + 1 + 1, 0, none⟩ (.slice L n lc)).drew := by
  have k1 : Chg (fun i => i = w.heap.size + 1 ∨ i = w.heap.size + 1 + 1 ∨ i = w.heap.size + 1 + 1 + 1) W (((W.setCell ⟨w.heap.size + 1, 0, none⟩ u1).setCell ⟨w.heap.size + 1 + 1, 0, none⟩ u2).setCell ⟨w.heap.size + 1 + 1 + 1, 0, none⟩ (.slice L n lc)).drew :=
    ((((Chg.refl _ W).set (.inr (.inl rfl)) _).set (.inr (.inr (.inl rfl))) _).set (.inr (.inr (.inr rfl))) _).drew
  obtain ⟨o1, o2⟩ := h.off
  have hL : ∀ i, At L i → ¬(i = w.heap.size + 1 ∨ i = w.heap.size + 1 + 1 ∨ i = w.heap.size + 1 + 1 + 1) := fun i hi e => by
    rcases e with e | e | e
    · subst e; exact h.res.row.ty h.place (by decide) hi
    · subst e; exact h.res.row.ty h.next (by decide) hi
    · subst e; exact h.res.row.ty h.left (by decide) hi
  refine ⟨⟨h.fr.step_chg k1 fun i e => by omega, h.can.chg k1 (by omega), ?_, ?_, ?_, h.many.chg k1 (by omega), ⟨h.vb.hand.chg k1 (by omega), h.vb.many.chg k1 (by omega)⟩, h.off, ⟨h.res.row.chg k1 hL, h.res.len, h.res.new⟩⟩, ?_, kp2_chg k1 h.vb.hand.lt h.vb.many.lt (by omega) (by omega)⟩
  · have := ((h.place.set 0 u1).other ⟨w.heap.size + 1 + 1, 0, none⟩ (show w.heap.size + 1 + 1 ≠ _ by omega) u2).other ⟨w.heap.size + 1 + 1 + 1, 0, none⟩ (show w.heap.size + 1 + 1 + 1 ≠ _ by omega) (.slice L n lc)
    exact this
  · have := ((h.next.other ⟨w.heap.size + 1, 0, none⟩ (show w.heap.size + 1 ≠ _ by omega) u1).set 0 u2).other ⟨w.heap.size + 1 + 1 + 1, 0, none⟩ (show w.heap.size + 1 + 1 + 1 ≠ _ by omega) (.slice L n lc)
    exact this
  · have := ((h.left.other ⟨w.heap.size + 1, 0, none⟩ (show w.heap.size + 1 ≠ _ by omega) u1).other ⟨w.heap.size + 1 + 1, 0, none⟩ (show w.heap.size + 1 + 1 ≠ _ by omega) u2).set 0 (.slice L n lc)
    exact this
  · exact (((KeepsOthers.setCell W _ _).trans (KeepsOthers.setCell _ _ _)).trans (KeepsOthers.setCell _ _ _)).trans (KeepsOthers.drew _)
end Go.Proofs.Ytifmldlbhcpaiaa
