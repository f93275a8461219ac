/- Package clock: Order: the world on the way. -/
import Derived.Test.YtifmldlbhcpaiaaCkC
namespace Go.Proofs.Ytifmldlbhcpaiaa
set_option linter.unusedVariables false
set_option linter.unusedSimpArgs false
set_option maxRecDepth 100000
open Go.RowKit
def oi (l : List Nat) : List Int := l.map Int.ofNat
theorem oi_len (l : List Nat) : (oi l).length = l.length := by simp [oi]
/-- A row of numbers that a call made. -/
structure ResI (w W : World) (O : Option Addr) (n c : Nat) (l : List Int) : Prop where
  row : Rw W 3 1 O n c (rows ic l)
  len : l.length = n
  new : ∀ k, At O k → w.heap.size ≤ k
structure OI (w W : World) (b1 b2 b8 : Nat) (z : Int) (n : Nat) (A : Option Addr) (ca : Nat) (L : Option Addr) (lc : Nat) (O : Option Addr) (oc : Nat) (s : List Bool × List Bool × List Nat) : Prop where
  fr : Fr w W
  can : Arr W w.heap.size 22 #[.slice A n ca]
  out : Arr W (w.heap.size + 1) 28 #[.slice O s.2.2.length oc]
  left : Arr W b8 22 #[.slice L n lc]
  vb : VB W b1 b2 z n
  rc : ResB w W A n ca s.1
  rl : ResB w W L n lc s.2.1
  ro : ResI w W O s.2.2.length oc (oi s.2.2)
  aL : ∀ k, At A k → ¬ At L k
  oV : ∀ k, At O k → k ≠ b1 ∧ k ≠ b2
section
variable {w W W' : World} {b1 b2 b8 : Nat} {z : Int} {n ca lc oc : Nat} {A L O : Option Addr} {s : List Bool × List Bool × List Nat} {X : Nat → Prop}
/-- What turns no cells leaves all of it. -/
theorem OI.grown {B : Nat} (h : OI w W b1 b2 b8 z n A ca L lc O oc s) (hB : w.heap.size ≤ B) (k : Chg (NC B W) W W') : OI w W' b1 b2 b8 z n A ca L lc O oc s :=
  ⟨h.fr.step_chg k fun i hi => Nat.le_trans hB hi.1, h.can.chg k h.can.nc, h.out.chg k h.out.nc, h.left.chg k h.left.nc, ⟨h.vb.hand.chg k h.vb.hand.nc, h.vb.many.chg k h.vb.many.nc⟩, ⟨h.rc.row.chg k h.rc.row.nc, h.rc.len, h.rc.new⟩, ⟨h.rl.row.chg k h.rl.row.nc, h.rl.len, h.rl.new⟩, ⟨h.ro.row.chg k h.ro.row.nc, h.ro.len, h.ro.new⟩, h.aL, h.oV⟩
/-- What a round may turn. -/
def OX (w : World) (A L O : Option Addr) (i : Nat) : Prop := At L i ∨ At A i ∨ At O i ∨ i = w.heap.size + 1
theorem OI.keeps {B : Nat} (h : OI w W b1 b2 b8 z n A ca L lc O oc s) (k : Chg (OX w A L O) W W') : KeepsFrom B W W' :=
  keeps_chg k fun i hi => by
    rcases hi with hi | hi | hi | rfl
    · exact h.rl.row.arr i hi
    · exact h.rc.row.arr i hi
    · exact h.ro.row.arr i hi
    · exact ⟨_, _, h.out⟩
theorem OI.not {T b : Nat} {cs : Array Value} (h : OI w W b1 b2 b8 z n A ca L lc O oc s) (ha : Arr W b T cs) (t1 : 4 ≠ T) (t2 : At O b → False) (t3 : b ≠ w.heap.size + 1) : ¬ OX w A L O b := fun hi => by
  rcases hi with hi | hi | hi | hi
  · exact h.rl.row.ty ha t1 hi
  · exact h.rc.row.ty ha t1 hi
  · exact t2 hi
  · exact t3 hi
theorem OI.nvb (h : OI w W b1 b2 b8 z n A ca L lc O oc s) : ¬ OX w A L O b1 ∧ ¬ OX w A L O b2 :=
  ⟨h.not h.vb.hand (by decide) (fun e => (h.oV _ e).1 rfl) (fun e => absurd ((e ▸ h.vb.hand).ty h.out) (by decide)), h.not h.vb.many (by decide) (fun e => (h.oV _ e).2 rfl) (fun e => absurd ((e ▸ h.vb.many).ty h.out) (by decide))⟩
theorem OI.kp (h : OI w W b1 b2 b8 z n A ca L lc O oc s) (k : Chg (OX w A L O) W W') : Kp2 b1 b2 W W' := kp2_chg k h.vb.hand.lt h.vb.many.lt h.nvb.1 h.nvb.2
/-- A round. -/
theorem OI.step {O' : Option Addr} {oc' : Nat} {c l : List Bool} {o : List Nat} (h : OI w W b1 b2 b8 z n A ca L lc O oc s) (k : Chg (OX w A L O) W W')
    (hout : Arr W' (w.heap.size + 1) 28 #[.slice O' o.length oc']) (hc : Rw W' 4 1 A n ca (rows bc c)) (hcn : c.length = n) (hl : Rw W' 4 1 L n lc (rows bc l)) (hln : l.length = n)
    (ho : Rw W' 3 1 O' o.length oc' (rows ic (oi o))) (hO : ∀ i, At O' i → At O i ∨ W.heap.size ≤ i) : OI w W' b1 b2 b8 z n A ca L lc O' oc' (c, l, o) := by
  have hx : ∀ i, OX w A L O i → w.heap.size ≤ i := fun i hi => by
    rcases hi with hi | hi | hi | rfl
    · exact h.rl.new i hi
    · exact h.rc.new i hi
    · exact h.ro.new i hi
    · omega
  have hb1 := h.vb.hand.lt
  have hb2 := h.vb.many.lt
  have hsz := h.fr.size
  exact ⟨h.fr.step_chg k hx, h.can.chg k (h.not h.can (by decide) (h.ro.row.ty h.can (by decide)) (by omega)), hout, h.left.chg k (h.not h.left (by decide) (h.ro.row.ty h.left (by decide)) (fun e => absurd ((e ▸ h.left).ty h.out) (by decide))), ⟨h.vb.hand.chg k h.nvb.1, h.vb.many.chg k h.nvb.2⟩, ⟨hc, hcn, h.rc.new⟩, ⟨hl, hln, h.rl.new⟩,
    ⟨ho, oi_len _, fun i hi => by rcases hO i hi with e | e; exact h.ro.new i e; omega⟩, h.aL, fun i hi => by rcases hO i hi with e | e; exact h.oV i e; omega⟩
end
def OrI (w : World) (b1 b2 b8 : Nat) (z : Int) (n : Nat) (A : Option Addr) (ca : Nat) (L : Option Addr) (lc : Nat) (c r : List Bool) (pre : List (Fin n)) (W : World) : Prop :=
  ∃ O oc, OI w W b1 b2 b8 z n A ca L lc O oc (orun (pre.map Fin.val) (c, r, []))
theorem orI_own {w : World} {b1 b2 b8 : Nat} {z : Int} {n : Nat} {A : Option Addr} {ca : Nat} {L : Option Addr} {lc : Nat} {c r : List Bool} {B : Nat} (hB : w.heap.size ≤ B) : OwnFrom B (OrI w b1 b2 b8 z n A ca L lc c r) := fun s W W' row ⟨O, oc, h2⟩ hg hr =>
  ⟨O, oc, h2.grown hB (grown_chg hg hr)⟩
end Go.Proofs.Ytifmldlbhcpaiaa
