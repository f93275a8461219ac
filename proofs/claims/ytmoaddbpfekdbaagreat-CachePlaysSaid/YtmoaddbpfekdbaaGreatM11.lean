/- slices.Equal at entries, numbers, keys and messages. -/
import Derived.Test.YtmoaddbpfekdbaaGreatM07
import Derived.Test.YtmoaddbpfekdbaaGreatM08
import Derived.Test.YtmoaddbpfekdbaaGreatM10
import Derived.Deep.Slices
import Derived.ProofKit
import Derived.OpenShut
import Derived.ChangeSlices
import Derived.ChangeArms
import Derived.SizedLaws
import Derived.Test.YtmoaddbpfekdbaaGreatM04
import Derived.Deep.LoopGhost
import Derived.Deep.RegionHeld3
import Derived.Deep.RegionWith
import Derived.Deep.RegionLaw
import Derived.Deep.QuietTactic
import Derived.BigQuiet
import Derived.Deep.CutRange
import Derived.Deep.CutBlock
import Derived.StillTailTactics
import Derived.WalkSpells
import Derived.WalkLawsBesides
import Derived.Laws.MakeOwn
import Derived.Laws.Tables
import Derived.Outline
import Derived.Test.YtmoaddbpfekdbaaGreatM02
namespace Go.Proofs.YtmoaddbpfekdbaaGreat
set_option maxRecDepth 100000
open Go.RowKit
set_option linter.unusedVariables false
attribute [local go_sem ↓] key_ld ent_ld val_ld msg_ld
end Go.Proofs.YtmoaddbpfekdbaaGreat
/- The document's Part. -/
namespace Go.Proofs.YtmoaddbpfekdbaaGreat
set_option maxRecDepth 100000
open Go.RowKit
set_option linter.unusedVariables false
attribute [local go_sem ↓] key_ld msg_ld msg_st
def btw (ps : List RK) (i : Nat) (l : List RM) : List RM := l.filter fun m => betw (ps.map code) i (cd m)
end Go.Proofs.YtmoaddbpfekdbaaGreat
/- What the functions of nodes tell, of the program and of the document. -/
namespace Go.Proofs.YtmoaddbpfekdbaaGreat
set_option maxRecDepth 100000
open Go.RowKit
set_option linter.unusedVariables false
theorem okN_leaf {n : RN} (h : n.lf = true) : OkN n ↔ n.ks.length = 0 ∧ n.ps.length = 0 ∧ n.ms.length = 0 ∧ OkE n.es := by
  unfold OkN
  simp [h]
/-- A child's weight. -/
def wtN (n : RN) (i : Nat) : Int := bytL (partL n.ms n.ps i)
/-- All weights. -/
def wtsN (n : RN) : List Int := if n.lf then [] else (List.range n.ks.length).map (wtN n)
section
variable {W : World} {B : Nat} {v : NV} {n : RN}
theorem OkN.sm (h : OkN n) : n.lf = true → SmE n.es := fun hl => ((okN_leaf hl).1 h).2.2.2.sm
/-- Is a node heavy? -/
def hvN (n : RN) : Bool := if n.lf then false else decide (205 ≤ 2 * bytL n.ms)
/-- Are two nodes the same? -/
def smN (a b : RN) : Bool := a.lf == b.lf && (decide (a.es = b.es) && (decide (a.ks = b.ks) && (decide (a.ps = b.ps) && decide (a.ms = b.ms))))
theorem q_rsame {B2 : Nat} {v2 : NV} {n2 : RN} (h : NH W B v n) (h2 : NH W B2 v2 n2) : Calls Tryz.prog 12 #[nv v, nv v2] W fun e w' => e = .returned (.bool (smN n n2)) ∧ Fr W w' := by
  unfold smN
  rw [← h.lf, ← h2.lf]
  refine rnsame (fun V hF => ?_) (fun V hF => ?_) (fun V hF => ?_) (fun V hF => ?_)
  all_goals have k := h.fr hF
  all_goals have k2 := h2.fr hF
  · exact ref_esame k.h1 k.hB k.l1 k.s1 k.w1 k2.h1 k2.hB k2.l1 k2.s1 k2.w1
  · exact sameints_at k.h2 k.hB k.l2 k.s2 k2.h2 k2.hB k2.l2 k2.s2 (fr_refl V)
  · exact samekeys_at k.h3 k.hB k.l3 k.s3 k.w3 k2.h3 k2.hB k2.l3 k2.s3 k2.w3 (fr_refl V)
  · exact ref_same k.h4 k.hB k.l4 k.s4 k.w4 k2.h4 k2.hB k2.l4 k2.s4 k2.w4
end
end Go.Proofs.YtmoaddbpfekdbaaGreat
/- Rows of keys that came in; rows of numbers with their room. -/
namespace Go.Proofs.YtmoaddbpfekdbaaGreat
set_option maxRecDepth 100000
open Go.RowKit Go.ChangeShapes Go.WideShapes Go.Deep
set_option linter.unusedVariables false
section
variable {H : Type} {enc : TypeId × Value → H} {w : World} {base : Nat} {spare : Nat → Bool} {held : Bool}
end
end Go.Proofs.YtmoaddbpfekdbaaGreat
/- Nodes by numbers (package 00's Leaf and Inner): what they hold; the greatest weight. -/
namespace Go.Proofs.YtmoaddbpfekdbaaGreat
set_option maxRecDepth 100000
open Go.RowKit
set_option linter.unusedVariables false
/-- The leaf, the inner node by numbers. -/
def leafN (ns : List Int) : RN := ⟨true, entsL ns 248, [], [], []⟩
def innN (ns : List Int) (f : Int) (ms : List Int) : RN := ⟨false, [], kidsL (pivsL (16 :: ns) 3).length f, pivsL (16 :: ns) 3, msgsL ms 205⟩
theorem nv_one (v : NV) : One v.cells := fun x hx => by
  simp only [NV.cells, List.mem_cons, List.not_mem_nil, or_false] at hx
  rcases hx with rfl | rfl | rfl | rfl | rfl <;> rfl
/-- The cells of no node. -/
def zeroNV : NV := ⟨false, none, 0, 0, none, 0, 0, none, 0, 0, none, 0, 0⟩
def zeroN : RN := ⟨false, [], [], [], []⟩
attribute [local go_sem ↓] key_ld msg_ld nod_ld
/-- package 00's Leaf. -/
theorem q_leaf {w : World} {A : Option Addr} {n c B : Nat} {ns : List Int} (hl : Has w B A (ns.map (Value.int .i64))) (hB : B ≤ w.heap.size) (hn : ns.length = n) (hns : ∀ z ∈ ns, Is64 z) (hnm : n ≤ maxLen) :
    Calls Tryz.prog 18 #[.slice A n c] w fun e w' => ∃ v, e = .returned (nv v) ∧ Hid (NH w' w'.heap.size v (leafN ns)) ∧ Fr w w' := by
  obtain ⟨Z, hZ, hF, hZZ, hG⟩ : ∃ Z, w.alloc (.cells #[.bool false, .slice none 0 0, .slice none 0 0, .slice none 0 0, .slice none 0 0] 41) = Z ∧ Fr w Z ∧ Fr Z Z ∧ Arr Z w.heap.size 41 zeroNV.cells.toArray := ⟨_, rfl, fr_new (fr_refl w) _, fr_refl _, Arr.new _ _ _⟩
  have cE := law_ents (w := Z) (c := c) (most := 248) (hl.fr hB hF) (Nat.le_trans hB hF.size) hn hns (by omega) hnm
  have hlen := entsL_len ns 248
  have ho := entsL_ok ns 248
  unfold leafN
  generalize entsL ns 248 = l at *
  clear hl hns hn
  go_enter Tryz.func18, Tryz.ntmps18
  go_wp2_with fail
  refine cE.mono ?_
  rintro e v1 ⟨A1, d1, rfl, hO, f1⟩
  have hG1 := hG.below f1 hG.lt
  have hz := hF.size
  have hlt := hG.lt
  have tok : Hid (0 < 1) := keep (by decide)
  go_wp2_with (first
    | (clear tok; refine wpList_store_at (ds := NV.cells ⟨true, A1, l.length, d1, none, 0, 0, none, 0, 0, none, 0, 0⟩) nod_info rfl (.tmp 2) (.tmp 5) rfl w.heap.size 0 rfl rfl rfl (nv_one _) hG1 (by decide) (splice_all _ _ (Nat.le_of_eq rfl)) ?_; intro W8 hM8 hk8)
    | fail)
  refine bodyPost_ret (nodS.result rfl _ w.heap.size rfl rfl hM8) rfl ?_
  have hO8 := own_kept hO hk8 (by omega)
  refine ⟨⟨true, A1, l.length, d1, none, 0, 0, none, 0, 0, none, 0, 0⟩, rfl, keep ?_, hk8.fr (fr_step hF f1) (Nat.le_refl _)⟩
  exact ⟨rfl, Nat.le_refl _, hO8.has, rfl, by simp only; omega, ho.wfe, Has.nil, rfl, Nat.le_refl _, by simp, Has.nil, rfl, by simp, by intro m hm; simp at hm, Has.nil, rfl, Nat.le_refl _, by simp, by intro m hm; simp at hm⟩
end Go.Proofs.YtmoaddbpfekdbaaGreat
/- Objects that calls turn: which blocks have turned from one world to another; cells in blocks of which something holds. No program text. -/
namespace Go.Proofs.YtmoaddbpfekdbaaGreat
set_option linter.unusedVariables false
set_option linter.unusedSimpArgs false
open Go.RowKit
/-- From w to W only blocks of X have turned, and new ones. -/
structure Chg (X : Nat → Prop) (w W : World) : Prop where
  os : W.os = w.os
  tape : W.tape = w.tape
  output : W.output = w.output
  size : w.heap.size ≤ W.heap.size
  block : ∀ k, k < w.heap.size → ¬ X k → W.heap[k]? = w.heap[k]?
section
variable {X Y : Nat → Prop} {a b c w W : World} {g T : Nat} {cs : Array Value}
theorem Chg.refl (X : Nat → Prop) (w : World) : Chg X w w := ⟨rfl, rfl, rfl, Nat.le_refl _, fun _ _ _ => rfl⟩
theorem Chg.trans' (h : Chg X a b) (k : Chg Y b c) (hy : ∀ i, i < a.heap.size → Y i → X i) : Chg X a c :=
  ⟨k.os.trans h.os, k.tape.trans h.tape, k.output.trans h.output, Nat.le_trans h.size k.size, fun i hi hx => (k.block i (Nat.lt_of_lt_of_le hi h.size) (fun y => hx (hy i hi y))).trans (h.block i hi hx)⟩
theorem Chg.trans (h : Chg X a b) (k : Chg X b c) : Chg X a c := h.trans' k fun _ _ x => x
theorem Chg.weak (h : Chg X w W) (hy : ∀ i, i < w.heap.size → X i → Y i) : Chg Y w W := ⟨h.os, h.tape, h.output, h.size, fun i hi n => h.block i hi fun x => n (hy i hi x)⟩
theorem Chg.of_fr (X : Nat → Prop) (h : Fr w W) : Chg X w W := ⟨h.os, h.tape, h.output, h.size, fun i hi _ => h.block i hi⟩
theorem Chg.fr (h : Chg X a b) (k : Fr b c) : Chg X a c := h.trans (.of_fr X k)
theorem Chg.alloc (h : Chg X a w) (o : Obj) : Chg X a (w.alloc o) := h.fr (fr_new (fr_refl w) o)
theorem Chg.drew (h : Chg X a w) : Chg X a w.drew := ⟨h.os, h.tape, h.output, h.size, h.block⟩
theorem Chg.set (h : Chg X a w) {p : Addr} (hp : a.heap.size ≤ p.block ∨ X p.block) (v : Value) : Chg X a (w.setCell p v) :=
  ⟨h.os, h.tape, h.output, by have := h.size; simpa using this, fun i hi hx => (Below.heap_setCell w p v i (fun e => by subst e; rcases hp with hp | hp; omega; exact hx hp)).trans (h.block i hi hx)⟩
theorem Chg.row (h : Chg X a w) {g : Nat} (hp : a.heap.size ≤ g ∨ X g) (ds : Array Value) : Chg X a (w.setRow g ds) :=
  ⟨h.os, h.tape, h.output, by have := h.size; simpa [World.setRow] using this, fun i hi hx => (setRow_other w g i ds (fun e => by subst e; rcases hp with hp | hp; omega; exact hx hp)).trans (h.block i hi hx)⟩
theorem Chg.below (h : Chg X w W) {B : Nat} (hB : B ≤ w.heap.size) (hx : ∀ i, X i → B ≤ i) : Below B w W :=
  ⟨h.os, h.tape, h.output, h.size, fun k hk => h.block k (by omega) fun x => by have := hx k x; omega⟩
theorem Below.chg {B : Nat} (h : Below B w W) : Chg (fun i => B ≤ i) w W := ⟨h.os, h.tape, h.output, h.size, fun k _ n => h.block k (by omega)⟩
theorem Arr.chg (h : Arr w g T cs) (k : Chg X w W) (hg : ¬ X g) : Arr W g T cs := (k.block g h.lt hg).trans h
theorem Chg.cell (h : Chg X w W) {p : Addr} (hp : p.block < w.heap.size) (hx : ¬ X p.block) : W.cell? p = w.cell? p := World.cell?_of_block (h.block _ hp hx)
end
/-- The slice at A has the cells xs, in blocks of which ok holds. -/
def HasP (w : World) (ok : Nat → Prop) (A : Option Addr) (xs : List Value) : Prop :=
  ∀ j u, xs[j]? = some u → ∃ b off, A = some ⟨b, off, none⟩ ∧ ok b ∧ w.cell? ⟨b, off + j, none⟩ = some u
section
variable {X : Nat → Prop} {w W : World} {ok ok' : Nat → Prop} {A : Option Addr} {xs : List Value} {B g : Nat}
theorem HasP.move (h : HasP w ok A xs) (hc : ∀ p : Addr, ok p.block → p.block < w.heap.size → W.cell? p = w.cell? p) : HasP W ok A xs := fun j u hu => by
  obtain ⟨b, off, h1, h2, h3⟩ := h j u hu
  exact ⟨b, off, h1, h2, (hc _ h2 (World.block_lt_of_cell? _ _ h3)).trans h3⟩
theorem HasP.fr (h : HasP w ok A xs) (f : Fr w W) : HasP W ok A xs := h.move fun p _ hp => f.cell hp
theorem HasP.chg (h : HasP w ok A xs) (k : Chg X w W) (hx : ∀ b, ok b → ¬ X b) : HasP W ok A xs := h.move fun p ho hp => k.cell hp (hx _ ho)
theorem HasP.weak (h : HasP w ok A xs) (hk : ∀ b, b < w.heap.size → ok b → ok' b) : HasP w ok' A xs := fun j u hu => by
  obtain ⟨b, off, h1, h2, h3⟩ := h j u hu
  exact ⟨b, off, h1, hk b (World.block_lt_of_cell? _ _ h3) h2, h3⟩
theorem HasP.has (h : HasP w ok A xs) : Has w w.heap.size A xs := fun j u hu => by
  obtain ⟨b, off, h1, h2, h3⟩ := h j u hu
  exact ⟨b, off, h1, World.block_lt_of_cell? _ _ h3, h3⟩
theorem HasP.nil : HasP w ok A [] := fun j u h => by simp at h
theorem Has.hasP (h : Has w B A xs) (hk : ∀ b, b < B → ok b) : HasP w ok A xs := fun j u hu => by
  obtain ⟨b, off, h1, h2, h3⟩ := h j u hu
  exact ⟨b, off, h1, hk b h2, h3⟩
theorem Own.hasP {e size n c : Nat} (h : Own w B e size A n c xs) (hk : ∀ b, B ≤ b → ok b) : HasP w ok A xs := fun j u hu => by
  obtain ⟨b, off, h1, h2, h3⟩ := h.has j u hu
  exact ⟨b, off, h1, hk b (h.lt b (by rw [h1]; rfl)).1, h3⟩
end
section
variable {P : Program} {w : World} {ops : Array Oper} {rest : List Oper} {o : Oper} {a : Act} {K : Act → World → Prop} {Q : Exit → Act → World → Prop} {E : Prop}
theorem chg_row (w : World) (g : Nat) (ds : Array Value) : Chg (· = g) w (w.setRow g ds) := (Chg.refl (fun x => x = g) w).row (.inr rfl) ds
/-- A store into a block of which all is known. -/
theorem wpList_store_chg {T n : Nat} (hs : (P.info? T).map (·.size) = some n) (hgd : o.guard = none) (x y : Operand) (ho : o.op = .store T x y)
    (g off : Nat) (hx : a.eval x = .pointer (some ⟨g, off, none⟩)) {ds : List Value} (hv : (a.eval y).cells.toList = ds) (hl : ds.length = n) (h1 : One ds)
    {T' : Nat} {cs : List Value} (ha : Arr w g T' cs.toArray) (hf : off + n ≤ cs.length) {cs' : List Value} (hc : splice cs off ds = cs')
    (h : ∀ W, Arr W g T' cs'.toArray → Chg (· = g) w W → wpList P ops Q rest (a.put o.dst undef) W) : wpList P ops Q (o :: rest) a w :=
  wpList_plain hgd fun K hK => by
    unfold Oper.wp execOp
    simp only [ho, hx, Instr.storeAt, Instr.sureAddr, Sem.run_bind, Sem.run_pure, Result.andThen_ok, run_store_at hs hv hl h1 ha hf, hc]
    exact hK _ _ (h _ (ha.setRow _) (chg_row w g _))
theorem step_store_chg {T n : Nat} (hs : (P.info? T).map (·.size) = some n) (hw : Region.wanted o (yielded ops a.tmps) = true) (x y : Operand) (ho : o.op = .store T x y)
    (g off : Nat) (hx : a.eval x = .pointer (some ⟨g, off, none⟩)) {ds : List Value} (hv : (a.eval y).cells.toList = ds) (hl : ds.length = n) (h1 : One ds)
    {T' : Nat} {cs : List Value} (ha : Arr w g T' cs.toArray) (hf : off + n ≤ cs.length) {cs' : List Value} (hc : splice cs off ds = cs')
    (hK : ∀ W, Arr W g T' cs'.toArray → Chg (· = g) w W → K (a.put o.dst undef) W) : if Region.wanted o (yielded ops a.tmps) = true then Oper.wp P o a w K Q else E := by
  rw [if_pos hw]
  unfold Oper.wp execOp
  simp only [ho, hx, Instr.storeAt, Instr.sureAddr, Sem.run_bind, Sem.run_pure, Result.andThen_ok, run_store_at hs hv hl h1 ha hf, hc]
  exact hK _ (ha.setRow _) (chg_row w g _)
end
section
variable {P : Program} {w : World} {t e size bytes : Nat}
end
theorem rows_splice {α : Type} {c : α → List Value} {n : Nat} {l : List α} (h : Wid c n l) {j : Nat} (hj : j < l.length) {x : α} (hx : (c x).length = n) : splice (rows c l) (j * n) (c x) = rows c (l.set j x) := by
  rw [List.set_eq_take_append_cons_drop, if_pos hj, rows_append, rows_cons, rows_take h, rows_drop h, splice, hx, Nat.add_mul, Nat.one_mul]
theorem rows_made {α : Type} {c : α → List Value} {n : Nat} (hn : 0 < n) (x : α) (hx : (c x).length = n) (m : Nat) : madeCells (c x).toArray (m * n) = (rows c (List.replicate m x)).toArray := by
  have hw : Wid c n (List.replicate m x) := fun y hy => by rw [List.eq_of_mem_replicate hy]; exact hx
  apply Array.ext'
  apply List.ext_getElem?
  intro i
  by_cases hi : i < m * n
  · have hq : i / n < m := Nat.div_lt_of_lt_mul (by rw [Nat.mul_comm]; exact hi)
    have hr : i % n < n := Nat.mod_lt _ hn
    have e := rows_get hw (j := i / n) (a := x) (by simp [hq]) (i % n) hr
    have e2 : i / n * n + i % n = i := by rw [Nat.mul_comm]; exact Nat.div_add_mod i n
    rw [e2] at e
    simp only [List.toList_toArray] at *
    rw [e]
    simp [madeCells, hi, hx]
    rw [List.getElem?_eq_getElem (by rw [hx]; exact hr)]
    rfl
  · have e : (rows c (List.replicate m x)).length = m * n := by rw [rows_len hw, List.length_replicate]
    rw [List.getElem?_eq_none (by simp [size_madeCells]; omega), List.getElem?_eq_none (by simp only [List.toList_toArray]; omega)]
/-- A part of the j-th of a row laid anew. -/
theorem rows_patch {α : Type} {c : α → List Value} {n : Nat} {l : List α} (h : Wid c n l) {j t : Nat} {x y : α} (hx : l[j]? = some x) {ds : List Value} (ht : t + ds.length ≤ n) (hy : splice (c x) t ds = c y) : splice (rows c l) (j * n + t) ds = rows c (l.set j y) := by
  obtain ⟨hj, he⟩ := List.getElem?_eq_some_iff.1 hx
  have hl : l = l.take j ++ x :: l.drop (j + 1) := by
    rw [← he]; simp
  have hlj : (rows c (l.take j)).length = j * n := by rw [rows_len (h.take j), List.length_take, Nat.min_eq_left (by omega)]
  have hcx : (c x).length = n := h x (List.mem_of_getElem? hx)
  rw [List.set_eq_take_append_cons_drop, if_pos hj, rows_append, rows_cons, ← hy]
  have e1 : rows c l = rows c (l.take j) ++ (c x ++ rows c (l.drop (j + 1))) := by
    conv => lhs; rw [hl]
    rw [rows_append, rows_cons]
  rw [e1]
  generalize rows c (l.take j) = Z at *
  generalize rows c (l.drop (j + 1)) = Y at *
  unfold splice
  rw [← hlj, List.take_length_add_append, Nat.add_assoc, List.drop_length_add_append, List.take_append_of_le_length (by omega), List.drop_append_of_le_length (by omega)]
  simp only [List.append_assoc]
theorem rows_map {α : Type} (f : α → Value) (l : List α) : rows (fun z => [f z]) l = l.map f := by
  induction l with
  | nil => rfl
  | cons x l ih => rw [rows_cons, ih]; rfl
section
variable {P : Program} {w w' : World} {ops : Array Oper} {o : Oper} {a : Act} {K : Act → World → Prop} {Q : Exit → Act → World → Prop} {E : Prop} {v : Value}
end
theorem u8s_get {l : List Int} {j : Nat} {z : Int} (h : l[j]? = some z) : (u8s l)[j]? = some (.int .u8 z) := by simp [u8s, h]
end Go.Proofs.YtmoaddbpfekdbaaGreat
/- Nodes whose cells lie in blocks that a call's own stores leave alone. -/

namespace Go.Proofs.YtmoaddbpfekdbaaGreat
set_option linter.unusedVariables false
set_option linter.unusedSimpArgs false
set_option maxRecDepth 100000
open Go.RowKit
/-- A store into block g. -/
structure KeptC (w W : World) (g : Nat) : Prop extends Kept w W g where
  cell : ∀ p : Addr, p.block ≠ g → W.cell? p = w.cell? p
theorem kept_setRow {w : World} {g : Nat} (ds : Array Value) : KeptC w (w.setRow g ds) g :=
  { other := fun hk hne => hk.setRowOther _ hne, fr := fun hf hg => fr_setRow hf hg _, size := by simp [World.setRow], cell := fun p hp => World.cell?_of_block (setRow_other w g p.block _ hp) }
theorem wpList_store_in {P : Program} {w : World} {ops : Array Oper} {rest : List Oper} {o : Oper} {a : Act} {Q : Exit → Act → World → Prop} {T n : Nat} (hs : (P.info? T).map (·.size) = some n) (hgd : o.guard = none) (x y : Operand) (ho : o.op = .store T x y)
    (g off : Nat) (hx : a.eval x = .pointer (some ⟨g, off, none⟩)) {ds : List Value} (hv : (a.eval y).cells.toList = ds) (hl : ds.length = n) (h1 : One ds)
    {T' : Nat} {cs : List Value} (ha : Arr w g T' cs.toArray) (hf : off + n ≤ cs.length) {cs' : List Value} (hc : splice cs off ds = cs')
    (h : ∀ W, Arr W g T' cs'.toArray → KeptC w W g → wpList P ops Q rest (a.put o.dst undef) W) : wpList P ops Q (o :: rest) a w :=
  wpList_plain hgd fun K hK => by
    unfold Oper.wp execOp
    simp only [ho, hx, Instr.storeAt, Instr.sureAddr, Sem.run_bind, Sem.run_pure, Result.andThen_ok, run_store_at hs hv hl h1 ha hf, hc]
    exact hK _ _ (h _ (ha.setRow _) (kept_setRow _))
theorem step_store_in {P : Program} {w : World} {ops : Array Oper} {o : Oper} {a : Act} {K : Act → World → Prop} {Q : Exit → Act → World → Prop} {E : Prop} {T n : Nat} (hs : (P.info? T).map (·.size) = some n) (hw : Region.wanted o (yielded ops a.tmps) = true) (x y : Operand) (ho : o.op = .store T x y)
    (g off : Nat) (hx : a.eval x = .pointer (some ⟨g, off, none⟩)) {ds : List Value} (hv : (a.eval y).cells.toList = ds) (hl : ds.length = n) (h1 : One ds)
    {T' : Nat} {cs : List Value} (ha : Arr w g T' cs.toArray) (hf : off + n ≤ cs.length) {cs' : List Value} (hc : splice cs off ds = cs')
    (hK : ∀ W, Arr W g T' cs'.toArray → KeptC w W g → K (a.put o.dst undef) W) : if Region.wanted o (yielded ops a.tmps) = true then Oper.wp P o a w K Q else E := by
  rw [if_pos hw]
  unfold Oper.wp execOp
  simp only [ho, hx, Instr.storeAt, Instr.sureAddr, Sem.run_bind, Sem.run_pure, Result.andThen_ok, run_store_at hs hv hl h1 ha hf, hc]
  exact hK _ (ha.setRow _) (kept_setRow _)
section
variable {w W : World} {ok ok' : Nat → Prop} {A : Option Addr} {xs : List Value} {B g : Nat}
theorem HasP.kept (h : HasP w ok A xs) (k : KeptC w W g) (hg : ¬ ok g) : HasP W ok A xs := h.move fun p hp _ => k.cell p (fun e => hg (e ▸ hp))
theorem HasP.drew (h : HasP w ok A xs) : HasP w.drew ok A xs := h
theorem HasP.take (h : HasP w ok A xs) (k : Nat) : HasP w ok A (xs.take k) := fun j u hu => by
  refine h j u ?_
  rw [List.getElem?_take] at hu
  split at hu
  · exact hu
  · cases hu
end
/-- The cells of v hold what n holds, in blocks of which ok holds. -/
structure NP (W : World) (ok : Nat → Prop) (v : NV) (n : RN) : Prop where
  lf : v.lf = n.lf
  h1 : HasP W ok v.A1 (rows ec n.es)
  l1 : n.es.length = v.n1
  s1 : v.n1 ≤ 100000
  w1 : WfE n.es
  h2 : HasP W ok v.A2 (ints n.ks)
  l2 : n.ks.length = v.n2
  k2 : v.n2 ≤ v.c2
  s2 : v.n2 ≤ 100000
  h3 : HasP W ok v.A3 (rows kc n.ps)
  l3 : n.ps.length = v.n3
  s3 : v.n3 ≤ 100000
  w3 : WfK n.ps
  h4 : HasP W ok v.A4 (rows mc n.ms)
  l4 : n.ms.length = v.n4
  k4 : v.n4 ≤ v.c4
  s4 : v.n4 ≤ 100000
  w4 : WfM n.ms
section
variable {w W : World} {ok ok' : Nat → Prop} {v : NV} {n : RN} {B g : Nat}
theorem NP.fr (h : NP w ok v n) (f : Fr w W) : NP W ok v n := { h with h1 := h.h1.fr f, h2 := h.h2.fr f, h3 := h.h3.fr f, h4 := h.h4.fr f }
theorem NP.drew (h : NP w ok v n) : NP w.drew ok v n := { h with }
theorem NP.kept (h : NP w ok v n) (k : KeptC w W g) (hg : ¬ ok g) : NP W ok v n := { h with h1 := h.h1.kept k hg, h2 := h.h2.kept k hg, h3 := h.h3.kept k hg, h4 := h.h4.kept k hg }
theorem NP.weak (h : NP w ok v n) (hk : ∀ b, b < w.heap.size → ok b → ok' b) : NP w ok' v n := { h with h1 := h.h1.weak hk, h2 := h.h2.weak hk, h3 := h.h3.weak hk, h4 := h.h4.weak hk }
theorem NH.np (h : NH w B v n) (hk : ∀ b, b < B → ok b) : NP w ok v n := { h with h1 := h.h1.hasP hk, h2 := h.h2.hasP hk, h3 := h.h3.hasP hk, h4 := h.h4.hasP hk }
theorem zeroN_np : NP w ok zeroNV zeroN := ⟨rfl, HasP.nil, rfl, by decide, by intro m hm; simp [zeroN] at hm, HasP.nil, rfl, Nat.le_refl _, by decide, HasP.nil, rfl, by decide, by intro m hm; simp [zeroN] at hm, HasP.nil, rfl, Nat.le_refl _, by decide, by intro m hm; simp [zeroN] at hm⟩
end
/-- The first entries, and the fourth row, changed. -/
def NV.set1 (v : NV) (A : Option Addr) (n c : Nat) : NV := { v with A1 := A, n1 := n, c1 := c }
def NV.set2 (v : NV) (A : Option Addr) (n c : Nat) : NV := { v with A2 := A, n2 := n, c2 := c }
def NV.set3 (v : NV) (A : Option Addr) (n c : Nat) : NV := { v with A3 := A, n3 := n, c3 := c }
def NV.set4 (v : NV) (A : Option Addr) (n c : Nat) : NV := { v with A4 := A, n4 := n, c4 := c }
/-- The boxes with which a call begins. -/
theorem boxes : ∀ (l : List (Array Value × Nat)) (w : World), ∃ Z, l.foldl (fun w x => w.alloc (.cells x.1 x.2)) w = Z ∧ Fr w Z ∧ Hid (Z.heap.size = w.heap.size + l.length) ∧ ∀ i x, l[i]? = some x → Arr Z (w.heap.size + i) x.2 x.1
  | [], w => ⟨w, rfl, fr_refl w, keep rfl, fun i x h => by simp at h⟩
  | y :: l, w => by
    obtain ⟨Z, h1, h2, h3, h4⟩ := boxes l (w.alloc (.cells y.1 y.2))
    have e : (w.alloc (.cells y.1 y.2)).heap.size = w.heap.size + 1 := by simp
    refine ⟨Z, h1, fr_step (fr_new (fr_refl w) _) h2, keep ?_, fun i x h => ?_⟩
    · have := h3.out
      rw [e] at this
      simp only [List.length_cons]; omega
    · cases i with
      | zero =>
        obtain rfl : y = x := by simpa using h
        exact (Arr.new w y.1 y.2).below h2 (by rw [e]; omega)
      | succ i =>
        have := h4 i x (by simpa using h)
        rw [e] at this
        rwa [Nat.add_right_comm, Nat.add_assoc] at this
theorem nv_fit (v : NV) : 0 + 5 ≤ v.cells.length := Nat.le_refl 5
theorem nv_fit1 (v : NV) {j : Nat} (h : j + 1 ≤ 5) : j + 1 ≤ v.cells.length := h
section
variable {P : Program} {w : World} {fn : Func} {a b c d : Tmp} (tmps : Array Value) (ga gb gc : Nat) {T1 T2 T3 : Nat} {ca cb cc : List Value} {Ta Tb Tc na nb nc : Nat}
end
theorem sl_e : (Tryz.prog.info? 36).map (·.size) = some 1 := by kernel_rfl
theorem sl_i : (Tryz.prog.info? 37).map (·.size) = some 1 := by kernel_rfl
theorem sl_k : (Tryz.prog.info? 38).map (·.size) = some 1 := by kernel_rfl
theorem sl_m : (Tryz.prog.info? 39).map (·.size) = some 1 := by kernel_rfl
theorem one_sl (A : Option Addr) (n c : Nat) : One [Value.slice A n c] := one_of _ rfl
end Go.Proofs.YtmoaddbpfekdbaaGreat
