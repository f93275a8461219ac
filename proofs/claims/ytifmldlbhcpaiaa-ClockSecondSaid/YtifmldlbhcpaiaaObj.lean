/- Objects that calls turn: which blocks have turned from one world to another; cells in blocks of which something holds. No program text. -/
import Derived.Test.YtifmldlbhcpaiaaStrip
import Derived.Deep.LoopGhost
import Derived.Deep.RegionHeld3
import Derived.Deep.RegionWith
import Derived.Deep.RegionLaw
import Derived.Deep.QuietTactic
import Derived.BigQuiet
import Derived.Deep.CutRange
import Derived.Deep.CutBlock
import Derived.StillTailTactics
import Derived.WalkSpells
import Derived.WalkLawsBesides
import Derived.Laws.MakeOwn
import Derived.Laws.Tables
import Derived.Outline
namespace Go.Proofs.Ytifmldlbhcpaiaa
set_option linter.unusedVariables false
set_option linter.unusedSimpArgs false
open Go.RowKit
/-- From w to W only blocks of X have turned, and new ones. -/
structure Chg (X : Nat → Prop) (w W : World) : Prop where
  os : W.os = w.os
  tape : W.tape = w.tape
  output : W.output = w.output
  size : w.heap.size ≤ W.heap.size
  block : ∀ k, k < w.heap.size → ¬ X k → W.heap[k]? = w.heap[k]?
section
variable {X Y : Nat → Prop} {a b c w W : World} {g T : Nat} {cs : Array Value}
theorem Chg.refl (X : Nat → Prop) (w : World) : Chg X w w := ⟨rfl, rfl, rfl, Nat.le_refl _, fun _ _ _ => rfl⟩
theorem Chg.trans' (h : Chg X a b) (k : Chg Y b c) (hy : ∀ i, i < a.heap.size → Y i → X i) : Chg X a c :=
  ⟨k.os.trans h.os, k.tape.trans h.tape, k.output.trans h.output, Nat.le_trans h.size k.size, fun i hi hx => (k.block i (Nat.lt_of_lt_of_le hi h.size) (fun y => hx (hy i hi y))).trans (h.block i hi hx)⟩
theorem Chg.trans (h : Chg X a b) (k : Chg X b c) : Chg X a c := h.trans' k fun _ _ x => x
theorem Chg.weak (h : Chg X w W) (hy : ∀ i, i < w.heap.size → X i → Y i) : Chg Y w W := ⟨h.os, h.tape, h.output, h.size, fun i hi n => h.block i hi fun x => n (hy i hi x)⟩
theorem Chg.of_fr (X : Nat → Prop) (h : Fr w W) : Chg X w W := ⟨h.os, h.tape, h.output, h.size, fun i hi _ => h.block i hi⟩
theorem Chg.fr (h : Chg X a b) (k : Fr b c) : Chg X a c := h.trans (.of_fr X k)
theorem Chg.alloc (h : Chg X a w) (o : Obj) : Chg X a (w.alloc o) := h.fr (fr_new (fr_refl w) o)
theorem Chg.drew (h : Chg X a w) : Chg X a w.drew := ⟨h.os, h.tape, h.output, h.size, h.block⟩
theorem Chg.set (h : Chg X a w) {p : Addr} (hp : a.heap.size ≤ p.block ∨ X p.block) (v : Value) : Chg X a (w.setCell p v) :=
  ⟨h.os, h.tape, h.output, by have := h.size; simpa using this, fun i hi hx => (Below.heap_setCell w p v i (fun e => by subst e; rcases hp with hp | hp; omega; exact hx hp)).trans (h.block i hi hx)⟩
theorem Chg.row (h : Chg X a w) {g : Nat} (hp : a.heap.size ≤ g ∨ X g) (ds : Array Value) : Chg X a (w.setRow g ds) :=
  ⟨h.os, h.tape, h.output, by have := h.size; simpa [World.setRow] using this, fun i hi hx => (setRow_other w g i ds (fun e => by subst e; rcases hp with hp | hp; omega; exact hx hp)).trans (h.block i hi hx)⟩
theorem Chg.below (h : Chg X w W) {B : Nat} (hB : B ≤ w.heap.size) (hx : ∀ i, X i → B ≤ i) : Below B w W :=
  ⟨h.os, h.tape, h.output, h.size, fun k hk => h.block k (by omega) fun x => by have := hx k x; omega⟩
theorem Below.chg {B : Nat} (h : Below B w W) : Chg (fun i => B ≤ i) w W := ⟨h.os, h.tape, h.output, h.size, fun k _ n => h.block k (by omega)⟩
theorem Arr.chg (h : Arr w g T cs) (k : Chg X w W) (hg : ¬ X g) : Arr W g T cs := (k.block g h.lt hg).trans h
theorem Chg.cell (h : Chg X w W) {p : Addr} (hp : p.block < w.heap.size) (hx : ¬ X p.block) : W.cell? p = w.cell? p := World.cell?_of_block (h.block _ hp hx)
end
/-- The slice at A has the cells xs, in blocks of which ok holds. -/
def HasP (w : World) (ok : Nat → Prop) (A : Option Addr) (xs : List Value) : Prop :=
  ∀ j u, xs[j]? = some u → ∃ b off, A = some ⟨b, off, none⟩ ∧ ok b ∧ w.cell? ⟨b, off + j, none⟩ = some u
section
variable {X : Nat → Prop} {w W : World} {ok ok' : Nat → Prop} {A : Option Addr} {xs : List Value} {B g : Nat}
theorem HasP.move (h : HasP w ok A xs) (hc : ∀ p : Addr, ok p.block → p.block < w.heap.size → W.cell? p = w.cell? p) : HasP W ok A xs := fun j u hu => by
  obtain ⟨b, off, h1, h2, h3⟩ := h j u hu
  exact ⟨b, off, h1, h2, (hc _ h2 (World.block_lt_of_cell? _ _ h3)).trans h3⟩
theorem HasP.fr (h : HasP w ok A xs) (f : Fr w W) : HasP W ok A xs := h.move fun p _ hp => f.cell hp
theorem HasP.chg (h : HasP w ok A xs) (k : Chg X w W) (hx : ∀ b, ok b → ¬ X b) : HasP W ok A xs := h.move fun p ho hp => k.cell hp (hx _ ho)
theorem HasP.weak (h : HasP w ok A xs) (hk : ∀ b, b < w.heap.size → ok b → ok' b) : HasP w ok' A xs := fun j u hu => by
  obtain ⟨b, off, h1, h2, h3⟩ := h j u hu
  exact ⟨b, off, h1, hk b (World.block_lt_of_cell? _ _ h3) h2, h3⟩
theorem HasP.has (h : HasP w ok A xs) : Has w w.heap.size A xs := fun j u hu => by
  obtain ⟨b, off, h1, h2, h3⟩ := h j u hu
  exact ⟨b, off, h1, World.block_lt_of_cell? _ _ h3, h3⟩
theorem HasP.nil : HasP w ok A [] := fun j u h => by simp at h
theorem Has.hasP (h : Has w B A xs) (hk : ∀ b, b < B → ok b) : HasP w ok A xs := fun j u hu => by
  obtain ⟨b, off, h1, h2, h3⟩ := h j u hu
  exact ⟨b, off, h1, hk b h2, h3⟩
theorem Own.hasP {e size n c : Nat} (h : Own w B e size A n c xs) (hk : ∀ b, B ≤ b → ok b) : HasP w ok A xs := fun j u hu => by
  obtain ⟨b, off, h1, h2, h3⟩ := h.has j u hu
  exact ⟨b, off, h1, hk b (h.lt b (by rw [h1]; rfl)).1, h3⟩
end
theorem Has.fr {w W : World} {B : Nat} {A : Option Addr} {xs : List Value} (h : Has w B A xs) (hB : B ≤ w.heap.size) (f : Fr w W) : Has W B A xs := h.lift fun p hp => f.cell (by omega)
section
variable {P : Program} {w : World} {ops : Array Oper} {rest : List Oper} {o : Oper} {a : Act} {K : Act → World → Prop} {Q : Exit → Act → World → Prop} {E : Prop}
theorem chg_row (w : World) (g : Nat) (ds : Array Value) : Chg (· = g) w (w.setRow g ds) := (Chg.refl (fun x => x = g) w).row (.inr rfl) ds
/-- A store into a block of which all is known. -/
theorem wpList_store_chg {T n : Nat} (hs : (P.info? T).map (·.size) = some n) (hgd : o.guard = none) (x y : Operand) (ho : o.op = .store T x y)
    (g off : Nat) (hx : a.eval x = .pointer (some ⟨g, off, none⟩)) {ds : List Value} (hv : (a.eval y).cells.toList = ds) (hl : ds.length = n) (h1 : One ds)
    {T' : Nat} {cs : List Value} (ha : Arr w g T' cs.toArray) (hf : off + n ≤ cs.length) {cs' : List Value} (hc : splice cs off ds = cs')
    (h : ∀ W, Arr W g T' cs'.toArray → Chg (· = g) w W → wpList P ops Q rest (a.put o.dst undef) W) : wpList P ops Q (o :: rest) a w :=
  wpList_plain hgd fun K hK => by
    unfold Oper.wp execOp
    simp only [ho, hx, Instr.storeAt, Instr.sureAddr, Sem.run_bind, Sem.run_pure, Result.andThen_ok, run_store_at hs hv hl h1 ha hf, hc]
    exact hK _ _ (h _ (ha.setRow _) (chg_row w g _))
theorem step_store_chg {T n : Nat} (hs : (P.info? T).map (·.size) = some n) (hw : Region.wanted o (yielded ops a.tmps) = true) (x y : Operand) (ho : o.op = .store T x y)
    (g off : Nat) (hx : a.eval x = .pointer (some ⟨g, off, none⟩)) {ds : List Value} (hv : (a.eval y).cells.toList = ds) (hl : ds.length = n) (h1 : One ds)
    {T' : Nat} {cs : List Value} (ha : Arr w g T' cs.toArray) (hf : off + n ≤ cs.length) {cs' : List Value} (hc : splice cs off ds = cs')
    (hK : ∀ W, Arr W g T' cs'.toArray → Chg (· = g) w W → K (a.put o.dst undef) W) : if Region.wanted o (yielded ops a.tmps) = true then Oper.wp P o a w K Q else E := by
  rw [if_pos hw]
  unfold Oper.wp execOp
  simp only [ho, hx, Instr.storeAt, Instr.sureAddr, Sem.run_bind, Sem.run_pure, Result.andThen_ok, run_store_at hs hv hl h1 ha hf, hc]
  exact hK _ (ha.setRow _) (chg_row w g _)
/-- 'copy' into a block of which all is known. -/
theorem run_copy_chg {dT sT ty elem T' n : Nat} (hu : P.underlying dT = some (.slice elem)) (hs : (P.info? elem).map (·.size) = some n) (hn0 : 0 < n)
    {g off dLen dCap sLen sCap B : Nat} {A : Option Addr} {cur cs : List Value} (hg : Arr w g T' cur.toArray) (hl : cs.length = Nat.min sLen dLen * n) (hsrc : Has w B A cs) (hf : off + cs.length ≤ cur.length) (h1 : One cs) :
    ∃ W, (Builtin.copy_ #[dT, sT] ty #[.slice (some ⟨g, off, none⟩) dLen dCap, .slice A sLen sCap]).run P w = .ok (goInt (Nat.min sLen dLen)) W ∧ Arr W g T' (splice cur off cs).toArray ∧ Chg (· = g) w W := by
  obtain ⟨i, hi, his⟩ : ∃ i, P.info? elem = some i ∧ i.size = n := by
    cases h : P.info? elem with
    | none => rw [h] at hs; cases hs
    | some i => rw [h] at hs; exact ⟨i, rfl, by simpa using hs⟩
  by_cases h0 : cs = []
  · subst h0
    have hm : Nat.min sLen dLen = 0 := by
      rcases Nat.eq_zero_or_pos (Nat.min sLen dLen) with h | h
      · exact h
      · have := Nat.mul_pos h hn0
        simp at hl; omega
    refine ⟨w, ?_, by simpa [splice] using hg, .refl _ w⟩
    cases A <;> simp [Builtin.copy_, run_underlying hu, Builtin.lenOf, hm, sizeOf, typeInfo, hi, Builtin.firstCells, loadCells, loadCellsFrom, storeCells, goInt]
  · obtain ⟨b, o2, rfl, _, hc⟩ := hsrc.form h0
    have hst := run_storeCells_at P g off T' cs 0 cur.toArray w hg (by simpa using hf) h1
    simp only [Nat.add_zero] at hst
    refine ⟨_, ?_, by simpa [splice] using hg.setRow (splice cur off cs).toArray, chg_row w g _⟩
    have hfo := run_firstCells_some (P := P) w i.size (Nat.min sLen dLen) ⟨b, o2, none⟩ sLen sCap cs (by rw [his]; exact hl) (fun j u hu => by rw [Addr.add_lit]; exact hc j u hu)
    simp [Builtin.copy_, run_underlying hu, Builtin.lenOf, sizeOf, typeInfo, hi, hfo, hst, goInt, splice]
theorem wpList_copy_chg (hgd : o.guard = none) (d s : Operand) (dT sT : TypeId) (ho : o.op = .call { callee := .builtin .copy, args := #[d, s], argTypes := #[dT, sT] }) {elem T' n : Nat} (hu : P.underlying dT = some (.slice elem)) (hs : (P.info? elem).map (·.size) = some n) (hn0 : 0 < n)
    (g off dLen dCap sLen sCap B : Nat) (A : Option Addr) (hd : a.eval d = .slice (some ⟨g, off, none⟩) dLen dCap) (hsv : a.eval s = .slice A sLen sCap) {cur cs : List Value} (hg : Arr w g T' cur.toArray) (hl : cs.length = Nat.min sLen dLen * n) (hsrc : Has w B A cs) (hf : off + cs.length ≤ cur.length) (h1 : One cs)
    (h : ∀ W, Arr W g T' (splice cur off cs).toArray → Chg (· = g) w W → wpList P ops Q rest (a.put o.dst (goInt (Nat.min sLen dLen))) W) : wpList P ops Q (o :: rest) a w :=
  wpList_plain hgd fun K hK => by
    obtain ⟨W, hr, hA, hC⟩ := run_copy_chg (ty := o.type) (sT := sT) (dCap := dCap) (sCap := sCap) hu hs hn0 hg hl hsrc hf h1
    unfold Oper.wp execOp
    simp only [ho, resolve, invoke, builtin, Sem.run_bind, Sem.run_pure, Result.andThen_ok, List.map_toArray, List.map_cons, List.map_nil, hd, hsv, hr]
    exact hK _ _ (h W hA hC)
theorem step_copy_chg (hw : Region.wanted o (yielded ops a.tmps) = true) (d s : Operand) (dT sT : TypeId) (ho : o.op = .call { callee := .builtin .copy, args := #[d, s], argTypes := #[dT, sT] }) {elem T' n : Nat} (hu : P.underlying dT = some (.slice elem)) (hs : (P.info? elem).map (·.size) = some n) (hn0 : 0 < n)
    (g off dLen dCap sLen sCap B : Nat) (A : Option Addr) (hd : a.eval d = .slice (some ⟨g, off, none⟩) dLen dCap) (hsv : a.eval s = .slice A sLen sCap) {cur cs : List Value} (hg : Arr w g T' cur.toArray) (hl : cs.length = Nat.min sLen dLen * n) (hsrc : Has w B A cs) (hf : off + cs.length ≤ cur.length) (h1 : One cs)
    (hK : ∀ W, Arr W g T' (splice cur off cs).toArray → Chg (· = g) w W → K (a.put o.dst (goInt (Nat.min sLen dLen))) W) : if Region.wanted o (yielded ops a.tmps) = true then Oper.wp P o a w K Q else E := by
  obtain ⟨W, hr, hA, hC⟩ := run_copy_chg (ty := o.type) (sT := sT) (dCap := dCap) (sCap := sCap) hu hs hn0 hg hl hsrc hf h1
  rw [if_pos hw]
  unfold Oper.wp execOp
  simp only [ho, resolve, invoke, builtin, Sem.run_bind, Sem.run_pure, Result.andThen_ok, List.map_toArray, List.map_cons, List.map_nil, hd, hsv, hr]
  exact hK _ (hA) (hC)
end
section
variable {P : Program} {w : World} {t e size bytes : Nat}
/-- 'append(s, x...)', s the call's own from a base world on. -/
theorem wpList_append_vals {w0 : World} {ops : Array Oper} {rest : List Oper} {o : Oper} {a : Act} {Q : Exit → Act → World → Prop} (E : Elem P e size bytes) (ht : P.underlying t = some (.slice e)) (hsz : 0 < size) (hgd : o.guard = none) (s x : Operand)
    (hop : o.op = .call { callee := .builtin .append, args := #[s, x], argTypes := #[t, t] }) (h0 : Fr w0 w)
    (A : Option Addr) (n c1 : Nat) (xs : List Value) (hs : a.eval s = .slice A n c1) (ho : Own w w0.heap.size e size A n c1 xs)
    (C : Nat) (A2 : Option Addr) (m c2 : Nat) (news : List Value) (hx : a.eval x = .slice A2 m c2) (hl : news.length = m * size) (hn : Has w C A2 news) (h1 : One news)
    (h63 : n + m ≤ maxLen) (hbytes : (n + m) * bytes ≤ 140737488355328)
    (h : ∀ A' c' w', Own w' w0.heap.size e size A' (n + m) c' (xs ++ news) → Fr w0 w' → wpList P ops Q rest (a.put o.dst (.slice A' (n + m) c')) w') :
    wpList P ops Q (o :: rest) a w := by
  obtain ⟨i, z, hi, hz, hsize, hby, hzs⟩ := E.row
  refine wpList_append_has w hgd s x t hop w0.heap.size e i z size bytes ht hi hz hsize hby hzs hsz A n c1 xs hs ho C A2 m c2 news hx hl hn h1 h63 hbytes h0.size ?_
  intro A' c' w' h1 h2 h3
  exact h A' c' w' h1 (below_grown h0 ho h2 h0.size (Nat.le_refl _))
end
theorem rows_splice {α : Type} {c : α → List Value} {n : Nat} {l : List α} (h : Wid c n l) {j : Nat} (hj : j < l.length) {x : α} (hx : (c x).length = n) : splice (rows c l) (j * n) (c x) = rows c (l.set j x) := by
  rw [List.set_eq_take_append_cons_drop, if_pos hj, rows_append, rows_cons, rows_take h, rows_drop h, splice, hx, Nat.add_mul, Nat.one_mul]
theorem rows_made {α : Type} {c : α → List Value} {n : Nat} (hn : 0 < n) (x : α) (hx : (c x).length = n) (m : Nat) : madeCells (c x).toArray (m * n) = (rows c (List.replicate m x)).toArray := by
  have hw : Wid c n (List.replicate m x) := fun y hy => by rw [List.eq_of_mem_replicate hy]; exact hx
  apply Array.ext'
  apply List.ext_getElem?
  intro i
  by_cases hi : i < m * n
  · have hq : i / n < m := Nat.div_lt_of_lt_mul (by rw [Nat.mul_comm]; exact hi)
    have hr : i % n < n := Nat.mod_lt _ hn
    have e := rows_get hw (j := i / n) (a := x) (by simp [hq]) (i % n) hr
    have e2 : i / n * n + i % n = i := by rw [Nat.mul_comm]; exact Nat.div_add_mod i n
    rw [e2] at e
    simp only [List.toList_toArray] at *
    rw [e]
    simp [madeCells, hi, hx]
    rw [List.getElem?_eq_getElem (by rw [hx]; exact hr)]
    rfl
  · have e : (rows c (List.replicate m x)).length = m * n := by rw [rows_len hw, List.length_replicate]
    rw [List.getElem?_eq_none (by simp [size_madeCells]; omega), List.getElem?_eq_none (by simp only [List.toList_toArray]; omega)]
/-- A part of the j-th of a row laid anew. -/
theorem rows_patch {α : Type} {c : α → List Value} {n : Nat} {l : List α} (h : Wid c n l) {j t : Nat} {x y : α} (hx : l[j]? = some x) {ds : List Value} (ht : t + ds.length ≤ n) (hy : splice (c x) t ds = c y) : splice (rows c l) (j * n + t) ds = rows c (l.set j y) := by
  obtain ⟨hj, he⟩ := List.getElem?_eq_some_iff.1 hx
  have hl : l = l.take j ++ x :: l.drop (j + 1) := by
    rw [← he]; simp
  have hlj : (rows c (l.take j)).length = j * n := by rw [rows_len (h.take j), List.length_take, Nat.min_eq_left (by omega)]
  have hcx : (c x).length = n := h x (List.mem_of_getElem? hx)
  rw [List.set_eq_take_append_cons_drop, if_pos hj, rows_append, rows_cons, ← hy]
  have e1 : rows c l = rows c (l.take j) ++ (c x ++ rows c (l.drop (j + 1))) := by
    conv => lhs; rw [hl]
    rw [rows_append, rows_cons]
  rw [e1]
  generalize rows c (l.take j) = Z at *
  generalize rows c (l.drop (j + 1)) = Y at *
  unfold splice
  rw [← hlj, List.take_length_add_append, Nat.add_assoc, List.drop_length_add_append, List.take_append_of_le_length (by omega), List.drop_append_of_le_length (by omega)]
  simp only [List.append_assoc]
theorem rows_map {α : Type} (f : α → Value) (l : List α) : rows (fun z => [f z]) l = l.map f := by
  induction l with
  | nil => rfl
  | cons x l ih => rw [rows_cons, ih]; rfl
/-- 'make([]T, n)' of one-cell elements. -/
theorem make_one {P : Program} {t e : TypeId} {z : Value} {b : Nat} (ht : P.underlying t = some (.slice e)) (e1 : (P.info? e).bind (·.zero) = some z) (e2 : (P.info? e).map (·.size) = some 1) (e3 : (P.info? e).map (·.bytes) = some b) (hz : z.cells = #[z]) (n : Nat) (hn : b * n ≤ 281474976710656 ∧ n ≤ 9223372036854775807) (w : World) :
    (Instr.makeSlice t (.int .i64 (n : Int)) (.int .i64 (n : Int))).run P w = .ok (.slice (some ⟨w.heap.size, 0, none⟩) n n) (w.alloc (.cells (List.replicate n z).toArray e)) := by
  obtain ⟨i, hi, h1, h2, h3⟩ : ∃ i, P.info? e = some i ∧ i.zero = some z ∧ i.size = 1 ∧ i.bytes = b := by
    cases h : P.info? e with
    | none => rw [h] at e1; cases e1
    | some i =>
      rw [h] at e1 e2 e3
      exact ⟨i, rfl, by simpa using e1, by simpa using e2, by simpa using e3⟩
  have h := run_make (P := P) w t e i z ht hi h1 .i64 .i64 n n (by omega) (Int.le_refl _) (by rw [h3]; have := hn.1; rw [← Int.natCast_mul]; omega) (by omega)
  rw [h2, hz, Int.toNat_natCast] at h
  have e := rows_made (c := fun z : Value => [z]) (n := 1) (by decide) z rfl n
  rw [rows_map (fun z => z), List.map_id'] at e
  rw [e] at h
  exact h
/-- .. as one step of a region that draws its order. -/
theorem step_append_vals {P : Program} {w w0 : World} {t e size bytes : Nat} {ops : Array Oper} {o : Oper} {a : Act} {K : Act → World → Prop} {Q : Exit → Act → World → Prop} {E0 : Prop} (E : Elem P e size bytes) (ht : P.underlying t = some (.slice e)) (hsz : 0 < size) (hw : Region.wanted o (yielded ops a.tmps) = true) (s x : Operand)
    (hop : o.op = .call { callee := .builtin .append, args := #[s, x], argTypes := #[t, t] }) (h0 : Fr w0 w)
    (A : Option Addr) (n c1 : Nat) (xs : List Value) (hs : a.eval s = .slice A n c1) (ho : Own w w0.heap.size e size A n c1 xs)
    (C : Nat) (A2 : Option Addr) (m c2 : Nat) (news : List Value) (hx : a.eval x = .slice A2 m c2) (hl : news.length = m * size) (hn : Has w C A2 news) (h1 : One news)
    (h63 : n + m ≤ maxLen) (hbytes : (n + m) * bytes ≤ 140737488355328)
    (hK : ∀ A' c' w', Own w' w0.heap.size e size A' (n + m) c' (xs ++ news) → Fr w0 w' → K (a.put o.dst (.slice A' (n + m) c')) w') :
    if Region.wanted o (yielded ops a.tmps) = true then Oper.wp P o a w K Q else E0 := by
  rw [if_pos hw]
  obtain ⟨i, z, hi, hz, hsize, hby, hzs⟩ := E.row
  obtain ⟨A', c', w', hr, h2, h3, h4⟩ := run_append_has (P := P) w w0.heap.size t o.type e i z size bytes ht hi hz hsize hby hzs hsz A n c1 xs ho C A2 m c2 news hl hn h1 h63 hbytes h0.size
  unfold Oper.wp execOp
  simp only [hop, resolve, invoke, builtin, Sem.run_bind, Sem.run_pure, Result.andThen_ok, List.map_toArray, List.map_cons, List.map_nil, hs, hx, hr]
  exact hK A' c' w' h2 (below_grown h0 ho h3 h0.size (Nat.le_refl _))
section
variable {P : Program} {w w' : World} {ops : Array Oper} {o : Oper} {a : Act} {K : Act → World → Prop} {Q : Exit → Act → World → Prop} {E : Prop} {v : Value}
/-- 'make' whose run is known, a conversion whose run is known: as one step of a region that draws its order. -/
theorem step_make (hw : Region.wanted o (yielded ops a.tmps) = true) (l c : Operand) (t : TypeId) (hop : o.op = Op.makeSlice t l c) (hr : (Instr.makeSlice t (a.eval l) (a.eval c)).run P w = .ok v w') (hK : K (a.put o.dst v) w') : if Region.wanted o (yielded ops a.tmps) = true then Oper.wp P o a w K Q else E := by
  rw [if_pos hw]
  unfold Oper.wp execOp
  simp only [hop, Sem.run_bind, Sem.run_pure, Result.andThen_ok, hr]
  exact hK
theorem step_convert (hw : Region.wanted o (yielded ops a.tmps) = true) (s t : TypeId) (x : Operand) (hop : o.op = Op.convert s t x) (hr : (convert s t (a.eval x)).run P w = .ok v w') (hK : K (a.put o.dst v) w') : if Region.wanted o (yielded ops a.tmps) = true then Oper.wp P o a w K Q else E := by
  rw [if_pos hw]
  unfold Oper.wp execOp
  simp only [hop, Sem.run_bind, Sem.run_pure, Result.andThen_ok, hr]
  exact hK
end
/-- Three blocks made one behind the other. -/
theorem alloc3 (w : World) (x y z : Array Value) (a b c : Nat) : Arr (((w.alloc (.cells x a)).alloc (.cells y b)).alloc (.cells z c)) w.heap.size a x ∧ Arr (((w.alloc (.cells x a)).alloc (.cells y b)).alloc (.cells z c)) (w.heap.size + 1) b y ∧ Arr (((w.alloc (.cells x a)).alloc (.cells y b)).alloc (.cells z c)) (w.heap.size + 1 + 1) c z ∧ Fr w (((w.alloc (.cells x a)).alloc (.cells y b)).alloc (.cells z c)) := by
  refine ⟨((Arr.new w x a).alloc _).alloc _, ?_, ?_, fr_new (fr_new (fr_new (fr_refl w) _) _) _⟩
  · have := (Arr.new (w.alloc (.cells x a)) y b).alloc (.cells z c)
    simpa using this
  · have := Arr.new ((w.alloc (.cells x a)).alloc (.cells y b)) z c
    simpa using this
/-- A part of a block, as cells that are read. -/
theorem arr_part {w : World} {g T o : Nat} {cs zs : List Value} (ha : Arr w g T cs.toArray) (hz : ∀ j u, zs[j]? = some u → cs[o + j]? = some u) : Has w (g + 1) (some ⟨g, o, none⟩) zs := fun j u hu => ⟨g, o, rfl, Nat.lt_succ_self _, by rw [ha.cell]; simpa using hz j u hu⟩
/-- Bytes, as cells. -/
def u8s (l : List Int) : List Value := l.map (Value.int .u8)
def Bytes (l : List Int) : Prop := ∀ z ∈ l, 0 ≤ z ∧ z ≤ 255
theorem u8s_len (l : List Int) : (u8s l).length = l.length := by simp [u8s]
theorem u8s_one (l : List Int) : One (u8s l) := fun v hv => by
  obtain ⟨z, _, rfl⟩ := List.mem_map.1 hv
  rfl
theorem u8s_get {l : List Int} {j : Nat} {z : Int} (h : l[j]? = some z) : (u8s l)[j]? = some (.int .u8 z) := by simp [u8s, h]
def ints (l : List Int) : List Value := l.map (Value.int .i64)
theorem ints_len (l : List Int) : (ints l).length = l.length := by simp [ints]
theorem ints_one (l : List Int) : One (ints l) := fun v hv => by
  obtain ⟨z, _, rfl⟩ := List.mem_map.1 hv
  rfl
theorem ints_get {l : List Int} {j : Nat} {z : Int} (h : l[j]? = some z) : (ints l)[j]? = some (.int .i64 z) := by simp [ints, h]
theorem ints_app (a b : List Int) : ints (a ++ b) = ints a ++ ints b := by simp [ints]
end Go.Proofs.Ytifmldlbhcpaiaa
