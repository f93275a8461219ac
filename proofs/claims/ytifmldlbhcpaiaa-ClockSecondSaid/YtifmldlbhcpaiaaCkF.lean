/- Rows of marks; stores and appends within a loop over a function; what such a loop may turn. -/
import Derived.Test.YtifmldlbhcpaiaaRows
import Derived.Test.YtifmldlbhcpaiaaLaM
import Derived.Test.YtifmldlbhcpaiaaCkM
import Derived.Laws.Externs
import Derived.Lib.LazyBuf
import Derived.Deep.Cut
import Derived.RangeFuncNested
import Derived.RangeFuncCalls
import Derived.RangeFuncLeaves
import Derived.RangeFuncBound
import Derived.RangeFuncBox
import Derived.Shelf.Abstract
import Derived.Shelf.RegionOpen
import Derived.OwnWalkIn
import Derived.TacticsInMore
import Derived.LoopNIn
import Derived.LoopIn
namespace Go.Proofs.Ytifmldlbhcpaiaa
set_option linter.unusedVariables false
set_option linter.unusedSimpArgs false
set_option maxRecDepth 100000
open Go.RowKit
def bc (b : Bool) : List Value := [.bool b]
def ic (z : Int) : List Value := [.int .i64 z]
theorem bc_wid (l : List Bool) : Wid bc 1 l := fun _ _ => rfl
theorem ic_wid (l : List Int) : Wid ic 1 l := fun _ _ => rfl
theorem bc_one (b : Bool) : One (bc b) := .cons rfl .nil
theorem ic_one (z : Int) : One (ic z) := .cons rfl .nil
theorem ic_ints (l : List Int) : rows ic l = ints l := rows_map _ l
theorem int_elem : Elem Try.prog 3 1 8 := Elem.of (z := .int .i64 0) (by kernel_rfl) (by kernel_rfl) (by kernel_rfl) rfl
theorem bool_elem : Elem Try.prog 4 1 1 := Elem.of (z := .bool false) (by kernel_rfl) (by kernel_rfl) (by kernel_rfl) rfl
theorem ints_under : Try.prog.underlying 28 = some (.slice 3) := Try.underlying28
theorem bools_under : Try.prog.underlying 22 = some (.slice 4) := Try.underlying22
theorem bool_info : (Try.prog.info? 4).map (·.size) = some 1 := by kernel_rfl
theorem int_info : (Try.prog.info? 3).map (·.size) = some 1 := by kernel_rfl
theorem rows_eq_nil {α : Type} {c : α → List Value} {s : Nat} {l : List α} (hw : Wid c s l) (hs : 0 < s) (h : rows c l = []) : l = [] := by
  have := rows_len hw
  rw [h] at this
  cases l with
  | nil => rfl
  | cons x l =>
    have h2 : 0 < (x :: l).length * s := Nat.mul_pos (by simp) hs
    rw [← this] at h2
    simp at h2
/-- A store of one of a row. -/
theorem run_store_rw {P : Program} {α : Type} {cf : α → List Value} {T size e g o n c j : Nat} {w : World} {l : List α} {x : α} (hs : (P.info? T).map (·.size) = some size) {v : Value} (hv : v.cells.toList = cf x) (hl : (cf x).length = size) (h1 : One (cf x)) (ho : Rw w e size (some ⟨g, o, none⟩) n c (rows cf l)) (hw : Wid cf size l) (hn : l.length = n) (hj : j < n) :
    ∃ W, (storeVar T ⟨g, o + j * size, none⟩ v).run P w = .ok () W ∧ Rw W e size (some ⟨g, o, none⟩) n c (rows cf (l.set j x)) ∧ Chg (· = g) w W := by
  have h9 : (j + 1) * size ≤ n * size := Nat.mul_le_mul_right _ hj
  have h2 : j * size + size = (j + 1) * size := (Nat.succ_mul j size).symm
  obtain ⟨W, hr, h3, h4⟩ := rw_cells (P := P) w ho (j * size) (cf x) h1 (by omega)
  have e1 := rows_splice hw (j := j) (by omega) hl
  refine ⟨W, ?_, ?_, h4⟩
  · have hz : (sizeOf T).run P w = .ok size w := by
      cases hq : P.info? T with
      | none => simp [hq] at hs
      | some i =>
        have : i.size = size := by simpa [hq] using hs
        simp [sizeOf, typeInfo, hq, this]
    have hsz : v.cells.size = size := by rw [← Array.length_toList, hv, hl]
    simp only [storeVar, Sem.run_bind, hz, Result.andThen_ok, hsz, ne_eq, not_true, if_false, hv, Sem.run_pure]
    exact hr
  · rw [← e1]
    unfold splice
    rw [← List.append_assoc]
    exact h3
theorem wpList_store_rw {P : Program} {α : Type} {cf : α → List Value} {w : World} {ops : Array Oper} {rest : List Oper} {o' : Oper} {a : Act} {Q : Exit → Act → World → Prop} {T size e g o n c j : Nat} {l : List α} {x : α} (hs : (P.info? T).map (·.size) = some size) (hgd : o'.guard = none) (px py : Operand) (hop : o'.op = .store T px py)
    (hx : a.eval px = .pointer (some ⟨g, o + j * size, none⟩)) (hv : (a.eval py).cells.toList = cf x) (hl : (cf x).length = size) (h1 : One (cf x)) (ho : Rw w e size (some ⟨g, o, none⟩) n c (rows cf l)) (hw : Wid cf size l) (hn : l.length = n) (hj : j < n)
    (h : ∀ W, Rw W e size (some ⟨g, o, none⟩) n c (rows cf (l.set j x)) → Chg (· = g) w W → wpList P ops Q rest (a.put o'.dst undef) W) : wpList P ops Q (o' :: rest) a w := by
  obtain ⟨W, hr, h2, h3⟩ := run_store_rw (P := P) hs hv hl h1 ho hw hn hj
  refine wpList_plain hgd fun K hK => ?_
  unfold Oper.wp execOp
  simp only [hop, hx, Instr.storeAt, Instr.sureAddr, Sem.run_bind, Sem.run_pure, Result.andThen_ok, hr]
  exact hK _ _ (h W h2 h3)
theorem wpListIn_store_rw {F : Fence} {N : Nat} {P : Program} {α : Type} {cf : α → List Value} {w : World} {ops : Array Oper} {rest : List Oper} {o' : Oper} {a : Act} {Q : Exit → Act → World → Prop} {T size e g o n c j : Nat} {l : List α} {x : α} (hs : (P.info? T).map (·.size) = some size) (hgd : o'.guard = none) (px py : Operand) (hop : o'.op = .store T px py)
    (hx : a.eval px = .pointer (some ⟨g, o + j * size, none⟩)) (hv : (a.eval py).cells.toList = cf x) (hl : (cf x).length = size) (h1 : One (cf x)) (ho : Rw w e size (some ⟨g, o, none⟩) n c (rows cf l)) (hw : Wid cf size l) (hn : l.length = n) (hj : j < n)
    (h : ∀ W, Rw W e size (some ⟨g, o, none⟩) n c (rows cf (l.set j x)) → Chg (· = g) w W → wpListIn F N P ops Q rest (a.put o'.dst undef) W) : wpListIn F N P ops Q (o' :: rest) a w := by
  obtain ⟨W, hr, h2, h3⟩ := run_store_rw (P := P) hs hv hl h1 ho hw hn hj
  refine wpListIn_plain hgd fun K hK => ?_
  unfold Oper.wpIn
  refine ⟨?_, ?_⟩
  · simp [Oper.about, hop]
  · rw [Oper.semAt_plain F _ _ (by rw [hop]; intro c hc'; cases hc')]
    simp only [execOp, hop, hx, Instr.storeAt, Instr.sureAddr, Sem.run_bind, Sem.run_pure, Result.andThen_ok, hr]
    exact hK _ _ (h W h2 h3)
theorem wpListIn_append_rw {F : Fence} {N : Nat} {P : Program} {w : World} {ops : Array Oper} {rest : List Oper} {o : Oper} {a : Act} {Q : Exit → Act → World → Prop} {e size bytes t : Nat} (E : Elem P e size bytes) (ht : P.underlying t = some (.slice e)) (hsz : 0 < size) (hgd : o.guard = none) (s x : Operand)
    (hop : o.op = .call { callee := .builtin .append, args := #[s, x], argTypes := #[t, t] }) (A : Option Addr) (n c1 : Nat) (xs : List Value) (hs : a.eval s = .slice A n c1) (ho : Rw w e size A n c1 xs)
    (C : Nat) (A2 : Option Addr) (m c2 : Nat) (news : List Value) (hx : a.eval x = .slice A2 m c2) (hl : news.length = m * size) (hn : Has w C A2 news) (h1 : One news) (h63 : n + m ≤ maxLen) (hbytes : (n + m) * bytes ≤ 140737488355328)
    (h : ∀ A' c' w', Rw w' e size A' (n + m) c' (xs ++ news) → Put w w' A A' → wpListIn F N P ops Q rest (a.put o.dst (.slice A' (n + m) c')) w') : wpListIn F N P ops Q (o :: rest) a w := by
  obtain ⟨A', c', w', hr, h2, h3⟩ := rw_append (P := P) w t t o.type E ht hsz ho (.slice A2 m c2) m news (src_has w ht hn hl h1) h63 hbytes
  refine wpListIn_plain hgd fun K hK => ?_
  unfold Oper.wpIn
  refine ⟨?_, ?_⟩
  · simp [Oper.about, hop, resolve, Target.leads, Sem.run_pure]
  · rw [Oper.semAt_plain F _ _ (by rw [hop]; intro c hc'; cases hc')]
    simp only [execOp, hop, resolve, invoke, builtin, Sem.run_bind, Sem.run_pure, Result.andThen_ok, List.map_toArray, List.map_cons, List.map_nil, hs, hx, hr]
    exact hK _ _ (h A' c' w' h2 h3)
theorem wpList_append_run {P : Program} (w : World) {ops : Array Oper} {rest : List Oper} {o : Oper} {a : Act} {Q : Exit → Act → World → Prop} (hgd : o.guard = none) (d s : Operand) (t t' : TypeId)
    (ho : o.op = .call { callee := .builtin .append, args := #[d, s], argTypes := #[t, t'] }) (v u : Value) (hd : a.eval d = v) (hs : a.eval s = u) {v' : Value} {w' : World}
    (hr : (Builtin.append_ #[t, t'] o.type #[v, u]).run P w = .ok v' w') (h : wpList P ops Q rest (a.put o.dst v') w') : wpList P ops Q (o :: rest) a w :=
  wpList_plain hgd fun _ hK => by
    unfold Oper.wp execOp
    simp only [ho, resolve, invoke, builtin, Sem.run_bind, Sem.run_pure, Result.andThen_ok, List.map_toArray, List.map_cons, List.map_nil, hd, hs, hr]
    exact hK _ _ h
/-- 'append' of one element that lies in a new block, onto a row. -/
theorem wpList_append_rw {P : Program} {w : World} {ops : Array Oper} {rest : List Oper} {o : Oper} {a : Act} {Q : Exit → Act → World → Prop} {e size bytes t : Nat} (E : Elem P e size bytes) (ht : P.underlying t = some (.slice e)) (hsz : 0 < size) (hgd : o.guard = none) (s x : Operand)
    (hop : o.op = .call { callee := .builtin .append, args := #[s, x], argTypes := #[t, t] }) (A : Option Addr) (n c1 : Nat) (xs : List Value) (hs : a.eval s = .slice A n c1) (ho : Rw w e size A n c1 xs)
    (C : Nat) (A2 : Option Addr) (m c2 : Nat) (news : List Value) (hx : a.eval x = .slice A2 m c2) (hl : news.length = m * size) (hn : Has w C A2 news) (h1 : One news) (h63 : n + m ≤ maxLen) (hbytes : (n + m) * bytes ≤ 140737488355328)
    (h : ∀ A' c' w', Rw w' e size A' (n + m) c' (xs ++ news) → Put w w' A A' → wpList P ops Q rest (a.put o.dst (.slice A' (n + m) c')) w') : wpList P ops Q (o :: rest) a w := by
  obtain ⟨A', c', w', hr, h2, h3⟩ := rw_append (P := P) w t t o.type E ht hsz ho (.slice A2 m c2) m news (src_has w ht hn hl h1) h63 hbytes
  exact wpList_append_run w hgd s x t t hop _ _ hs hx hr (h A' c' w' h2 h3)
/-! What a loop over a function may turn. -/
/-- No cells, and from B on. -/
def NC (B : Nat) (W : World) (k : Nat) : Prop := B ≤ k ∧ ∃ o : Obj, W.heap[k]? = some o ∧ o.isCells = false
section
variable {X : Nat → Prop} {B : Nat} {W W' : World} {row : Option Nat}
theorem grown_chg (hg : W.grownBy W' row) (hr : ∀ r, row = some r → B ≤ r ∧ ∃ o : Obj, W.heap[r]? = some o ∧ o.isCells = false) : Chg (NC B W) W W' :=
  ⟨hg.os, hg.tape, hg.output, hg.size, fun k hk hx => hg.block k hk fun e => hx (hr k e.symm)⟩
theorem Arr.nc {g T : Nat} {cs : Array Value} (h : Arr W g T cs) : ¬ NC B W g := fun ⟨_, o, h1, h2⟩ => by
  have h : W.heap[g]? = _ := h
  rw [h] at h1
  injection h1 with h1
  subst h1
  cases h2
theorem Rw.nc {e size n c : Nat} {A : Option Addr} {xs : List Value} (h : Rw W e size A n c xs) : ∀ b, At A b → ¬ NC B W b := fun b hb => by
  rcases h.2 with ⟨rfl, _⟩ | ⟨g, p, r, rfl, ha, _⟩
  · cases hb
  · injection hb with hb
    subst hb
    exact ha.nc
theorem keeps_chg (h : Chg X W W') (hx : ∀ k, X k → ∃ T cs, Arr W k T cs) : KeepsFrom B W W' :=
  ⟨h.size, fun k o _ hk ho => (h.block k (Array.getElem?_eq_some_iff.1 hk).1 fun x => by
    obtain ⟨T, cs, ha⟩ := hx k x
    exact ha.nc (B := 0) ⟨Nat.zero_le _, o, hk, ho⟩).trans hk⟩
theorem Rw.arr {e size n c : Nat} {A : Option Addr} {xs : List Value} (h : Rw W e size A n c xs) : ∀ b, At A b → ∃ T cs, Arr W b T cs := fun b hb => by
  rcases h.2 with ⟨rfl, _⟩ | ⟨g, p, r, rfl, ha, _⟩
  · cases hb
  · injection hb with hb
    subst hb
    exact ⟨_, _, ha⟩
/-- Blocks of two types are apart. -/
theorem Arr.ty {g T T' : Nat} {cs cs' : Array Value} (h : Arr W g T cs) (h' : Arr W g T' cs') : T = T' := by
  have h : W.heap[g]? = _ := h
  have h' : W.heap[g]? = _ := h'
  rw [h] at h'
  injection h' with e
  injection e
theorem Rw.ty {e size n c T g : Nat} {A : Option Addr} {xs : List Value} {cs : Array Value} (h : Rw W e size A n c xs) (ha : Arr W g T cs) (hT : e ≠ T) : ¬ At A g := fun hg => by
  rcases h.2 with ⟨rfl, _⟩ | ⟨g', p, r, rfl, h2, _⟩
  · cases hg
  · injection hg with hg
    subst hg
    exact hT (h2.ty ha)
theorem Rw.apart {e e' size size' n c n' c' : Nat} {A A' : Option Addr} {xs xs' : List Value} (h : Rw W e size A n c xs) (h' : Rw W e' size' A' n' c' xs') (hT : e ≠ e') : ∀ b, At A b → ¬ At A' b := fun b hb hb' => by
  rcases h'.2 with ⟨rfl, _⟩ | ⟨g', p, r, rfl, h2, _⟩
  · cases hb'
  · injection hb' with hb'
    subst hb'
    exact h.ty h2 hT hb
end
/-- Two blocks lie as they lay. -/
def Kp2 (a b : Nat) (W W' : World) : Prop := W'.heap[a]? = W.heap[a]? ∧ W'.heap[b]? = W.heap[b]?
theorem kp2_t {a b : Nat} {A B C : World} (h : Kp2 a b A B) (k : Kp2 a b B C) : Kp2 a b A C := ⟨k.1.trans h.1, k.2.trans h.2⟩
theorem kp2_b {a b : Nat} {w : World} (ha : a < w.heap.size) (hb : b < w.heap.size) (W : World) (l : Nat) (o o' : Obj) (hl : w.heap.size ≤ l) (h : W.heap[l]? = some o) (_ : o.isCells = false) (_ : o.isWalk = false) : Kp2 a b W (W.putObj l o') :=
  ⟨World.putObj_heap_other (by omega), World.putObj_heap_other (by omega)⟩
theorem kp2_chg {a b : Nat} {X : Nat → Prop} {W W' : World} (h : Chg X W W') (ha : a < W.heap.size) (hb : b < W.heap.size) (xa : ¬ X a) (xb : ¬ X b) : Kp2 a b W W' := ⟨h.block a ha xa, h.block b hb xb⟩
theorem fin_list {n : Nat} (l : List Nat) (h : ∀ k ∈ l, k < n) : ∃ xs : List (Fin n), xs.map Fin.val = l := by
  induction l with
  | nil => exact ⟨[], rfl⟩
  | cons x l ih =>
    obtain ⟨xs, e⟩ := ih fun k hk => h k (by simp [hk])
    exact ⟨⟨x, h x (by simp)⟩ :: xs, by simp [e]⟩
end Go.Proofs.Ytifmldlbhcpaiaa
