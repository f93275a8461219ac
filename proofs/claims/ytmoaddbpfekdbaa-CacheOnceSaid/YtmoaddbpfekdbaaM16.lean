/- Rows of marks; stores and appends within a loop over a function; what such a loop may turn. -/
import Derived.Test.YtmoaddbpfekdbaaRows
import Derived.Test.YtmoaddbpfekdbaaM14
import Derived.Test.YtmoaddbpfekdbaaM15
import Derived.Laws.Externs
import Derived.Lib.LazyBuf
import Derived.Deep.Cut
import Derived.RangeFuncNested
import Derived.RangeFuncCalls
import Derived.RangeFuncLeaves
import Derived.RangeFuncBound
import Derived.RangeFuncBox
import Derived.Shelf.Abstract
import Derived.Shelf.RegionOpen
import Derived.OwnWalkIn
import Derived.TacticsInMore
import Derived.LoopNIn
import Derived.LoopIn
import Derived.Test.YtmoaddbpfekdbaaM08
import Derived.Test.YtmoaddbpfekdbaaM09
namespace Go.Proofs.Ytmoaddbpfekdbaa
set_option linter.unusedVariables false
set_option linter.unusedSimpArgs false
set_option maxRecDepth 100000
open Go.RowKit
def bc (b : Bool) : List Value := [.bool b]
def ic (z : Int) : List Value := [.int .i64 z]
theorem bc_wid (l : List Bool) : Wid bc 1 l := fun _ _ => rfl
theorem ic_wid (l : List Int) : Wid ic 1 l := fun _ _ => rfl
theorem bc_one (b : Bool) : One (bc b) := .cons rfl .nil
theorem ic_one (z : Int) : One (ic z) := .cons rfl .nil
theorem ic_ints (l : List Int) : rows ic l = ints l := rows_map _ l
theorem bool_elem : Elem Try.prog 4 1 1 := Elem.of (z := .bool false) (by kernel_rfl) (by kernel_rfl) (by kernel_rfl) rfl
theorem bools_under : Try.prog.underlying 56 = some (.slice 4) := Try.underlying56
theorem bool_info : (Try.prog.info? 4).map (·.size) = some 1 := by kernel_rfl
theorem rows_eq_nil {α : Type} {c : α → List Value} {s : Nat} {l : List α} (hw : Wid c s l) (hs : 0 < s) (h : rows c l = []) : l = [] := by
  have := rows_len hw
  rw [h] at this
  cases l with
  | nil => rfl
  | cons x l =>
    have h2 : 0 < (x :: l).length * s := Nat.mul_pos (by simp) hs
    rw [← this] at h2
    simp at h2
/-- A store of one of a row. -/
theorem run_store_rw {P : Program} {α : Type} {cf : α → List Value} {T size e g o n c j : Nat} {w : World} {l : List α} {x : α} (hs : (P.info? T).map (·.size) = some size) {v : Value} (hv : v.cells.toList = cf x) (hl : (cf x).length = size) (h1 : One (cf x)) (ho : Rw w e size (some ⟨g, o, none⟩) n c (rows cf l)) (hw : Wid cf size l) (hn : l.length = n) (hj : j < n) :
    ∃ W, (storeVar T ⟨g, o + j * size, none⟩ v).run P w = .ok () W ∧ Rw W e size (some ⟨g, o, none⟩) n c (rows cf (l.set j x)) ∧ Chg (· = g) w W := by
  have h9 : (j + 1) * size ≤ n * size := Nat.mul_le_mul_right _ hj
  have h2 : j * size + size = (j + 1) * size := (Nat.succ_mul j size).symm
  obtain ⟨W, hr, h3, h4⟩ := rw_cells (P := P) w ho (j * size) (cf x) h1 (by omega)
  have e1 := rows_splice hw (j := j) (by omega) hl
  refine ⟨W, ?_, ?_, h4⟩
  · have hz : (sizeOf T).run P w = .ok size w := by
      cases hq : P.info? T with
      | none => simp [hq] at hs
      | some i =>
        have : i.size = size := by simpa [hq] using hs
        simp [sizeOf, typeInfo, hq, this]
    have hsz : v.cells.size = size := by rw [← Array.length_toList, hv, hl]
    simp only [storeVar, Sem.run_bind, hz, Result.andThen_ok, hsz, ne_eq, not_true, if_false, hv, Sem.run_pure]
    exact hr
  · rw [← e1]
    unfold splice
    rw [← List.append_assoc]
    exact h3
theorem wpList_store_rw {P : Program} {α : Type} {cf : α → List Value} {w : World} {ops : Array Oper} {rest : List Oper} {o' : Oper} {a : Act} {Q : Exit → Act → World → Prop} {T size e g o n c j : Nat} {l : List α} {x : α} (hs : (P.info? T).map (·.size) = some size) (hgd : o'.guard = none) (px py : Operand) (hop : o'.op = .store T px py)
    (hx : a.eval px = .pointer (some ⟨g, o + j * size, none⟩)) (hv : (a.eval py).cells.toList = cf x) (hl : (cf x).length = size) (h1 : One (cf x)) (ho : Rw w e size (some ⟨g, o, none⟩) n c (rows cf l)) (hw : Wid cf size l) (hn : l.length = n) (hj : j < n)
    (h : ∀ W, Rw W e size (some ⟨g, o, none⟩) n c (rows cf (l.set j x)) → Chg (· = g) w W → wpList P ops Q rest (a.put o'.dst undef) W) : wpList P ops Q (o' :: rest) a w := by
  obtain ⟨W, hr, h2, h3⟩ := run_store_rw (P := P) hs hv hl h1 ho hw hn hj
  refine wpList_plain hgd fun K hK => ?_
  unfold Oper.wp execOp
  simp only [hop, hx, Instr.storeAt, Instr.sureAddr, Sem.run_bind, Sem.run_pure, Result.andThen_ok, hr]
  exact hK _ _ (h W h2 h3)
/-- 'append' of one element that lies in a new block, onto a row. -/
theorem wpList_append_rw {P : Program} {w : World} {ops : Array Oper} {rest : List Oper} {o : Oper} {a : Act} {Q : Exit → Act → World → Prop} {e size bytes t : Nat} (E : Elem P e size bytes) (ht : P.underlying t = some (.slice e)) (hsz : 0 < size) (hgd : o.guard = none) (s x : Operand)
    (hop : o.op = .call { callee := .builtin .append, args := #[s, x], argTypes := #[t, t] }) (A : Option Addr) (n c1 : Nat) (xs : List Value) (hs : a.eval s = .slice A n c1) (ho : Rw w e size A n c1 xs)
    (C : Nat) (A2 : Option Addr) (m c2 : Nat) (news : List Value) (hx : a.eval x = .slice A2 m c2) (hl : news.length = m * size) (hn : Has w C A2 news) (h1 : One news) (h63 : n + m ≤ maxLen) (hbytes : (n + m) * bytes ≤ 140737488355328)
    (h : ∀ A' c' w', Rw w' e size A' (n + m) c' (xs ++ news) → Put w w' A A' → wpList P ops Q rest (a.put o.dst (.slice A' (n + m) c')) w') : wpList P ops Q (o :: rest) a w := by
  obtain ⟨A', c', w', hr, h2, h3⟩ := rw_append (P := P) w t t o.type E ht hsz ho (.slice A2 m c2) m news (src_has w ht hn hl h1) h63 hbytes
  exact wpList_append_run w hgd s x t t hop _ _ hs hx hr (h A' c' w' h2 h3)
/-! What a loop over a function may turn. -/
/-- No cells, and from B on. -/
def NC (B : Nat) (W : World) (k : Nat) : Prop := B ≤ k ∧ ∃ o : Obj, W.heap[k]? = some o ∧ o.isCells = false
section
variable {X : Nat → Prop} {B : Nat} {W W' : World} {row : Option Nat}
theorem grown_chg (hg : W.grownBy W' row) (hr : ∀ r, row = some r → B ≤ r ∧ ∃ o : Obj, W.heap[r]? = some o ∧ o.isCells = false) : Chg (NC B W) W W' :=
  ⟨hg.os, hg.tape, hg.output, hg.size, fun k hk hx => hg.block k hk fun e => hx (hr k e.symm)⟩
theorem Arr.nc {g T : Nat} {cs : Array Value} (h : Arr W g T cs) : ¬ NC B W g := fun ⟨_, o, h1, h2⟩ => by
  have h : W.heap[g]? = _ := h
  rw [h] at h1
  injection h1 with h1
  subst h1
  cases h2
theorem Rw.nc {e size n c : Nat} {A : Option Addr} {xs : List Value} (h : Rw W e size A n c xs) : ∀ b, At A b → ¬ NC B W b := fun b hb => by
  rcases h.2 with ⟨rfl, _⟩ | ⟨g, p, r, rfl, ha, _⟩
  · cases hb
  · injection hb with hb
    subst hb
    exact ha.nc
theorem keeps_chg (h : Chg X W W') (hx : ∀ k, X k → ∃ T cs, Arr W k T cs) : KeepsFrom B W W' :=
  ⟨h.size, fun k o _ hk ho => (h.block k (Array.getElem?_eq_some_iff.1 hk).1 fun x => by
    obtain ⟨T, cs, ha⟩ := hx k x
    exact ha.nc (B := 0) ⟨Nat.zero_le _, o, hk, ho⟩).trans hk⟩
theorem Rw.arr {e size n c : Nat} {A : Option Addr} {xs : List Value} (h : Rw W e size A n c xs) : ∀ b, At A b → ∃ T cs, Arr W b T cs := fun b hb => by
  rcases h.2 with ⟨rfl, _⟩ | ⟨g, p, r, rfl, ha, _⟩
  · cases hb
  · injection hb with hb
    subst hb
    exact ⟨_, _, ha⟩
/-- Blocks of two types are apart. -/
theorem Arr.ty {g T T' : Nat} {cs cs' : Array Value} (h : Arr W g T cs) (h' : Arr W g T' cs') : T = T' := by
  have h : W.heap[g]? = _ := h
  have h' : W.heap[g]? = _ := h'
  rw [h] at h'
  injection h' with e
  injection e
theorem Rw.ty {e size n c T g : Nat} {A : Option Addr} {xs : List Value} {cs : Array Value} (h : Rw W e size A n c xs) (ha : Arr W g T cs) (hT : e ≠ T) : ¬ At A g := fun hg => by
  rcases h.2 with ⟨rfl, _⟩ | ⟨g', p, r, rfl, h2, _⟩
  · cases hg
  · injection hg with hg
    subst hg
    exact hT (h2.ty ha)
theorem Rw.apart {e e' size size' n c n' c' : Nat} {A A' : Option Addr} {xs xs' : List Value} (h : Rw W e size A n c xs) (h' : Rw W e' size' A' n' c' xs') (hT : e ≠ e') : ∀ b, At A b → ¬ At A' b := fun b hb hb' => by
  rcases h'.2 with ⟨rfl, _⟩ | ⟨g', p, r, rfl, h2, _⟩
  · cases hb'
  · injection hb' with hb'
    subst hb'
    exact h.ty h2 hT hb
end
/-- Two blocks lie as they lay. -/
def Kp2 (a b : Nat) (W W' : World) : Prop := W'.heap[a]? = W.heap[a]? ∧ W'.heap[b]? = W.heap[b]?
theorem kp2_t {a b : Nat} {A B C : World} (h : Kp2 a b A B) (k : Kp2 a b B C) : Kp2 a b A C := ⟨k.1.trans h.1, k.2.trans h.2⟩
theorem kp2_b {a b : Nat} {w : World} (ha : a < w.heap.size) (hb : b < w.heap.size) (W : World) (l : Nat) (o o' : Obj) (hl : w.heap.size ≤ l) (h : W.heap[l]? = some o) (_ : o.isCells = false) (_ : o.isWalk = false) : Kp2 a b W (W.putObj l o') :=
  ⟨World.putObj_heap_other (by omega), World.putObj_heap_other (by omega)⟩
theorem kp2_chg {a b : Nat} {X : Nat → Prop} {W W' : World} (h : Chg X W W') (ha : a < W.heap.size) (hb : b < W.heap.size) (xa : ¬ X a) (xb : ¬ X b) : Kp2 a b W W' := ⟨h.block a ha xa, h.block b hb xb⟩
theorem fin_list {n : Nat} (l : List Nat) (h : ∀ k ∈ l, k < n) : ∃ xs : List (Fin n), xs.map Fin.val = l := by
  induction l with
  | nil => exact ⟨[], rfl⟩
  | cons x l ih =>
    obtain ⟨xs, e⟩ := ih fun k hk => h k (by simp [hk])
    exact ⟨⟨x, h x (by simp)⟩ :: xs, by simp [e]⟩
end Go.Proofs.Ytmoaddbpfekdbaa
/- Package clock: proper, reduce, choose; 'slices.Clone'. -/
namespace Go.Proofs.Ytmoaddbpfekdbaa
set_option linter.unusedVariables false
set_option linter.unusedSimpArgs false
set_option maxRecDepth 100000
open Go.RowKit
theorem s_nil (A : Option Addr) (n c : Nat) (w : World) : (binOp .eql 56 (.slice A n c) (.slice none 0 0)).run Try.prog w = .ok (.bool A.isNone) w := run_eql_slice_nil w _ _ A n c bools_under
set_option maxHeartbeats 2000000 in
theorem reduce_at {w : World} {z : Int} {n : Nat} (hn : 0 < n) (hs : n ≤ 100000) :
    Calls Try.prog 71 #[.int .i64 z, .int .i64 n] w fun e w' => e = .returned (.int .i64 (hd z n)) ∧ w' = w := by
  have h1 := hd_lt z hn
  have h2 := red_hd z hn
  have h3 := tmod_hd z hn
  have hz : ¬ ((n : Int) = 0) := by omega
  have hz2 : ¬ (n = 0) := by omega
  have w1 : IntKind.i64.wrap (z.tmod n) = z.tmod n := by rw [IntKind.wrap_i64]; omega
  have w2 : IntKind.i64.wrap (z.tmod n + n) = z.tmod n + n := by rw [IntKind.wrap_i64]; omega
  have w3 : IntKind.i64.wrap (hd z n : Int) = (hd z n : Int) := by rw [IntKind.wrap_i64]; omega
  go_enter Try.func71, Try.ntmps71
  go_wp2_with fail
  go_ret
  simp [*]
set_option maxHeartbeats 2000000 in
theorem proper_at {w : World} {A B : Option Addr} {n m c d : Nat} :
    Calls Try.prog 67 #[.slice A n c, .slice B m d] w fun e w' => e = .returned (.bool (decide (n = m ∧ 0 < n))) ∧ w' = w := by
  by_cases h : n = m
  · subst h
    by_cases h0 : 0 < n
    · have e0 : ((0 : Int) < (n : Int)) := by omega
      go_enter Try.func67, Try.ntmps67
      go_wp2_with fail
      go_ret
      simp [*]
    · obtain rfl : n = 0 := by omega
      go_enter Try.func67, Try.ntmps67
      go_wp2_with fail
      go_ret
      simp [*]
  · have e0 : ¬ ((n : Int) = (m : Int)) := by omega
    go_enter Try.func67, Try.ntmps67
    go_wp2_with fail
    go_ret
    simp [*]
set_option maxHeartbeats 4000000 in
theorem choose_at {w : World} {C L : Option Addr} {n cc lc k B : Nat} {c l : List Bool} (hc : Has w B C (rows bc c)) (hcn : c.length = n) (hl : Rw w 4 1 L n lc (rows bc l)) (hln : l.length = n) (hk : k < n) (hs : n ≤ 100000) (hB : B ≤ w.heap.size) :
    Calls Try.prog 70 #[.slice C n cc, .slice L n lc, .int .i64 k] w fun e w' => e = .returned (.bool (hit c l k)) ∧ Hid (Rw w' 4 1 L n lc (rows bc (wash c l k)) ∧ Chg (At L) w w') := by
  have hck := gd_get (l := c) (k := k) (by omega)
  have hlk := gd_get (l := l) (k := k) (by omega)
  obtain ⟨b, off, rfl, hb1, hr⟩ := has_rows hc (bc_wid c) (by decide) (by intro e; rw [e] at hck; simp at hck)
  have cX := elem_cell0 hr (bc_wid c) (by omega) hck (u := .bool (gd c k)) rfl
  rw [Nat.mul_one] at cX
  obtain ⟨g, o, rfl⟩ := hl.addr (by omega)
  obtain ⟨b2, off2, e2, hb2, hr2⟩ := has_rows hl.has (bc_wid l) (by decide) (by intro e; rw [e] at hlk; simp at hlk)
  have lX := elem_cell0 hr2 (bc_wid l) (by omega) hlk (u := .bool (gd l k)) rfl
  injection e2 with e2
  injection e2 with e2 e3
  subst e2 e3
  rw [Nat.mul_one] at lX
  have hkz : (k : Int) < (n : Int) := by omega
  have hww := fr_refl w
  have HL := keep hl
  have Hln := keep hln
  clear hc hl hr hr2 hck hlk
  cases hq : gd c k with
  | false =>
    rw [hq] at cX
    have e1 : hit c l k = false := by unfold hit; rw [hq]; rfl
    have e2 : wash c l k = l := by unfold wash; rw [hq]; rfl
    rw [e1, e2]
    go_enter Try.func70, Try.ntmps70
    go_wp2_with fail
    go_ret
    exact ⟨rfl, keep ⟨HL.out, .refl _ _⟩⟩
  | true =>
    rw [hq] at cX
    have e1 : hit c l k = !gd l k := by unfold hit; rw [hq]; rfl
    have e2 : wash c l k = l.set k false := by unfold wash; rw [hq]; rfl
    rw [e1, e2]
    go_enter Try.func70, Try.ntmps70
    go_wp2_with (first
      | (refine wpList_store_rw (cf := bc) (x := false) (j := k) bool_info rfl (.tmp 19) (.const (.bool false)) rfl (by rw [Nat.mul_one]; rfl) rfl rfl (bc_one _) HL.out (bc_wid _) Hln.out (by omega) ?_; intro W1 h1 h2)
      | fail)
    go_ret
    exact ⟨rfl, keep ⟨h1, h2.weak fun i _ e => by subst e; rfl⟩⟩
set_option maxHeartbeats 4000000 in
theorem clone_at {w : World} {A : Option Addr} {n c B : Nat} {l : List Bool} (hl : Has w B A (rows bc l)) (hB : B ≤ w.heap.size) (hn : l.length = n) (hsm : n ≤ 1000000) :
    Calls Try.prog 68 #[.slice A n c] w fun e w' => ∃ A' c', e = .returned (.slice A' n c') ∧ Hid (Rw w' 4 1 A' n c' (rows bc l) ∧ (∀ k, At A' k → w.heap.size ≤ k) ∧ Fr w w') := by
  have hlen := rows_len (bc_wid l)
  cases A with
  | none =>
    have hl0 : l = [] := rows_eq_nil (bc_wid l) (by decide) hl.none_nil
    subst hl0
    simp at hn
    subst hn
    have hq := s_nil none 0 c
    simp only [Option.isNone_none] at hq
    clear hl hlen
    go_enter Try.func68, Try.ntmps68
    go_wp2_with fail
    go_ret
    exact ⟨none, 0, rfl, keep ⟨Rw.nil _ _ _, fun k hk => (by cases hk), fr_refl w⟩⟩
  | some a =>
    subst hn
    have ho : Own (w.alloc (.cells #[] 4)) w.heap.size 4 1 (some ⟨w.heap.size, 0, none⟩) 0 0 (rows bc []) := Own.lit w w.heap.size 4 #[] 0 1 (Nat.le_refl _) (Nat.zero_le _) rfl
    have hl2 := hl.below ((fr_new (fr_refl w) (.cells #[] 4)).mono hB)
    have hq := s_nil (some a) l.length c
    simp only [Option.isNone_some] at hq
    have h1 := rows_one bc_one l
    have H1 := keep h1
    have HO := keep ho
    have H2 := keep hl2
    have HL := keep hlen
    clear hl h1 ho hl2 hlen
    go_enter Try.func68, Try.ntmps68
    go_wp2_with (first
      | (refine wpList_append_vals (w0 := w) bool_elem bools_under (by decide) rfl (.tmp 5) (.tmp 6) rfl (fr_new (fr_refl w) _) (some ⟨w.heap.size, 0, none⟩) 0 0 (rows bc []) rfl HO.out B (some a) l.length c (rows bc l) rfl HL.out H2.out H1.out (by simp only [maxLen]; omega) (by omega) ?_; intro A' c' w' h1 h2)
      | fail)
    go_ret
    rw [Nat.zero_add] at h1
    exact ⟨A', c', rfl, keep ⟨h1.rw', fun k hk => (h1.lt k hk).1, h2⟩⟩
end Go.Proofs.Ytmoaddbpfekdbaa
/- Package clock: the visits: a function to range over. -/
namespace Go.Proofs.Ytmoaddbpfekdbaa
set_option linter.unusedVariables false
set_option linter.unusedSimpArgs false
set_option maxRecDepth 100000
open Go.RowKit
attribute [local go_sem] Oper.semAt_some
/-- The boxes of a visit: the hand, and how many. -/
structure VB (W : World) (b1 b2 : Nat) (z : Int) (n : Nat) : Prop where
  hand : Arr W b1 3 #[.int .i64 z]
  many : Arr W b2 3 #[.int .i64 n]
theorem VB.kp {W W' : World} {b1 b2 : Nat} {z : Int} {n : Nat} (h : VB W b1 b2 z n) (k : Kp2 b1 b2 W W') : VB W' b1 b2 z n := ⟨k.1.trans h.hand, k.2.trans h.many⟩
set_option maxHeartbeats 2000000 in
theorem visits_at {w : World} {z : Int} {n : Nat} :
    Calls Try.prog 69 #[.int .i64 n, .int .i64 z] w fun e w' => ∃ b1 b2, e = .returned (.func (.func 77) #[] #[.pointer (some ⟨b1, 0, none⟩), .pointer (some ⟨b2, 0, none⟩)]) ∧ Hid (VB w' b1 b2 z n ∧ w.heap.size ≤ b1 ∧ w.heap.size ≤ b2 ∧ Fr w w') := by
  go_enter Try.func69, Try.ntmps69
  go_wp2_with fail
  go_ret
  refine ⟨_, _, rfl, keep ⟨⟨?_, ?_⟩, by simp, by simp, fr_new (fr_new (fr_refl w) _) _⟩⟩
  · have := Arr.new (w.alloc (.cells #[.int .i64 n] 3)) #[.int .i64 z] 3
    simpa using this
  · exact (Arr.new w #[.int .i64 n] 3).alloc _
set_option maxHeartbeats 4000000 in
theorem visits1_in {N l b1 b2 n : Nat} {z : Int} (hN : 1 ≤ N) (hn : 0 < n) (hs : n ≤ 100000) (xs : List (Fin n)) (hx : xs.map Fin.val = vis (hd z n) n (2 * n)) (J Jx : List (Fin n) → World → Prop)
    (hY : ∀ pre x W, J pre W → pre.length < xs.length → YieldAt Fence.wide (N - 1) Try.prog l #[.int .i64 ((x : Fin n).val : Int)] W fun e W' =>
      (e = .returned (.bool true) ∧ J (pre ++ [x]) W' ∧ Kp2 b1 b2 W W') ∨ (e = .returned (.bool false) ∧ Jx (pre ++ [x]) W'))
    (W : World) (hb : VB W b1 b2 z n) (h0 : J [] W) :
    CallsIn Fence.wide N Try.prog 77 #[.func (.yield l) #[] #[], .pointer (some ⟨b1, 0, none⟩), .pointer (some ⟨b2, 0, none⟩)] W fun e W' => (∃ v, e = .returned v) ∧
      ((∃ ys, ys = xs ∧ J ys W') ∨ (∃ pre, pre <+: xs ∧ Jx pre W')) := by
  have hlen : xs.length = 2 * n := by rw [← List.length_map (f := Fin.val), hx, vis_len]
  have hat : ∀ j (x : Fin n), xs[j]? = some x → x.val = (hd z n + j) % n := fun j x hj => by
    have h1 : (xs.map Fin.val)[j]? = some x.val := by rw [List.getElem?_map, hj]; rfl
    rw [hx] at h1
    simp only [vis, List.getElem?_map] at h1
    obtain ⟨hj2, _⟩ := List.getElem?_eq_some_iff.1 hj
    rw [List.getElem?_range (by omega)] at h1
    simp at h1
    exact h1.symm
  have hh := hd_lt z hn
  have c1 := hb.hand.cell 0
  have c2 := hb.many.cell 0
  simp at c1 c2
  have HB := keep hb
  have HJ := keep h0
  have HX := keep hx
  have HA := keep hat
  have HL := keep hlen
  have HY := keep hY
  have hred := reduce_at (w := W) (z := z) hn hs
  obtain ⟨h, Hh⟩ : ∃ h, Hid (h = hd z n) := ⟨_, keep rfl⟩
  rw [← Hh.out] at hred hh
  clear hb h0 hx hat hlen hY
  have wm : IntKind.i64.wrap (2 * (n : Int)) = 2 * (n : Int) := by rw [IntKind.wrap_i64]; omega
  refine callsIn_of_wp Try.func77 rfl trivial ?_ rfl
  simp only [Try.ntmps77, List.size_toArray, List.length_cons, List.length_nil, Nat.reduceAdd, Nat.reduceSub, Array.replicate_succ, Array.replicate_zero, List.push_toArray, List.append_toArray, List.nil_append, List.cons_append]
  gi_wp2_with (first | (refine ⟨trivial, ?_⟩; gi_at_call 71; refine (callsIn_wide.2 hred).mono ?_; rintro e w' ⟨rfl, rfl⟩) | fail)
  gi_loopw [11] (fun s11 wr => ∃ j : Nat, j ≤ 2 * n ∧ s11 = .int .i64 j ∧ Hid (VB wr b1 b2 z n) ∧ Hid (J (xs.take j) wr)) (fun s11 _ => 2 * n - (intOf s11).toNat)
  case atStart => exact ⟨0, by omega, rfl, HB, HJ⟩
  case round =>
    obtain ⟨j, hj, rfl, HB1, HJ1⟩ := hrel
    by_cases hlt : j < 2 * n
    · have hm : xs[j]? = some (xs[j]'(by rw [HL.out]; exact hlt)) := List.getElem?_eq_getElem _
      generalize xs[j]'(by rw [HL.out]; exact hlt) = x at hm
      have hv := HA.out j x hm
      rw [← Hh.out] at hv
      have htk : xs.take j ++ [x] = xs.take (j + 1) := by rw [List.take_add_one, hm]; rfl
      obtain ⟨fn, tmps, assign, body, hy, hR⟩ := HY.out (xs.take j) x wr HJ1.out (by rw [List.length_take, HL.out]; omega)
      have hxl := x.isLt
      rw [htk] at hR
      obtain ⟨xv, hxv⟩ : ∃ q : Nat, q = x.val := ⟨_, rfl⟩
      rw [← hxv] at hy hv hxl
      have hlz : (j : Int) < 2 * (n : Int) := by omega
      have wa : IntKind.i64.wrap ((h : Int) + (j : Int)) = (h : Int) + (j : Int) := by rw [IntKind.wrap_i64]; omega
      have wt : ((h : Int) + (j : Int)) % (n : Int) = (xv : Int) := by rw [hv, ← Int.natCast_add, ← Int.natCast_emod]
      have wx : IntKind.i64.wrap (xv : Int) = (xv : Int) := by rw [IntKind.wrap_i64]; omega
      have wj : IntKind.i64.wrap ((j : Int) + 1) = (j : Int) + 1 := by rw [IntKind.wrap_i64]; omega
      have hz : ¬ ((n : Int) = 0) := by omega
      have hz2 : ¬ (n = 0) := by omega
      have c2 := HB1.out.many.cell 0
      simp at c2
      clear hv hxv hlt htk
      gi_wp2_with fail
      refine hR.mono ?_
      rintro e W3 (⟨rfl, hJ3, hk3⟩ | ⟨rfl, hJx3⟩)
      · have HJ3 := keep hJ3
        have HB3 := keep (HB1.out.kp hk3)
        clear hJ3 hR hy HY hk3
        gi_wp2_with fail
        go_roundw
        case rel => exact ⟨j + 1, by omega, by simp, HB3, HJ3⟩
        case measure => simp [intOf]; omega
      · gi_wp2_with fail
        refine bodyPost_ret (results_none rfl _ _ _) rfl ?_
        exact ⟨⟨_, rfl⟩, .inr ⟨xs.take (j + 1), List.take_prefix _ _, hJx3⟩⟩
    · obtain rfl : j = 2 * n := by omega
      have hlz : ¬ ((2 : Int) * (n : Int) < 2 * (n : Int)) := by omega
      have e2 : xs.take (2 * n) = xs := List.take_of_length_le (by rw [HL.out]; exact Nat.le_refl _)
      rw [e2] at HJ1
      gi_wp2_with fail
      go_end0
      exact ⟨⟨_, rfl⟩, .inl HJ1.out⟩
theorem vis_stops {N b1 b2 n : Nat} {z : Int} (hN : 1 ≤ N) (hn : 0 < n) (hs : n ≤ 100000) (xs : List (Fin n)) (hx : xs.map Fin.val = vis (hd z n) n (2 * n)) (w : World) (hb : VB w b1 b2 z n) (h1 : b1 < w.heap.size) (h2 : b2 < w.heap.size) :
    SeqStopsK Fence.wide N Try.prog 77 #[.pointer (some ⟨b1, 0, none⟩), .pointer (some ⟨b2, 0, none⟩)] (fun x : Fin n => #[Value.int .i64 (x.val : Int)]) (Kp2 b1 b2) (fun ys => ys = xs) (fun pre => pre <+: xs) xs.length w :=
  fun l J Jx W hW _ _ hY h0 => visits1_in hN hn hs xs hx J Jx hY W ⟨hb.hand.below hW h1, hb.many.below hW h2⟩ h0
end Go.Proofs.Ytmoaddbpfekdbaa
