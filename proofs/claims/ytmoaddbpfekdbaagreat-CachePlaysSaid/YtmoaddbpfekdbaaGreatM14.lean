/- The clock as plain functions on rows of marks: a sweep along places, all of them, in one run and one behind the other. No program text. -/
import Derived.Test.YtmoaddbpfekdbaaGreatM01
import Derived.Test.YtmoaddbpfekdbaaGreatRows
import Derived.Test.YtmoaddbpfekdbaaGreatM13
import Derived.Laws.Externs
import Derived.Lib.LazyBuf
import Derived.Deep.Cut
import Derived.RangeFuncNested
import Derived.RangeFuncCalls
import Derived.RangeFuncLeaves
import Derived.RangeFuncBound
import Derived.RangeFuncBox
import Derived.Shelf.Abstract
import Derived.Shelf.RegionOpen
import Derived.OwnWalkIn
import Derived.TacticsInMore
import Derived.LoopNIn
import Derived.LoopIn
import Derived.Test.YtmoaddbpfekdbaaGreatM07
import Derived.Test.YtmoaddbpfekdbaaGreatM08
namespace Go.Proofs.YtmoaddbpfekdbaaGreat
set_option linter.unusedVariables false
set_option linter.unusedSimpArgs false
/-- The mark at a place. -/
def gd (l : List Bool) (k : Nat) : Bool := l.getD k false
theorem gd_get {l : List Bool} {k : Nat} (h : k < l.length) : l[k]? = some (gd l k) := by
  unfold gd
  rw [List.getD_eq_getElem?_getD, List.getElem?_eq_getElem h]
  rfl
theorem gd_out {l : List Bool} {k : Nat} (h : l.length ≤ k) : gd l k = false := by
  unfold gd
  rw [List.getD_eq_getElem?_getD, List.getElem?_eq_none h]
  rfl
theorem gd_of {l : List Bool} {k : Nat} {b : Bool} (h : l[k]? = some b) : gd l k = b := by
  unfold gd
  rw [List.getD_eq_getElem?_getD, h]
  rfl
theorem gd_set (l : List Bool) (k i : Nat) : gd (l.set k false) i = if i = k then false else gd l i := by
  by_cases hi : i < l.length
  · have := gd_get (l := l.set k false) (k := i) (by simpa using hi)
    rw [List.getElem?_set] at this
    split
    · next h => subst h; simp [hi] at this; exact this
    · next h => rw [if_neg (fun e => h e.symm), gd_get hi] at this; injection this with this; exact this.symm
  · rw [gd_out (by simpa using hi), gd_out (by omega)]
    simp
theorem gd_ext {a b : List Bool} (hl : a.length = b.length) (h : ∀ i, i < a.length → gd a i = gd b i) : a = b := by
  apply List.ext_getElem?
  intro i
  by_cases hi : i < a.length
  · rw [gd_get hi, gd_get (by omega), h i hi]
  · rw [List.getElem?_eq_none (by omega), List.getElem?_eq_none (by omega)]
theorem set_same {l : List Bool} {k : Nat} (h : gd l k = false) : l.set k false = l := by
  apply gd_ext (by simp)
  intro i _
  rw [gd_set]
  split
  · next e => rw [e, h]
  · rfl
/-- Is this one chosen? -/
def hit (c l : List Bool) (k : Nat) : Bool := gd c k && !gd l k
/-- The marks behind a visit. -/
def wash (c l : List Bool) (k : Nat) : List Bool := if gd c k then l.set k false else l
theorem wash_len (c l : List Bool) (k : Nat) : (wash c l k).length = l.length := by unfold wash; split <;> simp
theorem gd_wash (c l : List Bool) (k i : Nat) : gd (wash c l k) i = if i = k ∧ gd c k = true then false else gd l i := by
  unfold wash
  cases h : gd c k with
  | true => simp [gd_set]
  | false => simp
theorem wash_hit {c l : List Bool} {k : Nat} (h : hit c l k = true) : wash c l k = l := by
  unfold hit at h
  simp at h
  unfold wash
  rw [if_pos h.1, set_same h.2]
/-- A sweep along places. -/
def sweepL (c : List Bool) : List Nat → List Bool → Option Nat × List Bool
  | [], l => (none, l)
  | k :: ks, l => if hit c l k then (some k, wash c l k) else sweepL c ks (wash c l k)
theorem sweep_cons (c : List Bool) (k : Nat) (ks : List Nat) (l : List Bool) : sweepL c (k :: ks) l = if hit c l k then (some k, wash c l k) else sweepL c ks (wash c l k) := rfl
theorem sweep_app (c : List Bool) (a b : List Nat) (l : List Bool) : sweepL c (a ++ b) l = if (sweepL c a l).1 = none then sweepL c b (sweepL c a l).2 else sweepL c a l := by
  induction a generalizing l with
  | nil => simp [sweepL]
  | cons k a ih =>
    rw [List.cons_append, sweep_cons, sweep_cons]
    split
    · simp
    · exact ih _
theorem sweep_snoc_hit {c : List Bool} {a : List Nat} {l m : List Bool} {x : Nat} (h : sweepL c a l = (none, m)) (hx : hit c m x = true) : sweepL c (a ++ [x]) l = (some x, wash c m x) := by
  rw [sweep_app, h]
  simp [sweepL, hx]
theorem sweep_snoc_miss {c : List Bool} {a : List Nat} {l m : List Bool} {x : Nat} (h : sweepL c a l = (none, m)) (hx : hit c m x = false) : sweepL c (a ++ [x]) l = (none, wash c m x) := by
  rw [sweep_app, h]
  simp [sweepL, hx]
theorem sweep_pre {c : List Bool} {a b : List Nat} {l m : List Bool} {x : Nat} (hp : a <+: b) (h : sweepL c a l = (some x, m)) : sweepL c b l = (some x, m) := by
  obtain ⟨t, rfl⟩ := hp
  rw [sweep_app, h]
  simp
theorem sweep_len (c : List Bool) (ks : List Nat) (l : List Bool) : (sweepL c ks l).2.length = l.length := by
  induction ks generalizing l with
  | nil => rfl
  | cons k ks ih =>
    rw [sweep_cons]
    split
    · exact wash_len ..
    · rw [ih, wash_len]
/-- No mark is gained. -/
theorem sweep_mono {c : List Bool} {ks : List Nat} {l : List Bool} {i : Nat} (h : gd (sweepL c ks l).2 i = true) : gd l i = true := by
  induction ks generalizing l with
  | nil => exact h
  | cons k ks ih =>
    have hw : gd (wash c l k) i = true → gd l i = true := by
      rw [gd_wash]
      split
      · simp
      · exact id
    rw [sweep_cons] at h
    split at h
    · exact hw h
    · exact hw (ih h)
/-- None is lost by who can't go. -/
theorem sweep_kept {c : List Bool} {ks : List Nat} {l : List Bool} {i : Nat} (hc : gd c i = false) : gd (sweepL c ks l).2 i = gd l i := by
  induction ks generalizing l with
  | nil => rfl
  | cons k ks ih =>
    have hw : gd (wash c l k) i = gd l i := by
      rw [gd_wash]
      split
      · next h => rw [← h.1, hc] at h; simp at h
      · rfl
    rw [sweep_cons]
    split
    · exact hw
    · rw [ih, hw]
theorem sweep_some {c : List Bool} {ks : List Nat} {l m : List Bool} {k : Nat} (h : sweepL c ks l = (some k, m)) : k ∈ ks ∧ gd c k = true ∧ gd m k = false := by
  induction ks generalizing l with
  | nil => cases h
  | cons x ks ih =>
    rw [sweep_cons] at h
    split at h
    · next hx =>
      injection h with h1 h2
      injection h1 with h1
      subst h1 h2
      rw [wash_hit hx]
      unfold hit at hx
      simp at hx
      exact ⟨by simp, hx.1, hx.2⟩
    · obtain ⟨h1, h2⟩ := ih h
      exact ⟨by simp [h1], h2⟩
/-- Where none is chosen: all that can go had their mark, and have lost it. -/
theorem sweep_none {c : List Bool} {ks : List Nat} {l m : List Bool} (h : sweepL c ks l = (none, m)) {i : Nat} (hi : i ∈ ks) (hc : gd c i = true) : gd l i = true ∧ gd m i = false := by
  induction ks generalizing l with
  | nil => cases hi
  | cons x ks ih =>
    rw [sweep_cons] at h
    split at h
    · cases h
    · next hx =>
      by_cases e : i = x
      · subst e
        unfold hit at hx
        simp [hc] at hx
        refine ⟨hx, ?_⟩
        cases hm : gd m i with
        | false => rfl
        | true =>
          have := sweep_mono (c := c) (ks := ks) (l := wash c l i) (i := i) (by rw [h]; exact hm)
          rw [gd_wash] at this
          simp [hc] at this
      · have hi' : i ∈ ks := by
          rcases List.mem_cons.1 hi with e' | e'
          · exact (e e').elim
          · exact e'
        obtain ⟨h1, h2⟩ := ih h hi'
        rw [gd_wash] at h1
        rw [if_neg (fun e' => e e'.1)] at h1
        exact ⟨h1, h2⟩
/-- With both rounds one goes, if any can. -/
theorem sweep_two {c : List Bool} {a b : List Nat} {l m : List Bool} (h : sweepL c (a ++ b) l = (none, m)) {i : Nat} (ha : i ∈ a) (hb : i ∈ b) : gd c i = false := by
  cases hc : gd c i with
  | false => rfl
  | true =>
    rw [sweep_app] at h
    cases hs : sweepL c a l with
    | mk p l1 =>
      rw [hs] at h
      cases p with
      | some k => simp at h
      | none =>
        simp at h
        have h1 := (sweep_none hs ha hc).2
        have h2 := (sweep_none h hb hc).1
        rw [h1] at h2
        cases h2
/-- Where the hand is. -/
def hd (z : Int) (n : Nat) : Nat := (z % (n : Int)).toNat
theorem hd_lt (z : Int) {n : Nat} (hn : 0 < n) : hd z n < n := by
  unfold hd
  have h1 := Int.emod_nonneg z (b := (n : Int)) (by omega)
  have h2 := Int.emod_lt_of_pos z (b := (n : Int)) (by omega)
  omega
theorem hd_cast (z : Int) {n : Nat} (hn : 0 < n) : (hd z n : Int) = z % (n : Int) := by
  unfold hd
  have h1 := Int.emod_nonneg z (b := (n : Int)) (by omega)
  omega
/-- Go's remainder: the hand, or n below it. -/
theorem tmod_hd (z : Int) {n : Nat} (hn : 0 < n) : (z.tmod n = (hd z n : Int)) ∨ (z.tmod n = (hd z n : Int) - n ∧ z.tmod n < 0) := by
  have e := Int.tmod_eq_emod (a := z) (b := (n : Int))
  rw [hd_cast z hn]
  have h2 := Int.emod_lt_of_pos z (b := (n : Int)) (by omega)
  split at e
  · left; omega
  · right
    simp at e
    omega
theorem red_hd (z : Int) {n : Nat} (hn : 0 < n) : (z.tmod n + n).tmod n = (hd z n : Int) := by
  have hl := hd_lt z hn
  rcases tmod_hd z hn with h | ⟨h, _⟩
  · rw [h, ← Int.natCast_add, ← Int.ofNat_tmod, Nat.add_mod_right, Nat.mod_eq_of_lt hl]
  · rw [h, Int.sub_add_cancel, ← Int.ofNat_tmod, Nat.mod_eq_of_lt hl]
/-- The places from h on, round n. -/
def vis (h n m : Nat) : List Nat := (List.range m).map fun j => (h + j) % n
theorem vis_len (h n m : Nat) : (vis h n m).length = m := by simp [vis]
theorem vis_succ (h n m : Nat) : vis h n (m + 1) = vis h n m ++ [(h + m) % n] := by simp [vis, List.range_succ]
theorem vis_app (h n a b : Nat) : vis h n (a + b) = vis h n a ++ vis (h + a) n b := by
  induction b with
  | zero => simp [vis]
  | succ b ih => rw [← Nat.add_assoc, vis_succ, ih, vis_succ, List.append_assoc, Nat.add_assoc]
theorem vis_pre (h n : Nat) {a b : Nat} (hab : a ≤ b) : vis h n a <+: vis h n b := by
  obtain ⟨d, rfl⟩ : ∃ d, b = a + d := ⟨b - a, by omega⟩
  rw [vis_app]
  exact List.prefix_append _ _
theorem vis_mod (h n m : Nat) : vis (h % n) n m = vis h n m := by
  unfold vis
  apply List.map_congr_left
  intro j _
  simp [Nat.add_mod]
theorem vis_lt {h n m k : Nat} (hn : 0 < n) (hk : k ∈ vis h n m) : k < n := by
  simp only [vis, List.mem_map] at hk
  obtain ⟨j, _, rfl⟩ := hk
  exact Nat.mod_lt _ hn
theorem vis_mem {h n k : Nat} (hh : h < n) (hk : k < n) : k ∈ vis h n n := by
  simp only [vis, List.mem_map, List.mem_range]
  by_cases e : h ≤ k
  · exact ⟨k - h, by omega, by rw [show h + (k - h) = k by omega]; exact Nat.mod_eq_of_lt hk⟩
  · exact ⟨k + n - h, by omega, by rw [show h + (k + n - h) = k + n by omega, Nat.add_mod_right]; exact Nat.mod_eq_of_lt hk⟩
theorem vis_twice (h n : Nat) : vis h n (2 * n) = vis h n n ++ vis h n n := by
  rw [Nat.two_mul, vis_app]
  congr 1
  rw [← vis_mod (h + n), Nat.add_mod_right, vis_mod]
/-- What a sweep answers. -/
def place (n : Nat) (h : Nat) : Option Nat → Int × Int
  | some k => (k, ((k + 1) % n : Nat))
  | none => (-1, h)
def swpL (c l : List Bool) (z : Int) : Int × Int × List Bool :=
  if c.length = l.length ∧ 0 < c.length then
    ((place c.length (hd z c.length) (sweepL c (vis (hd z c.length) c.length (2 * c.length)) l).1).1,
     (place c.length (hd z c.length) (sweepL c (vis (hd z c.length) c.length (2 * c.length)) l).1).2,
     (sweepL c (vis (hd z c.length) c.length (2 * c.length)) l).2)
  else (-1, 0, [])
theorem swp_no {c l : List Bool} (z : Int) (h : ¬(c.length = l.length ∧ 0 < c.length)) : swpL c l z = (-1, 0, []) := by unfold swpL; rw [if_neg h]
theorem swp_yes {c l : List Bool} (z : Int) {n h : Nat} (hc : c.length = n) (hl : l.length = n) (hn : 0 < n) (hh : hd z n = h) {p : Option Nat} {m : List Bool} (hs : sweepL c (vis h n (2 * n)) l = (p, m)) : swpL c l z = ((place n h p).1, (place n h p).2, m) := by
  subst hh
  unfold swpL
  rw [if_pos ⟨by omega, by omega⟩, hc, hs]
/-- All of them, in one run: who can go, the marks, who went. -/
def ost (s : List Bool × List Bool × List Nat) (k : Nat) : List Bool × List Bool × List Nat :=
  if hit s.1 s.2.1 k then (s.1.set k false, wash s.1 s.2.1 k, s.2.2 ++ [k]) else (s.1, wash s.1 s.2.1 k, s.2.2)
def orun (ks : List Nat) (s : List Bool × List Bool × List Nat) : List Bool × List Bool × List Nat := ks.foldl ost s
def ordL (c l : List Bool) (z : Int) : List Nat :=
  if c.length = l.length ∧ 0 < c.length then (orun (vis (hd z c.length) c.length (2 * c.length)) (c, l, [])).2.2 else []
end Go.Proofs.YtmoaddbpfekdbaaGreat
/- Rows of marks; stores and appends within a loop over a function; what such a loop may turn. -/
namespace Go.Proofs.YtmoaddbpfekdbaaGreat
set_option linter.unusedVariables false
set_option linter.unusedSimpArgs false
set_option maxRecDepth 100000
open Go.RowKit
def bc (b : Bool) : List Value := [.bool b]
def ic (z : Int) : List Value := [.int .i64 z]
theorem bc_wid (l : List Bool) : Wid bc 1 l := fun _ _ => rfl
theorem ic_wid (l : List Int) : Wid ic 1 l := fun _ _ => rfl
theorem bc_one (b : Bool) : One (bc b) := .cons rfl .nil
theorem ic_one (z : Int) : One (ic z) := .cons rfl .nil
theorem ic_ints (l : List Int) : rows ic l = ints l := rows_map _ l
theorem bool_elem : Elem Tryz.prog 4 1 1 := Elem.of (z := .bool false) (by kernel_rfl) (by kernel_rfl) (by kernel_rfl) rfl
theorem bools_under : Tryz.prog.underlying 106 = some (.slice 4) := Tryz.underlying106
theorem bool_info : (Tryz.prog.info? 4).map (·.size) = some 1 := by kernel_rfl
theorem rows_eq_nil {α : Type} {c : α → List Value} {s : Nat} {l : List α} (hw : Wid c s l) (hs : 0 < s) (h : rows c l = []) : l = [] := by
  have := rows_len hw
  rw [h] at this
  cases l with
  | nil => rfl
  | cons x l =>
    have h2 : 0 < (x :: l).length * s := Nat.mul_pos (by simp) hs
    rw [← this] at h2
    simp at h2
/-- A store of one of a row. -/
theorem run_store_rw {P : Program} {α : Type} {cf : α → List Value} {T size e g o n c j : Nat} {w : World} {l : List α} {x : α} (hs : (P.info? T).map (·.size) = some size) {v : Value} (hv : v.cells.toList = cf x) (hl : (cf x).length = size) (h1 : One (cf x)) (ho : Rw w e size (some ⟨g, o, none⟩) n c (rows cf l)) (hw : Wid cf size l) (hn : l.length = n) (hj : j < n) :
    ∃ W, (storeVar T ⟨g, o + j * size, none⟩ v).run P w = .ok () W ∧ Rw W e size (some ⟨g, o, none⟩) n c (rows cf (l.set j x)) ∧ Chg (· = g) w W := by
  have h9 : (j + 1) * size ≤ n * size := Nat.mul_le_mul_right _ hj
  have h2 : j * size + size = (j + 1) * size := (Nat.succ_mul j size).symm
  obtain ⟨W, hr, h3, h4⟩ := rw_cells (P := P) w ho (j * size) (cf x) h1 (by omega)
  have e1 := rows_splice hw (j := j) (by omega) hl
  refine ⟨W, ?_, ?_, h4⟩
  · have hz : (sizeOf T).run P w = .ok size w := by
      cases hq : P.info? T with
      | none => simp [hq] at hs
      | some i =>
        have : i.size = size := by simpa [hq] using hs
        simp [sizeOf, typeInfo, hq, this]
    have hsz : v.cells.size = size := by rw [← Array.length_toList, hv, hl]
    simp only [storeVar, Sem.run_bind, hz, Result.andThen_ok, hsz, ne_eq, not_true, if_false, hv, Sem.run_pure]
    exact hr
  · rw [← e1]
    unfold splice
    rw [← List.append_assoc]
    exact h3
theorem wpList_store_rw {P : Program} {α : Type} {cf : α → List Value} {w : World} {ops : Array Oper} {rest : List Oper} {o' : Oper} {a : Act} {Q : Exit → Act → World → Prop} {T size e g o n c j : Nat} {l : List α} {x : α} (hs : (P.info? T).map (·.size) = some size) (hgd : o'.guard = none) (px py : Operand) (hop : o'.op = .store T px py)
    (hx : a.eval px = .pointer (some ⟨g, o + j * size, none⟩)) (hv : (a.eval py).cells.toList = cf x) (hl : (cf x).length = size) (h1 : One (cf x)) (ho : Rw w e size (some ⟨g, o, none⟩) n c (rows cf l)) (hw : Wid cf size l) (hn : l.length = n) (hj : j < n)
    (h : ∀ W, Rw W e size (some ⟨g, o, none⟩) n c (rows cf (l.set j x)) → Chg (· = g) w W → wpList P ops Q rest (a.put o'.dst undef) W) : wpList P ops Q (o' :: rest) a w := by
  obtain ⟨W, hr, h2, h3⟩ := run_store_rw (P := P) hs hv hl h1 ho hw hn hj
  refine wpList_plain hgd fun K hK => ?_
  unfold Oper.wp execOp
  simp only [hop, hx, Instr.storeAt, Instr.sureAddr, Sem.run_bind, Sem.run_pure, Result.andThen_ok, hr]
  exact hK _ _ (h W h2 h3)
/-- 'append' of one element that lies in a new block, onto a row. -/
theorem wpList_append_rw {P : Program} {w : World} {ops : Array Oper} {rest : List Oper} {o : Oper} {a : Act} {Q : Exit → Act → World → Prop} {e size bytes t : Nat} (E : Elem P e size bytes) (ht : P.underlying t = some (.slice e)) (hsz : 0 < size) (hgd : o.guard = none) (s x : Operand)
    (hop : o.op = .call { callee := .builtin .append, args := #[s, x], argTypes := #[t, t] }) (A : Option Addr) (n c1 : Nat) (xs : List Value) (hs : a.eval s = .slice A n c1) (ho : Rw w e size A n c1 xs)
    (C : Nat) (A2 : Option Addr) (m c2 : Nat) (news : List Value) (hx : a.eval x = .slice A2 m c2) (hl : news.length = m * size) (hn : Has w C A2 news) (h1 : One news) (h63 : n + m ≤ maxLen) (hbytes : (n + m) * bytes ≤ 140737488355328)
    (h : ∀ A' c' w', Rw w' e size A' (n + m) c' (xs ++ news) → Put w w' A A' → wpList P ops Q rest (a.put o.dst (.slice A' (n + m) c')) w') : wpList P ops Q (o :: rest) a w := by
  obtain ⟨A', c', w', hr, h2, h3⟩ := rw_append (P := P) w t t o.type E ht hsz ho (.slice A2 m c2) m news (src_has w ht hn hl h1) h63 hbytes
  exact wpList_append_run w hgd s x t t hop _ _ hs hx hr (h A' c' w' h2 h3)
/-! What a loop over a function may turn. -/
/-- No cells, and from B on. -/
def NC (B : Nat) (W : World) (k : Nat) : Prop := B ≤ k ∧ ∃ o : Obj, W.heap[k]? = some o ∧ o.isCells = false
section
variable {X : Nat → Prop} {B : Nat} {W W' : World} {row : Option Nat}
theorem grown_chg (hg : W.grownBy W' row) (hr : ∀ r, row = some r → B ≤ r ∧ ∃ o : Obj, W.heap[r]? = some o ∧ o.isCells = false) : Chg (NC B W) W W' :=
  ⟨hg.os, hg.tape, hg.output, hg.size, fun k hk hx => hg.block k hk fun e => hx (hr k e.symm)⟩
theorem Arr.nc {g T : Nat} {cs : Array Value} (h : Arr W g T cs) : ¬ NC B W g := fun ⟨_, o, h1, h2⟩ => by
  have h : W.heap[g]? = _ := h
  rw [h] at h1
  injection h1 with h1
  subst h1
  cases h2
theorem Rw.nc {e size n c : Nat} {A : Option Addr} {xs : List Value} (h : Rw W e size A n c xs) : ∀ b, At A b → ¬ NC B W b := fun b hb => by
  rcases h.2 with ⟨rfl, _⟩ | ⟨g, p, r, rfl, ha, _⟩
  · cases hb
  · injection hb with hb
    subst hb
    exact ha.nc
theorem keeps_chg (h : Chg X W W') (hx : ∀ k, X k → ∃ T cs, Arr W k T cs) : KeepsFrom B W W' :=
  ⟨h.size, fun k o _ hk ho => (h.block k (Array.getElem?_eq_some_iff.1 hk).1 fun x => by
    obtain ⟨T, cs, ha⟩ := hx k x
    exact ha.nc (B := 0) ⟨Nat.zero_le _, o, hk, ho⟩).trans hk⟩
theorem Rw.arr {e size n c : Nat} {A : Option Addr} {xs : List Value} (h : Rw W e size A n c xs) : ∀ b, At A b → ∃ T cs, Arr W b T cs := fun b hb => by
  rcases h.2 with ⟨rfl, _⟩ | ⟨g, p, r, rfl, ha, _⟩
  · cases hb
  · injection hb with hb
    subst hb
    exact ⟨_, _, ha⟩
/-- Blocks of two types are apart. -/
theorem Arr.ty {g T T' : Nat} {cs cs' : Array Value} (h : Arr W g T cs) (h' : Arr W g T' cs') : T = T' := by
  have h : W.heap[g]? = _ := h
  have h' : W.heap[g]? = _ := h'
  rw [h] at h'
  injection h' with e
  injection e
theorem Rw.ty {e size n c T g : Nat} {A : Option Addr} {xs : List Value} {cs : Array Value} (h : Rw W e size A n c xs) (ha : Arr W g T cs) (hT : e ≠ T) : ¬ At A g := fun hg => by
  rcases h.2 with ⟨rfl, _⟩ | ⟨g', p, r, rfl, h2, _⟩
  · cases hg
  · injection hg with hg
    subst hg
    exact hT (h2.ty ha)
theorem Rw.apart {e e' size size' n c n' c' : Nat} {A A' : Option Addr} {xs xs' : List Value} (h : Rw W e size A n c xs) (h' : Rw W e' size' A' n' c' xs') (hT : e ≠ e') : ∀ b, At A b → ¬ At A' b := fun b hb hb' => by
  rcases h'.2 with ⟨rfl, _⟩ | ⟨g', p, r, rfl, h2, _⟩
  · cases hb'
  · injection hb' with hb'
    subst hb'
    exact h.ty h2 hT hb
end
/-- Two blocks lie as they lay. -/
def Kp2 (a b : Nat) (W W' : World) : Prop := W'.heap[a]? = W.heap[a]? ∧ W'.heap[b]? = W.heap[b]?
theorem kp2_t {a b : Nat} {A B C : World} (h : Kp2 a b A B) (k : Kp2 a b B C) : Kp2 a b A C := ⟨k.1.trans h.1, k.2.trans h.2⟩
theorem kp2_b {a b : Nat} {w : World} (ha : a < w.heap.size) (hb : b < w.heap.size) (W : World) (l : Nat) (o o' : Obj) (hl : w.heap.size ≤ l) (h : W.heap[l]? = some o) (_ : o.isCells = false) (_ : o.isWalk = false) : Kp2 a b W (W.putObj l o') :=
  ⟨World.putObj_heap_other (by omega), World.putObj_heap_other (by omega)⟩
theorem kp2_chg {a b : Nat} {X : Nat → Prop} {W W' : World} (h : Chg X W W') (ha : a < W.heap.size) (hb : b < W.heap.size) (xa : ¬ X a) (xb : ¬ X b) : Kp2 a b W W' := ⟨h.block a ha xa, h.block b hb xb⟩
theorem fin_list {n : Nat} (l : List Nat) (h : ∀ k ∈ l, k < n) : ∃ xs : List (Fin n), xs.map Fin.val = l := by
  induction l with
  | nil => exact ⟨[], rfl⟩
  | cons x l ih =>
    obtain ⟨xs, e⟩ := ih fun k hk => h k (by simp [hk])
    exact ⟨⟨x, h x (by simp)⟩ :: xs, by simp [e]⟩
end Go.Proofs.YtmoaddbpfekdbaaGreat
