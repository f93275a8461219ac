/- The document's cache in memory: frames, rows of those who stand, the box; at, leave. -/
import Derived.Test.YtmoaddbpfekdbaaM17
import Derived.Test.YtmoaddbpfekdbaaM18
import Derived.StillTailTactics
namespace Go.Proofs.Ytmoaddbpfekdbaa
set_option linter.unusedSectionVars false
set_option linter.unusedVariables false
set_option linter.unusedSimpArgs false
set_option maxRecDepth 100000
open Go.RowKit
/-- A node's value as five cells. -/
class NVal (V : Type) extends Inhabited V where
  nc : V → List Value
  len : ∀ v, (nc v).length = 5
  one : ∀ v, One (nc v)
  zero : nc default = [.bool false, .slice none 0 0, .slice none 0 0, .slice none 0 0, .slice none 0 0]
def fc {V : Type} [NVal V] (f : Fra V) : List Value := .int .i64 (f.st : Int) :: .int .i64 f.blk :: .int .i64 f.pins :: .bool f.ref :: .bool f.dirty :: (NVal.nc f.node ++ [.int .i64 f.own])
def sc (p : Int × Int) : List Value := [.int .i64 p.1, .int .i64 p.2]
theorem sc_wid (l : List (Int × Int)) : Wid sc 2 l := fun _ _ => rfl
theorem sc_one (p : Int × Int) : One (sc p) := .cons rfl (.cons rfl .nil)
section
variable {V : Type} [NVal V]
end
theorem idx_some {α : Type} {p : α → Bool} {l : List α} {j : Nat} {x : α} (h : ∀ i y, i < j → l[i]? = some y → p y = false) (hx : l[j]? = some x) (hp : p x = true) : l.findIdx? p = some j := by
  rw [List.findIdx?_eq_some_iff_getElem]
  obtain ⟨hj, e⟩ := List.getElem?_eq_some_iff.1 hx
  refine ⟨hj, by rw [e]; exact hp, fun i hi => ?_⟩
  have := h i l[i] hi (List.getElem?_eq_getElem _)
  simp [this]
/-- A place as the code tells it. -/
def pos (o : Option Nat) : Int := match o with | some i => i | none => -1
def atI (l : List (Int × Int)) (t : Int) : Option Nat := l.findIdx? fun p => p.1 == t
end Go.Proofs.Ytmoaddbpfekdbaa
/- The document's cache: leave; the box; free, Find, Free. -/
namespace Go.Proofs.Ytmoaddbpfekdbaa
set_option linter.unusedSectionVars false
set_option linter.unusedVariables false
set_option linter.unusedSimpArgs false
set_option maxRecDepth 100000
open Go.RowKit
/-- Where the rows of a cache lie: frames A, line B, loads L. -/
structure CH where
  A : Option Addr
  n : Nat
  c : Nat
  B : Option Addr
  m : Nat
  d : Nat
  L : Option Addr
  p : Nat
  e : Nat
def CHX (g : Nat) (h : CH) (k : Nat) : Prop := k = g ∨ At h.A k ∨ At h.B k ∨ At h.L k
section
variable {V : Type} [NVal V]
theorem Rw.arrT {w : World} {e size n c k : Nat} {A : Option Addr} {xs : List Value} (h : Rw w e size A n c xs) (hk : At A k) : ∃ cs, Arr w k e cs := by
  rcases h.2 with ⟨rfl, _⟩ | ⟨g, p, r, rfl, ha, _⟩
  · cases hk
  · injection hk with hk
    subst hk
    exact ⟨_, ha⟩
section
variable {w W : World} {g : Nat} {h : CH} {t : Ca V} {X : Nat → Prop}
end
end
end Go.Proofs.Ytmoaddbpfekdbaa
/- The document's cache: Find, Free, ready, task, block. -/
namespace Go.Proofs.Ytmoaddbpfekdbaa
set_option linter.unusedSectionVars false
set_option linter.unusedVariables false
set_option linter.unusedSimpArgs false
set_option maxRecDepth 100000
open Go.RowKit
section
variable {V : Type} [NVal V]
theorem count_upto {α : Type} {p : α → Bool} {l : List α} {j : Nat} {m : α} (hm : l[j]? = some m) : (l.take (j + 1)).countP p = (l.take j).countP p + (if p m = true then 1 else 0) := by
  obtain ⟨hj, e⟩ := List.getElem?_eq_some_iff.1 hm
  rw [List.take_succ_eq_append_getElem hj, e, List.countP_append]
  simp [List.countP_cons]
end
end Go.Proofs.Ytmoaddbpfekdbaa
/- The document's cache: task, block, ready. -/
namespace Go.Proofs.Ytmoaddbpfekdbaa
set_option linter.unusedSectionVars false
set_option linter.unusedVariables false
set_option linter.unusedSimpArgs false
set_option maxRecDepth 100000
open Go.RowKit
section
variable {V : Type} [NVal V]
theorem idx_at {α : Type} {p : α → Bool} {l : List α} {i : Nat} (h : l.findIdx? p = some i) : ∃ f, l[i]? = some f ∧ p f = true := by
  rw [List.findIdx?_eq_some_iff_getElem] at h
  obtain ⟨hj, e, -⟩ := h
  exact ⟨l[i], List.getElem?_eq_getElem _, e⟩
theorem fr_of {l : List (Fra V)} {i : Nat} {f : Fra V} (h : l[i]? = some f) : fr l i = f := by simp [fr, List.getD, h]
end
end Go.Proofs.Ytmoaddbpfekdbaa
/- The document's cache: a store of a part of a frame; what has turned; Unpin. -/
namespace Go.Proofs.Ytmoaddbpfekdbaa
set_option linter.unusedSectionVars false
set_option linter.unusedVariables false
set_option linter.unusedSimpArgs false
set_option maxRecDepth 100000
open Go.RowKit
/-- A store of a part of one of a row. -/
theorem run_store_frp {P : Program} {α : Type} {cf : α → List Value} {T n' size e g o n c j tt : Nat} {w : World} {l : List α} {x y : α} {ds : List Value} (hs : (P.info? T).map (·.size) = some n') {v : Value} (hv : v.cells.toList = ds) (hl : ds.length = n') (h1 : One ds) (ho : Rw w e size (some ⟨g, o, none⟩) n c (rows cf l)) (hw : Wid cf size l) (hx : l[j]? = some x) (ht : tt + ds.length ≤ size) (hy : splice (cf x) tt ds = cf y) :
    ∃ W, (storeVar T ⟨g, o + j * size + tt, none⟩ v).run P w = .ok () W ∧ Rw W e size (some ⟨g, o, none⟩) n c (rows cf (l.set j y)) ∧ Chg (· = g) w W := by
  obtain ⟨hj, -⟩ := List.getElem?_eq_some_iff.1 hx
  have hn := ho.len
  rw [rows_len hw] at hn
  have h9 : (j + 1) * size ≤ n * size := by rw [← hn]; exact Nat.mul_le_mul_right _ hj
  have h2 : j * size + size = (j + 1) * size := (Nat.succ_mul j size).symm
  obtain ⟨W, hr, h3, h4⟩ := rw_cells (P := P) w ho (j * size + tt) ds h1 (by omega)
  have e1 := rows_patch hw hx ht hy
  refine ⟨W, ?_, ?_, h4⟩
  · have hz : (sizeOf T).run P w = .ok n' w := by
      cases hq : P.info? T with
      | none => simp [hq] at hs
      | some i =>
        have : i.size = n' := by simpa [hq] using hs
        simp [sizeOf, typeInfo, hq, this]
    have hsz : v.cells.size = n' := by rw [← Array.length_toList, hv, hl]
    simp only [storeVar, Sem.run_bind, hz, Result.andThen_ok, hsz, ne_eq, not_true, if_false, hv, Sem.run_pure]
    rw [Nat.add_assoc]
    exact hr
  · rw [← e1]
    unfold splice
    rw [← List.append_assoc]
    exact h3
theorem wpList_store_frp {P : Program} {α : Type} {cf : α → List Value} {w : World} {ops : Array Oper} {rest : List Oper} {o' : Oper} {a : Act} {Q : Exit → Act → World → Prop} {T n' size e g o n c j tt : Nat} {l : List α} {x y : α} {ds : List Value} (hs : (P.info? T).map (·.size) = some n') (hgd : o'.guard = none) (px py : Operand) (hop : o'.op = .store T px py)
    (hp : a.eval px = .pointer (some ⟨g, o + j * size + tt, none⟩)) (hv : (a.eval py).cells.toList = ds) (hl : ds.length = n') (h1 : One ds) (ho : Rw w e size (some ⟨g, o, none⟩) n c (rows cf l)) (hw : Wid cf size l) (hx : l[j]? = some x) (ht : tt + ds.length ≤ size) (hy : splice (cf x) tt ds = cf y)
    (h : ∀ W, Rw W e size (some ⟨g, o, none⟩) n c (rows cf (l.set j y)) → Chg (· = g) w W → wpList P ops Q rest (a.put o'.dst undef) W) : wpList P ops Q (o' :: rest) a w := by
  obtain ⟨W, hr, h2, h3⟩ := run_store_frp (P := P) hs hv hl h1 ho hw hx ht hy
  refine wpList_plain hgd fun K hK => ?_
  unfold Oper.wp execOp
  simp only [hop, hp, Instr.storeAt, Instr.sureAddr, Sem.run_bind, Sem.run_pure, Result.andThen_ok, hr]
  exact hK _ _ (h W h2 h3)
theorem modify_set {α : Type} {l : List α} {i : Nat} {x : α} (h : l[i]? = some x) (q : α → α) : l.modify i q = l.set i (q x) := by
  refine List.ext_getElem? fun j => ?_
  rw [List.getElem?_modify, List.getElem?_set]
  by_cases e : i = j
  · subst e
    obtain ⟨hj, -⟩ := List.getElem?_eq_some_iff.1 h
    rw [h]; simp [hj]
  · simp [e]
section
variable {V : Type} [NVal V]
section
variable {w W : World} {g : Nat} {h : CH} {t u : Ca V} {Y : Nat → Prop}
end
def PinsOk (t : Ca V) : Prop := ∀ f ∈ t.fs, 0 ≤ f.pins ∧ f.pins ≤ 4611686018427387904
omit [NVal V] in
theorem PinsOk.at {t : Ca V} (h : PinsOk t) {i : Nat} {f : Fra V} (hf : t.fs[i]? = some f) : 0 ≤ f.pins ∧ f.pins ≤ 4611686018427387904 := h f (List.mem_of_getElem? hf)
theorem int_info16 : (Try.prog.info? 3).map (·.size) = some 1 := by kernel_rfl
theorem ready_some {t : Ca V} {x : Int} {i : Nat} (h : readyI t x = some i) : ∃ f, t.fs[i]? = some f ∧ f.st = 2 ∧ f.blk = x := by
  unfold readyI at h
  split at h
  · cases hf : findB t.fs x with
    | none => rw [hf] at h; cases h
    | some j =>
      rw [hf] at h
      obtain ⟨f, h1, h2⟩ := idx_at hf
      simp only [fr_of h1] at h
      split at h
      · injection h with h
        subst h
        refine ⟨f, h1, by assumption, ?_⟩
        unfold isB at h2
        simp at h2
        exact h2.1
      · cases h
  · cases h
end
end Go.Proofs.Ytmoaddbpfekdbaa
/- The document's cache: Set. -/
namespace Go.Proofs.Ytmoaddbpfekdbaa
set_option linter.unusedSectionVars false
set_option linter.unusedVariables false
set_option linter.unusedSimpArgs false
set_option maxRecDepth 100000
open Go.RowKit
theorem node16_ty : Sty Try.prog 41 5 := ⟨by kernel_rfl, ⟨_, Try.underlying41, rfl⟩⟩
theorem node16_info : (Try.prog.info? 41).map (·.size) = some 5 := by kernel_rfl
theorem node16_ld (p : Value) : Instr.loadAt 41 p = ldS 41 p := rfl
theorem bool_info16 : (Try.prog.info? 4).map (·.size) = some 1 := by kernel_rfl
section
variable {V : Type} [NVal V]
/-- A node as a value. -/
def ncv (v : V) : Value := .agg (NVal.nc v).toArray
/-- A node that is boxed. -/
theorem node16_box (w : World) (v : V) : ∃ W, w.alloc (.cells (NVal.nc v).toArray 41) = W ∧ Fr w W ∧ Fr W W ∧ Arr W w.heap.size 41 (NVal.nc v).toArray ∧ W.heap.size = w.heap.size + 1 := ⟨_, rfl, fr_new (fr_refl w) _, fr_refl _, Arr.new w _ _, by simp⟩
attribute [local go_sem ↓] node16_ld
end
end Go.Proofs.Ytmoaddbpfekdbaa
/- The document's cache: Node. -/
namespace Go.Proofs.Ytmoaddbpfekdbaa
set_option linter.unusedSectionVars false
set_option linter.unusedVariables false
set_option linter.unusedSimpArgs false
set_option maxRecDepth 100000
open Go.RowKit
section
variable {V : Type} [NVal V]
theorem zero16_box (w : World) : ∃ W, w.alloc (.cells #[.bool false, .slice none 0 0, .slice none 0 0, .slice none 0 0, .slice none 0 0] 41) = W ∧ Fr w W ∧ Fr W W ∧ Arr W w.heap.size 41 [Value.bool false, .slice none 0 0, .slice none 0 0, .slice none 0 0, .slice none 0 0].toArray ∧ W.heap.size = w.heap.size + 1 := ⟨_, rfl, fr_new (fr_refl w) _, fr_refl _, Arr.new w _ _, by simp⟩
attribute [local go_sem ↓] node16_ld
end
end Go.Proofs.Ytmoaddbpfekdbaa
/- The document's cache: rows laid anew; takes. -/
namespace Go.Proofs.Ytmoaddbpfekdbaa
set_option linter.unusedSectionVars false
set_option linter.unusedVariables false
set_option linter.unusedSimpArgs false
set_option maxRecDepth 100000
open Go.RowKit
theorem stand_none {l : List (Int × Int)} {t : Int} (h : atI l t = none) : stand l t = none := by
  unfold atI at h
  rw [List.findIdx?_eq_none_iff] at h
  unfold stand
  rw [List.find?_eq_none]
  intro x hx
  simpa using h x hx
theorem stand_some {l : List (Int × Int)} {t : Int} {i : Nat} (h : atI l t = some i) : ∃ p, l[i]? = some p ∧ stand l t = some p := by
  induction l generalizing i with
  | nil => cases h
  | cons p l ih =>
    unfold atI at h
    rw [List.findIdx?_cons] at h
    unfold stand
    cases hp : p.1 == t with
    | true =>
      rw [hp] at h
      simp at h
      subst h
      exact ⟨p, rfl, by rw [List.find?_cons, hp]⟩
    | false =>
      rw [hp] at h
      simp only [Bool.false_eq_true, if_false] at h
      cases hq : List.findIdx? (fun p : Int × Int => p.1 == t) l with
      | none => rw [hq] at h; cases h
      | some j =>
        rw [hq] at h
        injection h with h
        subst h
        obtain ⟨q, h1, h2⟩ := ih (i := j) hq
        refine ⟨q, by simpa using h1, ?_⟩
        rw [List.find?_cons, hp]
        exact h2
section
variable {V : Type} [NVal V]
section
variable {w w3 W : World} {g m' d' : Nat} {h : CH} {t : Ca V} {B' : Option Addr}
end
end
end Go.Proofs.Ytmoaddbpfekdbaa
/- The document's cache: Claim. -/
namespace Go.Proofs.Ytmoaddbpfekdbaa
set_option linter.unusedSectionVars false
set_option linter.unusedVariables false
set_option linter.unusedSimpArgs false
set_option maxRecDepth 100000
open Go.RowKit
section
variable {V : Type} [NVal V]
end
end Go.Proofs.Ytmoaddbpfekdbaa
/- The document's cache: Line, May. -/
namespace Go.Proofs.Ytmoaddbpfekdbaa
set_option linter.unusedSectionVars false
set_option linter.unusedVariables false
set_option linter.unusedSimpArgs false
set_option maxRecDepth 100000
open Go.RowKit
section
variable {V : Type} [NVal V]
end
end Go.Proofs.Ytmoaddbpfekdbaa
/- The document's cache: Pin. -/
namespace Go.Proofs.Ytmoaddbpfekdbaa
set_option linter.unusedSectionVars false
set_option linter.unusedVariables false
set_option linter.unusedSimpArgs false
set_option maxRecDepth 100000
open Go.RowKit
section
variable {V : Type} [NVal V]
/-- Pin as the document's cache does it: it tells by whom a frame is loaded. -/
def pinD (c : Ca V) (t b : Int) : Int × Ca V :=
  if (okT t && okBl b && !busy c t b) = true then
    match findB c.fs b with
    | some i => if (fr c.fs i).st = 2 then (1, { c with fs := c.fs.modify i pinned, line := leave c.line t }) else (2, { c with fs := c.fs.modify i pinned, line := leave c.line t, loads := c.loads ++ [(t, b)] })
    | none => match takeI c t with
      | some k => (3, { c with fs := c.fs.set k ⟨1, b, 1, true, false, default, t⟩, line := leave c.line t })
      | none => (4, { c with line := queue c.line t b })
  else (0, c)
end
end Go.Proofs.Ytmoaddbpfekdbaa
/- The document's cache: Name, Give. -/
namespace Go.Proofs.Ytmoaddbpfekdbaa
set_option linter.unusedSectionVars false
set_option linter.unusedVariables false
set_option linter.unusedSimpArgs false
set_option maxRecDepth 100000
open Go.RowKit
section
variable {V : Type} [NVal V]
attribute [local go_sem ↓] node16_ld
end
end Go.Proofs.Ytmoaddbpfekdbaa
/- The document's cache: Give. -/
namespace Go.Proofs.Ytmoaddbpfekdbaa
set_option linter.unusedSectionVars false
set_option linter.unusedVariables false
set_option linter.unusedSimpArgs false
set_option maxRecDepth 100000
open Go.RowKit
section
variable {V : Type} [NVal V]
def given (tk : Int) (f : Fra V) : Fra V := if isC tk f = true then freeF else f
def gives (tk : Int) (l : List (Fra V)) (j : Nat) : List (Fra V) := (l.take j).map (given tk) ++ l.drop j
end
end Go.Proofs.Ytmoaddbpfekdbaa
/- The document's cache: Fill. -/
namespace Go.Proofs.Ytmoaddbpfekdbaa
set_option linter.unusedSectionVars false
set_option linter.unusedVariables false
set_option linter.unusedSimpArgs false
set_option maxRecDepth 100000
open Go.RowKit
def outsL (x : Int) (l : List (Int × Int)) : List Int := (l.filter fun p => p.2 == x).map (·.1)
def leftL (x : Int) (l : List (Int × Int)) : List (Int × Int) := l.filter fun p => !(p.2 == x)
section
variable {V : Type} [NVal V]
attribute [local go_sem ↓] node16_ld
end
end Go.Proofs.Ytmoaddbpfekdbaa
/- The document's cache: Evict. -/
namespace Go.Proofs.Ytmoaddbpfekdbaa
set_option linter.unusedSectionVars false
set_option linter.unusedVariables false
set_option linter.unusedSimpArgs false
set_option maxRecDepth 100000
open Go.RowKit
section
variable {V : Type} [NVal V]
/-- The frame that Evict tells. -/
def evF (o : Option (Fra V)) : List Value := match o with | some f => fc f | none => [Value.int .i64 0, .int .i64 0, .int .i64 0, .bool false, .bool false, .bool false, .slice none 0 0, .slice none 0 0, .slice none 0 0, .slice none 0 0, .int .i64 0]
omit [NVal V] in
theorem can_in {l : List (Fra V)} {j : Nat} {m : Fra V} (hm : l[j]? = some m) : canL (l.take (j + 1)) = canL (l.take j) ++ [canE m] ∧ refL (l.take (j + 1)) = refL (l.take j) ++ [m.ref] := by
  obtain ⟨hj, e⟩ := List.getElem?_eq_some_iff.1 hm
  rw [List.take_succ_eq_append_getElem hj, e]
  unfold canL refL
  rw [List.map_append, List.map_append]
  exact ⟨rfl, rfl⟩
def rers (l : List (Fra V)) (m : List Bool) (j : Nat) : List (Fra V) := reref (l.take j) (m.take j) ++ l.drop j
omit [NVal V] in
theorem rr_len {l : List (Fra V)} {m : List Bool} (h : m.length = l.length) {j : Nat} (hj : j ≤ l.length) : (reref (l.take j) (m.take j)).length = j := by
  unfold reref
  rw [List.length_zipWith, List.length_take, List.length_take]
  omega
omit [NVal V] in
theorem rers_at {l : List (Fra V)} {m : List Bool} (h : m.length = l.length) {j : Nat} {x : Fra V} (hx : l[j]? = some x) : (rers l m j)[j]? = some x := by
  obtain ⟨hj, -⟩ := List.getElem?_eq_some_iff.1 hx
  unfold rers
  rw [List.getElem?_append_right (by rw [rr_len h (by omega)]; exact Nat.le_refl _), rr_len h (by omega), Nat.sub_self, List.getElem?_drop]
  exact hx
omit [NVal V] in
theorem rers_in {l : List (Fra V)} {m : List Bool} (h : m.length = l.length) {j : Nat} {x : Fra V} {b : Bool} (hx : l[j]? = some x) (hb : m[j]? = some b) : rers l m (j + 1) = (rers l m j).set j { x with ref := b } := by
  obtain ⟨hj, e⟩ := List.getElem?_eq_some_iff.1 hx
  obtain ⟨hj2, e2⟩ := List.getElem?_eq_some_iff.1 hb
  have h1 := rr_len h (j := j) (by omega)
  unfold rers
  rw [List.set_append_right _ _ (by omega), h1, Nat.sub_self, List.drop_eq_getElem_cons hj, List.set_cons_zero]
  unfold reref at *
  rw [List.take_succ_eq_append_getElem hj, List.take_succ_eq_append_getElem hj2, e, e2, List.zipWith_append (by rw [List.length_take, List.length_take]; omega), List.append_assoc]
  rfl
omit [NVal V] in
theorem rers_all {l : List (Fra V)} {m : List Bool} (h : m.length = l.length) : rers l m l.length = reref l m := by
  unfold rers
  rw [List.take_length, List.drop_length, List.append_nil, ← h, List.take_length]
/-- The marks grow by one; what lies elsewhere stays. -/
theorem app_one {w0 wr w3 : World} {C R C' : Option Addr} {i j rb cb' : Nat} {cl rl : List Bool} (hF : Fr w0 wr) (hn : ∀ k, At C k → w0.heap.size ≤ k) (hR : ResB w0 wr R j rb rl) (hap : ∀ k, At C k → ¬ At R k) {o : Obj} {x : Bool} (h3 : Rw w3 4 1 C' i cb' (rows bc cl ++ bc x)) (p3 : Put (wr.alloc o) w3 C C') :
    True ∧ (∀ k, At C' k → w0.heap.size ≤ k) ∧ ResB w0 w3 R j rb rl ∧ (∀ k, At C' k → ¬ At R k) ∧ Fr w0 w3 := by
  have fN := fr_new (fr_refl wr) o
  have hnew : ∀ k, At C' k → w0.heap.size ≤ k := fun k hk => by
    rcases p3.blk k hk with e | e
    · exact hn k e
    · have := hF.size
      simp at e
      omega
  refine ⟨trivial, hnew, ⟨(hR.row.fr fN).chg p3.chg fun a ha ho => hap a ho ha, hR.len, hR.new⟩, fun k hk hr => ?_, (fr_step hF fN).step_chg p3.chg hn⟩
  rcases p3.blk k hk with e | e
  · exact hap k e hr
  · have := hR.row.lt k hr
    simp at e
    omega
end
end Go.Proofs.Ytmoaddbpfekdbaa
/- The document's cache: Evict, walked. -/
namespace Go.Proofs.Ytmoaddbpfekdbaa
set_option linter.unusedSectionVars false
set_option linter.unusedVariables false
set_option linter.unusedSimpArgs false
set_option maxRecDepth 100000
open Go.RowKit
section
variable {V : Type} [NVal V]
end
end Go.Proofs.Ytmoaddbpfekdbaa
/- The document's cache: Frames. -/
namespace Go.Proofs.Ytmoaddbpfekdbaa
set_option linter.unusedVariables false
set_option linter.unusedSimpArgs false
set_option linter.unusedSectionVars false
set_option maxRecDepth 100000
open Go.RowKit
theorem aframe_elem : Elem Try.prog 49 13 192 := Elem.of (z := .agg #[.int .i64 0, .int .i64 0, .int .i64 0, .bool false, .bool false, .bool false, .slice none 0 0, .slice none 0 0, .slice none 0 0, .slice none 0 0, .slice none 0 0, .int .i64 0, .slice none 0 0]) (by kernel_rfl) (by kernel_rfl) (by kernel_rfl) rfl
theorem aframes_und : Try.prog.underlying 28 = some (.slice 49) := Try.underlying28
section
variable {V : Type} [NVal V]
/-- A frame as it is told: its thirteen cells. -/
def fac (f : Fra V) : List Value := .int .i64 (f.st : Int) :: .int .i64 f.blk :: .int .i64 f.pins :: .bool f.ref :: .bool f.dirty :: (NVal.nc f.node ++ [.slice none 0 0, .int .i64 (-1), .slice none 0 0])
theorem fac_len (f : Fra V) : (fac f).length = 13 := by simp [fac, NVal.len]
theorem fac_wid (l : List (Fra V)) : Wid fac 13 l := fun f _ => fac_len f
theorem fac_one (f : Fra V) : One (fac f) := .cons rfl (.cons rfl (.cons rfl (.cons rfl (.cons rfl (.app (NVal.one _) (.cons rfl (.cons rfl (.cons rfl .nil))))))))
structure ResA (w W : World) (O : Option Addr) (n c : Nat) (l : List (Fra V)) : Prop where
  row : Rw W 49 13 O n c (rows fac l)
  len : l.length = n
  new : ∀ k, At O k → w.heap.size ≤ k
attribute [local go_sem ↓] node16_ld
end
end Go.Proofs.Ytmoaddbpfekdbaa
/- The document's cache: SameFrame, of frames that are alike. -/
namespace Go.Proofs.Ytmoaddbpfekdbaa
set_option linter.unusedVariables false
set_option linter.unusedSimpArgs false
set_option linter.unusedSectionVars false
set_option maxRecDepth 100000
open Go.RowKit
section
variable {V : Type} [NVal V]
attribute [local go_sem ↓] node16_ld
end
end Go.Proofs.Ytmoaddbpfekdbaa
