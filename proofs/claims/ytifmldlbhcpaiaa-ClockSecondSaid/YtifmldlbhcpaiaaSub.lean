/- Structs that lie in a row: a part's load, its store, its field; rows of structs. No program text. -/
import Derived.Test.YtifmldlbhcpaiaaRow
import Derived.Test.YtifmldlbhcpaiaaMem
import Derived.Deep.MidRow
import Derived.Laws.CopyOwn
namespace Go.Proofs.Ytifmldlbhcpaiaa
set_option linter.unusedVariables false
set_option linter.unusedSimpArgs false
open Go.RowKit

/-- The type and the place of a struct's field. -/
def fieldAt? (P : Program) (xT j : Nat) : Option (TypeId × Nat) := match P.underlying xT with
  | some (.struct fs) => (fs[j]?).map fun f => (f.type, f.offset)
  | _ => none
theorem fieldAt_some {P : Program} {xT j T off : Nat} (h : fieldAt? P xT j = some (T, off)) : ∃ fs f, P.underlying xT = some (.struct fs) ∧ fs[j]? = some f ∧ f.type = T ∧ f.offset = off := by
  unfold fieldAt? at h
  split at h
  · rename_i fs hu
    cases hf : fs[j]? with
    | none => rw [hf] at h; simp at h
    | some f =>
      rw [hf] at h
      simp only [Option.map_some, Option.some.injEq, Prod.mk.injEq] at h
      exact ⟨fs, f, hu, hf, h.1, h.2⟩
  · cases h
theorem extract_part (cs : List Value) (off n : Nat) : cs.toArray.extract off (off + n) = ((cs.drop off).take n).toArray := by
  apply Array.ext'
  simp [List.take_drop]
section
variable {P : Program} {T n : Nat} {w : World}
theorem Sty.agg (S : Sty P T n) : (isAgg T).run P w = .ok true w := by
  obtain ⟨d, hu, hd⟩ := S.under
  unfold isAgg
  rw [Sem.run_bind, run_underlying hu w]
  cases d <;> first | (cases hd; done) | rfl
theorem Sty.size (S : Sty P T n) : (sizeOf T).run P w = .ok n w := by
  have hi := S.info
  cases hq : P.info? T with
  | none => simp [hq] at hi
  | some i =>
    have hs : i.size = n := by simpa [hq] using hi
    simp [sizeOf, typeInfo, hq, hs]
/-- A field that is a struct. -/
theorem Sty.field (S : Sty P T n) {xT j off : Nat} (hf : fieldAt? P xT j = some (T, off)) {cs ds : List Value} (hd : (cs.drop off).take n = ds) : (Instr.field xT (.agg cs.toArray) j).run P w = .ok (.agg ds.toArray) w := by
  obtain ⟨fs, f, hu, hj, h1, h2⟩ := fieldAt_some hf
  subst hd h1 h2
  simp only [Instr.field, Sem.run_bind, run_underlying hu, Result.andThen_ok, hj, asAgg, Sem.run_pure, part, S.agg, if_true, S.size, extract_part]
/-- A field that is one cell. -/
theorem field_cell {xT j off : Nat} (hf : fieldAt? P xT j = some (T, off)) (hg : (isAgg T).run P w = .ok false w) {cs : List Value} {v : Value} (hv : cs[off]? = some v) : (Instr.field xT (.agg cs.toArray) j).run P w = .ok v w := by
  obtain ⟨fs, f, hu, hj, h1, h2⟩ := fieldAt_some hf
  subst h1 h2
  have hv' : cs.toArray[f.offset]? = some v := by simpa using hv
  simp only [Instr.field, Sem.run_bind, run_underlying hu, Result.andThen_ok, hj, asAgg, Sem.run_pure, part, hg, hv', Bool.false_eq_true, if_false]
/-- The part of a row from o on. -/
theorem range_of_arr {g o : Nat} {T' : Nat} {cs ds : List Value} (ha : Arr w g T' cs.toArray) (hd : (cs.drop o).take ds.length = ds) : w.rangeAt g o ds := fun j v hv => by
  rw [ha.cell, ← hv]
  have hj := (List.getElem?_eq_some_iff.1 hv).1
  rw [← hd, List.getElem?_take_of_lt hj, List.getElem?_drop]
  simp
theorem Sty.loadMid (S : Sty P T n) {g o : Nat} {ds : List Value} (hl : ds.length = n) (ha : w.rangeAt g o ds) : (loadVar T ⟨g, o, none⟩).run P w = .ok (.agg ds.toArray) w := by
  obtain ⟨d, hu, hd⟩ := S.under
  exact run_loadVar_mid w g o T ds d ha hu (by cases d <;> first | (cases hd; done) | rfl) (by rw [S.info, hl])
theorem Sty.ldMid (S : Sty P T n) {g o : Nat} {ds : List Value} (hl : ds.length = n) (ha : w.rangeAt g o ds) : (ldS T (.pointer (some ⟨g, o, none⟩))).run P w = .ok (.agg ds.toArray) w := by
  simp only [ldS, Instr.loadAt, Instr.sureAddr, Sem.run_bind, Sem.run_pure, Result.andThen_ok, S.loadMid hl ha]
theorem wpList_load_sub (S : Sty P T n) {ops : Array Oper} {rest : List Oper} {o : Oper} {a : Act} {Q : Exit → Act → World → Prop} (hgd : o.guard = none) (x : Operand) (ho : o.op = .load T x)
    (g off : Nat) (hx : a.eval x = .pointer (some ⟨g, off, none⟩)) {ds : List Value} (hl : ds.length = n) (ha : w.rangeAt g off ds)
    (h : wpList P ops Q rest (a.put o.dst (.agg ds.toArray)) w) : wpList P ops Q (o :: rest) a w := by
  obtain ⟨d, hu, hd⟩ := S.under
  exact wpList_load_mid hgd T x ho g off hx ds d ha hu (by cases d <;> first | (cases hd; done) | rfl) (by rw [S.info, hl]) h
theorem Sty.storeSub (S : Sty P T n) {g o : Nat} {T' : Nat} {cs ds : List Value} (hl : ds.length = n) (h1 : One ds) (ha : Arr w g T' cs.toArray) (hf : o + n ≤ cs.length) : (storeVar T ⟨g, o, none⟩ (.agg ds.toArray)).run P w = .ok () (w.setRow g (splice cs o ds).toArray) := by
  have hst := run_storeCells_at P g o T' ds 0 cs.toArray w ha (by simp [hl]; exact hf) h1
  have hs := S.size (w := w)
  simp only [Nat.add_zero] at hst
  have e : cs.take o ++ ds ++ cs.drop (o + ds.length) = splice cs o ds := by simp [splice]
  rw [e] at hst
  simp [storeVar, Sem.run_bind, hs, Value.cells, hl, hst]
theorem wpList_store_sub (S : Sty P T n) {ops : Array Oper} {rest : List Oper} {o : Oper} {a : Act} {Q : Exit → Act → World → Prop} (hgd : o.guard = none) (x y : Operand) (ho : o.op = .store T x y)
    (g off : Nat) (ds : List Value) (hx : a.eval x = .pointer (some ⟨g, off, none⟩)) (hy : a.eval y = .agg ds.toArray) (hl : ds.length = n) (h1 : One ds)
    {T' : Nat} {cs : List Value} (ha : Arr w g T' cs.toArray) (hf : off + n ≤ cs.length)
    (h : wpList P ops Q rest (a.put o.dst undef) (w.setRow g (splice cs off ds).toArray)) : wpList P ops Q (o :: rest) a w :=
  wpList_plain hgd fun K hK => by
    unfold Oper.wp execOp
    simp only [ho, hx, hy, Instr.storeAt, Instr.sureAddr, Sem.run_bind, Sem.run_pure, Result.andThen_ok, S.storeSub hl h1 ha hf]
    exact hK _ _ h
/-- A store into a part of the block that was just made: as if it had been made so. -/
theorem wpList_store_sub_new (S : Sty P T n) {ops : Array Oper} {rest : List Oper} {o : Oper} {a : Act} {Q : Exit → Act → World → Prop} (hgd : o.guard = none) (x y : Operand) (ho : o.op = .store T x y)
    (g off : Nat) (ds : List Value) (hx : a.eval x = .pointer (some ⟨g, off, none⟩)) (hy : a.eval y = .agg ds.toArray) (hl : ds.length = n) (h1 : One ds)
    {T' : Nat} {cs : List Value} (hf : off + n ≤ cs.length) (hg : w.heap.size = g)
    (h : wpList P ops Q rest (a.put o.dst undef) (w.alloc (.cells (splice cs off ds).toArray T'))) : wpList P ops Q (o :: rest) a (w.alloc (.cells cs.toArray T')) := by
  refine wpList_store_sub S hgd x y ho g off ds hx hy hl h1 (arr_at w cs.toArray T' g hg) hf ?_
  rw [setRow_new w _ _ T' g hg]
  exact h
end

section
variable {α : Type} {c : α → List Value} {n : Nat}
/-- The cells of structs, one behind the other. -/
def rows (c : α → List Value) (l : List α) : List Value := l.flatMap c
/-- Each of them has n cells. -/
def Wid (c : α → List Value) (n : Nat) (l : List α) : Prop := ∀ a ∈ l, (c a).length = n
theorem Wid.tail {a : α} {l : List α} (h : Wid c n (a :: l)) : Wid c n l := fun b hb => h b (List.mem_cons_of_mem _ hb)
theorem Wid.take {l : List α} (h : Wid c n l) (m : Nat) : Wid c n (l.take m) := fun b hb => h b (List.mem_of_mem_take hb)
theorem Wid.drop {l : List α} (h : Wid c n l) (m : Nat) : Wid c n (l.drop m) := fun b hb => h b (List.mem_of_mem_drop hb)
theorem Wid.app {l m : List α} (h : Wid c n l) (k : Wid c n m) : Wid c n (l ++ m) := fun b hb => by
  rcases List.mem_append.1 hb with hb | hb
  · exact h b hb
  · exact k b hb
theorem Wid.one {a : α} (h : (c a).length = n) : Wid c n [a] := fun b hb => by
  rw [List.mem_singleton.1 hb]; exact h
theorem rows_nil : rows c [] = [] := rfl
theorem rows_cons (a : α) (l : List α) : rows c (a :: l) = c a ++ rows c l := rfl
theorem rows_single (a : α) : rows c [a] = c a := by simp [rows]
theorem rows_append (a b : List α) : rows c (a ++ b) = rows c a ++ rows c b := by simp [rows]
theorem rows_len : ∀ {l : List α}, Wid c n l → (rows c l).length = l.length * n
  | [], _ => by simp [rows]
  | a :: l, h => by
    rw [rows_cons, List.length_append, rows_len h.tail, h a (by simp), List.length_cons, Nat.add_mul]
    omega
theorem rows_take {l : List α} (h : Wid c n l) (m : Nat) : rows c (l.take m) = (rows c l).take (m * n) := by
  by_cases hm : m ≤ l.length
  · have h1 : rows c l = rows c (l.take m) ++ rows c (l.drop m) := by rw [← rows_append, List.take_append_drop]
    have h2 : (rows c (l.take m)).length = m * n := by rw [rows_len (h.take m), List.length_take, Nat.min_eq_left hm]
    rw [h1, ← h2, List.take_left]
  · have h3 : l.length ≤ m := by omega
    rw [List.take_of_length_le h3, List.take_of_length_le (by rw [rows_len h]; exact Nat.mul_le_mul_right _ h3)]
theorem rows_drop {l : List α} (h : Wid c n l) (m : Nat) : rows c (l.drop m) = (rows c l).drop (m * n) := by
  by_cases hm : m ≤ l.length
  · have h1 : rows c l = rows c (l.take m) ++ rows c (l.drop m) := by rw [← rows_append, List.take_append_drop]
    have h2 : (rows c (l.take m)).length = m * n := by rw [rows_len (h.take m), List.length_take, Nat.min_eq_left hm]
    rw [h1, ← h2, List.drop_left]
  · have h3 : l.length ≤ m := by omega
    rw [List.drop_eq_nil_of_le h3, List.drop_eq_nil_of_le (by rw [rows_len h]; exact Nat.mul_le_mul_right _ h3)]; rfl
theorem rows_at {l : List α} (h : Wid c n l) {j : Nat} {a : α} (ha : l[j]? = some a) : ((rows c l).drop (j * n)).take n = c a := by
  have hj := (List.getElem?_eq_some_iff.1 ha).1
  have e : l[j] = a := (List.getElem?_eq_some_iff.1 ha).2
  rw [← rows_drop h, List.drop_eq_getElem_cons hj, e, rows_cons]
  have hl := h a (by rw [← e]; exact List.getElem_mem hj)
  conv => lhs; rw [← hl]
  exact List.take_left
theorem rows_get {l : List α} (h : Wid c n l) {j : Nat} {a : α} (ha : l[j]? = some a) (t : Nat) (ht : t < n) : (rows c l)[j * n + t]? = (c a)[t]? := by
  rw [← rows_at h ha, List.getElem?_take_of_lt ht, List.getElem?_drop]
theorem rows_one (h : ∀ a, One (c a)) (l : List α) : One (rows c l) := fun v hv => by
  obtain ⟨a, _, ha⟩ := List.mem_flatMap.1 hv
  exact h a v ha
/-- The j-th of a slice of structs. -/
theorem rows_range {w : World} {B : Nat} {A : Option Addr} {l : List α} (h : Wid c n l) (hn : 0 < n) (hr : Has w B A (rows c l)) {j : Nat} {a : α} (ha : l[j]? = some a) :
    ∃ b off, A = some ⟨b, off, none⟩ ∧ b < B ∧ w.rangeAt b (off + j * n) (c a) := by
  have hj := (List.getElem?_eq_some_iff.1 ha).1
  have hl : (c a).length = n := h a (by obtain ⟨_, e⟩ := List.getElem?_eq_some_iff.1 ha; rw [← e]; exact List.getElem_mem hj)
  have hne : rows c l ≠ [] := by
    intro e
    have h1 := rows_len h
    rw [e] at h1
    have : 0 < l.length * n := Nat.mul_pos (by omega) hn
    simp at h1
    omega
  obtain ⟨b, off, e, hb, hc⟩ := hr.form hne
  refine ⟨b, off, e, hb, fun t v ht => ?_⟩
  have h9 : t < n := by rw [← hl]; exact (List.getElem?_eq_some_iff.1 ht).1
  rw [Nat.add_assoc]
  exact hc (j * n + t) v (by rw [rows_get h ha t h9]; exact ht)
theorem range_lift {w w' : World} {b off : Nat} {cs : List Value} (h : w.rangeAt b off cs) (hc : ∀ p : Addr, p.block = b → w'.cell? p = w.cell? p) : w'.rangeAt b off cs := fun j v hj => (hc _ rfl).trans (h j v hj)
theorem range_below {w w' : World} {b off B : Nat} {cs : List Value} (h : w.rangeAt b off cs) (hb : Below B w w') (hl : b < B) : w'.rangeAt b off cs := range_lift h fun p hp => hb.cell (by rw [hp]; exact hl)
theorem range_cell {w : World} {b off j : Nat} {cs : List Value} {v : Value} (h : w.rangeAt b off cs) (hv : cs[j]? = some v) : w.cell? ⟨b, off + j, none⟩ = some v := h j v hv
theorem range_part {w : World} {b off o : Nat} {cs ds : List Value} (h : w.rangeAt b off cs) (hd : (cs.drop o).take ds.length = ds) : w.rangeAt b (off + o) ds := fun j v hv => by
  rw [Nat.add_assoc]
  refine h (o + j) v ?_
  rw [← hv]
  have hj := (List.getElem?_eq_some_iff.1 hv).1
  rw [← hd, List.getElem?_take_of_lt hj, List.getElem?_drop]
end
end Go.Proofs.Ytifmldlbhcpaiaa
