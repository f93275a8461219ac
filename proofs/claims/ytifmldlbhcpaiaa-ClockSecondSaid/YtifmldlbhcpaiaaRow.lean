/- Structs moved whole: a type of so many cells, its loads and stores, its results. No program text. -/
import Derived.Test.YtifmldlbhcpaiaaBase
import Derived.Laws.Rows
import Derived.Laws.CopyRow
namespace Go.Proofs.Ytifmldlbhcpaiaa
set_option linter.unusedVariables false
set_option linter.unusedSimpArgs false
open Go.RowKit

/-- A struct type of so many cells. -/
structure Sty (P : Program) (T : TypeId) (n : Nat) : Prop where
  info : (P.info? T).map (·.size) = some n
  under : ∃ d, P.underlying T = some d ∧ (match d with | .struct _ | .array _ _ => true | _ => false) = true
def One (cs : List Value) : Prop := ∀ v ∈ cs, v.oneCell' = true
theorem One.all {cs : List Value} (h : One cs) : cs.toArray.all (·.oneCell') = true := by
  rw [List.all_toArray, List.all_eq_true]; exact h
theorem One.app {a b : List Value} (h : One a) (k : One b) : One (a ++ b) := fun v hv => by
  rcases List.mem_append.1 hv with hv | hv
  · exact h v hv
  · exact k v hv
theorem One.cons {x : Value} {b : List Value} (h : x.oneCell' = true) (k : One b) : One (x :: b) := fun v hv => by
  rcases List.mem_cons.1 hv with rfl | hv
  · exact h
  · exact k v hv
theorem One.nil : One [] := fun _ h => by simp at h
theorem setRow_new (w : World) (z cs : Array Value) (T : Nat) (g : Nat) (hg : w.heap.size = g) : (w.alloc (.cells z T)).setRow g cs = w.alloc (.cells cs T) := by
  subst hg
  unfold World.setRow World.alloc
  congr 1
  apply Array.ext_getElem?
  intro k
  simp only [Array.getElem?_modify, Array.getElem?_push]
  by_cases hk : k = w.heap.size
  · subst hk; simp
  · rw [if_neg (fun e => hk e.symm), if_neg hk, if_neg hk]
theorem arr_at (w : World) (cs : Array Value) (T g : Nat) (hg : w.heap.size = g) : Arr (w.alloc (.cells cs T)) g T cs := hg ▸ Arr.new w cs T
theorem Arr.setRow {w : World} {g T : Nat} {cs : Array Value} (h : Arr w g T cs) (ds : Array Value) : Arr (w.setRow g ds) g T ds := setRow_heap w g _ _ _ _ h
theorem Arr.setRowOther {w : World} {g T k : Nat} {cs : Array Value} (h : Arr w g T cs) (ds : Array Value) (hk : g ≠ k) : Arr (w.setRow k ds) g T cs := by
  show (w.setRow k ds).heap[g]? = _
  simp only [World.setRow, Array.getElem?_modify]
  rw [if_neg (fun e => hk e.symm)]
  exact h
theorem fr_setRow {a w : World} {g : Nat} (h : Fr a w) (hg : a.heap.size ≤ g) (cs : Array Value) : Fr a (w.setRow g cs) :=
  h.trans ⟨rfl, rfl, rfl, by simp [World.setRow], fun k hk => by simp only [World.setRow, Array.getElem?_modify]; rw [if_neg (by omega)]⟩
section
variable {P : Program} {T n : Nat} {w : World}
theorem Sty.load (S : Sty P T n) {g : Nat} {T' : Nat} {cs : List Value} (hl : cs.length = n) (ha : Arr w g T' cs.toArray) : (loadVar T ⟨g, 0, none⟩).run P w = .ok (.agg cs.toArray) w := by
  obtain ⟨d, hu, hd⟩ := S.under
  cases d <;> first | (cases hd; done) | exact run_loadVar_row w g T' T _ (0, 0) _ ha hu rfl (by rw [S.info]; simp [hl])
theorem wpList_load_sty (S : Sty P T n) {ops : Array Oper} {rest : List Oper} {o : Oper} {a : Act} {Q : Exit → Act → World → Prop} (hgd : o.guard = none) (x : Operand) (ho : o.op = .load T x)
    (g : Nat) (hx : a.eval x = .pointer (some ⟨g, 0, none⟩)) {T' : Nat} {cs : List Value} (hl : cs.length = n) (ha : Arr w g T' cs.toArray)
    (h : wpList P ops Q rest (a.put o.dst (.agg cs.toArray)) w) : wpList P ops Q (o :: rest) a w := by
  obtain ⟨d, hu, hd⟩ := S.under
  cases d <;> first | (cases hd; done) | exact wpList_load_row hgd T x ho g hx T' _ (0, 0) _ ha hu rfl (by rw [S.info]; simp [hl]) h
theorem wpList_store_sty (S : Sty P T n) {ops : Array Oper} {rest : List Oper} {o : Oper} {a : Act} {Q : Exit → Act → World → Prop} (hgd : o.guard = none) (x y : Operand) (ho : o.op = .store T x y)
    (g : Nat) (cs : List Value) (hx : a.eval x = .pointer (some ⟨g, 0, none⟩)) (hy : a.eval y = .agg cs.toArray) (hl : cs.length = n) (h1 : One cs)
    {T' : Nat} {old : List Value} (ho' : old.length = n) (ha : Arr w g T' old.toArray)
    (h : wpList P ops Q rest (a.put o.dst undef) (w.setRow g cs.toArray)) : wpList P ops Q (o :: rest) a w :=
  wpList_store_row hgd T x y ho g _ hx hy T' _ ha (by rw [S.info]; simp [hl]) (by simp [hl, ho']) h1.all h
/-- A store into the block that was just made: as if it had been made so. -/
theorem wpList_store_new (S : Sty P T n) {ops : Array Oper} {rest : List Oper} {o : Oper} {a : Act} {Q : Exit → Act → World → Prop} (hgd : o.guard = none) (x y : Operand) (ho : o.op = .store T x y)
    (g : Nat) (cs : List Value) (hx : a.eval x = .pointer (some ⟨g, 0, none⟩)) (hy : a.eval y = .agg cs.toArray) (hl : cs.length = n) (h1 : One cs)
    {T' : Nat} {z : Array Value} (hz : z.size = n) (hg : w.heap.size = g)
    (h : wpList P ops Q rest (a.put o.dst undef) (w.alloc (.cells cs.toArray T'))) : wpList P ops Q (o :: rest) a (w.alloc (.cells z T')) := by
  refine wpList_store_row hgd T x y ho g _ hx hy T' z (arr_at w z T' g hg) (by rw [S.info]; simp [hl]) (by simp [hl, hz]) h1.all ?_
  rw [setRow_new w z _ T' g hg]
  exact h
theorem Sty.result (S : Sty P T n) {fn : Func} {p : Tmp} (h : fn.results = #[.cell p T]) (tmps : Array Value) (g : Nat) (hp : tmps.getD p undef = .pointer (some ⟨g, 0, none⟩)) {T' : Nat} {cs : List Value} (hl : cs.length = n) (ha : Arr w g T' cs.toArray) :
    (results fn tmps).run P w = .ok (.agg cs.toArray) w := by
  obtain ⟨d, hu, hd⟩ := S.under
  cases d <;> first | (cases hd; done) | exact results_cell_row h tmps w g T' _ (0, 0) _ hp ha hu rfl (by rw [S.info]; simp [hl])
theorem Sty.result2 (S : Sty P T n) {fn : Func} {p t : Tmp} (h : fn.results = #[.cell p T, .tmp t]) (tmps : Array Value) (g : Nat) (hp : tmps.getD p undef = .pointer (some ⟨g, 0, none⟩)) {T' : Nat} {cs : List Value} (hl : cs.length = n) (ha : Arr w g T' cs.toArray) :
    (results fn tmps).run P w = .ok (.tuple #[.agg cs.toArray, tmps.getD t undef]) w := by
  have hp' : tmps[p]?.getD undef = .pointer (some ⟨g, 0, none⟩) := by simpa using hp
  simp [results, h, hp', asAddr, S.load hl ha]
/-- .. where the operation is guarded: its guard is said by hw (by go_simp). -/
theorem wpList_load_styG (S : Sty P T n) {ops : Array Oper} {rest : List Oper} {o : Oper} {a : Act} {Q : Exit → Act → World → Prop} (hw : Region.wanted o (yielded ops a.tmps) = true) (x : Operand) (ho : o.op = .load T x)
    (g : Nat) (hx : a.eval x = .pointer (some ⟨g, 0, none⟩)) {T' : Nat} {cs : List Value} (hl : cs.length = n) (ha : Arr w g T' cs.toArray)
    (h : wpList P ops Q rest (a.put o.dst (.agg cs.toArray)) w) : wpList P ops Q (o :: rest) a w := by
  refine wpList_step fun K hK => ?_
  rw [if_pos hw]
  unfold Oper.wp execOp
  simp only [ho, hx, Instr.loadAt, Instr.sureAddr, Sem.run_bind, Sem.run_pure, Result.andThen_ok, S.load hl ha]
  exact hK _ _ h
/-- .. as one step of a region that draws its order. -/
theorem step_load_sty (S : Sty P T n) {ops : Array Oper} {o : Oper} {a : Act} {K : Act → World → Prop} {Q : Exit → Act → World → Prop} {E : Prop} (hw : Region.wanted o (yielded ops a.tmps) = true) (x : Operand) (ho : o.op = .load T x)
    (g : Nat) (hx : a.eval x = .pointer (some ⟨g, 0, none⟩)) {T' : Nat} {cs : List Value} (hl : cs.length = n) (ha : Arr w g T' cs.toArray)
    (hK : K (a.put o.dst (.agg cs.toArray)) w) : if Region.wanted o (yielded ops a.tmps) = true then Oper.wp P o a w K Q else E := by
  rw [if_pos hw]
  unfold Oper.wp execOp
  simp only [ho, hx, Instr.loadAt, Instr.sureAddr, Sem.run_bind, Sem.run_pure, Result.andThen_ok, S.load hl ha]
  exact hK
theorem wanted_plain {o : Oper} (h : o.guard = none) (f : Nat → Option Bool) : Region.wanted o f = true := by simp [Region.wanted, h]
/-- 'copy' whose run is known, as one step of a region that draws its order. -/
theorem step_copy_run {ops : Array Oper} {o : Oper} {a : Act} {K : Act → World → Prop} {Q : Exit → Act → World → Prop} {E : Prop} (hw : Region.wanted o (yielded ops a.tmps) = true) (d s : Operand) (t t' : TypeId)
    (ho : o.op = .call { callee := .builtin .copy, args := #[d, s], argTypes := #[t, t'] }) (v u : Value) (hd : a.eval d = v) (hs : a.eval s = u) {v' : Value} {w' : World}
    (hr : (Builtin.copy_ #[t, t'] o.type #[v, u]).run P w = .ok v' w') (hK : K (a.put o.dst v') w') : if Region.wanted o (yielded ops a.tmps) = true then Oper.wp P o a w K Q else E := by
  rw [if_pos hw]
  unfold Oper.wp execOp
  simp only [ho, resolve, invoke, builtin, Sem.run_bind, Sem.run_pure, Result.andThen_ok, List.map_toArray, List.map_cons, List.map_nil, hd, hs, hr]
  exact hK
end
/-- 'copy(dst, s)', s a string, of whatever lengths. -/
theorem run_copy_text {P : Program} (w : World) (dT sT ty elem : TypeId) (g o dLen dCap : Nat) (s : ByteArray) (cur : List Value) (t : TypeId)
    (hu : P.underlying dT = some (.slice elem)) (hs : (P.info? elem).map (·.size) = some 1) (hg : Arr w g t cur.toArray) (cs : List Value) (hc : (s.data.toList.map fun b : UInt8 => Value.int .u8 (b.toNat : Int)).take dLen = cs) (hfit : o + cs.length ≤ cur.length) :
    (Builtin.copy_ #[dT, sT] ty #[.slice (some ⟨g, o, none⟩) dLen dCap, .string s]).run P w = .ok (goInt cs.length) (w.setRow g (cur.take o ++ cs ++ cur.drop (o + cs.length)).toArray) := by
  have hsz : s.size = s.data.toList.length := by simp [← ByteArray.size_data]
  have hmin : Nat.min s.size dLen = cs.length := by rw [← hc, List.length_take, List.length_map, hsz, Nat.min_comm]
  have h1 : ∀ v ∈ cs, v.oneCell' = true := fun v hv => by
    rw [← hc] at hv
    obtain ⟨b, _, rfl⟩ := List.mem_map.1 (List.mem_of_mem_take hv)
    rfl
  have hst := run_storeCells_at P g o t cs 0 cur.toArray w hg (by simpa using hfit) h1
  have htk : (s.data.toList.map fun b : UInt8 => Value.int .u8 (b.toNat : Int)).take cs.length = cs := by
    rw [← hmin]
    show List.take (min s.size dLen) _ = cs
    rw [← List.take_take, hc]
    exact List.take_of_length_le (by rw [← hmin]; exact Nat.min_le_left _ _)
  simp only [Nat.add_zero] at hst
  cases hq : P.info? elem with
  | none => simp [hq] at hs
  | some i =>
    simp [Builtin.copy_, run_underlying hu, Builtin.lenOf, Builtin.firstCells, sizeOf, typeInfo, hq, hmin]
    rw [htk, hst]
    simp [Result.andThen]
/-- A load, a store of a whole struct, hidden from the walk's own rules, which open them cell by cell: 'attribute [local go_sem ↓]' of the two equations for the type's number. -/
def ldS (T : TypeId) (p : Value) : Sem Value := Instr.loadAt T p
section
variable {P : Program} {T n : Nat} {w : World}
theorem Sty.ld (S : Sty P T n) {g T' : Nat} {cs : List Value} (hl : cs.length = n) (ha : Arr w g T' cs.toArray) : (ldS T (.pointer (some ⟨g, 0, none⟩))).run P w = .ok (.agg cs.toArray) w := by
  simp only [ldS, Instr.loadAt, Instr.sureAddr, Sem.run_bind, Sem.run_pure, Result.andThen_ok, S.load hl ha]
end
end Go.Proofs.Ytifmldlbhcpaiaa
