/- Stores into blocks of the call's own, by what is known of them: the world behind is told by three facts alone. No program text. -/
import Derived.Test.YtifmldlbhcpaiaaSub
namespace Go.Proofs.Ytifmldlbhcpaiaa
set_option linter.unusedVariables false
set_option linter.unusedSimpArgs false
open Go.RowKit
theorem run_store_at {P : Program} {T n g off T' : Nat} {w : World} (hs : (P.info? T).map (·.size) = some n) {v : Value} {ds : List Value} (hv : v.cells.toList = ds) (hl : ds.length = n) (h1 : One ds) {cs : List Value} (ha : Arr w g T' cs.toArray) (hf : off + n ≤ cs.length) :
    (storeVar T ⟨g, off, none⟩ v).run P w = .ok () (w.setRow g (splice cs off ds).toArray) := by
  have hst := run_storeCells_at P g off T' ds 0 cs.toArray w ha (by simp [hl]; exact hf) h1
  simp only [Nat.add_zero] at hst
  have e : cs.take off ++ ds ++ cs.drop (off + ds.length) = splice cs off ds := by simp [splice]
  rw [e] at hst
  have hz : (sizeOf T).run P w = .ok n w := by
    cases hq : P.info? T with
    | none => simp [hq] at hs
    | some i =>
      have : i.size = n := by simpa [hq] using hs
      simp [sizeOf, typeInfo, hq, this]
  have hsz : v.cells.size = n := by rw [← Array.length_toList, hv, hl]
  simp only [storeVar, Sem.run_bind, hz, Result.andThen_ok, hsz, ne_eq, not_true, if_false, hv, Sem.run_pure]
  exact hst
/-- What is known of the world behind a store into block g. -/
structure Kept (w W : World) (g : Nat) : Prop where
  other : ∀ {k T : Nat} {cs : Array Value}, Arr w k T cs → k ≠ g → Arr W k T cs
  fr : ∀ {a : World}, Fr a w → a.heap.size ≤ g → Fr a W
  size : W.heap.size = w.heap.size
theorem wpList_store_at {P : Program} {w : World} {ops : Array Oper} {rest : List Oper} {o : Oper} {a : Act} {Q : Exit → Act → World → Prop} {T n : Nat} (hs : (P.info? T).map (·.size) = some n) (hgd : o.guard = none) (x y : Operand) (ho : o.op = .store T x y)
    (g off : Nat) (hx : a.eval x = .pointer (some ⟨g, off, none⟩)) {ds : List Value} (hv : (a.eval y).cells.toList = ds) (hl : ds.length = n) (h1 : One ds)
    {T' : Nat} {cs : List Value} (ha : Arr w g T' cs.toArray) (hf : off + n ≤ cs.length) {cs' : List Value} (hc : splice cs off ds = cs')
    (h : ∀ W, Arr W g T' cs'.toArray → Kept w W g → wpList P ops Q rest (a.put o.dst undef) W) : wpList P ops Q (o :: rest) a w :=
  wpList_plain hgd fun K hK => by
    unfold Oper.wp execOp
    simp only [ho, hx, Instr.storeAt, Instr.sureAddr, Sem.run_bind, Sem.run_pure, Result.andThen_ok, run_store_at hs hv hl h1 ha hf, hc]
    refine hK _ _ (h _ (ha.setRow _) ⟨fun hk hne => hk.setRowOther _ hne, fun hf hg => fr_setRow hf hg _, ?_⟩)
    simp [World.setRow]
theorem step_store_at {P : Program} {w : World} {ops : Array Oper} {o : Oper} {a : Act} {K : Act → World → Prop} {Q : Exit → Act → World → Prop} {E : Prop} {T n : Nat} (hs : (P.info? T).map (·.size) = some n) (hw : Region.wanted o (yielded ops a.tmps) = true) (x y : Operand) (ho : o.op = .store T x y)
    (g off : Nat) (hx : a.eval x = .pointer (some ⟨g, off, none⟩)) {ds : List Value} (hv : (a.eval y).cells.toList = ds) (hl : ds.length = n) (h1 : One ds)
    {T' : Nat} {cs : List Value} (ha : Arr w g T' cs.toArray) (hf : off + n ≤ cs.length) {cs' : List Value} (hc : splice cs off ds = cs')
    (hK : ∀ W, Arr W g T' cs'.toArray → Kept w W g → K (a.put o.dst undef) W) : if Region.wanted o (yielded ops a.tmps) = true then Oper.wp P o a w K Q else E := by
  rw [if_pos hw]
  unfold Oper.wp execOp
  simp only [ho, hx, Instr.storeAt, Instr.sureAddr, Sem.run_bind, Sem.run_pure, Result.andThen_ok, run_store_at hs hv hl h1 ha hf, hc]
  refine hK _ (ha.setRow _) ⟨fun hk hne => hk.setRowOther _ hne, fun hf hg => fr_setRow hf hg _, ?_⟩
  simp [World.setRow]
theorem splice_cell (cs : List Value) (j : Nat) (v : Value) (hj : j < cs.length) : splice cs j [v] = cs.set j v := by
  rw [List.set_eq_take_append_cons_drop]
  simp [splice, hj]
theorem splice_all (cs ds : List Value) (h : cs.length ≤ ds.length) : splice cs 0 ds = ds := by
  simp [splice, List.drop_eq_nil_of_le h]
theorem one_of (v : Value) (h : v.oneCell' = true) : One [v] := .cons h .nil
/-! Stores in regions that draw their order: hidden from the walk ('attribute [local go_sem ↓]' of the equation for the type's number), run by a rule of the context. -/
def stS (T : TypeId) (p v : Value) : Sem Unit := Instr.storeAt T p v
/-- Block g has n cells, none of them frozen. -/
def OwnB (w : World) (g T n : Nat) : Prop := ∃ cs : List Value, Arr w g T cs.toArray ∧ cs.length = n
section
variable {w : World} {g T n : Nat}
theorem Arr.drew {cs : Array Value} (h : Arr w g T cs) : Arr w.drew g T cs := h
theorem OwnB.of {cs : List Value} (h : Arr w g T cs.toArray) (hl : cs.length = n) : OwnB w g T n := ⟨cs, h, hl⟩
theorem OwnB.new {cs : Array Value} (hg : g = w.heap.size) (hl : cs.size = n) : OwnB (w.alloc (.cells cs T)) g T n := ⟨cs.toList, by subst hg; exact Arr.new w cs T, by simpa using hl⟩
theorem OwnB.alloc (h : OwnB w g T n) (o : Obj) : OwnB (w.alloc o) g T n := by
  obtain ⟨cs, h, hl⟩ := h
  exact ⟨cs, h.alloc o, hl⟩
theorem OwnB.drew (h : OwnB w g T n) : OwnB w.drew g T n := h
theorem OwnB.setRow {k : Nat} {ds : Array Value} (h : OwnB w g T n) (hl : ds.size = n) : OwnB (w.setRow k ds) g T n := by
  obtain ⟨cs, h, hc⟩ := h
  by_cases hk : g = k
  · subst hk
    exact ⟨ds.toList, h.setRow ds, by simpa using hl⟩
  · exact ⟨cs, h.setRowOther ds hk, hc⟩
theorem size_setRow (w : World) (g : Nat) (cs : Array Value) : (w.setRow g cs).heap.size = w.heap.size := by simp [World.setRow]
theorem st_run {P : Program} (hi : (P.info? T).map (·.size) = some n) (h : OwnB w g T n) {ds : List Value} (hl : ds.length = n) (h1 : One ds) : (stS T (.pointer (some ⟨g, 0, none⟩)) (.agg ds.toArray)).run P w = .ok () (w.setRow g ds.toArray) := by
  obtain ⟨cs, h, hc⟩ := h
  simp only [stS, Instr.storeAt, Instr.sureAddr, Sem.run_bind, Sem.run_pure, Result.andThen_ok]
  rw [run_store_at (v := .agg ds.toArray) (ds := ds) hi rfl hl h1 h (by omega), splice_all _ _ (by omega)]
theorem fr_alloc_s {a : World} (h : Below a.heap.size a w) (o : Obj) : Below a.heap.size a (w.alloc o) := fr_new h o
theorem fr_drew_s {a : World} (h : Below a.heap.size a w) : Below a.heap.size a w.drew := fr_drew h
theorem fr_setRow_s {a : World} (h : Below a.heap.size a w) (hg : a.heap.size ≤ g) (cs : Array Value) : Below a.heap.size a (w.setRow g cs) := fr_setRow h hg cs
end
/-- A new block. -/
theorem wpList_alloc_at {P : Program} {w : World} {Q : World → Prop} {T : Nat} {z cs : Array Value} (hz : z = cs) (h : ∀ W, Arr W w.heap.size T cs → (∀ {k T' : Nat} {ds : Array Value}, Arr w k T' ds → Arr W k T' ds) → (∀ {a : World}, Fr a w → Fr a W) → W.heap.size = w.heap.size + 1 → Q W) : Q (w.alloc (.cells z T)) := by
  subst hz
  exact h _ (Arr.new w z T) (fun hk => hk.alloc _) (fun hf => fr_new hf _) (by simp)
end Go.Proofs.Ytifmldlbhcpaiaa
