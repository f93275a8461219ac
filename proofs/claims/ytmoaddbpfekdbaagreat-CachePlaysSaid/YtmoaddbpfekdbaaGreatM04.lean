/- Stores into blocks of the call's own, by what is known of them: the world behind is told by three facts alone. No program text. -/
import Derived.Test.YtmoaddbpfekdbaaGreatM01
import Derived.Lib.AppendZerosOnto
import Derived.Lib.Overlaps
import Derived.Test.YtmoaddbpfekdbaaGreatM03
namespace Go.Proofs.YtmoaddbpfekdbaaGreat
set_option maxRecDepth 100000
open Go.RowKit
set_option linter.unusedVariables false
theorem run_store_at {P : Program} {T n g off T' : Nat} {w : World} (hs : (P.info? T).map (·.size) = some n) {v : Value} {ds : List Value} (hv : v.cells.toList = ds) (hl : ds.length = n) (h1 : One ds) {cs : List Value} (ha : Arr w g T' cs.toArray) (hf : off + n ≤ cs.length) :
    (storeVar T ⟨g, off, none⟩ v).run P w = .ok () (w.setRow g (splice cs off ds).toArray) := by
  have hst := run_storeCells_at P g off T' ds 0 cs.toArray w ha (by simp [hl]; exact hf) h1
  simp only [Nat.add_zero] at hst
  have e : cs.take off ++ ds ++ cs.drop (off + ds.length) = splice cs off ds := by simp [splice]
  rw [e] at hst
  have hz : (sizeOf T).run P w = .ok n w := by
    cases hq : P.info? T with
    | none => simp [hq] at hs
    | some i =>
      have : i.size = n := by simpa [hq] using hs
      simp [sizeOf, typeInfo, hq, this]
  have hsz : v.cells.size = n := by rw [← Array.length_toList, hv, hl]
  simp only [storeVar, Sem.run_bind, hz, Result.andThen_ok, hsz, ne_eq, not_true, if_false, hv]
  exact hst
/-- What is known of the world behind a store into block g. -/
structure Kept (w W : World) (g : Nat) : Prop where
  other : ∀ {k T : Nat} {cs : Array Value}, Arr w k T cs → k ≠ g → Arr W k T cs
  fr : ∀ {a : World}, Fr a w → a.heap.size ≤ g → Fr a W
  size : W.heap.size = w.heap.size
theorem wpList_store_at {P : Program} {w : World} {ops : Array Oper} {rest : List Oper} {o : Oper} {a : Act} {Q : Exit → Act → World → Prop} {T n : Nat} (hs : (P.info? T).map (·.size) = some n) (hgd : o.guard = none) (x y : Operand) (ho : o.op = .store T x y)
    (g off : Nat) (hx : a.eval x = .pointer (some ⟨g, off, none⟩)) {ds : List Value} (hv : (a.eval y).cells.toList = ds) (hl : ds.length = n) (h1 : One ds)
    {T' : Nat} {cs : List Value} (ha : Arr w g T' cs.toArray) (hf : off + n ≤ cs.length) {cs' : List Value} (hc : splice cs off ds = cs')
    (h : ∀ W, Arr W g T' cs'.toArray → Kept w W g → wpList P ops Q rest (a.put o.dst undef) W) : wpList P ops Q (o :: rest) a w :=
  wpList_plain hgd fun K hK => by
    unfold Oper.wp execOp
    simp only [ho, hx, Instr.storeAt, Instr.sureAddr, Sem.run_bind, Sem.run_pure, Result.andThen_ok, run_store_at hs hv hl h1 ha hf, hc]
    refine hK _ _ (h _ (ha.setRow _) ⟨fun hk hne => hk.setRowOther _ hne, fun hf hg => fr_setRow hf hg _, ?_⟩)
    simp [World.setRow]
theorem splice_all (cs ds : List Value) (h : cs.length ≤ ds.length) : splice cs 0 ds = ds := by
  simp [splice, List.drop_eq_nil_of_le h]
theorem one_of (v : Value) (h : v.oneCell' = true) : One [v] := .cons h .nil
/-! Stores in regions that draw their order: hidden from the walk ('attribute [local go_sem ↓]' of the equation for the type's number), run by a rule of the context. -/
def stS (T : TypeId) (p v : Value) : Sem Unit := Instr.storeAt T p v
/-- Block g has n cells, none of them frozen. -/
def OwnB (w : World) (g T n : Nat) : Prop := ∃ cs : List Value, Arr w g T cs.toArray ∧ cs.length = n
section
variable {w : World} {g T n : Nat}
theorem Arr.drew {cs : Array Value} (h : Arr w g T cs) : Arr w.drew g T cs := h
theorem OwnB.of {cs : List Value} (h : Arr w g T cs.toArray) (hl : cs.length = n) : OwnB w g T n := ⟨cs, h, hl⟩
theorem OwnB.new {cs : Array Value} (hg : g = w.heap.size) (hl : cs.size = n) : OwnB (w.alloc (.cells cs T)) g T n := ⟨cs.toList, by subst hg; exact Arr.new w cs T, by simpa using hl⟩
theorem OwnB.alloc (h : OwnB w g T n) (o : Obj) : OwnB (w.alloc o) g T n := by
  obtain ⟨cs, h, hl⟩ := h
  exact ⟨cs, h.alloc o, hl⟩
theorem OwnB.drew (h : OwnB w g T n) : OwnB w.drew g T n := h
theorem OwnB.setRow {k : Nat} {ds : Array Value} (h : OwnB w g T n) (hl : ds.size = n) : OwnB (w.setRow k ds) g T n := by
  obtain ⟨cs, h, hc⟩ := h
  by_cases hk : g = k
  · subst hk
    exact ⟨ds.toList, h.setRow ds, by simpa using hl⟩
  · exact ⟨cs, h.setRowOther ds hk, hc⟩
end
end Go.Proofs.YtmoaddbpfekdbaaGreat
/- Blocks of the call's own in worlds written out: rules for the walk. No program text. -/
namespace Go.Proofs.YtmoaddbpfekdbaaGreat
set_option maxRecDepth 100000
open Go.RowKit
set_option linter.unusedVariables false
section
variable {w : World} {g T n : Nat}
theorem OwnB.below {w' : World} (h : OwnB w g T n) (hb : Below w.heap.size w w') : OwnB w' g T n := by
  obtain ⟨cs, h, hl⟩ := h
  exact ⟨cs, h.below hb h.lt, hl⟩
theorem OwnB.put (h : OwnB w g T n) (ds : Array Value) : Arr (w.setRow g ds) g T ds := by
  obtain ⟨cs, h, _⟩ := h
  exact h.setRow ds
end
end Go.Proofs.YtmoaddbpfekdbaaGreat
/- Rows of structs that lie in memory: their elements' loads, parts, cells, as rules from one world on; 'append' of one. No program text. -/
namespace Go.Proofs.YtmoaddbpfekdbaaGreat
set_option maxRecDepth 100000
open Go.RowKit
set_option linter.unusedVariables false
section
variable {P : Program} {T n : Nat} {α : Type} {c : α → List Value} {l : List α} {w : World} {b off i : Nat} {a : α}
theorem row_elem (hr : w.rangeAt b off (rows c l)) (hw : Wid c n l) (ha : l[i]? = some a) : w.rangeAt b (off + i * n) (c a) := fun t v ht => by
  have hl : (c a).length = n := hw a (by obtain ⟨_, e⟩ := List.getElem?_eq_some_iff.1 ha; rw [← e]; exact List.getElem_mem _)
  have h9 : t < n := by rw [← hl]; exact (List.getElem?_eq_some_iff.1 ht).1
  rw [Nat.add_assoc]
  exact hr (i * n + t) v (by rw [rows_get hw ha t h9]; exact ht)
theorem elem_len (hw : Wid c n l) (ha : l[i]? = some a) : (c a).length = n := hw a (by obtain ⟨_, e⟩ := List.getElem?_eq_some_iff.1 ha; rw [← e]; exact List.getElem_mem _)
theorem range_fr {cs : List Value} (hr : w.rangeAt b off cs) (hb : b < w.heap.size) : ∀ W, Fr w W → W.rangeAt b off cs := fun W h => range_below hr h hb
/-- The i-th, whole. -/
theorem elem_ld (S : Sty P T n) (hr : w.rangeAt b off (rows c l)) (hw : Wid c n l) (hb : b < w.heap.size) (ha : l[i]? = some a) :
    ∀ W, Fr w W → (ldS T (.pointer (some ⟨b, off + i * n, none⟩))).run P W = .ok (.agg (c a).toArray) W := fun W h => S.ldMid (elem_len hw ha) (range_fr (row_elem hr hw ha) hb W h)
/-- A part of the i-th that is a struct. -/
theorem elem_part {T' n' o : Nat} {ds : List Value} (S' : Sty P T' n') (hr : w.rangeAt b off (rows c l)) (hw : Wid c n l) (hb : b < w.heap.size) (ha : l[i]? = some a) (hd : ((c a).drop o).take n' = ds) (hl : ds.length = n') :
    ∀ W, Fr w W → (ldS T' (.pointer (some ⟨b, off + i * n + o, none⟩))).run P W = .ok (.agg ds.toArray) W := fun W h =>
  S'.ldMid hl (range_part (range_fr (row_elem hr hw ha) hb W h) (by rw [hl]; exact hd))
/-- A cell of the i-th; its first one. -/
theorem elem_cell {o : Nat} {u : Value} (hr : w.rangeAt b off (rows c l)) (hw : Wid c n l) (hb : b < w.heap.size) (ha : l[i]? = some a) (hu : (c a)[o]? = some u) :
    ∀ W, Fr w W → W.cell? ⟨b, off + i * n + o, none⟩ = some u := fun W h => range_fr (row_elem hr hw ha) hb W h o u hu
theorem elem_cell0 {u : Value} (hr : w.rangeAt b off (rows c l)) (hw : Wid c n l) (hb : b < w.heap.size) (ha : l[i]? = some a) (hu : (c a)[0]? = some u) :
    ∀ W, Fr w W → W.cell? ⟨b, off + i * n, none⟩ = some u := fun W h => range_fr (row_elem hr hw ha) hb W h 0 u hu
/-- Where there is something, the address written out. -/
theorem has_rows {B : Nat} {A : Option Addr} (h : Has w B A (rows c l)) (hw : Wid c n l) (hn : 0 < n) (hl : l ≠ []) : ∃ b off, A = some ⟨b, off, none⟩ ∧ b < B ∧ w.rangeAt b off (rows c l) := by
  have hne : rows c l ≠ [] := by
    intro e
    have h1 := rows_len hw
    rw [e] at h1
    have : 0 < l.length * n := Nat.mul_pos (List.length_pos_iff.2 hl) hn
    simp at h1
    omega
  obtain ⟨b, off, e, hb, hc⟩ := h.form hne
  exact ⟨b, off, e, hb, hc⟩
/-- A new block of one, as the source of an append. -/
theorem has_new (w : World) (cs : List Value) (t : Nat) : Has (w.alloc (.cells cs.toArray t)) (w.heap.size + 1) (some ⟨w.heap.size, 0, none⟩) cs := fun j u hu => by
  refine ⟨w.heap.size, 0, rfl, by omega, ?_⟩
  rw [(Arr.new w cs.toArray t).cell, Nat.zero_add]
  simpa using hu
end
/-- What is known of an element type: its size, its zero value. -/
structure Elem (P : Program) (e size bytes : Nat) : Prop where
  row : ∃ i z, P.info? e = some i ∧ i.zero = some z ∧ i.size = size ∧ i.bytes = bytes ∧ z.cells.size = size
theorem Elem.of {P : Program} {e size bytes : Nat} {z : Value} (e1 : (P.info? e).bind (·.zero) = some z) (e2 : (P.info? e).map (·.size) = some size) (e3 : (P.info? e).map (·.bytes) = some bytes) (hz : z.cells.size = size) : Elem P e size bytes := by
  cases h : P.info? e with
  | none => rw [h] at e2; cases e2
  | some i =>
    rw [h] at e1 e2 e3
    exact ⟨i, z, h, by simpa using e1, by simpa using e2, by simpa using e3, hz⟩
section
variable {P : Program} {w : World} {t e size bytes B : Nat}
end
end Go.Proofs.YtmoaddbpfekdbaaGreat
/- Rows of the call's own: their beginnings, their room, copies into them, what 'clear' and a store leave. No program text. -/
namespace Go.Proofs.YtmoaddbpfekdbaaGreat
set_option maxRecDepth 100000
open Go.RowKit
set_option linter.unusedVariables false
section
variable {w : World} {B e size n c : Nat} {A : Option Addr} {xs : List Value}
theorem Own.row {g o : Nat} (h : Own w B e size (some ⟨g, o, none⟩) n c xs) : o = 0 ∧ B ≤ g ∧ n ≤ c ∧ c ≤ maxLen ∧ ∃ cur, Arr w g e cur ∧ cur.size = c * size ∧ cur.toList.take (n * size) = xs := by
  rcases h.2 with ⟨hv, _⟩ | ⟨g', cap, cur, hv, hb, hg, h1, h2, h3, h4⟩
  · cases hv
  · injection hv with hA _ hc
    injection hA with hA
    injection hA with e1 e2
    subst e1 e2 hc
    exact ⟨rfl, hb, h1, h2, cur, hg, h3, h4⟩
theorem Own.of_row {g : Nat} {cur : Array Value} (ha : Arr w g e cur) (hb : B ≤ g) (hn : n ≤ c) (hc : c ≤ maxLen) (hs : cur.size = c * size) (hx : cur.toList.take (n * size) = xs) : Own w B e size (some ⟨g, 0, none⟩) n c xs := by
  have hle : n * size ≤ c * size := Nat.mul_le_mul_right _ hn
  refine ⟨?_, .inr ⟨g, c, cur, rfl, hb, ha, hn, hc, hs, hx⟩⟩
  rw [← hx, List.length_take, Array.length_toList, hs]
  omega
theorem Own.addr (h : Own w B e size A n c xs) (hn : 0 < n) : ∃ g, A = some ⟨g, 0, none⟩ := by
  rcases h.2 with ⟨_, h0⟩ | ⟨g, cap, cur, hv, _⟩
  · omega
  · injection hv with hA
    exact ⟨g, hA⟩
/-- A row's beginning. -/
theorem Own.pre (h : Own w B e size A n c xs) {i : Nat} (hi : i ≤ n) : Own w B e size A i c (xs.take (i * size)) := by
  have hle : i * size ≤ n * size := Nat.mul_le_mul_right _ hi
  rcases h.2 with ⟨hv, hn⟩ | ⟨g, cap, cur, hv, hb, hg, h1, h2, h3, h4⟩
  · subst hn
    obtain rfl : i = 0 := by omega
    have : xs = [] := List.eq_nil_of_length_eq_zero (by simpa using h.len)
    subst this
    simpa using h
  · injection hv with hA _ hc
    subst hA hc
    exact Own.of_row (n := i) hg hb (by omega) h2 h3 (by rw [← h4, List.take_take, Nat.min_eq_left hle])
/-- A row, with some of its room. -/
theorem Own.more {g : Nat} (h : Own w B e size (some ⟨g, 0, none⟩) n c xs) {m : Nat} (hm : n ≤ m) (hc : m ≤ c) : ∃ ys, Own w B e size (some ⟨g, 0, none⟩) m c (xs ++ ys) ∧ ys.length = (m - n) * size := by
  obtain ⟨_, hb, h1, h2, cur, hg, h3, h4⟩ := h.row
  have e1 : m * size = n * size + (m - n) * size := by rw [← Nat.add_mul]; congr 1; omega
  have e2 : m * size ≤ c * size := Nat.mul_le_mul_right _ hc
  refine ⟨(cur.toList.drop (n * size)).take ((m - n) * size), Own.of_row hg hb hc h2 h3 ?_, ?_⟩
  · rw [← h4, e1, List.take_add]
  · rw [List.length_take, List.length_drop, Array.length_toList, h3]
    omega
end
section
variable {P : Program} (w : World) {B e size n c : Nat} {xs : List Value}
theorem arr_has {T : Nat} {cs : List Value} {V : Nat} (h : Arr w V T cs.toArray) : Has w (V + 1) (some ⟨V, 0, none⟩) cs := fun j u hu => by
  refine ⟨V, 0, rfl, by omega, ?_⟩
  rw [Nat.zero_add, h.cell]
  simpa using hu
end
end Go.Proofs.YtmoaddbpfekdbaaGreat
/- An element of a row of the call's own, stored. No program text. -/
namespace Go.Proofs.YtmoaddbpfekdbaaGreat
set_option maxRecDepth 100000
open Go.RowKit
set_option linter.unusedVariables false
end Go.Proofs.YtmoaddbpfekdbaaGreat
/- What the functions of layer 5 come to, two: 'Bytes'. -/
namespace Go.Proofs.YtmoaddbpfekdbaaGreat
set_option maxRecDepth 100000
open Go.RowKit
set_option linter.unusedVariables false
attribute [local go_sem ↓] val_ld key_ld msg_ld
theorem okM_parts {m : RM} (h : okM m = true) : (m.kind = 1 ∨ m.kind = 2 ∨ m.kind = 3) ∧ okB m.key = true ∧ (m.kind = 1 → m.inc = 0 ∧ okV m.val = true) ∧ (m.kind = 2 → m.inc = 0) ∧ (m.kind ≠ 1 → m.val = zeroV) := by
  unfold okM at h
  split at h
  · rename_i e
    simp only [Bool.and_eq_true, decide_eq_true_iff] at h
    exact ⟨.inl e, h.2.1, fun _ => ⟨h.1, h.2.2⟩, fun k => by omega, fun k => absurd e k⟩
  · split at h
    · rename_i e
      simp only [Bool.and_eq_true, decide_eq_true_iff] at h
      exact ⟨.inr (.inl e), h.2.1, fun k => by omega, fun _ => h.1, fun _ => h.2.2⟩
    · split at h
      · rename_i e
        simp only [Bool.and_eq_true, decide_eq_true_iff] at h
        exact ⟨.inr (.inr e), h.1, fun k => by omega, fun k => by omega, fun _ => h.2⟩
      · cases h
/-- The bytes of a message. -/
def bytM (m : RM) : Int := if okM m = true then (if m.kind = 1 then 11 + m.key.n + m.val.n else if m.kind = 3 then 18 + m.key.n else 10 + m.key.n) else 0
end Go.Proofs.YtmoaddbpfekdbaaGreat
/- What the functions of layer 5 come to, three: 'Compose' of the program. -/
namespace Go.Proofs.YtmoaddbpfekdbaaGreat
set_option maxRecDepth 100000
open Go.RowKit
set_option linter.unusedVariables false
attribute [local go_sem ↓] val_ld key_ld msg_ld
/-- The message that does what a and then b do. -/
def compM (a b : RM) : RM :=
  if b.kind ≠ 3 ∨ a.key ≠ b.key then b
  else if a.kind = 1 then { b with kind := 1, val := plusV a.val b.inc, inc := 0 }
  else if a.kind = 2 then { b with kind := 1, val := fromV b.inc, inc := 0 }
  else { b with inc := IntKind.u64.wrap (a.inc + b.inc) }
end Go.Proofs.YtmoaddbpfekdbaaGreat
/- What the functions of layer 5 come to, four: 'Compose' of the document, 'Apply' of both. -/
namespace Go.Proofs.YtmoaddbpfekdbaaGreat
set_option maxRecDepth 100000
open Go.RowKit
set_option linter.unusedVariables false
attribute [local go_sem ↓] val_ld key_ld msg_ld
theorem rfrom_at' {W0 W : World} {n : Int} (hn : Us64 n) (hb : Fr W0 W) : Calls Tryz.prog 100 #[.int .u64 n] W fun e w' => e = .returned (vv (fromV n)) ∧ Fr W0 w' := rfrom_at hn.1 hn.2 hb
end Go.Proofs.YtmoaddbpfekdbaaGreat
/- What the functions of layer 5 come to, five: 'Apply' of both. -/
namespace Go.Proofs.YtmoaddbpfekdbaaGreat
set_option maxRecDepth 100000
open Go.RowKit
set_option linter.unusedVariables false
attribute [local go_sem ↓] val_ld key_ld msg_ld
/-- What a message makes of a value, or of none. -/
def appV (v : RV) (there : Bool) (m : RM) : RV := if m.kind = 1 then m.val else if m.kind = 2 then zeroV else if there = true then plusV v m.inc else fromV m.inc
def appB (m : RM) : Bool := decide (m.kind ≠ 2)
/-- A value and a message that were boxed, and a third block. -/
theorem app_boxed (w : World) (v : RV) (m : RM) (hm : m.val.bs.length = 16) : ∃ Z, ((w.alloc (.cells (vc v).toArray 115)).alloc (.cells (mc m).toArray 123)).alloc (.cells #[.int .i64 0, .int .u8 0, .int .u8 0, .int .u8 0, .int .u8 0, .int .u8 0, .int .u8 0, .int .u8 0, .int .u8 0, .int .u8 0, .int .u8 0, .int .u8 0, .int .u8 0, .int .u8 0, .int .u8 0, .int .u8 0, .int .u8 0] 115) = Z ∧ Fr w Z ∧ Fr Z Z ∧
    Arr Z w.heap.size 115 (vc v).toArray ∧ Arr Z (w.heap.size + 1) 123 (mc m).toArray ∧ Arr Z (w.heap.size + 1 + 1) 115 (vc zeroV).toArray ∧ Z.heap.size = w.heap.size + 1 + 1 + 1 := by
  refine ⟨_, rfl, fr_new (fr_new (fr_new (fr_refl w) _) _) _, fr_refl _, Arr.alloc (Arr.alloc (Arr.new w _ _) _) _, Arr.alloc (arr_at _ _ _ _ (by simp)) _, arr_at _ _ _ _ (by simp), by simp⟩
set_option maxRecDepth 100000 in
set_option maxHeartbeats 4000000 in
theorem ref_apply (v : RV) (there : Bool) (m : RM) (wv : v.wf) (ov : there = true → okV v = true) (wm : m.wf) (om : okM m = true) (w : World) : Calls Tryz.prog 91 #[vv v, .bool there, mm m] w fun e w' => e = .returned (.tuple #[vv (appV v there m), .bool (appB m)]) ∧ Fr w w' := by
  obtain ⟨Z, hZ, hF, hZZ, hV, hM, hO, hS⟩ := app_boxed w v m wm.val.hl
  have m0 := cellZ hM 0 (mc_0 m)
  have m28 := cellZ hM 28 (mc_28 wm.val.hl)
  have lmV := msg_valAt hM wm.val.hl
  have lv := ld_fr hV (vc_len wv.hl)
  have him := wm.hi
  have HlM := keep wm.val.hl
  have HlV := keep wv.hl
  obtain ⟨km, -, -, -, -⟩ := okM_parts om
  unfold appV appB
  rcases km with km | km | km
  · rw [if_pos km, show decide (m.kind ≠ 2) = true by simp; omega]
    rw [km] at m0
    clear km wm om wv ov him
    go_enter Tryz.func91, Tryz.ntmps91
    go_wp2_with (first
      | (refine wpList_store_at (ds := vc m.val) val_info rfl (.tmp 6) (.tmp 13) rfl (w.heap.size + 1 + 1) 0 rfl rfl (vc_len HlM.out) (vc_one _) hO (by decide) (splice_all _ _ (by rw [vc_len HlM.out]; decide)) ?_; intro W5 hO5 hk5; have hF5 := hk5.fr hF (by omega); clear hk5)
      | fail)
    exact bodyPost_ret (valS.result2 rfl _ (w.heap.size + 1 + 1) rfl (vc_len HlM.out) hO5) rfl ⟨rfl, hF5⟩
  · rw [if_neg (by omega), if_pos km, show decide (m.kind ≠ 2) = false by simp; omega]
    rw [km] at m0
    clear km wm om wv ov him
    go_enter Tryz.func91, Tryz.ntmps91
    go_wp2_with (first
      | (refine wpList_store_at (ds := vc zeroV) val_info rfl (.tmp 6) (.tmp 16) rfl (w.heap.size + 1 + 1) 0 rfl rfl rfl (vc_one _) hO (by decide) (splice_all _ _ (by decide)) ?_; intro W5 hO5 hk5; have hF5 := hk5.fr hF (by omega); clear hk5)
      | fail)
    exact bodyPost_ret (valS.result2 rfl _ (w.heap.size + 1 + 1) rfl rfl hO5) rfl ⟨rfl, hF5⟩
  · rw [if_neg (by omega), if_neg (by omega), show decide (m.kind ≠ 2) = true by simp; omega]
    rw [km] at m0
    cases there
    · rw [if_neg (by decide)]
      have cP := fun W0 W h => rfrom_at' (W0 := W0) (W := W) him h
      have Hr := keep (fromV_wf m.inc).hl
      generalize fromV m.inc = r at *
      clear km wm om wv ov him
      go_enter Tryz.func91, Tryz.ntmps91
      go_wp2_with (first
        | (go_at_call 100; refine (cP Z _ (by assumption)).mono ?_; rintro e w2 ⟨rfl, hz2⟩; have hO2 := hO.below hz2 hO.lt; have hF2 := fr_step hF hz2; clear hV hM hO hF m28 lv cP)
        | (refine wpList_store_at (ds := vc r) val_info rfl (.tmp 6) (.tmp 21) rfl (w.heap.size + 1 + 1) 0 rfl rfl (vc_len Hr.out) (vc_one _) hO2 (by decide) (splice_all _ _ (by rw [vc_len Hr.out]; decide)) ?_; intro W5 hO5 hk5; have hF5 := hk5.fr hF2 (by omega); clear hk5)
        | fail)
      exact bodyPost_ret (valS.result2 rfl _ (w.heap.size + 1 + 1) rfl (vc_len Hr.out) hO5) rfl ⟨rfl, hF5⟩
    · rw [if_pos rfl]
      have cP := fun W0 W h => rplus_at (W0 := W0) (W := W) wv m.inc h
      have Hr := keep (show (plusV v m.inc).bs.length = 16 from (fromV_wf _).hl)
      generalize plusV v m.inc = r at *
      clear km wm om wv ov him
      go_enter Tryz.func91, Tryz.ntmps91
      go_wp2_with (first
        | (go_at_call 101; refine (cP Z _ (by assumption)).mono ?_; rintro e w2 ⟨rfl, hz2⟩; have hO2 := hO.below hz2 hO.lt; have hF2 := fr_step hF hz2; clear hV hM hO hF m28 lv cP)
        | (refine wpList_store_at (ds := vc r) val_info rfl (.tmp 6) (.tmp 25) rfl (w.heap.size + 1 + 1) 0 rfl rfl (vc_len Hr.out) (vc_one _) hO2 (by decide) (splice_all _ _ (by rw [vc_len Hr.out]; decide)) ?_; intro W5 hO5 hk5; have hF5 := hk5.fr hF2 (by omega); clear hk5)
        | fail)
      exact bodyPost_ret (valS.result2 rfl _ (w.heap.size + 1 + 1) rfl (vc_len Hr.out) hO5) rfl ⟨rfl, hF5⟩
end Go.Proofs.YtmoaddbpfekdbaaGreat
