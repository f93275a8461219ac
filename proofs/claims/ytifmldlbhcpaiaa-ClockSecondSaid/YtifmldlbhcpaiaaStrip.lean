/- Rows of structs that lie in memory: their elements' loads, parts, cells, as rules from one world on; 'append' of one. No program text. -/
import Derived.Test.YtifmldlbhcpaiaaCell
namespace Go.Proofs.Ytifmldlbhcpaiaa
set_option linter.unusedVariables false
set_option linter.unusedSimpArgs false
open Go.RowKit
section
variable {P : Program} {T n : Nat} {α : Type} {c : α → List Value} {l : List α} {w : World} {b off i : Nat} {a : α}
theorem row_elem (hr : w.rangeAt b off (rows c l)) (hw : Wid c n l) (ha : l[i]? = some a) : w.rangeAt b (off + i * n) (c a) := fun t v ht => by
  have hl : (c a).length = n := hw a (by obtain ⟨_, e⟩ := List.getElem?_eq_some_iff.1 ha; rw [← e]; exact List.getElem_mem _)
  have h9 : t < n := by rw [← hl]; exact (List.getElem?_eq_some_iff.1 ht).1
  rw [Nat.add_assoc]
  exact hr (i * n + t) v (by rw [rows_get hw ha t h9]; exact ht)
theorem elem_len (hw : Wid c n l) (ha : l[i]? = some a) : (c a).length = n := hw a (by obtain ⟨_, e⟩ := List.getElem?_eq_some_iff.1 ha; rw [← e]; exact List.getElem_mem _)
theorem range_fr {cs : List Value} (hr : w.rangeAt b off cs) (hb : b < w.heap.size) : ∀ W, Fr w W → W.rangeAt b off cs := fun W h => range_below hr h hb
/-- The i-th, whole. -/
theorem elem_ld (S : Sty P T n) (hr : w.rangeAt b off (rows c l)) (hw : Wid c n l) (hb : b < w.heap.size) (ha : l[i]? = some a) :
    ∀ W, Fr w W → (ldS T (.pointer (some ⟨b, off + i * n, none⟩))).run P W = .ok (.agg (c a).toArray) W := fun W h => S.ldMid (elem_len hw ha) (range_fr (row_elem hr hw ha) hb W h)
/-- A part of the i-th that is a struct. -/
theorem elem_part {T' n' o : Nat} {ds : List Value} (S' : Sty P T' n') (hr : w.rangeAt b off (rows c l)) (hw : Wid c n l) (hb : b < w.heap.size) (ha : l[i]? = some a) (hd : ((c a).drop o).take n' = ds) (hl : ds.length = n') :
    ∀ W, Fr w W → (ldS T' (.pointer (some ⟨b, off + i * n + o, none⟩))).run P W = .ok (.agg ds.toArray) W := fun W h =>
  S'.ldMid hl (range_part (range_fr (row_elem hr hw ha) hb W h) (by rw [hl]; exact hd))
/-- A cell of the i-th; its first one. -/
theorem elem_cell {o : Nat} {u : Value} (hr : w.rangeAt b off (rows c l)) (hw : Wid c n l) (hb : b < w.heap.size) (ha : l[i]? = some a) (hu : (c a)[o]? = some u) :
    ∀ W, Fr w W → W.cell? ⟨b, off + i * n + o, none⟩ = some u := fun W h => range_fr (row_elem hr hw ha) hb W h o u hu
theorem elem_cell0 {u : Value} (hr : w.rangeAt b off (rows c l)) (hw : Wid c n l) (hb : b < w.heap.size) (ha : l[i]? = some a) (hu : (c a)[0]? = some u) :
    ∀ W, Fr w W → W.cell? ⟨b, off + i * n, none⟩ = some u := fun W h => range_fr (row_elem hr hw ha) hb W h 0 u hu
/-- Where there is something, the address written out. -/
theorem has_rows {B : Nat} {A : Option Addr} (h : Has w B A (rows c l)) (hw : Wid c n l) (hn : 0 < n) (hl : l ≠ []) : ∃ b off, A = some ⟨b, off, none⟩ ∧ b < B ∧ w.rangeAt b off (rows c l) := by
  have hne : rows c l ≠ [] := by
    intro e
    have h1 := rows_len hw
    rw [e] at h1
    have : 0 < l.length * n := Nat.mul_pos (List.length_pos_iff.2 hl) hn
    simp at h1
    omega
  obtain ⟨b, off, e, hb, hc⟩ := h.form hne
  exact ⟨b, off, e, hb, hc⟩
theorem has_rows_take {B : Nat} {A : Option Addr} (h : Has w B A (rows c l)) (hw : Wid c n l) (m : Nat) : Has w B A (rows c (l.take m)) := by
  rw [rows_take hw]; exact h.take _
theorem has_rows_drop {B b off : Nat} (h : Has w B (some ⟨b, off, none⟩) (rows c l)) (hw : Wid c n l) (m : Nat) : Has w B (some ⟨b, off + m * n, none⟩) (rows c (l.drop m)) := by
  rw [rows_drop hw]; exact h.drop _
/-- A new block of one, as the source of an append. -/
theorem has_new (w : World) (cs : List Value) (t : Nat) : Has (w.alloc (.cells cs.toArray t)) (w.heap.size + 1) (some ⟨w.heap.size, 0, none⟩) cs := fun j u hu => by
  refine ⟨w.heap.size, 0, rfl, by omega, ?_⟩
  rw [(Arr.new w cs.toArray t).cell, Nat.zero_add]
  simpa using hu
end
/-- What is known of an element type: its size, its zero value. -/
structure Elem (P : Program) (e size bytes : Nat) : Prop where
  row : ∃ i z, P.info? e = some i ∧ i.zero = some z ∧ i.size = size ∧ i.bytes = bytes ∧ z.cells.size = size
theorem Elem.of {P : Program} {e size bytes : Nat} {z : Value} (e1 : (P.info? e).bind (·.zero) = some z) (e2 : (P.info? e).map (·.size) = some size) (e3 : (P.info? e).map (·.bytes) = some bytes) (hz : z.cells.size = size) : Elem P e size bytes := by
  cases h : P.info? e with
  | none => rw [h] at e2; cases e2
  | some i =>
    rw [h] at e1 e2 e3
    exact ⟨i, z, h, by simpa using e1, by simpa using e2, by simpa using e3, hz⟩
section
variable {P : Program} {w : World} {t e size bytes B : Nat}
/-- 'append(s, x...)' of rows of structs, s the call's own. -/
theorem wpList_append_rows {α : Type} {c : α → List Value} {ops : Array Oper} {rest : List Oper} {o : Oper} {a : Act} {Q : Exit → Act → World → Prop} (E : Elem P e size bytes) (ht : P.underlying t = some (.slice e)) (hsz : 0 < size) (hgd : o.guard = none) (s x : Operand)
    (hop : o.op = .call { callee := .builtin .append, args := #[s, x], argTypes := #[t, t] })
    (A : Option Addr) (n c1 : Nat) (xs : List α) (hs : a.eval s = .slice A n c1) (ho : Own w B e size A n c1 (rows c xs))
    (C : Nat) (A2 : Option Addr) (m c2 : Nat) (news : List α) (hx : a.eval x = .slice A2 m c2) (hl : (rows c news).length = m * size) (hn : Has w C A2 (rows c news)) (h1 : One (rows c news))
    (h63 : n + m ≤ maxLen) (hbytes : (n + m) * bytes ≤ 140737488355328) (hB : B ≤ w.heap.size)
    (h : ∀ A' c' w', Own w' B e size A' (n + m) c' (rows c (xs ++ news)) → w.grownBy w' (blk A) → (blk A' = blk A ∨ blk A' = some w.heap.size) → wpList P ops Q rest (a.put o.dst (.slice A' (n + m) c')) w') :
    wpList P ops Q (o :: rest) a w := by
  obtain ⟨i, z, hi, hz, hsize, hby, hzs⟩ := E.row
  refine wpList_append_has w hgd s x t hop B e i z size bytes ht hi hz hsize hby hzs hsz A n c1 (rows c xs) hs ho C A2 m c2 (rows c news) hx hl hn h1 h63 hbytes hB ?_
  intro A' c' w' h1 h2 h3
  rw [← rows_append] at h1
  exact h A' c' w' h1 h2 h3
end
end Go.Proofs.Ytifmldlbhcpaiaa
