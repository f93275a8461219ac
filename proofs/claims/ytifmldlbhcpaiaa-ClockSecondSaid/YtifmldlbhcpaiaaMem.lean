/- Slices that are read, slices that a call has made: words of my own for both, how they last, and 'append' onto the latter. No program text. -/
import Derived.WalkKit
import Derived.Maps.AppendAt
namespace Go.Proofs.Ytifmldlbhcpaiaa
set_option linter.unusedVariables false
set_option linter.unusedSimpArgs false
open Go.RowKit

/-- The slice at A has the cells xs, in blocks below B. -/
def Has (w : World) (B : Nat) (A : Option Addr) (xs : List Value) : Prop :=
  ∀ j u, xs[j]? = some u → ∃ b off, A = some ⟨b, off, none⟩ ∧ b < B ∧ w.cell? ⟨b, off + j, none⟩ = some u

section
variable {w w' : World} {B B' : Nat} {A : Option Addr} {xs : List Value}
theorem Has.nil : Has w B A [] := fun j u h => by simp at h
theorem Has.lift (h : Has w B A xs) (hc : ∀ p : Addr, p.block < B → w'.cell? p = w.cell? p) : Has w' B A xs := fun j u hu => by
  obtain ⟨b, off, e, hb, hx⟩ := h j u hu
  exact ⟨b, off, e, hb, (hc _ hb).trans hx⟩
theorem Has.below (h : Has w B A xs) (hb : Below B w w') : Has w' B A xs := h.lift fun _ hp => hb.cell hp
theorem Has.mono (h : Has w B A xs) (hB : B ≤ B') : Has w B' A xs := fun j u hu => by
  obtain ⟨b, off, e, hb, hx⟩ := h j u hu
  exact ⟨b, off, e, by omega, hx⟩
/-- Where there is something, the address written out. -/
theorem Has.form (h : Has w B A xs) (hn : xs ≠ []) : ∃ b off, A = some ⟨b, off, none⟩ ∧ b < B ∧ ∀ j u, xs[j]? = some u → w.cell? ⟨b, off + j, none⟩ = some u := by
  cases xs with
  | nil => exact absurd rfl hn
  | cons x l =>
    obtain ⟨b, off, e, hb, _⟩ := h 0 x rfl
    refine ⟨b, off, e, hb, fun j u hu => ?_⟩
    obtain ⟨b', off', e', _, hx⟩ := h j u hu
    rw [e] at e'
    injection e' with e'
    injection e' with e1 e2
    subst e1 e2
    exact hx
end

theorem Has.front {w : World} {B : Nat} {A : Option Addr} {xs ys : List Value} (h : Has w B A (xs ++ ys)) : Has w B A xs := fun j u hu =>
  h j u (by rw [List.getElem?_append_left (List.getElem?_eq_some_iff.1 hu).1]; exact hu)

/-- The block that a slice's address is in. -/
def blk (A : Option Addr) : Option Nat := A.map (·.block)
/-- The slice (A, n, c) is the call's own: a row from block B on that nobody else has, of the cells xs. -/
def Own (w : World) (B e size : Nat) (A : Option Addr) (n c : Nat) (xs : List Value) : Prop := w.ownsRow B e size (.slice A n c) n xs

section
variable {w w' : World} {B B' e size n c : Nat} {A : Option Addr} {xs : List Value}
theorem blk_own (A : Option Addr) (n c : Nat) : (Value.slice A n c).ownBlock = blk A := by cases A <;> rfl
theorem Own.nil (w : World) (B e size : Nat) : Own w B e size none 0 0 [] := World.ownsRow_nil w B e size
theorem Own.len (h : Own w B e size A n c xs) : xs.length = n * size := h.1
theorem Own.lt (h : Own w B e size A n c xs) : ∀ k, blk A = some k → B ≤ k ∧ k < w.heap.size := by
  intro k hk
  exact World.ownsRow.lt h k (by rw [blk_own]; exact hk)
theorem Own.cap (h : Own w B e size A n c xs) : n ≤ c := by
  rcases h.2 with ⟨hv, hn⟩ | ⟨g, cap, cur, hv, _, _, hnc, _⟩
  · omega
  · injection hv with _ _ hc
    omega
theorem Own.has (h : Own w B e size A n c xs) : Has w w.heap.size A xs := by
  intro j u hu
  rcases h.2 with ⟨hv, hn⟩ | ⟨g, cap, cur, hv, hb, hg, _⟩
  · have hl := h.1
    rw [hn, Nat.zero_mul] at hl
    rw [List.eq_nil_of_length_eq_zero hl] at hu
    simp at hu
  · injection hv with hA _ _
    subst hA
    have hc := World.ownsRow.cells h (g := g) rfl j u hu
    refine ⟨g, 0, rfl, (Own.lt h g rfl).2, ?_⟩
    simpa [Addr.add_lit] using hc
theorem Own.lit (w : World) (B e : Nat) (cs : Array Value) (n size : Nat) (hb : B ≤ w.heap.size) (hm : n ≤ maxLen) (hs : cs.size = n * size) :
    Own (w.alloc (.cells cs e)) B e size (some ⟨w.heap.size, 0, none⟩) n n cs.toList := World.ownsRow_lit w cs n hb hm hs
theorem Own.kept {row : Option Nat} (h : Own w B e size A n c xs) (hg : w.grownBy w' row) (hne : blk A = none ∨ blk A ≠ row) : Own w' B e size A n c xs :=
  World.ownsRow.kept h hg (by rw [blk_own]; exact hne)
theorem Own.alloc (h : Own w B e size A n c xs) (o : Obj) : Own (w.alloc o) B e size A n c xs := World.ownsRow.alloc h o
theorem Own.below {C : Nat} (h : Own w B e size A n c xs) (hb : Below C w w') (hC : w.heap.size ≤ C) : Own w' B e size A n c xs :=
  h.kept (row := none) ⟨hb.os, hb.tape, hb.output, hb.size, fun k hk _ => hb.block k (by omega)⟩ (by cases A <;> simp [blk])
theorem Own.mono (h : Own w B e size A n c xs) (hB : B' ≤ B) : Own w B' e size A n c xs := by
  refine ⟨h.1, ?_⟩
  rcases h.2 with hn | ⟨g, cap, cur, hv, hb, r⟩
  · exact .inl hn
  · exact .inr ⟨g, cap, cur, hv, by omega, r⟩
/-- What an append turns, said of all below the call's own blocks. -/
theorem below_grown {a : World} (h : Below B a w) (ho : Own w B' e size A n c xs) (hg : w.grownBy w' (blk A)) (hB : B ≤ w.heap.size) (hB' : B ≤ B') : Below B a w' :=
  h.grown hg hB fun k hk => Nat.le_trans hB' (ho.lt k hk).1
end

section
variable {P : Program} (w : World)
/-- 'append(s, x...)', s the call's own, x whatever slice that has the cells news. -/
theorem run_append_has (B : Nat) (t ty e : TypeId) (i : TypeInfo) (z : Value) (size bytes : Nat) (ht : P.underlying t = some (.slice e)) (hi : P.info? e = some i) (hz : i.zero = some z)
    (hsize : i.size = size) (hby : i.bytes = bytes) (hzs : z.cells.size = size) (hsz : 0 < size)
    (A : Option Addr) (n c : Nat) (xs : List Value) (ho : Own w B e size A n c xs) (C : Nat) (A2 : Option Addr) (m c2 : Nat) (news : List Value) (hl : news.length = m * size) (hn : Has w C A2 news)
    (h1 : ∀ u ∈ news, u.oneCell' = true) (h63 : n + m ≤ maxLen) (hbytes : (n + m) * bytes ≤ 140737488355328) (hB : B ≤ w.heap.size) :
    ∃ A' c' w', (Builtin.append_ #[t, t] ty #[.slice A n c, .slice A2 m c2]).run P w = .ok (.slice A' (n + m) c') w' ∧ Own w' B e size A' (n + m) c' (xs ++ news) ∧ w.grownBy w' (blk A) ∧ (blk A' = blk A ∨ blk A' = some w.heap.size) := by
  rcases Nat.eq_zero_or_pos m with h0 | h0
  · subst h0
    have hnil : news = [] := List.eq_nil_of_length_eq_zero (by simpa using hl)
    subst hnil
    refine ⟨A, c, w, ?_, by simpa [Own] using ho, World.grownBy.refl w _, .inl rfl⟩
    rcases ho.2 with ⟨hv, hn0⟩ | ⟨g, cap, cur, hv, _, hg, hnc, _⟩
    · injection hv with hA hnn hc
      subst hA hnn hc
      cases A2 <;> simp [Builtin.append_, run_underlying ht, sizeOf, typeInfo, hi, Builtin.lenOf, Builtin.firstCells, loadCells, loadCellsFrom]
    · injection hv with hA hnn hc
      subst hA hc
      cases A2 <;> simp [Builtin.append_, run_underlying ht, sizeOf, typeInfo, hi, Builtin.lenOf, Builtin.firstCells, hnc, storeCells, loadCells, loadCellsFrom]
  · have hne : news ≠ [] := by
      intro h
      rw [h] at hl
      have : 0 < m * size := Nat.mul_pos h0 hsz
      simp at hl
      omega
    obtain ⟨b, off, rfl, _, hc⟩ := hn.form hne
    obtain ⟨v', w', hr, h2, h3, _, h5⟩ := run_append_own_at (P := P) w B t ty e i z size bytes ht hi hz hsize hby hzs hsz (.slice A n c) n xs ho ⟨b, off, none⟩ m c2 news hl
      (fun j u hu => by rw [Addr.add_lit]; exact hc j u hu) h1 h63 hbytes hB
    obtain ⟨A', c', rfl⟩ : ∃ A' c', v' = .slice A' (n + m) c' := by
      rcases h2.2 with ⟨hv, h0'⟩ | ⟨g, cap, cur, hv, _⟩
      · exact ⟨none, 0, by rw [hv, h0']⟩
      · exact ⟨_, _, hv⟩
    exact ⟨A', c', w', hr, h2, by rw [blk_own] at h3; exact h3, by simpa only [blk_own] using h5⟩

theorem wpList_append_has {ops : Array Oper} {rest : List Oper} {o : Oper} {a : Act} {Q : Exit → Act → World → Prop} (hgd : o.guard = none) (s x : Operand) (t : TypeId)
    (hop : o.op = .call { callee := .builtin .append, args := #[s, x], argTypes := #[t, t] })
    (B : Nat) (e : TypeId) (i : TypeInfo) (z : Value) (size bytes : Nat) (ht : P.underlying t = some (.slice e)) (hi : P.info? e = some i) (hz : i.zero = some z)
    (hsize : i.size = size) (hby : i.bytes = bytes) (hzs : z.cells.size = size) (hsz : 0 < size)
    (A : Option Addr) (n c : Nat) (xs : List Value) (hs : a.eval s = .slice A n c) (ho : Own w B e size A n c xs)
    (C : Nat) (A2 : Option Addr) (m c2 : Nat) (news : List Value) (hx : a.eval x = .slice A2 m c2) (hl : news.length = m * size) (hn : Has w C A2 news)
    (h1 : ∀ u ∈ news, u.oneCell' = true) (h63 : n + m ≤ maxLen) (hbytes : (n + m) * bytes ≤ 140737488355328) (hB : B ≤ w.heap.size)
    (h : ∀ A' c' w', Own w' B e size A' (n + m) c' (xs ++ news) → w.grownBy w' (blk A) → (blk A' = blk A ∨ blk A' = some w.heap.size) → wpList P ops Q rest (a.put o.dst (.slice A' (n + m) c')) w') :
    wpList P ops Q (o :: rest) a w := by
  refine wpList_plain hgd fun K hK => ?_
  obtain ⟨A', c', w', hr, h2, h3, h4⟩ := run_append_has (P := P) w B t o.type e i z size bytes ht hi hz hsize hby hzs hsz A n c xs ho C A2 m c2 news hl hn h1 h63 hbytes hB
  unfold Oper.wp execOp
  simp only [hop, resolve, invoke, builtin, Sem.run_bind, Sem.run_pure, Result.andThen_ok, List.map_toArray, List.map_cons, List.map_nil, hs, hx, hr]
  exact hK _ _ (h A' c' w' h2 h3 h4)
end

/-- One new cell, as the source of an append. -/
theorem has_one (w : World) (x : Value) (t : TypeId) : Has (w.alloc (.cells #[x] t)) (w.heap.size + 1) (some ⟨w.heap.size, 0, none⟩) [x] := by
  intro j u hu
  match j, hu with
  | 0, hu =>
    simp at hu
    subst hu
    exact ⟨_, _, rfl, by omega, by simp⟩
theorem one_cell (k : IntKind) (z : Int) : ∀ u ∈ [Value.int k z], u.oneCell' = true := by
  intro u hu
  simp at hu
  subst hu
  rfl

theorem Has.take {w : World} {B : Nat} {A : Option Addr} {xs : List Value} (h : Has w B A xs) (k : Nat) : Has w B A (xs.take k) := by
  have : xs = xs.take k ++ xs.drop k := (List.take_append_drop k xs).symm
  rw [this] at h
  exact h.front
theorem Has.drop {w : World} {B b off : Nat} {xs : List Value} (h : Has w B (some ⟨b, off, none⟩) xs) (k : Nat) : Has w B (some ⟨b, off + k, none⟩) (xs.drop k) := fun j u hu => by
  rw [List.getElem?_drop] at hu
  obtain ⟨b', off', e, hb, hx⟩ := h (k + j) u hu
  injection e with e
  injection e with e1 e2
  subst e1 e2
  exact ⟨_, _, rfl, hb, by rw [Nat.add_assoc]; exact hx⟩
theorem Has.none_nil {w : World} {B : Nat} {xs : List Value} (h : Has w B none xs) : xs = [] := by
  cases xs with
  | nil => rfl
  | cons x l =>
    obtain ⟨b, off, e, _⟩ := h 0 x rfl
    cases e

/-- A cell of a row of one-cell elements that is the call's own: where it is, what it holds, and the row behind a store. -/
theorem own_store {w : World} {B e n c j : Nat} {A : Option Addr} {xs : List Value} (ho : Own w B e 1 A n c xs) (hj : j < n) :
    ∃ g x, A = some ⟨g, 0, none⟩ ∧ B ≤ g ∧ g < w.heap.size ∧ xs[j]? = some x ∧ w.cell? ⟨g, j, none⟩ = some x ∧ w.frozen? ⟨g, j, none⟩ = false ∧ ∀ v, Own (w.setCell ⟨g, j, none⟩ v) B e 1 (some ⟨g, 0, none⟩) n c (xs.set j v) := by
  have hl : xs.length = n := by simpa using ho.len
  obtain ⟨x, hx⟩ : ∃ x, xs[j]? = some x := ⟨xs[j]'(by omega), by simp⟩
  obtain ⟨b, off, e1, hb, hc⟩ := ho.has j x hx
  rcases ho.2 with ⟨_, h⟩ | ⟨g, cap, cur, hv, hbg, hh, _⟩
  · omega
  · injection hv with hA _ hc'
    subst hA hc'
    injection e1 with e1
    injection e1 with e2 e3
    subst e2 e3
    exact ⟨g, x, rfl, hbg, hb, hx, by simpa using hc, World.ownsRow.frozenAt ho j, fun v => by unfold Own; exact (World.ownsRow.stored ho j v).1⟩
end Go.Proofs.Ytifmldlbhcpaiaa
