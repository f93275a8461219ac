/- Small words that every text here uses. No program text. -/
import Derived.WalkKit
import Derived.Handy
import Derived.Maps.AppendAt
import Derived.Laws.Rows
import Derived.Laws.CopyRow
import Derived.Deep.MidRow
import Derived.Laws.CopyOwn
namespace Go.Proofs.YtmoaddbpfekdbaaGreat
set_option maxRecDepth 100000
open Go.RowKit
set_option linter.unusedVariables false

/-- A fact kept from the walk. -/
theorem keep {p : Prop} (h : p) : Hid p := h
theorem ret_int {k : IntKind} {a b : Int} (h : a = b) : Ending.returned (.int k a) = .returned (.int k b) := by rw [h]
/-- A block of cells of the call's own: an array. -/
def Arr (w : World) (g T : Nat) (cs : Array Value) : Prop := w.heap[g]? = some (.cells cs T (0, 0))
section
variable {w w' : World} {g T B : Nat} {cs : Array Value}
theorem Arr.lt (h : Arr w g T cs) : g < w.heap.size := by
  rcases Nat.lt_or_ge g w.heap.size with h' | h'
  · exact h'
  · have h : w.heap[g]? = _ := h
    simp [Array.getElem?_eq_none h'] at h
theorem Arr.cell (h : Arr w g T cs) (j : Nat) : w.cell? ⟨g, j, none⟩ = cs[j]? := by
  have h : w.heap[g]? = _ := h
  simp [World.cell?, h]
theorem Arr.free (h : Arr w g T cs) (j : Nat) : w.frozen? ⟨g, j, none⟩ = false := by
  have h : w.heap[g]? = _ := h
  simp [World.frozen?, h]
theorem Arr.set (h : Arr w g T cs) (j : Nat) (v : Value) : Arr (w.setCell ⟨g, j, none⟩ v) g T (cs.setIfInBounds j v) := by
  have hlt := h.lt
  have h' : w.heap[g] = .cells cs T (0, 0) := by
    have h : w.heap[g]? = _ := h
    simpa [Array.getElem?_eq_getElem hlt] using h
  show (w.heap.modify g _)[g]? = _
  rw [Array.getElem?_eq_getElem (by simpa using hlt), Array.getElem_modify_self, h']
  rfl
theorem Arr.other (h : Arr w g T cs) (p : Addr) (hp : p.block ≠ g) (v : Value) : Arr (w.setCell p v) g T cs := by
  show (w.setCell p v).heap[g]? = _
  rw [Below.heap_setCell _ _ _ _ (fun e => hp e.symm)]
  exact h
theorem Arr.alloc (h : Arr w g T cs) (o : Obj) : Arr (w.alloc o) g T cs := by
  show (w.alloc o).heap[g]? = _
  rw [Below.heap_alloc _ _ _ h.lt]
  exact h
theorem Arr.new (w : World) (cs : Array Value) (T : Nat) : Arr (w.alloc (.cells cs T)) w.heap.size T cs := heap_alloc_new w _
theorem Arr.below (h : Arr w g T cs) (hb : Below B w w') (hg : g < B) : Arr w' g T cs := (hb.block g hg).trans h
end

/-! From one world on: nothing of what was there has turned. -/
abbrev Fr (a w : World) : Prop := Below a.heap.size a w
section
variable {a w w' : World}
theorem fr_refl (a : World) : Fr a a := Below.refl _ _
theorem fr_step (h : Fr a w) (k : Fr w w') : Fr a w' := Below.trans h (k.mono h.size)
theorem fr_new (h : Fr a w) (o : Obj) : Fr a (w.alloc o) := Below.alloc h h.size o
theorem fr_drew (h : Fr a w) : Fr a w.drew := Below.drew h
end

/-- A remainder by a number above 0: below 0, or not. -/
theorem tmod_cases (t : Int) (n : Nat) (hn : n ≠ 0) : (∃ k : Nat, t.tmod n = -(k : Int) ∧ 0 < k ∧ k < n) ∨ (∃ k : Nat, t.tmod n = k ∧ k < n) := by
  have h1 : t.tmod n = t.sign * ((t.natAbs % n : Nat) : Int) := by
    rcases Int.lt_trichotomy t 0 with h | rfl | h
    · obtain ⟨T, rfl⟩ : ∃ T : Nat, t = -(T : Int) := ⟨t.natAbs, by omega⟩
      rw [Int.neg_tmod, Int.sign_eq_neg_one_of_neg h]
      simp
      rfl
    · simp
    · obtain ⟨T, rfl⟩ := Int.eq_ofNat_of_zero_le (Int.le_of_lt h)
      rw [Int.sign_eq_one_of_pos h]
      simp
      rfl
  have h2 : t.natAbs % n < n := Nat.mod_lt _ (by omega)
  generalize t.natAbs % n = k at h1 h2
  rcases Int.lt_trichotomy t 0 with h | rfl | h
  · rw [Int.sign_eq_neg_one_of_neg h] at h1
    by_cases hk : k = 0
    · exact .inr ⟨0, by rw [h1, hk]; simp, by omega⟩
    · exact .inl ⟨k, by rw [h1]; omega, by omega, h2⟩
  · exact .inr ⟨0, by simp, by omega⟩
  · rw [Int.sign_eq_one_of_pos h] at h1
    exact .inr ⟨k, by rw [h1]; omega, h2⟩
end Go.Proofs.YtmoaddbpfekdbaaGreat
/- Slices that are read, slices that a call has made: words of my own for both, how they last, and 'append' onto the latter. No program text. -/
namespace Go.Proofs.YtmoaddbpfekdbaaGreat
set_option maxRecDepth 100000
open Go.RowKit
set_option linter.unusedVariables false

/-- The slice at A has the cells xs, in blocks below B. -/
def Has (w : World) (B : Nat) (A : Option Addr) (xs : List Value) : Prop :=
  ∀ j u, xs[j]? = some u → ∃ b off, A = some ⟨b, off, none⟩ ∧ b < B ∧ w.cell? ⟨b, off + j, none⟩ = some u

section
variable {w w' : World} {B B' : Nat} {A : Option Addr} {xs : List Value}
theorem Has.nil : Has w B A [] := fun j u h => by simp at h
theorem Has.lift (h : Has w B A xs) (hc : ∀ p : Addr, p.block < B → w'.cell? p = w.cell? p) : Has w' B A xs := fun j u hu => by
  obtain ⟨b, off, e, hb, hx⟩ := h j u hu
  exact ⟨b, off, e, hb, (hc _ hb).trans hx⟩
theorem Has.below (h : Has w B A xs) (hb : Below B w w') : Has w' B A xs := h.lift fun _ hp => hb.cell hp
theorem Has.mono (h : Has w B A xs) (hB : B ≤ B') : Has w B' A xs := fun j u hu => by
  obtain ⟨b, off, e, hb, hx⟩ := h j u hu
  exact ⟨b, off, e, by omega, hx⟩
/-- Where there is something, the address written out. -/
theorem Has.form (h : Has w B A xs) (hn : xs ≠ []) : ∃ b off, A = some ⟨b, off, none⟩ ∧ b < B ∧ ∀ j u, xs[j]? = some u → w.cell? ⟨b, off + j, none⟩ = some u := by
  cases xs with
  | nil => exact absurd rfl hn
  | cons x l =>
    obtain ⟨b, off, e, hb, _⟩ := h 0 x rfl
    refine ⟨b, off, e, hb, fun j u hu => ?_⟩
    obtain ⟨b', off', e', _, hx⟩ := h j u hu
    rw [e] at e'
    injection e' with e'
    injection e' with e1 e2
    subst e1 e2
    exact hx
end

theorem Has.front {w : World} {B : Nat} {A : Option Addr} {xs ys : List Value} (h : Has w B A (xs ++ ys)) : Has w B A xs := fun j u hu =>
  h j u (by rw [List.getElem?_append_left (List.getElem?_eq_some_iff.1 hu).1]; exact hu)

/-- The block that a slice's address is in. -/
def blk (A : Option Addr) : Option Nat := A.map (·.block)
/-- The slice (A, n, c) is the call's own: a row from block B on that nobody else has, of the cells xs. -/
def Own (w : World) (B e size : Nat) (A : Option Addr) (n c : Nat) (xs : List Value) : Prop := w.ownsRow B e size (.slice A n c) n xs

section
variable {w w' : World} {B B' e size n c : Nat} {A : Option Addr} {xs : List Value}
theorem blk_own (A : Option Addr) (n c : Nat) : (Value.slice A n c).ownBlock = blk A := by cases A <;> rfl
theorem Own.nil (w : World) (B e size : Nat) : Own w B e size none 0 0 [] := World.ownsRow_nil w B e size
theorem Own.len (h : Own w B e size A n c xs) : xs.length = n * size := h.1
theorem Own.lt (h : Own w B e size A n c xs) : ∀ k, blk A = some k → B ≤ k ∧ k < w.heap.size := by
  intro k hk
  exact World.ownsRow.lt h k (by rw [blk_own]; exact hk)
theorem Own.cap (h : Own w B e size A n c xs) : n ≤ c := by
  rcases h.2 with ⟨hv, hn⟩ | ⟨g, cap, cur, hv, _, _, hnc, _⟩
  · omega
  · injection hv with _ _ hc
    omega
theorem Own.has (h : Own w B e size A n c xs) : Has w w.heap.size A xs := by
  intro j u hu
  rcases h.2 with ⟨hv, hn⟩ | ⟨g, cap, cur, hv, hb, hg, _⟩
  · have hl := h.1
    rw [hn, Nat.zero_mul] at hl
    rw [List.eq_nil_of_length_eq_zero hl] at hu
    simp at hu
  · injection hv with hA _ _
    subst hA
    have hc := World.ownsRow.cells h (g := g) rfl j u hu
    refine ⟨g, 0, rfl, (Own.lt h g rfl).2, ?_⟩
    simpa [Addr.add_lit] using hc
theorem Own.lit (w : World) (B e : Nat) (cs : Array Value) (n size : Nat) (hb : B ≤ w.heap.size) (hm : n ≤ maxLen) (hs : cs.size = n * size) :
    Own (w.alloc (.cells cs e)) B e size (some ⟨w.heap.size, 0, none⟩) n n cs.toList := World.ownsRow_lit w cs n hb hm hs
theorem Own.kept {row : Option Nat} (h : Own w B e size A n c xs) (hg : w.grownBy w' row) (hne : blk A = none ∨ blk A ≠ row) : Own w' B e size A n c xs :=
  World.ownsRow.kept h hg (by rw [blk_own]; exact hne)
theorem Own.alloc (h : Own w B e size A n c xs) (o : Obj) : Own (w.alloc o) B e size A n c xs := World.ownsRow.alloc h o
theorem Own.below {C : Nat} (h : Own w B e size A n c xs) (hb : Below C w w') (hC : w.heap.size ≤ C) : Own w' B e size A n c xs :=
  h.kept (row := none) ⟨hb.os, hb.tape, hb.output, hb.size, fun k hk _ => hb.block k (by omega)⟩ (by cases A <;> simp [blk])
theorem Own.mono (h : Own w B e size A n c xs) (hB : B' ≤ B) : Own w B' e size A n c xs := by
  refine ⟨h.1, ?_⟩
  rcases h.2 with hn | ⟨g, cap, cur, hv, hb, r⟩
  · exact .inl hn
  · exact .inr ⟨g, cap, cur, hv, by omega, r⟩
/-- What an append turns, said of all below the call's own blocks. -/
theorem below_grown {a : World} (h : Below B a w) (ho : Own w B' e size A n c xs) (hg : w.grownBy w' (blk A)) (hB : B ≤ w.heap.size) (hB' : B ≤ B') : Below B a w' :=
  h.grown hg hB fun k hk => Nat.le_trans hB' (ho.lt k hk).1
end

section
variable {P : Program} (w : World)
/-- 'append(s, x...)', s the call's own, x whatever slice that has the cells news. -/
theorem run_append_has (B : Nat) (t ty e : TypeId) (i : TypeInfo) (z : Value) (size bytes : Nat) (ht : P.underlying t = some (.slice e)) (hi : P.info? e = some i) (hz : i.zero = some z)
    (hsize : i.size = size) (hby : i.bytes = bytes) (hzs : z.cells.size = size) (hsz : 0 < size)
    (A : Option Addr) (n c : Nat) (xs : List Value) (ho : Own w B e size A n c xs) (C : Nat) (A2 : Option Addr) (m c2 : Nat) (news : List Value) (hl : news.length = m * size) (hn : Has w C A2 news)
    (h1 : ∀ u ∈ news, u.oneCell' = true) (h63 : n + m ≤ maxLen) (hbytes : (n + m) * bytes ≤ 140737488355328) (hB : B ≤ w.heap.size) :
    ∃ A' c' w', (Builtin.append_ #[t, t] ty #[.slice A n c, .slice A2 m c2]).run P w = .ok (.slice A' (n + m) c') w' ∧ Own w' B e size A' (n + m) c' (xs ++ news) ∧ w.grownBy w' (blk A) ∧ (blk A' = blk A ∨ blk A' = some w.heap.size) := by
  rcases Nat.eq_zero_or_pos m with h0 | h0
  · subst h0
    have hnil : news = [] := List.eq_nil_of_length_eq_zero (by simpa using hl)
    subst hnil
    refine ⟨A, c, w, ?_, by simpa [Own] using ho, World.grownBy.refl w _, .inl rfl⟩
    rcases ho.2 with ⟨hv, hn0⟩ | ⟨g, cap, cur, hv, _, hg, hnc, _⟩
    · injection hv with hA hnn hc
      subst hA hnn hc
      cases A2 <;> simp [Builtin.append_, run_underlying ht, sizeOf, typeInfo, hi, Builtin.lenOf, Builtin.firstCells, loadCells, loadCellsFrom]
    · injection hv with hA hnn hc
      subst hA hc
      cases A2 <;> simp [Builtin.append_, run_underlying ht, sizeOf, typeInfo, hi, Builtin.lenOf, Builtin.firstCells, hnc, storeCells, loadCells, loadCellsFrom]
  · have hne : news ≠ [] := by
      intro h
      rw [h] at hl
      have : 0 < m * size := Nat.mul_pos h0 hsz
      simp at hl
      omega
    obtain ⟨b, off, rfl, _, hc⟩ := hn.form hne
    obtain ⟨v', w', hr, h2, h3, _, h5⟩ := run_append_own_at (P := P) w B t ty e i z size bytes ht hi hz hsize hby hzs hsz (.slice A n c) n xs ho ⟨b, off, none⟩ m c2 news hl
      (fun j u hu => by rw [Addr.add_lit]; exact hc j u hu) h1 h63 hbytes hB
    obtain ⟨A', c', rfl⟩ : ∃ A' c', v' = .slice A' (n + m) c' := by
      rcases h2.2 with ⟨hv, h0'⟩ | ⟨g, cap, cur, hv, _⟩
      · exact ⟨none, 0, by rw [hv, h0']⟩
      · exact ⟨_, _, hv⟩
    exact ⟨A', c', w', hr, h2, by rw [blk_own] at h3; exact h3, by simpa only [blk_own] using h5⟩

theorem wpList_append_has {ops : Array Oper} {rest : List Oper} {o : Oper} {a : Act} {Q : Exit → Act → World → Prop} (hgd : o.guard = none) (s x : Operand) (t : TypeId)
    (hop : o.op = .call { callee := .builtin .append, args := #[s, x], argTypes := #[t, t] })
    (B : Nat) (e : TypeId) (i : TypeInfo) (z : Value) (size bytes : Nat) (ht : P.underlying t = some (.slice e)) (hi : P.info? e = some i) (hz : i.zero = some z)
    (hsize : i.size = size) (hby : i.bytes = bytes) (hzs : z.cells.size = size) (hsz : 0 < size)
    (A : Option Addr) (n c : Nat) (xs : List Value) (hs : a.eval s = .slice A n c) (ho : Own w B e size A n c xs)
    (C : Nat) (A2 : Option Addr) (m c2 : Nat) (news : List Value) (hx : a.eval x = .slice A2 m c2) (hl : news.length = m * size) (hn : Has w C A2 news)
    (h1 : ∀ u ∈ news, u.oneCell' = true) (h63 : n + m ≤ maxLen) (hbytes : (n + m) * bytes ≤ 140737488355328) (hB : B ≤ w.heap.size)
    (h : ∀ A' c' w', Own w' B e size A' (n + m) c' (xs ++ news) → w.grownBy w' (blk A) → (blk A' = blk A ∨ blk A' = some w.heap.size) → wpList P ops Q rest (a.put o.dst (.slice A' (n + m) c')) w') :
    wpList P ops Q (o :: rest) a w := by
  refine wpList_plain hgd fun K hK => ?_
  obtain ⟨A', c', w', hr, h2, h3, h4⟩ := run_append_has (P := P) w B t o.type e i z size bytes ht hi hz hsize hby hzs hsz A n c xs ho C A2 m c2 news hl hn h1 h63 hbytes hB
  unfold Oper.wp execOp
  simp only [hop, resolve, invoke, builtin, Sem.run_bind, Sem.run_pure, Result.andThen_ok, List.map_toArray, List.map_cons, List.map_nil, hs, hx, hr]
  exact hK _ _ (h A' c' w' h2 h3 h4)
end

/-- One new cell, as the source of an append. -/
theorem has_one (w : World) (x : Value) (t : TypeId) : Has (w.alloc (.cells #[x] t)) (w.heap.size + 1) (some ⟨w.heap.size, 0, none⟩) [x] := by
  intro j u hu
  match j, hu with
  | 0, hu =>
    simp at hu
    subst hu
    exact ⟨_, _, rfl, by omega, by simp⟩
theorem Has.take {w : World} {B : Nat} {A : Option Addr} {xs : List Value} (h : Has w B A xs) (k : Nat) : Has w B A (xs.take k) := by
  have : xs = xs.take k ++ xs.drop k := (List.take_append_drop k xs).symm
  rw [this] at h
  exact h.front
theorem Has.drop {w : World} {B b off : Nat} {xs : List Value} (h : Has w B (some ⟨b, off, none⟩) xs) (k : Nat) : Has w B (some ⟨b, off + k, none⟩) (xs.drop k) := fun j u hu => by
  rw [List.getElem?_drop] at hu
  obtain ⟨b', off', e, hb, hx⟩ := h (k + j) u hu
  injection e with e
  injection e with e1 e2
  subst e1 e2
  exact ⟨_, _, rfl, hb, by rw [Nat.add_assoc]; exact hx⟩
theorem Has.none_nil {w : World} {B : Nat} {xs : List Value} (h : Has w B none xs) : xs = [] := by
  cases xs with
  | nil => rfl
  | cons x l =>
    obtain ⟨b, off, e, _⟩ := h 0 x rfl
    cases e

end Go.Proofs.YtmoaddbpfekdbaaGreat
/- Structs moved whole: a type of so many cells, its loads and stores, its results. No program text. -/
namespace Go.Proofs.YtmoaddbpfekdbaaGreat
set_option maxRecDepth 100000
open Go.RowKit
set_option linter.unusedVariables false

/-- A struct type of so many cells. -/
structure Sty (P : Program) (T : TypeId) (n : Nat) : Prop where
  info : (P.info? T).map (·.size) = some n
  under : ∃ d, P.underlying T = some d ∧ (match d with | .struct _ | .array _ _ => true | _ => false) = true
def One (cs : List Value) : Prop := ∀ v ∈ cs, v.oneCell' = true
theorem One.all {cs : List Value} (h : One cs) : cs.toArray.all (·.oneCell') = true := by
  rw [List.all_toArray, List.all_eq_true]; exact h
theorem One.app {a b : List Value} (h : One a) (k : One b) : One (a ++ b) := fun v hv => by
  rcases List.mem_append.1 hv with hv | hv
  · exact h v hv
  · exact k v hv
theorem One.cons {x : Value} {b : List Value} (h : x.oneCell' = true) (k : One b) : One (x :: b) := fun v hv => by
  rcases List.mem_cons.1 hv with rfl | hv
  · exact h
  · exact k v hv
theorem One.nil : One [] := fun _ h => by simp at h
theorem setRow_new (w : World) (z cs : Array Value) (T : Nat) (g : Nat) (hg : w.heap.size = g) : (w.alloc (.cells z T)).setRow g cs = w.alloc (.cells cs T) := by
  subst hg
  unfold World.setRow World.alloc
  congr 1
  apply Array.ext_getElem?
  intro k
  simp only [Array.getElem?_modify, Array.getElem?_push]
  by_cases hk : k = w.heap.size
  · subst hk; simp
  · rw [if_neg (fun e => hk e.symm), if_neg hk, if_neg hk]
theorem arr_at (w : World) (cs : Array Value) (T g : Nat) (hg : w.heap.size = g) : Arr (w.alloc (.cells cs T)) g T cs := hg ▸ Arr.new w cs T
theorem Arr.setRow {w : World} {g T : Nat} {cs : Array Value} (h : Arr w g T cs) (ds : Array Value) : Arr (w.setRow g ds) g T ds := setRow_heap w g _ _ _ _ h
theorem Arr.setRowOther {w : World} {g T k : Nat} {cs : Array Value} (h : Arr w g T cs) (ds : Array Value) (hk : g ≠ k) : Arr (w.setRow k ds) g T cs := by
  show (w.setRow k ds).heap[g]? = _
  simp only [World.setRow, Array.getElem?_modify]
  rw [if_neg (fun e => hk e.symm)]
  exact h
theorem fr_setRow {a w : World} {g : Nat} (h : Fr a w) (hg : a.heap.size ≤ g) (cs : Array Value) : Fr a (w.setRow g cs) :=
  h.trans ⟨rfl, rfl, rfl, by simp [World.setRow], fun k hk => by simp only [World.setRow, Array.getElem?_modify]; rw [if_neg (by omega)]⟩
section
variable {P : Program} {T n : Nat} {w : World}
theorem Sty.load (S : Sty P T n) {g : Nat} {T' : Nat} {cs : List Value} (hl : cs.length = n) (ha : Arr w g T' cs.toArray) : (loadVar T ⟨g, 0, none⟩).run P w = .ok (.agg cs.toArray) w := by
  obtain ⟨d, hu, hd⟩ := S.under
  cases d <;> first | (cases hd; done) | exact run_loadVar_row w g T' T _ (0, 0) _ ha hu rfl (by rw [S.info]; simp [hl])
theorem wpList_load_sty (S : Sty P T n) {ops : Array Oper} {rest : List Oper} {o : Oper} {a : Act} {Q : Exit → Act → World → Prop} (hgd : o.guard = none) (x : Operand) (ho : o.op = .load T x)
    (g : Nat) (hx : a.eval x = .pointer (some ⟨g, 0, none⟩)) {T' : Nat} {cs : List Value} (hl : cs.length = n) (ha : Arr w g T' cs.toArray)
    (h : wpList P ops Q rest (a.put o.dst (.agg cs.toArray)) w) : wpList P ops Q (o :: rest) a w := by
  obtain ⟨d, hu, hd⟩ := S.under
  cases d <;> first | (cases hd; done) | exact wpList_load_row hgd T x ho g hx T' _ (0, 0) _ ha hu rfl (by rw [S.info]; simp [hl]) h
theorem wpList_store_sty (S : Sty P T n) {ops : Array Oper} {rest : List Oper} {o : Oper} {a : Act} {Q : Exit → Act → World → Prop} (hgd : o.guard = none) (x y : Operand) (ho : o.op = .store T x y)
    (g : Nat) (cs : List Value) (hx : a.eval x = .pointer (some ⟨g, 0, none⟩)) (hy : a.eval y = .agg cs.toArray) (hl : cs.length = n) (h1 : One cs)
    {T' : Nat} {old : List Value} (ho' : old.length = n) (ha : Arr w g T' old.toArray)
    (h : wpList P ops Q rest (a.put o.dst undef) (w.setRow g cs.toArray)) : wpList P ops Q (o :: rest) a w :=
  wpList_store_row hgd T x y ho g _ hx hy T' _ ha (by rw [S.info]; simp [hl]) (by simp [hl, ho']) h1.all h
/-- A store into the block that was just made: as if it had been made so. -/
theorem wpList_store_new (S : Sty P T n) {ops : Array Oper} {rest : List Oper} {o : Oper} {a : Act} {Q : Exit → Act → World → Prop} (hgd : o.guard = none) (x y : Operand) (ho : o.op = .store T x y)
    (g : Nat) (cs : List Value) (hx : a.eval x = .pointer (some ⟨g, 0, none⟩)) (hy : a.eval y = .agg cs.toArray) (hl : cs.length = n) (h1 : One cs)
    {T' : Nat} {z : Array Value} (hz : z.size = n) (hg : w.heap.size = g)
    (h : wpList P ops Q rest (a.put o.dst undef) (w.alloc (.cells cs.toArray T'))) : wpList P ops Q (o :: rest) a (w.alloc (.cells z T')) := by
  refine wpList_store_row hgd T x y ho g _ hx hy T' z (arr_at w z T' g hg) (by rw [S.info]; simp [hl]) (by simp [hl, hz]) h1.all ?_
  rw [setRow_new w z _ T' g hg]
  exact h
theorem Sty.result (S : Sty P T n) {fn : Func} {p : Tmp} (h : fn.results = #[.cell p T]) (tmps : Array Value) (g : Nat) (hp : tmps.getD p undef = .pointer (some ⟨g, 0, none⟩)) {T' : Nat} {cs : List Value} (hl : cs.length = n) (ha : Arr w g T' cs.toArray) :
    (results fn tmps).run P w = .ok (.agg cs.toArray) w := by
  obtain ⟨d, hu, hd⟩ := S.under
  cases d <;> first | (cases hd; done) | exact results_cell_row h tmps w g T' _ (0, 0) _ hp ha hu rfl (by rw [S.info]; simp [hl])
theorem Sty.result2 (S : Sty P T n) {fn : Func} {p t : Tmp} (h : fn.results = #[.cell p T, .tmp t]) (tmps : Array Value) (g : Nat) (hp : tmps.getD p undef = .pointer (some ⟨g, 0, none⟩)) {T' : Nat} {cs : List Value} (hl : cs.length = n) (ha : Arr w g T' cs.toArray) :
    (results fn tmps).run P w = .ok (.tuple #[.agg cs.toArray, tmps.getD t undef]) w := by
  have hp' : tmps[p]?.getD undef = .pointer (some ⟨g, 0, none⟩) := by simpa using hp
  simp [results, h, hp', asAddr, S.load hl ha]
end
/-- A load, a store of a whole struct, hidden from the walk's own rules, which open them cell by cell: 'attribute [local go_sem ↓]' of the two equations for the type's number. -/
def ldS (T : TypeId) (p : Value) : Sem Value := Instr.loadAt T p
section
variable {P : Program} {T n : Nat} {w : World}
theorem Sty.ld (S : Sty P T n) {g T' : Nat} {cs : List Value} (hl : cs.length = n) (ha : Arr w g T' cs.toArray) : (ldS T (.pointer (some ⟨g, 0, none⟩))).run P w = .ok (.agg cs.toArray) w := by
  simp only [ldS, Instr.loadAt, Instr.sureAddr, Sem.run_bind, Sem.run_pure, Result.andThen_ok, S.load hl ha]
end
end Go.Proofs.YtmoaddbpfekdbaaGreat
/- Structs that lie in a row: a part's load, its store, its field; rows of structs. No program text. -/
namespace Go.Proofs.YtmoaddbpfekdbaaGreat
set_option maxRecDepth 100000
open Go.RowKit
set_option linter.unusedVariables false

/-- The type and the place of a struct's field. -/
def fieldAt? (P : Program) (xT j : Nat) : Option (TypeId × Nat) := match P.underlying xT with
  | some (.struct fs) => (fs[j]?).map fun f => (f.type, f.offset)
  | _ => none
theorem fieldAt_some {P : Program} {xT j T off : Nat} (h : fieldAt? P xT j = some (T, off)) : ∃ fs f, P.underlying xT = some (.struct fs) ∧ fs[j]? = some f ∧ f.type = T ∧ f.offset = off := by
  unfold fieldAt? at h
  split at h
  · rename_i fs hu
    cases hf : fs[j]? with
    | none => rw [hf] at h; simp at h
    | some f =>
      rw [hf] at h
      simp only [Option.map_some, Option.some.injEq, Prod.mk.injEq] at h
      exact ⟨fs, f, hu, hf, h.1, h.2⟩
  · cases h
theorem extract_part (cs : List Value) (off n : Nat) : cs.toArray.extract off (off + n) = ((cs.drop off).take n).toArray := by
  apply Array.ext'
  simp [List.take_drop]
section
variable {P : Program} {T n : Nat} {w : World}
theorem Sty.agg (S : Sty P T n) : (isAgg T).run P w = .ok true w := by
  obtain ⟨d, hu, hd⟩ := S.under
  unfold isAgg
  rw [Sem.run_bind, run_underlying hu w]
  cases d <;> first | (cases hd; done) | rfl
theorem Sty.size (S : Sty P T n) : (sizeOf T).run P w = .ok n w := by
  have hi := S.info
  cases hq : P.info? T with
  | none => simp [hq] at hi
  | some i =>
    have hs : i.size = n := by simpa [hq] using hi
    simp [sizeOf, typeInfo, hq, hs]
/-- A field that is a struct. -/
theorem Sty.field (S : Sty P T n) {xT j off : Nat} (hf : fieldAt? P xT j = some (T, off)) {cs ds : List Value} (hd : (cs.drop off).take n = ds) : (Instr.field xT (.agg cs.toArray) j).run P w = .ok (.agg ds.toArray) w := by
  obtain ⟨fs, f, hu, hj, h1, h2⟩ := fieldAt_some hf
  subst hd h1 h2
  simp only [Instr.field, Sem.run_bind, run_underlying hu, Result.andThen_ok, hj, asAgg, Sem.run_pure, part, S.agg, if_true, S.size, extract_part]
/-- The part of a row from o on. -/
theorem range_of_arr {g o : Nat} {T' : Nat} {cs ds : List Value} (ha : Arr w g T' cs.toArray) (hd : (cs.drop o).take ds.length = ds) : w.rangeAt g o ds := fun j v hv => by
  rw [ha.cell, ← hv]
  have hj := (List.getElem?_eq_some_iff.1 hv).1
  rw [← hd, List.getElem?_take_of_lt hj, List.getElem?_drop]
  simp
theorem Sty.loadMid (S : Sty P T n) {g o : Nat} {ds : List Value} (hl : ds.length = n) (ha : w.rangeAt g o ds) : (loadVar T ⟨g, o, none⟩).run P w = .ok (.agg ds.toArray) w := by
  obtain ⟨d, hu, hd⟩ := S.under
  exact run_loadVar_mid w g o T ds d ha hu (by cases d <;> first | (cases hd; done) | rfl) (by rw [S.info, hl])
theorem Sty.ldMid (S : Sty P T n) {g o : Nat} {ds : List Value} (hl : ds.length = n) (ha : w.rangeAt g o ds) : (ldS T (.pointer (some ⟨g, o, none⟩))).run P w = .ok (.agg ds.toArray) w := by
  simp only [ldS, Instr.loadAt, Instr.sureAddr, Sem.run_bind, Sem.run_pure, Result.andThen_ok, S.loadMid hl ha]
end

section
variable {α : Type} {c : α → List Value} {n : Nat}
/-- The cells of structs, one behind the other. -/
def rows (c : α → List Value) (l : List α) : List Value := l.flatMap c
/-- Each of them has n cells. -/
def Wid (c : α → List Value) (n : Nat) (l : List α) : Prop := ∀ a ∈ l, (c a).length = n
theorem Wid.tail {a : α} {l : List α} (h : Wid c n (a :: l)) : Wid c n l := fun b hb => h b (List.mem_cons_of_mem _ hb)
theorem Wid.take {l : List α} (h : Wid c n l) (m : Nat) : Wid c n (l.take m) := fun b hb => h b (List.mem_of_mem_take hb)
theorem Wid.drop {l : List α} (h : Wid c n l) (m : Nat) : Wid c n (l.drop m) := fun b hb => h b (List.mem_of_mem_drop hb)
theorem Wid.app {l m : List α} (h : Wid c n l) (k : Wid c n m) : Wid c n (l ++ m) := fun b hb => by
  rcases List.mem_append.1 hb with hb | hb
  · exact h b hb
  · exact k b hb
theorem Wid.one {a : α} (h : (c a).length = n) : Wid c n [a] := fun b hb => by
  rw [List.mem_singleton.1 hb]; exact h
theorem rows_cons (a : α) (l : List α) : rows c (a :: l) = c a ++ rows c l := rfl
theorem rows_single (a : α) : rows c [a] = c a := by simp [rows]
theorem rows_append (a b : List α) : rows c (a ++ b) = rows c a ++ rows c b := by simp [rows]
theorem rows_len : ∀ {l : List α}, Wid c n l → (rows c l).length = l.length * n
  | [], _ => by simp [rows]
  | a :: l, h => by
    rw [rows_cons, List.length_append, rows_len h.tail, h a (by simp), List.length_cons, Nat.add_mul]
    omega
theorem rows_take {l : List α} (h : Wid c n l) (m : Nat) : rows c (l.take m) = (rows c l).take (m * n) := by
  by_cases hm : m ≤ l.length
  · have h1 : rows c l = rows c (l.take m) ++ rows c (l.drop m) := by rw [← rows_append, List.take_append_drop]
    have h2 : (rows c (l.take m)).length = m * n := by rw [rows_len (h.take m), List.length_take, Nat.min_eq_left hm]
    rw [h1, ← h2, List.take_left]
  · have h3 : l.length ≤ m := by omega
    rw [List.take_of_length_le h3, List.take_of_length_le (by rw [rows_len h]; exact Nat.mul_le_mul_right _ h3)]
theorem rows_drop {l : List α} (h : Wid c n l) (m : Nat) : rows c (l.drop m) = (rows c l).drop (m * n) := by
  by_cases hm : m ≤ l.length
  · have h1 : rows c l = rows c (l.take m) ++ rows c (l.drop m) := by rw [← rows_append, List.take_append_drop]
    have h2 : (rows c (l.take m)).length = m * n := by rw [rows_len (h.take m), List.length_take, Nat.min_eq_left hm]
    rw [h1, ← h2, List.drop_left]
  · have h3 : l.length ≤ m := by omega
    rw [List.drop_eq_nil_of_le h3, List.drop_eq_nil_of_le (by rw [rows_len h]; exact Nat.mul_le_mul_right _ h3)]; rfl
theorem rows_at {l : List α} (h : Wid c n l) {j : Nat} {a : α} (ha : l[j]? = some a) : ((rows c l).drop (j * n)).take n = c a := by
  have hj := (List.getElem?_eq_some_iff.1 ha).1
  have e : l[j] = a := (List.getElem?_eq_some_iff.1 ha).2
  rw [← rows_drop h, List.drop_eq_getElem_cons hj, e, rows_cons]
  have hl := h a (by rw [← e]; exact List.getElem_mem hj)
  conv => lhs; rw [← hl]
  exact List.take_left
theorem rows_get {l : List α} (h : Wid c n l) {j : Nat} {a : α} (ha : l[j]? = some a) (t : Nat) (ht : t < n) : (rows c l)[j * n + t]? = (c a)[t]? := by
  rw [← rows_at h ha, List.getElem?_take_of_lt ht, List.getElem?_drop]
theorem rows_one (h : ∀ a, One (c a)) (l : List α) : One (rows c l) := fun v hv => by
  obtain ⟨a, _, ha⟩ := List.mem_flatMap.1 hv
  exact h a v ha
theorem range_lift {w w' : World} {b off : Nat} {cs : List Value} (h : w.rangeAt b off cs) (hc : ∀ p : Addr, p.block = b → w'.cell? p = w.cell? p) : w'.rangeAt b off cs := fun j v hj => (hc _ rfl).trans (h j v hj)
theorem range_below {w w' : World} {b off B : Nat} {cs : List Value} (h : w.rangeAt b off cs) (hb : Below B w w') (hl : b < B) : w'.rangeAt b off cs := range_lift h fun p hp => hb.cell (by rw [hp]; exact hl)
theorem range_part {w : World} {b off o : Nat} {cs ds : List Value} (h : w.rangeAt b off cs) (hd : (cs.drop o).take ds.length = ds) : w.rangeAt b (off + o) ds := fun j v hv => by
  rw [Nat.add_assoc]
  refine h (o + j) v ?_
  rw [← hv]
  have hj := (List.getElem?_eq_some_iff.1 hv).1
  rw [← hd, List.getElem?_take_of_lt hj, List.getElem?_drop]
end
end Go.Proofs.YtmoaddbpfekdbaaGreat
