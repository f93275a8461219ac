/- Stores into blocks of the call's own, by what is known of them: the world behind is told by three facts alone. No program text. -/
import Derived.Test.YtmjjjdikpnhpiaaGreatBase
import Derived.Lib.AppendZerosOnto
import Derived.Lib.Overlaps
namespace Go.Proofs.YtmjjjdikpnhpiaaGreat
set_option linter.unusedVariables false
set_option linter.unusedSimpArgs false
set_option maxRecDepth 100000
open Go.RowKit
section
theorem zcm {P : Program} {T n g off T' : Nat} {w : World} (hs : (P.info? T).map (·.size) = some n) {v : Value} {ds : List Value} (hv : v.cells.toList = ds) (hl : ds.length = n) (h1 : One ds) {cs : List Value} (ha : Arr w g T' cs.toArray) (hf : off + n ≤ cs.length) :
 (storeVar T ⟨g, off, none⟩ v).run P w = .ok () (w.setRow g (splice cs off ds).toArray) := by
 have hst := run_storeCells_at P g off T' ds 0 cs.toArray w ha (by simp [hl]; exact hf) h1;simp only [Nat.add_zero] at hst;have e : cs.take off ++ ds ++ cs.drop (off + ds.length) = splice cs off ds := by simp [splice]
 rw [e] at hst
 have hz : (sizeOf T).run P w = .ok n w := by
  cases hq : P.info? T with
  | none => simp [hq] at hs
  | some i =>
   have : i.size = n := by simpa [hq] using hs
   simp [sizeOf, typeInfo, hq, this]
 have hsz : v.cells.size = n := by rw [← Array.length_toList, hv, hl]
 simp only [storeVar, Sem.run_bind, hz, Result.andThen_ok, hsz, ne_eq, not_true, if_false, hv];exact hst
structure Kept (w W : World) (g : Nat) : Prop where
 other : ∀ {k T : Nat} {cs : Array Value}, Arr w k T cs → k ≠ g → Arr W k T cs
 fr : ∀ {a : World}, Fr a w → a.heap.size ≤ g → Fr a W
 size : W.heap.size = w.heap.size
theorem zi {P : Program} {w : World} {ops : Array Oper} {rest : List Oper} {o : Oper} {a : Act} {Q : Exit → Act → World → Prop} {T n : Nat} (hs : (P.info? T).map (·.size) = some n) (hgd : o.guard = none) (x y : Operand) (ho : o.op = .store T x y)
 (g off : Nat) (hx : a.eval x = .pointer (some ⟨g, off, none⟩)) {ds : List Value} (hv : (a.eval y).cells.toList = ds) (hl : ds.length = n) (h1 : One ds)
 {T' : Nat} {cs : List Value} (ha : Arr w g T' cs.toArray) (hf : off + n ≤ cs.length) {cs' : List Value} (hc : splice cs off ds = cs')
 (h : ∀ W, Arr W g T' cs'.toArray → Kept w W g → wpList P ops Q rest (a.put o.dst undef) W) : wpList P ops Q (o :: rest) a w :=
 wpList_plain hgd fun K hK => by
  unfold Oper.wp execOp;simp only [ho, hx, Instr.storeAt, Instr.sureAddr, Sem.run_bind, Sem.run_pure, Result.andThen_ok, zcm hs hv hl h1 ha hf, hc];refine hK _ _ (h _ (ha.setRow _) ⟨fun hk hne => hk.setRowOther _ hne, fun hf hg => zaM hf hg _, ?_⟩);simp [World.setRow]
theorem zbl (cs : List Value) (j : Nat) (v : Value) (hj : j < cs.length) : splice cs j [v] = cs.set j v := by
 rw [List.set_eq_take_append_cons_drop];simp [splice, hj]
theorem zk (cs ds : List Value) (h : cs.length ≤ ds.length) : splice cs 0 ds = ds := by
 simp [splice, List.drop_eq_nil_of_le h]
theorem zdv (v : Value) (h : v.oneCell' = true) : One [v] := .cons h .nil
def stS (T : TypeId) (p v : Value) : Sem Unit := Instr.storeAt T p v
def zbc (w : World) (g T n : Nat) : Prop := ∃ cs : List Value, Arr w g T cs.toArray ∧ cs.length = n
section
variable {w : World} {g T n : Nat}
theorem Arr.drew {cs : Array Value} (h : Arr w g T cs) : Arr w.drew g T cs := h
theorem zbc.of {cs : List Value} (h : Arr w g T cs.toArray) (hl : cs.length = n) : zbc w g T n := ⟨cs, h, hl⟩
theorem zbc.new {cs : Array Value} (hg : g = w.heap.size) (hl : cs.size = n) : zbc (w.alloc (.cells cs T)) g T n := ⟨cs.toList, by subst hg; exact Arr.new w cs T, by simpa using hl⟩
theorem zbc.alloc (h : zbc w g T n) (o : Obj) : zbc (w.alloc o) g T n := by
 obtain ⟨cs, h, hl⟩ := h;exact ⟨cs, h.alloc o, hl⟩
theorem zbc.drew (h : zbc w g T n) : zbc w.drew g T n := h
theorem zbc.setRow {k : Nat} {ds : Array Value} (h : zbc w g T n) (hl : ds.size = n) : zbc (w.setRow k ds) g T n := by
 obtain ⟨cs, h, hc⟩ := h
 by_cases hk : g = k
 ·subst hk
  exact ⟨ds.toList, h.setRow ds, by simpa using hl⟩
 ·exact ⟨cs, h.setRowOther ds hk, hc⟩
theorem zhf (w : World) (g : Nat) (cs : Array Value) : (w.setRow g cs).heap.size = w.heap.size := by simp [World.setRow]
theorem zjR {P : Program} (hi : (P.info? T).map (·.size) = some n) (h : zbc w g T n) {ds : List Value} (hl : ds.length = n) (h1 : One ds) : (stS T (.pointer (some ⟨g, 0, none⟩)) (.agg ds.toArray)).run P w = .ok () (w.setRow g ds.toArray) := by
 obtain ⟨cs, h, hc⟩ := h;simp only [stS, Instr.storeAt, Instr.sureAddr, Sem.run_bind, Sem.run_pure, Result.andThen_ok];rw [zcm (v := .agg ds.toArray) (ds := ds) hi rfl hl h1 h (by omega), zk _ _ (by omega)]
end
end
section
section
variable {w : World} {g T n : Nat}
theorem zbc.below {w' : World} (h : zbc w g T n) (hb : Below w.heap.size w w') : zbc w' g T n := by
 obtain ⟨cs, h, hl⟩ := h;exact ⟨cs, h.below hb h.lt, hl⟩
theorem zbc.put (h : zbc w g T n) (ds : Array Value) : Arr (w.setRow g ds) g T ds := by
 obtain ⟨cs, h, _⟩ := h;exact h.setRow ds
end
end
section
section
variable {P : Program} {T n : Nat} {α : Type} {c : α → List Value} {l : List α} {w : World} {b off i : Nat} {a : α}
theorem zf6 (hr : w.rangeAt b off (zm c l)) (hw : Wid c n l) (ha : l[i]? = some a) : w.rangeAt b (off + i * n) (c a) := fun t v ht => by
 have hl : (c a).length = n := hw a (by obtain ⟨_, e⟩ := List.getElem?_eq_some_iff.1 ha; rw [← e]; exact List.getElem_mem _);have h9 : t < n := by rw [← hl]; exact (List.getElem?_eq_some_iff.1 ht).1
 rw [Nat.add_assoc];exact hr (i * n + t) v (by rw [rows_get hw ha t h9]; exact ht)
theorem zlp (hw : Wid c n l) (ha : l[i]? = some a) : (c a).length = n := hw a (by obtain ⟨_, e⟩ := List.getElem?_eq_some_iff.1 ha; rw [← e]; exact List.getElem_mem _)
theorem zgk {cs : List Value} (hr : w.rangeAt b off cs) (hb : b < w.heap.size) : ∀ W, Fr w W → W.rangeAt b off cs := fun W h => zks hr h hb
theorem z9 (S : Sty P T n) (hr : w.rangeAt b off (zm c l)) (hw : Wid c n l) (hb : b < w.heap.size) (ha : l[i]? = some a) :
 ∀ W, Fr w W → (ldS T (.pointer (some ⟨b, off + i * n, none⟩))).run P W = .ok (.agg (c a).toArray) W := fun W h => S.ldMid (zlp hw ha) (zgk (zf6 hr hw ha) hb W h)
theorem zak {T' n' o : Nat} {ds : List Value} (S' : Sty P T' n') (hr : w.rangeAt b off (zm c l)) (hw : Wid c n l) (hb : b < w.heap.size) (ha : l[i]? = some a) (hd : ((c a).drop o).take n' = ds) (hl : ds.length = n') :
 ∀ W, Fr w W → (ldS T' (.pointer (some ⟨b, off + i * n + o, none⟩))).run P W = .ok (.agg ds.toArray) W := fun W h =>
 S'.ldMid hl (zl7 (zgk (zf6 hr hw ha) hb W h) (by rw [hl]; exact hd))
theorem znT {o : Nat} {u : Value} (hr : w.rangeAt b off (zm c l)) (hw : Wid c n l) (hb : b < w.heap.size) (ha : l[i]? = some a) (hu : (c a)[o]? = some u) :
 ∀ W, Fr w W → W.cell? ⟨b, off + i * n + o, none⟩ = some u := fun W h => zgk (zf6 hr hw ha) hb W h o u hu
theorem zmm {u : Value} (hr : w.rangeAt b off (zm c l)) (hw : Wid c n l) (hb : b < w.heap.size) (ha : l[i]? = some a) (hu : (c a)[0]? = some u) :
 ∀ W, Fr w W → W.cell? ⟨b, off + i * n, none⟩ = some u := fun W h => zgk (zf6 hr hw ha) hb W h 0 u hu
theorem zJ {B : Nat} {A : Option Addr} (h : Has w B A (zm c l)) (hw : Wid c n l) (hn : 0 < n) (hl : l ≠ []) : ∃ b off, A = some ⟨b, off, none⟩ ∧ b < B ∧ w.rangeAt b off (zm c l) := by
 have hne : zm c l ≠ [] := by
  intro e;have h1 := zaa hw;rw [e] at h1;have : 0 < l.length * n := Nat.mul_pos (List.length_pos_iff.2 hl) hn;simp at h1;omega
 obtain ⟨b, off, e, hb, hc⟩ := h.form hne;exact ⟨b, off, e, hb, hc⟩
theorem zdZ {B : Nat} {A : Option Addr} (h : Has w B A (zm c l)) (hw : Wid c n l) (m : Nat) : Has w B A (zm c (l.take m)) := by
 rw [zbq hw]; exact h.take _
theorem zbm {B b off : Nat} (h : Has w B (some ⟨b, off, none⟩) (zm c l)) (hw : Wid c n l) (m : Nat) : Has w B (some ⟨b, off + m * n, none⟩) (zm c (l.drop m)) := by
 rw [zfb hw]; exact h.drop _
end
structure zgM (P : Program) (e size bytes : Nat) : Prop where
 row : ∃ i z, P.info? e = some i ∧ i.zero = some z ∧ i.size = size ∧ i.bytes = bytes ∧ z.cells.size = size
theorem zgM.of {P : Program} {e size bytes : Nat} {z : Value} (e1 : (P.info? e).bind (·.zero) = some z) (e2 : (P.info? e).map (·.size) = some size) (e3 : (P.info? e).map (·.bytes) = some bytes) (hz : z.cells.size = size) : zgM P e size bytes := by
 cases h : P.info? e with
 | none => rw [h] at e2; cases e2
 | some i =>
  rw [h] at e1 e2 e3;exact ⟨i, z, h, by simpa using e1, by simpa using e2, by simpa using e3, hz⟩
section
variable {P : Program} {w : World} {t e size bytes B : Nat}
theorem zao {α : Type} {c : α → List Value} {ops : Array Oper} {rest : List Oper} {o : Oper} {a : Act} {Q : Exit → Act → World → Prop} (E : zgM P e size bytes) (ht : P.underlying t = some (.slice e)) (hsz : 0 < size) (hgd : o.guard = none) (s x : Operand)
 (hop : o.op = .call { callee := .builtin .append, args := #[s, x], argTypes := #[t, t] })
 (A : Option Addr) (n c1 : Nat) (xs : List α) (hs : a.eval s = .slice A n c1) (ho : Own w B e size A n c1 (zm c xs))
 (C : Nat) (A2 : Option Addr) (m c2 : Nat) (news : List α) (hx : a.eval x = .slice A2 m c2) (hl : (zm c news).length = m * size) (hn : Has w C A2 (zm c news)) (h1 : One (zm c news))
 (h63 : n + m ≤ maxLen) (hbytes : (n + m) * bytes ≤ 140737488355328) (hB : B ≤ w.heap.size)
 (h : ∀ A' c' w', Own w' B e size A' (n + m) c' (zm c (xs ++ news)) → w.grownBy w' (blk A) → (blk A' = blk A ∨ blk A' = some w.heap.size) → wpList P ops Q rest (a.put o.dst (.slice A' (n + m) c')) w') :
 wpList P ops Q (o :: rest) a w := by
 obtain ⟨i, z, hi, hz, hsize, hby, hzs⟩ := E.row;refine zbV w hgd s x t hop B e i z size bytes ht hi hz hsize hby hzs hsz A n c1 (zm c xs) hs ho C A2 m c2 (zm c news) hx hl hn h1 h63 hbytes hB ?_;intro A' c' w' h1 h2 h3;rw [← zas] at h1;exact h A' c' w' h1 h2 h3
end
end
section
section
variable {w : World} {B e size n c : Nat} {A : Option Addr} {xs : List Value}
theorem Own.row {g o : Nat} (h : Own w B e size (some ⟨g, o, none⟩) n c xs) : o = 0 ∧ B ≤ g ∧ n ≤ c ∧ c ≤ maxLen ∧ ∃ cur, Arr w g e cur ∧ cur.size = c * size ∧ cur.toList.take (n * size) = xs := by
 rcases h.2 with ⟨hv, _⟩ | ⟨g', cap, cur, hv, hb, hg, h1, h2, h3, h4⟩
 ·cases hv
 ·injection hv with hA _ hc
  injection hA with hA
  injection hA with e1 e2
  subst e1 e2 hc;exact ⟨rfl, hb, h1, h2, cur, hg, h3, h4⟩
theorem Own.of_row {g : Nat} {cur : Array Value} (ha : Arr w g e cur) (hb : B ≤ g) (hn : n ≤ c) (hc : c ≤ maxLen) (hs : cur.size = c * size) (hx : cur.toList.take (n * size) = xs) : Own w B e size (some ⟨g, 0, none⟩) n c xs := by
 have hle : n * size ≤ c * size := Nat.mul_le_mul_right _ hn;refine ⟨?_, .inr ⟨g, c, cur, rfl, hb, ha, hn, hc, hs, hx⟩⟩;rw [← hx, List.length_take, Array.length_toList, hs];omega
theorem Own.addr (h : Own w B e size A n c xs) (hn : 0 < n) : ∃ g, A = some ⟨g, 0, none⟩ := by
 rcases h.2 with ⟨_, h0⟩ | ⟨g, cap, cur, hv, _⟩
 ·omega
 ·injection hv with hA
  exact ⟨g, hA⟩
theorem Own.pre (h : Own w B e size A n c xs) {i : Nat} (hi : i ≤ n) : Own w B e size A i c (xs.take (i * size)) := by
 have hle : i * size ≤ n * size := Nat.mul_le_mul_right _ hi
 rcases h.2 with ⟨hv, hn⟩ | ⟨g, cap, cur, hv, hb, hg, h1, h2, h3, h4⟩
 ·subst hn
  obtain rfl : i = 0 := by omega
  have : xs = [] := List.eq_nil_of_length_eq_zero (by simpa using h.len);subst this
  simpa using h
 ·injection hv with hA _ hc
  subst hA hc;exact Own.of_row (n := i) hg hb (by omega) h2 h3 (by rw [← h4, List.take_take, Nat.min_eq_left hle])
theorem Own.more {g : Nat} (h : Own w B e size (some ⟨g, 0, none⟩) n c xs) {m : Nat} (hm : n ≤ m) (hc : m ≤ c) : ∃ ys, Own w B e size (some ⟨g, 0, none⟩) m c (xs ++ ys) ∧ ys.length = (m - n) * size := by
 obtain ⟨_, hb, h1, h2, cur, hg, h3, h4⟩ := h.row;have e1 : m * size = n * size + (m - n) * size := by rw [← Nat.add_mul]; congr 1; omega
 have e2 : m * size ≤ c * size := Nat.mul_le_mul_right _ hc;refine ⟨(cur.toList.drop (n * size)).take ((m - n) * size), Own.of_row hg hb hc h2 h3 ?_, ?_⟩
 ·rw [← h4, e1, List.take_add]
 ·rw [List.length_take, List.length_drop, Array.length_toList, h3]
  omega
end
section
variable {P : Program} (w : World) {B e size n c : Nat} {xs : List Value}
theorem ziU {g : Nat} (ho : Own w B e size (some ⟨g, 0, none⟩) n c xs) (off : Nat) (vs : List Value) (h1 : One vs) (hf : off + vs.length ≤ n * size) :
 ∃ w', (storeCells ⟨g, off, none⟩ vs).run P w = .ok () w' ∧ Own w' B e size (some ⟨g, 0, none⟩) n c (xs.take off ++ vs ++ xs.drop (off + vs.length)) ∧ w.grownBy w' (some g) := by
 obtain ⟨_, hb, hnc, hcm, cur, hg, h3, h4⟩ := ho.row;have hle : n * size ≤ c * size := Nat.mul_le_mul_right _ hnc;have hl := ho.len;have hst := run_storeCells_at P g off e vs 0 cur w hg (by omega) h1;simp only [Nat.add_zero] at hst;refine ⟨_, hst, ?_, ⟨rfl, rfl, rfl, by simp [World.setRow], fun k _ hk => setRow_other w g k _ (fun e => hk (by simp [e]))⟩⟩;have e0 : cur.toList = xs ++ cur.toList.drop (n * size) := by rw [← h4, List.take_append_drop]
 refine Own.of_row (cur := (cur.toList.take off ++ vs ++ cur.toList.drop (off + vs.length)).toArray) (setRow_heap w g cur _ e _ hg) hb hnc hcm ?_ ?_
 ·simp
  omega
 ·simp only
  have e1 : cur.toList.take off = xs.take off := by rw [e0, List.take_append_of_le_length (by omega)]
  have e2 : cur.toList.drop (off + vs.length) = xs.drop (off + vs.length) ++ cur.toList.drop (n * size) := by
   rw [show List.drop (off + vs.length) cur.toList = List.drop (off + vs.length) (xs ++ cur.toList.drop (n * size)) from congrArg _ e0, List.drop_append_of_le_length (by omega)]
  rw [e1, e2, ← List.append_assoc, List.take_left'];simp;omega
theorem zbf (t ty : TypeId) (i : TypeInfo) (ht : P.underlying t = some (.slice e)) (hi : P.info? e = some i) (hsize : i.size = size)
 {g : Nat} (ho : Own w B e size (some ⟨g, 0, none⟩) n c xs) (k d c1 : Nat) (C : Nat) (A2 : Option Addr) (m m2 c2 : Nat) (news : List Value) (hl : news.length = m * size) (hn : Has w C A2 news) (h1 : One news) (hmd : Nat.min m2 d = m) (hk : k + m ≤ n) (hm : 0 < m) (hs : 0 < size) :
 ∃ w', (Builtin.copy_ #[t, t] ty #[.slice (some ⟨g, k * size, none⟩) d c1, .slice A2 m2 c2]).run P w = .ok (.int .i64 m) w' ∧ Own w' B e size (some ⟨g, 0, none⟩) n c (xs.take (k * size) ++ news ++ xs.drop ((k + m) * size)) ∧ w.grownBy w' (some g) := by
 have hne : news ≠ [] := by
  intro h;rw [h] at hl;have : 0 < m * size := Nat.mul_pos hm hs;simp at hl;omega
 obtain ⟨b, off, rfl, _, hc⟩ := hn.form hne;have hfit : k * size + news.length ≤ n * size := by rw [hl, ← Nat.add_mul]; exact Nat.mul_le_mul_right _ hk
 obtain ⟨w', hr, h2, h3⟩ := ziU (P := P) w ho (k * size) news h1 hfit;have e1 : k * size + news.length = (k + m) * size := by rw [hl, Nat.add_mul]
 rw [e1] at h2;refine ⟨w', ?_, h2, h3⟩;have hfo := run_firstCells_some (P := P) w i.size m ⟨b, off, none⟩ m2 c2 news (by rw [hsize]; exact hl) (fun j u hu => by rw [Addr.add_lit]; exact hc j u hu);have hmin := hmd;simp [Builtin.copy_, run_underlying ht, Builtin.lenOf, hmin, sizeOf, typeInfo, hi, hfo, hr, goInt]
theorem zax {T : Nat} {cs : List Value} {V : Nat} (h : Arr w V T cs.toArray) : Has w (V + 1) (some ⟨V, 0, none⟩) cs := fun j u hu => by
 refine ⟨V, 0, rfl, by omega, ?_⟩;rw [Nat.zero_add, h.cell]
 simpa using hu
theorem ze8 {T : Nat} {cs : Array Value} {V : Nat} (h : Arr w V T cs) : w.shape? V = some (T, cs.size) := by
 have h' : w.heap[V]? = some (.cells cs T (0, 0)) := h;simp [World.shape?, h']
theorem zaF {w w' : World} {g : Nat} (h : w.grownBy w' (some g)) (hg : B ≤ g) (hB : B ≤ w.heap.size) : Below B w w' := (Below.refl B w).grown h hB (fun k hk => by injection hk with hk; omega)
theorem zha {T V : Nat} {cs : Array Value} {w w' : World} {g : Nat} (h : w.grownBy w' (some g)) (ha : Arr w V T cs) (hne : g ≠ V) : Arr w' V T cs := (h.block V ha.lt (fun e => hne (by injection e with e; exact e.symm))).trans ha
theorem zfA (t ty : TypeId) (i : TypeInfo) (z : Value) (ht : P.underlying t = some (.slice e)) (hi : P.info? e = some i) (hz : i.zero = some z) (hzs : z.cells.size = size) (hz1 : One z.cells.toList)
 {g : Nat} (ho : Own w B e size (some ⟨g, 0, none⟩) n c xs) (k c1 off : Nat) (hk : k ≤ n) (hoff : off = k * size ∨ k = n) :
 ∃ w' ys, (Builtin.clear_ #[t] ty #[.slice (some ⟨g, off, none⟩) (n - k) c1]).run P w = .ok (.tuple #[]) w' ∧ Own w' B e size (some ⟨g, 0, none⟩) n c (xs.take (k * size) ++ ys) ∧ w.grownBy w' (some g) := by
 by_cases hkn : k = n
 ·subst hkn
  refine ⟨w, [], ?_, ?_, World.grownBy.refl w _⟩
  ·simp [Builtin.clear_, run_underlying ht]
  ·rw [List.append_nil, List.take_of_length_le (by rw [ho.len]; omega)]
   exact ho
 ·have hoff : off = k * size := by rcases hoff with h | h; exact h; exact absurd h hkn
  subst hoff;have e1 : k * size + (n - k) * size = n * size := by rw [← Nat.add_mul]; congr 1; omega
  have hlen : (Builtin.zeroCells z.cells (n - k)).toList.length = (n - k) * size := by simp [size_zeroCells, hzs]
  have hone : One (Builtin.zeroCells z.cells (n - k)).toList := by
   intro v hv;simp only [Builtin.zeroCells, Array.toList_map, List.mem_map] at hv;obtain ⟨j, hj, rfl⟩ := hv;simp at hj
   have hp : 0 < z.cells.size := by
    rcases Nat.eq_zero_or_pos z.cells.size with h | h
    ·rw [h] at hj; omega
    ·exact h
   have hlt := Nat.mod_lt j hp;rw [getElem!_pos z.cells _ hlt];exact hz1 _ (by simp)
  obtain ⟨w', hr, h2, h3⟩ := ziU (P := P) w ho (k * size) _ hone (by omega);refine ⟨w', (Builtin.zeroCells z.cells (n - k)).toList, ?_, ?_, h3⟩;rotate_left
  ·rw [hlen, e1, List.drop_eq_nil_of_le (by rw [ho.len]; omega), List.append_nil] at h2
   exact h2
  ·obtain ⟨d, hd⟩ : ∃ d, n - k = d + 1 := ⟨n - k - 1, by omega⟩
   rw [hd] at hr ⊢;simp [Builtin.clear_, run_underlying ht, zeroValue, typeInfo, hi, hz, hr]
theorem zdb (t tn ty : TypeId) (i : TypeInfo) (z : Value) (bytes : Nat) (kq kn : IntKind) (ht : P.underlying t = some (.slice e)) (htn : P.underlying tn = some (.int kn)) (hi : P.info? e = some i) (hz : i.zero = some z) (hsize : i.size = size) (hby : i.bytes = bytes) (hzs : z.cells.size = size) (hs : 0 < size)
 (A : Option Addr) (ho : Own w B e size A n c xs) (m : Nat) (h0 : 0 < m) (hg : c < n + m) (h63 : n + m ≤ maxLen) (hbytes : (n + m) * bytes ≤ 140737488355328) (hB : B ≤ w.heap.size) :
 ∃ c' w' zs, (Builtin.append_ #[t, tn] ty #[.slice A n c, .int kq m]).run P w = .ok (.slice (some ⟨w.heap.size, 0, none⟩) (n + m) c') w' ∧ Own w' B e size (some ⟨w.heap.size, 0, none⟩) (n + m) c' (xs ++ zs) ∧ zs.length = m * size ∧ w.grownBy w' none := by
 subst hsize hby
 have hsmall : n + m ≤ 9223372036854775807 := by simp only [maxLen] at h63; omega
 have hmb : m * i.bytes ≤ 140737488355328 := Nat.le_trans (Nat.mul_le_mul_right _ (by omega)) hbytes
 have hold : (Builtin.firstCells i.size n (.slice A n c)).run P w.drew = .ok xs.toArray w.drew := by
  rcases ho.2 with ⟨hv, hn⟩ | ⟨g, cap, cur, hv, _⟩
  ·injection hv with hA
   subst hA hn;have : xs = [] := List.eq_nil_of_length_eq_zero (by simpa using ho.len);subst this;exact run_firstCells_none (P := P) w.drew _ _ _ _
  ·injection hv with hA
   subst hA;have holds := World.ownsRow.cells ho (g := g) rfl;exact run_firstCells_some (P := P) w.drew i.size n ⟨g, 0, none⟩ n c xs ho.len (by simpa using holds)
 have hr := Lib.run_append_grow_zeros (P := P) w t tn ty e i z kq kn ht htn hi hz A n c xs hold m h0 hs hg (by omega) (by omega) (growslice_fits hg hbytes);have hge := grownCap_ge w (n + m) c e;have hcm : grownCap w (n + m) c e ≤ maxLen := grownCap_le_maxLen w (n + m) c e h63;refine ⟨_, _, (Builtin.zeroCells z.cells m).toList, hr, Own.of_row (Arr.new w.drew _ e) hB hge hcm ?_ ?_, by simp [size_zeroCells, hzs], ⟨rfl, rfl, rfl, by simp, fun k hk _ => Below.heap_alloc w.drew _ k hk⟩⟩
 ·simp [size_zeroCells, hzs, ho.len]
  rw [← Nat.add_mul, ← Nat.add_mul]
  congr 1
  omega
 ·simp only [Array.toList_append, List.append_assoc]
  rw [← List.append_assoc, List.take_left' (by simp [size_zeroCells, hzs, ho.len, Nat.add_mul])]
end
end
section
theorem zmd {α : Type} {cf : α → List Value} {size n j : Nat} {l : List α} {a : α} (hw : Wid cf size l) (hn : l.length = n) (hj : j < n) (ha : (cf a).length = size) (ys : List Value) : splice (zm cf l ++ ys) (j * size) (cf a) = zm cf (l.set j a) ++ ys := by
 have hlen : (zm cf l).length = n * size := by rw [zaa hw, hn]
 have h1 : (j + 1) * size ≤ n * size := Nat.mul_le_mul_right _ hj;have h2 : j * size + size = (j + 1) * size := (Nat.succ_mul j size).symm;have h3 : j * size ≤ (j + 1) * size := by omega
 have e1 : (zm cf l ++ ys).take (j * size) = zm cf (l.take j) := by rw [List.take_append_of_le_length (by omega), ← zbq hw]
 have e2 : (zm cf l ++ ys).drop (j * size + size) = zm cf (l.drop (j + 1)) ++ ys := by rw [h2, List.drop_append_of_le_length (by omega), ← zfb hw]
 rw [splice, ha, e1, e2, List.set_eq_take_append_cons_drop, if_pos (by omega), zas, zcj];simp only [List.append_assoc]
theorem znl {P : Program} {α : Type} {cf : α → List Value} {w : World} {B T size n c g j : Nat} {l : List α} {a : α} (hs : (P.info? T).map (·.size) = some size) (ho : Own w B T size (some ⟨g, 0, none⟩) n c (zm cf l)) (hw : Wid cf size l) (hn : l.length = n) (hj : j < n) (ha : (cf a).length = size) (h1 : One (cf a)) :
 ∃ cur' : Array Value, (∀ W, Fr w W → (stS T (.pointer (some ⟨g, j * size, none⟩)) (.agg (cf a).toArray)).run P W = .ok () (W.setRow g cur')) ∧ (∀ W, Fr w W → Own (W.setRow g cur') B T size (some ⟨g, 0, none⟩) n c (zm cf (l.set j a))) ∧
  (∀ W, Fr w W → w.heap.size ≤ W.heap.size → ∀ B', B' ≤ B → B' ≤ w.heap.size → Below B' w (W.setRow g cur')) := by
 obtain ⟨-, hb, hnc, hcm, cur, hg, hcs, hct⟩ := ho.row;have hle : n * size ≤ c * size := Nat.mul_le_mul_right _ hnc;have h9 : (j + 1) * size ≤ n * size := Nat.mul_le_mul_right _ hj;have h2 : j * size + size = (j + 1) * size := (Nat.succ_mul j size).symm;have e0 : cur.toList = zm cf l ++ cur.toList.drop (n * size) := by rw [← hct, List.take_append_drop]
 have hlen : (zm cf l).length = n * size := by rw [zaa hw, hn]
 have hlset : (zm cf (l.set j a)).length = n * size := by
  rw [zaa (n := size) (fun b hb => by
   rcases List.mem_or_eq_of_mem_set hb with h | h
   ·exact hw b h
   ·rw [h]; exact ha), List.length_set, hn]
 have hA : ∀ W, Fr w W → Arr W g T cur.toList.toArray := fun W h => by simpa using hg.below h hg.lt
 have esp : splice cur.toList (j * size) (cf a) = zm cf (l.set j a) ++ cur.toList.drop (n * size) := by
  have := zmd hw hn hj ha (cur.toList.drop (n * size));rw [← e0] at this;exact this
 have hcl : cur.toList.length = c * size := by rw [Array.length_toList, hcs]
 refine ⟨(zm cf (l.set j a) ++ cur.toList.drop (n * size)).toArray, fun W h => ?_, fun W h => ?_, fun W h hsz B' h1 h2 => ?_⟩
 ·simp only [stS, Instr.storeAt, Instr.sureAddr, Sem.run_bind, Sem.run_pure, Result.andThen_ok]
  rw [zcm (v := .agg (cf a).toArray) (ds := cf a) hs rfl ha h1 (hA W h) (by omega), esp]
 ·refine Own.of_row ((hA W h).setRow _) hb hnc hcm ?_ ?_
  ·simp only [List.size_toArray, List.length_append, List.length_drop, hlset, hcl]
   omega
  ·simp only
   exact List.take_left' hlset
 ·exact ((h.mono h2)).trans ⟨rfl, rfl, rfl, by simp [World.setRow], fun k hk => setRow_other W g k _ (by omega)⟩
end
end Go.Proofs.YtmjjjdikpnhpiaaGreat
