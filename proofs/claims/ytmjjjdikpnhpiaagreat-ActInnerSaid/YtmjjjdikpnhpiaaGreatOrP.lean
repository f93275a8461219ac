/- Package 03's Order at this seat. -/
import Derived.Test.YtmjjjdikpnhpiaaGreatLfF
import Derived.Test.YtmjjjdikpnhpiaaGreatShort
import Derived.Test.YtmjjjdikpnhpiaaGreatBufT
import Derived.Test.YtmjjjdikpnhpiaaGreatKeyA
import Derived.Deep.Slices
import Derived.ProofKit
import Derived.OpenShut
import Derived.SliceStrings
import Derived.Test.YtmjjjdikpnhpiaaGreatValA
import Derived.Test.YtmjjjdikpnhpiaaGreatMsg0
import Derived.Test.YtmjjjdikpnhpiaaGreatValC
import Derived.ChangeSlices
import Derived.ChangeArms
import Derived.Test.YtmjjjdikpnhpiaaGreatBufL
import Derived.Test.YtmjjjdikpnhpiaaGreatLfA
import Derived.Maps.RangeWalk
import Derived.Deep.RegionLaw
import Derived.Deep.RegionWith
import Derived.Lib.AppendZeros
import Derived.Deep.RegionHeld3
namespace Go.Proofs.YtmjjjdikpnhpiaaGreat
set_option linter.unusedVariables false
set_option linter.unusedSimpArgs false
set_option maxRecDepth 100000
open Go.RowKit
section
open Go.Maps
def zbv (ks : List RK) : List Value := ks.flatMap kc
theorem zg9 (a b : List RK) : zbv (a ++ b) = zbv a ++ zbv b := by simp [zbv]
theorem zd4 : ∀ ks : List RK, (zbv ks).length = ks.length * 9
 | [] => rfl
 | k :: ks => by
  have := zd4 ks;simp only [zbv, List.flatMap_cons, List.length_append, List.length_cons] at this ⊢;rw [this, Nat.add_mul]; simp; omega
theorem zol (ks : List RK) (m : Nat) : zbv (ks.take m) = (zbv ks).take (m * 9) := by
 induction ks generalizing m with
 | nil => simp [zbv]
 | cons k ks ih =>
  cases m with
  | zero => simp [zbv]
  | succ m =>
   have h : (m + 1) * 9 = (kc k).length + m * 9 := by simp; omega
   show zbv (k :: ks.take m) = (kc k ++ zbv ks).take ((m + 1) * 9)
   rw [h, List.take_length_add_append]
   show kc k ++ zbv (ks.take m) = _
   rw [ih]
theorem zi8 (ks : List RK) (m : Nat) : zbv (ks.drop m) = (zbv ks).drop (m * 9) := by
 have h1 : zbv ks = zbv (ks.take m) ++ zbv (ks.drop m) := by rw [← zg9, List.take_append_drop]
 by_cases h : m ≤ ks.length
 ·have h2 : (zbv (ks.take m)).length = m * 9 := by rw [zd4, List.length_take, Nat.min_eq_left h]
  rw [h1, List.drop_append_of_le_length (by omega), ← h2, List.drop_length, List.nil_append]
 ·rw [List.drop_eq_nil_of_le (by omega), List.drop_eq_nil_of_le (by rw [zd4]; omega)]; rfl
theorem flat_get {ks : List RK} {j : Nat} {k : RK} (h : ks[j]? = some k) (t : Nat) (ht : t < 9) : (zbv ks)[j * 9 + t]? = (kc k)[t]? := by
 rw [← List.getElem?_drop, ← zi8];have hj := (List.getElem?_eq_some_iff.1 h).1;rw [List.drop_eq_getElem_cons hj];have e : ks[j] = k := by rw [List.getElem?_eq_getElem hj] at h; injection h
 rw [e]
 show (kc k ++ zbv _)[t]? = _
 rw [List.getElem?_append_left (by simpa using ht)]
theorem zlc (ks : List RK) : ∀ v ∈ zbv ks, v.oneCell' = true := by
 intro v hv;obtain ⟨k, _, hk⟩ := List.mem_flatMap.1 hv;simp at hk
 rcases hk with rfl | rfl | rfl | rfl | rfl | rfl | rfl | rfl | rfl <;> rfl
def zeN (w : World) (b off : Nat) (k : RK) : Prop := ∀ j v, (kc k)[j]? = some v → w.cell? ⟨b, off + j, none⟩ = some v
theorem znp {w : World} {B : Nat} {A : Option Addr} {ks : List RK} (h : Has w B A (zbv ks)) {j : Nat} {k : RK} (hk : ks[j]? = some k) : ∃ b off, A = some ⟨b, off, none⟩ ∧ b < B ∧ zeN w b (off + j * 9) k := by
 have hne : zbv ks ≠ [] := by
  intro e;have h1 := zd4 ks;rw [e] at h1;have := (List.getElem?_eq_some_iff.1 hk).1;simp at h1;omega
 obtain ⟨b, off, e, hb, hc⟩ := h.form hne;refine ⟨b, off, e, hb, fun t v ht => ?_⟩;have h9 : t < 9 := (List.getElem?_eq_some_iff.1 ht).1;rw [Nat.add_assoc];exact hc (j * 9 + t) v (by rw [flat_get hk t h9]; exact ht)
theorem zeN.lift {w w' : World} {b off : Nat} {k : RK} (h : zeN w b off k) (hc : ∀ p : Addr, p.block = b → w'.cell? p = w.cell? p) : zeN w' b off k := fun j v hj => (hc _ rfl).trans (h j v hj)
theorem zeN.below {w w' : World} {b off B : Nat} {k : RK} (h : zeN w b off k) (hb : Below B w w') (hl : b < B) : zeN w' b off k := h.lift fun p hp => hb.cell (by rw [hp]; exact hl)
theorem key_agg (w : World) : (isAgg 33).run Tryz.prog w = .ok true w := by kernel_rfl
theorem zkd {w : World} {b off : Nat} {k : RK} (h : zeN w b off k) : (loadVar 33 ⟨b, off, none⟩).run Tryz.prog w = .ok (kv k) w := by
 have hl : (loadCells ⟨b, off, none⟩ (kc k).length).run Tryz.prog w = .ok (kc k).toArray w :=
  run_loadCells_list (P := Tryz.prog) w ⟨b, off, none⟩ (kc k) (fun j v hv => by rw [Addr.add_lit]; exact h j v hv)
 have hi := zC
 cases hq : Tryz.prog.info? 33 with
 | none => simp [hq] at hi
 | some i =>
  have hs : i.size = 9 := by simpa [hq] using hi
  have hl9 : (loadCells ⟨b, off, none⟩ 9).run Tryz.prog w = .ok (kc k).toArray w := hl;have hg := key_agg w;simp [loadVar, Sem.run_bind, hg, sizeOf, typeInfo, hq, hs, hl9]
theorem zeE {ops : Array Oper} {rest : List Oper} {o : Oper} {a : Act} {w : World} {Q : Exit → Act → World → Prop} (hgd : o.guard = none) (x : Operand) (ho : o.op = .load 33 x)
 (b off : Nat) (k : RK) (hx : a.eval x = .pointer (some ⟨b, off, none⟩)) (hk : zeN w b off k)
 (h : wpList Tryz.prog ops Q rest (a.put o.dst (kv k)) w) : wpList Tryz.prog ops Q (o :: rest) a w :=
 wpList_plain hgd fun K hK => by
  unfold Oper.wp execOp;simp only [ho, hx, Instr.loadAt, Instr.sureAddr, Sem.run_bind, Sem.run_pure, Result.andThen_ok, zkd hk];exact hK _ _ h
theorem zeN.cells {w : World} {b off : Nat} {k : RK} (h : zeN w b off k) : w.cell? ⟨b, off, none⟩ = some (.int .i64 k.n) ∧ w.cell? ⟨b, off + 1, none⟩ = some (.int .u8 k.b0) ∧ w.cell? ⟨b, off + 2, none⟩ = some (.int .u8 k.b1) ∧ w.cell? ⟨b, off + 3, none⟩ = some (.int .u8 k.b2) ∧ w.cell? ⟨b, off + 4, none⟩ = some (.int .u8 k.b3) ∧ w.cell? ⟨b, off + 5, none⟩ = some (.int .u8 k.b4) ∧ w.cell? ⟨b, off + 6, none⟩ = some (.int .u8 k.b5) ∧ w.cell? ⟨b, off + 7, none⟩ = some (.int .u8 k.b6) ∧ w.cell? ⟨b, off + 8, none⟩ = some (.int .u8 k.b7) :=
 ⟨h 0 _ rfl, h 1 _ rfl, h 2 _ rfl, h 3 _ rfl, h 4 _ rfl, h 5 _ rfl, h 6 _ rfl, h 7 _ rfl, h 8 _ rfl⟩
theorem zoj {α : Type} {l : List α} {j : Nat} {x : α} (h : l[j]? = some x) : l.take (j + 1) = l.take j ++ [x] := by
 rw [List.take_add_one, h]; rfl
def WfAll (ks : List RK) : Prop := ∀ k ∈ ks, k.wf
def ze5 (ks os : List RK) : Prop := os.Pairwise (fun a b => zu a < zu b) ∧ ∀ k, k ∈ os ↔ k ∈ ks ∧ okB k = true
theorem zn7 {ks ls os ps : List RK} (h : ze5 ks os) (h2 : ze5 ls ps) (he : ∀ k, k ∈ ks ↔ k ∈ ls) : os = ps := by
 have hm : ∀ k, k ∈ os ↔ k ∈ ps := fun k => by rw [h.2, h2.2, he]
 obtain ⟨p1, g1⟩ := h;obtain ⟨p2, g2⟩ := h2;clear he g1 g2
 induction os generalizing ps with
 | nil =>
  cases ps with
  | nil => rfl
  | cons y ps => exact absurd ((hm y).2 (by simp)) (by simp)
 | cons x os ih =>
  cases ps with
  | nil => exact absurd ((hm x).1 (by simp)) (by simp)
  | cons y ps =>
   obtain ⟨a1, a2⟩ := List.pairwise_cons.1 p1;obtain ⟨b1, b2⟩ := List.pairwise_cons.1 p2
   have e : x = y := by
    rcases List.mem_cons.1 ((hm x).1 (by simp)) with e | e
    ·exact e
    ·rcases List.mem_cons.1 ((hm y).2 (by simp)) with e2 | e2
     ·exact e2.symm
     ·have := a1 y e2; have := b1 x e; omega
   subst e
   have : os = ps := ih (fun k => by
    have := hm k;simp only [List.mem_cons] at this;constructor
    ·intro hk
     rcases this.1 (.inr hk) with e | e
     ·subst e; have := a1 k hk; omega
     ·exact e
    ·intro hk
     rcases this.2 (.inr hk) with e | e
     ·subst e; have := b1 k hk; omega
     ·exact e) a2 b2
   rw [this]
theorem info_key : (Tryz.prog.info? 33).map (fun i => (i.zero, i.size, i.bytes)) = some (some (kv zr), 9, 16) := by kernel_rfl
theorem zby (w : World) (k : RK) (t : TypeId) : Has (w.alloc (.cells (kc k).toArray t)) (w.heap.size + 1) (some ⟨w.heap.size, 0, none⟩) (kc k) := by
 intro j u hu;exact ⟨_, _, rfl, by omega, by rw [Nat.zero_add]; exact ((Arr.new w (kc k).toArray t).cell j).trans (by simpa using hu)⟩
def OrdOut (w : World) (ks : List RK) (e : Ending) (w' : World) : Prop := ∃ A c os, e = .returned (.slice A os.length c) ∧ ze5 ks os ∧ Own w' w.heap.size 33 9 A os.length c (zbv os) ∧ Fr w w'
theorem zag {w0 w : World} {ops : Array Oper} {o : Oper} {a : Act} {K : Act → World → Prop} {Q : Exit → Act → World → Prop} {E : Prop} (hgd : o.guard = none) (s x : Operand)
 (hop : o.op = .call { callee := .builtin .append, args := #[s, x], argTypes := #[24, 24] }) (h0 : Fr w0 w)
 (A : Option Addr) (n c : Nat) (l : List RK) (hs : a.eval s = .slice A n c) (ho : Own w w0.heap.size 33 9 A n c (zbv l))
 (C : Nat) (A2 : Option Addr) (m c2 : Nat) (l2 : List RK) (hx : a.eval x = .slice A2 m c2) (hl : l2.length = m) (hn : Has w C A2 (zbv l2)) (hb : n + m ≤ 3000000)
 (h : ∀ A' c' w', Own w' w0.heap.size 33 9 A' (n + m) c' (zbv (l ++ l2)) → Fr w0 w' → w.grownBy w' (blk A) → K (a.put o.dst (.slice A' (n + m) c')) w') :
 if Region.wanted o (yielded ops a.tmps) = true then Oper.wp Tryz.prog o a w K Q else E := by
 rw [if_pos (by simp [Region.wanted, hgd])];obtain ⟨i0, hi0, hz0, hz1, hz2⟩ := info_parts info_key;obtain ⟨A', c', w', hr, h1, h2, h3⟩ := zcM (P := Tryz.prog) w w0.heap.size 24 o.type 33 i0 _ 9 16 Tryz.underlying24 hi0 hz0 hz1 hz2 rfl (by omega) A n c (zbv l) ho C A2 m c2 (zbv l2) (by rw [zd4, hl]) hn (zlc _) (by unfold maxLen; omega) (by omega) h0.size;exact Lib.wp_append_run w s x _ _ hop _ _ hs hx _ _ hr (h A' c' w' (by rw [zg9]; exact h1) (zat h0 ho h2 h0.size (Nat.le_refl _)) h2)
def zfs (os : List RK) (t : Nat) (k : RK) : List RK := os.take t ++ [k] ++ os.drop t
theorem zmU {ks os : List RK} {k : RK} (h : ze5 ks os) (ok : okB k = true) (t : Nat) (ht : t ≤ os.length) (h1 : ∀ q x, q < t → os[q]? = some x → zu x < zu k) (h2 : ∀ x, os[t]? = some x → zu k < zu x) : ze5 (ks ++ [k]) (zfs os t k) := by
 have hpt := (List.pairwise_append.1 (by rw [List.take_append_drop]; exact h.1 : ((os.take t) ++ (os.drop t)).Pairwise _));obtain ⟨p1, p2, p3⟩ := hpt
 have q1 : ∀ x ∈ os.take t, zu x < zu k := fun x hx => by
  obtain ⟨q, hq⟩ := List.mem_iff_getElem?.1 hx;have hqt : q < t := by have := (List.getElem?_eq_some_iff.1 hq).1; simp at this; omega
  rw [List.getElem?_take_of_lt hqt] at hq;exact h1 q x hqt hq
 have q2 : ∀ x ∈ os.drop t, zu k < zu x := fun x hx => by
  cases hd : os.drop t with
  | nil => rw [hd] at hx; simp at hx
  | cons y r =>
   have hy : os[t]? = some y := by
    have := congrArg (·[0]?) hd
    simpa [List.getElem?_drop] using this
   have h3 := h2 y hy;rw [hd] at hx p2
   rcases List.mem_cons.1 hx with e | e
   ·rw [e]; exact h3
   ·have := (List.pairwise_cons.1 p2).1 x e; omega
 refine ⟨?_, fun x => ?_⟩
 ·unfold zfs
  rw [List.pairwise_append, List.pairwise_append];refine ⟨⟨p1, by simp, fun a ha b hb => ?_⟩, p2, fun a ha b hb => ?_⟩
  ·simp at hb; rw [hb]; exact q1 a ha
  ·rcases List.mem_append.1 ha with e | e
   ·exact p3 a e b hb
   ·simp at e; rw [e]; exact q2 b hb
 ·have hm : x ∈ zfs os t k ↔ x ∈ os ∨ x = k := by
   unfold zfs;constructor
   ·intro hx
    rcases List.mem_append.1 hx with e | e
    ·rcases List.mem_append.1 e with e | e
     ·exact .inl (List.mem_of_mem_take e)
     ·simp at e; exact .inr e
    ·exact .inl (List.mem_of_mem_drop e)
   ·rintro (e | e)
    ·rw [← List.take_append_drop t os] at e
     rcases List.mem_append.1 e with e | e
     ·simp [e]
     ·simp [e]
    ·simp [e]
  rw [hm, h.2 x, List.mem_append, List.mem_singleton];constructor
  ·rintro (⟨a, b⟩ | rfl)
   ·exact ⟨.inl a, b⟩
   ·exact ⟨.inr rfl, ok⟩
  ·rintro ⟨a | a, b⟩
   ·exact .inl ⟨a, b⟩
   ·exact .inr a
theorem zls {ks os : List RK} {k : RK} (h : ze5 ks os) (hk : okB k = false ∨ k ∈ os) : ze5 (ks ++ [k]) os := by
 refine ⟨h.1, fun x => ?_⟩;rw [List.mem_append, List.mem_singleton];constructor
 ·intro hx
  have := (h.2 x).1 hx;exact ⟨.inl this.1, this.2⟩
 ·rintro ⟨a | rfl, b⟩
  ·exact (h.2 x).2 ⟨a, b⟩
  ·rcases hk with e | e
   ·rw [e] at b; cases b
   ·exact e
theorem ord_len {ks os : List RK} (h : ze5 ks os) : os.length ≤ ks.length := by
 have h1 : os.Nodup := h.1.imp fun {a b} hl e => by rw [e] at hl; omega
 exact h1.length_le_of_subset fun k hk => ((h.2 k).1 hk).1
theorem ord_nil : ze5 [] [] := ⟨List.Pairwise.nil, fun k => by simp⟩
def zac (A : Option Addr) (cap t : Nat) : Option Addr := if cap = t then A else A.map (·.add (t * 9))
theorem zlj (A : Option Addr) : A.map (·.add 0) = A := by cases A <;> simp [Addr.add]
theorem zfz (w : World) : (sizeOf (Tryz.prog.elem 24)).run Tryz.prog w = .ok 9 w := by kernel_rfl
theorem zeq : Tryz.prog.underlying 24 = some (.slice (Tryz.prog.elem 24)) := by kernel_rfl
theorem zdo (A : Option Addr) (n c t : Nat) (ht : t ≤ n) (hc : n ≤ c) (W : World) : (Instr.slice 24 (.slice A n c) none (some (.int .i64 (t : Int))) none).run Tryz.prog W = .ok (.slice A t c) W := by
 rw [run_slice_h (P := Tryz.prog) (w := W) (t := 24) (ht := zeq) A n c .i64 (t : Int) (by omega) (by omega), zfz];simp only [Result.andThen, sliced, Int.toNat_natCast, Nat.zero_mul, zlj, Nat.sub_zero, ite_self]
theorem zdp (A : Option Addr) (n c t : Nat) (ht : t ≤ n) (hc : n ≤ c) (W : World) : (Instr.slice 24 (.slice A n c) (some (.int .i64 (t : Int))) none none).run Tryz.prog W = .ok (.slice (zac A c t) (n - t) (c - t)) W := by
 rw [run_slice_l (P := Tryz.prog) (w := W) (t := 24) (ht := zeq) A n c .i64 (t : Int) (by omega) (by omega), zfz];simp only [Result.andThen, sliced, Int.toNat_natCast, zac]
theorem zb0 (A : Option Addr) (n c t : Nat) (ht : t ≤ n) (hc : n ≤ c) (W : World) : (Instr.sliceAt 24 (.slice A n c) none (some (.int .i64 (t : Int))) none).run Tryz.prog W = .ok (.slice A t c) W := by
 rw [run_sliceAt_slice (P := Tryz.prog) (w := W) (h := zeq), zdo A n c t ht hc]
theorem zdF (A : Option Addr) (n c t : Nat) (ht : t ≤ n) (hc : n ≤ c) (W : World) : (Instr.sliceAt 24 (.slice A n c) (some (.int .i64 (t : Int))) none none).run Tryz.prog W = .ok (.slice (zac A c t) (n - t) (c - t)) W := by
 rw [run_sliceAt_slice (P := Tryz.prog) (w := W) (h := zeq), zdp A n c t ht hc]
theorem zf3 {W : World} {B : Nat} {A : Option Addr} {os : List RK} {c t : Nat} (h : Has W B A (zbv os)) (ht : t ≤ os.length) (hc : os.length ≤ c) : Has W B (zac A c t) (zbv (os.drop t)) := by
 by_cases he : os.drop t = []
 ·rw [he]; exact Has.nil
 ·have hlt : t < os.length := by
   rcases Nat.lt_or_ge t os.length with h1 | h1
   ·exact h1
   ·exact absurd (List.drop_eq_nil_of_le h1) he
  obtain ⟨b, off, rfl, hb, hc2⟩ := h.form (fun e => by have := zd4 os; rw [e] at this; simp at this; omega);unfold zac;rw [if_neg (by omega), zi8];have h2 := Has.drop h (t * 9)
  simpa [Addr.add_lit] using h2
theorem zib {W : World} {B : Nat} {A : Option Addr} {os : List RK} (h : Has W B A (zbv os)) (t : Nat) : Has W B A (zbv (os.take t)) := by
 rw [zol]; exact h.take _
theorem zkZ {W w5 : World} {k : RK} (hg : (W.alloc (.cells (kc k).toArray 33)).drew.grownBy w5 (blk none)) : Has w5 (W.heap.size + 1) (some ⟨W.heap.size, 0, none⟩) (zbv [k]) := by
 have h1 : Has (W.alloc (.cells (kc k).toArray 33)) (W.heap.size + 1) (some ⟨W.heap.size, 0, none⟩) (zbv [k]) := by simpa [zbv] using zby W k 33
 refine h1.lift fun p hp => World.cell?_of_block ?_;exact hg.block p.block (by show p.block < (W.alloc _).heap.size; simpa using hp) (by simp [blk])
theorem zhs (os : List RK) (t : Nat) (k : RK) (ht : t ≤ os.length) : (zfs os t k).length = os.length + 1 := by
 unfold zfs;simp; omega
set_option maxHeartbeats 8000000 in
theorem zn1 (A : Option Addr) (n c : Nat) (ks : List RK) (w : World) (hl : ks.length = n) (hn : n ≤ 1000000) (hw : WfAll ks) (hr : Has w w.heap.size A (zbv ks)) :
 Calls Tryz.prog 39 #[.slice A n c] w (OrdOut w ks) := by
 have Hl := zb hl;clear hl;go_enter Tryz.func39, Tryz.ntmps39;go_wp2_with fail
 go_loopg [3, 4] n (fun g v i wr => ∃ (j : Nat) (D : Option Addr) (d : Nat) (os : List RK), j + g = n ∧ i = .int .i64 j ∧ v = .slice D os.length d ∧ Own wr w.heap.size 33 9 D os.length d (zbv os) ∧ ze5 (ks.take j) os ∧ Fr w wr)
 case atStart => exact ⟨0, none, 0, [], by omega, rfl, rfl, Own.nil _ _ _ _, by rw [List.take_zero]; exact ord_nil, ze w⟩
 case round =>
  obtain ⟨i, D, d, os, hj, rfl, rfl, hown, hord, hF⟩ := hrel;obtain ⟨go, rfl⟩ : ∃ go : Nat, go = gk := ⟨_, rfl⟩;have Hj := zb hj;have Ho := zb hord
  by_cases hlt : i < n
  ·obtain ⟨k, hk⟩ : ∃ k, ks[i]? = some k := ⟨ks[i]'(by have := Hl.out; omega), List.getElem?_eq_getElem _⟩
   have wk : k.wf := hw k (List.mem_of_getElem? hk);obtain ⟨b, off, rfl, hb, hka⟩ := znp hr hk;have Ht := zb (zoj hk);have hol : os.length ≤ 1000000 := by have := ord_len hord; simp at this; omega
   have hka1 := hka.below hF hb;clear hj hk hord
   by_cases ok : okB k = true
   ·go_wp2_with (first
     | (refine zeE rfl (.tmp 15) rfl b (off + i * 9) k rfl hka1 ?_)
     | (go_at_call 68; refine (zgO k wk _).mono ?_; rw [ok]; rintro e w2 ⟨rfl, hb2⟩
        have hown2 := hown.below hb2 (Nat.le_refl _);have hF2 := za hF hb2;clear hb2)
     | fail)
    have hD := hown2.has;have hcap := hown2.cap;have hb2 : b < w2.heap.size := Nat.lt_of_lt_of_le hb hF2.size;have hka2 := hka.below hF2 hb;have Hord := zb (fun x (hx : x ∈ os) => (Ho.out.2 x).1 hx)
    go_loopg [5] os.length (fun g at_ wr => ∃ t : Nat, t + g = os.length ∧ at_ = .int .i64 t ∧ Hid (∀ q x, q < t → os[q]? = some x → zu x < zu k) ∧ Fr w2 wr)
    case atStart => exact ⟨0, by omega, rfl, zb fun q x hq => by omega, ze w2⟩
    case round =>
     clear hF;obtain ⟨t, ht, rfl, Hq, hF⟩ := hrel;have HT := zb ht
     by_cases hlt2 : t < os.length
     ·obtain ⟨x, hx⟩ : ∃ x, os[t]? = some x := ⟨os[t], List.getElem?_eq_getElem _⟩
      have hxm := Hord.out x (List.mem_of_getElem? hx);have wx : x.wf := hw x (List.mem_of_mem_take hxm.1);have ox := hxm.2;obtain ⟨g, og, rfl, hgb, hxa⟩ := znp hD hx;obtain ⟨x0, x1, x2, x3, x4, x5, x6, x7, x8⟩ := (hxa.below hF hgb).cells;obtain ⟨k0, k1, k2, k3, k4, k5, k6, k7, k8⟩ := (hka2.below hF hb2).cells;have hzz := hF.size;have Hx := zb hx;clear hxm ht hx
      by_cases hcd : zu x < zu k
      ·have hcc := fun W => zdQ x k wx wk ox ok W
       rw [show zaB x k = -1 from zgr hcd] at hcc;have Hc := zb hcd;clear hcd;go_wp2_with fail
       go_region_held3 (fun w' => w'.cell? ⟨g, og + t * 9, none⟩ = some (.int .i64 x.n) ∧ w'.cell? ⟨g, og + t * 9 + 1, none⟩ = some (.int .u8 x.b0) ∧ w'.cell? ⟨g, og + t * 9 + 2, none⟩ = some (.int .u8 x.b1) ∧ w'.cell? ⟨g, og + t * 9 + 3, none⟩ = some (.int .u8 x.b2) ∧ w'.cell? ⟨g, og + t * 9 + 4, none⟩ = some (.int .u8 x.b3) ∧ w'.cell? ⟨g, og + t * 9 + 5, none⟩ = some (.int .u8 x.b4) ∧ w'.cell? ⟨g, og + t * 9 + 6, none⟩ = some (.int .u8 x.b5) ∧ w'.cell? ⟨g, og + t * 9 + 7, none⟩ = some (.int .u8 x.b6) ∧ w'.cell? ⟨g, og + t * 9 + 8, none⟩ = some (.int .u8 x.b7) ∧ w'.cell? ⟨b, off + i * 9, none⟩ = some (.int .i64 k.n) ∧ w'.cell? ⟨b, off + i * 9 + 1, none⟩ = some (.int .u8 k.b0) ∧ w'.cell? ⟨b, off + i * 9 + 2, none⟩ = some (.int .u8 k.b1) ∧ w'.cell? ⟨b, off + i * 9 + 3, none⟩ = some (.int .u8 k.b2) ∧ w'.cell? ⟨b, off + i * 9 + 4, none⟩ = some (.int .u8 k.b3) ∧ w'.cell? ⟨b, off + i * 9 + 5, none⟩ = some (.int .u8 k.b4) ∧ w'.cell? ⟨b, off + i * 9 + 6, none⟩ = some (.int .u8 k.b5) ∧ w'.cell? ⟨b, off + i * 9 + 7, none⟩ = some (.int .u8 k.b6) ∧ w'.cell? ⟨b, off + i * 9 + 8, none⟩ = some (.int .u8 k.b7) ∧ Fr w2 w' ∧ w2.heap.size ≤ w'.heap.size)
        (first
         | (go_split_ands; exact ⟨x0, x1, x2, x3, x4, x5, x6, x7, x8, k0, k1, k2, k3, k4, k5, k6, k7, k8, zn hF, hF.size⟩)
         | (go_split_ands
            refine ⟨?_, ?_, ?_, ?_, ?_, ?_, ?_, ?_, ?_, ?_, ?_, ?_, ?_, ?_, ?_, ?_, ?_, ?_, ?_, ?_⟩
            all_goals first | (rw [hb3.cell (by simp; omega)]; assumption) | (refine za ?_ hb3; assumption) | (refine Nat.le_trans ?_ hb3.size; assumption)))
        (first | (go_at_call 26; refine (hcc _).mono ?_; rintro e w3 ⟨rfl, hb3⟩))
       rename_i hH;obtain ⟨z0, z1, z2, z3, z4, z5, z6, z7, z8, y0, y1, y2, y3, y4, y5, y6, y7, y8, hF3, hz3⟩ := hH;clear x0 x1 x2 x3 x4 x5 x6 x7 x8 k0 k1 k2 k3 k4 k5 k6 k7 k8 hb3 hF hzz hcc;go_wp2_with fail
       go_roundg (gk - 1)
       case measure => have := HT.out; omega
       case rel => exact ⟨t + 1, by have := HT.out; omega, by go_num, zb (fun q x' hq hx' => by
        by_cases e : q = t
        ·subst e; rw [Hx.out] at hx'; injection hx' with hx'; rw [← hx']; exact Hc.out
        ·exact Hq.out q x' (by omega) hx'), hF3⟩
      ·by_cases hxk : x = k
       ·have hcc := fun W => zdQ x k wx wk ox ok W
        rw [show zaB x k = 0 from zhF (by rw [hxk])] at hcc;have heq : ∀ W, (binOp .eql 33 (kv x) (kv k)).run Tryz.prog W = .ok (.bool true) W := fun W => by simpa [hxk] using zcH wx wk W
        have Hm : Hid (k ∈ os) := zb (by rw [← hxk]; exact List.mem_of_getElem? Hx.out);clear hcd hxk;go_wp2_with fail
        go_region_held3 (fun w' => w'.cell? ⟨g, og + t * 9, none⟩ = some (.int .i64 x.n) ∧ w'.cell? ⟨g, og + t * 9 + 1, none⟩ = some (.int .u8 x.b0) ∧ w'.cell? ⟨g, og + t * 9 + 2, none⟩ = some (.int .u8 x.b1) ∧ w'.cell? ⟨g, og + t * 9 + 3, none⟩ = some (.int .u8 x.b2) ∧ w'.cell? ⟨g, og + t * 9 + 4, none⟩ = some (.int .u8 x.b3) ∧ w'.cell? ⟨g, og + t * 9 + 5, none⟩ = some (.int .u8 x.b4) ∧ w'.cell? ⟨g, og + t * 9 + 6, none⟩ = some (.int .u8 x.b5) ∧ w'.cell? ⟨g, og + t * 9 + 7, none⟩ = some (.int .u8 x.b6) ∧ w'.cell? ⟨g, og + t * 9 + 8, none⟩ = some (.int .u8 x.b7) ∧ w'.cell? ⟨b, off + i * 9, none⟩ = some (.int .i64 k.n) ∧ w'.cell? ⟨b, off + i * 9 + 1, none⟩ = some (.int .u8 k.b0) ∧ w'.cell? ⟨b, off + i * 9 + 2, none⟩ = some (.int .u8 k.b1) ∧ w'.cell? ⟨b, off + i * 9 + 3, none⟩ = some (.int .u8 k.b2) ∧ w'.cell? ⟨b, off + i * 9 + 4, none⟩ = some (.int .u8 k.b3) ∧ w'.cell? ⟨b, off + i * 9 + 5, none⟩ = some (.int .u8 k.b4) ∧ w'.cell? ⟨b, off + i * 9 + 6, none⟩ = some (.int .u8 k.b5) ∧ w'.cell? ⟨b, off + i * 9 + 7, none⟩ = some (.int .u8 k.b6) ∧ w'.cell? ⟨b, off + i * 9 + 8, none⟩ = some (.int .u8 k.b7) ∧ Fr w2 w' ∧ w2.heap.size ≤ w'.heap.size)
         (first
          | (go_split_ands; exact ⟨x0, x1, x2, x3, x4, x5, x6, x7, x8, k0, k1, k2, k3, k4, k5, k6, k7, k8, zn hF, hF.size⟩)
          | (go_split_ands
             refine ⟨?_, ?_, ?_, ?_, ?_, ?_, ?_, ?_, ?_, ?_, ?_, ?_, ?_, ?_, ?_, ?_, ?_, ?_, ?_, ?_⟩
             all_goals first | (rw [hb3.cell (by simp; omega)]; assumption) | (refine za ?_ hb3; assumption) | (refine Nat.le_trans ?_ hb3.size; assumption)))
         (first | (go_at_call 26; refine (hcc _).mono ?_; rintro e w3 ⟨rfl, hb3⟩))
        rename_i hH;obtain ⟨z0, z1, z2, z3, z4, z5, z6, z7, z8, y0, y1, y2, y3, y4, y5, y6, y7, y8, hF3, hz3⟩ := hH;clear x0 x1 x2 x3 x4 x5 x6 x7 x8 k0 k1 k2 k3 k4 k5 k6 k7 k8 hb3 hF hzz hcc;go_wp2_with fail
        go_quiet (fail)
        go_wp2_with fail
        go_roundg (go - 1)
        case measure => have := Hj.out; omega
        case rel => exact ⟨i + 1, some ⟨g, og, none⟩, d, os, by have := Hj.out; omega, by go_num, rfl, hown2.below (zbd hF3 nq) (Nat.le_refl _), by rw [Ht.out]; exact zls Ho.out (.inr Hm.out), za hF2 (zbd hF3 nq)⟩
       ·have hgt : zu k < zu x := by
         rcases Int.lt_trichotomy (zu k) (zu x) with h | h | h
         ·exact h
         ·exact absurd (zcI wx wk (zc2 ox) (zc2 ok) h.symm) hxk
         ·exact absurd h hcd
        have hcc := fun W => zdQ x k wx wk ox ok W;rw [show zaB x k = 1 from zfO hgt] at hcc;have heq : ∀ W, (binOp .eql 33 (kv x) (kv k)).run Tryz.prog W = .ok (.bool false) W := fun W => by simpa [hxk] using zcH wx wk W
        have Hi := zb (zmU (t := t) Ho.out ok (by omega) Hq.out (fun x' hx' => by rw [Hx.out] at hx'; injection hx' with hx'; rw [← hx']; exact hgt));have hte : t ≤ os.length := by omega
        clear hcd hxk hgt;go_wp2_with fail
        go_region_held3 (fun w' => w'.cell? ⟨g, og + t * 9, none⟩ = some (.int .i64 x.n) ∧ w'.cell? ⟨g, og + t * 9 + 1, none⟩ = some (.int .u8 x.b0) ∧ w'.cell? ⟨g, og + t * 9 + 2, none⟩ = some (.int .u8 x.b1) ∧ w'.cell? ⟨g, og + t * 9 + 3, none⟩ = some (.int .u8 x.b2) ∧ w'.cell? ⟨g, og + t * 9 + 4, none⟩ = some (.int .u8 x.b3) ∧ w'.cell? ⟨g, og + t * 9 + 5, none⟩ = some (.int .u8 x.b4) ∧ w'.cell? ⟨g, og + t * 9 + 6, none⟩ = some (.int .u8 x.b5) ∧ w'.cell? ⟨g, og + t * 9 + 7, none⟩ = some (.int .u8 x.b6) ∧ w'.cell? ⟨g, og + t * 9 + 8, none⟩ = some (.int .u8 x.b7) ∧ w'.cell? ⟨b, off + i * 9, none⟩ = some (.int .i64 k.n) ∧ w'.cell? ⟨b, off + i * 9 + 1, none⟩ = some (.int .u8 k.b0) ∧ w'.cell? ⟨b, off + i * 9 + 2, none⟩ = some (.int .u8 k.b1) ∧ w'.cell? ⟨b, off + i * 9 + 3, none⟩ = some (.int .u8 k.b2) ∧ w'.cell? ⟨b, off + i * 9 + 4, none⟩ = some (.int .u8 k.b3) ∧ w'.cell? ⟨b, off + i * 9 + 5, none⟩ = some (.int .u8 k.b4) ∧ w'.cell? ⟨b, off + i * 9 + 6, none⟩ = some (.int .u8 k.b5) ∧ w'.cell? ⟨b, off + i * 9 + 7, none⟩ = some (.int .u8 k.b6) ∧ w'.cell? ⟨b, off + i * 9 + 8, none⟩ = some (.int .u8 k.b7) ∧ Fr w2 w' ∧ w2.heap.size ≤ w'.heap.size)
         (first
          | (go_split_ands; exact ⟨x0, x1, x2, x3, x4, x5, x6, x7, x8, k0, k1, k2, k3, k4, k5, k6, k7, k8, zn hF, hF.size⟩)
          | (go_split_ands
             refine ⟨?_, ?_, ?_, ?_, ?_, ?_, ?_, ?_, ?_, ?_, ?_, ?_, ?_, ?_, ?_, ?_, ?_, ?_, ?_, ?_⟩
             all_goals first | (rw [hb3.cell (by simp; omega)]; assumption) | (refine za ?_ hb3; assumption) | (refine Nat.le_trans ?_ hb3.size; assumption)))
         (first | (go_at_call 26; refine (hcc _).mono ?_; rintro e w3 ⟨rfl, hb3⟩))
        rename_i hH;obtain ⟨z0, z1, z2, z3, z4, z5, z6, z7, z8, y0, y1, y2, y3, y4, y5, y6, y7, y8, hF3, hz3⟩ := hH;clear x0 x1 x2 x3 x4 x5 x6 x7 x8 k0 k1 k2 k3 k4 k5 k6 k7 k8 hb3 hF hzz hcc;go_wp2_with fail
        go_quiet (fail)
        go_wp2_with fail;have hFW : Fr w2 (w3.drewN nq) := zbd hF3 nq;obtain ⟨W, hW⟩ : ∃ W : World, W = w3.drewN nq := ⟨_, rfl⟩;rw [← hW] at hFW ⊢;clear hW;have hDW := (hD.below hFW).mono hFW.size;have hD1 := zib hDW t;have hdt : ¬ d = t := by omega
        have hD2 := zf3 (c := d) hDW hte hcap;have hD3 : Has W W.heap.size (some ⟨g, og + t * 9, none⟩) (zbv (os.drop t)) := by unfold zac at hD2; rw [if_neg hdt] at hD2; simpa [Addr.add_lit] using hD2
        clear hD2;have hkaW := hka2.below hFW hb2;have hbW : b < W.heap.size := Nat.lt_of_lt_of_le hb2 hFW.size;have hs1 := zb0 (some ⟨g, og, none⟩) os.length d t hte hcap;have Hl1 : Hid ((os.take t).length = t) := zb (by simp; omega);have Hl2 : Hid ((os.drop t).length = os.length - t) := zb (by simp);have HF : Hid (Fr w W) := zb (za hF2 hFW);obtain ⟨k0, k1, k2, k3, k4, k5, k6, k7, k8⟩ := hkaW.cells;clear hD hown hown2 hr hka hka1 hka2 hFW hDW z0 z1 z2 z3 z4 z5 z6 z7 z8 y0 y1 y2 y3 y4 y5 y6 y7 y8 hxa hgb hF3 hz3
        go_region_law (first
         | (refine zag (w0 := W) rfl (.tmp 52) (.tmp 55) rfl ?_ none 0 0 [] ?_ (Own.nil _ _ _ _) W.heap.size (some ⟨g, og, none⟩) t d (os.take t) ?_ Hl1.out ?_ (by omega) ?_
            ·with_reducible exact zn (ze W)
            ·go_simp
            ·go_simp
            ·exact hD1
            intro A1 c1 w5 ho5 hf5 hg5;rw [Nat.zero_add] at ho5;obtain ⟨k0, k1, k2, k3, k4, k5, k6, k7, k8⟩ := (hkaW.below hf5 hbW).cells)
         | (refine zag (w0 := W) rfl (.tmp 52) (.tmp 55) rfl ?_ none 0 0 [] ?_ (Own.nil _ _ _ _) W.heap.size (some ⟨g, og, none⟩) t d (os.take t) ?_ Hl1.out ?_ (by omega) ?_
            ·with_reducible exact zn (zf (ze W) _)
            ·go_simp
            ·go_simp
            ·exact hD1.below (zn (zf (ze W) _))
            intro A1 c1 w5 ho5 hf5 hg5;rw [Nat.zero_add] at ho5;have hkn := zkZ hg5)
         | (refine zag (w0 := W) rfl (.tmp 56) (.tmp 61) rfl ?_ A1 t c1 ([] ++ os.take t) ?_ (ho5.alloc _) (w5.heap.size + 1) (some ⟨w5.heap.size, 0, none⟩) 1 1 [k] ?_ rfl ?_ (by omega) ?_
            ·with_reducible exact zf hf5 _
            ·go_simp
            ·go_simp
            ·simpa [zbv] using zby w5 k 33
            intro A2 c2 w6 ho6 hf6 hg6)
         | (refine zag (w0 := W) rfl (.tmp 56) (.tmp 61) rfl ?_ A1 t c1 ([] ++ os.take t) ?_ ho5 (W.heap.size + 1) (some ⟨W.heap.size, 0, none⟩) 1 1 [k] ?_ rfl hkn (by omega) ?_
            ·with_reducible exact hf5
            ·go_simp
            ·go_simp
            intro A2 c2 w6 ho6 hf6 hg6)
         | (refine zag (w0 := W) rfl (.tmp 62) (.tmp 65) rfl hf6 A2 (t + 1) c2 ([] ++ os.take t ++ [k]) ?_ ho6 W.heap.size (some ⟨g, og + t * 9, none⟩) (os.length - t) (d - t) (os.drop t) ?_ Hl2.out ?_ (by omega) ?_
            ·go_simp
            ·go_simp
            ·exact hD3.below hf6
            intro A3 c3 w7 ho7 hf7 hg7)
         | fail)
        all_goals
         go_wp2_with fail
         all_goals
          go_roundg (go - 1)
          case measure => have := Hj.out; omega
          case rel => exact ⟨i + 1, A3, c3, zfs os t k, by have := Hj.out; omega, by go_num, by rw [zhs os t k hte]; congr 1; omega, by rw [zhs os t k hte]; have h9 := ho7.mono (B' := w.heap.size) HF.out.size; rw [show t + 1 + (os.length - t) = os.length + 1 from by omega] at h9; simpa [zfs] using h9, by rw [Ht.out]; exact Hi.out, HF.out.trans (hf7.mono HF.out.size)⟩
     ·have hte : t ≤ os.length := by omega
      have Hi := zb (zmU (t := t) Ho.out ok hte Hq.out (fun x' hx' => by rw [List.getElem?_eq_none (by omega)] at hx'; cases hx'));have hnl : decide (t < os.length) = false := by simpa using hlt2
      have Hte := zb (show t = os.length by omega);clear ht;go_wp2_with fail
      go_quiet (fail)
      go_wp2_with fail;obtain ⟨w3, hw3⟩ : ∃ w3 : World, w3 = wr.drewN nq := ⟨_, rfl⟩;have hF3 : Fr w2 w3 := by rw [hw3]; exact zbd hF nq
      rw [← hw3];clear hw3 hF
      go_quiet (fail)
      go_wp2_with fail;have hFW : Fr w2 (w3.drewN nq) := zbd hF3 nq;obtain ⟨W, hW⟩ : ∃ W : World, W = w3.drewN nq := ⟨_, rfl⟩;rw [← hW] at hFW ⊢;clear hW;have hDW := (hD.below hFW).mono hFW.size;have hD1 := zib hDW t;have Hdr := zb (show os.drop t = [] from List.drop_eq_nil_of_le (by omega));have hkaW := hka2.below hFW hb2;have hbW : b < W.heap.size := Nat.lt_of_lt_of_le hb2 hFW.size;have hs1 := zb0 D os.length d t hte hcap;have Hl1 : Hid ((os.take t).length = t) := zb (by simp; omega);have Hl2 : Hid ((os.drop t).length = os.length - t) := zb (by simp);have HF : Hid (Fr w W) := zb (za hF2 hFW);obtain ⟨k0, k1, k2, k3, k4, k5, k6, k7, k8⟩ := hkaW.cells;clear hD hown hown2 hr hka hka1 hka2 hFW hDW hF3
      go_region_law (first
       | (refine zag (w0 := W) rfl (.tmp 52) (.tmp 55) rfl ?_ none 0 0 [] ?_ (Own.nil _ _ _ _) W.heap.size D t d (os.take t) ?_ Hl1.out ?_ (by omega) ?_
          ·with_reducible exact zn (ze W)
          ·go_simp
          ·go_simp
          ·exact hD1
          intro A1 c1 w5 ho5 hf5 hg5;rw [Nat.zero_add] at ho5;obtain ⟨k0, k1, k2, k3, k4, k5, k6, k7, k8⟩ := (hkaW.below hf5 hbW).cells)
       | (refine zag (w0 := W) rfl (.tmp 52) (.tmp 55) rfl ?_ none 0 0 [] ?_ (Own.nil _ _ _ _) W.heap.size D t d (os.take t) ?_ Hl1.out ?_ (by omega) ?_
          ·with_reducible exact zn (zf (ze W) _)
          ·go_simp
          ·go_simp
          ·exact hD1.below (zn (zf (ze W) _))
          intro A1 c1 w5 ho5 hf5 hg5;rw [Nat.zero_add] at ho5;have hkn := zkZ hg5)
       | (refine zag (w0 := W) rfl (.tmp 56) (.tmp 61) rfl ?_ A1 t c1 ([] ++ os.take t) ?_ (ho5.alloc _) (w5.heap.size + 1) (some ⟨w5.heap.size, 0, none⟩) 1 1 [k] ?_ rfl ?_ (by omega) ?_
          ·with_reducible exact zf hf5 _
          ·go_simp
          ·go_simp
          ·simpa [zbv] using zby w5 k 33
          intro A2 c2 w6 ho6 hf6 hg6)
       | (refine zag (w0 := W) rfl (.tmp 56) (.tmp 61) rfl ?_ A1 t c1 ([] ++ os.take t) ?_ ho5 (W.heap.size + 1) (some ⟨W.heap.size, 0, none⟩) 1 1 [k] ?_ rfl hkn (by omega) ?_
          ·with_reducible exact hf5
          ·go_simp
          ·go_simp
          intro A2 c2 w6 ho6 hf6 hg6)
       | (refine zag (w0 := W) rfl (.tmp 62) (.tmp 65) rfl hf6 A2 (t + 1) c2 ([] ++ os.take t ++ [k]) ?_ ho6 W.heap.size ((if d = t then D else D.map (·.add (t * 9)))) (os.length - t) (d - t) (os.drop t) ?_ Hl2.out ?_ (by omega) ?_
          ·go_simp
          ·go_simp
          ·rw [Hdr.out]; exact Has.nil
          intro A3 c3 w7 ho7 hf7 hg7)
       | fail)
      all_goals
       go_wp2_with fail
       all_goals
        go_roundg (go - 1)
        case measure => have := Hj.out; omega
        case rel => exact ⟨i + 1, A3, c3, zfs os t k, by have := Hj.out; omega, by go_num, by rw [zhs os t k hte]; congr 1; omega, by rw [zhs os t k hte]; have h9 := ho7.mono (B' := w.heap.size) HF.out.size; rw [show t + 1 + (os.length - t) = os.length + 1 from by omega] at h9; simpa [zfs] using h9, by rw [Ht.out]; exact Hi.out, HF.out.trans (hf7.mono HF.out.size)⟩
   ·have ok' : okB k = false := by simpa using ok
    have Hq := zb (zls (k := k) Ho.out (.inl ok'));clear ok
    go_wp2_with (first
     | (refine zeE rfl (.tmp 15) rfl b (off + i * 9) k rfl hka1 ?_)
     | (go_at_call 68; refine (zgO k wk _).mono ?_; rw [ok']; rintro e w2 ⟨rfl, hb2⟩
        have hown2 := hown.below hb2 (Nat.le_refl _);have hF2 := za hF hb2;clear hb2)
     | fail)
    go_roundg (go - 1)
    case measure => have := Hj.out; omega
    case rel => exact ⟨i + 1, D, d, os, by have := Hj.out; omega, by go_num, rfl, hown2, by rw [Ht.out]; exact Hq.out, hF2⟩
  ·obtain rfl : i = n := by omega
   have Hx := zb (show ks.take i = ks from by rw [← Hl.out, List.take_length]);clear hj hord;go_wp2_with fail;go_ret;exact ⟨D, d, os, rfl, by rw [← Hx.out]; exact Ho.out, hown, hF⟩
end
section
attribute [local go_sem ↓] zt zw
abbrev OwnPv (w : World) (B : Nat) (A : Option Addr) (c : Nat) (l : List RK) : Prop := Own w B 33 9 A l.length c (zm kc l)
theorem ord_insP {q os : List RK} {k : RK} (oq : OkP q) (wk : k.wf) (ok : okB k = true) (h : ze5 (q ++ [k]) os) : os = zdJ q k := by
 have hi := zm9 oq wk ok;refine zn7 (ks := q ++ [k]) (ls := q ++ [k]) h ⟨hi.asc, fun x => ?_⟩ (fun _ => Iff.rfl);rw [zii, List.mem_append, List.mem_singleton];constructor
 ·rintro (hx | rfl)
  ·exact ⟨.inl hx, (oq.good x hx).2⟩
  ·exact ⟨.inr rfl, ok⟩
 ·exact fun hx => hx.1
theorem zj6 : ∀ (l : List RK) (k : RK), (zdJ l k).length ≤ l.length + 1
 | [], k => by simp [zdJ]
 | x :: l, k => by
  unfold zdJ
  split
  ·simp only [List.length_cons]; exact Nat.succ_le_succ (zj6 l k)
  ·split <;> simp
theorem zlD (ns : List Int) (most : Int) : ∀ j, (zbD ns most j).length ≤ j
 | 0 => by simp [zbD]
 | j + 1 => by
  have h := zlD ns most j;have h2 := zj6 (zbD ns most j) (zbL (ns.getD j 0));unfold zbD
  split <;> omega
set_option maxHeartbeats 4000000 in
theorem zlM {w : World} {A : Option Addr} {n c B : Nat} {ns : List Int} {most : Int} (hl : Has w B A (ns.map (Value.int .i64))) (hB : B ≤ w.heap.size) (hn : ns.length = n) (hns : ∀ z ∈ ns, zal z) (hmost : 0 ≤ most ∧ most ≤ 1000000) (hnm : n ≤ maxLen) :
 Calls Tryz.prog 18 #[.slice A n c, .int .i64 most] w fun e w' => ∃ A' c', e = .returned (.slice A' (zca ns most).length c') ∧ OwnPv w' w.heap.size A' c' (zca ns most) ∧ Fr w w' := by
 have Hl := zb hl;have Hn := zb hn;have Hns := zb hns;have hnm2 : (n : Int) ≤ 9223372036854775807 := by simp only [maxLen] at hnm; omega
 clear hl hn hns;go_enter Tryz.func18, Tryz.ntmps18;go_wp2_with fail
 go_loopg [5, 6] 20 (fun g s5 s6 wr => ∃ (j : Nat) (A' : Option Addr) (n' c' : Nat), j ≤ 20 ∧ 20 - j ≤ g ∧ j ≤ n ∧ s6 = .int .i64 j ∧ s5 = .slice A' n' c' ∧ Hid ((zbD ns most j).length = n') ∧ Hid (Own wr w.heap.size 33 9 A' n' c' (zm kc (zbD ns most j))) ∧ Hid (Fr w wr))
 case atStart => exact ⟨0, none, 0, 0, by omega, by omega, by omega, rfl, rfl, zb rfl, zb (Own.nil _ _ _ _), zb (ze w)⟩
 case round =>
  obtain ⟨j, A', n', c', hj60, hjg, hjn, rfl, rfl, Hn', hO, hF⟩ := hrel;have hlen := zlD ns most j;rw [Hn'.out] at hlen
  by_cases hlt : j < n
  ·have hjz : (j : Int) < (n : Int) := by omega
   by_cases h60 : j < 20
   ·have h60z : (j : Int) < 20 := by omega
    have hv : ns[j]? = some (ns[j]'(by rw [Hn.out]; exact hlt)) := List.getElem?_eq_getElem _;generalize ns[j]'(by rw [Hn.out]; exact hlt) = v at hv;obtain ⟨b, off, rfl, hb1, hx⟩ := zmJ Hl.out hv;have iv : zal v := Hns.out v (List.mem_of_getElem? hv);have hF1 := hF.out;have hrr := ze wr;have hrD := zn hrr;have cell : ∀ W, Fr wr W → W.cell? ⟨b, off + j, none⟩ = some (.int .i64 v) := fun W h => (h.cell (by show b < wr.heap.size; have := hF1.size; omega)).trans ((hF1.cell (by show b < w.heap.size; omega)).trans hx);have cK := fun W0 W h => zex (W0 := W0) (W := W) iv h;have wk := zfj v;have ok := zhz v
    have hstep : zbD ns most (j + 1) = if ((zdJ (zbD ns most j) (zbL v)).length : Int) ≤ most then zdJ (zbD ns most j) (zbL v) else zbD ns most j := by
     have e : ns.getD j 0 = v := by simp [List.getD, hv]
     rw [zbD, e]
    have Hstep := zb hstep;have ol := zfN ns most j;generalize zbL v = k at *;generalize zbD ns most j = q at *;have hle := zj6 q k;rw [Hn'.out] at hle;have hOh := hO.out.has
    have cO : ∀ W A3 c3, Own W wr.heap.size 33 9 A3 (n' + 1) c3 (zbv (q ++ [k])) → Fr wr W → Calls Tryz.prog 39 #[.slice A3 (n' + 1) c3] W fun e w' => ∃ A4 c4, e = .returned (.slice A4 (zdJ q k).length c4) ∧ Hid (Own w' w.heap.size 33 9 A4 (zdJ q k).length c4 (zm kc (zdJ q k))) ∧ Fr wr w' := fun W A3 c3 ho hW =>
     (zn1 A3 (n' + 1) c3 (q ++ [k]) W (by rw [List.length_append, Hn'.out]; rfl) (by omega) (fun x hx => by rcases List.mem_append.1 hx with h | h; exact (ol.good x h).1; simp at h; rw [h]; exact wk) ho.has).mono fun e w' h => by
      obtain ⟨A4, c4, os, rfl, h1, h2, h3⟩ := h;have := ord_insP ol wk ok h1;subst this;exact ⟨A4, c4, rfl, zb (h2.mono (Nat.le_trans hF1.size hW.size)), za hW h3⟩
    generalize zdJ q k = q2 at *;generalize hk2 : q2.length = k2 at *;have Hk2 := zb hk2;clear hv hx hlt wk ok ol hstep hk2 h60
    by_cases hfit : (k2 : Int) ≤ most
    ·have Hs : Hid (zbD ns most (j + 1) = q2) := zb (by rw [Hstep.out, if_pos hfit])
     go_wp2_with fail;refine wp_region_noPanic ?_;refine wp_region_held_drew (S := fun w' => Fr wr w') (by kernel_rfl) hrD (fun hHeld => ?_);change wpAnyH _ _ _ _ _ _ _ _ _;clear hHeld;generalize wr.drew = W0 at *;have hDW := hrD;refine xto 1 ?_;refine xto 3 ?_;refine xto 4 ?_;refine xto 5 ?_;refine xto 6 ?_;refine xr 0 fun K hK0 => ?_;go_simp;refine xk hK0 (zf hDW _) ?_;clear hK0 K;refine xr 2 fun K hK0 => ?_;refine zag (w0 := wr) rfl (.tmp 18) (.tmp 19) rfl (zf hDW _) (some ⟨W0.heap.size, 0, none⟩) 0 0 [] rfl (Own.lit W0 wr.heap.size 33 #[] 0 9 hDW.size (Nat.zero_le _) rfl) wr.heap.size A' n' c' q rfl Hn'.out (hOh.fr (Nat.le_refl _) (zf hDW _)) (by omega) ?_;intro A1 c1 w1 ho1 hf1 hg1;simp only [List.nil_append, Nat.zero_add] at ho1;simp only [Nat.zero_add];refine xk hK0 hf1 ?_;clear hK0 K;refine xr 7 fun K hK0 => ?_;go_simp;refine (cK w1 _ (ze _)).mono ?_;rintro e w2 ⟨rfl, hz2x⟩;have hz2 : Fr wr w2 := za hf1 hz2x;go_simp;refine xk hK0 hz2 ?_;clear hK0 K;refine xr 8 fun K hK0 => ?_;go_simp;refine xk hK0 (zf hz2 _) ?_;clear hK0 K;refine xr 9 fun K hK0 => ?_;refine zag (w0 := wr) rfl (.tmp 20) (.tmp 26) rfl (zf hz2 _) A1 n' c1 q rfl ((Own.below ho1 hz2x (Nat.le_refl _)).alloc _) (w2.heap.size + 1) (some ⟨w2.heap.size, 0, none⟩) 1 1 [k] rfl rfl (by simpa [zbv] using zby w2 k 33) (by omega) ?_;intro A3 c3 w3 ho3 hf3 hg3
     refine xk hK0 hf3 ?_;clear hK0 K;refine xr 10 fun K hK0 => ?_;go_simp;refine (cO _ _ _ ho3 hf3).mono ?_;rintro e w4 ⟨A4, c4, rfl, ho4, hf4⟩;go_simp;refine xk hK0 hf4 ?_;clear hK0 K
     try simp only [xs, Act.put]
     refine xto 11 ?_;refine wpAnyH_done (by kernel_rfl) ?_ _;refine NoPanic.normal ?_;go_wp2_with fail
     go_roundg (gk - 1)
     case measure => omega
     case rel => exact ⟨j + 1, A4, k2, c4, by omega, by omega, by omega, rfl, rfl, by rw [Hs.out]; exact Hk2, by rw [Hs.out]; exact ho4, zb (za hF1 hf4)⟩
    ·have Hs : Hid (zbD ns most (j + 1) = q) := zb (by rw [Hstep.out, if_neg hfit])
     go_wp2_with fail;refine wp_region_noPanic ?_;refine wp_region_held_drew (S := fun w' => Fr wr w') (by kernel_rfl) hrD (fun hHeld => ?_);change wpAnyH _ _ _ _ _ _ _ _ _;clear hHeld;generalize wr.drew = W0 at *;have hDW := hrD;refine xto 1 ?_;refine xto 3 ?_;refine xto 4 ?_;refine xto 5 ?_;refine xto 6 ?_;refine xr 0 fun K hK0 => ?_;go_simp;refine xk hK0 (zf hDW _) ?_;clear hK0 K;refine xr 2 fun K hK0 => ?_;refine zag (w0 := wr) rfl (.tmp 18) (.tmp 19) rfl (zf hDW _) (some ⟨W0.heap.size, 0, none⟩) 0 0 [] rfl (Own.lit W0 wr.heap.size 33 #[] 0 9 hDW.size (Nat.zero_le _) rfl) wr.heap.size A' n' c' q rfl Hn'.out (hOh.fr (Nat.le_refl _) (zf hDW _)) (by omega) ?_;intro A1 c1 w1 ho1 hf1 hg1;simp only [List.nil_append, Nat.zero_add] at ho1;simp only [Nat.zero_add];refine xk hK0 hf1 ?_;clear hK0 K;refine xr 7 fun K hK0 => ?_;go_simp;refine (cK w1 _ (ze _)).mono ?_;rintro e w2 ⟨rfl, hz2x⟩;have hz2 : Fr wr w2 := za hf1 hz2x;go_simp;refine xk hK0 hz2 ?_;clear hK0 K;refine xr 8 fun K hK0 => ?_;go_simp;refine xk hK0 (zf hz2 _) ?_;clear hK0 K;refine xr 9 fun K hK0 => ?_;refine zag (w0 := wr) rfl (.tmp 20) (.tmp 26) rfl (zf hz2 _) A1 n' c1 q rfl ((Own.below ho1 hz2x (Nat.le_refl _)).alloc _) (w2.heap.size + 1) (some ⟨w2.heap.size, 0, none⟩) 1 1 [k] rfl rfl (by simpa [zbv] using zby w2 k 33) (by omega) ?_;intro A3 c3 w3 ho3 hf3 hg3
     refine xk hK0 hf3 ?_;clear hK0 K;refine xr 10 fun K hK0 => ?_;go_simp;refine (cO _ _ _ ho3 hf3).mono ?_;rintro e w4 ⟨A4, c4, rfl, ho4, hf4⟩;go_simp;refine xk hK0 hf4 ?_;clear hK0 K
     try simp only [xs, Act.put]
     refine xto 11 ?_;refine wpAnyH_done (by kernel_rfl) ?_ _;refine NoPanic.normal ?_;go_wp2_with fail
     go_roundg (gk - 1)
     case measure => omega
     case rel => exact ⟨j + 1, A', n', c', by omega, by omega, by omega, rfl, rfl, by rw [Hs.out]; exact Hn', by rw [Hs.out]; exact zb (Own.below hO.out hf4 (Nat.le_refl _)), zb (za hF1 hf4)⟩
   ·have h60z : ¬ (j : Int) < 20 := by omega
    have He : Hid (zca ns most = zbD ns most j) := zb (by unfold zca; rw [Hn.out, show min n 20 = j by omega]);clear hlt h60;go_wp2_with fail;go_ret;rw [He.out, Hn'.out];exact ⟨A', c', rfl, by rw [← Hn'.out] at hO; exact hO.out, hF.out⟩
  ·have hjz : ¬ (j : Int) < (n : Int) := by omega
   have He : Hid (zca ns most = zbD ns most j) := zb (by unfold zca; rw [Hn.out, show min n 20 = j by omega]);clear hlt;go_wp2_with fail;go_ret;rw [He.out, Hn'.out];exact ⟨A', c', rfl, by rw [← Hn'.out] at hO; exact hO.out, hF.out⟩
end
end Go.Proofs.YtmjjjdikpnhpiaaGreat
