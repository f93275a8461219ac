/- KeyMaps: what its four maps count, and how that lasts. -/
import Derived.Test.YtignnjflodkihaaKeyQ
import Derived.Test.YtignnjflodkihaaKeyOpen
import Derived.Test.YtignnjflodkihaaEntry
import Derived.Test.YtignnjflodkihaaCount
import Derived.Test.YtignnjflodkihaaPair
import Derived.Test.YtignnjflodkihaaRow
import Derived.Maps.OwnOps
namespace Go.Proofs.Ytignnjflodkihaa
open Go.RowKit Go.Maps
set_option linter.unusedVariables false

/-- Neighbours in a list. -/
def prs : List ByteArray → List (ByteArray × ByteArray)
  | a :: b :: l => (a, b) :: prs (b :: l)
  | _ => []
theorem prs_snoc (a b : ByteArray) : ∀ l : List ByteArray, prs (l ++ [a] ++ [b]) = prs (l ++ [a]) ++ [(a, b)]
  | [] => rfl
  | [x] => rfl
  | x :: y :: l => by
    have := prs_snoc a b (y :: l)
    simp only [List.cons_append, prs] at this ⊢
    rw [this]
theorem prs_len (l : List ByteArray) : (prs l).length ≤ l.length := by
  induction l with
  | nil => simp [prs]
  | cons x l ih => cases l with
    | nil => simp [prs]
    | cons y l => simp only [prs, List.length_cons] at ih ⊢; omega
def Sm (s : ByteArray) : Prop := s.size ≤ 8
def Pm (p : ByteArray × ByteArray) : Prop := p.1.size ≤ 8 ∧ p.2.size ≤ 8
def fK (s : ByteArray) : Lit := klit (ofS s)
def fT (s : ByteArray) : Lit := .string s.data.toList
def fP (p : ByteArray × ByteArray) : Lit := plit (ofS p.1) (ofS p.2)
def joinT (p : ByteArray × ByteArray) : ByteArray := strOfNums [(p.1.size : Int)] ++ p.1 ++ p.2
def fB (p : ByteArray × ByteArray) : Lit := .string (joinT p).data.toList
theorem ofS_one {s t : ByteArray} (hs : Sm s) (ht : Sm t) (h : ofS s = ofS t) : s = t := by
  have := congrArg txt h
  rwa [txt_ofS s hs, txt_ofS t ht] at this
theorem fK_inj (a b : ByteArray) (ha : Sm a) (hb : Sm b) (h : fK a = fK b) : a = b := ofS_one ha hb (klit_inj (ofS_wf a ha) (ofS_wf b hb) h)
theorem fT_inj (a b : ByteArray) (ha : Sm a) (hb : Sm b) (h : fT a = fT b) : a = b := by
  simp only [fT, Lit.string.injEq] at h
  exact ByteArray.ext (Array.ext' h)
theorem fP_inj (a b : ByteArray × ByteArray) (ha : Pm a) (hb : Pm b) (h : fP a = fP b) : a = b := by
  obtain ⟨h1, h2⟩ := plit_inj (ofS_wf _ ha.1) (ofS_wf _ ha.2) (ofS_wf _ hb.1) (ofS_wf _ hb.2) h
  exact Prod.ext (ofS_one ha.1 hb.1 h1) (ofS_one ha.2 hb.2 h2)
theorem joinT_list (p : ByteArray × ByteArray) : (joinT p).data.toList = UInt8.ofNat p.1.size :: (p.1.data.toList ++ p.2.data.toList) := by
  show ((strOfNums [(p.1.size : Int)] ++ p.1 ++ p.2).data).toList = _
  rw [ByteArray.data_append, ByteArray.data_append, Array.toList_append, Array.toList_append]
  rfl
theorem fB_inj (a b : ByteArray × ByteArray) (ha : Pm a) (hb : Pm b) (h : fB a = fB b) : a = b := by
  simp only [fB, Lit.string.injEq, joinT_list, List.cons.injEq] at h
  obtain ⟨h1, h2⟩ := h
  have hsz : a.1.size = b.1.size := by
    have := congrArg UInt8.toNat h1
    rw [UInt8.toNat_ofNat_of_lt' (by show a.1.size < 256; have := ha.1; omega), UInt8.toNat_ofNat_of_lt' (by show b.1.size < 256; have := hb.1; omega)] at this
    exact this
  have hl : a.1.data.toList.length = b.1.data.toList.length := by rw [← Lib.size_eq, ← Lib.size_eq, hsz]
  obtain ⟨e1, e2⟩ := List.append_inj h2 hl
  exact Prod.ext (ByteArray.ext (Array.ext' e1)) (ByteArray.ext (Array.ext' e2))
theorem ownsMap_fr {w w' : World} {k b n : Nat} {D : DataW Unit} (h : w.ownsMap Try.prog k (plainElem Try.prog 3) b n D) (hb : Fr w w') : w'.ownsMap Try.prog k (plainElem Try.prog 3) b n D :=
  h.kept (row := none) ⟨hb.os, hb.tape, hb.output, hb.size, fun k hk _ => hb.block k hk⟩ (by simp)
theorem int_zero : ∀ u : World, (zeroValue 3).run Try.prog u = .ok (.int .i64 0) u := fun _ => by kernel_rfl
theorem str_keyed : Go.Maps.Keyed Try.prog 9 := Go.Maps.string_keyed Try.underlying9
/-- What the walk carries: the row of keys, the four maps. -/
structure Inv (w wr : World) (A : Option Addr) (c : Nat) (ks : List RK) (l0 l1 : List ByteArray) (l2 l3 : List (ByteArray × ByteArray)) : Prop where
  own : Own wr (w.heap.size + 4) 30 9 A ks.length c (flat ks)
  m0 : ∃ D : DataW Unit, wr.ownsMap Try.prog 30 (plainElem Try.prog 3) w.heap.size l0.length D ∧ Cnt Sm fK l0 D
  m1 : ∃ D : DataW Unit, wr.ownsMap Try.prog 9 (plainElem Try.prog 3) (w.heap.size + 1) l1.length D ∧ Cnt Sm fT l1 D
  m2 : ∃ D : DataW Unit, wr.ownsMap Try.prog 35 (plainElem Try.prog 3) (w.heap.size + 1 + 1) l2.length D ∧ Cnt Pm fP l2 D
  m3 : ∃ D : DataW Unit, wr.ownsMap Try.prog 9 (plainElem Try.prog 3) (w.heap.size + 1 + 1 + 1) l3.length D ∧ Cnt Pm fB l3 D
  fr : Fr w wr
section
variable {w wr w' : World} {A : Option Addr} {c : Nat} {ks : List RK} {l0 l1 : List ByteArray} {l2 l3 : List (ByteArray × ByteArray)}
theorem Inv.keep (h : Inv w wr A c ks l0 l1 l2 l3) (hb : Fr wr w') : Inv w w' A c ks l0 l1 l2 l3 := by
  obtain ⟨h0, ⟨D0, a0, b0⟩, ⟨D1, a1, b1⟩, ⟨D2, a2, b2⟩, ⟨D3, a3, b3⟩, hf⟩ := h
  exact ⟨h0.below hb (Nat.le_refl _), ⟨D0, ownsMap_fr a0 hb, b0⟩, ⟨D1, ownsMap_fr a1 hb, b1⟩, ⟨D2, ownsMap_fr a2 hb, b2⟩, ⟨D3, ownsMap_fr a3 hb, b3⟩, fr_step hf hb⟩
theorem Inv.ne (h : Inv w wr A c ks l0 l1 l2 l3) (i : Nat) (hi : i < 4) : blk A = none ∨ blk A ≠ some (w.heap.size + i) := by
  cases hA : blk A with
  | none => exact .inl rfl
  | some b =>
    refine .inr fun e => ?_
    injection e with e
    have := (h.own.lt b hA).1
    omega
theorem Inv.grow (h : Inv w wr A c ks l0 l1 l2 l3) {i : Nat} (hg : wr.grownBy w' (some (w.heap.size + i))) : Fr w w' := h.fr.grown hg h.fr.size (fun q hq => by injection hq with hq; omega)
theorem i64_ok {q : Int} (h : 0 ≤ q ∧ q ≤ 1000) : (Lit.int .i64 (q + 1)).wf = true := by
  simp [Lit.wf, IntKind.min, IntKind.max, IntKind.signed, IntKind.bits]; omega
theorem at_cnt {α : Type} [DecidableEq α] {P : α → Prop} {f : α → Lit} {l : List α} {D : DataW Unit} (h : Cnt P f l D) {a : α} (ha : P a) (hl : l.length ≤ 1000) {q : Int} (hq : D.atKey (f a) (.lit (.int .i64 0)) = .lit (.int .i64 q)) :
    (0 ≤ q ∧ q ≤ 1000) ∧ q + 1 = (l.count a : Int) + 1 := by
  rw [h.at_ a ha] at hq
  injection hq with hq
  injection hq with _ hq
  subst hq
  have := List.count_le_length (a := a) (l := l)
  exact ⟨by omega, rfl⟩
theorem is_str (b : List UInt8) : WideAt.IsKeyLit (.string b) := trivial
theorem Inv.inc0 (h : Inv w wr A c ks l0 l1 l2 l3) {s : ByteArray} (hs : Sm s) (hl : l0.length ≤ 1000) :
    ∃ (q : Int) (st : Nat) (w1 w2 : World), 0 ≤ q ∧ q ≤ 1000 ∧ (Instr.lookup 24 (.map (some w.heap.size)) (kv (ofS s)) false).run Try.prog wr = .ok (.int .i64 q) wr ∧
      (Instr.mapEntry 24 (.map (some w.heap.size)) (kv (ofS s))).run Try.prog wr = .ok (.tuple #[.int .i64 q, .int .i64 (st : Int)]) w1 ∧ (Instr.lookup 24 (.map (some w.heap.size)) (kv (ofS s)) false).run Try.prog w1 = .ok (.int .i64 q) w1 ∧
      (Instr.entryStore 24 (.map (some w.heap.size)) (.int .i64 (st : Int)) (.int .i64 (q + 1))).run Try.prog w1 = .ok () w2 ∧ Inv w w2 A c ks (l0 ++ [s]) l1 l2 l3 ∧ wr.grownBy w2 (some w.heap.size) := by
  obtain ⟨D0, a0, b0⟩ := h.m0
  obtain ⟨q, st, w1, hat, hwc, r1, r2, r3, g1, hst⟩ := own_entry_int (q := .i64) key_keyed a0 Try.underlying24 Try.underlying3 int_zero (by unfold maxLen; omega) (key_of (ofS s) (ofS_wf s hs))
  obtain ⟨hb, hx⟩ := at_cnt b0 hs hl hat
  obtain ⟨w2, r4, o2, g2⟩ := hst (q + 1) (i64_ok hb)
  have hne := h.ne 0 (by omega)
  obtain ⟨D1, a1, b1⟩ := h.m1
  obtain ⟨D2, a2, b2⟩ := h.m2
  obtain ⟨D3, a3, b3⟩ := h.m3
  exact ⟨q, st, w1, w2, hb.1, hb.2, r1, r2, r3, r4, ⟨h.own.kept g2 hne, ⟨_, by rw [List.length_append]; exact o2, b0.snoc (fun a => is_str _) fK_inj hs hx⟩, ⟨D1, a1.kept g2 (fun e => by injection e with e; omega), b1⟩, ⟨D2, a2.kept g2 (fun e => by injection e with e; omega), b2⟩, ⟨D3, a3.kept g2 (fun e => by injection e with e; omega), b3⟩, h.grow (i := 0) g2⟩, g2⟩
theorem Inv.inc2 (h : Inv w wr A c ks l0 l1 l2 l3) {s t : ByteArray} (hs : Sm s) (ht : Sm t) (hl : l2.length ≤ 1000) :
    ∃ (q : Int) (st : Nat) (w1 w2 : World), 0 ≤ q ∧ q ≤ 1000 ∧ (Instr.lookup 26 (.map (some (w.heap.size + 1 + 1))) (pv (ofS s) (ofS t)) false).run Try.prog wr = .ok (.int .i64 q) wr ∧
      (Instr.mapEntry 26 (.map (some (w.heap.size + 1 + 1))) (pv (ofS s) (ofS t))).run Try.prog wr = .ok (.tuple #[.int .i64 q, .int .i64 (st : Int)]) w1 ∧ (Instr.lookup 26 (.map (some (w.heap.size + 1 + 1))) (pv (ofS s) (ofS t)) false).run Try.prog w1 = .ok (.int .i64 q) w1 ∧
      (Instr.entryStore 26 (.map (some (w.heap.size + 1 + 1))) (.int .i64 (st : Int)) (.int .i64 (q + 1))).run Try.prog w1 = .ok () w2 ∧ Inv w w2 A c ks l0 l1 (l2 ++ [(s, t)]) l3 ∧ wr.grownBy w2 (some (w.heap.size + 1 + 1)) := by
  obtain ⟨D2, a2, b2⟩ := h.m2
  have hp : Pm (s, t) := ⟨hs, ht⟩
  obtain ⟨q, st, w1, hat, hwc, r1, r2, r3, g1, hst⟩ := own_entry_int (q := .i64) pair_keyed a2 Try.underlying26 Try.underlying3 int_zero (by unfold maxLen; omega) (pair_of (ofS s) (ofS t) (ofS_wf s hs) (ofS_wf t ht))
  obtain ⟨hb, hx⟩ := at_cnt b2 hp hl hat
  obtain ⟨w2, r4, o2, g2⟩ := hst (q + 1) (i64_ok hb)
  have hne := h.ne 2 (by omega)
  obtain ⟨D1, a1, b1⟩ := h.m1
  obtain ⟨D0, a0, b0⟩ := h.m0
  obtain ⟨D3, a3, b3⟩ := h.m3
  exact ⟨q, st, w1, w2, hb.1, hb.2, r1, r2, r3, r4, ⟨h.own.kept g2 hne, ⟨D0, a0.kept g2 (fun e => by injection e with e; omega), b0⟩, ⟨D1, a1.kept g2 (fun e => by injection e with e; omega), b1⟩, ⟨_, by rw [List.length_append]; exact o2, b2.snoc (fun a => is_str _) fP_inj hp hx⟩, ⟨D3, a3.kept g2 (fun e => by injection e with e; omega), b3⟩, h.grow (i := 2) g2⟩, g2⟩
theorem Inv.inc1 (h : Inv w wr A c ks l0 l1 l2 l3) {s : ByteArray} (hs : Sm s) (hl : l1.length ≤ 1000) :
    ∃ (q : Int) (w2 : World), 0 ≤ q ∧ q ≤ 1000 ∧ (Instr.lookup 25 (.map (some (w.heap.size + 1))) (.string s) false).run Try.prog wr = .ok (.int .i64 q) wr ∧
      (Instr.mapUpdate 25 (.map (some (w.heap.size + 1))) (.string s) (.int .i64 (q + 1))).run Try.prog wr = .ok () w2 ∧ Inv w w2 A c ks l0 (l1 ++ [s]) l2 l3 ∧ wr.grownBy w2 (some (w.heap.size + 1)) := by
  obtain ⟨D1, a1, b1⟩ := h.m1
  have hkey : keyOf Try.prog 9 (.string s) = some (fT s) := WideMaps.keyOf_string_mk Try.underlying9 (by unfold Sm at hs; unfold maxLen; omega)
  obtain ⟨q, r1, hat, hwc⟩ := a1.lookup_int str_keyed Try.underlying25 Try.underlying3 (int_zero wr) hkey
  obtain ⟨hb, hx⟩ := at_cnt b1 hs hl hat
  obtain ⟨w2, r4, o2, g2⟩ := a1.update str_keyed Try.underlying25 (by unfold maxLen; omega) hkey (plainElem_int Try.underlying3 (i64_ok hb))
  have hne := h.ne 1 (by omega)
  obtain ⟨D0, a0, b0⟩ := h.m0
  obtain ⟨D2, a2, b2⟩ := h.m2
  obtain ⟨D3, a3, b3⟩ := h.m3
  exact ⟨q, w2, hb.1, hb.2, r1, r4, ⟨h.own.kept g2 hne, ⟨D0, a0.kept g2 (fun e => by injection e with e; omega), b0⟩, ⟨_, by rw [List.length_append]; exact o2, b1.snoc (fun a => is_str _) fT_inj hs hx⟩, ⟨D2, a2.kept g2 (fun e => by injection e with e; omega), b2⟩, ⟨D3, a3.kept g2 (fun e => by injection e with e; omega), b3⟩, h.grow (i := 1) g2⟩, g2⟩
theorem Inv.inc3 (h : Inv w wr A c ks l0 l1 l2 l3) {s t : ByteArray} (hs : Sm s) (ht : Sm t) (hl : l3.length ≤ 1000) :
    ∃ (q : Int) (w2 : World), 0 ≤ q ∧ q ≤ 1000 ∧ (Instr.lookup 25 (.map (some (w.heap.size + 1 + 1 + 1))) (.string (joinT (s, t))) false).run Try.prog wr = .ok (.int .i64 q) wr ∧
      (Instr.mapUpdate 25 (.map (some (w.heap.size + 1 + 1 + 1))) (.string (joinT (s, t))) (.int .i64 (q + 1))).run Try.prog wr = .ok () w2 ∧ Inv w w2 A c ks l0 l1 l2 (l3 ++ [(s, t)]) := by
  obtain ⟨D3, a3, b3⟩ := h.m3
  have hp : Pm (s, t) := ⟨hs, ht⟩
  have hsz : (joinT (s, t)).size ≤ maxLen := by
    have : (joinT (s, t)).size = 1 + (s.size + t.size) := by
      rw [Lib.size_eq, joinT_list, List.length_cons, List.length_append, ← Lib.size_eq, ← Lib.size_eq]; exact Nat.add_comm _ _
    unfold Sm at hs ht; unfold maxLen; omega
  have hkey : keyOf Try.prog 9 (.string (joinT (s, t))) = some (fB (s, t)) := WideMaps.keyOf_string_mk Try.underlying9 hsz
  obtain ⟨q, r1, hat, hwc⟩ := a3.lookup_int str_keyed Try.underlying25 Try.underlying3 (int_zero wr) hkey
  obtain ⟨hb, hx⟩ := at_cnt b3 hp hl hat
  obtain ⟨w2, r4, o2, g2⟩ := a3.update str_keyed Try.underlying25 (by unfold maxLen; omega) hkey (plainElem_int Try.underlying3 (i64_ok hb))
  have hne := h.ne 3 (by omega)
  obtain ⟨D0, a0, b0⟩ := h.m0
  obtain ⟨D1, a1, b1⟩ := h.m1
  obtain ⟨D2, a2, b2⟩ := h.m2
  exact ⟨q, w2, hb.1, hb.2, r1, r4, ⟨h.own.kept g2 hne, ⟨D0, a0.kept g2 (fun e => by injection e with e; omega), b0⟩, ⟨D1, a1.kept g2 (fun e => by injection e with e; omega), b1⟩, ⟨D2, a2.kept g2 (fun e => by injection e with e; omega), b2⟩, ⟨_, by rw [List.length_append]; exact o2, b3.snoc (fun a => is_str _) fB_inj hp hx⟩, h.grow (i := 3) g2⟩⟩
theorem Inv.look (h : Inv w wr A c ks l0 l0 l2 l3) {s : ByteArray} (hs : Sm s) (hl : l0.length ≤ 1000) :
    ∃ q : Int, (Instr.lookup 24 (.map (some w.heap.size)) (kv (ofS s)) false).run Try.prog wr = .ok (.int .i64 q) wr ∧ (Instr.lookup 25 (.map (some (w.heap.size + 1))) (.string s) false).run Try.prog wr = .ok (.int .i64 q) wr := by
  obtain ⟨D0, a0, b0⟩ := h.m0
  obtain ⟨D1, a1, b1⟩ := h.m1
  have hkey : keyOf Try.prog 9 (.string s) = some (fT s) := WideMaps.keyOf_string_mk Try.underlying9 (by unfold Sm at hs; unfold maxLen; omega)
  obtain ⟨q, r1, hat, hwc⟩ := a0.lookup_int key_keyed Try.underlying24 Try.underlying3 (int_zero wr) (key_of (ofS s) (ofS_wf s hs))
  obtain ⟨q', r1', hat', hwc'⟩ := a1.lookup_int str_keyed Try.underlying25 Try.underlying3 (int_zero wr) hkey
  obtain ⟨_, hx⟩ := at_cnt b0 hs hl hat
  obtain ⟨_, hx'⟩ := at_cnt b1 hs hl hat'
  obtain rfl : q = q' := by omega
  exact ⟨q, r1, r1'⟩
/-- A box of the call's own, behind what turns a map. -/
theorem Arr.grown {w w' : World} {g T b : Nat} {cs : Array Value} (h : Arr w g T cs) (hg : w.grownBy w' (some b)) (hne : g ≠ b) : Arr w' g T cs := (hg.block g h.lt (fun e => hne (by injection e))).trans h
theorem Arr.grownO {w w' : World} {g T : Nat} {row : Option Nat} {cs : Array Value} (h : Arr w g T cs) (hg : w.grownBy w' row) (hne : some g ≠ row) : Arr w' g T cs := (hg.block g h.lt hne).trans h
theorem Inv.size4 (h : Inv w wr A c ks l0 l1 l2 l3) : w.heap.size + 4 ≤ wr.heap.size := by
  obtain ⟨D, a, _⟩ := h.m3
  have := a.lt
  omega
theorem Inv.row {A' : Option Addr} {c' : Nat} {k : RK} (h : Inv w wr A c ks l0 l1 l2 l3) (ho : Own w' (w.heap.size + 4) 30 9 A' (ks.length + 1) c' (flat (ks ++ [k]))) (hg : wr.grownBy w' (blk A)) : Inv w w' A' c' (ks ++ [k]) l0 l1 l2 l3 := by
  obtain ⟨h0, ⟨D0, a0, b0⟩, ⟨D1, a1, b1⟩, ⟨D2, a2, b2⟩, ⟨D3, a3, b3⟩, hf⟩ := h
  have hn : ∀ b, b < w.heap.size + 4 → some b ≠ blk A := fun b hb e => by have := (h0.lt b e.symm).1; omega
  exact ⟨by simpa using ho, ⟨D0, a0.kept hg (hn _ (by omega)), b0⟩, ⟨D1, a1.kept hg (hn _ (by omega)), b1⟩, ⟨D2, a2.kept hg (hn _ (by omega)), b2⟩, ⟨D3, a3.kept hg (hn _ (by omega)), b3⟩, hf.grown hg hf.size (fun q hq => by have := (h0.lt q hq).1; omega)⟩
theorem Inv.start (w : World) : Inv w ((((w.alloc (.map #[] 0)).alloc (.map #[] 0)).alloc (.map #[] 0)).alloc (.map #[] 0)) none 0 [] [] [] [] [] := by
  have e1 : ∀ (v : World), (v.alloc (.map #[] 0)).heap.size = v.heap.size + 1 := fun v => by simp
  refine ⟨Own.nil _ _ _ _, ⟨_, (((World.ownsMap_made w _ _ _).alloc _).alloc _).alloc _, Cnt.nil⟩, ⟨_, ?_, Cnt.nil⟩, ⟨_, ?_, Cnt.nil⟩, ⟨_, ?_, Cnt.nil⟩, fr_new (fr_new (fr_new (fr_new (fr_refl w) _) _) _) _⟩
  · have h := ((World.ownsMap_made (H := Unit) (w.alloc (.map #[] 0)) Try.prog 9 (plainElem Try.prog 3)).alloc (.map #[] 0)).alloc (.map #[] 0)
    rw [e1] at h
    exact h
  · have h := (World.ownsMap_made (H := Unit) ((w.alloc (.map #[] 0)).alloc (.map #[] 0)) Try.prog 35 (plainElem Try.prog 3)).alloc (.map #[] 0)
    rw [e1, e1] at h
    exact h
  · have h := World.ownsMap_made (H := Unit) (((w.alloc (.map #[] 0)).alloc (.map #[] 0)).alloc (.map #[] 0)) Try.prog 9 (plainElem Try.prog 3)
    rw [e1, e1, e1] at h
    exact h
end
theorem text_in {w : World} {A : Option Addr} {ss : List ByteArray} (h : Has w w.heap.size A (ss.map Value.string)) {j : Nat} {s : ByteArray} (hs : ss[j]? = some s) : ∃ b off, A = some ⟨b, off, none⟩ ∧ ∀ W, Fr w W → W.cell? ⟨b, off + j, none⟩ = some (.string s) := by
  obtain ⟨b, off, e, hlt, hc⟩ := h j (.string s) (by rw [List.getElem?_map, hs]; rfl)
  exact ⟨b, off, e, fun W hb => (hb.cell hlt).trans hc⟩
theorem wrap_ok {q : Int} (h0 : 0 ≤ q) (h : q ≤ 1000) : IntKind.i64.wrap (q + 1) = q + 1 := by rw [IntKind.wrap_i64]; omega
theorem kinds_tok : ∀ (l acc : List ByteArray), (∀ s ∈ l, Sm s) → (∀ s ∈ acc, Sm s) → (l.map ofS).foldl addK (acc.map ofS) = (l.foldl addT acc).map ofS
  | [], acc, _, _ => rfl
  | s :: l, acc, h, ha => by
    have hs := h s (by simp)
    have e : addK (acc.map ofS) (ofS s) = (addT acc s).map ofS := by
      unfold addK addT
      have : ofS s ∈ acc.map ofS ↔ s ∈ acc := by
        constructor
        · intro hm
          obtain ⟨x, hx, e⟩ := List.mem_map.1 hm
          rw [← ofS_one (ha x hx) hs e]; exact hx
        · intro hm; exact List.mem_map.2 ⟨s, hm, rfl⟩
      by_cases hm : s ∈ acc
      · rw [if_pos hm, if_pos (this.2 hm)]
      · rw [if_neg hm, if_neg (fun e => hm (this.1 e))]; simp
    rw [List.map_cons, List.foldl_cons, List.foldl_cons, e]
    exact kinds_tok l (addT acc s) (fun x hx => h x (by simp [hx])) (fun x hx => by
      unfold addT at hx
      split at hx
      · exact ha x hx
      · rcases List.mem_append.1 hx with e | e
        · exact ha x e
        · simp at e; rw [e]; exact hs)
theorem kinds_len {l : List ByteArray} (h : ∀ s ∈ l, Sm s) : (kinds (l.map ofS)).length = (tokens l).length := by
  have := kinds_tok l [] h (by simp)
  rw [kinds, tokens]
  rw [show ([] : List RK) = ([] : List ByteArray).map ofS from rfl, this, List.length_map]
theorem wfAll_map {l : List ByteArray} (h : ∀ s ∈ l, Sm s) : WfAll (l.map ofS) := fun k hk => by
  obtain ⟨s, hs, rfl⟩ := List.mem_map.1 hk
  exact ofS_wf s (h s hs)
theorem wpList_len_ownG {H : Type} {P : Program} {w : World} {ops : Array Oper} {rest : List Oper} {o : Oper} {a : Act} {Q : Exit → Act → World → Prop} (hw : Region.wanted o (yielded ops a.tmps) = true) (m : Operand) (t : TypeId) (hop : o.op = Op.call { callee := Callee.builtin Builtin.len, args := #[m], argTypes := #[t] })
    (k e : TypeId) (ht : P.underlying t = some (.map k e)) (R : Value → Option (DataW H × List MemPlace)) (b n : Nat) (D : DataW H) (hm : a.eval m = .map (some b)) (hown : w.ownsMap P k R b n D)
    (hK : wpList P ops Q rest (a.put o.dst (.int .i64 (Maps.size D))) w) : wpList P ops Q (o :: rest) a w := by
  refine wpList_step fun K' hK' => ?_
  rw [if_pos hw]
  unfold Oper.wp
  simp [execOp, hop, resolve, invoke, builtin, hm, hown.len ht o.type, Result.andThen]
  exact hK' _ _ hK
theorem keyS : Sty Try.prog 30 9 := ⟨key_info, _, Try.underlying30, rfl⟩
theorem key_ld (p : Value) : Instr.loadAt 30 p = ldS 30 p := rfl
/-- A load of a key that lies in the middle of a row. -/
theorem ld_key {w : World} {b off : Nat} {k : RK} (h : KeyAt w b off k) : (ldS 30 (.pointer (some ⟨b, off, none⟩))).run Try.prog w = .ok (kv k) w := by
  simp only [ldS, Instr.loadAt, Instr.sureAddr, Sem.run_bind, Sem.run_pure, Result.andThen_ok, run_load_key h]
end Go.Proofs.Ytignnjflodkihaa
