/- Buffers in memory, one: what comparing comes to from a base world; 'sort.Search' with a closure; 'place'. -/
import Derived.Test.YtnbbjieblgpjfaaBuf0
import Derived.Test.YtnbbjieblgpjfaaKeyE
import Derived.Test.YtnbbjieblgpjfaaOwn
import Derived.Deep.LoopGhost
import Derived.Deep.RegionWith
import Derived.Deep.RegionHeld3
import Derived.Deep.Cut
import Derived.BigQuiet
import Derived.Deep.QuietTactic
import Derived.Laws.Externs
import Derived.Lib.LazyBuf
import Derived.Deep.RegionLaw
import Derived.Lib.SlBuf
import Derived.Test.YtnbbjieblgpjfaaMsgF
namespace Go.Proofs.Ytnbbjieblgpjfaa
set_option linter.unusedVariables false
set_option linter.unusedSimpArgs false
set_option maxRecDepth 100000
open Go.RowKit
section
attribute [local go_sem ↓] zt zw
section
variable {W0 W : World} {a b : RK}
theorem zeT (wa : a.wf) (wb : b.wf) (oa : okB a = true) (ob : okB b = true) (hb : Fr W0 W) : Calls Try.prog 107 #[kv a, kv b] W fun e w' => e = .returned (.int .i64 (zaB a b)) ∧ Fr W0 w' := (zkq a b wa wb (za1 oa) (za1 ob) W).mono fun _ _ ⟨he, hw⟩ => ⟨he, za hb (hw.fr)⟩
theorem zcF (wa : a.wf) (wb : b.wf) (oa : okB a = true) (ob : okB b = true) (hb : Fr W0 W) : Calls Try.prog 86 #[kv a, kv b] W fun e w' => e = .returned (.int .i64 (zaB a b)) ∧ Fr W0 w' := (zdQ a b wa wb oa ob W).mono fun _ _ ⟨he, hw⟩ => ⟨he, za hb hw⟩
theorem zbE : 0 ≤ zaB a b ↔ zu b ≤ zu a := by
 unfold zaB
 rcases zcD (zu a) (zu b) with ⟨h, h2⟩ | ⟨h, h2⟩ | ⟨h, h2⟩ <;> omega
theorem zjF : 0 < zaB a b ↔ zu b < zu a := by
 unfold zaB
 rcases zcD (zu a) (zu b) with ⟨h, h2⟩ | ⟨h, h2⟩ | ⟨h, h2⟩ <;> omega
theorem zfc : zaB a b < 0 ↔ zu a < zu b := by
 unfold zaB
 rcases zcD (zu a) (zu b) with ⟨h, h2⟩ | ⟨h, h2⟩ | ⟨h, h2⟩ <;> omega
theorem zjJ (wa : a.wf) (wb : b.wf) (oa : okB a = true) (ob : okB b = true) : zaB a b = 0 ↔ a = b := by
 unfold zaB
 rcases zcD (zu a) (zu b) with ⟨h, h2⟩ | ⟨h, h2⟩ | ⟨h, h2⟩
 ·exact ⟨fun e => by omega, fun e => by rw [e] at h; omega⟩
 ·exact ⟨fun e => by omega, fun e => by rw [e] at h; omega⟩
 ·exact ⟨fun _ => zcI wa wb (za1 oa) (za1 ob) h, fun e => h2⟩
end
def WfM (l : List RM) : Prop := ∀ m ∈ l, m.wf
theorem zcq.wfm {l : List RM} (h : zcq l) : WfM l := fun m hm => (h m hm).1
theorem WfM.wid {l : List RM} (h : WfM l) : Wid mc 29 l := fun a ha => zP (h a ha).val.hl
theorem za8 {l : List RM} {j : Nat} {m : RM} (h : l[j]? = some m) : m ∈ l := by
 obtain ⟨_, e⟩ := List.getElem?_eq_some_iff.1 h;rw [← e]; exact List.getElem_mem _
theorem zda (l : List RM) : One (zm mc l) := zlU zay l
end
section
attribute [local go_sem ↓] zt zw
theorem zk5 (w : World) (A : Option Addr) (n c : Nat) (k : RK) : ∃ Z, (w.alloc (.cells #[.slice A n c] 25)).alloc (.cells (kc k).toArray 69) = Z ∧ Fr w Z ∧ Fr Z Z ∧ Arr Z w.heap.size 25 #[.slice A n c] ∧ Arr Z (w.heap.size + 1) 69 (kc k).toArray ∧ Z.heap.size = w.heap.size + 1 + 1 := by
 refine ⟨_, rfl, zf (zf (ze w) _) _, ze _, Arr.alloc (Arr.new w _ _) _, zbr _ _ _ _ (by simp), by simp⟩
end
section
attribute [local go_sem ↓] zt zw
theorem ze3 : zgM Try.prog 77 29 64 := zgM.of (z := mm za0) (by kernel_rfl) (by kernel_rfl) (by kernel_rfl) rfl
theorem za9 : Try.prog.underlying 25 = some (.slice 77) := Try.underlying25
theorem zkt (A : Option Addr) (n c : Nat) (w : World) : (binOp .eql 25 (.slice A n c) (.slice none 0 0)).run Try.prog w = .ok (.bool A.isNone) w := by
 exact run_eql_slice_nil w _ _ A n c za9
abbrev zaC (w : World) (B : Nat) (A : Option Addr) (c : Nat) (l : List RM) : Prop := Own w B 77 29 A l.length c (zm mc l)
theorem zho (w : World) : (sizeOf (Try.prog.elem 25)).run Try.prog w = .ok 29 w := by kernel_rfl
theorem zhA : Try.prog.underlying 25 = some (.slice (Try.prog.elem 25)) := by kernel_rfl
def zia (A : Option Addr) (m t : Nat) : Option Addr := if m = t then A else A.map (·.add (t * 29))
theorem zci {g o m t : Nat} (h : t < m) : zia (some ⟨g, o, none⟩) m t = some ⟨g, o + t * 29, none⟩ := by
 unfold zia;rw [if_neg (by omega)];simp [Addr.add_lit]
theorem zdW (A : Option Addr) (n c t : Nat) (ht : t ≤ c) (W : World) : (Instr.slice 25 (.slice A n c) none (some (.int .i64 (t : Int))) none).run Try.prog W = .ok (.slice A t c) W := by
 rw [run_slice_h (P := Try.prog) (w := W) (t := 25) (ht := zhA) A n c .i64 (t : Int) (by omega) (by omega), zho];have h0 : A.map (·.add 0) = A := by cases A <;> simp [Addr.add]
 simp only [Result.andThen, sliced, Int.toNat_natCast, Nat.zero_mul, h0, Nat.sub_zero, ite_self]
theorem zbk (A : Option Addr) (n c t : Nat) (ht : t ≤ n) (W : World) : (Instr.slice 25 (.slice A n c) (some (.int .i64 (t : Int))) none none).run Try.prog W = .ok (.slice (zia A c t) (n - t) (c - t)) W := by
 rw [run_slice_l (P := Try.prog) (w := W) (t := 25) (ht := zhA) A n c .i64 (t : Int) (by omega) (by omega), zho];simp only [Result.andThen, sliced, Int.toNat_natCast, zia]
theorem ziq (A : Option Addr) (n c l h m : Nat) (h1 : l ≤ h) (h2 : h ≤ m) (h3 : m ≤ c) (W : World) : (Instr.slice 25 (.slice A n c) (some (.int .i64 (l : Int))) (some (.int .i64 (h : Int))) (some (.int .i64 (m : Int)))).run Try.prog W = .ok (.slice (zia A m l) (h - l) (m - l)) W := by
 rw [run_slice_lhm (P := Try.prog) (w := W) (t := 25) (ht := zhA) A n c .i64 .i64 .i64 (l : Int) (h : Int) (m : Int) (by omega) (by omega) (by omega) (by omega), zho];simp only [Result.andThen, sliced, Int.toNat_natCast, zia]
theorem zfw (A : Option Addr) (n c h m : Nat) (h2 : h ≤ m) (h3 : m ≤ c) (W : World) : (Instr.slice 25 (.slice A n c) none (some (.int .i64 (h : Int))) (some (.int .i64 (m : Int)))).run Try.prog W = .ok (.slice A h m) W := by
 rw [run_slice_hm (P := Try.prog) (w := W) (t := 25) (ht := zhA) A n c .i64 .i64 (h : Int) (m : Int) (by omega) (by omega) (by omega), zho];have h0 : A.map (·.add 0) = A := by cases A <;> simp [Addr.add]
 simp only [Result.andThen, sliced, Int.toNat_natCast, Nat.zero_mul, h0, Nat.sub_zero, ite_self]
end
section
attribute [local go_sem ↓] zt zw
theorem zct {w : World} {B e size n c : Nat} {A : Option Addr} {xs : List Value} (h : Own w B e size A n c xs) : Own w.drew B e size A n c xs := h
theorem ziT : ∃ i z, Try.prog.info? 77 = some i ∧ i.size = 29 ∧ i.zero = some z ∧ z.cells.size = 29 ∧ i.bytes = 64 := by
 obtain ⟨i, z, h1, h2, h3, h4, h5⟩ := ze3.row;exact ⟨i, z, h1, h3, h2, h5, h4⟩
theorem zmY {n i : Nat} (h : i < n) : (i + 1 + (n - i)) = n + 1 := by omega
theorem zkx {l : List RM} {m : RM} {i n : Nat} (hi : i < n) (hn : l.length = n) (wl : WfM l) (wm : m.wf) (ys : List Value) (hys : ys.length = 29) :
 (((zm mc l ++ ys).take ((i + 1) * 29) ++ zm mc (l.drop i) ++ (zm mc l ++ ys).drop ((i + 1 + (n - i)) * 29)).take (i * 29) ++ mc m ++ ((zm mc l ++ ys).take ((i + 1) * 29) ++ zm mc (l.drop i) ++ (zm mc l ++ ys).drop ((i + 1 + (n - i)) * 29)).drop ((i + 1) * 29)) = zm mc (l.take i ++ m :: l.drop i) := by
 have hlen : (zm mc l).length = n * 29 := by rw [zaa wl.wid, hn]
 have e1 : (zm mc l ++ ys).drop ((i + 1 + (n - i)) * 29) = [] := List.drop_eq_nil_of_le (by rw [List.length_append, hlen, hys, zmY hi]; omega);have e2 : ((zm mc l ++ ys).take ((i + 1) * 29)).length = (i + 1) * 29 := by rw [List.length_take, List.length_append, hlen, hys]; omega
 rw [e1, List.append_nil, List.drop_left' e2, List.take_append_of_le_length (by rw [e2]; omega), List.take_take, Nat.min_eq_left (by omega), List.take_append_of_le_length (by rw [hlen]; omega), ← zbq wl.wid, zas, zcj, List.append_assoc]
end
section
attribute [local go_sem ↓] zt zw
theorem zbX {P : Program} (w : World) {ops : Array Oper} {rest : List Oper} {o : Oper} {a : Act} {Q : Exit → Act → World → Prop} (hgd : o.guard = none) (d s : Operand) (t t' : TypeId)
 (ho : o.op = .call { callee := .builtin .append, args := #[d, s], argTypes := #[t, t'] }) (v u : Value) (hd : a.eval d = v) (hs : a.eval s = u) {v' : Value} {w' : World}
 (hr : (Builtin.append_ #[t, t'] o.type #[v, u]).run P w = .ok v' w') (h : wpList P ops Q rest (a.put o.dst v') w') : wpList P ops Q (o :: rest) a w :=
 wpList_plain hgd fun _ hK => by
  unfold Oper.wp execOp;simp only [ho, resolve, invoke, builtin, Sem.run_bind, Sem.run_pure, Result.andThen_ok, List.map_toArray, List.map_cons, List.map_nil, hd, hs, hr];exact hK _ _ h
theorem zoN {l : List RM} {m : RM} {i n : Nat} (hi : i < n) (hn : l.length = n) (wl : WfM l) (wm : m.wf) (zs : List Value) (hzs : zs.length = (n + 1 - i) * 29) :
 (((zm mc l).take (i * 29) ++ zs).take (i * 29) ++ mc m ++ ((zm mc l).take (i * 29) ++ zs).drop ((i + 1) * 29)).take ((i + 1) * 29) ++ zm mc (l.drop i) ++ (((zm mc l).take (i * 29) ++ zs).take (i * 29) ++ mc m ++ ((zm mc l).take (i * 29) ++ zs).drop ((i + 1) * 29)).drop ((i + 1 + (n - i)) * 29) = zm mc (l.take i ++ m :: l.drop i) := by
 have hlen : (zm mc l).length = n * 29 := by rw [zaa wl.wid, hn]
 have h1 : ((zm mc l).take (i * 29)).length = i * 29 := by rw [List.length_take, hlen]; omega
 have hm := zP wm.val.hl;have e0 : ((zm mc l).take (i * 29) ++ zs).take (i * 29) = zm mc (l.take i) := by rw [List.take_left' h1, ← zbq wl.wid]
 have hlt : (zm mc (l.take i)).length = i * 29 := by rw [zbq wl.wid, h1]
 rw [e0];have e1 : (zm mc (l.take i) ++ mc m ++ ((zm mc l).take (i * 29) ++ zs).drop ((i + 1) * 29)).take ((i + 1) * 29) = zm mc (l.take i) ++ mc m := List.take_left' (by rw [List.length_append, hlt, hm]; omega);have e2 : (zm mc (l.take i) ++ mc m ++ ((zm mc l).take (i * 29) ++ zs).drop ((i + 1) * 29)).drop ((i + 1 + (n - i)) * 29) = [] := List.drop_eq_nil_of_le (by rw [List.length_append, List.length_append, List.length_drop, List.length_append, hlt, hm, h1, hzs]; omega);rw [e1, e2, List.append_nil, zas, zcj, List.append_assoc]
theorem zgc {w w' : World} {B : Nat} (h : w.grownBy w' none) (hB : B ≤ w.heap.size) : Below B w w' := (Below.refl B w).grown h hB (fun k hk => by cases hk)
theorem zga {T V : Nat} {cs : Array Value} {w w' : World} (h : w.grownBy w' none) (ha : Arr w V T cs) : Arr w' V T cs := (h.block V ha.lt (by simp)).trans ha
end
section
attribute [local go_sem ↓] zt zw zaX
theorem zcK (w : World) (m : RM) : ∃ Z, w.alloc (.cells (mc m).toArray 77) = Z ∧ Fr w Z ∧ Fr Z Z ∧ Arr Z w.heap.size 77 (mc m).toArray ∧ Z.heap.size = w.heap.size + 1 := ⟨_, rfl, zf (ze w) _, ze _, Arr.new w _ _, by simp⟩
theorem zep : ∀ (cs : List Value) (k : Nat) (z : Array Value), k + cs.length = z.size → List.foldl (fun (cs : Array Value) (x : Value × Nat) => cs.setIfInBounds x.snd x.fst) z (cs.zipIdx k) = (z.toList.take k ++ cs).toArray
 | [], k, z, h => by
  simp at h;subst h;simp [List.take_of_length_le]
 | v :: cs, k, z, h => by
  simp only [List.length_cons] at h;rw [List.zipIdx_cons, List.foldl_cons, zep cs (k + 1) _ (by simp; omega)]
  congr 1
  simp only [Array.toList_setIfInBounds];rw [show v :: cs = [v] ++ cs from rfl, ← List.append_assoc]
  congr 1
  apply List.ext_getElem?;intro j;simp only [List.getElem?_take, List.getElem?_set, List.getElem?_append, List.length_take, Array.length_toList]
  by_cases h1 : j < k
  ·have : min k z.size = k := by omega
   simp [h1, this, show j < k + 1 by omega, Nat.ne_of_gt h1]
  ·by_cases h2 : j = k
   ·subst h2
    have : min j z.size = j := by omega
    have : j < z.size := by omega
    simp [*]
   ·have : min k z.size = k := by omega
    simp [h1, this, show ¬ j < k + 1 by omega];omega
theorem zlw {m : RM} (hl : (mc m).length = 29) : List.foldl (fun (cs : Array Value) (x : Value × Nat) => cs.setIfInBounds x.snd x.fst) (mc za0).toArray (mc m).zipIdx = (mc m).toArray := by
 have := zep (mc m) 0 (mc za0).toArray (by rw [hl]; rfl)
 simpa using this
end
end Go.Proofs.Ytnbbjieblgpjfaa
