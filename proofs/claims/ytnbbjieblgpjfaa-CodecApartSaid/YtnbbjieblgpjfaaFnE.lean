/- Rows one behind the other; a kid more, by the program. -/
import Derived.Test.YtnbbjieblgpjfaaFnA
import Derived.Test.YtnbbjieblgpjfaaShort
namespace Go.Proofs.Ytnbbjieblgpjfaa
set_option linter.unusedVariables false
set_option linter.unusedSimpArgs false
set_option maxRecDepth 100000
open Go.RowKit
section
attribute [local go_sem ↓] zt zw
theorem zcf : zgM Try.prog 3 1 8 := zgM.of (z := .int .i64 0) (by kernel_rfl) (by kernel_rfl) (by kernel_rfl) rfl
theorem zc8 : zgM Try.prog 69 9 16 := zgM.of (z := kv zr) (by kernel_rfl) (by kernel_rfl) (by kernel_rfl) rfl
theorem zbP : Try.prog.underlying 23 = some (.slice 3) := by kernel_rfl
theorem zcJ : Try.prog.underlying 24 = some (.slice 69) := by kernel_rfl
theorem zbZ (l : List Int) : One (zS l) := fun v hv => by
 obtain ⟨x, _, rfl⟩ := List.mem_map.1 hv;rfl
theorem ziP (l : List Int) : (zS l).length = l.length * 1 := by simp [zS]
theorem zgn (l : List RK) : One (zm kc l) := zlc l
theorem zfY (l : List RK) : (zm kc l).length = l.length * 9 := zaa (zdX l)
section
variable {P : Program} {w : World} {t e size bytes B : Nat}
theorem zL {w0 : World} {ops : Array Oper} {rest : List Oper} {o : Oper} {a : Act} {Q : Exit → Act → World → Prop} (E : zgM P e size bytes) (ht : P.underlying t = some (.slice e)) (hsz : 0 < size) (hgd : o.guard = none) (s x : Operand)
 (hop : o.op = .call { callee := .builtin .append, args := #[s, x], argTypes := #[t, t] }) (h0 : Fr w0 w)
 (A : Option Addr) (n c1 : Nat) (xs : List Value) (hs : a.eval s = .slice A n c1) (ho : Own w w0.heap.size e size A n c1 xs)
 (C : Nat) (A2 : Option Addr) (m c2 : Nat) (news : List Value) (hx : a.eval x = .slice A2 m c2) (hl : news.length = m * size) (hn : Has w C A2 news) (h1 : One news)
 (h63 : n + m ≤ maxLen) (hbytes : (n + m) * bytes ≤ 140737488355328)
 (h : ∀ A' c' w', Own w' w0.heap.size e size A' (n + m) c' (xs ++ news) → Fr w0 w' → wpList P ops Q rest (a.put o.dst (.slice A' (n + m) c')) w') :
 wpList P ops Q (o :: rest) a w := by
 obtain ⟨i, z, hi, hz, hsize, hby, hzs⟩ := E.row;refine zbV w hgd s x t hop w0.heap.size e i z size bytes ht hi hz hsize hby hzs hsz A n c1 xs hs ho C A2 m c2 news hx hl hn h1 h63 hbytes h0.size ?_;intro A' c' w' h1 h2 h3;exact h A' c' w' h1 (zat h0 ho h2 h0.size (Nat.le_refl _))
end
structure SI where
 A : Option Addr
 n : Nat
 c : Nat
 l : List Int
abbrev SI.v (s : SI) : Value := .slice s.A s.n s.c
structure SK where
 A : Option Addr
 n : Nat
 c : Nat
 l : List RK
abbrev SK.v (s : SK) : Value := .slice s.A s.n s.c
theorem znm {α : Type} {f : α → Value} {l : List α} {j : Nat} {x : α} (h : l[j]? = some x) : (l.map f)[j]? = some (f x) := by rw [List.getElem?_map, h]; rfl
def zd5 (xs : List SI) : List Int := xs.flatMap (·.l)
theorem znG {xs : List SI} {j : Nat} {s : SI} (h : xs[j]? = some s) : zd5 (xs.take (j + 1)) = zd5 (xs.take j) ++ s.l := by
 rw [zav h];simp [zd5]
def zd7 (xs : List SK) : List RK := xs.flatMap (·.l)
theorem zny {xs : List SK} {j : Nat} {s : SK} (h : xs[j]? = some s) : zd7 (xs.take (j + 1)) = zd7 (xs.take j) ++ s.l := by
 rw [zav h];simp [zd7]
end
section
attribute [local go_sem ↓] zt zw
theorem zab (w : World) (cs : List Value) (T : TypeId) : ∃ Z, w.alloc (.cells cs.toArray T) = Z ∧ Fr w Z ∧ Arr Z w.heap.size T cs.toArray := ⟨_, rfl, zf (ze w) _, Arr.new _ _ _⟩
theorem zT {P : Program} {ops : Array Oper} {Q : Exit → Act → World → Prop} {md : Region.Mode} {S : World → Prop} {fuel : Nat} {listed : Array Bool} {a : Act} {w w' : World} (e : w = w') (h : wpAnyH P md ops Q S fuel listed a w') : wpAnyH P md ops Q S fuel listed a w := e ▸ h
theorem Has.step {w W : World} {A : Option Addr} {xs : List Value} (h : Has w w.heap.size A xs) (f : Fr w W) : Has W W.heap.size A xs := (h.fr (Nat.le_refl _) f).mono f.size
theorem zA {W : World} {g T : Nat} {cs : List Value} (h : Arr W g T cs.toArray) : Has W W.heap.size (some ⟨g, 0, none⟩) cs := (zax _ h).mono h.lt
def zam (A : Option Addr) (cap t : Nat) : Option Addr := if cap = t then A else A.map (·.add t)
theorem zc1 (A : Option Addr) (n c t : Nat) (ht : t ≤ n) (hc : n ≤ c) (W : World) : (Instr.slice 23 (.slice A n c) (some (.int .i64 (t : Int))) none none).run Try.prog W = .ok (.slice (zam A c t) (n - t) (c - t)) W := by
 rw [run_slice_l (P := Try.prog) (w := W) (t := 23) (ht := zet) A n c .i64 (t : Int) (by omega) (by omega), zeV];simp only [Result.andThen, sliced, Int.toNat_natCast, zam, Nat.mul_one]
theorem zdf (A : Option Addr) (n c t : Nat) (ht : t ≤ n) (hc : n ≤ c) (W : World) : (Instr.sliceAt 23 (.slice A n c) none (some (.int .i64 (t : Int))) none).run Try.prog W = .ok (.slice A t c) W := by
 rw [run_sliceAt_slice (P := Try.prog) (w := W) (h := zet), zcu A n c t ht hc]
theorem zdh (A : Option Addr) (n c t : Nat) (ht : t ≤ n) (hc : n ≤ c) (W : World) : (Instr.sliceAt 23 (.slice A n c) (some (.int .i64 (t : Int))) none none).run Try.prog W = .ok (.slice (zam A c t) (n - t) (c - t)) W := by
 rw [run_sliceAt_slice (P := Try.prog) (w := W) (h := zet), zc1 A n c t ht hc]
theorem zhV {W : World} {B : Nat} {A : Option Addr} {os : List Int} {c t : Nat} (h : Has W B A (zS os)) (ht : t ≤ os.length) (hc : os.length ≤ c) : Has W B (zam A c t) (zS (os.drop t)) := by
 by_cases he : os.drop t = []
 ·rw [he]; exact Has.nil
 ·have hlt : t < os.length := by
   rcases Nat.lt_or_ge t os.length with h1 | h1
   ·exact h1
   ·exact absurd (List.drop_eq_nil_of_le h1) he
  obtain ⟨b, off, rfl, hb, hc2⟩ := h.form (fun e => by have := zeP os; rw [e] at this; simp at this; omega);unfold zam;rw [if_neg (by omega), zoB];have h2 := Has.drop h t
  simpa [Addr.add_lit] using h2
def zbu (ks : List Int) (i id : Int) : List Int := if 0 ≤ i ∧ i < ks.length then ks.take (i.toNat + 1) ++ id :: ks.drop (i.toNat + 1) else ks
def zbz (n : Nat) (ps : List RK) (i : Int) (x : RK) : List RK := if 0 ≤ i ∧ i < n then ps.take i.toNat ++ x :: ps.drop i.toNat else ps
theorem zdn {ks : List Int} {i id : Int} (h : i < 0 ∨ (ks.length : Int) ≤ i) : zbu ks i id = ks := by unfold zbu; rw [if_neg (by omega)]
theorem zhw {n : Nat} {ps : List RK} {i : Int} {x : RK} (h : i < 0 ∨ (n : Int) ≤ i) : zbz n ps i x = ps := by unfold zbz; rw [if_neg (by omega)]
theorem zf7 {ks : List Int} {q : Nat} {id : Int} (h : q < ks.length) : zbu ks (q : Int) id = ks.take (q + 1) ++ id :: ks.drop (q + 1) := by unfold zbu; rw [if_pos (by omega)]; rfl
theorem zhK {n : Nat} {ps : List RK} {q : Nat} {x : RK} (h : q < n) : zbz n ps (q : Int) x = ps.take q ++ x :: ps.drop q := by unfold zbz; rw [if_pos (by omega)]; rfl
abbrev OwnI (w : World) (B : Nat) (A : Option Addr) (c : Nat) (l : List Int) : Prop := Own w B 3 1 A l.length c (zS l)
abbrev OwnK (w : World) (B : Nat) (A : Option Addr) (c : Nat) (l : List RK) : Prop := Own w B 69 9 A l.length c (zm kc l)
def zeO (W0 : World) (a : List Int) (b : List RK) (e : Ending) (w' : World) : Prop := ∃ A3 c3 A4 c4, e = .returned (.tuple #[.slice A3 a.length c3, .slice A4 b.length c4]) ∧ Hid (OwnI w' W0.heap.size A3 c3 a) ∧ Hid (OwnK w' W0.heap.size A4 c4 b) ∧ Fr W0 w'
theorem cat1I (A : Option Addr) (n c : Nat) (l : List Int) : zd5 [⟨A, n, c, l⟩] = l := by simp [zd5]
theorem cat1K (A : Option Addr) (n c : Nat) (l : List RK) : zd7 [⟨A, n, c, l⟩] = l := by simp [zd7]
end
end Go.Proofs.Ytnbbjieblgpjfaa
