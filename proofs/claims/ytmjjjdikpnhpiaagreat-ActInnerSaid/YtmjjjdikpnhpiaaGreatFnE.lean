/- Rows one behind the other; a kid more, by the program. -/
import Derived.Test.YtmjjjdikpnhpiaaGreatFnA
import Derived.Test.YtmjjjdikpnhpiaaGreatShort
namespace Go.Proofs.YtmjjjdikpnhpiaaGreat
set_option linter.unusedVariables false
set_option linter.unusedSimpArgs false
set_option maxRecDepth 100000
open Go.RowKit
section
attribute [local go_sem ↓] zt zw
theorem zcf : zgM Tryz.prog 3 1 8 := zgM.of (z := .int .i64 0) (by kernel_rfl) (by kernel_rfl) (by kernel_rfl) rfl
theorem zc8 : zgM Tryz.prog 33 9 16 := zgM.of (z := kv zr) (by kernel_rfl) (by kernel_rfl) (by kernel_rfl) rfl
theorem zbP : Tryz.prog.underlying 22 = some (.slice 3) := by kernel_rfl
theorem zcJ : Tryz.prog.underlying 24 = some (.slice 33) := by kernel_rfl
theorem zbZ (l : List Int) : One (zS l) := fun v hv => by
 obtain ⟨x, _, rfl⟩ := List.mem_map.1 hv;rfl
theorem ziP (l : List Int) : (zS l).length = l.length * 1 := by simp [zS]
theorem zgn (l : List RK) : One (zm kc l) := zlc l
theorem zfY (l : List RK) : (zm kc l).length = l.length * 9 := zaa (zdX l)
section
variable {P : Program} {w : World} {t e size bytes B : Nat}
theorem zL {w0 : World} {ops : Array Oper} {rest : List Oper} {o : Oper} {a : Act} {Q : Exit → Act → World → Prop} (E : zgM P e size bytes) (ht : P.underlying t = some (.slice e)) (hsz : 0 < size) (hgd : o.guard = none) (s x : Operand)
 (hop : o.op = .call { callee := .builtin .append, args := #[s, x], argTypes := #[t, t] }) (h0 : Fr w0 w)
 (A : Option Addr) (n c1 : Nat) (xs : List Value) (hs : a.eval s = .slice A n c1) (ho : Own w w0.heap.size e size A n c1 xs)
 (C : Nat) (A2 : Option Addr) (m c2 : Nat) (news : List Value) (hx : a.eval x = .slice A2 m c2) (hl : news.length = m * size) (hn : Has w C A2 news) (h1 : One news)
 (h63 : n + m ≤ maxLen) (hbytes : (n + m) * bytes ≤ 140737488355328)
 (h : ∀ A' c' w', Own w' w0.heap.size e size A' (n + m) c' (xs ++ news) → Fr w0 w' → wpList P ops Q rest (a.put o.dst (.slice A' (n + m) c')) w') :
 wpList P ops Q (o :: rest) a w := by
 obtain ⟨i, z, hi, hz, hsize, hby, hzs⟩ := E.row;refine zbV w hgd s x t hop w0.heap.size e i z size bytes ht hi hz hsize hby hzs hsz A n c1 xs hs ho C A2 m c2 news hx hl hn h1 h63 hbytes h0.size ?_;intro A' c' w' h1 h2 h3;exact h A' c' w' h1 (zat h0 ho h2 h0.size (Nat.le_refl _))
end
structure SI where
 A : Option Addr
 n : Nat
 c : Nat
 l : List Int
abbrev SI.v (s : SI) : Value := .slice s.A s.n s.c
structure SK where
 A : Option Addr
 n : Nat
 c : Nat
 l : List RK
abbrev SK.v (s : SK) : Value := .slice s.A s.n s.c
theorem znm {α : Type} {f : α → Value} {l : List α} {j : Nat} {x : α} (h : l[j]? = some x) : (l.map f)[j]? = some (f x) := by rw [List.getElem?_map, h]; rfl
def zd5 (xs : List SI) : List Int := xs.flatMap (·.l)
theorem znG {xs : List SI} {j : Nat} {s : SI} (h : xs[j]? = some s) : zd5 (xs.take (j + 1)) = zd5 (xs.take j) ++ s.l := by
 rw [zav h];simp [zd5]
set_option maxHeartbeats 1000000 in
theorem zix {W0 w : World} {A : Option Addr} {m cc B : Nat} {xs : List SI} (hb : Has w B A (xs.map SI.v)) (hB : B ≤ w.heap.size) (hm : xs.length = m) (hm3 : m ≤ 8) (hx : ∀ s ∈ xs, Has w w.heap.size s.A (zS s.l) ∧ s.l.length = s.n ∧ s.n ≤ 100000) (h0 : Fr W0 w) :
 Calls Tryz.prog 90 #[.slice A m cc] w fun e w' => ∃ A' c', e = .returned (.slice A' (zd5 xs).length c') ∧ Own w' w.heap.size 3 1 A' (zd5 xs).length c' (zS (zd5 xs)) ∧ Fr W0 w' := by
 have Hb := zb hb;have Hm := zb hm;have Hx := zb hx;have H0 := zb h0;have hww := ze w;clear hb hm hx h0;go_enter Tryz.func90, Tryz.ntmps90;go_wp2_with fail
 go_loopg [3, 8] m (fun g s3 s8 wr => ∃ (j : Nat) (D : Option Addr) (d k : Nat), j + g = m ∧ s8 = .int .i64 j ∧ s3 = .slice D k d ∧ k ≤ j * 100000 ∧ Hid (k = (zd5 (xs.take j)).length) ∧ Hid (Own wr w.heap.size 3 1 D k d (zS (zd5 (xs.take j)))) ∧ Hid (Fr w wr))
 case atStart => exact ⟨0, none, 0, 0, by omega, rfl, rfl, by omega, zb rfl, zb (Own.nil _ _ _ _), zb hww⟩
 case round =>
  obtain ⟨j, D, d, k, hj, rfl, rfl, hkj, hk, hO, hW⟩ := hrel
  by_cases hlt : j < m
  ·have hs : xs[j]? = some (xs[j]'(by rw [Hm.out]; exact hlt)) := List.getElem?_eq_getElem _
   generalize xs[j]'(by rw [Hm.out]; exact hlt) = s at hs;obtain ⟨b, off, rfl, hb1, hc⟩ := Hb.out j _ (znm hs);obtain ⟨q1, q2, q3⟩ := Hx.out s (List.mem_of_getElem? hs);have hWW := hW.out;have cell : wr.cell? ⟨b, off + j, none⟩ = some (.slice s.A s.n s.c) := (hWW.cell (by show b < w.heap.size; omega)).trans hc;have hjz : (j : Int) < (m : Int) := by omega
   have Hstep := zb (znG hs);have hh := zb (q1.fr (Nat.le_refl _) hWW);have hll : Hid ((zS s.l).length = s.n * 1) := zb (by rw [ziP, q2]);have Hq2 := zb q2;clear hs hc hlt q1 q2
   go_wp2_with (first
    | (refine zL (w0 := w) zcf zbP (by decide) rfl (.tmp 12) (.tmp 13) rfl hWW D k d (zS (zd5 (xs.take j))) rfl hO.out w.heap.size s.A s.n s.c (zS s.l) rfl hll.out hh.out (zbZ _) (by unfold maxLen; omega) (by omega) ?_; intro D2 d2 w2 ho2 hf2)
    | fail)
   go_roundg (gk - 1)
   case measure => omega
   case rel => exact ⟨j + 1, D2, d2, k + s.n, by omega, rfl, rfl, by omega, by rw [Hstep.out, List.length_append, ← hk.out, Hq2.out]; exact zb rfl, by rw [Hstep.out, zd9]; exact zb ho2, zb hf2⟩
  ·have hjn : j = m := by omega
   have hjz : ¬ (j : Int) < (m : Int) := by omega
   have hall : xs.take j = xs := List.take_of_length_le (by rw [Hm.out]; omega);rw [hall] at hk hO;clear hlt hjn hall;go_wp2_with fail;go_ret;rw [← hk.out];exact ⟨D, d, rfl, hO.out, za H0.out hW.out⟩
def zd7 (xs : List SK) : List RK := xs.flatMap (·.l)
theorem zny {xs : List SK} {j : Nat} {s : SK} (h : xs[j]? = some s) : zd7 (xs.take (j + 1)) = zd7 (xs.take j) ++ s.l := by
 rw [zav h];simp [zd7]
set_option maxHeartbeats 1000000 in
theorem zhX {W0 w : World} {A : Option Addr} {m cc B : Nat} {xs : List SK} (hb : Has w B A (xs.map SK.v)) (hB : B ≤ w.heap.size) (hm : xs.length = m) (hm3 : m ≤ 8) (hx : ∀ s ∈ xs, Has w w.heap.size s.A (zm kc s.l) ∧ s.l.length = s.n ∧ s.n ≤ 100000) (h0 : Fr W0 w) :
 Calls Tryz.prog 91 #[.slice A m cc] w fun e w' => ∃ A' c', e = .returned (.slice A' (zd7 xs).length c') ∧ Own w' w.heap.size 33 9 A' (zd7 xs).length c' (zm kc (zd7 xs)) ∧ Fr W0 w' := by
 have Hb := zb hb;have Hm := zb hm;have Hx := zb hx;have H0 := zb h0;have hww := ze w;clear hb hm hx h0;go_enter Tryz.func91, Tryz.ntmps91;go_wp2_with fail
 go_loopg [3, 8] m (fun g s3 s8 wr => ∃ (j : Nat) (D : Option Addr) (d k : Nat), j + g = m ∧ s8 = .int .i64 j ∧ s3 = .slice D k d ∧ k ≤ j * 100000 ∧ Hid (k = (zd7 (xs.take j)).length) ∧ Hid (Own wr w.heap.size 33 9 D k d (zm kc (zd7 (xs.take j)))) ∧ Hid (Fr w wr))
 case atStart => exact ⟨0, none, 0, 0, by omega, rfl, rfl, by omega, zb rfl, zb (Own.nil _ _ _ _), zb hww⟩
 case round =>
  obtain ⟨j, D, d, k, hj, rfl, rfl, hkj, hk, hO, hW⟩ := hrel
  by_cases hlt : j < m
  ·have hs : xs[j]? = some (xs[j]'(by rw [Hm.out]; exact hlt)) := List.getElem?_eq_getElem _
   generalize xs[j]'(by rw [Hm.out]; exact hlt) = s at hs;obtain ⟨b, off, rfl, hb1, hc⟩ := Hb.out j _ (znm hs);obtain ⟨q1, q2, q3⟩ := Hx.out s (List.mem_of_getElem? hs);have hWW := hW.out;have cell : wr.cell? ⟨b, off + j, none⟩ = some (.slice s.A s.n s.c) := (hWW.cell (by show b < w.heap.size; omega)).trans hc;have hjz : (j : Int) < (m : Int) := by omega
   have Hstep := zb (zny hs);have hh := zb (q1.fr (Nat.le_refl _) hWW);have hll : Hid ((zm kc s.l).length = s.n * 9) := zb (by rw [zfY, q2]);have Hq2 := zb q2;clear hs hc hlt q1 q2
   go_wp2_with (first
    | (refine zL (w0 := w) zc8 zcJ (by decide) rfl (.tmp 12) (.tmp 13) rfl hWW D k d (zm kc (zd7 (xs.take j))) rfl hO.out w.heap.size s.A s.n s.c (zm kc s.l) rfl hll.out hh.out (zgn _) (by unfold maxLen; omega) (by omega) ?_; intro D2 d2 w2 ho2 hf2)
    | fail)
   go_roundg (gk - 1)
   case measure => omega
   case rel => exact ⟨j + 1, D2, d2, k + s.n, by omega, rfl, rfl, by omega, by rw [Hstep.out, List.length_append, ← hk.out, Hq2.out]; exact zb rfl, by rw [Hstep.out, zas]; exact zb ho2, zb hf2⟩
  ·have hjn : j = m := by omega
   have hjz : ¬ (j : Int) < (m : Int) := by omega
   have hall : xs.take j = xs := List.take_of_length_le (by rw [Hm.out]; omega);rw [hall] at hk hO;clear hlt hjn hall;go_wp2_with fail;go_ret;rw [← hk.out];exact ⟨D, d, rfl, hO.out, za H0.out hW.out⟩
end
section
attribute [local go_sem ↓] zt zw
theorem zab (w : World) (cs : List Value) (T : TypeId) : ∃ Z, w.alloc (.cells cs.toArray T) = Z ∧ Fr w Z ∧ Arr Z w.heap.size T cs.toArray := ⟨_, rfl, zf (ze w) _, Arr.new _ _ _⟩
theorem zT {P : Program} {ops : Array Oper} {Q : Exit → Act → World → Prop} {md : Region.Mode} {S : World → Prop} {fuel : Nat} {listed : Array Bool} {a : Act} {w w' : World} (e : w = w') (h : wpAnyH P md ops Q S fuel listed a w') : wpAnyH P md ops Q S fuel listed a w := e ▸ h
theorem Has.step {w W : World} {A : Option Addr} {xs : List Value} (h : Has w w.heap.size A xs) (f : Fr w W) : Has W W.heap.size A xs := (h.fr (Nat.le_refl _) f).mono f.size
theorem zA {W : World} {g T : Nat} {cs : List Value} (h : Arr W g T cs.toArray) : Has W W.heap.size (some ⟨g, 0, none⟩) cs := (zax _ h).mono h.lt
def zam (A : Option Addr) (cap t : Nat) : Option Addr := if cap = t then A else A.map (·.add t)
theorem zc1 (A : Option Addr) (n c t : Nat) (ht : t ≤ n) (hc : n ≤ c) (W : World) : (Instr.slice 22 (.slice A n c) (some (.int .i64 (t : Int))) none none).run Tryz.prog W = .ok (.slice (zam A c t) (n - t) (c - t)) W := by
 rw [run_slice_l (P := Tryz.prog) (w := W) (t := 22) (ht := zet) A n c .i64 (t : Int) (by omega) (by omega), zeV];simp only [Result.andThen, sliced, Int.toNat_natCast, zam, Nat.mul_one]
theorem zdf (A : Option Addr) (n c t : Nat) (ht : t ≤ n) (hc : n ≤ c) (W : World) : (Instr.sliceAt 22 (.slice A n c) none (some (.int .i64 (t : Int))) none).run Tryz.prog W = .ok (.slice A t c) W := by
 rw [run_sliceAt_slice (P := Tryz.prog) (w := W) (h := zet), zcu A n c t ht hc]
theorem zdh (A : Option Addr) (n c t : Nat) (ht : t ≤ n) (hc : n ≤ c) (W : World) : (Instr.sliceAt 22 (.slice A n c) (some (.int .i64 (t : Int))) none none).run Tryz.prog W = .ok (.slice (zam A c t) (n - t) (c - t)) W := by
 rw [run_sliceAt_slice (P := Tryz.prog) (w := W) (h := zet), zc1 A n c t ht hc]
theorem zhV {W : World} {B : Nat} {A : Option Addr} {os : List Int} {c t : Nat} (h : Has W B A (zS os)) (ht : t ≤ os.length) (hc : os.length ≤ c) : Has W B (zam A c t) (zS (os.drop t)) := by
 by_cases he : os.drop t = []
 ·rw [he]; exact Has.nil
 ·have hlt : t < os.length := by
   rcases Nat.lt_or_ge t os.length with h1 | h1
   ·exact h1
   ·exact absurd (List.drop_eq_nil_of_le h1) he
  obtain ⟨b, off, rfl, hb, hc2⟩ := h.form (fun e => by have := zeP os; rw [e] at this; simp at this; omega);unfold zam;rw [if_neg (by omega), zoB];have h2 := Has.drop h t
  simpa [Addr.add_lit] using h2
def zbu (ks : List Int) (i id : Int) : List Int := if 0 ≤ i ∧ i < ks.length then ks.take (i.toNat + 1) ++ id :: ks.drop (i.toNat + 1) else ks
def zbz (n : Nat) (ps : List RK) (i : Int) (x : RK) : List RK := if 0 ≤ i ∧ i < n then ps.take i.toNat ++ x :: ps.drop i.toNat else ps
theorem zdn {ks : List Int} {i id : Int} (h : i < 0 ∨ (ks.length : Int) ≤ i) : zbu ks i id = ks := by unfold zbu; rw [if_neg (by omega)]
theorem zhw {n : Nat} {ps : List RK} {i : Int} {x : RK} (h : i < 0 ∨ (n : Int) ≤ i) : zbz n ps i x = ps := by unfold zbz; rw [if_neg (by omega)]
theorem zf7 {ks : List Int} {q : Nat} {id : Int} (h : q < ks.length) : zbu ks (q : Int) id = ks.take (q + 1) ++ id :: ks.drop (q + 1) := by unfold zbu; rw [if_pos (by omega)]; rfl
theorem zhK {n : Nat} {ps : List RK} {q : Nat} {x : RK} (h : q < n) : zbz n ps (q : Int) x = ps.take q ++ x :: ps.drop q := by unfold zbz; rw [if_pos (by omega)]; rfl
abbrev OwnI (w : World) (B : Nat) (A : Option Addr) (c : Nat) (l : List Int) : Prop := Own w B 3 1 A l.length c (zS l)
abbrev OwnK (w : World) (B : Nat) (A : Option Addr) (c : Nat) (l : List RK) : Prop := Own w B 33 9 A l.length c (zm kc l)
def zeO (W0 : World) (a : List Int) (b : List RK) (e : Ending) (w' : World) : Prop := ∃ A3 c3 A4 c4, e = .returned (.tuple #[.slice A3 a.length c3, .slice A4 b.length c4]) ∧ Hid (OwnI w' W0.heap.size A3 c3 a) ∧ Hid (OwnK w' W0.heap.size A4 c4 b) ∧ Fr W0 w'
theorem cat1I (A : Option Addr) (n c : Nat) (l : List Int) : zd5 [⟨A, n, c, l⟩] = l := by simp [zd5]
theorem cat1K (A : Option Addr) (n c : Nat) (l : List RK) : zd7 [⟨A, n, c, l⟩] = l := by simp [zd7]
theorem joini1 {W0 w : World} {A : Option Addr} {n c g T : Nat} {l : List Int} (hb : Has w w.heap.size (some ⟨g, 0, none⟩) [.slice A n c]) (hl : Has w w.heap.size A (zS l)) (hn : l.length = n) (hs : n ≤ 100000) (h0 : Fr W0 w) {V0 : World} (hv : Fr V0 w) :
 Calls Tryz.prog 90 #[.slice (some ⟨g, 0, none⟩) 1 1] w fun e w' => ∃ A' c', e = .returned (.slice A' n c') ∧ Hid (Own w' V0.heap.size 3 1 A' n c' (zS l)) ∧ Fr W0 w' :=
 (zix (cc := 1) (xs := [⟨A, n, c, l⟩]) hb (Nat.le_refl _) rfl (by simp) (fun s hs' => by simp at hs'; subst hs'; exact ⟨hl, hn, hs⟩) h0).mono fun e w' h => by
  obtain ⟨A', c', e1, h1, h2⟩ := h;rw [cat1I, hn] at e1 h1;exact ⟨A', c', e1, zb (h1.mono hv.size), h2⟩
theorem joink1 {W0 w : World} {A : Option Addr} {n c g T : Nat} {l : List RK} (hb : Has w w.heap.size (some ⟨g, 0, none⟩) [.slice A n c]) (hl : Has w w.heap.size A (zm kc l)) (hn : l.length = n) (hs : n ≤ 100000) (h0 : Fr W0 w) {V0 : World} (hv : Fr V0 w) :
 Calls Tryz.prog 91 #[.slice (some ⟨g, 0, none⟩) 1 1] w fun e w' => ∃ A' c', e = .returned (.slice A' n c') ∧ Hid (Own w' V0.heap.size 33 9 A' n c' (zm kc l)) ∧ Fr W0 w' :=
 (zhX (cc := 1) (xs := [⟨A, n, c, l⟩]) hb (Nat.le_refl _) rfl (by simp) (fun s hs' => by simp at hs'; subst hs'; exact ⟨hl, hn, hs⟩) h0).mono fun e w' h => by
  obtain ⟨A', c', e1, h1, h2⟩ := h;rw [cat1K, hn] at e1 h1;exact ⟨A', c', e1, zb (h1.mono hv.size), h2⟩
theorem zd0 {W0 w : World} {A1 A2 A3 : Option Addr} {n1 c1 n2 c2 n3 c3 g n : Nat} {l1 l2 l3 l : List Int} (hb : Has w w.heap.size (some ⟨g, 0, none⟩) [.slice A1 n1 c1, .slice A2 n2 c2, .slice A3 n3 c3]) (h1 : Has w w.heap.size A1 (zS l1)) (h2 : Has w w.heap.size A2 (zS l2)) (h3 : Has w w.heap.size A3 (zS l3)) (e1 : l1.length = n1) (e2 : l2.length = n2) (e3 : l3.length = n3) (hs : n1 ≤ 100000 ∧ n2 ≤ 100000 ∧ n3 ≤ 100000) (hl : l1 ++ (l2 ++ l3) = l) (hn : l.length = n) (h0 : Fr W0 w) {V0 : World} (hv : Fr V0 w) :
 Calls Tryz.prog 90 #[.slice (some ⟨g, 0, none⟩) 3 3] w fun e w' => ∃ A' c', e = .returned (.slice A' n c') ∧ Hid (Own w' V0.heap.size 3 1 A' n c' (zS l)) ∧ Fr W0 w' :=
 (zix (cc := 3) (xs := [⟨A1, n1, c1, l1⟩, ⟨A2, n2, c2, l2⟩, ⟨A3, n3, c3, l3⟩]) hb (Nat.le_refl _) rfl (by simp) (fun s hs' => by
  simp at hs'
  rcases hs' with rfl | rfl | rfl
  ·exact ⟨h1, e1, hs.1⟩
  ·exact ⟨h2, e2, hs.2.1⟩
  ·exact ⟨h3, e3, hs.2.2⟩) h0).mono fun e w' h => by
  obtain ⟨A', c', q1, q2, q3⟩ := h;have hc : zd5 [⟨A1, n1, c1, l1⟩, ⟨A2, n2, c2, l2⟩, ⟨A3, n3, c3, l3⟩] = l := by rw [← hl]; simp [zd5]
  rw [hc, hn] at q1 q2;exact ⟨A', c', q1, zb (q2.mono hv.size), q3⟩
theorem zdV {W0 w : World} {A1 A2 A3 : Option Addr} {n1 c1 n2 c2 n3 c3 g n : Nat} {l1 l2 l3 l : List RK} (hb : Has w w.heap.size (some ⟨g, 0, none⟩) [.slice A1 n1 c1, .slice A2 n2 c2, .slice A3 n3 c3]) (h1 : Has w w.heap.size A1 (zm kc l1)) (h2 : Has w w.heap.size A2 (zm kc l2)) (h3 : Has w w.heap.size A3 (zm kc l3)) (e1 : l1.length = n1) (e2 : l2.length = n2) (e3 : l3.length = n3) (hs : n1 ≤ 100000 ∧ n2 ≤ 100000 ∧ n3 ≤ 100000) (hl : l1 ++ (l2 ++ l3) = l) (hn : l.length = n) (h0 : Fr W0 w) {V0 : World} (hv : Fr V0 w) :
 Calls Tryz.prog 91 #[.slice (some ⟨g, 0, none⟩) 3 3] w fun e w' => ∃ A' c', e = .returned (.slice A' n c') ∧ Hid (Own w' V0.heap.size 33 9 A' n c' (zm kc l)) ∧ Fr W0 w' :=
 (zhX (cc := 3) (xs := [⟨A1, n1, c1, l1⟩, ⟨A2, n2, c2, l2⟩, ⟨A3, n3, c3, l3⟩]) hb (Nat.le_refl _) rfl (by simp) (fun s hs' => by
  simp at hs'
  rcases hs' with rfl | rfl | rfl
  ·exact ⟨h1, e1, hs.1⟩
  ·exact ⟨h2, e2, hs.2.1⟩
  ·exact ⟨h3, e3, hs.2.2⟩) h0).mono fun e w' h => by
  obtain ⟨A', c', q1, q2, q3⟩ := h;have hc : zd7 [⟨A1, n1, c1, l1⟩, ⟨A2, n2, c2, l2⟩, ⟨A3, n3, c3, l3⟩] = l := by rw [← hl]; simp [zd7]
  rw [hc, hn] at q1 q2;exact ⟨A', c', q1, zb (q2.mono hv.size), q3⟩
set_option maxHeartbeats 4000000 in
theorem zih {W0 w : World} {A A2 : Option Addr} {n c B n2 c2 B2 : Nat} {ks : List Int} {ps : List RK} {x : RK} {i id : Int} (hk : Has w B A (zS ks)) (hB : B ≤ w.heap.size) (hn : ks.length = n) (hc : n ≤ c) (hsm : n ≤ 10000) (hp : Has w B2 A2 (zm kc ps)) (hB2 : B2 ≤ w.heap.size) (hn2 : ps.length = n2) (hc2 : n2 ≤ c2) (hlen : n2 + 1 = n) (hi : zal i) (h0 : Fr W0 w) :
 Calls Tryz.prog 63 #[.slice A n c, .slice A2 n2 c2, .int .i64 i, kv x, .int .i64 id] w (zeO W0 (zbu ks i id) (zbz n ps i x)) := by
 obtain ⟨Z, hZ, hF, hZZ, lk⟩ := zfL w x;have hkZ := (hk.fr hB hF).mono (Nat.le_trans hB hF.size);have hpZ := (hp.fr hB2 hF).mono (Nat.le_trans hB2 hF.size);have HF := zb (za h0 hF);have Hn := zb hn;have Hn2 := zb hn2;have Hlen := zb hlen;clear hk hp hF h0 hn hn2 hB hB2 hlen;unfold zeO
 by_cases hneg : i < 0
 ·have HI : Hid (zbu ks i id = ks) := zb (zdn (.inl hneg))
  have HV : Hid (zbz n ps i x = ps) := zb (zhw (.inl hneg));go_enter Tryz.func63, Tryz.ntmps63;have tok : Hid (0 < 1) := zb (by decide)
  go_wp2_with (first
   | (go_at_call 90; (with_reducible refine (joini1 (T := 0) (zA (Arr.new Z [.slice A n c].toArray 22)) (hkZ.step (zf hZZ _)) Hn.out (by omega) (zf hZZ _) (zf HF.out _)).mono ?_); rintro e w1 ⟨A3, c3, rfl, o1, h1⟩; have hp1 := hpZ.step h1)
   | (go_at_call 91; (with_reducible refine (joink1 (T := 0) (zA (Arr.new w1 [.slice A2 n2 c2].toArray 24)) (hp1.step (zf (ze w1) _)) Hn2.out (by have := Hlen.out; omega) (zf (ze w1) _) (zf (za HF.out h1) _)).mono ?_); rintro e w2 ⟨A4, c4, rfl, o2, h2⟩)
   | fail)
  go_ret2
  rw [HI.out, HV.out];exact ⟨A3, c3, A4, c4, by simp [Hn.out, Hn2.out], by have := o1.out.below h2 (Nat.le_refl _); rw [← Hn.out] at this; exact zb this, by rw [← Hn2.out] at o2; exact o2, za HF.out (za h1 h2)⟩
 by_cases hge : (n : Int) ≤ i
 ·have HI : Hid (zbu ks i id = ks) := zb (zdn (.inr (by rw [Hn.out]; exact hge)))
  have HV : Hid (zbz n ps i x = ps) := zb (zhw (.inr hge));go_enter Tryz.func63, Tryz.ntmps63;have tok : Hid (0 < 1) := zb (by decide)
  go_wp2_with (first
   | (go_at_call 90; (with_reducible refine (joini1 (T := 0) (zA (Arr.new Z [.slice A n c].toArray 22)) (hkZ.step (zf hZZ _)) Hn.out (by omega) (zf hZZ _) (zf HF.out _)).mono ?_); rintro e w1 ⟨A3, c3, rfl, o1, h1⟩; have hp1 := hpZ.step h1)
   | (go_at_call 91; (with_reducible refine (joink1 (T := 0) (zA (Arr.new w1 [.slice A2 n2 c2].toArray 24)) (hp1.step (zf (ze w1) _)) Hn2.out (by have := Hlen.out; omega) (zf (ze w1) _) (zf (za HF.out h1) _)).mono ?_); rintro e w2 ⟨A4, c4, rfl, o2, h2⟩)
   | fail)
  go_ret2
  rw [HI.out, HV.out];exact ⟨A3, c3, A4, c4, by simp [Hn.out, Hn2.out], by have := o1.out.below h2 (Nat.le_refl _); rw [← Hn.out] at this; exact zb this, by rw [← Hn2.out] at o2; exact o2, za HF.out (za h1 h2)⟩
 ·obtain ⟨q, rfl⟩ : ∃ q : Nat, i = q := ⟨i.toNat, by omega⟩
  have hq : q < n := by omega
  have hmin : min (q : Int) (n2 : Int) = (q : Int) := by have := Hlen.out; omega
  obtain ⟨p, hpq⟩ : ∃ p, p = q + 1 := ⟨_, rfl⟩;have hw : IntKind.i64.wrap ((q : Int) + 1) = (p : Int) := by rw [IntKind.wrap_i64]; omega
  have hw2 : (q : Int) + 1 = (p : Int) := by omega
  have hpn : p ≤ n := by omega
  have hqn : q ≤ n2 := by have := Hlen.out; omega
  have HeI : Hid (ks.take p ++ ([id] ++ ks.drop p) = zbu ks q id) := zb (by rw [zf7 (by rw [Hn.out]; exact hq), hpq]; rfl);have HeV : Hid (ps.take q ++ ([x] ++ ps.drop q) = zbz n ps q x) := zb (by rw [zhK hq]; rfl);have HnI : Hid ((zbu ks q id).length = n + 1) := zb (by rw [← HeI.out]; simp; have := Hn.out; omega);have HnV : Hid ((zbz n ps q x).length = n2 + 1) := zb (by rw [← HeV.out]; simp; have := Hn2.out; omega);have Hl1 : Hid ((ks.take p).length = p) := zb (by rw [List.length_take, Hn.out]; omega);have Hl3 : Hid ((ks.drop p).length = n - p) := zb (by rw [List.length_drop, Hn.out]);have Hm1 : Hid ((ps.take q).length = q) := zb (by rw [List.length_take, Hn2.out]; omega);have Hm3 : Hid ((ps.drop q).length = n2 - q) := zb (by rw [List.length_drop, Hn2.out]);have q1 := zcu A n c p hpn hc;have q2 := zc1 A n c p hpn hc;have q3 := zdf A n c p hpn hc;have q4 := zdh A n c p hpn hc;have q5 := zdo A2 n2 c2 q hqn hc2;have q6 := zdp A2 n2 c2 q hqn hc2;have q7 := zb0 A2 n2 c2 q hqn hc2;have q8 := zdF A2 n2 c2 q hqn hc2;have r1 := zc5 hkZ p;have r3 := zhV (c := c) hkZ (t := p) (by rw [Hn.out]; exact hpn) (by rw [Hn.out]; exact hc);have k1 : Has Z Z.heap.size A2 (zm kc (ps.take q)) := zib hpZ q;have k3 : Has Z Z.heap.size (zac A2 c2 q) (zm kc (ps.drop q)) := zf3 (c := c2) hpZ (t := q) (by rw [Hn2.out]; exact hqn) (by rw [Hn2.out]; exact hc2)
  have hrD := zn hZZ;clear hkZ hpZ hpq hneg hge hw2;go_enter Tryz.func63, Tryz.ntmps63;go_wp2_with fail;refine wp_region_noPanic ?_;refine wp_region_held_drew (S := fun w' => Fr Z w') (by kernel_rfl) hrD (fun hHeld => ?_);change wpAnyH _ _ _ _ _ _ _ _ _;clear hHeld;generalize Z.drew = X0 at *;replace r1 := r1.step hrD;replace r3 := r3.step hrD;replace k1 := k1.step hrD;replace k3 := k3.step hrD;refine xto 0 ?_;refine xto 1 ?_;refine xto 2 ?_;refine xto 3 ?_;refine xto 4 ?_;refine xto 6 ?_;refine xto 7 ?_;refine xto 8 ?_;refine xto 9 ?_;refine xto 12 ?_;refine xto 13 ?_;refine xto 14 ?_;refine xto 15 ?_;refine xto 17 ?_;refine xto 18 ?_;refine xto 19 ?_;refine xrr 5 16 (fun K hK0 => ?_) fun K hK0 => ?_
  ·go_simp
   obtain ⟨Y1, eY1, sY1, aY1⟩ := zab X0 ([.int .i64 id]) 3;refine hK0.out _ _ (zf hrD _) (fun _ => ?_);refine zT eY1 ?_;clear eY1;have fY1 : Fr Z Y1 := za hrD sY1;replace r1 := r1.step sY1;replace r3 := r3.step sY1;replace k1 := k1.step sY1;replace k3 := k3.step sY1;have r36 := zA aY1;clear aY1 sY1;clear hK0 K;refine xrr 10 16 (fun K hK0 => ?_) fun K hK0 => ?_
   ·go_simp
    obtain ⟨Y2, eY2, sY2, aY2⟩ := zab Y1 ([.slice A p c, .slice (some ⟨X0.heap.size, 0, none⟩) 1 1, .slice (zam A c p) (n - p) (c - p)]) 22;refine hK0.out _ _ (zf fY1 _) (fun _ => ?_);refine zT eY2 ?_;clear eY2;have fY2 : Fr Z Y2 := za fY1 sY2;replace r1 := r1.step sY2;replace r3 := r3.step sY2;replace k1 := k1.step sY2;replace k3 := k3.step sY2;replace r36 := r36.step sY2;have r41 := zA aY2;clear aY2 sY2;clear hK0 K;refine xrr 11 16 (fun K hK0 => ?_) fun K hK0 => ?_
    ·go_simp
     refine (zd0 (n := n + 1) (l := zbu ks q id) r41 r1 (show Has Y2 Y2.heap.size _ (zS [id]) from r36) r3 Hl1.out rfl Hl3.out (by omega) HeI.out HnI.out (ze Y2) (za HF.out fY2)).mono ?_;rintro e Y3 ⟨A3, c3, rfl, o42, sY3⟩;go_simp;refine hK0.out _ _ (za fY2 sY3) (fun _ => ?_);have fY3 : Fr Z Y3 := za fY2 sY3;replace r1 := r1.step sY3;replace r3 := r3.step sY3;replace k1 := k1.step sY3;replace k3 := k3.step sY3;replace r36 := r36.step sY3;replace r41 := r41.step sY3;clear sY3;clear hK0 K;refine xr 16 fun K hK0 => ?_;go_simp;obtain ⟨Y4, eY4, sY4, aY4⟩ := zab Y3 (kc x) 33;refine hK0.out _ _ (zf fY3 _) (fun _ => ?_);refine zT eY4 ?_;clear eY4;have fY4 : Fr Z Y4 := za fY3 sY4;replace r1 := r1.step sY4;replace r3 := r3.step sY4;replace k1 := k1.step sY4;replace k3 := k3.step sY4;replace r36 := r36.step sY4;replace r41 := r41.step sY4;replace o42 := zb (Own.below o42.out sY4 (Nat.le_refl _));have r47 := zA aY4;clear aY4 sY4;clear hK0 K;refine xr 20 fun K hK0 => ?_;go_simp;obtain ⟨Y5, eY5, sY5, aY5⟩ := zab Y4 ([.slice A2 q c2, .slice (some ⟨Y3.heap.size, 0, none⟩) 1 1, .slice (zac A2 c2 q) (n2 - q) (c2 - q)]) 24;refine hK0.out _ _ (zf fY4 _) (fun _ => ?_);refine zT eY5 ?_;clear eY5;have fY5 : Fr Z Y5 := za fY4 sY5;replace r1 := r1.step sY5;replace r3 := r3.step sY5;replace k1 := k1.step sY5;replace k3 := k3.step sY5;replace r36 := r36.step sY5;replace r41 := r41.step sY5
     replace r47 := r47.step sY5;replace o42 := zb (Own.below o42.out sY5 (Nat.le_refl _));have r51 := zA aY5;clear aY5 sY5;clear hK0 K;refine xr 21 fun K hK0 => ?_;go_simp;refine (zdV (n := n2 + 1) (l := zbz n ps q x) r51 k1 (show Has Y5 Y5.heap.size _ (zm kc [x]) from by simpa [zm] using r47) k3 Hm1.out rfl Hm3.out (by have := Hlen.out; omega) HeV.out HnV.out (ze Y5) (za HF.out fY5)).mono ?_;rintro e Y6 ⟨A4, c4, rfl, o52, sY6⟩;go_simp;refine hK0.out _ _ (za fY5 sY6) (fun _ => ?_);have fY6 : Fr Z Y6 := za fY5 sY6;replace r1 := r1.step sY6;replace r3 := r3.step sY6;replace k1 := k1.step sY6;replace k3 := k3.step sY6;replace r36 := r36.step sY6;replace r41 := r41.step sY6;replace r47 := r47.step sY6;replace r51 := r51.step sY6;replace o42 := zb (Own.below o42.out sY6 (Nat.le_refl _));clear sY6;clear hK0 K
     try simp only [xs, Act.put]
     refine xto 22 ?_;refine xto 23 ?_;refine wpAnyH_done (by kernel_rfl) ?_ _;refine NoPanic.normal ?_;go_wp2_with fail
     go_ret2
     exact ⟨A3, c3, A4, c4, by simp [HnI.out, HnV.out], by rw [← HnI.out] at o42; exact o42, by rw [← HnV.out] at o52; exact o52, za HF.out fY6⟩
    ·go_simp
     obtain ⟨Y3, eY3, sY3, aY3⟩ := zab Y2 (kc x) 33;refine hK0.out _ _ (zf fY2 _) (fun _ => ?_);refine zT eY3 ?_;clear eY3;have fY3 : Fr Z Y3 := za fY2 sY3;replace r1 := r1.step sY3;replace r3 := r3.step sY3;replace k1 := k1.step sY3;replace k3 := k3.step sY3;replace r36 := r36.step sY3;replace r41 := r41.step sY3;have r47 := zA aY3;clear aY3 sY3;clear hK0 K;refine xrr 11 20 (fun K hK0 => ?_) fun K hK0 => ?_
     ·go_simp
      refine (zd0 (n := n + 1) (l := zbu ks q id) r41 r1 (show Has Y3 Y3.heap.size _ (zS [id]) from r36) r3 Hl1.out rfl Hl3.out (by omega) HeI.out HnI.out (ze Y3) (za HF.out fY3)).mono ?_;rintro e Y4 ⟨A3, c3, rfl, o42, sY4⟩;go_simp;refine hK0.out _ _ (za fY3 sY4) (fun _ => ?_);have fY4 : Fr Z Y4 := za fY3 sY4;replace r1 := r1.step sY4;replace r3 := r3.step sY4;replace k1 := k1.step sY4;replace k3 := k3.step sY4;replace r36 := r36.step sY4;replace r41 := r41.step sY4;replace r47 := r47.step sY4;clear sY4;clear hK0 K;refine xr 20 fun K hK0 => ?_;go_simp;obtain ⟨Y5, eY5, sY5, aY5⟩ := zab Y4 ([.slice A2 q c2, .slice (some ⟨Y2.heap.size, 0, none⟩) 1 1, .slice (zac A2 c2 q) (n2 - q) (c2 - q)]) 24;refine hK0.out _ _ (zf fY4 _) (fun _ => ?_);refine zT eY5 ?_;clear eY5;have fY5 : Fr Z Y5 := za fY4 sY5;replace r1 := r1.step sY5;replace r3 := r3.step sY5;replace k1 := k1.step sY5;replace k3 := k3.step sY5;replace r36 := r36.step sY5;replace r41 := r41.step sY5;replace r47 := r47.step sY5;replace o42 := zb (Own.below o42.out sY5 (Nat.le_refl _));have r51 := zA aY5;clear aY5 sY5;clear hK0 K;refine xr 21 fun K hK0 => ?_;go_simp;refine (zdV (n := n2 + 1) (l := zbz n ps q x) r51 k1 (show Has Y5 Y5.heap.size _ (zm kc [x]) from by simpa [zm] using r47) k3 Hm1.out rfl Hm3.out (by have := Hlen.out; omega) HeV.out HnV.out (ze Y5) (za HF.out fY5)).mono ?_;rintro e Y6 ⟨A4, c4, rfl, o52, sY6⟩;go_simp
      refine hK0.out _ _ (za fY5 sY6) (fun _ => ?_);have fY6 : Fr Z Y6 := za fY5 sY6;replace r1 := r1.step sY6;replace r3 := r3.step sY6;replace k1 := k1.step sY6;replace k3 := k3.step sY6;replace r36 := r36.step sY6;replace r41 := r41.step sY6;replace r47 := r47.step sY6;replace r51 := r51.step sY6;replace o42 := zb (Own.below o42.out sY6 (Nat.le_refl _));clear sY6;clear hK0 K
      try simp only [xs, Act.put]
      refine xto 22 ?_;refine xto 23 ?_;refine wpAnyH_done (by kernel_rfl) ?_ _;refine NoPanic.normal ?_;go_wp2_with fail
      go_ret2
      exact ⟨A3, c3, A4, c4, by simp [HnI.out, HnV.out], by rw [← HnI.out] at o42; exact o42, by rw [← HnV.out] at o52; exact o52, za HF.out fY6⟩
     ·go_simp
      obtain ⟨Y4, eY4, sY4, aY4⟩ := zab Y3 ([.slice A2 q c2, .slice (some ⟨Y2.heap.size, 0, none⟩) 1 1, .slice (zac A2 c2 q) (n2 - q) (c2 - q)]) 24;refine hK0.out _ _ (zf fY3 _) (fun _ => ?_);refine zT eY4 ?_;clear eY4;have fY4 : Fr Z Y4 := za fY3 sY4;replace r1 := r1.step sY4;replace r3 := r3.step sY4;replace k1 := k1.step sY4;replace k3 := k3.step sY4;replace r36 := r36.step sY4;replace r41 := r41.step sY4;replace r47 := r47.step sY4;have r51 := zA aY4;clear aY4 sY4;clear hK0 K;refine xr 11 fun K hK0 => ?_;go_simp;refine (zd0 (n := n + 1) (l := zbu ks q id) r41 r1 (show Has Y4 Y4.heap.size _ (zS [id]) from r36) r3 Hl1.out rfl Hl3.out (by omega) HeI.out HnI.out (ze Y4) (za HF.out fY4)).mono ?_;rintro e Y5 ⟨A3, c3, rfl, o42, sY5⟩;go_simp;refine hK0.out _ _ (za fY4 sY5) (fun _ => ?_);have fY5 : Fr Z Y5 := za fY4 sY5;replace r1 := r1.step sY5;replace r3 := r3.step sY5;replace k1 := k1.step sY5;replace k3 := k3.step sY5;replace r36 := r36.step sY5;replace r41 := r41.step sY5;replace r47 := r47.step sY5;replace r51 := r51.step sY5;clear sY5;clear hK0 K;refine xr 21 fun K hK0 => ?_;go_simp;refine (zdV (n := n2 + 1) (l := zbz n ps q x) r51 k1 (show Has Y5 Y5.heap.size _ (zm kc [x]) from by simpa [zm] using r47) k3 Hm1.out rfl Hm3.out (by have := Hlen.out; omega) HeV.out HnV.out (ze Y5) (za HF.out fY5)).mono ?_;rintro e Y6 ⟨A4, c4, rfl, o52, sY6⟩;go_simp
      refine hK0.out _ _ (za fY5 sY6) (fun _ => ?_);have fY6 : Fr Z Y6 := za fY5 sY6;replace r1 := r1.step sY6;replace r3 := r3.step sY6;replace k1 := k1.step sY6;replace k3 := k3.step sY6;replace r36 := r36.step sY6;replace r41 := r41.step sY6;replace r47 := r47.step sY6;replace r51 := r51.step sY6;replace o42 := zb (Own.below o42.out sY6 (Nat.le_refl _));clear sY6;clear hK0 K
      try simp only [xs, Act.put]
      refine xto 22 ?_;refine xto 23 ?_;refine wpAnyH_done (by kernel_rfl) ?_ _;refine NoPanic.normal ?_;go_wp2_with fail
      go_ret2
      exact ⟨A3, c3, A4, c4, by simp [HnI.out, HnV.out], by rw [← HnI.out] at o42; exact o42, by rw [← HnV.out] at o52; exact o52, za HF.out fY6⟩
   ·go_simp
    obtain ⟨Y2, eY2, sY2, aY2⟩ := zab Y1 (kc x) 33;refine hK0.out _ _ (zf fY1 _) (fun _ => ?_);refine zT eY2 ?_;clear eY2;have fY2 : Fr Z Y2 := za fY1 sY2;replace r1 := r1.step sY2;replace r3 := r3.step sY2;replace k1 := k1.step sY2;replace k3 := k3.step sY2;replace r36 := r36.step sY2;have r47 := zA aY2;clear aY2 sY2;clear hK0 K;refine xrr 10 20 (fun K hK0 => ?_) fun K hK0 => ?_
    ·go_simp
     obtain ⟨Y3, eY3, sY3, aY3⟩ := zab Y2 ([.slice A p c, .slice (some ⟨X0.heap.size, 0, none⟩) 1 1, .slice (zam A c p) (n - p) (c - p)]) 22;refine hK0.out _ _ (zf fY2 _) (fun _ => ?_);refine zT eY3 ?_;clear eY3;have fY3 : Fr Z Y3 := za fY2 sY3;replace r1 := r1.step sY3;replace r3 := r3.step sY3;replace k1 := k1.step sY3;replace k3 := k3.step sY3;replace r36 := r36.step sY3;replace r47 := r47.step sY3;have r41 := zA aY3;clear aY3 sY3;clear hK0 K;refine xrr 11 20 (fun K hK0 => ?_) fun K hK0 => ?_
     ·go_simp
      refine (zd0 (n := n + 1) (l := zbu ks q id) r41 r1 (show Has Y3 Y3.heap.size _ (zS [id]) from r36) r3 Hl1.out rfl Hl3.out (by omega) HeI.out HnI.out (ze Y3) (za HF.out fY3)).mono ?_;rintro e Y4 ⟨A3, c3, rfl, o42, sY4⟩;go_simp;refine hK0.out _ _ (za fY3 sY4) (fun _ => ?_);have fY4 : Fr Z Y4 := za fY3 sY4;replace r1 := r1.step sY4;replace r3 := r3.step sY4;replace k1 := k1.step sY4;replace k3 := k3.step sY4;replace r36 := r36.step sY4;replace r47 := r47.step sY4;replace r41 := r41.step sY4;clear sY4;clear hK0 K;refine xr 20 fun K hK0 => ?_;go_simp;obtain ⟨Y5, eY5, sY5, aY5⟩ := zab Y4 ([.slice A2 q c2, .slice (some ⟨Y1.heap.size, 0, none⟩) 1 1, .slice (zac A2 c2 q) (n2 - q) (c2 - q)]) 24;refine hK0.out _ _ (zf fY4 _) (fun _ => ?_);refine zT eY5 ?_;clear eY5;have fY5 : Fr Z Y5 := za fY4 sY5;replace r1 := r1.step sY5;replace r3 := r3.step sY5;replace k1 := k1.step sY5;replace k3 := k3.step sY5;replace r36 := r36.step sY5;replace r47 := r47.step sY5;replace r41 := r41.step sY5;replace o42 := zb (Own.below o42.out sY5 (Nat.le_refl _));have r51 := zA aY5;clear aY5 sY5;clear hK0 K;refine xr 21 fun K hK0 => ?_;go_simp;refine (zdV (n := n2 + 1) (l := zbz n ps q x) r51 k1 (show Has Y5 Y5.heap.size _ (zm kc [x]) from by simpa [zm] using r47) k3 Hm1.out rfl Hm3.out (by have := Hlen.out; omega) HeV.out HnV.out (ze Y5) (za HF.out fY5)).mono ?_;rintro e Y6 ⟨A4, c4, rfl, o52, sY6⟩;go_simp
      refine hK0.out _ _ (za fY5 sY6) (fun _ => ?_);have fY6 : Fr Z Y6 := za fY5 sY6;replace r1 := r1.step sY6;replace r3 := r3.step sY6;replace k1 := k1.step sY6;replace k3 := k3.step sY6;replace r36 := r36.step sY6;replace r47 := r47.step sY6;replace r41 := r41.step sY6;replace r51 := r51.step sY6;replace o42 := zb (Own.below o42.out sY6 (Nat.le_refl _));clear sY6;clear hK0 K
      try simp only [xs, Act.put]
      refine xto 22 ?_;refine xto 23 ?_;refine wpAnyH_done (by kernel_rfl) ?_ _;refine NoPanic.normal ?_;go_wp2_with fail
      go_ret2
      exact ⟨A3, c3, A4, c4, by simp [HnI.out, HnV.out], by rw [← HnI.out] at o42; exact o42, by rw [← HnV.out] at o52; exact o52, za HF.out fY6⟩
     ·go_simp
      obtain ⟨Y4, eY4, sY4, aY4⟩ := zab Y3 ([.slice A2 q c2, .slice (some ⟨Y1.heap.size, 0, none⟩) 1 1, .slice (zac A2 c2 q) (n2 - q) (c2 - q)]) 24;refine hK0.out _ _ (zf fY3 _) (fun _ => ?_);refine zT eY4 ?_;clear eY4;have fY4 : Fr Z Y4 := za fY3 sY4;replace r1 := r1.step sY4;replace r3 := r3.step sY4;replace k1 := k1.step sY4;replace k3 := k3.step sY4;replace r36 := r36.step sY4;replace r47 := r47.step sY4;replace r41 := r41.step sY4;have r51 := zA aY4;clear aY4 sY4;clear hK0 K;refine xr 11 fun K hK0 => ?_;go_simp;refine (zd0 (n := n + 1) (l := zbu ks q id) r41 r1 (show Has Y4 Y4.heap.size _ (zS [id]) from r36) r3 Hl1.out rfl Hl3.out (by omega) HeI.out HnI.out (ze Y4) (za HF.out fY4)).mono ?_;rintro e Y5 ⟨A3, c3, rfl, o42, sY5⟩;go_simp;refine hK0.out _ _ (za fY4 sY5) (fun _ => ?_);have fY5 : Fr Z Y5 := za fY4 sY5;replace r1 := r1.step sY5;replace r3 := r3.step sY5;replace k1 := k1.step sY5;replace k3 := k3.step sY5;replace r36 := r36.step sY5;replace r47 := r47.step sY5;replace r41 := r41.step sY5;replace r51 := r51.step sY5;clear sY5;clear hK0 K;refine xr 21 fun K hK0 => ?_;go_simp;refine (zdV (n := n2 + 1) (l := zbz n ps q x) r51 k1 (show Has Y5 Y5.heap.size _ (zm kc [x]) from by simpa [zm] using r47) k3 Hm1.out rfl Hm3.out (by have := Hlen.out; omega) HeV.out HnV.out (ze Y5) (za HF.out fY5)).mono ?_;rintro e Y6 ⟨A4, c4, rfl, o52, sY6⟩;go_simp
      refine hK0.out _ _ (za fY5 sY6) (fun _ => ?_);have fY6 : Fr Z Y6 := za fY5 sY6;replace r1 := r1.step sY6;replace r3 := r3.step sY6;replace k1 := k1.step sY6;replace k3 := k3.step sY6;replace r36 := r36.step sY6;replace r47 := r47.step sY6;replace r41 := r41.step sY6;replace r51 := r51.step sY6;replace o42 := zb (Own.below o42.out sY6 (Nat.le_refl _));clear sY6;clear hK0 K
      try simp only [xs, Act.put]
      refine xto 22 ?_;refine xto 23 ?_;refine wpAnyH_done (by kernel_rfl) ?_ _;refine NoPanic.normal ?_;go_wp2_with fail
      go_ret2
      exact ⟨A3, c3, A4, c4, by simp [HnI.out, HnV.out], by rw [← HnI.out] at o42; exact o42, by rw [← HnV.out] at o52; exact o52, za HF.out fY6⟩
    ·go_simp
     obtain ⟨Y3, eY3, sY3, aY3⟩ := zab Y2 ([.slice A2 q c2, .slice (some ⟨Y1.heap.size, 0, none⟩) 1 1, .slice (zac A2 c2 q) (n2 - q) (c2 - q)]) 24;refine hK0.out _ _ (zf fY2 _) (fun _ => ?_);refine zT eY3 ?_;clear eY3;have fY3 : Fr Z Y3 := za fY2 sY3;replace r1 := r1.step sY3;replace r3 := r3.step sY3;replace k1 := k1.step sY3;replace k3 := k3.step sY3;replace r36 := r36.step sY3;replace r47 := r47.step sY3;have r51 := zA aY3;clear aY3 sY3;clear hK0 K;refine xr 10 fun K hK0 => ?_;go_simp;obtain ⟨Y4, eY4, sY4, aY4⟩ := zab Y3 ([.slice A p c, .slice (some ⟨X0.heap.size, 0, none⟩) 1 1, .slice (zam A c p) (n - p) (c - p)]) 22;refine hK0.out _ _ (zf fY3 _) (fun _ => ?_);refine zT eY4 ?_;clear eY4;have fY4 : Fr Z Y4 := za fY3 sY4;replace r1 := r1.step sY4;replace r3 := r3.step sY4;replace k1 := k1.step sY4;replace k3 := k3.step sY4;replace r36 := r36.step sY4;replace r47 := r47.step sY4;replace r51 := r51.step sY4;have r41 := zA aY4;clear aY4 sY4;clear hK0 K;refine xr 11 fun K hK0 => ?_;go_simp;refine (zd0 (n := n + 1) (l := zbu ks q id) r41 r1 (show Has Y4 Y4.heap.size _ (zS [id]) from r36) r3 Hl1.out rfl Hl3.out (by omega) HeI.out HnI.out (ze Y4) (za HF.out fY4)).mono ?_;rintro e Y5 ⟨A3, c3, rfl, o42, sY5⟩;go_simp;refine hK0.out _ _ (za fY4 sY5) (fun _ => ?_);have fY5 : Fr Z Y5 := za fY4 sY5;replace r1 := r1.step sY5;replace r3 := r3.step sY5;replace k1 := k1.step sY5
     replace k3 := k3.step sY5;replace r36 := r36.step sY5;replace r47 := r47.step sY5;replace r51 := r51.step sY5;replace r41 := r41.step sY5;clear sY5;clear hK0 K;refine xr 21 fun K hK0 => ?_;go_simp;refine (zdV (n := n2 + 1) (l := zbz n ps q x) r51 k1 (show Has Y5 Y5.heap.size _ (zm kc [x]) from by simpa [zm] using r47) k3 Hm1.out rfl Hm3.out (by have := Hlen.out; omega) HeV.out HnV.out (ze Y5) (za HF.out fY5)).mono ?_;rintro e Y6 ⟨A4, c4, rfl, o52, sY6⟩;go_simp;refine hK0.out _ _ (za fY5 sY6) (fun _ => ?_);have fY6 : Fr Z Y6 := za fY5 sY6;replace r1 := r1.step sY6;replace r3 := r3.step sY6;replace k1 := k1.step sY6;replace k3 := k3.step sY6;replace r36 := r36.step sY6;replace r47 := r47.step sY6;replace r51 := r51.step sY6;replace r41 := r41.step sY6;replace o42 := zb (Own.below o42.out sY6 (Nat.le_refl _));clear sY6;clear hK0 K
     try simp only [xs, Act.put]
     refine xto 22 ?_;refine xto 23 ?_;refine wpAnyH_done (by kernel_rfl) ?_ _;refine NoPanic.normal ?_;go_wp2_with fail
     go_ret2
     exact ⟨A3, c3, A4, c4, by simp [HnI.out, HnV.out], by rw [← HnI.out] at o42; exact o42, by rw [← HnV.out] at o52; exact o52, za HF.out fY6⟩
  ·go_simp
   obtain ⟨Y1, eY1, sY1, aY1⟩ := zab X0 (kc x) 33;refine hK0.out _ _ (zf hrD _) (fun _ => ?_);refine zT eY1 ?_;clear eY1;have fY1 : Fr Z Y1 := za hrD sY1;replace r1 := r1.step sY1;replace r3 := r3.step sY1;replace k1 := k1.step sY1;replace k3 := k3.step sY1;have r47 := zA aY1;clear aY1 sY1;clear hK0 K;refine xrr 5 20 (fun K hK0 => ?_) fun K hK0 => ?_
   ·go_simp
    obtain ⟨Y2, eY2, sY2, aY2⟩ := zab Y1 ([.int .i64 id]) 3;refine hK0.out _ _ (zf fY1 _) (fun _ => ?_);refine zT eY2 ?_;clear eY2;have fY2 : Fr Z Y2 := za fY1 sY2;replace r1 := r1.step sY2;replace r3 := r3.step sY2;replace k1 := k1.step sY2;replace k3 := k3.step sY2;replace r47 := r47.step sY2;have r36 := zA aY2;clear aY2 sY2;clear hK0 K;refine xrr 10 20 (fun K hK0 => ?_) fun K hK0 => ?_
    ·go_simp
     obtain ⟨Y3, eY3, sY3, aY3⟩ := zab Y2 ([.slice A p c, .slice (some ⟨Y1.heap.size, 0, none⟩) 1 1, .slice (zam A c p) (n - p) (c - p)]) 22;refine hK0.out _ _ (zf fY2 _) (fun _ => ?_);refine zT eY3 ?_;clear eY3;have fY3 : Fr Z Y3 := za fY2 sY3;replace r1 := r1.step sY3;replace r3 := r3.step sY3;replace k1 := k1.step sY3;replace k3 := k3.step sY3;replace r47 := r47.step sY3;replace r36 := r36.step sY3;have r41 := zA aY3;clear aY3 sY3;clear hK0 K;refine xrr 11 20 (fun K hK0 => ?_) fun K hK0 => ?_
     ·go_simp
      refine (zd0 (n := n + 1) (l := zbu ks q id) r41 r1 (show Has Y3 Y3.heap.size _ (zS [id]) from r36) r3 Hl1.out rfl Hl3.out (by omega) HeI.out HnI.out (ze Y3) (za HF.out fY3)).mono ?_;rintro e Y4 ⟨A3, c3, rfl, o42, sY4⟩;go_simp;refine hK0.out _ _ (za fY3 sY4) (fun _ => ?_);have fY4 : Fr Z Y4 := za fY3 sY4;replace r1 := r1.step sY4;replace r3 := r3.step sY4;replace k1 := k1.step sY4;replace k3 := k3.step sY4;replace r47 := r47.step sY4;replace r36 := r36.step sY4;replace r41 := r41.step sY4;clear sY4;clear hK0 K;refine xr 20 fun K hK0 => ?_;go_simp;obtain ⟨Y5, eY5, sY5, aY5⟩ := zab Y4 ([.slice A2 q c2, .slice (some ⟨X0.heap.size, 0, none⟩) 1 1, .slice (zac A2 c2 q) (n2 - q) (c2 - q)]) 24;refine hK0.out _ _ (zf fY4 _) (fun _ => ?_);refine zT eY5 ?_;clear eY5;have fY5 : Fr Z Y5 := za fY4 sY5;replace r1 := r1.step sY5;replace r3 := r3.step sY5;replace k1 := k1.step sY5;replace k3 := k3.step sY5;replace r47 := r47.step sY5;replace r36 := r36.step sY5;replace r41 := r41.step sY5;replace o42 := zb (Own.below o42.out sY5 (Nat.le_refl _));have r51 := zA aY5;clear aY5 sY5;clear hK0 K;refine xr 21 fun K hK0 => ?_;go_simp;refine (zdV (n := n2 + 1) (l := zbz n ps q x) r51 k1 (show Has Y5 Y5.heap.size _ (zm kc [x]) from by simpa [zm] using r47) k3 Hm1.out rfl Hm3.out (by have := Hlen.out; omega) HeV.out HnV.out (ze Y5) (za HF.out fY5)).mono ?_;rintro e Y6 ⟨A4, c4, rfl, o52, sY6⟩;go_simp
      refine hK0.out _ _ (za fY5 sY6) (fun _ => ?_);have fY6 : Fr Z Y6 := za fY5 sY6;replace r1 := r1.step sY6;replace r3 := r3.step sY6;replace k1 := k1.step sY6;replace k3 := k3.step sY6;replace r47 := r47.step sY6;replace r36 := r36.step sY6;replace r41 := r41.step sY6;replace r51 := r51.step sY6;replace o42 := zb (Own.below o42.out sY6 (Nat.le_refl _));clear sY6;clear hK0 K
      try simp only [xs, Act.put]
      refine xto 22 ?_;refine xto 23 ?_;refine wpAnyH_done (by kernel_rfl) ?_ _;refine NoPanic.normal ?_;go_wp2_with fail
      go_ret2
      exact ⟨A3, c3, A4, c4, by simp [HnI.out, HnV.out], by rw [← HnI.out] at o42; exact o42, by rw [← HnV.out] at o52; exact o52, za HF.out fY6⟩
     ·go_simp
      obtain ⟨Y4, eY4, sY4, aY4⟩ := zab Y3 ([.slice A2 q c2, .slice (some ⟨X0.heap.size, 0, none⟩) 1 1, .slice (zac A2 c2 q) (n2 - q) (c2 - q)]) 24;refine hK0.out _ _ (zf fY3 _) (fun _ => ?_);refine zT eY4 ?_;clear eY4;have fY4 : Fr Z Y4 := za fY3 sY4;replace r1 := r1.step sY4;replace r3 := r3.step sY4;replace k1 := k1.step sY4;replace k3 := k3.step sY4;replace r47 := r47.step sY4;replace r36 := r36.step sY4;replace r41 := r41.step sY4;have r51 := zA aY4;clear aY4 sY4;clear hK0 K;refine xr 11 fun K hK0 => ?_;go_simp;refine (zd0 (n := n + 1) (l := zbu ks q id) r41 r1 (show Has Y4 Y4.heap.size _ (zS [id]) from r36) r3 Hl1.out rfl Hl3.out (by omega) HeI.out HnI.out (ze Y4) (za HF.out fY4)).mono ?_;rintro e Y5 ⟨A3, c3, rfl, o42, sY5⟩;go_simp;refine hK0.out _ _ (za fY4 sY5) (fun _ => ?_);have fY5 : Fr Z Y5 := za fY4 sY5;replace r1 := r1.step sY5;replace r3 := r3.step sY5;replace k1 := k1.step sY5;replace k3 := k3.step sY5;replace r47 := r47.step sY5;replace r36 := r36.step sY5;replace r41 := r41.step sY5;replace r51 := r51.step sY5;clear sY5;clear hK0 K;refine xr 21 fun K hK0 => ?_;go_simp;refine (zdV (n := n2 + 1) (l := zbz n ps q x) r51 k1 (show Has Y5 Y5.heap.size _ (zm kc [x]) from by simpa [zm] using r47) k3 Hm1.out rfl Hm3.out (by have := Hlen.out; omega) HeV.out HnV.out (ze Y5) (za HF.out fY5)).mono ?_;rintro e Y6 ⟨A4, c4, rfl, o52, sY6⟩;go_simp
      refine hK0.out _ _ (za fY5 sY6) (fun _ => ?_);have fY6 : Fr Z Y6 := za fY5 sY6;replace r1 := r1.step sY6;replace r3 := r3.step sY6;replace k1 := k1.step sY6;replace k3 := k3.step sY6;replace r47 := r47.step sY6;replace r36 := r36.step sY6;replace r41 := r41.step sY6;replace r51 := r51.step sY6;replace o42 := zb (Own.below o42.out sY6 (Nat.le_refl _));clear sY6;clear hK0 K
      try simp only [xs, Act.put]
      refine xto 22 ?_;refine xto 23 ?_;refine wpAnyH_done (by kernel_rfl) ?_ _;refine NoPanic.normal ?_;go_wp2_with fail
      go_ret2
      exact ⟨A3, c3, A4, c4, by simp [HnI.out, HnV.out], by rw [← HnI.out] at o42; exact o42, by rw [← HnV.out] at o52; exact o52, za HF.out fY6⟩
    ·go_simp
     obtain ⟨Y3, eY3, sY3, aY3⟩ := zab Y2 ([.slice A2 q c2, .slice (some ⟨X0.heap.size, 0, none⟩) 1 1, .slice (zac A2 c2 q) (n2 - q) (c2 - q)]) 24;refine hK0.out _ _ (zf fY2 _) (fun _ => ?_);refine zT eY3 ?_;clear eY3;have fY3 : Fr Z Y3 := za fY2 sY3;replace r1 := r1.step sY3;replace r3 := r3.step sY3;replace k1 := k1.step sY3;replace k3 := k3.step sY3;replace r47 := r47.step sY3;replace r36 := r36.step sY3;have r51 := zA aY3;clear aY3 sY3;clear hK0 K;refine xr 10 fun K hK0 => ?_;go_simp;obtain ⟨Y4, eY4, sY4, aY4⟩ := zab Y3 ([.slice A p c, .slice (some ⟨Y1.heap.size, 0, none⟩) 1 1, .slice (zam A c p) (n - p) (c - p)]) 22;refine hK0.out _ _ (zf fY3 _) (fun _ => ?_);refine zT eY4 ?_;clear eY4;have fY4 : Fr Z Y4 := za fY3 sY4;replace r1 := r1.step sY4;replace r3 := r3.step sY4;replace k1 := k1.step sY4;replace k3 := k3.step sY4;replace r47 := r47.step sY4;replace r36 := r36.step sY4;replace r51 := r51.step sY4;have r41 := zA aY4;clear aY4 sY4;clear hK0 K;refine xr 11 fun K hK0 => ?_;go_simp;refine (zd0 (n := n + 1) (l := zbu ks q id) r41 r1 (show Has Y4 Y4.heap.size _ (zS [id]) from r36) r3 Hl1.out rfl Hl3.out (by omega) HeI.out HnI.out (ze Y4) (za HF.out fY4)).mono ?_;rintro e Y5 ⟨A3, c3, rfl, o42, sY5⟩;go_simp;refine hK0.out _ _ (za fY4 sY5) (fun _ => ?_);have fY5 : Fr Z Y5 := za fY4 sY5;replace r1 := r1.step sY5;replace r3 := r3.step sY5;replace k1 := k1.step sY5
     replace k3 := k3.step sY5;replace r47 := r47.step sY5;replace r36 := r36.step sY5;replace r51 := r51.step sY5;replace r41 := r41.step sY5;clear sY5;clear hK0 K;refine xr 21 fun K hK0 => ?_;go_simp;refine (zdV (n := n2 + 1) (l := zbz n ps q x) r51 k1 (show Has Y5 Y5.heap.size _ (zm kc [x]) from by simpa [zm] using r47) k3 Hm1.out rfl Hm3.out (by have := Hlen.out; omega) HeV.out HnV.out (ze Y5) (za HF.out fY5)).mono ?_;rintro e Y6 ⟨A4, c4, rfl, o52, sY6⟩;go_simp;refine hK0.out _ _ (za fY5 sY6) (fun _ => ?_);have fY6 : Fr Z Y6 := za fY5 sY6;replace r1 := r1.step sY6;replace r3 := r3.step sY6;replace k1 := k1.step sY6;replace k3 := k3.step sY6;replace r47 := r47.step sY6;replace r36 := r36.step sY6;replace r51 := r51.step sY6;replace r41 := r41.step sY6;replace o42 := zb (Own.below o42.out sY6 (Nat.le_refl _));clear sY6;clear hK0 K
     try simp only [xs, Act.put]
     refine xto 22 ?_;refine xto 23 ?_;refine wpAnyH_done (by kernel_rfl) ?_ _;refine NoPanic.normal ?_;go_wp2_with fail
     go_ret2
     exact ⟨A3, c3, A4, c4, by simp [HnI.out, HnV.out], by rw [← HnI.out] at o42; exact o42, by rw [← HnV.out] at o52; exact o52, za HF.out fY6⟩
   ·go_simp
    obtain ⟨Y2, eY2, sY2, aY2⟩ := zab Y1 ([.slice A2 q c2, .slice (some ⟨X0.heap.size, 0, none⟩) 1 1, .slice (zac A2 c2 q) (n2 - q) (c2 - q)]) 24;refine hK0.out _ _ (zf fY1 _) (fun _ => ?_);refine zT eY2 ?_;clear eY2;have fY2 : Fr Z Y2 := za fY1 sY2;replace r1 := r1.step sY2;replace r3 := r3.step sY2;replace k1 := k1.step sY2;replace k3 := k3.step sY2;replace r47 := r47.step sY2;have r51 := zA aY2;clear aY2 sY2;clear hK0 K;refine xr 5 fun K hK0 => ?_;go_simp;obtain ⟨Y3, eY3, sY3, aY3⟩ := zab Y2 ([.int .i64 id]) 3;refine hK0.out _ _ (zf fY2 _) (fun _ => ?_);refine zT eY3 ?_;clear eY3;have fY3 : Fr Z Y3 := za fY2 sY3;replace r1 := r1.step sY3;replace r3 := r3.step sY3;replace k1 := k1.step sY3;replace k3 := k3.step sY3;replace r47 := r47.step sY3;replace r51 := r51.step sY3;have r36 := zA aY3;clear aY3 sY3;clear hK0 K;refine xr 10 fun K hK0 => ?_;go_simp;obtain ⟨Y4, eY4, sY4, aY4⟩ := zab Y3 ([.slice A p c, .slice (some ⟨Y2.heap.size, 0, none⟩) 1 1, .slice (zam A c p) (n - p) (c - p)]) 22;refine hK0.out _ _ (zf fY3 _) (fun _ => ?_);refine zT eY4 ?_;clear eY4;have fY4 : Fr Z Y4 := za fY3 sY4;replace r1 := r1.step sY4;replace r3 := r3.step sY4;replace k1 := k1.step sY4;replace k3 := k3.step sY4;replace r47 := r47.step sY4;replace r51 := r51.step sY4;replace r36 := r36.step sY4;have r41 := zA aY4;clear aY4 sY4;clear hK0 K;refine xr 11 fun K hK0 => ?_;go_simp
    refine (zd0 (n := n + 1) (l := zbu ks q id) r41 r1 (show Has Y4 Y4.heap.size _ (zS [id]) from r36) r3 Hl1.out rfl Hl3.out (by omega) HeI.out HnI.out (ze Y4) (za HF.out fY4)).mono ?_;rintro e Y5 ⟨A3, c3, rfl, o42, sY5⟩;go_simp;refine hK0.out _ _ (za fY4 sY5) (fun _ => ?_);have fY5 : Fr Z Y5 := za fY4 sY5;replace r1 := r1.step sY5;replace r3 := r3.step sY5;replace k1 := k1.step sY5;replace k3 := k3.step sY5;replace r47 := r47.step sY5;replace r51 := r51.step sY5;replace r36 := r36.step sY5;replace r41 := r41.step sY5;clear sY5;clear hK0 K;refine xr 21 fun K hK0 => ?_;go_simp;refine (zdV (n := n2 + 1) (l := zbz n ps q x) r51 k1 (show Has Y5 Y5.heap.size _ (zm kc [x]) from by simpa [zm] using r47) k3 Hm1.out rfl Hm3.out (by have := Hlen.out; omega) HeV.out HnV.out (ze Y5) (za HF.out fY5)).mono ?_;rintro e Y6 ⟨A4, c4, rfl, o52, sY6⟩;go_simp;refine hK0.out _ _ (za fY5 sY6) (fun _ => ?_);have fY6 : Fr Z Y6 := za fY5 sY6;replace r1 := r1.step sY6;replace r3 := r3.step sY6;replace k1 := k1.step sY6;replace k3 := k3.step sY6;replace r47 := r47.step sY6;replace r51 := r51.step sY6;replace r36 := r36.step sY6;replace r41 := r41.step sY6;replace o42 := zb (Own.below o42.out sY6 (Nat.le_refl _));clear sY6;clear hK0 K
    try simp only [xs, Act.put]
    refine xto 22 ?_;refine xto 23 ?_;refine wpAnyH_done (by kernel_rfl) ?_ _;refine NoPanic.normal ?_;go_wp2_with fail
    go_ret2
    exact ⟨A3, c3, A4, c4, by simp [HnI.out, HnV.out], by rw [← HnI.out] at o42; exact o42, by rw [← HnV.out] at o52; exact o52, za HF.out fY6⟩
end
end Go.Proofs.YtmjjjdikpnhpiaaGreat
