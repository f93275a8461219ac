/- Nodes whose cells lie in blocks that a call's own stores leave alone. -/
import Derived.Test.YtnbbjieblgpjfaaNodD
import Derived.Test.YtnbbjieblgpjfaaLfL
import Derived.Test.YtnbbjieblgpjfaaShort
import Derived.Test.YtnbbjieblgpjfaaBufQ
import Derived.Test.YtnbbjieblgpjfaaOrP
import Derived.Test.YtnbbjieblgpjfaaActM
import Derived.Deep.CutBlock
import Derived.Deep.RegionHeld3

namespace Go.Proofs.Ytnbbjieblgpjfaa
set_option linter.unusedVariables false
set_option linter.unusedSimpArgs false
set_option maxRecDepth 100000
open Go.RowKit
section
def zR (w : World) (ok : Nat → Prop) (A : Option Addr) (xs : List Value) : Prop :=
 ∀ j u, xs[j]? = some u → ∃ b off, A = some ⟨b, off, none⟩ ∧ ok b ∧ w.cell? ⟨b, off + j, none⟩ = some u
structure zic (w W : World) (g : Nat) : Prop extends Kept w W g where
 cell : ∀ p : Addr, p.block ≠ g → W.cell? p = w.cell? p
theorem zg7 {w : World} {g : Nat} (ds : Array Value) : zic w (w.setRow g ds) g :=
 { other := fun hk hne => hk.setRowOther _ hne, fr := fun hf hg => zaM hf hg _, size := by simp [World.setRow], cell := fun p hp => World.cell?_of_block (setRow_other w g p.block _ hp) }
theorem zp {P : Program} {w : World} {ops : Array Oper} {rest : List Oper} {o : Oper} {a : Act} {Q : Exit → Act → World → Prop} {T n : Nat} (hs : (P.info? T).map (·.size) = some n) (hgd : o.guard = none) (x y : Operand) (ho : o.op = .store T x y)
 (g off : Nat) (hx : a.eval x = .pointer (some ⟨g, off, none⟩)) {ds : List Value} (hv : (a.eval y).cells.toList = ds) (hl : ds.length = n) (h1 : One ds)
 {T' : Nat} {cs : List Value} (ha : Arr w g T' cs.toArray) (hf : off + n ≤ cs.length) {cs' : List Value} (hc : splice cs off ds = cs')
 (h : ∀ W, Arr W g T' cs'.toArray → zic w W g → wpList P ops Q rest (a.put o.dst undef) W) : wpList P ops Q (o :: rest) a w :=
 wpList_plain hgd fun K hK => by
  unfold Oper.wp execOp;simp only [ho, hx, Instr.storeAt, Instr.sureAddr, Sem.run_bind, Sem.run_pure, Result.andThen_ok, zcm hs hv hl h1 ha hf, hc];exact hK _ _ (h _ (ha.setRow _) (zg7 _))
theorem zy {P : Program} {w : World} {ops : Array Oper} {o : Oper} {a : Act} {K : Act → World → Prop} {Q : Exit → Act → World → Prop} {E : Prop} {T n : Nat} (hs : (P.info? T).map (·.size) = some n) (hw : Region.wanted o (yielded ops a.tmps) = true) (x y : Operand) (ho : o.op = .store T x y)
 (g off : Nat) (hx : a.eval x = .pointer (some ⟨g, off, none⟩)) {ds : List Value} (hv : (a.eval y).cells.toList = ds) (hl : ds.length = n) (h1 : One ds)
 {T' : Nat} {cs : List Value} (ha : Arr w g T' cs.toArray) (hf : off + n ≤ cs.length) {cs' : List Value} (hc : splice cs off ds = cs')
 (hK : ∀ W, Arr W g T' cs'.toArray → zic w W g → K (a.put o.dst undef) W) : if Region.wanted o (yielded ops a.tmps) = true then Oper.wp P o a w K Q else E := by
 rw [if_pos hw];unfold Oper.wp execOp;simp only [ho, hx, Instr.storeAt, Instr.sureAddr, Sem.run_bind, Sem.run_pure, Result.andThen_ok, zcm hs hv hl h1 ha hf, hc];exact hK _ (ha.setRow _) (zg7 _)
section
variable {w W : World} {ok ok' : Nat → Prop} {A : Option Addr} {xs : List Value} {B g : Nat}
theorem zR.move (h : zR w ok A xs) (hc : ∀ p : Addr, ok p.block → p.block < w.heap.size → W.cell? p = w.cell? p) : zR W ok A xs := fun j u hu => by
 obtain ⟨b, off, h1, h2, h3⟩ := h j u hu;exact ⟨b, off, h1, h2, (hc _ h2 (World.block_lt_of_cell? _ _ h3)).trans h3⟩
theorem zR.fr (h : zR w ok A xs) (f : Fr w W) : zR W ok A xs := h.move fun p _ hp => f.cell hp
theorem zR.kept (h : zR w ok A xs) (k : zic w W g) (hg : ¬ ok g) : zR W ok A xs := h.move fun p hp _ => k.cell p (fun e => hg (e ▸ hp))
theorem zR.weak (h : zR w ok A xs) (hk : ∀ b, b < w.heap.size → ok b → ok' b) : zR w ok' A xs := fun j u hu => by
 obtain ⟨b, off, h1, h2, h3⟩ := h j u hu;exact ⟨b, off, h1, hk b (World.block_lt_of_cell? _ _ h3) h2, h3⟩
theorem zR.has (h : zR w ok A xs) : Has w w.heap.size A xs := fun j u hu => by
 obtain ⟨b, off, h1, h2, h3⟩ := h j u hu;exact ⟨b, off, h1, World.block_lt_of_cell? _ _ h3, h3⟩
theorem zR.drew (h : zR w ok A xs) : zR w.drew ok A xs := h
theorem zR.nil : zR w ok A [] := fun j u h => by simp at h
theorem Has.hasP (h : Has w B A xs) (hk : ∀ b, b < B → ok b) : zR w ok A xs := fun j u hu => by
 obtain ⟨b, off, h1, h2, h3⟩ := h j u hu;exact ⟨b, off, h1, hk b h2, h3⟩
theorem Own.hasP {e size n c : Nat} (h : Own w B e size A n c xs) (hk : ∀ b, B ≤ b → ok b) : zR w ok A xs := fun j u hu => by
 obtain ⟨b, off, h1, h2, h3⟩ := h.has j u hu;exact ⟨b, off, h1, hk b (h.lt b (by rw [h1]; rfl)).1, h3⟩
theorem zR.take (h : zR w ok A xs) (k : Nat) : zR w ok A (xs.take k) := fun j u hu => by
 refine h j u ?_;rw [List.getElem?_take] at hu
 split at hu
 ·exact hu
 ·cases hu
end
structure NP (W : World) (ok : Nat → Prop) (v : NV) (n : RN) : Prop where
 lf : v.lf = n.lf
 h1 : zR W ok v.A1 (zm ec n.es)
 l1 : n.es.length = v.n1
 k1 : v.n1 ≤ v.c1
 s1 : v.n1 ≤ 100000
 w1 : WfE n.es
 h2 : zR W ok v.A2 (zS n.ks)
 l2 : n.ks.length = v.n2
 k2 : v.n2 ≤ v.c2
 s2 : v.n2 ≤ 100000
 h3 : zR W ok v.A3 (zm kc n.ps)
 l3 : n.ps.length = v.n3
 k3 : v.n3 ≤ v.c3
 s3 : v.n3 ≤ 100000
 w3 : WfK n.ps
 h4 : zR W ok v.A4 (zm mc n.ms)
 l4 : n.ms.length = v.n4
 k4 : v.n4 ≤ v.c4
 s4 : v.n4 ≤ 100000
 w4 : WfM n.ms
section
variable {w W : World} {ok ok' : Nat → Prop} {v : NV} {n : RN} {B g : Nat}
theorem NP.fr (h : NP w ok v n) (f : Fr w W) : NP W ok v n := { h with h1 := h.h1.fr f, h2 := h.h2.fr f, h3 := h.h3.fr f, h4 := h.h4.fr f }
theorem NP.drew (h : NP w ok v n) : NP w.drew ok v n := { h with }
theorem NP.kept (h : NP w ok v n) (k : zic w W g) (hg : ¬ ok g) : NP W ok v n := { h with h1 := h.h1.kept k hg, h2 := h.h2.kept k hg, h3 := h.h3.kept k hg, h4 := h.h4.kept k hg }
theorem NP.weak (h : NP w ok v n) (hk : ∀ b, b < w.heap.size → ok b → ok' b) : NP w ok' v n := { h with h1 := h.h1.weak hk, h2 := h.h2.weak hk, h3 := h.h3.weak hk, h4 := h.h4.weak hk }
theorem NP.nh (h : NP w ok v n) : NH w w.heap.size v n := { h with hB := Nat.le_refl _, h1 := h.h1.has, h2 := h.h2.has, h3 := h.h3.has, h4 := h.h4.has }
theorem NH.np (h : NH w B v n) (hk : ∀ b, b < B → ok b) : NP w ok v n := { h with h1 := h.h1.hasP hk, h2 := h.h2.hasP hk, h3 := h.h3.hasP hk, h4 := h.h4.hasP hk }
theorem zbb : NP w ok zh zce := ⟨rfl, zR.nil, rfl, Nat.le_refl _, by decide, by intro m hm; simp [zce] at hm, zR.nil, rfl, Nat.le_refl _, by decide, zR.nil, rfl, Nat.le_refl _, by decide, by intro m hm; simp [zce] at hm, zR.nil, rfl, Nat.le_refl _, by decide, by intro m hm; simp [zce] at hm⟩
end
def NV.set1 (v : NV) (A : Option Addr) (n c : Nat) : NV := { v with A1 := A, n1 := n, c1 := c }
def NV.set2 (v : NV) (A : Option Addr) (n c : Nat) : NV := { v with A2 := A, n2 := n, c2 := c }
def NV.set3 (v : NV) (A : Option Addr) (n c : Nat) : NV := { v with A3 := A, n3 := n, c3 := c }
def NV.set4 (v : NV) (A : Option Addr) (n c : Nat) : NV := { v with A4 := A, n4 := n, c4 := c }
theorem zaz : ∀ (l : List (Array Value × Nat)) (w : World), ∃ Z, l.foldl (fun w x => w.alloc (.cells x.1 x.2)) w = Z ∧ Fr w Z ∧ Hid (Z.heap.size = w.heap.size + l.length) ∧ ∀ i x, l[i]? = some x → Arr Z (w.heap.size + i) x.2 x.1
 | [], w => ⟨w, rfl, ze w, zb rfl, fun i x h => by simp at h⟩
 | y :: l, w => by
  obtain ⟨Z, h1, h2, h3, h4⟩ := zaz l (w.alloc (.cells y.1 y.2));have e : (w.alloc (.cells y.1 y.2)).heap.size = w.heap.size + 1 := by simp
  refine ⟨Z, h1, za (zf (ze w) _) h2, zb ?_, fun i x h => ?_⟩
  ·have := h3.out
   rw [e] at this;simp only [List.length_cons]; omega
  ·cases i with
   | zero =>
    obtain rfl : y = x := by simpa using h
    exact (Arr.new w y.1 y.2).below h2 (by rw [e]; omega)
   | succ i =>
    have := h4 i x (by simpa using h);rw [e] at this
    rwa [Nat.add_right_comm, Nat.add_assoc] at this
theorem zbi (v : NV) : 0 + 5 ≤ v.cells.length := Nat.le_refl 5
theorem zaD (v : NV) {j : Nat} (h : j + 1 ≤ 5) : j + 1 ≤ v.cells.length := h
theorem zbA (k : RK) : 0 + 9 ≤ (kc k).length := Nat.le_of_eq (zl k).symm
theorem zaE (k k' : RK) : splice (kc k) 0 (kc k') = kc k' := zk _ _ (Nat.le_of_eq ((zl k).trans (zl k').symm))
section
variable {P : Program} {w : World} {fn : Func} {a b c d : Tmp} (tmps : Array Value) (ga gb gc : Nat) {T1 T2 T3 : Nat} {ca cb cc : List Value} {Ta Tb Tc na nb nc : Nat}
theorem zcU (Sa : Sty P Ta na) (Sb : Sty P Tb nb) (h : fn.results = #[.cell a Ta, .cell b Tb, .tmp d]) (ha : tmps.getD a undef = .pointer (some ⟨ga, 0, none⟩)) (hb : tmps.getD b undef = .pointer (some ⟨gb, 0, none⟩)) (la : ca.length = na) (lb : cb.length = nb) (h1 : Arr w ga T1 ca.toArray) (h2 : Arr w gb T2 cb.toArray) :
 (results fn tmps).run P w = .ok (.tuple #[.agg ca.toArray, .agg cb.toArray, tmps.getD d undef]) w := by
 have ha' : tmps[a]?.getD undef = .pointer (some ⟨ga, 0, none⟩) := by simpa using ha
 have hb' : tmps[b]?.getD undef = .pointer (some ⟨gb, 0, none⟩) := by simpa using hb
 simp [results, h, ha', hb', asAddr, Sa.load la h1, Sb.load lb h2]
theorem zaY (Sa : Sty P Ta na) (Sb : Sty P Tb nb) (Sc : Sty P Tc nc) (h : fn.results = #[.cell a Ta, .cell b Tb, .cell c Tc, .tmp d]) (ha : tmps.getD a undef = .pointer (some ⟨ga, 0, none⟩)) (hb : tmps.getD b undef = .pointer (some ⟨gb, 0, none⟩)) (hc : tmps.getD c undef = .pointer (some ⟨gc, 0, none⟩)) (la : ca.length = na) (lb : cb.length = nb) (lc : cc.length = nc) (h1 : Arr w ga T1 ca.toArray) (h2 : Arr w gb T2 cb.toArray) (h3 : Arr w gc T3 cc.toArray) :
 (results fn tmps).run P w = .ok (.tuple #[.agg ca.toArray, .agg cb.toArray, .agg cc.toArray, tmps.getD d undef]) w := by
 have ha' : tmps[a]?.getD undef = .pointer (some ⟨ga, 0, none⟩) := by simpa using ha
 have hb' : tmps[b]?.getD undef = .pointer (some ⟨gb, 0, none⟩) := by simpa using hb
 have hc' : tmps[c]?.getD undef = .pointer (some ⟨gc, 0, none⟩) := by simpa using hc
 simp [results, h, ha', hb', hc', asAddr, Sa.load la h1, Sb.load lb h2, Sc.load lc h3]
end
theorem sl_e : (Try.prog.info? 22).map (·.size) = some 1 := by kernel_rfl
theorem sl_i : (Try.prog.info? 23).map (·.size) = some 1 := by kernel_rfl
theorem sl_k : (Try.prog.info? 24).map (·.size) = some 1 := by kernel_rfl
theorem sl_m : (Try.prog.info? 25).map (·.size) = some 1 := by kernel_rfl
theorem zaV (A : Option Addr) (n c : Nat) : One [Value.slice A n c] := zdv _ rfl
end
section
attribute [local go_sem ↓] zaP
end
section
attribute [local go_sem ↓] zaP
theorem zhR (A : Option Addr) (n c : Nat) (w : World) : (binOp .eql 23 (.slice A n c) (.slice none 0 0)).run Try.prog w = .ok (.bool A.isNone) w := run_eql_slice_nil w _ _ A n c zbP
theorem zhU (A : Option Addr) (n c : Nat) (w : World) : (binOp .eql 24 (.slice A n c) (.slice none 0 0)).run Try.prog w = .ok (.bool A.isNone) w := run_eql_slice_nil w _ _ A n c zcJ
theorem tN {w : World} {ops : Array Oper} {o : Oper} {a : Act} {K : Act → World → Prop} {Q : Exit → Act → World → Prop} {E : Prop} (v : NV) (i j g : Nat) {T' : Nat} {u : NV} (ha : Arr w g T' u.cells.toArray)
 (hK : ∀ W, Arr W g T' v.cells.toArray → zic w W g → K (a.put o.dst undef) W) (hw : Region.wanted o (yielded ops a.tmps) = true := by exact rfl) (ho : o.op = .store 27 (.tmp i) (.tmp j) := by exact rfl)
 (hx : a.eval (.tmp i) = .pointer (some ⟨g, 0, none⟩) := by exact rfl) (hv : (a.eval (.tmp j)).cells.toList = v.cells := by exact rfl) : if Region.wanted o (yielded ops a.tmps) = true then Oper.wp Try.prog o a w K Q else E :=
 zy (ds := v.cells) zaw hw (.tmp i) (.tmp j) ho g 0 hx hv rfl (za6 _) ha (zbi _) (zk _ _ (Nat.le_of_eq rfl)) hK
theorem sN {w : World} {ops : Array Oper} {rest : List Oper} {o : Oper} {a : Act} {Q : Exit → Act → World → Prop} (v : NV) (i j g : Nat) {T' : Nat} {u : NV} (ha : Arr w g T' u.cells.toArray)
 (h : ∀ W, Arr W g T' v.cells.toArray → zic w W g → wpList Try.prog ops Q rest (a.put o.dst undef) W) (hgd : o.guard = none := by exact rfl) (ho : o.op = .store 27 (.tmp i) (.tmp j) := by exact rfl)
 (hx : a.eval (.tmp i) = .pointer (some ⟨g, 0, none⟩) := by exact rfl) (hv : (a.eval (.tmp j)).cells.toList = v.cells := by exact rfl) : wpList Try.prog ops Q (o :: rest) a w :=
 zp (ds := v.cells) zaw hgd (.tmp i) (.tmp j) ho g 0 hx hv rfl (za6 _) ha (zbi _) (zk _ _ (Nat.le_of_eq rfl)) h
theorem zoR (W : World) : ∃ V, World.alloc W (.cells #[.bool false, .slice none 0 0, .slice none 0 0, .slice none 0 0, .slice none 0 0] 27) = V ∧ Fr W V ∧ Arr V W.heap.size 27 zh.cells.toArray := ⟨_, rfl, zf (ze _) _, Arr.new _ _ _⟩
theorem ldN (v : NV) (g : Nat) {X : World} (b : Arr X g 27 v.cells.toArray) : ∀ W, Fr X W → (ldS 27 (.pointer (some ⟨g, 0, none⟩))).run Try.prog W = .ok (.agg v.cells.toArray) W := fun _ h => zq.ld rfl (b.below h b.lt)
end
end Go.Proofs.Ytnbbjieblgpjfaa
