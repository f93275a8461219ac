/- Nodes whose cells lie in blocks that a call's own stores leave alone. -/
import Derived.Test.YtmjjjdikpnhpiaaGreatNodD
import Derived.Test.YtmjjjdikpnhpiaaGreatLfL
import Derived.Test.YtmjjjdikpnhpiaaGreatShort
import Derived.Test.YtmjjjdikpnhpiaaGreatBufQ
import Derived.Test.YtmjjjdikpnhpiaaGreatOrP
import Derived.Test.YtmjjjdikpnhpiaaGreatActM
import Derived.Deep.CutBlock
import Derived.Deep.RegionHeld3

namespace Go.Proofs.YtmjjjdikpnhpiaaGreat
set_option linter.unusedVariables false
set_option linter.unusedSimpArgs false
set_option maxRecDepth 100000
open Go.RowKit
section
def zR (w : World) (ok : Nat → Prop) (A : Option Addr) (xs : List Value) : Prop :=
 ∀ j u, xs[j]? = some u → ∃ b off, A = some ⟨b, off, none⟩ ∧ ok b ∧ w.cell? ⟨b, off + j, none⟩ = some u
structure zic (w W : World) (g : Nat) : Prop extends Kept w W g where
 cell : ∀ p : Addr, p.block ≠ g → W.cell? p = w.cell? p
theorem zg7 {w : World} {g : Nat} (ds : Array Value) : zic w (w.setRow g ds) g :=
 { other := fun hk hne => hk.setRowOther _ hne, fr := fun hf hg => zaM hf hg _, size := by simp [World.setRow], cell := fun p hp => World.cell?_of_block (setRow_other w g p.block _ hp) }
theorem zp {P : Program} {w : World} {ops : Array Oper} {rest : List Oper} {o : Oper} {a : Act} {Q : Exit → Act → World → Prop} {T n : Nat} (hs : (P.info? T).map (·.size) = some n) (hgd : o.guard = none) (x y : Operand) (ho : o.op = .store T x y)
 (g off : Nat) (hx : a.eval x = .pointer (some ⟨g, off, none⟩)) {ds : List Value} (hv : (a.eval y).cells.toList = ds) (hl : ds.length = n) (h1 : One ds)
 {T' : Nat} {cs : List Value} (ha : Arr w g T' cs.toArray) (hf : off + n ≤ cs.length) {cs' : List Value} (hc : splice cs off ds = cs')
 (h : ∀ W, Arr W g T' cs'.toArray → zic w W g → wpList P ops Q rest (a.put o.dst undef) W) : wpList P ops Q (o :: rest) a w :=
 wpList_plain hgd fun K hK => by
  unfold Oper.wp execOp;simp only [ho, hx, Instr.storeAt, Instr.sureAddr, Sem.run_bind, Sem.run_pure, Result.andThen_ok, zcm hs hv hl h1 ha hf, hc];exact hK _ _ (h _ (ha.setRow _) (zg7 _))
theorem zy {P : Program} {w : World} {ops : Array Oper} {o : Oper} {a : Act} {K : Act → World → Prop} {Q : Exit → Act → World → Prop} {E : Prop} {T n : Nat} (hs : (P.info? T).map (·.size) = some n) (hw : Region.wanted o (yielded ops a.tmps) = true) (x y : Operand) (ho : o.op = .store T x y)
 (g off : Nat) (hx : a.eval x = .pointer (some ⟨g, off, none⟩)) {ds : List Value} (hv : (a.eval y).cells.toList = ds) (hl : ds.length = n) (h1 : One ds)
 {T' : Nat} {cs : List Value} (ha : Arr w g T' cs.toArray) (hf : off + n ≤ cs.length) {cs' : List Value} (hc : splice cs off ds = cs')
 (hK : ∀ W, Arr W g T' cs'.toArray → zic w W g → K (a.put o.dst undef) W) : if Region.wanted o (yielded ops a.tmps) = true then Oper.wp P o a w K Q else E := by
 rw [if_pos hw];unfold Oper.wp execOp;simp only [ho, hx, Instr.storeAt, Instr.sureAddr, Sem.run_bind, Sem.run_pure, Result.andThen_ok, zcm hs hv hl h1 ha hf, hc];exact hK _ (ha.setRow _) (zg7 _)
section
variable {w W : World} {ok ok' : Nat → Prop} {A : Option Addr} {xs : List Value} {B g : Nat}
theorem zR.move (h : zR w ok A xs) (hc : ∀ p : Addr, ok p.block → p.block < w.heap.size → W.cell? p = w.cell? p) : zR W ok A xs := fun j u hu => by
 obtain ⟨b, off, h1, h2, h3⟩ := h j u hu;exact ⟨b, off, h1, h2, (hc _ h2 (World.block_lt_of_cell? _ _ h3)).trans h3⟩
theorem zR.fr (h : zR w ok A xs) (f : Fr w W) : zR W ok A xs := h.move fun p _ hp => f.cell hp
theorem zR.kept (h : zR w ok A xs) (k : zic w W g) (hg : ¬ ok g) : zR W ok A xs := h.move fun p hp _ => k.cell p (fun e => hg (e ▸ hp))
theorem zR.weak (h : zR w ok A xs) (hk : ∀ b, b < w.heap.size → ok b → ok' b) : zR w ok' A xs := fun j u hu => by
 obtain ⟨b, off, h1, h2, h3⟩ := h j u hu;exact ⟨b, off, h1, hk b (World.block_lt_of_cell? _ _ h3) h2, h3⟩
theorem zR.has (h : zR w ok A xs) : Has w w.heap.size A xs := fun j u hu => by
 obtain ⟨b, off, h1, h2, h3⟩ := h j u hu;exact ⟨b, off, h1, World.block_lt_of_cell? _ _ h3, h3⟩
theorem zR.drew (h : zR w ok A xs) : zR w.drew ok A xs := h
theorem zR.nil : zR w ok A [] := fun j u h => by simp at h
theorem Has.hasP (h : Has w B A xs) (hk : ∀ b, b < B → ok b) : zR w ok A xs := fun j u hu => by
 obtain ⟨b, off, h1, h2, h3⟩ := h j u hu;exact ⟨b, off, h1, hk b h2, h3⟩
theorem Own.hasP {e size n c : Nat} (h : Own w B e size A n c xs) (hk : ∀ b, B ≤ b → ok b) : zR w ok A xs := fun j u hu => by
 obtain ⟨b, off, h1, h2, h3⟩ := h.has j u hu;exact ⟨b, off, h1, hk b (h.lt b (by rw [h1]; rfl)).1, h3⟩
theorem zR.take (h : zR w ok A xs) (k : Nat) : zR w ok A (xs.take k) := fun j u hu => by
 refine h j u ?_;rw [List.getElem?_take] at hu
 split at hu
 ·exact hu
 ·cases hu
end
structure NP (W : World) (ok : Nat → Prop) (v : NV) (n : RN) : Prop where
 lf : v.lf = n.lf
 h1 : zR W ok v.A1 (zm ec n.es)
 l1 : n.es.length = v.n1
 k1 : v.n1 ≤ v.c1
 s1 : v.n1 ≤ 100000
 w1 : WfE n.es
 h2 : zR W ok v.A2 (zS n.ks)
 l2 : n.ks.length = v.n2
 k2 : v.n2 ≤ v.c2
 s2 : v.n2 ≤ 100000
 h3 : zR W ok v.A3 (zm kc n.ps)
 l3 : n.ps.length = v.n3
 k3 : v.n3 ≤ v.c3
 s3 : v.n3 ≤ 100000
 w3 : WfK n.ps
 h4 : zR W ok v.A4 (zm mc n.ms)
 l4 : n.ms.length = v.n4
 k4 : v.n4 ≤ v.c4
 s4 : v.n4 ≤ 100000
 w4 : WfM n.ms
section
variable {w W : World} {ok ok' : Nat → Prop} {v : NV} {n : RN} {B g : Nat}
theorem NP.fr (h : NP w ok v n) (f : Fr w W) : NP W ok v n := { h with h1 := h.h1.fr f, h2 := h.h2.fr f, h3 := h.h3.fr f, h4 := h.h4.fr f }
theorem NP.drew (h : NP w ok v n) : NP w.drew ok v n := { h with }
theorem NP.kept (h : NP w ok v n) (k : zic w W g) (hg : ¬ ok g) : NP W ok v n := { h with h1 := h.h1.kept k hg, h2 := h.h2.kept k hg, h3 := h.h3.kept k hg, h4 := h.h4.kept k hg }
theorem NP.weak (h : NP w ok v n) (hk : ∀ b, b < w.heap.size → ok b → ok' b) : NP w ok' v n := { h with h1 := h.h1.weak hk, h2 := h.h2.weak hk, h3 := h.h3.weak hk, h4 := h.h4.weak hk }
theorem NP.nh (h : NP w ok v n) : NH w w.heap.size v n := { h with hB := Nat.le_refl _, h1 := h.h1.has, h2 := h.h2.has, h3 := h.h3.has, h4 := h.h4.has }
theorem NH.np (h : NH w B v n) (hk : ∀ b, b < B → ok b) : NP w ok v n := { h with h1 := h.h1.hasP hk, h2 := h.h2.hasP hk, h3 := h.h3.hasP hk, h4 := h.h4.hasP hk }
theorem zbb : NP w ok zh zce := ⟨rfl, zR.nil, rfl, Nat.le_refl _, by decide, by intro m hm; simp [zce] at hm, zR.nil, rfl, Nat.le_refl _, by decide, zR.nil, rfl, Nat.le_refl _, by decide, by intro m hm; simp [zce] at hm, zR.nil, rfl, Nat.le_refl _, by decide, by intro m hm; simp [zce] at hm⟩
end
def NV.set1 (v : NV) (A : Option Addr) (n c : Nat) : NV := { v with A1 := A, n1 := n, c1 := c }
def NV.set2 (v : NV) (A : Option Addr) (n c : Nat) : NV := { v with A2 := A, n2 := n, c2 := c }
def NV.set3 (v : NV) (A : Option Addr) (n c : Nat) : NV := { v with A3 := A, n3 := n, c3 := c }
def NV.set4 (v : NV) (A : Option Addr) (n c : Nat) : NV := { v with A4 := A, n4 := n, c4 := c }
theorem zaz : ∀ (l : List (Array Value × Nat)) (w : World), ∃ Z, l.foldl (fun w x => w.alloc (.cells x.1 x.2)) w = Z ∧ Fr w Z ∧ Hid (Z.heap.size = w.heap.size + l.length) ∧ ∀ i x, l[i]? = some x → Arr Z (w.heap.size + i) x.2 x.1
 | [], w => ⟨w, rfl, ze w, zb rfl, fun i x h => by simp at h⟩
 | y :: l, w => by
  obtain ⟨Z, h1, h2, h3, h4⟩ := zaz l (w.alloc (.cells y.1 y.2));have e : (w.alloc (.cells y.1 y.2)).heap.size = w.heap.size + 1 := by simp
  refine ⟨Z, h1, za (zf (ze w) _) h2, zb ?_, fun i x h => ?_⟩
  ·have := h3.out
   rw [e] at this;simp only [List.length_cons]; omega
  ·cases i with
   | zero =>
    obtain rfl : y = x := by simpa using h
    exact (Arr.new w y.1 y.2).below h2 (by rw [e]; omega)
   | succ i =>
    have := h4 i x (by simpa using h);rw [e] at this
    rwa [Nat.add_right_comm, Nat.add_assoc] at this
theorem zbi (v : NV) : 0 + 5 ≤ v.cells.length := Nat.le_refl 5
theorem zaD (v : NV) {j : Nat} (h : j + 1 ≤ 5) : j + 1 ≤ v.cells.length := h
theorem zbA (k : RK) : 0 + 9 ≤ (kc k).length := Nat.le_of_eq (zl k).symm
theorem zaE (k k' : RK) : splice (kc k) 0 (kc k') = kc k' := zk _ _ (Nat.le_of_eq ((zl k).trans (zl k').symm))
section
variable {P : Program} {w : World} {fn : Func} {a b c d : Tmp} (tmps : Array Value) (ga gb gc : Nat) {T1 T2 T3 : Nat} {ca cb cc : List Value} {Ta Tb Tc na nb nc : Nat}
theorem zcU (Sa : Sty P Ta na) (Sb : Sty P Tb nb) (h : fn.results = #[.cell a Ta, .cell b Tb, .tmp d]) (ha : tmps.getD a undef = .pointer (some ⟨ga, 0, none⟩)) (hb : tmps.getD b undef = .pointer (some ⟨gb, 0, none⟩)) (la : ca.length = na) (lb : cb.length = nb) (h1 : Arr w ga T1 ca.toArray) (h2 : Arr w gb T2 cb.toArray) :
 (results fn tmps).run P w = .ok (.tuple #[.agg ca.toArray, .agg cb.toArray, tmps.getD d undef]) w := by
 have ha' : tmps[a]?.getD undef = .pointer (some ⟨ga, 0, none⟩) := by simpa using ha
 have hb' : tmps[b]?.getD undef = .pointer (some ⟨gb, 0, none⟩) := by simpa using hb
 simp [results, h, ha', hb', asAddr, Sa.load la h1, Sb.load lb h2]
theorem zaY (Sa : Sty P Ta na) (Sb : Sty P Tb nb) (Sc : Sty P Tc nc) (h : fn.results = #[.cell a Ta, .cell b Tb, .cell c Tc, .tmp d]) (ha : tmps.getD a undef = .pointer (some ⟨ga, 0, none⟩)) (hb : tmps.getD b undef = .pointer (some ⟨gb, 0, none⟩)) (hc : tmps.getD c undef = .pointer (some ⟨gc, 0, none⟩)) (la : ca.length = na) (lb : cb.length = nb) (lc : cc.length = nc) (h1 : Arr w ga T1 ca.toArray) (h2 : Arr w gb T2 cb.toArray) (h3 : Arr w gc T3 cc.toArray) :
 (results fn tmps).run P w = .ok (.tuple #[.agg ca.toArray, .agg cb.toArray, .agg cc.toArray, tmps.getD d undef]) w := by
 have ha' : tmps[a]?.getD undef = .pointer (some ⟨ga, 0, none⟩) := by simpa using ha
 have hb' : tmps[b]?.getD undef = .pointer (some ⟨gb, 0, none⟩) := by simpa using hb
 have hc' : tmps[c]?.getD undef = .pointer (some ⟨gc, 0, none⟩) := by simpa using hc
 simp [results, h, ha', hb', hc', asAddr, Sa.load la h1, Sb.load lb h2, Sc.load lc h3]
end
theorem sl_e : (Tryz.prog.info? 23).map (·.size) = some 1 := by kernel_rfl
theorem sl_i : (Tryz.prog.info? 22).map (·.size) = some 1 := by kernel_rfl
theorem sl_k : (Tryz.prog.info? 24).map (·.size) = some 1 := by kernel_rfl
theorem sl_m : (Tryz.prog.info? 25).map (·.size) = some 1 := by kernel_rfl
theorem zaV (A : Option Addr) (n c : Nat) : One [Value.slice A n c] := zdv _ rfl
end
section
attribute [local go_sem ↓] zaP
set_option maxHeartbeats 4000000 in
theorem own_raw {w : World} {v : NV} {x1 x2 x3 x4 : List Value}
 (clE : ∀ W, Fr w W → Calls Tryz.prog 47 #[.slice v.A1 v.n1 v.c1] W fun e w' => ∃ A' c', e = .returned (.slice A' v.n1 c') ∧ zR w' (fun b => W.heap.size ≤ b) A' x1 ∧ v.n1 ≤ c' ∧ Fr W w')
 (clI : ∀ W, Fr w W → Calls Tryz.prog 48 #[.slice v.A2 v.n2 v.c2] W fun e w' => ∃ A' c', e = .returned (.slice A' v.n2 c') ∧ zR w' (fun b => W.heap.size ≤ b) A' x2 ∧ v.n2 ≤ c' ∧ Fr W w')
 (clK : ∀ W, Fr w W → Calls Tryz.prog 49 #[.slice v.A3 v.n3 v.c3] W fun e w' => ∃ A' c', e = .returned (.slice A' v.n3 c') ∧ zR w' (fun b => W.heap.size ≤ b) A' x3 ∧ v.n3 ≤ c' ∧ Fr W w')
 (clM : ∀ W, Fr w W → Calls Tryz.prog 50 #[.slice v.A4 v.n4 v.c4] W fun e w' => ∃ A' c', e = .returned (.slice A' v.n4 c') ∧ zR w' (fun b => W.heap.size ≤ b) A' x4 ∧ v.n4 ≤ c' ∧ Fr W w') :
 Calls Tryz.prog 30 #[nv v] w fun e w' => ∃ A1 c1 A2 c2 A3 c3 A4 c4, e = .returned (nv ⟨v.lf, A1, v.n1, c1, A2, v.n2, c2, A3, v.n3, c3, A4, v.n4, c4⟩) ∧ (zR w' (fun b => w.heap.size + 2 ≤ b) A1 x1 ∧ v.n1 ≤ c1 ∧ zR w' (fun b => w.heap.size + 2 ≤ b) A2 x2 ∧ v.n2 ≤ c2 ∧ zR w' (fun b => w.heap.size + 2 ≤ b) A3 x3 ∧ v.n3 ≤ c3 ∧ zR w' (fun b => w.heap.size + 2 ≤ b) A4 x4 ∧ v.n4 ≤ c4) ∧ Fr w w' := by
 unfold nv;obtain ⟨Y, hY, h0, hy, hA⟩ := zaz [(v.cells.toArray, 27), (zh.cells.toArray, 27)] w;have HG : Hid (Arr Y w.heap.size 27 v.cells.toArray) := zb (hA 0 _ rfl);have HK : Hid (Arr Y (w.heap.size + 1) 27 zh.cells.toArray) := zb (hA 1 _ rfl);change (w.alloc (.cells v.cells.toArray 27)).alloc (.cells #[.bool false, .slice none 0 0, .slice none 0 0, .slice none 0 0, .slice none 0 0] 27) = Y at hY;have hYY := ze Y;have hy1 : Hid (w.heap.size + 2 ≤ Y.heap.size) := zb (by have := hy.out; simp at this; omega);clear hA hy;have cE : ∀ W, Fr w W → Fr Y W → Calls Tryz.prog 47 #[.slice v.A1 v.n1 v.c1] W fun e w' => ∃ A' c', e = .returned (.slice A' v.n1 c') ∧ zR w' (fun b => w.heap.size + 2 ≤ b) A' x1 ∧ v.n1 ≤ c' ∧ Fr W w' := fun W h' h => (clE W h').mono fun e w' ⟨A', c', a, b, c, d⟩ => ⟨A', c', a, b.weak (fun _ _ k => by have := hy1.out; have := h.size; omega), c, d⟩;have cI : ∀ W, Fr w W → Fr Y W → Calls Tryz.prog 48 #[.slice v.A2 v.n2 v.c2] W fun e w' => ∃ A' c', e = .returned (.slice A' v.n2 c') ∧ zR w' (fun b => w.heap.size + 2 ≤ b) A' x2 ∧ v.n2 ≤ c' ∧ Fr W w' := fun W h' h => (clI W h').mono fun e w' ⟨A', c', a, b, c, d⟩ => ⟨A', c', a, b.weak (fun _ _ k => by have := hy1.out; have := h.size; omega), c, d⟩;go_enter Tryz.func30, Tryz.ntmps30
 go_upto_region 1 with fail
 go_cut [] from 3 to 11 (fun wx => ∃ A1 c1 A2 c2, Arr wx w.heap.size 27 (NV.cells ⟨v.lf, A1, v.n1, c1, A2, v.n2, c2, v.A3, v.n3, v.c3, v.A4, v.n4, v.c4⟩).toArray ∧ zR wx (fun b => w.heap.size + 2 ≤ b) A1 x1 ∧ v.n1 ≤ c1 ∧ zR wx (fun b => w.heap.size + 2 ≤ b) A2 x2 ∧ v.n2 ≤ c2 ∧ Arr wx (w.heap.size + 1) 27 zh.cells.toArray ∧ Fr w wx)
 case first =>
  have hYd : Fr w Y.drew := zn h0;have yYd := zn hYY;have k1 : ∀ W, Fr Y W → W.cell? ⟨w.heap.size, 1, none⟩ = some (.slice v.A1 v.n1 v.c1) := fun W h => (HG.out.below h HG.out.lt).cell 1;have k2 : ∀ W, Fr Y W → W.cell? ⟨w.heap.size, 2, none⟩ = some (.slice v.A2 v.n2 v.c2) := fun W h => (HG.out.below h HG.out.lt).cell 2;refine wp_region_noPanic ?_;refine wp_region_held_drew (S := fun w' => Fr w w') (by kernel_rfl) hYd (fun hHeld => ?_);change wpAnyH _ _ _ _ _ _ _ _ _;refine xto 0 ?_;refine xto 3 ?_;refine xrr 1 4 (fun K hK0 => ?_) fun K hK0 => ?_
  ·go_simp
   refine xk hK0 hYd ?_;clear hK0 K;refine xrr 2 4 (fun K hK0 => ?_) fun K hK0 => ?_
   ·go_simp
    refine (cE Y.drew hYd yYd).mono ?_;rintro e w1 ⟨Aa, da, rfl, ia, ja, f1⟩;go_simp;have hw1 := za hYd f1;have yw1 := za yYd f1;refine xk hK0 hw1 ?_;clear hK0 K;refine xr 4 fun K hK0 => ?_;go_simp;refine xk hK0 hw1 ?_;clear hK0 K
    try simp only [xs, Act.put]
    refine xto 6 ?_;refine xr 5 fun K hK0 => ?_;go_simp;refine (cI w1 hw1 yw1).mono ?_;rintro e w2 ⟨Ab, db, rfl, ib, jb, f2⟩;go_simp;have hw2 := za hw1 f2;have yw2 := za yw1 f2;have gw2 := HG.out.below yw2 HG.out.lt;have kw2 := HK.out.below yw2 HK.out.lt;replace ia := ia.fr f2;refine xk hK0 hw2 ?_;clear hK0 K;refine xr 7 fun K hK0 => ?_;refine zy (ds := [.slice Aa v.n1 da]) sl_e (by rfl) (.tmp 9) (.tmp 5) rfl w.heap.size 1 rfl rfl rfl (zaV _ _ _) gw2 (zaD _ (by decide)) (cs' := (NV.cells ⟨v.lf, Aa, v.n1, da, v.A2, v.n2, v.c2, v.A3, v.n3, v.c3, v.A4, v.n4, v.c4⟩)) rfl ?_;intro w3 g3 q3;have hw3 := q3.fr hw2 (Nat.le_refl _);refine xk hK0 hw3 ?_;clear hK0 K
    try simp only [xs, Act.put]
    refine xto 8 ?_;refine xr 9 fun K hK0 => ?_;refine zy (ds := [.slice Ab v.n2 db]) sl_i (by rfl) (.tmp 10) (.tmp 8) rfl w.heap.size 2 rfl rfl rfl (zaV _ _ _) g3 (zaD _ (by decide)) (cs' := (NV.cells ⟨v.lf, Aa, v.n1, da, Ab, v.n2, db, v.A3, v.n3, v.c3, v.A4, v.n4, v.c4⟩)) rfl ?_;intro w4 g4 q4;have hw4 := q4.fr hw3 (Nat.le_refl _);refine xk hK0 hw4 ?_;clear hK0 K
    try simp only [xs, Act.put]
    refine wpAnyH_done (by kernel_rfl) ?_ _;refine NoPanic.normal ?_;go_wp2_with fail;go_meet;exact ⟨Aa, da, Ab, db, g4, (ia.kept q3 (by omega)).kept q4 (by omega), ja, (ib.kept q3 (by omega)).kept q4 (by omega), jb, q4.other (q3.other kw2 (by omega)) (by omega), hw4⟩
   ·go_simp
    refine xk hK0 hYd ?_;clear hK0 K;refine xr 2 fun K hK0 => ?_;go_simp;refine (cE Y.drew hYd yYd).mono ?_;rintro e w1 ⟨Aa, da, rfl, ia, ja, f1⟩;go_simp;have hw1 := za hYd f1;have yw1 := za yYd f1;refine xk hK0 hw1 ?_;clear hK0 K
    try simp only [xs, Act.put]
    refine xto 6 ?_;refine xr 5 fun K hK0 => ?_;go_simp;refine (cI w1 hw1 yw1).mono ?_;rintro e w2 ⟨Ab, db, rfl, ib, jb, f2⟩;go_simp;have hw2 := za hw1 f2;have yw2 := za yw1 f2;have gw2 := HG.out.below yw2 HG.out.lt;have kw2 := HK.out.below yw2 HK.out.lt;replace ia := ia.fr f2;refine xk hK0 hw2 ?_;clear hK0 K;refine xr 7 fun K hK0 => ?_;refine zy (ds := [.slice Aa v.n1 da]) sl_e (by rfl) (.tmp 9) (.tmp 5) rfl w.heap.size 1 rfl rfl rfl (zaV _ _ _) gw2 (zaD _ (by decide)) (cs' := (NV.cells ⟨v.lf, Aa, v.n1, da, v.A2, v.n2, v.c2, v.A3, v.n3, v.c3, v.A4, v.n4, v.c4⟩)) rfl ?_;intro w3 g3 q3;have hw3 := q3.fr hw2 (Nat.le_refl _);refine xk hK0 hw3 ?_;clear hK0 K
    try simp only [xs, Act.put]
    refine xto 8 ?_;refine xr 9 fun K hK0 => ?_;refine zy (ds := [.slice Ab v.n2 db]) sl_i (by rfl) (.tmp 10) (.tmp 8) rfl w.heap.size 2 rfl rfl rfl (zaV _ _ _) g3 (zaD _ (by decide)) (cs' := (NV.cells ⟨v.lf, Aa, v.n1, da, Ab, v.n2, db, v.A3, v.n3, v.c3, v.A4, v.n4, v.c4⟩)) rfl ?_;intro w4 g4 q4;have hw4 := q4.fr hw3 (Nat.le_refl _);refine xk hK0 hw4 ?_;clear hK0 K
    try simp only [xs, Act.put]
    refine wpAnyH_done (by kernel_rfl) ?_ _;refine NoPanic.normal ?_;go_wp2_with fail;go_meet;exact ⟨Aa, da, Ab, db, g4, (ia.kept q3 (by omega)).kept q4 (by omega), ja, (ib.kept q3 (by omega)).kept q4 (by omega), jb, q4.other (q3.other kw2 (by omega)) (by omega), hw4⟩
  ·go_simp
   refine xk hK0 hYd ?_;clear hK0 K;refine xr 1 fun K hK0 => ?_;go_simp;refine xk hK0 hYd ?_;clear hK0 K;refine xr 2 fun K hK0 => ?_;go_simp;refine (cE Y.drew hYd yYd).mono ?_;rintro e w1 ⟨Aa, da, rfl, ia, ja, f1⟩;go_simp;have hw1 := za hYd f1;have yw1 := za yYd f1;refine xk hK0 hw1 ?_;clear hK0 K
   try simp only [xs, Act.put]
   refine xto 6 ?_;refine xr 5 fun K hK0 => ?_;go_simp;refine (cI w1 hw1 yw1).mono ?_;rintro e w2 ⟨Ab, db, rfl, ib, jb, f2⟩;go_simp;have hw2 := za hw1 f2;have yw2 := za yw1 f2;have gw2 := HG.out.below yw2 HG.out.lt;have kw2 := HK.out.below yw2 HK.out.lt;replace ia := ia.fr f2;refine xk hK0 hw2 ?_;clear hK0 K;refine xr 7 fun K hK0 => ?_;refine zy (ds := [.slice Aa v.n1 da]) sl_e (by rfl) (.tmp 9) (.tmp 5) rfl w.heap.size 1 rfl rfl rfl (zaV _ _ _) gw2 (zaD _ (by decide)) (cs' := (NV.cells ⟨v.lf, Aa, v.n1, da, v.A2, v.n2, v.c2, v.A3, v.n3, v.c3, v.A4, v.n4, v.c4⟩)) rfl ?_;intro w3 g3 q3;have hw3 := q3.fr hw2 (Nat.le_refl _);refine xk hK0 hw3 ?_;clear hK0 K
   try simp only [xs, Act.put]
   refine xto 8 ?_;refine xr 9 fun K hK0 => ?_;refine zy (ds := [.slice Ab v.n2 db]) sl_i (by rfl) (.tmp 10) (.tmp 8) rfl w.heap.size 2 rfl rfl rfl (zaV _ _ _) g3 (zaD _ (by decide)) (cs' := (NV.cells ⟨v.lf, Aa, v.n1, da, Ab, v.n2, db, v.A3, v.n3, v.c3, v.A4, v.n4, v.c4⟩)) rfl ?_;intro w4 g4 q4;have hw4 := q4.fr hw3 (Nat.le_refl _);refine xk hK0 hw4 ?_;clear hK0 K
   try simp only [xs, Act.put]
   refine wpAnyH_done (by kernel_rfl) ?_ _;refine NoPanic.normal ?_;go_wp2_with fail;go_meet;exact ⟨Aa, da, Ab, db, g4, (ia.kept q3 (by omega)).kept q4 (by omega), ja, (ib.kept q3 (by omega)).kept q4 (by omega), jb, q4.other (q3.other kw2 (by omega)) (by omega), hw4⟩
 case rest =>
  clear cE cI HG HK hYY h0 clE clI;obtain ⟨A1, c1, A2, c2, hg, i1, j1, i2, j2, hk, hw⟩ := hcut;have cA : ∀ W, Fr w W → Fr wc W → Calls Tryz.prog 49 #[.slice v.A3 v.n3 v.c3] W fun e w' => ∃ A' c', e = .returned (.slice A' v.n3 c') ∧ zR w' (fun b => w.heap.size + 2 ≤ b) A' x3 ∧ v.n3 ≤ c' ∧ Fr W w' := fun W h' h => (clK W h').mono fun e w' ⟨A', c', a, b, c, d⟩ => ⟨A', c', a, b.weak (fun _ _ k => by have := hk.lt; have := h.size; omega), c, d⟩;have cB : ∀ W, Fr w W → Fr wc W → Calls Tryz.prog 50 #[.slice v.A4 v.n4 v.c4] W fun e w' => ∃ A' c', e = .returned (.slice A' v.n4 c') ∧ zR w' (fun b => w.heap.size + 2 ≤ b) A' x4 ∧ v.n4 ≤ c' ∧ Fr W w' := fun W h' h => (clM W h').mono fun e w' ⟨A', c', a, b, c, d⟩ => ⟨A', c', a, b.weak (fun _ _ k => by have := hk.lt; have := h.size; omega), c, d⟩;have HG := zb hg;have HK := zb hk;have I1 := zb i1;have I2 := zb i2;have J1 := zb j1;have J2 := zb j2;have hcc := ze wc;clear hg hk i1 i2 clK clM j1 j2
  go_upto_region 2 with fail
  go_cut [] from 11 to 19 (fun wx => ∃ A1 c1 A2 c2 A3 c3 A4 c4, Arr wx w.heap.size 27 (NV.cells ⟨v.lf, A1, v.n1, c1, A2, v.n2, c2, A3, v.n3, c3, A4, v.n4, c4⟩).toArray ∧ (zR wx (fun b => w.heap.size + 2 ≤ b) A1 x1 ∧ v.n1 ≤ c1 ∧ zR wx (fun b => w.heap.size + 2 ≤ b) A2 x2 ∧ v.n2 ≤ c2 ∧ zR wx (fun b => w.heap.size + 2 ≤ b) A3 x3 ∧ v.n3 ≤ c3 ∧ zR wx (fun b => w.heap.size + 2 ≤ b) A4 x4 ∧ v.n4 ≤ c4) ∧ Arr wx (w.heap.size + 1) 27 zh.cells.toArray ∧ Fr w wx)
  case first =>
   have hYd : Fr w wc.drew := zn hw;have yYd := zn hcc;have k1 : ∀ W, Fr wc W → W.cell? ⟨w.heap.size, 3, none⟩ = some (.slice v.A3 v.n3 v.c3) := fun W h => (HG.out.below h HG.out.lt).cell 3;have k2 : ∀ W, Fr wc W → W.cell? ⟨w.heap.size, 4, none⟩ = some (.slice v.A4 v.n4 v.c4) := fun W h => (HG.out.below h HG.out.lt).cell 4;refine wp_region_noPanic ?_;refine wp_region_held_drew (S := fun w' => Fr w w') (by kernel_rfl) hYd (fun hHeld => ?_);change wpAnyH _ _ _ _ _ _ _ _ _;refine xto 0 ?_;refine xto 3 ?_;refine xrr 1 4 (fun K hK0 => ?_) fun K hK0 => ?_
   ·go_simp
    refine xk hK0 hYd ?_;clear hK0 K;refine xrr 2 4 (fun K hK0 => ?_) fun K hK0 => ?_
    ·go_simp
     refine (cA wc.drew hYd yYd).mono ?_;rintro e w1 ⟨Aa, da, rfl, ia, ja, f1⟩;go_simp;have hw1 := za hYd f1;have yw1 := za yYd f1;refine xk hK0 hw1 ?_;clear hK0 K;refine xr 4 fun K hK0 => ?_;go_simp;refine xk hK0 hw1 ?_;clear hK0 K
     try simp only [xs, Act.put]
     refine xto 6 ?_;refine xr 5 fun K hK0 => ?_;go_simp;refine (cB w1 hw1 yw1).mono ?_;rintro e w2 ⟨Ab, db, rfl, ib, jb, f2⟩;go_simp;have hw2 := za hw1 f2;have yw2 := za yw1 f2;have gw2 := HG.out.below yw2 HG.out.lt;have kw2 := HK.out.below yw2 HK.out.lt;replace ia := ia.fr f2;refine xk hK0 hw2 ?_;clear hK0 K;refine xr 7 fun K hK0 => ?_;refine zy (ds := [.slice Aa v.n3 da]) sl_k (by rfl) (.tmp 17) (.tmp 13) rfl w.heap.size 3 rfl rfl rfl (zaV _ _ _) gw2 (zaD _ (by decide)) (cs' := (NV.cells ⟨v.lf, A1, v.n1, c1, A2, v.n2, c2, Aa, v.n3, da, v.A4, v.n4, v.c4⟩)) rfl ?_;intro w3 g3 q3;have hw3 := q3.fr hw2 (Nat.le_refl _);refine xk hK0 hw3 ?_;clear hK0 K
     try simp only [xs, Act.put]
     refine xto 8 ?_;refine xr 9 fun K hK0 => ?_;refine zy (ds := [.slice Ab v.n4 db]) sl_m (by rfl) (.tmp 18) (.tmp 16) rfl w.heap.size 4 rfl rfl rfl (zaV _ _ _) g3 (zaD _ (by decide)) (cs' := (NV.cells ⟨v.lf, A1, v.n1, c1, A2, v.n2, c2, Aa, v.n3, da, Ab, v.n4, db⟩)) rfl ?_;intro w4 g4 q4;have hw4 := q4.fr hw3 (Nat.le_refl _);refine xk hK0 hw4 ?_;clear hK0 K
     try simp only [xs, Act.put]
     refine wpAnyH_done (by kernel_rfl) ?_ _;refine NoPanic.normal ?_;go_wp2_with fail;go_meet;exact ⟨A1, c1, A2, c2, Aa, da, Ab, db, g4, ⟨((I1.out.fr yw2).kept q3 (by omega)).kept q4 (by omega), J1.out, ((I2.out.fr yw2).kept q3 (by omega)).kept q4 (by omega), J2.out, (ia.kept q3 (by omega)).kept q4 (by omega), ja, (ib.kept q3 (by omega)).kept q4 (by omega), jb⟩, q4.other (q3.other kw2 (by omega)) (by omega), hw4⟩
    ·go_simp
     refine xk hK0 hYd ?_;clear hK0 K;refine xr 2 fun K hK0 => ?_;go_simp;refine (cA wc.drew hYd yYd).mono ?_;rintro e w1 ⟨Aa, da, rfl, ia, ja, f1⟩;go_simp;have hw1 := za hYd f1;have yw1 := za yYd f1;refine xk hK0 hw1 ?_;clear hK0 K
     try simp only [xs, Act.put]
     refine xto 6 ?_;refine xr 5 fun K hK0 => ?_;go_simp;refine (cB w1 hw1 yw1).mono ?_;rintro e w2 ⟨Ab, db, rfl, ib, jb, f2⟩;go_simp;have hw2 := za hw1 f2;have yw2 := za yw1 f2;have gw2 := HG.out.below yw2 HG.out.lt;have kw2 := HK.out.below yw2 HK.out.lt;replace ia := ia.fr f2;refine xk hK0 hw2 ?_;clear hK0 K;refine xr 7 fun K hK0 => ?_;refine zy (ds := [.slice Aa v.n3 da]) sl_k (by rfl) (.tmp 17) (.tmp 13) rfl w.heap.size 3 rfl rfl rfl (zaV _ _ _) gw2 (zaD _ (by decide)) (cs' := (NV.cells ⟨v.lf, A1, v.n1, c1, A2, v.n2, c2, Aa, v.n3, da, v.A4, v.n4, v.c4⟩)) rfl ?_;intro w3 g3 q3;have hw3 := q3.fr hw2 (Nat.le_refl _);refine xk hK0 hw3 ?_;clear hK0 K
     try simp only [xs, Act.put]
     refine xto 8 ?_;refine xr 9 fun K hK0 => ?_;refine zy (ds := [.slice Ab v.n4 db]) sl_m (by rfl) (.tmp 18) (.tmp 16) rfl w.heap.size 4 rfl rfl rfl (zaV _ _ _) g3 (zaD _ (by decide)) (cs' := (NV.cells ⟨v.lf, A1, v.n1, c1, A2, v.n2, c2, Aa, v.n3, da, Ab, v.n4, db⟩)) rfl ?_;intro w4 g4 q4;have hw4 := q4.fr hw3 (Nat.le_refl _);refine xk hK0 hw4 ?_;clear hK0 K
     try simp only [xs, Act.put]
     refine wpAnyH_done (by kernel_rfl) ?_ _;refine NoPanic.normal ?_;go_wp2_with fail;go_meet;exact ⟨A1, c1, A2, c2, Aa, da, Ab, db, g4, ⟨((I1.out.fr yw2).kept q3 (by omega)).kept q4 (by omega), J1.out, ((I2.out.fr yw2).kept q3 (by omega)).kept q4 (by omega), J2.out, (ia.kept q3 (by omega)).kept q4 (by omega), ja, (ib.kept q3 (by omega)).kept q4 (by omega), jb⟩, q4.other (q3.other kw2 (by omega)) (by omega), hw4⟩
   ·go_simp
    refine xk hK0 hYd ?_;clear hK0 K;refine xr 1 fun K hK0 => ?_;go_simp;refine xk hK0 hYd ?_;clear hK0 K;refine xr 2 fun K hK0 => ?_;go_simp;refine (cA wc.drew hYd yYd).mono ?_;rintro e w1 ⟨Aa, da, rfl, ia, ja, f1⟩;go_simp;have hw1 := za hYd f1;have yw1 := za yYd f1;refine xk hK0 hw1 ?_;clear hK0 K
    try simp only [xs, Act.put]
    refine xto 6 ?_;refine xr 5 fun K hK0 => ?_;go_simp;refine (cB w1 hw1 yw1).mono ?_;rintro e w2 ⟨Ab, db, rfl, ib, jb, f2⟩;go_simp;have hw2 := za hw1 f2;have yw2 := za yw1 f2;have gw2 := HG.out.below yw2 HG.out.lt;have kw2 := HK.out.below yw2 HK.out.lt;replace ia := ia.fr f2;refine xk hK0 hw2 ?_;clear hK0 K;refine xr 7 fun K hK0 => ?_;refine zy (ds := [.slice Aa v.n3 da]) sl_k (by rfl) (.tmp 17) (.tmp 13) rfl w.heap.size 3 rfl rfl rfl (zaV _ _ _) gw2 (zaD _ (by decide)) (cs' := (NV.cells ⟨v.lf, A1, v.n1, c1, A2, v.n2, c2, Aa, v.n3, da, v.A4, v.n4, v.c4⟩)) rfl ?_;intro w3 g3 q3;have hw3 := q3.fr hw2 (Nat.le_refl _);refine xk hK0 hw3 ?_;clear hK0 K
    try simp only [xs, Act.put]
    refine xto 8 ?_;refine xr 9 fun K hK0 => ?_;refine zy (ds := [.slice Ab v.n4 db]) sl_m (by rfl) (.tmp 18) (.tmp 16) rfl w.heap.size 4 rfl rfl rfl (zaV _ _ _) g3 (zaD _ (by decide)) (cs' := (NV.cells ⟨v.lf, A1, v.n1, c1, A2, v.n2, c2, Aa, v.n3, da, Ab, v.n4, db⟩)) rfl ?_;intro w4 g4 q4;have hw4 := q4.fr hw3 (Nat.le_refl _);refine xk hK0 hw4 ?_;clear hK0 K
    try simp only [xs, Act.put]
    refine wpAnyH_done (by kernel_rfl) ?_ _;refine NoPanic.normal ?_;go_wp2_with fail;go_meet;exact ⟨A1, c1, A2, c2, Aa, da, Ab, db, g4, ⟨((I1.out.fr yw2).kept q3 (by omega)).kept q4 (by omega), J1.out, ((I2.out.fr yw2).kept q3 (by omega)).kept q4 (by omega), J2.out, (ia.kept q3 (by omega)).kept q4 (by omega), ja, (ib.kept q3 (by omega)).kept q4 (by omega), jb⟩, q4.other (q3.other kw2 (by omega)) (by omega), hw4⟩
  case rest =>
   clear cA cB HG HK I1 I2 J1 J2 hw hcc;obtain ⟨A1, c1, A2, c2, A3, c3, A4, c4, hg, hi, hk, hw⟩ := hcut;have l2 : ∀ W, Fr wc W → (ldS 27 (.pointer (some ⟨w.heap.size, 0, none⟩))).run Tryz.prog W = .ok (.agg (NV.cells ⟨v.lf, A1, v.n1, c1, A2, v.n2, c2, A3, v.n3, c3, A4, v.n4, c4⟩).toArray) W := fun W h => zq.ld rfl (hg.below h hg.lt);have hcc := ze wc;have tok : Hid (0 < 1) := zb (by decide);clear hg;have Hi := zb hi;clear hi
   go_wp2_with (first
    | (clear tok; refine zp (ds := (NV.cells ⟨v.lf, A1, v.n1, c1, A2, v.n2, c2, A3, v.n3, c3, A4, v.n4, c4⟩)) zaw rfl (.tmp 2) (.tmp 19) rfl (w.heap.size + 1) 0 rfl rfl rfl (za6 _) hk (zbi _) (zk _ _ (Nat.le_of_eq rfl)) ?_; intro W3 k3 q3)
    | fail)
   refine bodyPost_ret (zq.result rfl _ (w.heap.size + 1) rfl rfl k3) rfl ?_;obtain ⟨i1, j1, i2, j2, i3, j3, i4, j4⟩ := Hi.out;exact ⟨A1, c1, A2, c2, A3, c3, A4, c4, rfl, ⟨i1.kept q3 (by omega), j1, i2.kept q3 (by omega), j2, i3.kept q3 (by omega), j3, i4.kept q3 (by omega), j4⟩, q3.fr hw (by omega)⟩
end
section
attribute [local go_sem ↓] zaP
theorem zhR (A : Option Addr) (n c : Nat) (w : World) : (binOp .eql 22 (.slice A n c) (.slice none 0 0)).run Tryz.prog w = .ok (.bool A.isNone) w := run_eql_slice_nil w _ _ A n c zbP
theorem zhU (A : Option Addr) (n c : Nat) (w : World) : (binOp .eql 24 (.slice A n c) (.slice none 0 0)).run Tryz.prog w = .ok (.bool A.isNone) w := run_eql_slice_nil w _ _ A n c zcJ
set_option maxHeartbeats 4000000 in
theorem znW {w : World} {A : Option Addr} {n c B : Nat} {l : List Int} (hl : Has w B A (zS l)) (hB : B ≤ w.heap.size) (hn : l.length = n) (hsm : n ≤ 1000000) :
 Calls Tryz.prog 48 #[.slice A n c] w fun e w' => ∃ A' c', e = .returned (.slice A' n c') ∧ Own w' w.heap.size 3 1 A' n c' (zS l) ∧ Fr w w' := by
 have hlen := ziP l
 cases A with
 | none =>
  have h0 := hl.none_nil;rw [h0] at hlen;have h1 : n = 0 := by simp at hlen; omega
  subst h1;have hq := zhR none 0 c;simp only [Option.isNone_none] at hq;rw [h0];clear hl hlen h0;go_enter Tryz.func48, Tryz.ntmps48;go_wp2_with fail;go_ret;exact ⟨none, 0, rfl, Own.nil _ _ _ _, ze w⟩
 | some a =>
  subst hn;have ho : Own (w.alloc (.cells #[] 3)) w.heap.size 3 1 (some ⟨w.heap.size, 0, none⟩) 0 0 [] := Own.lit w w.heap.size 3 #[] 0 1 (Nat.le_refl _) (Nat.zero_le _) rfl;have hl2 : Has (w.alloc (.cells #[] 3)) B (some a) (zS l) := hl.below ((zf (ze w) (.cells #[] 3)).mono hB);have hq := zhR (some a) l.length c;simp only [Option.isNone_some] at hq;have rr := ze w;clear hl;go_enter Tryz.func48, Tryz.ntmps48
  go_wp2_with (first
   | (refine zL (w0 := w) zcf zbP (by decide) rfl (.tmp 5) (.tmp 6) rfl (zf rr _) (some ⟨w.heap.size, 0, none⟩) 0 0 [] rfl ho B (some a) l.length c (zS l) rfl hlen hl2 (zbZ l) (by simp only [maxLen]; omega) (by omega) ?_; intro A' c' w' h1 h2)
   | fail)
  go_ret;exact ⟨A', c', by simp, by simpa using h1, h2⟩
set_option maxHeartbeats 4000000 in
theorem zn0 {w : World} {A : Option Addr} {n c B : Nat} {l : List RK} (hl : Has w B A (zm kc l)) (hB : B ≤ w.heap.size) (hn : l.length = n) (hsm : n ≤ 1000000) :
 Calls Tryz.prog 49 #[.slice A n c] w fun e w' => ∃ A' c', e = .returned (.slice A' n c') ∧ Own w' w.heap.size 33 9 A' n c' (zm kc l) ∧ Fr w w' := by
 have hlen := zfY l
 cases A with
 | none =>
  have h0 := hl.none_nil;rw [h0] at hlen;have h1 : n = 0 := by simp at hlen; omega
  subst h1;have hq := zhU none 0 c;simp only [Option.isNone_none] at hq;rw [h0];clear hl hlen h0;go_enter Tryz.func49, Tryz.ntmps49;go_wp2_with fail;go_ret;exact ⟨none, 0, rfl, Own.nil _ _ _ _, ze w⟩
 | some a =>
  subst hn;have ho : Own (w.alloc (.cells #[] 33)) w.heap.size 33 9 (some ⟨w.heap.size, 0, none⟩) 0 0 [] := Own.lit w w.heap.size 33 #[] 0 9 (Nat.le_refl _) (Nat.zero_le _) rfl;have hl2 : Has (w.alloc (.cells #[] 33)) B (some a) (zm kc l) := hl.below ((zf (ze w) (.cells #[] 33)).mono hB);have hq := zhU (some a) l.length c;simp only [Option.isNone_some] at hq;have rr := ze w;clear hl;go_enter Tryz.func49, Tryz.ntmps49
  go_wp2_with (first
   | (refine zL (w0 := w) zc8 zcJ (by decide) rfl (.tmp 5) (.tmp 6) rfl (zf rr _) (some ⟨w.heap.size, 0, none⟩) 0 0 [] rfl ho B (some a) l.length c (zm kc l) rfl hlen hl2 (zgn l) (by simp only [maxLen]; omega) (by omega) ?_; intro A' c' w' h1 h2)
   | fail)
  go_ret;exact ⟨A', c', by simp, by simpa using h1, h2⟩
theorem zew {w : World} {ok : Nat → Prop} {v : NV} {n : RN} (hu : ∀ b, w.heap.size ≤ b → ok b) (h : NP w ok v n) :
 Calls Tryz.prog 30 #[nv v] w fun e w' => ∃ v', e = .returned (nv v') ∧ Hid (NP w' ok v' n) ∧ Fr w w' := by
 have l1 := h.l1;have l2 := h.l2;have l3 := h.l3;have l4 := h.l4;have s1 := h.s1;have s2 := h.s2;have s3 := h.s3;have s4 := h.s4;refine (own_raw (w := w) (v := v) (x1 := zm ec n.es) (x2 := zS n.ks) (x3 := zm kc n.ps) (x4 := zm mc n.ms) (fun W f => ?_) (fun W f => ?_) (fun W f => ?_) (fun W f => ?_)).mono ?_
 ·have k := h.h1.fr f
  refine (zi7 k.has (Nat.le_refl _) l1 (by omega) h.w1).mono ?_;rintro e w' ⟨A', c', e1, e2, e3⟩;exact ⟨A', c', e1, e2.hasP (fun _ h => h), by have := e2.cap; omega, e3⟩
 ·have k := h.h2.fr f
  refine (znW k.has (Nat.le_refl _) l2 (by omega)).mono ?_;rintro e w' ⟨A', c', e1, e2, e3⟩;exact ⟨A', c', e1, e2.hasP (fun _ h => h), e2.cap, e3⟩
 ·have k := h.h3.fr f
  refine (zn0 k.has (Nat.le_refl _) l3 (by omega)).mono ?_;rintro e w' ⟨A', c', e1, e2, e3⟩;exact ⟨A', c', e1, e2.hasP (fun _ h => h), e2.cap, e3⟩
 ·have k := h.h4.fr f
  refine (ziw k.has (Nat.le_refl _) l4 (by omega) h.w4).mono ?_;rintro e w' ⟨A', c', e1, e2, e3⟩;exact ⟨A', c', e1, e2.hasP (fun _ h => h), by have := e2.cap; omega, e3⟩
 ·rintro e w' ⟨A1, c1, A2, c2, A3, c3, A4, c4, e1, ⟨i1, j1, i2, j2, i3, j3, i4, j4⟩, f⟩
  have hw : ∀ b, b < w'.heap.size → w.heap.size + 2 ≤ b → ok b := fun b _ hb => hu b (by omega);exact ⟨_, e1, zb ⟨h.lf, i1.weak hw, h.l1, j1, h.s1, h.w1, i2.weak hw, h.l2, j2, h.s2, i3.weak hw, h.l3, j3, h.s3, h.w3, i4.weak hw, h.l4, j4, h.s4, h.w4⟩, f⟩
theorem tN {w : World} {ops : Array Oper} {o : Oper} {a : Act} {K : Act → World → Prop} {Q : Exit → Act → World → Prop} {E : Prop} (v : NV) (i j g : Nat) {T' : Nat} {u : NV} (ha : Arr w g T' u.cells.toArray)
 (hK : ∀ W, Arr W g T' v.cells.toArray → zic w W g → K (a.put o.dst undef) W) (hw : Region.wanted o (yielded ops a.tmps) = true := by exact rfl) (ho : o.op = .store 27 (.tmp i) (.tmp j) := by exact rfl)
 (hx : a.eval (.tmp i) = .pointer (some ⟨g, 0, none⟩) := by exact rfl) (hv : (a.eval (.tmp j)).cells.toList = v.cells := by exact rfl) : if Region.wanted o (yielded ops a.tmps) = true then Oper.wp Tryz.prog o a w K Q else E :=
 zy (ds := v.cells) zaw hw (.tmp i) (.tmp j) ho g 0 hx hv rfl (za6 _) ha (zbi _) (zk _ _ (Nat.le_of_eq rfl)) hK
theorem sN {w : World} {ops : Array Oper} {rest : List Oper} {o : Oper} {a : Act} {Q : Exit → Act → World → Prop} (v : NV) (i j g : Nat) {T' : Nat} {u : NV} (ha : Arr w g T' u.cells.toArray)
 (h : ∀ W, Arr W g T' v.cells.toArray → zic w W g → wpList Tryz.prog ops Q rest (a.put o.dst undef) W) (hgd : o.guard = none := by exact rfl) (ho : o.op = .store 27 (.tmp i) (.tmp j) := by exact rfl)
 (hx : a.eval (.tmp i) = .pointer (some ⟨g, 0, none⟩) := by exact rfl) (hv : (a.eval (.tmp j)).cells.toList = v.cells := by exact rfl) : wpList Tryz.prog ops Q (o :: rest) a w :=
 zp (ds := v.cells) zaw hgd (.tmp i) (.tmp j) ho g 0 hx hv rfl (za6 _) ha (zbi _) (zk _ _ (Nat.le_of_eq rfl)) h
theorem zoR (W : World) : ∃ V, World.alloc W (.cells #[.bool false, .slice none 0 0, .slice none 0 0, .slice none 0 0, .slice none 0 0] 27) = V ∧ Fr W V ∧ Arr V W.heap.size 27 zh.cells.toArray := ⟨_, rfl, zf (ze _) _, Arr.new _ _ _⟩
theorem ldN (v : NV) (g : Nat) {X : World} (b : Arr X g 27 v.cells.toArray) : ∀ W, Fr X W → (ldS 27 (.pointer (some ⟨g, 0, none⟩))).run Tryz.prog W = .ok (.agg v.cells.toArray) W := fun _ h => zq.ld rfl (b.below h b.lt)
end
end Go.Proofs.YtmjjjdikpnhpiaaGreat
