/- NodeRaw, walked. -/
import Derived.Test.YtmjjjdikpnhpiaaGreatNodD
import Derived.Test.YtmjjjdikpnhpiaaGreatActF
import Derived.Test.YtmjjjdikpnhpiaaGreatShort
namespace Go.Proofs.YtmjjjdikpnhpiaaGreat
set_option linter.unusedVariables false
set_option linter.unusedSimpArgs false
set_option maxRecDepth 100000
open Go.RowKit
section
structure NR (W : World) (B : Nat) (v : NV) (n : RN) : Prop where
 lf : v.lf = n.lf
 hB : B ≤ W.heap.size
 h1 : Has W B v.A1 (zm ec n.es)
 l1 : n.es.length = v.n1
 s1 : v.n1 ≤ maxLen
 w1 : WfE n.es
 h2 : Has W B v.A2 (zS n.ks)
 l2 : n.ks.length = v.n2
 k2 : v.n2 ≤ v.c2
 s2 : v.n2 ≤ maxLen
 h3 : Has W B v.A3 (zm kc n.ps)
 l3 : n.ps.length = v.n3
 s3 : v.n3 ≤ maxLen
 w3 : WfK n.ps
 h4 : Has W B v.A4 (zm mc n.ms)
 l4 : n.ms.length = v.n4
 k4 : v.n4 ≤ v.c4
 s4 : v.n4 ≤ maxLen
 w4 : WfM n.ms
def fewV (v : NV) : Prop := v.n1 ≤ 80 ∧ v.n2 ≤ 20 ∧ v.n3 ≤ 20 ∧ v.n4 ≤ 60
section
variable {A1 : Option Addr} {n1 c1 : Nat} {A2 : Option Addr} {n2 c2 : Nat} {A3 : Option Addr} {n3 c3 : Nat} {A4 : Option Addr} {n4 c4 : Nat}
end
theorem zg4 {W : World} {B : Nat} {v : NV} {n : RN} (h : NH W B v n) {b : Bool} (hb : b = true ↔ OkN n ∧ zcW n ≤ rmN n) : Calls Tryz.prog 33 #[nv v] W fun e w' => e = .returned (.bool b) ∧ Fr W w' :=
 (q_fits h).mono fun e w' ⟨⟨c, p, q⟩, f⟩ => ⟨by rw [p, zkr q hb], f⟩
attribute [local go_sem ↓] zaP
end
section
attribute [local go_sem ↓] zaP
def zaJ (p : RN) (i : Nat) : List RM := zfE (zah p.ms p.ps i)
def zeu (p : RN) (i : Nat) : RN := { p with ms := zaL p.ms (zaJ p i) }
def zbo (p c : RN) (i : Nat) : RN := zaQ c (zaJ p i)
theorem zdE {p : RN} (ol : OkL p.ms) (i : Nat) : zcq (zaJ p i) := fun m hm => by
 have h1 := List.mem_of_mem_take hm;unfold zah at h1
 split at h1
 ·simp at h1
 ·exact ol.good m (List.mem_filter.1 h1).1
theorem zhr (p : RN) (i : Nat) : (zaJ p i).length ≤ p.ms.length := Nat.le_trans (batL_le _) (zbH _ _ _)
def OkC (c : RN) : Prop := (c.lf = true ∧ OkE c.es ∨ c.lf = false ∧ OkL c.ms) ∧ c.es.length ≤ 5000 ∧ c.ms.length ≤ 5000
theorem OkN.okC {c : RN} (h : OkN c) (h1 : c.es.length ≤ 5000) (h2 : c.ms.length ≤ 5000) : OkC c := by
 refine ⟨?_, h1, h2⟩
 cases hl : c.lf
 ·exact .inr ⟨rfl, ((zaI hl).1 h).2.2⟩
 ·exact .inl ⟨rfl, ((zcd hl).1 h).2.2.2⟩
set_option maxHeartbeats 2000000 in
theorem zi0 {w : World} {ok : Nat → Prop} {vp vc : NV} {p c : RN} {i : Nat} (hu : ∀ b, w.heap.size ≤ b → ok b) (hp : NP w ok vp p) (hc : NP w ok vc c) (op : OkP p.ps) (ol : OkL p.ms) (hi : i ≤ p.ps.length) (hs : p.ms.length ≤ 5000) (hl : c.lf = true) (oc : OkE c.es) (hcs : c.es.length ≤ 5000) :
 Calls Tryz.prog 32 #[nv vp, nv vc, .int .i64 i] w fun e w' => ∃ vp' vc', e = .returned (.tuple #[nv vp', nv vc', .bool (decide (0 < (zaJ p i).length))]) ∧ Hid (NP w' ok vp' (zeu p i)) ∧ Hid (NP w' ok vc' (zbo p c i)) ∧ Fr w w' := by
 unfold nv;obtain ⟨Y, hY, h0, hy, hA⟩ := zaz [(vp.cells.toArray, 27), (vc.cells.toArray, 27), (zh.cells.toArray, 27), (zh.cells.toArray, 27)] w;have a0 : Arr Y (w.heap.size) 27 vp.cells.toArray := hA 0 _ rfl;have a1 : Arr Y (w.heap.size + 1) 27 vc.cells.toArray := hA 1 _ rfl;have a2 : Arr Y (w.heap.size + 2) 27 zh.cells.toArray := hA 2 _ rfl;have a3 : Arr Y (w.heap.size + 3) 27 zh.cells.toArray := hA 3 _ rfl;change ((((w).alloc (.cells vp.cells.toArray 27)).alloc (.cells vc.cells.toArray 27)).alloc (.cells #[.bool false, .slice none 0 0, .slice none 0 0, .slice none 0 0, .slice none 0 0] 27)).alloc (.cells #[.bool false, .slice none 0 0, .slice none 0 0, .slice none 0 0, .slice none 0 0] 27) = Y at hY;have hYY := ze Y;have hyn : Hid (w.heap.size + 4 ≤ Y.heap.size) := zb (by have := hy.out; simp only [List.length_cons, List.length_nil] at this; omega);clear hA hy;have oy := zaT (W := Y) hu hyn.out;have hp4 := hp.inn 4;have hc4 := hc.inn 4;have l4 := hp.l4;have cP := zfT (w := Y) (c := vp.c4) (c2 := vp.c3) (hp4.h4.fr h0) l4 hp.k4 (by omega) ol (hp.h3.fr h0).has hp.l3 hp.s3 op i (by have := hp.l3; omega);have wp := zcz (ps := p.ps) (i := i) ol.good.wfm;have lp := zbH p.ms p.ps i;have gg := zdE ol i;have gl := zhr p i;have eg : Hid (zaJ p i = zfE (zah p.ms p.ps i)) := zb rfl
 have eb := zkC (zah p.ms p.ps i);have EP : Hid (zeu p i = { p with ms := zaL p.ms (zaJ p i) }) := zb rfl;have EC : Hid (zbo p c i = zaQ c (zaJ p i)) := zb rfl;generalize hg : zaJ p i = g at *;have eg' := eg.out;generalize hl0 : zah p.ms p.ps i = y at *
 have cB : ∀ W A c, Fr w W → zR W (okX ok w.heap.size 4) A (zm mc y) → y.length ≤ c → Calls Tryz.prog 51 #[.slice A y.length c] W fun e w' => e = .returned (.slice A g.length g.length) ∧ Fr W w' := fun W A c f h1 h2 => by
  have := zlm (c := c) h1.has (Nat.le_refl _) rfl h2 (by omega) wp;rw [eg', eb];exact this
 have hgt : ∀ W A, zR W (okX ok w.heap.size 4) A (zm mc y) → zR W (okX ok w.heap.size 4) A (zm mc g) := fun W A h => by
  rw [eg', zfE, zbq wp.wid];exact h.take _
 have cL : ∀ W A, Fr w W → zR W (okX ok w.heap.size 4) A (zm mc g) → Calls Tryz.prog 53 #[.slice vp.A4 vp.n4 vp.c4, .slice A g.length g.length] W fun e w' => ∃ A' c', e = .returned (.slice A' (zaL p.ms g).length c') ∧ zaC w' W.heap.size A' c' (zaL p.ms g) ∧ Fr W w' := fun W A f h =>
  zm4 (hp.h4.fr f).has (Nat.le_refl _) l4 (by omega) hp.w4 h.has (Nat.le_refl _) rfl (by omega) (fun m hm => (gg m hm).1)
 have cA := fun W => zdL (w := W) (v := vc)
 have cT : ∀ W A, (∀ b, W.heap.size ≤ b → okX ok w.heap.size 4 b) → Fr w W → zR W (okX ok w.heap.size 4) A (zm mc g) → Calls Tryz.prog 93 #[nv vc, .slice A g.length g.length] W fun e w' => ∃ v', e = .returned (nv v') ∧ Hid (NP w' (okX ok w.heap.size 4) v' (zaQ c g)) ∧ Fr W w' := fun W A hu' f h =>
  zhg hu' (hc4.fr f) hl oc (by have := hc.l1; omega) h.has rfl (by omega) gg
 have ha : (zdU vc.lf).toArray = #[.func (.func 93) #[] #[], .func (.func 32) #[] #[], .func (.func 94) #[] #[]] := by rw [hc.lf, hl]; rfl
 rw [ha] at cA;have hfd : ∀ W, (Instr.field 89 (.agg #[.func (.func 93) #[] #[], .func (.func 32) #[] #[], .func (.func 94) #[] #[]]) 0).run Tryz.prog W = .ok (.func (.func 93) #[] #[]) W := fun W => by kernel_rfl
 have Hlq : Hid ((zaL p.ms g).length ≤ 100000 ∧ WfM (zaL p.ms g)) := zb ⟨by have := zgD p.ms g; omega, fun m hm => ((zf0 (gone := g) ol).good m hm).1⟩;generalize zaL p.ms g = q at *;unfold nv at cT;have c3 : ∀ W, Fr Y W → W.cell? ⟨w.heap.size, 3, none⟩ = some (.slice vp.A3 vp.n3 vp.c3) := fun W h => (a0.below h a0.lt).cell 3;have c4 : ∀ W, Fr Y W → W.cell? ⟨w.heap.size, 4, none⟩ = some (.slice vp.A4 vp.n4 vp.c4) := fun W h => (a0.below h a0.lt).cell 4;have K0 := zb a0;have K1 := zb a1;have K2 := zb a2;have K3 := zb a3;have HP := zb hp4;clear a0 a1 a2 a3 hp hc hp4 hc4 l4 wp lp gg gl eg' eb op ol hi hs hcs oc ha eg hg hl0;go_enter Tryz.func32, Tryz.ntmps32;go_wp2_with fail;refine cP.mono ?_;rintro e w1 ⟨A', c', rfl, o1, l1, f1⟩;have F1 := za h0 f1;have o1' := o1.fr f1;go_wp2_with fail;refine (cB _ _ _ F1 o1' l1).mono ?_;rintro e w2 ⟨rfl, f2⟩;have o2 := (hgt _ _ o1').fr f2;have F2 := za F1 f2;have f12 := za f1 f2;clear cB hgt o1' o1;go_wp2_with fail;refine (cL _ _ F2 o2).mono ?_;rintro e w3 ⟨A3, d3, rfl, o3, f3⟩;have O2 := zb (o2.fr f3);have F3 := za F2 f3;have f13 := za f12 f3;have b0 := K0.out.below f13 K0.out.lt;have b1 := K1.out.below f13 K1.out.lt;have b2 := K2.out.below f13 K2.out.lt;have b3 := K3.out.below f13 K3.out.lt;have O3 := zb o3;have hy2 := hyn.out;have z12 := f12.size;have z3 : Hid (w.heap.size + 4 ≤ w2.heap.size) := zb (by omega)
 clear K0 K1 K2 K3 c3 c4 cL cP o2 o3 hy2 z12 f12 f13;have tok : Hid (0 < 1) := zb (by decide)
 go_wp2_with (first
  | (clear tok; refine zp (ds := [.slice A3 q.length d3]) sl_m rfl (.tmp 21) (.tmp 20) rfl w.heap.size 4 rfl rfl rfl (zaV _ _ _) b0 (zaD _ (by decide)) (cs' := (vp.set4 A3 q.length d3).cells) rfl ?_; intro W4 e0 u0
     have F4 := u0.fr F3 (Nat.le_refl _);have e1 := u0.other b1 (by omega);have e2 := u0.other b2 (by omega);have e3 := u0.other b3 (by omega);have O4 := zb (O2.out.kept u0 (zo (by decide)));clear b0 b1 b2 b3)
  | fail)
 have zY : Hid (Y.heap.size ≤ W4.drew.heap.size) := zb (by have := u0.size; have := f3.size; have := f2.size; have := f1.size; show _ ≤ W4.heap.size; omega);have hz2 : Hid (Y.heap.size ≤ w2.heap.size) := zb (Nat.le_trans f1.size f2.size);have hS0 := i3 (zn F4) (Arr.drew e0) (Arr.drew e1);have lS0 : ∀ W, Fr w W ∧ Arr W (w.heap.size) 27 (vp.set4 A3 q.length d3).cells.toArray ∧ Arr W (w.heap.size + 1) 27 vc.cells.toArray → (ldS 27 (.pointer (some ⟨w.heap.size, 0, none⟩))).run Tryz.prog W = .ok (.agg (vp.set4 A3 q.length d3).cells.toArray) W := fun W h => zq.ld rfl h.2.1;have lS1 : ∀ W, Fr w W ∧ Arr W (w.heap.size) 27 (vp.set4 A3 q.length d3).cells.toArray ∧ Arr W (w.heap.size + 1) 27 vc.cells.toArray → (ldS 27 (.pointer (some ⟨w.heap.size + 1, 0, none⟩))).run Tryz.prog W = .ok (.agg vc.cells.toArray) W := fun W h => zq.ld rfl h.2.2;have t0_0 : Arr W4.drew (w.heap.size + 2) 27 zh.cells.toArray := Arr.drew e2;have t1_0 : Arr W4.drew (w.heap.size + 3) 27 zh.cells.toArray := Arr.drew e3;refine wp_region_noPanic ?_
 refine wp_region_held_drew (S := fun w' => Fr w w' ∧ Arr w' (w.heap.size) 27 (vp.set4 A3 q.length d3).cells.toArray ∧ Arr w' (w.heap.size + 1) 27 vc.cells.toArray) (by kernel_rfl) hS0 (fun hHeld => ?_);change wpAnyH _ _ _ _ _ _ _ _ _;refine xto 0 ?_;refine xto 1 ?_;refine xto 4 ?_;refine xto 5 ?_;refine xto 7 ?_;refine xto 8 ?_;refine xto 9 ?_;refine xr 2 fun K hK0 => ?_;go_simp;refine (cA _).mono ?_;rintro e y1 ⟨rfl, g1⟩;go_simp;have hS0 := i3 (za hS0.1 g1) ((hS0.2.1).below g1 (hS0.2.1).lt) ((hS0.2.2).below g1 (hS0.2.2).lt);have t0_0 := t0_0.below g1 t0_0.lt;have t1_0 := t1_0.below g1 t1_0.lt;have O5 := zb ((zR.drew O4.out).fr g1);refine xk hK0 hS0 ?_;clear hK0 K
 try simp only [xs, Act.put]
 refine xto 3 ?_;refine xr 6 fun K hK0 => ?_;go_simp;refine (cT _ _ (zaT hu (Nat.le_trans hyn.out (Nat.le_trans zY.out g1.size))) hS0.1 O5.out).mono ?_;rintro e y2 ⟨vc', rfl, hc', g2⟩;go_simp;have hS0 := i3 (za hS0.1 g2) ((hS0.2.1).below g2 (hS0.2.1).lt) ((hS0.2.2).below g2 (hS0.2.2).lt);have t0_0 := t0_0.below g2 t0_0.lt;have t1_0 := t1_0.below g2 t1_0.lt;refine xk hK0 hS0 ?_;clear hK0 K;refine xr 10 fun K hK0 => ?_;refine tN (vp.set4 A3 q.length d3) 6 22 (w.heap.size + 2) t0_0 ?_;intro x1 k0_0 q1;have hS1 := i3 (q1.fr hS0.1 (by omega)) (q1.other hS0.2.1 (by omega)) (q1.other hS0.2.2 (by omega));have t1_1 := q1.other t1_0 (by omega);refine xk hK0 hS1 ?_;clear hK0 K;refine xr 11 fun K hK0 => ?_;refine tN vc' 7 28 (w.heap.size + 3) t1_1 ?_;intro x2 k1_1 q2
 have hS2 := i3 (q2.fr hS1.1 (by omega)) (q2.other hS1.2.1 (by omega)) (q2.other hS1.2.2 (by omega));have k0_1 := q2.other k0_0 (by omega);refine xk hK0 hS2 ?_;clear hK0 K
 try simp only [xs, Act.put]
 refine xto 12 ?_;refine wpAnyH_done (by kernel_rfl) ?_ _;refine NoPanic.normal ?_;go_wp2_with fail;refine bodyPost_ret (zcU _ (w.heap.size + 2) (w.heap.size + 3) zq zq rfl rfl rfl rfl rfl k0_1 k1_1) rfl ?_;have hn := hyn.out;rw [EP.out, EC.out];refine ⟨_, _, rfl, zb ?_, zb ((hc'.out.kept q1 (zj (by decide))).kept q2 (zj (by decide))).out, hS2.1⟩;have H := HP.out.fr hS2.1;have z4 := z3.out;have P3 : zR w3 (okX ok w.heap.size 4) A3 (zm mc q) := O3.out.hasP fun b hb => oy b (by have := hz2.out; omega);have R3 := ((((((P3.kept u0 (zo (by decide))).drew.fr g1).fr g2).kept q1 (zj (by decide))).kept q2 (zj (by decide))).weak fun b _ h => h.1);exact { H.out with h4 := R3, l4 := rfl, k4 := O3.out.cap, s4 := Hlq.out.1, w4 := Hlq.out.2 }
set_option maxHeartbeats 2000000 in
theorem zmO {w : World} {ok : Nat → Prop} {vp vc : NV} {p c : RN} {i : Nat} (hu : ∀ b, w.heap.size ≤ b → ok b) (hp : NP w ok vp p) (hc : NP w ok vc c) (op : OkP p.ps) (ol : OkL p.ms) (hi : i ≤ p.ps.length) (hs : p.ms.length ≤ 5000) (hl : c.lf = false) (oc : OkL c.ms) (hcs : c.ms.length ≤ 5000) :
 Calls Tryz.prog 32 #[nv vp, nv vc, .int .i64 i] w fun e w' => ∃ vp' vc', e = .returned (.tuple #[nv vp', nv vc', .bool (decide (0 < (zaJ p i).length))]) ∧ Hid (NP w' ok vp' (zeu p i)) ∧ Hid (NP w' ok vc' (zbo p c i)) ∧ Fr w w' := by
 unfold nv;obtain ⟨Y, hY, h0, hy, hA⟩ := zaz [(vp.cells.toArray, 27), (vc.cells.toArray, 27), (zh.cells.toArray, 27), (zh.cells.toArray, 27)] w;have a0 : Arr Y (w.heap.size) 27 vp.cells.toArray := hA 0 _ rfl;have a1 : Arr Y (w.heap.size + 1) 27 vc.cells.toArray := hA 1 _ rfl;have a2 : Arr Y (w.heap.size + 2) 27 zh.cells.toArray := hA 2 _ rfl;have a3 : Arr Y (w.heap.size + 3) 27 zh.cells.toArray := hA 3 _ rfl;change ((((w).alloc (.cells vp.cells.toArray 27)).alloc (.cells vc.cells.toArray 27)).alloc (.cells #[.bool false, .slice none 0 0, .slice none 0 0, .slice none 0 0, .slice none 0 0] 27)).alloc (.cells #[.bool false, .slice none 0 0, .slice none 0 0, .slice none 0 0, .slice none 0 0] 27) = Y at hY;have hYY := ze Y;have hyn : Hid (w.heap.size + 4 ≤ Y.heap.size) := zb (by have := hy.out; simp only [List.length_cons, List.length_nil] at this; omega);clear hA hy;have oy := zaT (W := Y) hu hyn.out;have hp4 := hp.inn 4;have hc4 := hc.inn 4;have l4 := hp.l4;have cP := zfT (w := Y) (c := vp.c4) (c2 := vp.c3) (hp4.h4.fr h0) l4 hp.k4 (by omega) ol (hp.h3.fr h0).has hp.l3 hp.s3 op i (by have := hp.l3; omega);have wp := zcz (ps := p.ps) (i := i) ol.good.wfm;have lp := zbH p.ms p.ps i;have gg := zdE ol i;have gl := zhr p i;have eg : Hid (zaJ p i = zfE (zah p.ms p.ps i)) := zb rfl
 have eb := zkC (zah p.ms p.ps i);have EP : Hid (zeu p i = { p with ms := zaL p.ms (zaJ p i) }) := zb rfl;have EC : Hid (zbo p c i = zaQ c (zaJ p i)) := zb rfl;generalize hg : zaJ p i = g at *;have eg' := eg.out;generalize hl0 : zah p.ms p.ps i = y at *
 have cB : ∀ W A c, Fr w W → zR W (okX ok w.heap.size 4) A (zm mc y) → y.length ≤ c → Calls Tryz.prog 51 #[.slice A y.length c] W fun e w' => e = .returned (.slice A g.length g.length) ∧ Fr W w' := fun W A c f h1 h2 => by
  have := zlm (c := c) h1.has (Nat.le_refl _) rfl h2 (by omega) wp;rw [eg', eb];exact this
 have hgt : ∀ W A, zR W (okX ok w.heap.size 4) A (zm mc y) → zR W (okX ok w.heap.size 4) A (zm mc g) := fun W A h => by
  rw [eg', zfE, zbq wp.wid];exact h.take _
 have cL : ∀ W A, Fr w W → zR W (okX ok w.heap.size 4) A (zm mc g) → Calls Tryz.prog 53 #[.slice vp.A4 vp.n4 vp.c4, .slice A g.length g.length] W fun e w' => ∃ A' c', e = .returned (.slice A' (zaL p.ms g).length c') ∧ zaC w' W.heap.size A' c' (zaL p.ms g) ∧ Fr W w' := fun W A f h =>
  zm4 (hp.h4.fr f).has (Nat.le_refl _) l4 (by omega) hp.w4 h.has (Nat.le_refl _) rfl (by omega) (fun m hm => (gg m hm).1)
 have cA := fun W => zdL (w := W) (v := vc)
 have cT : ∀ W A, (∀ b, W.heap.size ≤ b → okX ok w.heap.size 4 b) → Fr w W → zR W (okX ok w.heap.size 4) A (zm mc g) → Calls Tryz.prog 95 #[nv vc, .slice A g.length g.length] W fun e w' => ∃ v', e = .returned (nv v') ∧ Hid (NP w' (okX ok w.heap.size 4) v' (zaQ c g)) ∧ Fr W w' := fun W A hu' f h =>
  zgt hu' (hc4.fr f) hl oc (by have := hc.l4; omega) h.has rfl (by omega) gg
 have ha : (zdU vc.lf).toArray = #[.func (.func 95) #[] #[], .func (.func 96) #[] #[], .func (.func 97) #[] #[]] := by rw [hc.lf, hl]; rfl
 rw [ha] at cA;have hfd : ∀ W, (Instr.field 89 (.agg #[.func (.func 95) #[] #[], .func (.func 96) #[] #[], .func (.func 97) #[] #[]]) 0).run Tryz.prog W = .ok (.func (.func 95) #[] #[]) W := fun W => by kernel_rfl
 have Hlq : Hid ((zaL p.ms g).length ≤ 100000 ∧ WfM (zaL p.ms g)) := zb ⟨by have := zgD p.ms g; omega, fun m hm => ((zf0 (gone := g) ol).good m hm).1⟩;generalize zaL p.ms g = q at *;unfold nv at cT;have c3 : ∀ W, Fr Y W → W.cell? ⟨w.heap.size, 3, none⟩ = some (.slice vp.A3 vp.n3 vp.c3) := fun W h => (a0.below h a0.lt).cell 3;have c4 : ∀ W, Fr Y W → W.cell? ⟨w.heap.size, 4, none⟩ = some (.slice vp.A4 vp.n4 vp.c4) := fun W h => (a0.below h a0.lt).cell 4;have K0 := zb a0;have K1 := zb a1;have K2 := zb a2;have K3 := zb a3;have HP := zb hp4;clear a0 a1 a2 a3 hp hc hp4 hc4 l4 wp lp gg gl eg' eb op ol hi hs hcs oc ha eg hg hl0;go_enter Tryz.func32, Tryz.ntmps32;go_wp2_with fail;refine cP.mono ?_;rintro e w1 ⟨A', c', rfl, o1, l1, f1⟩;have F1 := za h0 f1;have o1' := o1.fr f1;go_wp2_with fail;refine (cB _ _ _ F1 o1' l1).mono ?_;rintro e w2 ⟨rfl, f2⟩;have o2 := (hgt _ _ o1').fr f2;have F2 := za F1 f2;have f12 := za f1 f2;clear cB hgt o1' o1;go_wp2_with fail;refine (cL _ _ F2 o2).mono ?_;rintro e w3 ⟨A3, d3, rfl, o3, f3⟩;have O2 := zb (o2.fr f3);have F3 := za F2 f3;have f13 := za f12 f3;have b0 := K0.out.below f13 K0.out.lt;have b1 := K1.out.below f13 K1.out.lt;have b2 := K2.out.below f13 K2.out.lt;have b3 := K3.out.below f13 K3.out.lt;have O3 := zb o3;have hy2 := hyn.out;have z12 := f12.size;have z3 : Hid (w.heap.size + 4 ≤ w2.heap.size) := zb (by omega)
 clear K0 K1 K2 K3 c3 c4 cL cP o2 o3 hy2 z12 f12 f13;have tok : Hid (0 < 1) := zb (by decide)
 go_wp2_with (first
  | (clear tok; refine zp (ds := [.slice A3 q.length d3]) sl_m rfl (.tmp 21) (.tmp 20) rfl w.heap.size 4 rfl rfl rfl (zaV _ _ _) b0 (zaD _ (by decide)) (cs' := (vp.set4 A3 q.length d3).cells) rfl ?_; intro W4 e0 u0
     have F4 := u0.fr F3 (Nat.le_refl _);have e1 := u0.other b1 (by omega);have e2 := u0.other b2 (by omega);have e3 := u0.other b3 (by omega);have O4 := zb (O2.out.kept u0 (zo (by decide)));clear b0 b1 b2 b3)
  | fail)
 have zY : Hid (Y.heap.size ≤ W4.drew.heap.size) := zb (by have := u0.size; have := f3.size; have := f2.size; have := f1.size; show _ ≤ W4.heap.size; omega);have hz2 : Hid (Y.heap.size ≤ w2.heap.size) := zb (Nat.le_trans f1.size f2.size);have hS0 := i3 (zn F4) (Arr.drew e0) (Arr.drew e1);have lS0 : ∀ W, Fr w W ∧ Arr W (w.heap.size) 27 (vp.set4 A3 q.length d3).cells.toArray ∧ Arr W (w.heap.size + 1) 27 vc.cells.toArray → (ldS 27 (.pointer (some ⟨w.heap.size, 0, none⟩))).run Tryz.prog W = .ok (.agg (vp.set4 A3 q.length d3).cells.toArray) W := fun W h => zq.ld rfl h.2.1;have lS1 : ∀ W, Fr w W ∧ Arr W (w.heap.size) 27 (vp.set4 A3 q.length d3).cells.toArray ∧ Arr W (w.heap.size + 1) 27 vc.cells.toArray → (ldS 27 (.pointer (some ⟨w.heap.size + 1, 0, none⟩))).run Tryz.prog W = .ok (.agg vc.cells.toArray) W := fun W h => zq.ld rfl h.2.2;have t0_0 : Arr W4.drew (w.heap.size + 2) 27 zh.cells.toArray := Arr.drew e2;have t1_0 : Arr W4.drew (w.heap.size + 3) 27 zh.cells.toArray := Arr.drew e3;refine wp_region_noPanic ?_
 refine wp_region_held_drew (S := fun w' => Fr w w' ∧ Arr w' (w.heap.size) 27 (vp.set4 A3 q.length d3).cells.toArray ∧ Arr w' (w.heap.size + 1) 27 vc.cells.toArray) (by kernel_rfl) hS0 (fun hHeld => ?_);change wpAnyH _ _ _ _ _ _ _ _ _;refine xto 0 ?_;refine xto 1 ?_;refine xto 4 ?_;refine xto 5 ?_;refine xto 7 ?_;refine xto 8 ?_;refine xto 9 ?_;refine xr 2 fun K hK0 => ?_;go_simp;refine (cA _).mono ?_;rintro e y1 ⟨rfl, g1⟩;go_simp;have hS0 := i3 (za hS0.1 g1) ((hS0.2.1).below g1 (hS0.2.1).lt) ((hS0.2.2).below g1 (hS0.2.2).lt);have t0_0 := t0_0.below g1 t0_0.lt;have t1_0 := t1_0.below g1 t1_0.lt;have O5 := zb ((zR.drew O4.out).fr g1);refine xk hK0 hS0 ?_;clear hK0 K
 try simp only [xs, Act.put]
 refine xto 3 ?_;refine xr 6 fun K hK0 => ?_;go_simp;refine (cT _ _ (zaT hu (Nat.le_trans hyn.out (Nat.le_trans zY.out g1.size))) hS0.1 O5.out).mono ?_;rintro e y2 ⟨vc', rfl, hc', g2⟩;go_simp;have hS0 := i3 (za hS0.1 g2) ((hS0.2.1).below g2 (hS0.2.1).lt) ((hS0.2.2).below g2 (hS0.2.2).lt);have t0_0 := t0_0.below g2 t0_0.lt;have t1_0 := t1_0.below g2 t1_0.lt;refine xk hK0 hS0 ?_;clear hK0 K;refine xr 10 fun K hK0 => ?_;refine tN (vp.set4 A3 q.length d3) 6 22 (w.heap.size + 2) t0_0 ?_;intro x1 k0_0 q1;have hS1 := i3 (q1.fr hS0.1 (by omega)) (q1.other hS0.2.1 (by omega)) (q1.other hS0.2.2 (by omega));have t1_1 := q1.other t1_0 (by omega);refine xk hK0 hS1 ?_;clear hK0 K;refine xr 11 fun K hK0 => ?_;refine tN vc' 7 28 (w.heap.size + 3) t1_1 ?_;intro x2 k1_1 q2
 have hS2 := i3 (q2.fr hS1.1 (by omega)) (q2.other hS1.2.1 (by omega)) (q2.other hS1.2.2 (by omega));have k0_1 := q2.other k0_0 (by omega);refine xk hK0 hS2 ?_;clear hK0 K
 try simp only [xs, Act.put]
 refine xto 12 ?_;refine wpAnyH_done (by kernel_rfl) ?_ _;refine NoPanic.normal ?_;go_wp2_with fail;refine bodyPost_ret (zcU _ (w.heap.size + 2) (w.heap.size + 3) zq zq rfl rfl rfl rfl rfl k0_1 k1_1) rfl ?_;have hn := hyn.out;rw [EP.out, EC.out];refine ⟨_, _, rfl, zb ?_, zb ((hc'.out.kept q1 (zj (by decide))).kept q2 (zj (by decide))).out, hS2.1⟩;have H := HP.out.fr hS2.1;have z4 := z3.out;have P3 : zR w3 (okX ok w.heap.size 4) A3 (zm mc q) := O3.out.hasP fun b hb => oy b (by have := hz2.out; omega);have R3 := ((((((P3.kept u0 (zo (by decide))).drew.fr g1).fr g2).kept q1 (zj (by decide))).kept q2 (zj (by decide))).weak fun b _ h => h.1);exact { H.out with h4 := R3, l4 := rfl, k4 := O3.out.cap, s4 := Hlq.out.1, w4 := Hlq.out.2 }
end
end Go.Proofs.YtmjjjdikpnhpiaaGreat
