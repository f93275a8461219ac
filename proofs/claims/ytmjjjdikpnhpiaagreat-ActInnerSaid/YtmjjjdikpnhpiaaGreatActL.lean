/- A root divided, by the program. -/
import Derived.Test.YtmjjjdikpnhpiaaGreatActK
import Derived.Test.YtmjjjdikpnhpiaaGreatShort
namespace Go.Proofs.YtmjjjdikpnhpiaaGreat
set_option linter.unusedVariables false
set_option linter.unusedSimpArgs false
set_option maxRecDepth 100000
open Go.RowKit
attribute [local go_sem ↓] zaP zt
theorem zkl {P : Program} {ops : Array Oper} {Q : Exit → Act → World → Prop} {md : Region.Mode} {S : World → Prop} {fuel : Nat} {listed : Array Bool} {a : Act} {w : World}
 (h : ∀ F : Nat → Array Bool → Act → World → Prop, (∀ fuel listed a w, F fuel listed a w → wpAnyH P md ops Q S fuel listed a w) → (∀ fuel listed a w, wpAnyH P md ops Q S fuel listed a w → F fuel listed a w) → F fuel listed a w) : wpAnyH P md ops Q S fuel listed a w :=
 h _ (fun _ _ _ _ h => h) (fun _ _ _ _ h => h)
def HalfB (w : World) (ok : Nat → Prop) (n : RN) (e : Ending) (w' : World) : Prop := ∃ v1 v2 k, e = .returned (.tuple #[nv v1, nv v2, kv k, .bool (zap n)]) ∧ Hid (zap n = true → k = zaU n ∧ NP w' ok v1 (hl1 n) ∧ NP w' ok v2 (hl2 n)) ∧ Fr w w'
theorem zla {w : World} {ok : Nat → Prop} {v : NV} {n : RN} (hu : ∀ b, w.heap.size ≤ b → ok b) (h : NP w ok v n) (hl : n.lf = true) (ho : OkE n.es) : Calls Tryz.prog 94 #[nv v] w (HalfB w ok n) := by
 have hb : zap n = decide (2 ≤ n.es.length) := by unfold zap; rw [if_pos hl]
 by_cases h2 : 2 ≤ n.es.length
 ·refine (zft hu h hl ho h2).mono ?_
  rintro e w' ⟨v1, v2, e1, h1, h2', f⟩;have hb' : zap n = true := by rw [hb]; exact decide_eq_true h2
  exact ⟨v1, v2, _, by rw [hb']; exact e1, zb (fun _ => ⟨rfl, h1.out, h2'.out⟩), f⟩
 ·refine (zfv hu h hl ho (by omega)).mono ?_
  rintro e w' ⟨v1, v2, k, e1, f⟩;have hb' : zap n = false := by rw [hb]; exact decide_eq_false h2
  exact ⟨v1, v2, k, by rw [hb']; exact e1, zb (fun hh => by rw [hb'] at hh; cases hh), f⟩
theorem zj5 {w : World} {ok : Nat → Prop} {v : NV} {n : RN} (hu : ∀ b, w.heap.size ≤ b → ok b) (h : NP w ok v n) (hl : n.lf = false) (ho : OkN n) : Calls Tryz.prog 97 #[nv v] w (HalfB w ok n) := by
 have hb : zap n = decide (n.ks.length = 4) := by unfold zap; rw [hl]; rfl
 by_cases h2 : n.ks.length = 4
 ·refine (ze0 hu h hl ho h2).mono ?_
  rintro e w' ⟨v1, v2, e1, h1, h2', f⟩;have hb' : zap n = true := by rw [hb]; exact decide_eq_true h2
  exact ⟨v1, v2, _, by rw [hb']; exact e1, zb (fun _ => ⟨rfl, h1.out, h2'.out⟩), f⟩
 ·refine (zeK hu h hl ho (by have := ((zaI hl).1 ho).2.1.1.2.1; omega)).mono ?_
  rintro e w' ⟨v1, v2, k, e1, f⟩;have hb' : zap n = false := by rw [hb]; exact decide_eq_false h2
  exact ⟨v1, v2, k, by rw [hb']; exact e1, zb (fun hh => by rw [hb'] at hh; cases hh), f⟩
theorem Arr.hasP {w : World} {ok : Nat → Prop} {g T : Nat} {cs : List Value} (h : Arr w g T cs.toArray) (hk : ok g) : zR w ok (some ⟨g, 0, none⟩) cs := fun j u hu => ⟨g, 0, rfl, hk, by rw [Nat.zero_add, h.cell, List.getElem?_toArray]; exact hu⟩
theorem ziz {w0 w : World} {ok : Nat → Prop} {a b : Int} {k : RK} {g1 g2 : Nat} (hu : ∀ b, w0.heap.size ≤ b → ok b) (z1 : w0.heap.size ≤ g1) (z2 : w0.heap.size ≤ g2) (h1 : Arr w g1 3 #[.int .i64 a, .int .i64 b]) (h2 : Arr w g2 33 (kc k).toArray) (wk : k.wf) : NP w ok ⟨false, none, 0, 0, some ⟨g1, 0, none⟩, 2, 2, some ⟨g2, 0, none⟩, 1, 1, none, 0, 0⟩ ⟨false, [], [a, b], [k], []⟩ :=
 ⟨rfl, zR.nil, rfl, Nat.le_refl _, Nat.zero_le _, fun x hx => by simp at hx, Arr.hasP (cs := [.int .i64 a, .int .i64 b]) h1 (hu _ z1), rfl, Nat.le_refl _, (by show 2 ≤ 100000; decide), by rw [zgh]; exact Arr.hasP h2 (hu _ z2), rfl, Nat.le_refl _, (by show 1 ≤ 100000; decide), fun x hx => by rw [List.mem_singleton.1 hx]; exact wk, zR.nil, rfl, Nat.le_refl _, Nat.zero_le _, fun x hx => by simp at hx⟩
def zhn (r : RN) (a b : Int) : Bool := zap r && (!(decide (a = b)) && (zdH a && zdH b))
def RotR (r : RN) (a b : Int) (t : Bool) (r' x' y' : RN) : Prop := t = zhn r a b ∧ r' = (if t then ⟨false, [], [a, b], [zaU r], []⟩ else r) ∧ x' = (if t then hl1 r else zce) ∧ y' = (if t then hl2 r else zce)
def RotO (ok : Nat → Prop) (w : World) (r : RN) (a b : Int) (e : Ending) (w' : World) : Prop := ∃ vr vx vy t r' x' y', e = .returned (.tuple #[nv vr, nv vx, nv vy, .bool t]) ∧ Hid (RotR r a b t r' x' y') ∧ Hid (NP w' ok vr r') ∧ Hid (NP w' ok vx x') ∧ Hid (NP w' ok vy y') ∧ Fr w w'
def okL (ok : Nat → Prop) (gs : List Nat) : Nat → Prop := fun b => ok b ∧ b ∉ gs
theorem zbU {ok : Nat → Prop} {W : World} {gs : List Nat} (hu : ∀ b, W.heap.size ≤ b → ok b) (h : ∀ g ∈ gs, g < W.heap.size) : ∀ b, W.heap.size ≤ b → okL ok gs b := fun b hb => ⟨hu b hb, fun hm => by have := h b hm; omega⟩
theorem NP.more {w : World} {ok : Nat → Prop} {gs : List Nat} {v : NV} {n : RN} (h : NP w (okL ok gs) v n) {gs' : List Nat} (k : ∀ g ∈ gs', g ∈ gs ∨ w.heap.size ≤ g) : NP w (okL ok gs') v n := h.weak fun b hb ho => ⟨ho.1, fun hm => by
 rcases k b hm with h1 | h1
 ·exact ho.2 h1
 ·omega⟩
abbrev rF (v v1 : NV) (a b : Int) (w : World) (s10 s11 s12 s15 s17 s18 s20 s21 s22 s23 s24 : Value) : Act := ⟨#[.agg v.cells.toArray, .int .i64 a, .int .i64 b, .pointer (some ⟨w.heap.size, 0, none⟩), undef, undef, .pointer (some ⟨w.heap.size + 1, 0, none⟩), .pointer (some ⟨w.heap.size + 1 + 1, 0, none⟩), .pointer (some ⟨w.heap.size + 1 + 1 + 1, 0, none⟩), .bool false, s10, s11, s12, .agg v.cells.toArray, .agg v1.cells.toArray, s15, .agg v1.cells.toArray, s17, s18, .agg v1.cells.toArray, s20, s21, s22, s23, s24, undef, undef, undef, undef, undef, undef, undef, undef, undef, undef, undef, undef, undef, undef, undef, undef, undef, undef, undef, undef, undef, undef, undef, undef, undef, undef, undef, undef], []⟩
set_option maxHeartbeats 16000000 in
theorem zk2 {w : World} {ok : Nat → Prop} {v : NV} {r : RN} {a b : Int} {fid : Nat} {xs : Array Value} (hu : ∀ b, w.heap.size ≤ b → ok b) (h : NP w ok v r)
 (eg : ∀ args W, (callFunc fid args).run Tryz.prog W = .ok (.enter fid args) W) (hfd : ∀ W, (Instr.field 89 (.agg xs) 2).run Tryz.prog W = .ok (.func (.func fid) #[] #[]) W)
 (cA0 : ∀ W (v1 : NV), v1.lf = r.lf → Calls Tryz.prog 45 #[nv v1] W fun e w' => e = .returned (.agg xs) ∧ Fr W w')
 (cH0 : ∀ W ok' v1, (∀ b, W.heap.size ≤ b → ok' b) → NP W ok' v1 r → Calls Tryz.prog fid #[nv v1] W (HalfB W ok' r)) (wp : zap r = true → (zaU r).wf) :
 Calls Tryz.prog 27 #[nv v, .int .i64 a, .int .i64 b] w (RotO ok w r a b) := by
 unfold nv RotO nv;obtain ⟨Y, hY, h0, hy, hA⟩ := zaz [(v.cells.toArray, 27), (zh.cells.toArray, 27), (zh.cells.toArray, 27), (zh.cells.toArray, 27)] w;have a0 : Arr Y (w.heap.size) 27 v.cells.toArray := hA 0 _ rfl;have a1 : Arr Y (w.heap.size + 1) 27 zh.cells.toArray := hA 1 _ rfl;have a2 : Arr Y (w.heap.size + 2) 27 zh.cells.toArray := hA 2 _ rfl;have a3 : Arr Y (w.heap.size + 3) 27 zh.cells.toArray := hA 3 _ rfl;change ((((w).alloc (.cells v.cells.toArray 27)).alloc (.cells #[.bool false, .slice none 0 0, .slice none 0 0, .slice none 0 0, .slice none 0 0] 27)).alloc (.cells #[.bool false, .slice none 0 0, .slice none 0 0, .slice none 0 0, .slice none 0 0] 27)).alloc (.cells #[.bool false, .slice none 0 0, .slice none 0 0, .slice none 0 0, .slice none 0 0] 27) = Y at hY;have hYY := ze Y;have hyn : Hid (w.heap.size + 4 ≤ Y.heap.size) := zb (by have := hy.out; simp only [List.length_cons, List.length_nil] at this; omega);clear hA hy;have oy := zaT (W := Y) hu hyn.out;have h4 := h.inn 4;have cO : ∀ W, Fr Y W → Calls Tryz.prog 30 #[nv v] W fun e w' => ∃ v', e = .returned (nv v') ∧ Hid (NP w' (okX ok w.heap.size 4) v' r) ∧ Fr W w' := fun W k => zew (fun b hb => oy b (Nat.le_trans k.size hb)) (h4.fr (za h0 k));unfold nv at cO
 have lv : ∀ W, Fr Y W → (ldS 27 (.pointer (some ⟨w.heap.size, 0, none⟩))).run Tryz.prog W = .ok (.agg v.cells.toArray) W := fun W h => zq.ld rfl (a0.below h a0.lt);have K0 := zb a0;have K1 := zb a1;have K2 := zb a2;have K3 := zb a3;clear a0 a1 a2 a3 h h4;go_enter Tryz.func27, Tryz.ntmps27;go_wp2_with fail;refine (cO _ hYY).mono ?_;rintro e w1 ⟨v1, rfl, j1, f1⟩;have F1 := za h0 f1;have b0 := K0.out.below f1 K0.out.lt;have b1 := K1.out.below f1 K1.out.lt;have b2 := K2.out.below f1 K2.out.lt;have b3 := K3.out.below f1 K3.out.lt;clear K0 K1 K2 K3 cO lv;have tok : Hid (0 < 1) := zb (by decide)
 go_upto_region 2 with (first
  | (clear tok; refine sN v1 3 14 w.heap.size b0 ?_; intro W2 c0 u0
     have F2 := u0.fr F1 (Nat.le_refl _);have C1 := zb (u0.other b1 (by omega));have C2 := zb (u0.other b2 (by omega));have C3 := zb (u0.other b3 (by omega));have J2 := zb (j1.out.kept u0 (zo (by decide)));have zW : Hid (Y.heap.size ≤ W2.heap.size) := zb (by have := f1.size; have := u0.size; omega);clear b0 b1 b2 b3)
  | fail)
 simp only [Act.put];have cA := fun W => cA0 W v1 j1.out.lf;have cH := fun W ok' => cH0 W ok' v1;unfold HalfB nv at cH;unfold nv at cA;clear cA0 cH0 hY hYY j1;have huX : Hid (∀ b, W2.drew.heap.size ≤ b → (okX ok w.heap.size 4) b) := zb (fun b hb => oy b (Nat.le_trans zW.out hb));go_cut [9, 10, 11, 12] from 13 to 25 (fun s9 s10 s11 s12 wx => ∃ g10 g11 g12 p1 p2 k, s9 = .bool (zap r) ∧ s10 = .pointer (some ⟨g10, 0, none⟩) ∧ s11 = .pointer (some ⟨g11, 0, none⟩) ∧ s12 = .pointer (some ⟨g12, 0, none⟩) ∧ Hid (W2.heap.size ≤ g10 ∧ W2.heap.size ≤ g11 ∧ W2.heap.size ≤ g12) ∧ Hid (g10 ≠ g11 ∧ g10 ≠ g12 ∧ g11 ≠ g12) ∧ Arr wx g10 27 p1.cells.toArray ∧ Arr wx g11 27 p2.cells.toArray ∧ Arr wx g12 33 (kc k).toArray ∧ Hid (zap r = true → k = zaU r ∧ NP wx (okL (okX ok w.heap.size 4) [g10, g11, g12]) p1 (hl1 r) ∧ NP wx (okL (okX ok w.heap.size 4) [g10, g11, g12]) p2 (hl2 r)) ∧ Hid (NP wx (okX ok w.heap.size 4) v1 r) ∧ Arr wx w.heap.size 27 v1.cells.toArray ∧ Arr wx (w.heap.size + 1) 27 zh.cells.toArray ∧ Arr wx (w.heap.size + 2) 27 zh.cells.toArray ∧ Arr wx (w.heap.size + 3) 27 zh.cells.toArray ∧ Fr w wx)
 case first =>
  have hS0 := i2 (zn F2) (Arr.drew c0);have lv : ∀ W, Fr w W ∧ Arr W w.heap.size 27 v1.cells.toArray → (ldS 27 (.pointer (some ⟨w.heap.size, 0, none⟩))).run Tryz.prog W = .ok (.agg v1.cells.toArray) W := fun W h => zq.ld rfl h.2;have hV : Hid (NP W2.drew (okL (okX ok w.heap.size 4) []) v1 r) := zb (J2.out.drew.weak fun b _ h => ⟨h, by simp⟩);have hX2 : Hid (Y.heap.size ≤ W2.drew.heap.size) := zW;have C1 : Hid (Arr W2.drew (w.heap.size + 1) 27 zh.cells.toArray) := C1;have C2 : Hid (Arr W2.drew (w.heap.size + 2) 27 zh.cells.toArray) := C2;have C3 : Hid (Arr W2.drew (w.heap.size + 3) 27 zh.cells.toArray) := C3;have hWd : Hid (W2.heap.size ≤ W2.drew.heap.size) := zb (Nat.le_refl _);clear c0 J2 F2 wp;refine wp_region_noPanic ?_;refine wp_region_held_drew (S := fun w' => Fr w w' ∧ Arr w' w.heap.size 27 v1.cells.toArray) (by kernel_rfl) hS0 (fun hHeld => ?_);change wpAnyH _ _ _ _ _ _ _ _ _;clear hHeld;generalize W2.drew = X0 at *;have hX0 := ze X0;refine xto 0 ?_;refine xto 3 ?_;refine zkl ?_;intro F hF hB
  have M_1_4_10_11_12 : ∀ (g10 : Nat) (g11 : Nat) (g12 : Nat) (p1 : NV) (p2 : NV) (k : RK) (W : World) (ls : Array Bool), ls = #[true, true, true, true, true, true, true, true, true, true, true, true, true, false, false, false, false] → Fr X0 W → (Fr w W ∧ Arr W w.heap.size 27 v1.cells.toArray) → Hid (Arr W g10 27 zh.cells.toArray ∧ X0.heap.size ≤ g10) → Hid (Arr W g11 27 zh.cells.toArray ∧ X0.heap.size ≤ g11) → Hid (Arr W g12 33 (kc zr).toArray ∧ X0.heap.size ≤ g12) → Hid (g10 ≠ g11) → Hid (g10 ≠ g12) → Hid (g11 ≠ g12) → Hid (zap r = true → k = zaU r ∧ NP W (okL (okX ok w.heap.size 4) [g10, g11, g12]) p1 (hl1 r) ∧ NP W (okL (okX ok w.heap.size 4) [g10, g11, g12]) p2 (hl2 r)) → F 4 ls (rF v v1 a b w (.pointer (some ⟨g10, 0, none⟩)) (.pointer (some ⟨g11, 0, none⟩)) (.pointer (some ⟨g12, 0, none⟩)) (.tuple #[.agg p1.cells.toArray, .agg p2.cells.toArray, kv k, .bool (zap r)]) (.agg xs) (.func (.func fid) #[] #[]) (.tuple #[.agg p1.cells.toArray, .agg p2.cells.toArray, kv k, .bool (zap r)]) (.agg p1.cells.toArray) (.agg p2.cells.toArray) (kv k) (.bool (zap r))) W := by
   intro g10 g11 g12 p1 p2 k W ls hls hw hS a10 a11 a12 d1011 d1012 d1112 hH;subst hls;refine hB _ _ _ _ ?_;unfold rF;have zg : Hid (w.heap.size + 4 ≤ g10 ∧ w.heap.size + 4 ≤ g11 ∧ w.heap.size + 4 ≤ g12) := zb (by have := a10.out.2; have := a11.out.2; have := a12.out.2; have := hX2.out; have := hyn.out; omega);refine xr 13 fun K hK0 => ?_;refine tN p1 10 21 g10 a10.out.1 ?_;intro x1 k1 q1;have hS1 := i2 (q1.fr hS.1 (by have := zg.out; omega)) (q1.other hS.2 (by have := zg.out; omega));refine xk hK0 hS1 ?_;clear hK0 K
   try simp only [xp]
   have t11 := q1.other a11.out.1 (Ne.symm d1011.out);have t12 := q1.other a12.out.1 (Ne.symm d1012.out);refine xr 14 fun K hK0 => ?_;refine tN p2 11 22 g11 t11 ?_;intro x2 k2 q2;have hS2 := i2 (q2.fr hS1.1 (by have := zg.out; omega)) (q2.other hS1.2 (by have := zg.out; omega));refine xk hK0 hS2 ?_;clear hK0 K
   try simp only [xp]
   have t12' := q2.other t12 (Ne.symm d1112.out);have k1' := q2.other k1 d1011.out;refine xr 15 fun K hK0 => ?_;refine zy (ds := (kc k)) zC (by rfl) (.tmp 12) (.tmp 23) rfl g12 0 rfl rfl (zl _) (zU _) t12' (zbA _) (zaE _ _) ?_;intro x3 k3 q3;have hS3 := i2 (q3.fr hS2.1 (by have := zg.out; omega)) (q3.other hS2.2 (by have := zg.out; omega));refine xk hK0 hS3 ?_;clear hK0 K
   try simp only [xp]
   refine xto 16 ?_;refine wpAnyH_done (by kernel_rfl) ?_ _;refine NoPanic.normal ?_;go_wp2_with fail;go_meet;have mv : ∀ {A : Nat}, w.heap.size + 4 ≤ X0.heap.size → A < 4 → ∀ {cs : Array Value}, Arr X0 (w.heap.size + A) 27 cs → Arr x3 (w.heap.size + A) 27 cs := fun _ hA _ h => q3.other (q2.other (q1.other (h.below hw h.lt) (by have := zg.out; omega)) (by have := zg.out; omega)) (by have := zg.out; omega);have hx4 : w.heap.size + 4 ≤ X0.heap.size := Nat.le_trans hyn.out hX2.out;have n10 : ∀ {g : Nat}, g ∈ [g10, g11, g12] → ¬ okL (okX ok w.heap.size 4) [g10, g11, g12] g := fun hm h => h.2 hm
   have hV3 := hV.out.more (gs' := [g10, g11, g12]) (fun g hg => by
    simp at hg
    rcases hg with rfl | rfl | rfl
    ·exact .inr a10.out.2
    ·exact .inr a11.out.2
    ·exact .inr a12.out.2)
   have mq : ∀ {vv : NV} {nn : RN}, NP W (okL (okX ok w.heap.size 4) [g10, g11, g12]) vv nn → NP x3 (okL (okX ok w.heap.size 4) [g10, g11, g12]) vv nn := fun h => ((h.kept q1 (n10 (by simp))).kept q2 (n10 (by simp))).kept q3 (n10 (by simp));have z1 := a10.out.2;have z2 := a11.out.2;have z3 := a12.out.2;exact ⟨g10, g11, g12, p1, p2, k, rfl, rfl, rfl, rfl, zb ⟨Nat.le_trans hWd.out z1, Nat.le_trans hWd.out z2, Nat.le_trans hWd.out z3⟩, zb ⟨d1011.out, d1012.out, d1112.out⟩, q3.other k1' d1012.out, q3.other k2 d1112.out, k3, zb (fun hh => ⟨(hH.out hh).1, mq (hH.out hh).2.1, mq (hH.out hh).2.2⟩), zb ((mq (hV3.fr hw)).weak fun b _ h => h.1), hS3.2, mv hx4 (by decide) C1.out, mv hx4 (by decide) C2.out, mv hx4 (by decide) C3.out, hS3.1⟩
  have M_1_4_10_11 : ∀ (g10 : Nat) (g11 : Nat) (p1 : NV) (p2 : NV) (k : RK) (W : World) (ls : Array Bool), ls = #[true, true, true, true, true, true, true, true, true, true, true, true, false, false, false, false, false] → Fr X0 W → (Fr w W ∧ Arr W w.heap.size 27 v1.cells.toArray) → Hid (Arr W g10 27 zh.cells.toArray ∧ X0.heap.size ≤ g10) → Hid (Arr W g11 27 zh.cells.toArray ∧ X0.heap.size ≤ g11) → Hid (g10 ≠ g11) → Hid (zap r = true → k = zaU r ∧ NP W (okL (okX ok w.heap.size 4) [g10, g11]) p1 (hl1 r) ∧ NP W (okL (okX ok w.heap.size 4) [g10, g11]) p2 (hl2 r)) → F 5 ls (rF v v1 a b w (.pointer (some ⟨g10, 0, none⟩)) (.pointer (some ⟨g11, 0, none⟩)) undef (.tuple #[.agg p1.cells.toArray, .agg p2.cells.toArray, kv k, .bool (zap r)]) (.agg xs) (.func (.func fid) #[] #[]) (.tuple #[.agg p1.cells.toArray, .agg p2.cells.toArray, kv k, .bool (zap r)]) (.agg p1.cells.toArray) (.agg p2.cells.toArray) (kv k) (.bool (zap r))) W := by
   intro g10 g11 p1 p2 k W ls hls hw hS a10 a11 d1011 hH;subst hls;refine hB _ _ _ _ ?_;unfold rF;refine xr 12 fun K hK0 => ?_
   ·go_simp
    obtain ⟨W2, e2, s2, n2⟩ := zoS W (kc zr).toArray 33;rw [zH] at e2;rw [e2];have hS2 := i2 (za hS.1 s2) (hS.2.below s2 hS.2.lt);refine xk hK0 hS2 ?_;clear hK0 K
    try simp only [xp]
    exact hF _ _ _ _ (M_1_4_10_11_12 g10 g11 W.heap.size p1 p2 k W2 _ (by kernel_rfl) (za hw s2) hS2 (zb ⟨a10.out.1.below s2 a10.out.1.lt, a10.out.2⟩) (zb ⟨a11.out.1.below s2 a11.out.1.lt, a11.out.2⟩) (zb ⟨n2, hw.size⟩) d1011 (zb (Nat.ne_of_lt a10.out.1.lt)) (zb (Nat.ne_of_lt a11.out.1.lt)) (zb (fun hh => ⟨(hH.out hh).1, ((hH.out hh).2.1.more (gs' := [g10, g11, W.heap.size]) (fun g hg => by simp at hg ⊢; omega)).fr s2, ((hH.out hh).2.2.more (gs' := [g10, g11, W.heap.size]) (fun g hg => by simp at hg ⊢; omega)).fr s2⟩)))
  have M_1_4_10_12 : ∀ (g10 : Nat) (g12 : Nat) (p1 : NV) (p2 : NV) (k : RK) (W : World) (ls : Array Bool), ls = #[true, true, true, true, true, true, true, true, true, true, true, false, true, false, false, false, false] → Fr X0 W → (Fr w W ∧ Arr W w.heap.size 27 v1.cells.toArray) → Hid (Arr W g10 27 zh.cells.toArray ∧ X0.heap.size ≤ g10) → Hid (Arr W g12 33 (kc zr).toArray ∧ X0.heap.size ≤ g12) → Hid (g10 ≠ g12) → Hid (zap r = true → k = zaU r ∧ NP W (okL (okX ok w.heap.size 4) [g10, g12]) p1 (hl1 r) ∧ NP W (okL (okX ok w.heap.size 4) [g10, g12]) p2 (hl2 r)) → F 5 ls (rF v v1 a b w (.pointer (some ⟨g10, 0, none⟩)) undef (.pointer (some ⟨g12, 0, none⟩)) (.tuple #[.agg p1.cells.toArray, .agg p2.cells.toArray, kv k, .bool (zap r)]) (.agg xs) (.func (.func fid) #[] #[]) (.tuple #[.agg p1.cells.toArray, .agg p2.cells.toArray, kv k, .bool (zap r)]) (.agg p1.cells.toArray) (.agg p2.cells.toArray) (kv k) (.bool (zap r))) W := by
   intro g10 g12 p1 p2 k W ls hls hw hS a10 a12 d1012 hH;subst hls;refine hB _ _ _ _ ?_;unfold rF;refine xr 11 fun K hK0 => ?_
   ·go_simp
    obtain ⟨W2, e2, s2, n2⟩ := zoR W;rw [e2];have hS2 := i2 (za hS.1 s2) (hS.2.below s2 hS.2.lt);refine xk hK0 hS2 ?_;clear hK0 K
    try simp only [xp]
    exact hF _ _ _ _ (M_1_4_10_11_12 g10 W.heap.size g12 p1 p2 k W2 _ (by kernel_rfl) (za hw s2) hS2 (zb ⟨a10.out.1.below s2 a10.out.1.lt, a10.out.2⟩) (zb ⟨n2, hw.size⟩) (zb ⟨a12.out.1.below s2 a12.out.1.lt, a12.out.2⟩) (zb (Nat.ne_of_lt a10.out.1.lt)) d1012 (zb (Nat.ne_of_gt a12.out.1.lt)) (zb (fun hh => ⟨(hH.out hh).1, ((hH.out hh).2.1.more (gs' := [g10, W.heap.size, g12]) (fun g hg => by simp at hg ⊢; omega)).fr s2, ((hH.out hh).2.2.more (gs' := [g10, W.heap.size, g12]) (fun g hg => by simp at hg ⊢; omega)).fr s2⟩)))
  have M_1_4_11_12 : ∀ (g11 : Nat) (g12 : Nat) (p1 : NV) (p2 : NV) (k : RK) (W : World) (ls : Array Bool), ls = #[true, true, true, true, true, true, true, true, true, true, false, true, true, false, false, false, false] → Fr X0 W → (Fr w W ∧ Arr W w.heap.size 27 v1.cells.toArray) → Hid (Arr W g11 27 zh.cells.toArray ∧ X0.heap.size ≤ g11) → Hid (Arr W g12 33 (kc zr).toArray ∧ X0.heap.size ≤ g12) → Hid (g11 ≠ g12) → Hid (zap r = true → k = zaU r ∧ NP W (okL (okX ok w.heap.size 4) [g11, g12]) p1 (hl1 r) ∧ NP W (okL (okX ok w.heap.size 4) [g11, g12]) p2 (hl2 r)) → F 5 ls (rF v v1 a b w undef (.pointer (some ⟨g11, 0, none⟩)) (.pointer (some ⟨g12, 0, none⟩)) (.tuple #[.agg p1.cells.toArray, .agg p2.cells.toArray, kv k, .bool (zap r)]) (.agg xs) (.func (.func fid) #[] #[]) (.tuple #[.agg p1.cells.toArray, .agg p2.cells.toArray, kv k, .bool (zap r)]) (.agg p1.cells.toArray) (.agg p2.cells.toArray) (kv k) (.bool (zap r))) W := by
   intro g11 g12 p1 p2 k W ls hls hw hS a11 a12 d1112 hH;subst hls;refine hB _ _ _ _ ?_;unfold rF;refine xr 10 fun K hK0 => ?_
   ·go_simp
    obtain ⟨W2, e2, s2, n2⟩ := zoR W;rw [e2];have hS2 := i2 (za hS.1 s2) (hS.2.below s2 hS.2.lt);refine xk hK0 hS2 ?_;clear hK0 K
    try simp only [xp]
    exact hF _ _ _ _ (M_1_4_10_11_12 W.heap.size g11 g12 p1 p2 k W2 _ (by kernel_rfl) (za hw s2) hS2 (zb ⟨n2, hw.size⟩) (zb ⟨a11.out.1.below s2 a11.out.1.lt, a11.out.2⟩) (zb ⟨a12.out.1.below s2 a12.out.1.lt, a12.out.2⟩) (zb (Nat.ne_of_gt a11.out.1.lt)) (zb (Nat.ne_of_gt a12.out.1.lt)) d1112 (zb (fun hh => ⟨(hH.out hh).1, ((hH.out hh).2.1.more (gs' := [W.heap.size, g11, g12]) (fun g hg => by simp at hg ⊢; omega)).fr s2, ((hH.out hh).2.2.more (gs' := [W.heap.size, g11, g12]) (fun g hg => by simp at hg ⊢; omega)).fr s2⟩)))
  have M_1_10_11_12 : ∀ (g10 : Nat) (g11 : Nat) (g12 : Nat) (W : World) (ls : Array Bool), ls = #[true, true, true, true, false, false, false, false, false, false, true, true, true, false, false, false, false] → Fr X0 W → (Fr w W ∧ Arr W w.heap.size 27 v1.cells.toArray) → Hid (Arr W g10 27 zh.cells.toArray ∧ X0.heap.size ≤ g10) → Hid (Arr W g11 27 zh.cells.toArray ∧ X0.heap.size ≤ g11) → Hid (Arr W g12 33 (kc zr).toArray ∧ X0.heap.size ≤ g12) → Hid (g10 ≠ g11) → Hid (g10 ≠ g12) → Hid (g11 ≠ g12) → F 10 ls (rF v v1 a b w (.pointer (some ⟨g10, 0, none⟩)) (.pointer (some ⟨g11, 0, none⟩)) (.pointer (some ⟨g12, 0, none⟩)) undef (.agg xs) (.func (.func fid) #[] #[]) undef undef undef undef undef) W := by
   intro g10 g11 g12 W ls hls hw hS a10 a11 a12 d1011 d1012 d1112;subst hls;refine hB _ _ _ _ ?_;unfold rF;refine xr 4 fun K hK0 => ?_
   ·go_simp
    refine (cH W _ (zbU (fun b hb => huX.out b (Nat.le_trans hw.size hb)) (fun g hg => by
     simp at hg
     rcases hg with rfl | rfl | rfl
     ·exact a10.out.1.lt
     ·exact a11.out.1.lt
     ·exact a12.out.1.lt)) (((hV.out.more (gs' := [g10, g11, g12]) (fun g hg => by
      simp at hg
      rcases hg with rfl | rfl | rfl
      ·exact .inr a10.out.2
      ·exact .inr a11.out.2
      ·exact .inr a12.out.2)).fr hw))).mono ?_
    rintro e W2 ⟨p1, p2, k, rfl, hH, s2⟩;go_simp;have hS2 := i2 (za hS.1 s2) (hS.2.below s2 hS.2.lt);refine xk hK0 hS2 ?_;clear hK0 K
    try simp only [xp]
    refine xto 5 ?_;refine xto 6 ?_;refine xto 7 ?_;refine xto 8 ?_;refine xto 9 ?_;exact hF _ _ _ _ (M_1_4_10_11_12 g10 g11 g12 p1 p2 k W2 _ (by kernel_rfl) (za hw s2) hS2 (zb ⟨a10.out.1.below s2 a10.out.1.lt, a10.out.2⟩) (zb ⟨a11.out.1.below s2 a11.out.1.lt, a11.out.2⟩) (zb ⟨a12.out.1.below s2 a12.out.1.lt, a12.out.2⟩) d1011 d1012 d1112 hH)
  have M_1_4_10 : ∀ (g10 : Nat) (p1 : NV) (p2 : NV) (k : RK) (W : World) (ls : Array Bool), ls = #[true, true, true, true, true, true, true, true, true, true, true, false, false, false, false, false, false] → Fr X0 W → (Fr w W ∧ Arr W w.heap.size 27 v1.cells.toArray) → Hid (Arr W g10 27 zh.cells.toArray ∧ X0.heap.size ≤ g10) → Hid (zap r = true → k = zaU r ∧ NP W (okL (okX ok w.heap.size 4) [g10]) p1 (hl1 r) ∧ NP W (okL (okX ok w.heap.size 4) [g10]) p2 (hl2 r)) → F 6 ls (rF v v1 a b w (.pointer (some ⟨g10, 0, none⟩)) undef undef (.tuple #[.agg p1.cells.toArray, .agg p2.cells.toArray, kv k, .bool (zap r)]) (.agg xs) (.func (.func fid) #[] #[]) (.tuple #[.agg p1.cells.toArray, .agg p2.cells.toArray, kv k, .bool (zap r)]) (.agg p1.cells.toArray) (.agg p2.cells.toArray) (kv k) (.bool (zap r))) W := by
   intro g10 p1 p2 k W ls hls hw hS a10 hH;subst hls;refine hB _ _ _ _ ?_;unfold rF;refine xrr 11 12 (fun K hK0 => ?_) fun K hK0 => ?_
   ·go_simp
    obtain ⟨W2, e2, s2, n2⟩ := zoR W;rw [e2];have hS2 := i2 (za hS.1 s2) (hS.2.below s2 hS.2.lt);refine xk hK0 hS2 ?_;clear hK0 K
    try simp only [xp]
    exact hF _ _ _ _ (M_1_4_10_11 g10 W.heap.size p1 p2 k W2 _ (by kernel_rfl) (za hw s2) hS2 (zb ⟨a10.out.1.below s2 a10.out.1.lt, a10.out.2⟩) (zb ⟨n2, hw.size⟩) (zb (Nat.ne_of_lt a10.out.1.lt)) (zb (fun hh => ⟨(hH.out hh).1, ((hH.out hh).2.1.more (gs' := [g10, W.heap.size]) (fun g hg => by simp at hg ⊢; omega)).fr s2, ((hH.out hh).2.2.more (gs' := [g10, W.heap.size]) (fun g hg => by simp at hg ⊢; omega)).fr s2⟩)))
   ·go_simp
    obtain ⟨W2, e2, s2, n2⟩ := zoS W (kc zr).toArray 33;rw [zH] at e2;rw [e2];have hS2 := i2 (za hS.1 s2) (hS.2.below s2 hS.2.lt);refine xk hK0 hS2 ?_;clear hK0 K
    try simp only [xp]
    exact hF _ _ _ _ (M_1_4_10_12 g10 W.heap.size p1 p2 k W2 _ (by kernel_rfl) (za hw s2) hS2 (zb ⟨a10.out.1.below s2 a10.out.1.lt, a10.out.2⟩) (zb ⟨n2, hw.size⟩) (zb (Nat.ne_of_lt a10.out.1.lt)) (zb (fun hh => ⟨(hH.out hh).1, ((hH.out hh).2.1.more (gs' := [g10, W.heap.size]) (fun g hg => by simp at hg ⊢; omega)).fr s2, ((hH.out hh).2.2.more (gs' := [g10, W.heap.size]) (fun g hg => by simp at hg ⊢; omega)).fr s2⟩)))
  have M_1_4_11 : ∀ (g11 : Nat) (p1 : NV) (p2 : NV) (k : RK) (W : World) (ls : Array Bool), ls = #[true, true, true, true, true, true, true, true, true, true, false, true, false, false, false, false, false] → Fr X0 W → (Fr w W ∧ Arr W w.heap.size 27 v1.cells.toArray) → Hid (Arr W g11 27 zh.cells.toArray ∧ X0.heap.size ≤ g11) → Hid (zap r = true → k = zaU r ∧ NP W (okL (okX ok w.heap.size 4) [g11]) p1 (hl1 r) ∧ NP W (okL (okX ok w.heap.size 4) [g11]) p2 (hl2 r)) → F 6 ls (rF v v1 a b w undef (.pointer (some ⟨g11, 0, none⟩)) undef (.tuple #[.agg p1.cells.toArray, .agg p2.cells.toArray, kv k, .bool (zap r)]) (.agg xs) (.func (.func fid) #[] #[]) (.tuple #[.agg p1.cells.toArray, .agg p2.cells.toArray, kv k, .bool (zap r)]) (.agg p1.cells.toArray) (.agg p2.cells.toArray) (kv k) (.bool (zap r))) W := by
   intro g11 p1 p2 k W ls hls hw hS a11 hH;subst hls;refine hB _ _ _ _ ?_;unfold rF;refine xrr 10 12 (fun K hK0 => ?_) fun K hK0 => ?_
   ·go_simp
    obtain ⟨W2, e2, s2, n2⟩ := zoR W;rw [e2];have hS2 := i2 (za hS.1 s2) (hS.2.below s2 hS.2.lt);refine xk hK0 hS2 ?_;clear hK0 K
    try simp only [xp]
    exact hF _ _ _ _ (M_1_4_10_11 W.heap.size g11 p1 p2 k W2 _ (by kernel_rfl) (za hw s2) hS2 (zb ⟨n2, hw.size⟩) (zb ⟨a11.out.1.below s2 a11.out.1.lt, a11.out.2⟩) (zb (Nat.ne_of_gt a11.out.1.lt)) (zb (fun hh => ⟨(hH.out hh).1, ((hH.out hh).2.1.more (gs' := [W.heap.size, g11]) (fun g hg => by simp at hg ⊢; omega)).fr s2, ((hH.out hh).2.2.more (gs' := [W.heap.size, g11]) (fun g hg => by simp at hg ⊢; omega)).fr s2⟩)))
   ·go_simp
    obtain ⟨W2, e2, s2, n2⟩ := zoS W (kc zr).toArray 33;rw [zH] at e2;rw [e2];have hS2 := i2 (za hS.1 s2) (hS.2.below s2 hS.2.lt);refine xk hK0 hS2 ?_;clear hK0 K
    try simp only [xp]
    exact hF _ _ _ _ (M_1_4_11_12 g11 W.heap.size p1 p2 k W2 _ (by kernel_rfl) (za hw s2) hS2 (zb ⟨a11.out.1.below s2 a11.out.1.lt, a11.out.2⟩) (zb ⟨n2, hw.size⟩) (zb (Nat.ne_of_lt a11.out.1.lt)) (zb (fun hh => ⟨(hH.out hh).1, ((hH.out hh).2.1.more (gs' := [g11, W.heap.size]) (fun g hg => by simp at hg ⊢; omega)).fr s2, ((hH.out hh).2.2.more (gs' := [g11, W.heap.size]) (fun g hg => by simp at hg ⊢; omega)).fr s2⟩)))
  have M_1_4_12 : ∀ (g12 : Nat) (p1 : NV) (p2 : NV) (k : RK) (W : World) (ls : Array Bool), ls = #[true, true, true, true, true, true, true, true, true, true, false, false, true, false, false, false, false] → Fr X0 W → (Fr w W ∧ Arr W w.heap.size 27 v1.cells.toArray) → Hid (Arr W g12 33 (kc zr).toArray ∧ X0.heap.size ≤ g12) → Hid (zap r = true → k = zaU r ∧ NP W (okL (okX ok w.heap.size 4) [g12]) p1 (hl1 r) ∧ NP W (okL (okX ok w.heap.size 4) [g12]) p2 (hl2 r)) → F 6 ls (rF v v1 a b w undef undef (.pointer (some ⟨g12, 0, none⟩)) (.tuple #[.agg p1.cells.toArray, .agg p2.cells.toArray, kv k, .bool (zap r)]) (.agg xs) (.func (.func fid) #[] #[]) (.tuple #[.agg p1.cells.toArray, .agg p2.cells.toArray, kv k, .bool (zap r)]) (.agg p1.cells.toArray) (.agg p2.cells.toArray) (kv k) (.bool (zap r))) W := by
   intro g12 p1 p2 k W ls hls hw hS a12 hH;subst hls;refine hB _ _ _ _ ?_;unfold rF;refine xrr 10 11 (fun K hK0 => ?_) fun K hK0 => ?_
   ·go_simp
    obtain ⟨W2, e2, s2, n2⟩ := zoR W;rw [e2];have hS2 := i2 (za hS.1 s2) (hS.2.below s2 hS.2.lt);refine xk hK0 hS2 ?_;clear hK0 K
    try simp only [xp]
    exact hF _ _ _ _ (M_1_4_10_12 W.heap.size g12 p1 p2 k W2 _ (by kernel_rfl) (za hw s2) hS2 (zb ⟨n2, hw.size⟩) (zb ⟨a12.out.1.below s2 a12.out.1.lt, a12.out.2⟩) (zb (Nat.ne_of_gt a12.out.1.lt)) (zb (fun hh => ⟨(hH.out hh).1, ((hH.out hh).2.1.more (gs' := [W.heap.size, g12]) (fun g hg => by simp at hg ⊢; omega)).fr s2, ((hH.out hh).2.2.more (gs' := [W.heap.size, g12]) (fun g hg => by simp at hg ⊢; omega)).fr s2⟩)))
   ·go_simp
    obtain ⟨W2, e2, s2, n2⟩ := zoR W;rw [e2];have hS2 := i2 (za hS.1 s2) (hS.2.below s2 hS.2.lt);refine xk hK0 hS2 ?_;clear hK0 K
    try simp only [xp]
    exact hF _ _ _ _ (M_1_4_11_12 W.heap.size g12 p1 p2 k W2 _ (by kernel_rfl) (za hw s2) hS2 (zb ⟨n2, hw.size⟩) (zb ⟨a12.out.1.below s2 a12.out.1.lt, a12.out.2⟩) (zb (Nat.ne_of_gt a12.out.1.lt)) (zb (fun hh => ⟨(hH.out hh).1, ((hH.out hh).2.1.more (gs' := [W.heap.size, g12]) (fun g hg => by simp at hg ⊢; omega)).fr s2, ((hH.out hh).2.2.more (gs' := [W.heap.size, g12]) (fun g hg => by simp at hg ⊢; omega)).fr s2⟩)))
  have M_1_10_11 : ∀ (g10 : Nat) (g11 : Nat) (W : World) (ls : Array Bool), ls = #[true, true, true, true, false, false, false, false, false, false, true, true, false, false, false, false, false] → Fr X0 W → (Fr w W ∧ Arr W w.heap.size 27 v1.cells.toArray) → Hid (Arr W g10 27 zh.cells.toArray ∧ X0.heap.size ≤ g10) → Hid (Arr W g11 27 zh.cells.toArray ∧ X0.heap.size ≤ g11) → Hid (g10 ≠ g11) → F 11 ls (rF v v1 a b w (.pointer (some ⟨g10, 0, none⟩)) (.pointer (some ⟨g11, 0, none⟩)) undef undef (.agg xs) (.func (.func fid) #[] #[]) undef undef undef undef undef) W := by
   intro g10 g11 W ls hls hw hS a10 a11 d1011;subst hls;refine hB _ _ _ _ ?_;unfold rF;refine xrr 4 12 (fun K hK0 => ?_) fun K hK0 => ?_
   ·go_simp
    refine (cH W _ (zbU (fun b hb => huX.out b (Nat.le_trans hw.size hb)) (fun g hg => by
     simp at hg
     rcases hg with rfl | rfl
     ·exact a10.out.1.lt
     ·exact a11.out.1.lt)) (((hV.out.more (gs' := [g10, g11]) (fun g hg => by
      simp at hg
      rcases hg with rfl | rfl
      ·exact .inr a10.out.2
      ·exact .inr a11.out.2)).fr hw))).mono ?_
    rintro e W2 ⟨p1, p2, k, rfl, hH, s2⟩;go_simp;have hS2 := i2 (za hS.1 s2) (hS.2.below s2 hS.2.lt);refine xk hK0 hS2 ?_;clear hK0 K
    try simp only [xp]
    refine xto 5 ?_;refine xto 6 ?_;refine xto 7 ?_;refine xto 8 ?_;refine xto 9 ?_;exact hF _ _ _ _ (M_1_4_10_11 g10 g11 p1 p2 k W2 _ (by kernel_rfl) (za hw s2) hS2 (zb ⟨a10.out.1.below s2 a10.out.1.lt, a10.out.2⟩) (zb ⟨a11.out.1.below s2 a11.out.1.lt, a11.out.2⟩) d1011 hH)
   ·go_simp
    obtain ⟨W2, e2, s2, n2⟩ := zoS W (kc zr).toArray 33;rw [zH] at e2;rw [e2];have hS2 := i2 (za hS.1 s2) (hS.2.below s2 hS.2.lt);refine xk hK0 hS2 ?_;clear hK0 K
    try simp only [xp]
    exact hF _ _ _ _ (M_1_10_11_12 g10 g11 W.heap.size W2 _ (by kernel_rfl) (za hw s2) hS2 (zb ⟨a10.out.1.below s2 a10.out.1.lt, a10.out.2⟩) (zb ⟨a11.out.1.below s2 a11.out.1.lt, a11.out.2⟩) (zb ⟨n2, hw.size⟩) d1011 (zb (Nat.ne_of_lt a10.out.1.lt)) (zb (Nat.ne_of_lt a11.out.1.lt)))
  have M_1_10_12 : ∀ (g10 : Nat) (g12 : Nat) (W : World) (ls : Array Bool), ls = #[true, true, true, true, false, false, false, false, false, false, true, false, true, false, false, false, false] → Fr X0 W → (Fr w W ∧ Arr W w.heap.size 27 v1.cells.toArray) → Hid (Arr W g10 27 zh.cells.toArray ∧ X0.heap.size ≤ g10) → Hid (Arr W g12 33 (kc zr).toArray ∧ X0.heap.size ≤ g12) → Hid (g10 ≠ g12) → F 11 ls (rF v v1 a b w (.pointer (some ⟨g10, 0, none⟩)) undef (.pointer (some ⟨g12, 0, none⟩)) undef (.agg xs) (.func (.func fid) #[] #[]) undef undef undef undef undef) W := by
   intro g10 g12 W ls hls hw hS a10 a12 d1012;subst hls;refine hB _ _ _ _ ?_;unfold rF;refine xrr 4 11 (fun K hK0 => ?_) fun K hK0 => ?_
   ·go_simp
    refine (cH W _ (zbU (fun b hb => huX.out b (Nat.le_trans hw.size hb)) (fun g hg => by
     simp at hg
     rcases hg with rfl | rfl
     ·exact a10.out.1.lt
     ·exact a12.out.1.lt)) (((hV.out.more (gs' := [g10, g12]) (fun g hg => by
      simp at hg
      rcases hg with rfl | rfl
      ·exact .inr a10.out.2
      ·exact .inr a12.out.2)).fr hw))).mono ?_
    rintro e W2 ⟨p1, p2, k, rfl, hH, s2⟩;go_simp;have hS2 := i2 (za hS.1 s2) (hS.2.below s2 hS.2.lt);refine xk hK0 hS2 ?_;clear hK0 K
    try simp only [xp]
    refine xto 5 ?_;refine xto 6 ?_;refine xto 7 ?_;refine xto 8 ?_;refine xto 9 ?_;exact hF _ _ _ _ (M_1_4_10_12 g10 g12 p1 p2 k W2 _ (by kernel_rfl) (za hw s2) hS2 (zb ⟨a10.out.1.below s2 a10.out.1.lt, a10.out.2⟩) (zb ⟨a12.out.1.below s2 a12.out.1.lt, a12.out.2⟩) d1012 hH)
   ·go_simp
    obtain ⟨W2, e2, s2, n2⟩ := zoR W;rw [e2];have hS2 := i2 (za hS.1 s2) (hS.2.below s2 hS.2.lt);refine xk hK0 hS2 ?_;clear hK0 K
    try simp only [xp]
    exact hF _ _ _ _ (M_1_10_11_12 g10 W.heap.size g12 W2 _ (by kernel_rfl) (za hw s2) hS2 (zb ⟨a10.out.1.below s2 a10.out.1.lt, a10.out.2⟩) (zb ⟨n2, hw.size⟩) (zb ⟨a12.out.1.below s2 a12.out.1.lt, a12.out.2⟩) (zb (Nat.ne_of_lt a10.out.1.lt)) d1012 (zb (Nat.ne_of_gt a12.out.1.lt)))
  have M_1_11_12 : ∀ (g11 : Nat) (g12 : Nat) (W : World) (ls : Array Bool), ls = #[true, true, true, true, false, false, false, false, false, false, false, true, true, false, false, false, false] → Fr X0 W → (Fr w W ∧ Arr W w.heap.size 27 v1.cells.toArray) → Hid (Arr W g11 27 zh.cells.toArray ∧ X0.heap.size ≤ g11) → Hid (Arr W g12 33 (kc zr).toArray ∧ X0.heap.size ≤ g12) → Hid (g11 ≠ g12) → F 11 ls (rF v v1 a b w undef (.pointer (some ⟨g11, 0, none⟩)) (.pointer (some ⟨g12, 0, none⟩)) undef (.agg xs) (.func (.func fid) #[] #[]) undef undef undef undef undef) W := by
   intro g11 g12 W ls hls hw hS a11 a12 d1112;subst hls;refine hB _ _ _ _ ?_;unfold rF;refine xrr 4 10 (fun K hK0 => ?_) fun K hK0 => ?_
   ·go_simp
    refine (cH W _ (zbU (fun b hb => huX.out b (Nat.le_trans hw.size hb)) (fun g hg => by
     simp at hg
     rcases hg with rfl | rfl
     ·exact a11.out.1.lt
     ·exact a12.out.1.lt)) (((hV.out.more (gs' := [g11, g12]) (fun g hg => by
      simp at hg
      rcases hg with rfl | rfl
      ·exact .inr a11.out.2
      ·exact .inr a12.out.2)).fr hw))).mono ?_
    rintro e W2 ⟨p1, p2, k, rfl, hH, s2⟩;go_simp;have hS2 := i2 (za hS.1 s2) (hS.2.below s2 hS.2.lt);refine xk hK0 hS2 ?_;clear hK0 K
    try simp only [xp]
    refine xto 5 ?_;refine xto 6 ?_;refine xto 7 ?_;refine xto 8 ?_;refine xto 9 ?_;exact hF _ _ _ _ (M_1_4_11_12 g11 g12 p1 p2 k W2 _ (by kernel_rfl) (za hw s2) hS2 (zb ⟨a11.out.1.below s2 a11.out.1.lt, a11.out.2⟩) (zb ⟨a12.out.1.below s2 a12.out.1.lt, a12.out.2⟩) d1112 hH)
   ·go_simp
    obtain ⟨W2, e2, s2, n2⟩ := zoR W;rw [e2];have hS2 := i2 (za hS.1 s2) (hS.2.below s2 hS.2.lt);refine xk hK0 hS2 ?_;clear hK0 K
    try simp only [xp]
    exact hF _ _ _ _ (M_1_10_11_12 W.heap.size g11 g12 W2 _ (by kernel_rfl) (za hw s2) hS2 (zb ⟨n2, hw.size⟩) (zb ⟨a11.out.1.below s2 a11.out.1.lt, a11.out.2⟩) (zb ⟨a12.out.1.below s2 a12.out.1.lt, a12.out.2⟩) (zb (Nat.ne_of_gt a11.out.1.lt)) (zb (Nat.ne_of_gt a12.out.1.lt)) d1112)
  have M_10_11_12 : ∀ (g10 : Nat) (g11 : Nat) (g12 : Nat) (W : World) (ls : Array Bool), ls = #[true, false, false, true, false, false, false, false, false, false, true, true, true, false, false, false, false] → Fr X0 W → (Fr w W ∧ Arr W w.heap.size 27 v1.cells.toArray) → Hid (Arr W g10 27 zh.cells.toArray ∧ X0.heap.size ≤ g10) → Hid (Arr W g11 27 zh.cells.toArray ∧ X0.heap.size ≤ g11) → Hid (Arr W g12 33 (kc zr).toArray ∧ X0.heap.size ≤ g12) → Hid (g10 ≠ g11) → Hid (g10 ≠ g12) → Hid (g11 ≠ g12) → F 12 ls (rF v v1 a b w (.pointer (some ⟨g10, 0, none⟩)) (.pointer (some ⟨g11, 0, none⟩)) (.pointer (some ⟨g12, 0, none⟩)) undef undef undef undef undef undef undef undef) W := by
   intro g10 g11 g12 W ls hls hw hS a10 a11 a12 d1011 d1012 d1112;subst hls;refine hB _ _ _ _ ?_;unfold rF;refine xr 1 fun K hK0 => ?_
   ·go_simp
    refine (cA W).mono ?_;rintro e W2 ⟨rfl, s2⟩;go_simp;have hS2 := i2 (za hS.1 s2) (hS.2.below s2 hS.2.lt);refine xk hK0 hS2 ?_;clear hK0 K
    try simp only [xp]
    refine xto 2 ?_;exact hF _ _ _ _ (M_1_10_11_12 g10 g11 g12 W2 _ (by kernel_rfl) (za hw s2) hS2 (zb ⟨a10.out.1.below s2 a10.out.1.lt, a10.out.2⟩) (zb ⟨a11.out.1.below s2 a11.out.1.lt, a11.out.2⟩) (zb ⟨a12.out.1.below s2 a12.out.1.lt, a12.out.2⟩) d1011 d1012 d1112)
  have M_1_4 : ∀ (p1 : NV) (p2 : NV) (k : RK) (W : World) (ls : Array Bool), ls = #[true, true, true, true, true, true, true, true, true, true, false, false, false, false, false, false, false] → Fr X0 W → (Fr w W ∧ Arr W w.heap.size 27 v1.cells.toArray) → Hid (zap r = true → k = zaU r ∧ NP W (okL (okX ok w.heap.size 4) []) p1 (hl1 r) ∧ NP W (okL (okX ok w.heap.size 4) []) p2 (hl2 r)) → F 7 ls (rF v v1 a b w undef undef undef (.tuple #[.agg p1.cells.toArray, .agg p2.cells.toArray, kv k, .bool (zap r)]) (.agg xs) (.func (.func fid) #[] #[]) (.tuple #[.agg p1.cells.toArray, .agg p2.cells.toArray, kv k, .bool (zap r)]) (.agg p1.cells.toArray) (.agg p2.cells.toArray) (kv k) (.bool (zap r))) W := by
   intro p1 p2 k W ls hls hw hS hH;subst hls;refine hB _ _ _ _ ?_;unfold rF;refine wpAnyH_ready (rs := [10, 11, 12]) (by kernel_rfl) (by simp) ?_;refine AllReadyH.cons rfl (fun K hK0 => ?_) (AllReadyH.cons rfl (fun K hK0 => ?_) (AllReadyH.cons rfl (fun K hK0 => ?_) (AllReadyH.nil)))
   ·go_simp
    obtain ⟨W2, e2, s2, n2⟩ := zoR W;rw [e2];have hS2 := i2 (za hS.1 s2) (hS.2.below s2 hS.2.lt);refine xk hK0 hS2 ?_;clear hK0 K
    try simp only [xp]
    exact hF _ _ _ _ (M_1_4_10 W.heap.size p1 p2 k W2 _ (by kernel_rfl) (za hw s2) hS2 (zb ⟨n2, hw.size⟩) (zb (fun hh => ⟨(hH.out hh).1, ((hH.out hh).2.1.more (gs' := [W.heap.size]) (fun g hg => by simp at hg ⊢; omega)).fr s2, ((hH.out hh).2.2.more (gs' := [W.heap.size]) (fun g hg => by simp at hg ⊢; omega)).fr s2⟩)))
   ·go_simp
    obtain ⟨W2, e2, s2, n2⟩ := zoR W;rw [e2];have hS2 := i2 (za hS.1 s2) (hS.2.below s2 hS.2.lt);refine xk hK0 hS2 ?_;clear hK0 K
    try simp only [xp]
    exact hF _ _ _ _ (M_1_4_11 W.heap.size p1 p2 k W2 _ (by kernel_rfl) (za hw s2) hS2 (zb ⟨n2, hw.size⟩) (zb (fun hh => ⟨(hH.out hh).1, ((hH.out hh).2.1.more (gs' := [W.heap.size]) (fun g hg => by simp at hg ⊢; omega)).fr s2, ((hH.out hh).2.2.more (gs' := [W.heap.size]) (fun g hg => by simp at hg ⊢; omega)).fr s2⟩)))
   ·go_simp
    obtain ⟨W2, e2, s2, n2⟩ := zoS W (kc zr).toArray 33;rw [zH] at e2;rw [e2];have hS2 := i2 (za hS.1 s2) (hS.2.below s2 hS.2.lt);refine xk hK0 hS2 ?_;clear hK0 K
    try simp only [xp]
    exact hF _ _ _ _ (M_1_4_12 W.heap.size p1 p2 k W2 _ (by kernel_rfl) (za hw s2) hS2 (zb ⟨n2, hw.size⟩) (zb (fun hh => ⟨(hH.out hh).1, ((hH.out hh).2.1.more (gs' := [W.heap.size]) (fun g hg => by simp at hg ⊢; omega)).fr s2, ((hH.out hh).2.2.more (gs' := [W.heap.size]) (fun g hg => by simp at hg ⊢; omega)).fr s2⟩)))
  have M_1_10 : ∀ (g10 : Nat) (W : World) (ls : Array Bool), ls = #[true, true, true, true, false, false, false, false, false, false, true, false, false, false, false, false, false] → Fr X0 W → (Fr w W ∧ Arr W w.heap.size 27 v1.cells.toArray) → Hid (Arr W g10 27 zh.cells.toArray ∧ X0.heap.size ≤ g10) → F 12 ls (rF v v1 a b w (.pointer (some ⟨g10, 0, none⟩)) undef undef undef (.agg xs) (.func (.func fid) #[] #[]) undef undef undef undef undef) W := by
   intro g10 W ls hls hw hS a10;subst hls;refine hB _ _ _ _ ?_;unfold rF;refine wpAnyH_ready (rs := [4, 11, 12]) (by kernel_rfl) (by simp) ?_;refine AllReadyH.cons rfl (fun K hK0 => ?_) (AllReadyH.cons rfl (fun K hK0 => ?_) (AllReadyH.cons rfl (fun K hK0 => ?_) (AllReadyH.nil)))
   ·go_simp
    refine (cH W _ (zbU (fun b hb => huX.out b (Nat.le_trans hw.size hb)) (fun g hg => by simp at hg; subst hg; exact a10.out.1.lt)) (((hV.out.more (gs' := [g10]) (fun g hg => by simp at hg; subst hg; exact .inr a10.out.2)).fr hw))).mono ?_;rintro e W2 ⟨p1, p2, k, rfl, hH, s2⟩;go_simp;have hS2 := i2 (za hS.1 s2) (hS.2.below s2 hS.2.lt);refine xk hK0 hS2 ?_;clear hK0 K
    try simp only [xp]
    refine xto 5 ?_;refine xto 6 ?_;refine xto 7 ?_;refine xto 8 ?_;refine xto 9 ?_;exact hF _ _ _ _ (M_1_4_10 g10 p1 p2 k W2 _ (by kernel_rfl) (za hw s2) hS2 (zb ⟨a10.out.1.below s2 a10.out.1.lt, a10.out.2⟩) hH)
   ·go_simp
    obtain ⟨W2, e2, s2, n2⟩ := zoR W;rw [e2];have hS2 := i2 (za hS.1 s2) (hS.2.below s2 hS.2.lt);refine xk hK0 hS2 ?_;clear hK0 K
    try simp only [xp]
    exact hF _ _ _ _ (M_1_10_11 g10 W.heap.size W2 _ (by kernel_rfl) (za hw s2) hS2 (zb ⟨a10.out.1.below s2 a10.out.1.lt, a10.out.2⟩) (zb ⟨n2, hw.size⟩) (zb (Nat.ne_of_lt a10.out.1.lt)))
   ·go_simp
    obtain ⟨W2, e2, s2, n2⟩ := zoS W (kc zr).toArray 33;rw [zH] at e2;rw [e2];have hS2 := i2 (za hS.1 s2) (hS.2.below s2 hS.2.lt);refine xk hK0 hS2 ?_;clear hK0 K
    try simp only [xp]
    exact hF _ _ _ _ (M_1_10_12 g10 W.heap.size W2 _ (by kernel_rfl) (za hw s2) hS2 (zb ⟨a10.out.1.below s2 a10.out.1.lt, a10.out.2⟩) (zb ⟨n2, hw.size⟩) (zb (Nat.ne_of_lt a10.out.1.lt)))
  have M_1_11 : ∀ (g11 : Nat) (W : World) (ls : Array Bool), ls = #[true, true, true, true, false, false, false, false, false, false, false, true, false, false, false, false, false] → Fr X0 W → (Fr w W ∧ Arr W w.heap.size 27 v1.cells.toArray) → Hid (Arr W g11 27 zh.cells.toArray ∧ X0.heap.size ≤ g11) → F 12 ls (rF v v1 a b w undef (.pointer (some ⟨g11, 0, none⟩)) undef undef (.agg xs) (.func (.func fid) #[] #[]) undef undef undef undef undef) W := by
   intro g11 W ls hls hw hS a11;subst hls;refine hB _ _ _ _ ?_;unfold rF;refine wpAnyH_ready (rs := [4, 10, 12]) (by kernel_rfl) (by simp) ?_;refine AllReadyH.cons rfl (fun K hK0 => ?_) (AllReadyH.cons rfl (fun K hK0 => ?_) (AllReadyH.cons rfl (fun K hK0 => ?_) (AllReadyH.nil)))
   ·go_simp
    refine (cH W _ (zbU (fun b hb => huX.out b (Nat.le_trans hw.size hb)) (fun g hg => by simp at hg; subst hg; exact a11.out.1.lt)) (((hV.out.more (gs' := [g11]) (fun g hg => by simp at hg; subst hg; exact .inr a11.out.2)).fr hw))).mono ?_;rintro e W2 ⟨p1, p2, k, rfl, hH, s2⟩;go_simp;have hS2 := i2 (za hS.1 s2) (hS.2.below s2 hS.2.lt);refine xk hK0 hS2 ?_;clear hK0 K
    try simp only [xp]
    refine xto 5 ?_;refine xto 6 ?_;refine xto 7 ?_;refine xto 8 ?_;refine xto 9 ?_;exact hF _ _ _ _ (M_1_4_11 g11 p1 p2 k W2 _ (by kernel_rfl) (za hw s2) hS2 (zb ⟨a11.out.1.below s2 a11.out.1.lt, a11.out.2⟩) hH)
   ·go_simp
    obtain ⟨W2, e2, s2, n2⟩ := zoR W;rw [e2];have hS2 := i2 (za hS.1 s2) (hS.2.below s2 hS.2.lt);refine xk hK0 hS2 ?_;clear hK0 K
    try simp only [xp]
    exact hF _ _ _ _ (M_1_10_11 W.heap.size g11 W2 _ (by kernel_rfl) (za hw s2) hS2 (zb ⟨n2, hw.size⟩) (zb ⟨a11.out.1.below s2 a11.out.1.lt, a11.out.2⟩) (zb (Nat.ne_of_gt a11.out.1.lt)))
   ·go_simp
    obtain ⟨W2, e2, s2, n2⟩ := zoS W (kc zr).toArray 33;rw [zH] at e2;rw [e2];have hS2 := i2 (za hS.1 s2) (hS.2.below s2 hS.2.lt);refine xk hK0 hS2 ?_;clear hK0 K
    try simp only [xp]
    exact hF _ _ _ _ (M_1_11_12 g11 W.heap.size W2 _ (by kernel_rfl) (za hw s2) hS2 (zb ⟨a11.out.1.below s2 a11.out.1.lt, a11.out.2⟩) (zb ⟨n2, hw.size⟩) (zb (Nat.ne_of_lt a11.out.1.lt)))
  have M_1_12 : ∀ (g12 : Nat) (W : World) (ls : Array Bool), ls = #[true, true, true, true, false, false, false, false, false, false, false, false, true, false, false, false, false] → Fr X0 W → (Fr w W ∧ Arr W w.heap.size 27 v1.cells.toArray) → Hid (Arr W g12 33 (kc zr).toArray ∧ X0.heap.size ≤ g12) → F 12 ls (rF v v1 a b w undef undef (.pointer (some ⟨g12, 0, none⟩)) undef (.agg xs) (.func (.func fid) #[] #[]) undef undef undef undef undef) W := by
   intro g12 W ls hls hw hS a12;subst hls;refine hB _ _ _ _ ?_;unfold rF;refine wpAnyH_ready (rs := [4, 10, 11]) (by kernel_rfl) (by simp) ?_;refine AllReadyH.cons rfl (fun K hK0 => ?_) (AllReadyH.cons rfl (fun K hK0 => ?_) (AllReadyH.cons rfl (fun K hK0 => ?_) (AllReadyH.nil)))
   ·go_simp
    refine (cH W _ (zbU (fun b hb => huX.out b (Nat.le_trans hw.size hb)) (fun g hg => by simp at hg; subst hg; exact a12.out.1.lt)) (((hV.out.more (gs' := [g12]) (fun g hg => by simp at hg; subst hg; exact .inr a12.out.2)).fr hw))).mono ?_;rintro e W2 ⟨p1, p2, k, rfl, hH, s2⟩;go_simp;have hS2 := i2 (za hS.1 s2) (hS.2.below s2 hS.2.lt);refine xk hK0 hS2 ?_;clear hK0 K
    try simp only [xp]
    refine xto 5 ?_;refine xto 6 ?_;refine xto 7 ?_;refine xto 8 ?_;refine xto 9 ?_;exact hF _ _ _ _ (M_1_4_12 g12 p1 p2 k W2 _ (by kernel_rfl) (za hw s2) hS2 (zb ⟨a12.out.1.below s2 a12.out.1.lt, a12.out.2⟩) hH)
   ·go_simp
    obtain ⟨W2, e2, s2, n2⟩ := zoR W;rw [e2];have hS2 := i2 (za hS.1 s2) (hS.2.below s2 hS.2.lt);refine xk hK0 hS2 ?_;clear hK0 K
    try simp only [xp]
    exact hF _ _ _ _ (M_1_10_12 W.heap.size g12 W2 _ (by kernel_rfl) (za hw s2) hS2 (zb ⟨n2, hw.size⟩) (zb ⟨a12.out.1.below s2 a12.out.1.lt, a12.out.2⟩) (zb (Nat.ne_of_gt a12.out.1.lt)))
   ·go_simp
    obtain ⟨W2, e2, s2, n2⟩ := zoR W;rw [e2];have hS2 := i2 (za hS.1 s2) (hS.2.below s2 hS.2.lt);refine xk hK0 hS2 ?_;clear hK0 K
    try simp only [xp]
    exact hF _ _ _ _ (M_1_11_12 W.heap.size g12 W2 _ (by kernel_rfl) (za hw s2) hS2 (zb ⟨n2, hw.size⟩) (zb ⟨a12.out.1.below s2 a12.out.1.lt, a12.out.2⟩) (zb (Nat.ne_of_gt a12.out.1.lt)))
  have M_10_11 : ∀ (g10 : Nat) (g11 : Nat) (W : World) (ls : Array Bool), ls = #[true, false, false, true, false, false, false, false, false, false, true, true, false, false, false, false, false] → Fr X0 W → (Fr w W ∧ Arr W w.heap.size 27 v1.cells.toArray) → Hid (Arr W g10 27 zh.cells.toArray ∧ X0.heap.size ≤ g10) → Hid (Arr W g11 27 zh.cells.toArray ∧ X0.heap.size ≤ g11) → Hid (g10 ≠ g11) → F 13 ls (rF v v1 a b w (.pointer (some ⟨g10, 0, none⟩)) (.pointer (some ⟨g11, 0, none⟩)) undef undef undef undef undef undef undef undef undef) W := by
   intro g10 g11 W ls hls hw hS a10 a11 d1011;subst hls;refine hB _ _ _ _ ?_;unfold rF;refine xrr 1 12 (fun K hK0 => ?_) fun K hK0 => ?_
   ·go_simp
    refine (cA W).mono ?_;rintro e W2 ⟨rfl, s2⟩;go_simp;have hS2 := i2 (za hS.1 s2) (hS.2.below s2 hS.2.lt);refine xk hK0 hS2 ?_;clear hK0 K
    try simp only [xp]
    refine xto 2 ?_;exact hF _ _ _ _ (M_1_10_11 g10 g11 W2 _ (by kernel_rfl) (za hw s2) hS2 (zb ⟨a10.out.1.below s2 a10.out.1.lt, a10.out.2⟩) (zb ⟨a11.out.1.below s2 a11.out.1.lt, a11.out.2⟩) d1011)
   ·go_simp
    obtain ⟨W2, e2, s2, n2⟩ := zoS W (kc zr).toArray 33;rw [zH] at e2;rw [e2];have hS2 := i2 (za hS.1 s2) (hS.2.below s2 hS.2.lt);refine xk hK0 hS2 ?_;clear hK0 K
    try simp only [xp]
    exact hF _ _ _ _ (M_10_11_12 g10 g11 W.heap.size W2 _ (by kernel_rfl) (za hw s2) hS2 (zb ⟨a10.out.1.below s2 a10.out.1.lt, a10.out.2⟩) (zb ⟨a11.out.1.below s2 a11.out.1.lt, a11.out.2⟩) (zb ⟨n2, hw.size⟩) d1011 (zb (Nat.ne_of_lt a10.out.1.lt)) (zb (Nat.ne_of_lt a11.out.1.lt)))
  have M_10_12 : ∀ (g10 : Nat) (g12 : Nat) (W : World) (ls : Array Bool), ls = #[true, false, false, true, false, false, false, false, false, false, true, false, true, false, false, false, false] → Fr X0 W → (Fr w W ∧ Arr W w.heap.size 27 v1.cells.toArray) → Hid (Arr W g10 27 zh.cells.toArray ∧ X0.heap.size ≤ g10) → Hid (Arr W g12 33 (kc zr).toArray ∧ X0.heap.size ≤ g12) → Hid (g10 ≠ g12) → F 13 ls (rF v v1 a b w (.pointer (some ⟨g10, 0, none⟩)) undef (.pointer (some ⟨g12, 0, none⟩)) undef undef undef undef undef undef undef undef) W := by
   intro g10 g12 W ls hls hw hS a10 a12 d1012;subst hls;refine hB _ _ _ _ ?_;unfold rF;refine xrr 1 11 (fun K hK0 => ?_) fun K hK0 => ?_
   ·go_simp
    refine (cA W).mono ?_;rintro e W2 ⟨rfl, s2⟩;go_simp;have hS2 := i2 (za hS.1 s2) (hS.2.below s2 hS.2.lt);refine xk hK0 hS2 ?_;clear hK0 K
    try simp only [xp]
    refine xto 2 ?_;exact hF _ _ _ _ (M_1_10_12 g10 g12 W2 _ (by kernel_rfl) (za hw s2) hS2 (zb ⟨a10.out.1.below s2 a10.out.1.lt, a10.out.2⟩) (zb ⟨a12.out.1.below s2 a12.out.1.lt, a12.out.2⟩) d1012)
   ·go_simp
    obtain ⟨W2, e2, s2, n2⟩ := zoR W;rw [e2];have hS2 := i2 (za hS.1 s2) (hS.2.below s2 hS.2.lt);refine xk hK0 hS2 ?_;clear hK0 K
    try simp only [xp]
    exact hF _ _ _ _ (M_10_11_12 g10 W.heap.size g12 W2 _ (by kernel_rfl) (za hw s2) hS2 (zb ⟨a10.out.1.below s2 a10.out.1.lt, a10.out.2⟩) (zb ⟨n2, hw.size⟩) (zb ⟨a12.out.1.below s2 a12.out.1.lt, a12.out.2⟩) (zb (Nat.ne_of_lt a10.out.1.lt)) d1012 (zb (Nat.ne_of_gt a12.out.1.lt)))
  have M_11_12 : ∀ (g11 : Nat) (g12 : Nat) (W : World) (ls : Array Bool), ls = #[true, false, false, true, false, false, false, false, false, false, false, true, true, false, false, false, false] → Fr X0 W → (Fr w W ∧ Arr W w.heap.size 27 v1.cells.toArray) → Hid (Arr W g11 27 zh.cells.toArray ∧ X0.heap.size ≤ g11) → Hid (Arr W g12 33 (kc zr).toArray ∧ X0.heap.size ≤ g12) → Hid (g11 ≠ g12) → F 13 ls (rF v v1 a b w undef (.pointer (some ⟨g11, 0, none⟩)) (.pointer (some ⟨g12, 0, none⟩)) undef undef undef undef undef undef undef undef) W := by
   intro g11 g12 W ls hls hw hS a11 a12 d1112;subst hls;refine hB _ _ _ _ ?_;unfold rF;refine xrr 1 10 (fun K hK0 => ?_) fun K hK0 => ?_
   ·go_simp
    refine (cA W).mono ?_;rintro e W2 ⟨rfl, s2⟩;go_simp;have hS2 := i2 (za hS.1 s2) (hS.2.below s2 hS.2.lt);refine xk hK0 hS2 ?_;clear hK0 K
    try simp only [xp]
    refine xto 2 ?_;exact hF _ _ _ _ (M_1_11_12 g11 g12 W2 _ (by kernel_rfl) (za hw s2) hS2 (zb ⟨a11.out.1.below s2 a11.out.1.lt, a11.out.2⟩) (zb ⟨a12.out.1.below s2 a12.out.1.lt, a12.out.2⟩) d1112)
   ·go_simp
    obtain ⟨W2, e2, s2, n2⟩ := zoR W;rw [e2];have hS2 := i2 (za hS.1 s2) (hS.2.below s2 hS.2.lt);refine xk hK0 hS2 ?_;clear hK0 K
    try simp only [xp]
    exact hF _ _ _ _ (M_10_11_12 W.heap.size g11 g12 W2 _ (by kernel_rfl) (za hw s2) hS2 (zb ⟨n2, hw.size⟩) (zb ⟨a11.out.1.below s2 a11.out.1.lt, a11.out.2⟩) (zb ⟨a12.out.1.below s2 a12.out.1.lt, a12.out.2⟩) (zb (Nat.ne_of_gt a11.out.1.lt)) (zb (Nat.ne_of_gt a12.out.1.lt)) d1112)
  have M_1 : ∀ (W : World) (ls : Array Bool), ls = #[true, true, true, true, false, false, false, false, false, false, false, false, false, false, false, false, false] → Fr X0 W → (Fr w W ∧ Arr W w.heap.size 27 v1.cells.toArray) → F 13 ls (rF v v1 a b w undef undef undef undef (.agg xs) (.func (.func fid) #[] #[]) undef undef undef undef undef) W := by
   intro  W ls hls hw hS ;subst hls;refine hB _ _ _ _ ?_;unfold rF;refine wpAnyH_ready (rs := [4, 10, 11, 12]) (by kernel_rfl) (by simp) ?_;refine AllReadyH.cons rfl (fun K hK0 => ?_) (AllReadyH.cons rfl (fun K hK0 => ?_) (AllReadyH.cons rfl (fun K hK0 => ?_) (AllReadyH.cons rfl (fun K hK0 => ?_) (AllReadyH.nil))))
   ·go_simp
    refine (cH W _ (zbU (fun b hb => huX.out b (Nat.le_trans hw.size hb)) (fun g hg => by simp at hg)) (hV.out.fr hw)).mono ?_;rintro e W2 ⟨p1, p2, k, rfl, hH, s2⟩;go_simp;have hS2 := i2 (za hS.1 s2) (hS.2.below s2 hS.2.lt);refine xk hK0 hS2 ?_;clear hK0 K
    try simp only [xp]
    refine xto 5 ?_;refine xto 6 ?_;refine xto 7 ?_;refine xto 8 ?_;refine xto 9 ?_;exact hF _ _ _ _ (M_1_4 p1 p2 k W2 _ (by kernel_rfl) (za hw s2) hS2 hH)
   ·go_simp
    obtain ⟨W2, e2, s2, n2⟩ := zoR W;rw [e2];have hS2 := i2 (za hS.1 s2) (hS.2.below s2 hS.2.lt);refine xk hK0 hS2 ?_;clear hK0 K
    try simp only [xp]
    exact hF _ _ _ _ (M_1_10 W.heap.size W2 _ (by kernel_rfl) (za hw s2) hS2 (zb ⟨n2, hw.size⟩))
   ·go_simp
    obtain ⟨W2, e2, s2, n2⟩ := zoR W;rw [e2];have hS2 := i2 (za hS.1 s2) (hS.2.below s2 hS.2.lt);refine xk hK0 hS2 ?_;clear hK0 K
    try simp only [xp]
    exact hF _ _ _ _ (M_1_11 W.heap.size W2 _ (by kernel_rfl) (za hw s2) hS2 (zb ⟨n2, hw.size⟩))
   ·go_simp
    obtain ⟨W2, e2, s2, n2⟩ := zoS W (kc zr).toArray 33;rw [zH] at e2;rw [e2];have hS2 := i2 (za hS.1 s2) (hS.2.below s2 hS.2.lt);refine xk hK0 hS2 ?_;clear hK0 K
    try simp only [xp]
    exact hF _ _ _ _ (M_1_12 W.heap.size W2 _ (by kernel_rfl) (za hw s2) hS2 (zb ⟨n2, hw.size⟩))
  have M_10 : ∀ (g10 : Nat) (W : World) (ls : Array Bool), ls = #[true, false, false, true, false, false, false, false, false, false, true, false, false, false, false, false, false] → Fr X0 W → (Fr w W ∧ Arr W w.heap.size 27 v1.cells.toArray) → Hid (Arr W g10 27 zh.cells.toArray ∧ X0.heap.size ≤ g10) → F 14 ls (rF v v1 a b w (.pointer (some ⟨g10, 0, none⟩)) undef undef undef undef undef undef undef undef undef undef) W := by
   intro g10 W ls hls hw hS a10;subst hls;refine hB _ _ _ _ ?_;unfold rF;refine wpAnyH_ready (rs := [1, 11, 12]) (by kernel_rfl) (by simp) ?_;refine AllReadyH.cons rfl (fun K hK0 => ?_) (AllReadyH.cons rfl (fun K hK0 => ?_) (AllReadyH.cons rfl (fun K hK0 => ?_) (AllReadyH.nil)))
   ·go_simp
    refine (cA W).mono ?_;rintro e W2 ⟨rfl, s2⟩;go_simp;have hS2 := i2 (za hS.1 s2) (hS.2.below s2 hS.2.lt);refine xk hK0 hS2 ?_;clear hK0 K
    try simp only [xp]
    refine xto 2 ?_;exact hF _ _ _ _ (M_1_10 g10 W2 _ (by kernel_rfl) (za hw s2) hS2 (zb ⟨a10.out.1.below s2 a10.out.1.lt, a10.out.2⟩))
   ·go_simp
    obtain ⟨W2, e2, s2, n2⟩ := zoR W;rw [e2];have hS2 := i2 (za hS.1 s2) (hS.2.below s2 hS.2.lt);refine xk hK0 hS2 ?_;clear hK0 K
    try simp only [xp]
    exact hF _ _ _ _ (M_10_11 g10 W.heap.size W2 _ (by kernel_rfl) (za hw s2) hS2 (zb ⟨a10.out.1.below s2 a10.out.1.lt, a10.out.2⟩) (zb ⟨n2, hw.size⟩) (zb (Nat.ne_of_lt a10.out.1.lt)))
   ·go_simp
    obtain ⟨W2, e2, s2, n2⟩ := zoS W (kc zr).toArray 33;rw [zH] at e2;rw [e2];have hS2 := i2 (za hS.1 s2) (hS.2.below s2 hS.2.lt);refine xk hK0 hS2 ?_;clear hK0 K
    try simp only [xp]
    exact hF _ _ _ _ (M_10_12 g10 W.heap.size W2 _ (by kernel_rfl) (za hw s2) hS2 (zb ⟨a10.out.1.below s2 a10.out.1.lt, a10.out.2⟩) (zb ⟨n2, hw.size⟩) (zb (Nat.ne_of_lt a10.out.1.lt)))
  have M_11 : ∀ (g11 : Nat) (W : World) (ls : Array Bool), ls = #[true, false, false, true, false, false, false, false, false, false, false, true, false, false, false, false, false] → Fr X0 W → (Fr w W ∧ Arr W w.heap.size 27 v1.cells.toArray) → Hid (Arr W g11 27 zh.cells.toArray ∧ X0.heap.size ≤ g11) → F 14 ls (rF v v1 a b w undef (.pointer (some ⟨g11, 0, none⟩)) undef undef undef undef undef undef undef undef undef) W := by
   intro g11 W ls hls hw hS a11;subst hls;refine hB _ _ _ _ ?_;unfold rF;refine wpAnyH_ready (rs := [1, 10, 12]) (by kernel_rfl) (by simp) ?_;refine AllReadyH.cons rfl (fun K hK0 => ?_) (AllReadyH.cons rfl (fun K hK0 => ?_) (AllReadyH.cons rfl (fun K hK0 => ?_) (AllReadyH.nil)))
   ·go_simp
    refine (cA W).mono ?_;rintro e W2 ⟨rfl, s2⟩;go_simp;have hS2 := i2 (za hS.1 s2) (hS.2.below s2 hS.2.lt);refine xk hK0 hS2 ?_;clear hK0 K
    try simp only [xp]
    refine xto 2 ?_;exact hF _ _ _ _ (M_1_11 g11 W2 _ (by kernel_rfl) (za hw s2) hS2 (zb ⟨a11.out.1.below s2 a11.out.1.lt, a11.out.2⟩))
   ·go_simp
    obtain ⟨W2, e2, s2, n2⟩ := zoR W;rw [e2];have hS2 := i2 (za hS.1 s2) (hS.2.below s2 hS.2.lt);refine xk hK0 hS2 ?_;clear hK0 K
    try simp only [xp]
    exact hF _ _ _ _ (M_10_11 W.heap.size g11 W2 _ (by kernel_rfl) (za hw s2) hS2 (zb ⟨n2, hw.size⟩) (zb ⟨a11.out.1.below s2 a11.out.1.lt, a11.out.2⟩) (zb (Nat.ne_of_gt a11.out.1.lt)))
   ·go_simp
    obtain ⟨W2, e2, s2, n2⟩ := zoS W (kc zr).toArray 33;rw [zH] at e2;rw [e2];have hS2 := i2 (za hS.1 s2) (hS.2.below s2 hS.2.lt);refine xk hK0 hS2 ?_;clear hK0 K
    try simp only [xp]
    exact hF _ _ _ _ (M_11_12 g11 W.heap.size W2 _ (by kernel_rfl) (za hw s2) hS2 (zb ⟨a11.out.1.below s2 a11.out.1.lt, a11.out.2⟩) (zb ⟨n2, hw.size⟩) (zb (Nat.ne_of_lt a11.out.1.lt)))
  have M_12 : ∀ (g12 : Nat) (W : World) (ls : Array Bool), ls = #[true, false, false, true, false, false, false, false, false, false, false, false, true, false, false, false, false] → Fr X0 W → (Fr w W ∧ Arr W w.heap.size 27 v1.cells.toArray) → Hid (Arr W g12 33 (kc zr).toArray ∧ X0.heap.size ≤ g12) → F 14 ls (rF v v1 a b w undef undef (.pointer (some ⟨g12, 0, none⟩)) undef undef undef undef undef undef undef undef) W := by
   intro g12 W ls hls hw hS a12;subst hls;refine hB _ _ _ _ ?_;unfold rF;refine wpAnyH_ready (rs := [1, 10, 11]) (by kernel_rfl) (by simp) ?_;refine AllReadyH.cons rfl (fun K hK0 => ?_) (AllReadyH.cons rfl (fun K hK0 => ?_) (AllReadyH.cons rfl (fun K hK0 => ?_) (AllReadyH.nil)))
   ·go_simp
    refine (cA W).mono ?_;rintro e W2 ⟨rfl, s2⟩;go_simp;have hS2 := i2 (za hS.1 s2) (hS.2.below s2 hS.2.lt);refine xk hK0 hS2 ?_;clear hK0 K
    try simp only [xp]
    refine xto 2 ?_;exact hF _ _ _ _ (M_1_12 g12 W2 _ (by kernel_rfl) (za hw s2) hS2 (zb ⟨a12.out.1.below s2 a12.out.1.lt, a12.out.2⟩))
   ·go_simp
    obtain ⟨W2, e2, s2, n2⟩ := zoR W;rw [e2];have hS2 := i2 (za hS.1 s2) (hS.2.below s2 hS.2.lt);refine xk hK0 hS2 ?_;clear hK0 K
    try simp only [xp]
    exact hF _ _ _ _ (M_10_12 W.heap.size g12 W2 _ (by kernel_rfl) (za hw s2) hS2 (zb ⟨n2, hw.size⟩) (zb ⟨a12.out.1.below s2 a12.out.1.lt, a12.out.2⟩) (zb (Nat.ne_of_gt a12.out.1.lt)))
   ·go_simp
    obtain ⟨W2, e2, s2, n2⟩ := zoR W;rw [e2];have hS2 := i2 (za hS.1 s2) (hS.2.below s2 hS.2.lt);refine xk hK0 hS2 ?_;clear hK0 K
    try simp only [xp]
    exact hF _ _ _ _ (M_11_12 W.heap.size g12 W2 _ (by kernel_rfl) (za hw s2) hS2 (zb ⟨n2, hw.size⟩) (zb ⟨a12.out.1.below s2 a12.out.1.lt, a12.out.2⟩) (zb (Nat.ne_of_gt a12.out.1.lt)))
  have M_ : ∀ (W : World) (ls : Array Bool), ls = #[true, false, false, true, false, false, false, false, false, false, false, false, false, false, false, false, false] → Fr X0 W → (Fr w W ∧ Arr W w.heap.size 27 v1.cells.toArray) → F 15 ls (rF v v1 a b w undef undef undef undef undef undef undef undef undef undef undef) W := by
   intro  W ls hls hw hS ;subst hls;refine hB _ _ _ _ ?_;unfold rF;refine wpAnyH_ready (rs := [1, 10, 11, 12]) (by kernel_rfl) (by simp) ?_;refine AllReadyH.cons rfl (fun K hK0 => ?_) (AllReadyH.cons rfl (fun K hK0 => ?_) (AllReadyH.cons rfl (fun K hK0 => ?_) (AllReadyH.cons rfl (fun K hK0 => ?_) (AllReadyH.nil))))
   ·go_simp
    refine (cA W).mono ?_;rintro e W2 ⟨rfl, s2⟩;go_simp;have hS2 := i2 (za hS.1 s2) (hS.2.below s2 hS.2.lt);refine xk hK0 hS2 ?_;clear hK0 K
    try simp only [xp]
    refine xto 2 ?_;exact hF _ _ _ _ (M_1  W2 _ (by kernel_rfl) (za hw s2) hS2 )
   ·go_simp
    obtain ⟨W2, e2, s2, n2⟩ := zoR W;rw [e2];have hS2 := i2 (za hS.1 s2) (hS.2.below s2 hS.2.lt);refine xk hK0 hS2 ?_;clear hK0 K
    try simp only [xp]
    exact hF _ _ _ _ (M_10 W.heap.size W2 _ (by kernel_rfl) (za hw s2) hS2 (zb ⟨n2, hw.size⟩))
   ·go_simp
    obtain ⟨W2, e2, s2, n2⟩ := zoR W;rw [e2];have hS2 := i2 (za hS.1 s2) (hS.2.below s2 hS.2.lt);refine xk hK0 hS2 ?_;clear hK0 K
    try simp only [xp]
    exact hF _ _ _ _ (M_11 W.heap.size W2 _ (by kernel_rfl) (za hw s2) hS2 (zb ⟨n2, hw.size⟩))
   ·go_simp
    obtain ⟨W2, e2, s2, n2⟩ := zoS W (kc zr).toArray 33;rw [zH] at e2;rw [e2];have hS2 := i2 (za hS.1 s2) (hS.2.below s2 hS.2.lt);refine xk hK0 hS2 ?_;clear hK0 K
    try simp only [xp]
    exact hF _ _ _ _ (M_12 W.heap.size W2 _ (by kernel_rfl) (za hw s2) hS2 (zb ⟨n2, hw.size⟩))
  exact M_ X0 _ (by kernel_rfl) hX0 hS0
 case rest =>
  obtain ⟨g10, g11, g12, p1, p2, k, hs9, hs10, hs11, hs12, hge, hne, e10, e11, e12, hH, I1, b0, b1, b2, b3, hw⟩ := hcut;subst hs9 hs10 hs11 hs12;have zz : Hid (w.heap.size + 4 ≤ g10 ∧ w.heap.size + 4 ≤ g11 ∧ w.heap.size + 4 ≤ g12) := zb (by have h1 := hge.out; have h2 := hyn.out; have h3 := zW.out; omega);clear cA cH eg hfd C1 C2 C3 J2 huX hge oy h0 hyn;have cB1 := fun W => zh2 (w := W) (id := a);have cB2 := fun W => zh2 (w := W) (id := b);have rr := ze wc
  go_upto_region 3 with fail
  go_cut [9, 41] from 25 to 41 (fun s9 s41 wx => s9 = .bool (zap r) ∧ s41 = .bool (!(zhn r a b)) ∧ Fr wc wx)
  case first =>
   clear e10 e11 e12 hH I1 b0 b1 b2 b3 hne zz wp
   cases hh : zap r
   ·clear cB1 cB2
    go_wp2_with fail;go_meet;exact ⟨by rw [hh], by unfold zhn; rw [hh]; rfl, rr⟩
   ·by_cases hab : a = b
    ·have q : (a == b) = true := by simp [hab]
     have E : zhn r a b = false := by unfold zhn; rw [hh, decide_eq_true hab]; rfl
     clear cB1 cB2 hab;go_wp2_with fail;go_meet;exact ⟨by rw [hh], by rw [E]; rfl, rr⟩
    ·have q : (a == b) = false := by simpa using hab
     have E : zhn r a b = (zdH a && zdH b) := by unfold zhn; rw [hh, decide_eq_false hab]; simp
     clear hab
     cases ha : zdH a
     ·rw [ha] at cB1
      clear cB2;go_wp2_with fail;refine (cB1 _).mono ?_;rintro e x1 ⟨rfl, f1⟩;go_wp2_with fail;go_meet;exact ⟨by rw [hh], by rw [E, ha]; rfl, f1⟩
     ·rw [ha] at cB1
      cases hb : zdH b
      all_goals rw [hb] at cB2
      all_goals go_wp2_with fail
      all_goals refine (cB1 _).mono ?_
      all_goals rintro e x1 ⟨rfl, f1⟩
      all_goals go_wp2_with fail
      all_goals refine (cB2 _).mono ?_
      all_goals rintro e x2 ⟨rfl, f2⟩
      all_goals have g2 := za f1 f2
      all_goals go_wp2_with fail
      all_goals go_meet
      all_goals exact ⟨by rw [hh], by rw [E, ha, hb]; rfl, g2⟩
  case rest =>
   obtain ⟨h9, h41, fc⟩ := hcut;subst h9 h41;have Fc := za hw fc;have c0 := b0.below fc b0.lt;have c1 := b1.below fc b1.lt;have c2 := b2.below fc b2.lt;have c3 := b3.below fc b3.lt;have m10 := e10.below fc e10.lt;have m11 := e11.below fc e11.lt;have m12 := e12.below fc e12.lt;have i1 := zb (I1.out.fr fc);have hI : Hid (zap r = true → k = zaU r ∧ NP wc (okL (okX ok w.heap.size 4) [g10, g11, g12]) p1 (hl1 r) ∧ NP wc (okL (okX ok w.heap.size 4) [g10, g11, g12]) p2 (hl2 r)) := zb (fun hh => ⟨(hH.out hh).1, (hH.out hh).2.1.fr fc, (hH.out hh).2.2.fr fc⟩);clear cB1 cB2 b0 b1 b2 b3 e10 e11 e12 I1 hH fc hw rr
   cases hr : zhn r a b
   ·have ld0 := ldN v1 w.heap.size c0
    have rr := ze wc;have Hr := zb hr;clear c0 m10 m11 m12 hI hr wp zz hne;have tok : Hid (0 < 1) := zb (by decide);have tok2 : Hid (0 < 1) := zb (by decide);have tok3 : Hid (0 < 1) := zb (by decide)
    go_wp2_with (first
     | (clear tok; refine sN v1 6 42 (w.heap.size + 1) c1 ?_; intro W3 d1 u1
        have F3 := u1.fr Fc (by omega);have d2 := u1.other c2 (by omega);have d3 := u1.other c3 (by omega);clear c1 c2 c3)
     | (clear tok2; refine sN zh 7 43 (w.heap.size + 2) d2 ?_; intro W4 l2 u2
        have F4 := u2.fr F3 (by omega);have l1 := u2.other d1 (by omega);have l3 := u2.other d3 (by omega);clear d1 d2 d3)
     | (clear tok3; refine sN zh 8 44 (w.heap.size + 3) l3 ?_; intro W5 k3 u3
        have F5 := u3.fr F4 (by omega);have k1 := u3.other l1 (by omega);have k2 := u3.other l2 (by omega);clear l1 l2 l3)
     | fail)
    refine bodyPost_ret (zaY _ (w.heap.size + 1) (w.heap.size + 2) (w.heap.size + 3) zq zq zq rfl rfl rfl rfl rfl rfl rfl k1 k2 k3) rfl ?_;exact ⟨_, _, _, false, r, zce, zce, rfl, zb ⟨Hr.out.symm, rfl, rfl, rfl⟩, zb (((i1.out.kept u1 (zj (by decide))).kept u2 (zj (by decide))).kept u3 (zj (by decide))).out, zb zbb, zb zbb, F5⟩
   ·have hok : zap r = true := by
     unfold zhn at hr;rw [Bool.and_eq_true] at hr;exact hr.1
    have hq := hI.out hok;have wk : k.wf := by rw [hq.1]; exact wp hok
    have Q := zb hq;have Hr := zb hr;have Wk := zb wk;clear hq wk hr hok hI wp i1 c0;have hln := zl k;have hS0 := i4 (zn Fc) (Arr.drew m10) (Arr.drew m11) (Arr.drew m12);have lS0 : ∀ W, Fr w W ∧ Arr W g10 27 p1.cells.toArray ∧ Arr W g11 27 p2.cells.toArray ∧ Arr W g12 33 (kc k).toArray → (ldS 27 (.pointer (some ⟨g10, 0, none⟩))).run Tryz.prog W = .ok (.agg p1.cells.toArray) W := fun W h => zq.ld rfl h.2.1;have lS1 : ∀ W, Fr w W ∧ Arr W g10 27 p1.cells.toArray ∧ Arr W g11 27 p2.cells.toArray ∧ Arr W g12 33 (kc k).toArray → (ldS 27 (.pointer (some ⟨g11, 0, none⟩))).run Tryz.prog W = .ok (.agg p2.cells.toArray) W := fun W h => zq.ld rfl h.2.2.1;have lS2 : ∀ W, Fr w W ∧ Arr W g10 27 p1.cells.toArray ∧ Arr W g11 27 p2.cells.toArray ∧ Arr W g12 33 (kc k).toArray → (ldS 33 (.pointer (some ⟨g12, 0, none⟩))).run Tryz.prog W = .ok (.agg (kc k).toArray) W := fun W h => zaf.ld (zl _) h.2.2.2;have T1 : Arr wc.drew (w.heap.size + 1) 27 zh.cells.toArray := Arr.drew c1;have T2 : Arr wc.drew (w.heap.size + 2) 27 zh.cells.toArray := Arr.drew c2;have T3 : Arr wc.drew (w.heap.size + 3) 27 zh.cells.toArray := Arr.drew c3;have q10 := Q.out.2.1.drew
    have q11 := Q.out.2.2.drew;clear c1 c2 c3 m10 m11 m12;go_wp2_with fail;refine wp_region_noPanic ?_;refine wp_region_held_drew (S := fun w' => Fr w w' ∧ Arr w' g10 27 p1.cells.toArray ∧ Arr w' g11 27 p2.cells.toArray ∧ Arr w' g12 33 (kc k).toArray) (by kernel_rfl) hS0 (fun hHeld => ?_);change wpAnyH _ _ _ _ _ _ _ _ _;generalize wc.drew = X0 at *;refine xto 0 ?_;refine xto 1 ?_;refine xto 3 ?_;refine xto 6 ?_;refine xto 7 ?_;refine xrr 2 4 (fun K hK0 => ?_) fun K hK0 => ?_
    ·go_simp
     obtain ⟨y1, ey1, fy1, aI⟩ := zoS X0 #[.int .i64 a, .int .i64 b] 3;rw [ey1];have zI : w.heap.size + 4 ≤ X0.heap.size := by have h1 := zz.out; have h2 := hS0.2.1.lt; omega
     have zI' : w.heap.size ≤ X0.heap.size := by omega
     have hS0 := i4 (za hS0.1 fy1) (hS0.2.1.below fy1 hS0.2.1.lt) (hS0.2.2.1.below fy1 hS0.2.2.1.lt) (hS0.2.2.2.below fy1 hS0.2.2.2.lt);have T1 := T1.below fy1 T1.lt;have T2 := T2.below fy1 T2.lt;have T3 := T3.below fy1 T3.lt;have q10 := q10.fr fy1;have q11 := q11.fr fy1;refine xk hK0 hS0 ?_;clear hK0 K;refine xr 4 fun K hK0 => ?_;go_simp;obtain ⟨y2, ey2, fy2, aK⟩ := zoS y1 (kc k).toArray 33;rw [ey2];have zK : w.heap.size + 4 ≤ y1.heap.size := by have h1 := zz.out; have h2 := hS0.2.1.lt; omega
     have zK' : w.heap.size ≤ y1.heap.size := by omega
     have hS0 := i4 (za hS0.1 fy2) (hS0.2.1.below fy2 hS0.2.1.lt) (hS0.2.2.1.below fy2 hS0.2.2.1.lt) (hS0.2.2.2.below fy2 hS0.2.2.2.lt);have T1 := T1.below fy2 T1.lt;have T2 := T2.below fy2 T2.lt;have T3 := T3.below fy2 T3.lt;have q10 := q10.fr fy2;have q11 := q11.fr fy2;have aI := aI.below fy2 aI.lt;refine xk hK0 hS0 ?_;clear hK0 K
     try simp only [xs, Act.put]
     refine xto 5 ?_;refine xr 8 fun K hK0 => ?_;refine zy (ds := (NV.cells ⟨false, none, 0, 0, some ⟨X0.heap.size, 0, none⟩, 2, 2, some ⟨y1.heap.size, 0, none⟩, 1, 1, none, 0, 0⟩)) zaw (by rfl) (.tmp 6) (.tmp 50) rfl (w.heap.size + 1) 0 rfl rfl rfl (za6 _) T1 (zbi _) (zk _ _ (Nat.le_of_eq rfl)) ?_;intro x1 k1 q1;have hS0 := i4 (q1.fr hS0.1 (by omega)) (q1.other hS0.2.1 (by have := zz.out; omega)) (q1.other hS0.2.2.1 (by have := zz.out; omega)) (q1.other hS0.2.2.2 (by have := zz.out; omega));have T2 := q1.other T2 (by omega);have T3 := q1.other T3 (by omega);have aI := q1.other aI (by omega);have aK := q1.other aK (by omega);have q10 := q10.kept q1 (fun h => zj (by decide) h.1);have q11 := q11.kept q1 (fun h => zj (by decide) h.1);refine xk hK0 hS0 ?_;clear hK0 K;refine xr 9 fun K hK0 => ?_;refine tN p1 7 51 (w.heap.size + 2) T2 ?_;intro x2 k2 q2;have hS0 := i4 (q2.fr hS0.1 (by omega)) (q2.other hS0.2.1 (by have := zz.out; omega)) (q2.other hS0.2.2.1 (by have := zz.out; omega)) (q2.other hS0.2.2.2 (by have := zz.out; omega))
     have T3 := q2.other T3 (by omega);have k1 := q2.other k1 (by omega);have aI := q2.other aI (by omega);have aK := q2.other aK (by omega);have q10 := q10.kept q2 (fun h => zj (by decide) h.1);have q11 := q11.kept q2 (fun h => zj (by decide) h.1);refine xk hK0 hS0 ?_;clear hK0 K;refine xr 10 fun K hK0 => ?_;refine tN p2 8 52 (w.heap.size + 3) T3 ?_;intro x3 k3 q3;have hS0 := i4 (q3.fr hS0.1 (by omega)) (q3.other hS0.2.1 (by have := zz.out; omega)) (q3.other hS0.2.2.1 (by have := zz.out; omega)) (q3.other hS0.2.2.2 (by have := zz.out; omega));have k1 := q3.other k1 (by omega);have k2 := q3.other k2 (by omega);have aI := q3.other aI (by omega);have aK := q3.other aK (by omega);have q10 := q10.kept q3 (fun h => zj (by decide) h.1);have q11 := q11.kept q3 (fun h => zj (by decide) h.1);refine xk hK0 hS0 ?_;clear hK0 K
     try simp only [xs, Act.put]
     refine xto 11 ?_;refine wpAnyH_done (by kernel_rfl) ?_ _;refine NoPanic.normal ?_;go_wp2_with fail;refine bodyPost_ret (zaY _ (w.heap.size + 1) (w.heap.size + 2) (w.heap.size + 3) zq zq zq rfl rfl rfl rfl rfl rfl rfl k1 k2 k3) rfl ?_;exact ⟨_, _, _, true, ⟨false, [], [a, b], [k], []⟩, hl1 r, hl2 r, rfl, zb ⟨Hr.out.symm, by rw [Q.out.1]; rfl, rfl, rfl⟩, zb (ziz hu zI' zK' aI aK Wk.out), zb (q10.weak fun b _ h => h.1.1), zb (q11.weak fun b _ h => h.1.1), hS0.1⟩
    ·go_simp
     obtain ⟨y1, ey1, fy1, aK⟩ := zoS X0 (kc k).toArray 33;rw [ey1];have zK : w.heap.size + 4 ≤ X0.heap.size := by have h1 := zz.out; have h2 := hS0.2.1.lt; omega
     have zK' : w.heap.size ≤ X0.heap.size := by omega
     have hS0 := i4 (za hS0.1 fy1) (hS0.2.1.below fy1 hS0.2.1.lt) (hS0.2.2.1.below fy1 hS0.2.2.1.lt) (hS0.2.2.2.below fy1 hS0.2.2.2.lt);have T1 := T1.below fy1 T1.lt;have T2 := T2.below fy1 T2.lt;have T3 := T3.below fy1 T3.lt;have q10 := q10.fr fy1;have q11 := q11.fr fy1;refine xk hK0 hS0 ?_;clear hK0 K;refine xr 2 fun K hK0 => ?_;go_simp;obtain ⟨y2, ey2, fy2, aI⟩ := zoS y1 #[.int .i64 a, .int .i64 b] 3;rw [ey2];have zI : w.heap.size + 4 ≤ y1.heap.size := by have h1 := zz.out; have h2 := hS0.2.1.lt; omega
     have zI' : w.heap.size ≤ y1.heap.size := by omega
     have hS0 := i4 (za hS0.1 fy2) (hS0.2.1.below fy2 hS0.2.1.lt) (hS0.2.2.1.below fy2 hS0.2.2.1.lt) (hS0.2.2.2.below fy2 hS0.2.2.2.lt);have T1 := T1.below fy2 T1.lt;have T2 := T2.below fy2 T2.lt;have T3 := T3.below fy2 T3.lt;have q10 := q10.fr fy2;have q11 := q11.fr fy2;have aK := aK.below fy2 aK.lt;refine xk hK0 hS0 ?_;clear hK0 K
     try simp only [xs, Act.put]
     refine xto 5 ?_;refine xr 8 fun K hK0 => ?_;refine zy (ds := (NV.cells ⟨false, none, 0, 0, some ⟨y1.heap.size, 0, none⟩, 2, 2, some ⟨X0.heap.size, 0, none⟩, 1, 1, none, 0, 0⟩)) zaw (by rfl) (.tmp 6) (.tmp 50) rfl (w.heap.size + 1) 0 rfl rfl rfl (za6 _) T1 (zbi _) (zk _ _ (Nat.le_of_eq rfl)) ?_;intro x1 k1 q1;have hS0 := i4 (q1.fr hS0.1 (by omega)) (q1.other hS0.2.1 (by have := zz.out; omega)) (q1.other hS0.2.2.1 (by have := zz.out; omega)) (q1.other hS0.2.2.2 (by have := zz.out; omega));have T2 := q1.other T2 (by omega);have T3 := q1.other T3 (by omega);have aI := q1.other aI (by omega);have aK := q1.other aK (by omega);have q10 := q10.kept q1 (fun h => zj (by decide) h.1);have q11 := q11.kept q1 (fun h => zj (by decide) h.1);refine xk hK0 hS0 ?_;clear hK0 K;refine xr 9 fun K hK0 => ?_;refine tN p1 7 51 (w.heap.size + 2) T2 ?_;intro x2 k2 q2;have hS0 := i4 (q2.fr hS0.1 (by omega)) (q2.other hS0.2.1 (by have := zz.out; omega)) (q2.other hS0.2.2.1 (by have := zz.out; omega)) (q2.other hS0.2.2.2 (by have := zz.out; omega))
     have T3 := q2.other T3 (by omega);have k1 := q2.other k1 (by omega);have aI := q2.other aI (by omega);have aK := q2.other aK (by omega);have q10 := q10.kept q2 (fun h => zj (by decide) h.1);have q11 := q11.kept q2 (fun h => zj (by decide) h.1);refine xk hK0 hS0 ?_;clear hK0 K;refine xr 10 fun K hK0 => ?_;refine tN p2 8 52 (w.heap.size + 3) T3 ?_;intro x3 k3 q3;have hS0 := i4 (q3.fr hS0.1 (by omega)) (q3.other hS0.2.1 (by have := zz.out; omega)) (q3.other hS0.2.2.1 (by have := zz.out; omega)) (q3.other hS0.2.2.2 (by have := zz.out; omega));have k1 := q3.other k1 (by omega);have k2 := q3.other k2 (by omega);have aI := q3.other aI (by omega);have aK := q3.other aK (by omega);have q10 := q10.kept q3 (fun h => zj (by decide) h.1);have q11 := q11.kept q3 (fun h => zj (by decide) h.1);refine xk hK0 hS0 ?_;clear hK0 K
     try simp only [xs, Act.put]
     refine xto 11 ?_;refine wpAnyH_done (by kernel_rfl) ?_ _;refine NoPanic.normal ?_;go_wp2_with fail;refine bodyPost_ret (zaY _ (w.heap.size + 1) (w.heap.size + 2) (w.heap.size + 3) zq zq zq rfl rfl rfl rfl rfl rfl rfl k1 k2 k3) rfl ?_;exact ⟨_, _, _, true, ⟨false, [], [a, b], [k], []⟩, hl1 r, hl2 r, rfl, zb ⟨Hr.out.symm, by rw [Q.out.1]; rfl, rfl, rfl⟩, zb (ziz hu zI' zK' aI aK Wk.out), zb (q10.weak fun b _ h => h.1.1), zb (q11.weak fun b _ h => h.1.1), hS0.1⟩
theorem zoW {w : World} {ok : Nat → Prop} {v : NV} {r : RN} {a b : Int} (hu : ∀ b, w.heap.size ≤ b → ok b) (h : NP w ok v r) (o : OkN r) : Calls Tryz.prog 27 #[nv v, .int .i64 a, .int .i64 b] w (RotO ok w r a b) := by
 cases hl : r.lf
 ·refine zk2 (fid := 97) (xs := #[.func (.func 95) #[] #[], .func (.func 96) #[] #[], .func (.func 97) #[] #[]]) hu h (fun args W => by kernel_rfl) (fun W => by kernel_rfl) (fun W v1 e => ?_) (fun W ok' v1 hu' k => zj5 hu' k hl o) (fun hh => ?_)
  ·have := zdL (w := W) (v := v1)
   rwa [e, hl] at this
  ·unfold zap at hh
   rw [hl] at hh;have h2 : r.ks.length = 4 := by simpa using hh
   obtain ⟨_, ⟨_, kpl, op⟩, _⟩ := (zaI hl).1 o;have h4 : r.ps[1]? = some (r.ps[1]'(by omega)) := List.getElem?_eq_getElem _;unfold zaU;rw [hl];simp only [Bool.false_eq_true, if_false, List.getD, h4, Option.getD_some];exact (op.good _ (List.getElem_mem _)).1
 ·refine zk2 (fid := 94) (xs := #[.func (.func 93) #[] #[], .func (.func 32) #[] #[], .func (.func 94) #[] #[]]) hu h (fun args W => by kernel_rfl) (fun W => by kernel_rfl) (fun W v1 e => ?_) (fun W ok' v1 hu' k => zla hu' k hl ((zcd hl).1 o).2.2.2) (fun _ => ?_)
  ·have := zdL (w := W) (v := v1)
   rwa [e, hl] at this
  ·unfold zaU
   rw [if_pos hl];exact zgg ((zcd hl).1 o).2.2.2
end Go.Proofs.YtmjjjdikpnhpiaaGreat
