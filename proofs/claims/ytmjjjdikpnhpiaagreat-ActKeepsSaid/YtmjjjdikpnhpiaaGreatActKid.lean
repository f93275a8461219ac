/- package law10's 'kid' of a leaf. -/
import Derived.Test.YtmjjjdikpnhpiaaGreatActXa
import Derived.Test.YtmjjjdikpnhpiaaGreatRp
import Derived.Test.YtmjjjdikpnhpiaaGreatActVal
import Derived.Handy
import Derived.Deep.CutBlock
import Derived.Deep.RegionHeld3
import Derived.Test.YtmjjjdikpnhpiaaGreatShort
namespace Go.Proofs.YtmjjjdikpnhpiaaGreat
set_option linter.unusedVariables false
set_option linter.unusedSimpArgs false
set_option maxRecDepth 100000
open Go.RowKit
theorem eappend_side {w0 w : World} {A : Option Addr} {n c V g T : Nat} {cs : Array Value} {l : List RE} {x : RE} (h0 : Fr w0 w) (hg : w0.heap.size = g) (ha : Arr w g T cs) (ho : zau w (g + 1) A c l) (hn : l.length = n) (hsm : n ≤ 200000) (wx : x.wf) (hV : V = w.heap.size) (ty : TypeId) :
 ∃ A' c' w', (Builtin.append_ #[23, 23] ty #[.slice A n c, .slice (some ⟨V, 0, none⟩) 1 1]).run Tryz.prog (w.alloc (.cells (ec x).toArray 52)) = .ok (.slice A' (n + 1) c') w' ∧ zau w' (g + 1) A' c' (l ++ [x]) ∧ Fr w0 w' ∧ Arr w' g T cs := by
 subst hV;have hlt := ha.lt;unfold zau at ho;rw [hn] at ho;obtain ⟨i, z, hi, hz, hsize, hby, hzs⟩ := zcN.row;obtain ⟨A', c', w', hr, h1, h2, h3⟩ := zcM (P := Tryz.prog) (w.alloc (.cells (ec x).toArray 52)) (g + 1) 23 ty 52 i z 26 40 zaA hi hz hsize hby hzs (by decide) A n c (zm ec l) (ho.alloc _) (w.heap.size + 1) (some ⟨w.heap.size, 0, none⟩) 1 1 (ec x) (zbT wx.val.hl) (zax _ (Arr.new w _ _)) (zdw x) (by unfold maxLen; omega) (by omega) (by have := h0.size; simp; omega);refine ⟨A', c', w', hr, ?_, zat (zf h0 _) (ho.alloc _) h2 (by have := h0.size; simp; omega) (by omega), ?_⟩
 ·unfold zau
  rw [List.length_append, hn, zas, zbj];exact h1
 ·refine (h2.block g (by simp; omega) fun e' => ?_).trans (ha.alloc _)
  have := ((ho.alloc (.cells (ec x).toArray 52)).lt g e'.symm).1;omega
theorem step_eappend_side {w0 w : World} {ops : Array Oper} {o : Oper} {a : Act} {K : Act → World → Prop} {Q : Exit → Act → World → Prop} {E : Prop} {A : Option Addr} {n c g T : Nat} {cs : Array Value} {l : List RE} {x : RE} (d s : Operand) (hop : o.op = .call { callee := .builtin .append, args := #[d, s], argTypes := #[23, 23] }) (hgd : o.guard = none)
 (hd : a.eval d = .slice A n c) (hs : a.eval s = .slice (some ⟨w.heap.size, 0, none⟩) 1 1) (h0 : Fr w0 w) (hg : w0.heap.size = g) (ha : Arr w g T cs) (ho : zau w (g + 1) A c l) (hn : l.length = n) (hsm : n ≤ 200000) (wx : x.wf)
 (hK : ∀ A' c' w', zau w' (g + 1) A' c' (l ++ [x]) → Fr w0 w' → Arr w' g T cs → K (a.put o.dst (.slice A' (n + 1) c')) w') : if Region.wanted o (yielded ops a.tmps) = true then Oper.wp Tryz.prog o a (w.alloc (.cells (ec x).toArray 52)) K Q else E := by
 obtain ⟨A', c', w', hr, h1, h2, h3⟩ := eappend_side (V := w.heap.size) h0 hg ha ho hn hsm wx rfl o.type;exact zeC (by simp [Region.wanted, hgd]) d s _ _ hop _ _ hd hs hr (hK A' c' w' h1 h2 h3)
theorem own_away {w W : World} {B e size n c g : Nat} {A : Option Addr} {xs : List Value} (h : Own w B e size A n c xs) (k : zic w W g) (hg : g < B) : Own W B e size A n c xs := by
 refine ⟨h.1, ?_⟩
 rcases h.2 with hn | ⟨b, cap, cur, hv, hb, hA, h1, h2, h3, h4⟩
 ·exact .inl hn
 ·exact .inr ⟨b, cap, cur, hv, hb, k.other hA (by omega), h1, h2, h3, h4⟩
attribute [local go_sem ↓] zaP zt zbh
set_option maxHeartbeats 2000000 in
theorem kidL_at {w : World} {ok : Nat → Prop} {vp : NV} {P : RN} {i : Nat} {A A2 A3 : Option Addr} {n c n2 c2 n3 c3 : Nat} {es : List Int} (hp : NP w ok vp P) (oP : OkP P.ps) (hi : i ≤ P.ps.length)
 (hl : Has w w.heap.size A (es.map (Value.int .i64))) (hn : es.length = n) (hs : ∀ z ∈ es, zal z) (hm : n ≤ maxLen) :
 Calls Tryz.prog 7 #[nv vp, .int .i64 i, .bool false, .slice A n c, .slice A2 n2 c2, .slice A3 n3 c3] w fun e w' => ∃ v, e = .returned (nv v) ∧ Hid (NP w' (fun b => w.heap.size ≤ b) v ⟨true, (zcp es).es.filter (fun x => decide (zbN P.ps (zu x.key) = i)), [], [], []⟩) ∧ Fr w w' := by
 unfold nv;obtain ⟨Y, hY, h0, hy, hA⟩ := zaz [(vp.cells.toArray, 27), (zh.cells.toArray, 27)] w;have a0 : Arr Y (w.heap.size) 27 vp.cells.toArray := hA 0 _ rfl;have a1 : Arr Y (w.heap.size + 1) 27 zh.cells.toArray := hA 1 _ rfl;change (w.alloc (.cells vp.cells.toArray 27)).alloc (.cells #[.bool false, .slice none 0 0, .slice none 0 0, .slice none 0 0, .slice none 0 0] 27) = Y at hY;have hYY := ze Y;have hyn : Hid (w.heap.size + 2 ≤ Y.heap.size) := zb (by have := hy.out; simp only [List.length_cons, List.length_nil] at this; omega);clear hA hy;have cB := fun W (h : Fr w W) => zoV (w := W) (c := c) (hl.fr (Nat.le_refl _) h) h.size hn hs hm;have oL := zjk es;have nL : (zcp es).es.length ≤ 80 := zfe es 248;have lL : (zcp es).lf = true := rfl;have kL : (zcp es).ks = [] := rfl;have pL : (zcp es).ps = [] := rfl;have mL : (zcp es).ms = [] := rfl;generalize zcp es = L at *;have HP := zb hp;have OP := zb oP;have Hi := zb hi;have A0 := zb a0;have A1 := zb a1;clear hl hn hs hm hp oP hi a0 a1;unfold nv at cB;go_enter Tryz.func7, Tryz.ntmps7;go_wp2_with fail;refine (cB _ h0).mono ?_;rintro e w1 ⟨vb, rfl, hB, f1⟩;have zw1 := f1.size
 obtain ⟨V1, hV1, fV1, n13⟩ := zoR w1;have F1 := za f1 fV1;have tok : Hid (0 < 1) := zb (by decide);have nB0 : Hid (NP V1 (fun b => b < w1.heap.size) vb L) := zb ((hB.out.weak (ok' := fun b => b < w1.heap.size) (fun b hb _ => hb)).fr fV1);clear cB
 go_upto_region 4 with (first
  | (clear tok; refine sN vb 13 18 w1.heap.size n13 ?_; intro W1 b13 u13)
  | fail)
 have FW1 := u13.fr F1 zw1;have nB := zb ((nB0.out.kept u13 (fun h => by have hq := h; omega)).weak (ok' := tt) fun _ _ _ => trivial);have lB : vb.lf = true := by rw [nB.out.lf]; exact lL
 have c0 : ∀ W, Fr W1 W → W.cell? ⟨w1.heap.size, 0, none⟩ = some (.bool true) := fun W h => by rw [← lB]; exact (b13.below h b13.lt).cell 0
 have c1 : ∀ W, Fr W1 W → W.cell? ⟨w1.heap.size, 1, none⟩ = some (.slice vb.A1 vb.n1 vb.c1) := fun W h => (b13.below h b13.lt).cell 1;have c2' : ∀ W, Fr W1 W → W.cell? ⟨w1.heap.size, 2, none⟩ = some (.slice vb.A2 vb.n2 vb.c2) := fun W h => (b13.below h b13.lt).cell 2;have rW1 := ze W1;obtain ⟨V2, hV2, fV2, n14⟩ := zoR W1;have tok : Hid (0 < 1) := zb (by decide)
 go_wp2_with (first
  | (clear tok; refine sN ⟨true, none, 0, 0, vb.A2, vb.n2, vb.c2, none, 0, 0, none, 0, 0⟩ 14 27 W1.heap.size n14 ?_; intro W2 b14 u14)
  | fail)
 have Fb := za (ze W1) fV2;have FW2 := u14.fr fV2 (Nat.le_refl _);have wid := (show Wid ec 26 L.es from oL.wfe.wid);have en := nB.out.l1;have n80 : vb.n1 ≤ 80 := by omega
 have h14 := zb b14;have b13 := zb b13;have FW1 := zb FW1;clear fV2 hV2 u14 n14 u13 n13 hV1 fV1 F1 b14 nB0 hB f1 Fb c0 c2' rW1
 go_loopg [15] vb.n1 (fun g s15 wr => ∃ (j : Nat) (B : Option Addr) (cB : Nat) (q : List RE), j + g = vb.n1 ∧ s15 = .int .i64 j ∧ Hid (q = (L.es.take j).filter (fun x => decide (zbN P.ps (zu x.key) = i))) ∧ Hid (Arr wr W1.heap.size 27 (NV.cells ⟨true, B, q.length, cB, vb.A2, vb.n2, vb.c2, none, 0, 0, none, 0, 0⟩).toArray) ∧ Hid (zau wr (W1.heap.size + 1) B cB q) ∧ Hid (Fr W1 wr))
 case atStart => exact ⟨0, none, 0, [], by omega, rfl, zb rfl, h14, zb (Own.nil _ _ _ _), zb FW2⟩
 case round =>
  obtain ⟨j, B, cB, q, hj, rfl, hq, h14, hO, hF⟩ := hrel
  by_cases hlt : j < vb.n1
  ·have hm : L.es[j]? = some (L.es[j]'(by omega)) := List.getElem?_eq_getElem _
   generalize L.es[j]'(by omega) = x at hm;obtain ⟨b, off, eA, hb1, hr⟩ := zJ nB.out.h1.has wid (by decide) (by intro e; rw [e] at hm; simp at hm);rw [eA] at c1;have lX := z9 zh4 hr wid hb1 hm;have lXk := zak (o := 0) zaf hr wid hb1 hm (zcC x) (zl _);simp only [Nat.add_zero] at lXk;have gx := oL.good x (List.mem_of_getElem? hm);have c3 : ∀ W, Fr W1 W → W.cell? ⟨w.heap.size, 3, none⟩ = some (.slice vp.A3 vp.n3 vp.c3) := fun W h => (A0.out.below (za FW1.out h) A0.out.lt).cell 3;have cK := fun W (h : Fr W1 W) => rkid_at (W0 := W) (c := vp.c3) ((HP.out.fr (za h0 (za FW1.out h))).h3.has) (Nat.le_refl _) HP.out.l3 HP.out.s3 OP.out gx.wk gx.ok (ze W);have hWW := hF.out;have hjz : (j : Int) < (vb.n1 : Int) := by omega
   have hWD := zn (ze wr);have c1w : ∀ W, Fr wr W → W.cell? ⟨w1.heap.size, 1, none⟩ = some (.slice (some ⟨b, off, none⟩) vb.n1 vb.c1) := fun W h => c1 W (za hWW h);have c3w : ∀ W, Fr wr W → W.cell? ⟨w.heap.size, 3, none⟩ = some (.slice vp.A3 vp.n3 vp.c3) := fun W h => c3 W (za hWW h);have lXw : ∀ W, Fr wr W → (ldS 33 (.pointer (some ⟨b, off + j * 26, none⟩))).run Tryz.prog W = .ok (.agg (kc x.key).toArray) W := fun W h => lXk W (za hWW h);have cKw := fun W (h : Fr wr W) => (cK W (za hWW h)).mono fun e w' ⟨h1, h2⟩ => And.intro h1 (za h h2)
   have hq2 : Hid ((L.es.take (j + 1)).filter (fun x => decide (zbN P.ps (zu x.key) = i)) = if zbN P.ps (zu x.key) = i then q ++ [x] else q) := zb (by
    rw [List.take_add_one, hm, List.filter_append, ← hq.out]
    by_cases hk : zbN P.ps (zu x.key) = i <;> simp [hk])
   by_cases hk : zbN P.ps (zu x.key) = i
   ·rw [hk] at cKw
    have Hk := zb hk
    have hql : q.length ≤ 80 := by
     rw [hq.out];exact Nat.le_trans (List.length_filter_le _ _) (by rw [List.length_take]; omega)
    have wx := gx.wf;have hfo := zge (e := x) gx.wv.hl;have he26 : (ec x).length = 26 := zbT gx.wv.hl;clear hk hm hr hlt gx cK;go_wp2_with fail
    go_region_held3 (fun w' => Fr wr w') (first | exact hWD | assumption) (first | (go_at_call 10; (with_reducible refine (cKw _ (by assumption)).mono ?_); rintro e w9 ⟨rfl, hz9⟩))
    rename_i hX9;have hXD : Fr W1 w9.drew := za hWW (zn hX9);have h14X := Arr.drew (h14.out.below hX9 h14.out.lt);have hOX := (Own.below hO.out hX9 (by omega)).drew;have c14a := h14X.cell 1;have c14b : ∀ o, (w9.drew.alloc o).cell? ⟨W1.heap.size, 1, none⟩ = some (Value.slice B q.length cB) := fun o => (h14X.alloc o).cell 1;go_wp2_with fail;refine wp_region_noPanic ?_;refine wp_region_held_drew (S := fun w' => Fr W1 w') (by kernel_rfl) hXD (fun hHeld => ?_);change wpAnyH _ _ _ _ _ _ _ _ _;generalize w9.drew = X0 at *;refine xto 0 ?_;refine xto 2 ?_;refine xto 3 ?_;refine xto 4 ?_;refine xto 5 ?_;refine xto 6 ?_;refine xrr 1 7 (fun K hK0 => ?_) fun K hK0 => ?_
    ·go_simp
     refine xk hK0 hXD ?_;clear hK0 K;refine xr 7 fun K hK0 => ?_;go_simp
     try simp only [hfo]
     have hy1 : Fr W1 (X0.alloc (.cells (ec x).toArray 52)) := zf hXD _;refine xk hK0 hy1 ?_;clear hK0 K;refine xr 8 fun K hK0 => ?_;refine step_eappend_side (w0 := W1) (l := q) (.tmp 47) (.tmp 53) rfl rfl rfl rfl hXD rfl h14X hOX rfl (by omega) wx ?_;intro A' c' y2 ho2 f2 a2;refine xk hK0 f2 ?_;clear hK0 K
     try simp only [xs, Act.put]
     refine xto 9 ?_;refine xr 10 fun K hK0 => ?_;refine zy (ds := [.slice A' (q.length + 1) c']) sl_e (by rfl) (.tmp 55) (.tmp 54) rfl W1.heap.size 1 rfl rfl rfl (zaV _ _ _) a2 (zaD _ (by decide)) (cs' := NV.cells ⟨true, A', q.length + 1, c', vb.A2, vb.n2, vb.c2, none, 0, 0, none, 0, 0⟩) rfl ?_;intro x1 k1 q1;have hx1 := q1.fr f2 (Nat.le_refl _);refine xk hK0 hx1 ?_;clear hK0 K
     try simp only [xs, Act.put]
     refine wpAnyH_done (by kernel_rfl) ?_ _;refine NoPanic.normal ?_;go_wp2_with fail
     go_roundg (gk - 1)
     case measure => omega
     case rel => exact ⟨j + 1, A', c', q ++ [x], by omega, rfl, zb (by rw [hq2.out, if_pos Hk.out]), zb (by rw [List.length_append]; exact k1), zb (own_away ho2 q1 (Nat.lt_succ_self _)), zb hx1⟩
    ·go_simp
     try simp only [hfo]
     have hy1 : Fr W1 (X0.alloc (.cells (ec x).toArray 52)) := zf hXD _;refine xk hK0 hy1 ?_;clear hK0 K;refine xr 1 fun K hK0 => ?_;go_simp;refine xk hK0 hy1 ?_;clear hK0 K;refine xr 8 fun K hK0 => ?_;refine step_eappend_side (w0 := W1) (l := q) (.tmp 47) (.tmp 53) rfl rfl rfl rfl hXD rfl h14X hOX rfl (by omega) wx ?_;intro A' c' y2 ho2 f2 a2;refine xk hK0 f2 ?_;clear hK0 K
     try simp only [xs, Act.put]
     refine xto 9 ?_;refine xr 10 fun K hK0 => ?_;refine zy (ds := [.slice A' (q.length + 1) c']) sl_e (by rfl) (.tmp 55) (.tmp 54) rfl W1.heap.size 1 rfl rfl rfl (zaV _ _ _) a2 (zaD _ (by decide)) (cs' := NV.cells ⟨true, A', q.length + 1, c', vb.A2, vb.n2, vb.c2, none, 0, 0, none, 0, 0⟩) rfl ?_;intro x1 k1 q1;have hx1 := q1.fr f2 (Nat.le_refl _);refine xk hK0 hx1 ?_;clear hK0 K
     try simp only [xs, Act.put]
     refine wpAnyH_done (by kernel_rfl) ?_ _;refine NoPanic.normal ?_;go_wp2_with fail
     go_roundg (gk - 1)
     case measure => omega
     case rel => exact ⟨j + 1, A', c', q ++ [x], by omega, rfl, zb (by rw [hq2.out, if_pos Hk.out]), zb (by rw [List.length_append]; exact k1), zb (own_away ho2 q1 (Nat.lt_succ_self _)), zb hx1⟩
   ·have Hk := zb hk
    have hne : ¬ ((zbN P.ps (zu x.key) : Nat) : Int) = (i : Int) := by omega
    generalize zbN P.ps (zu x.key) = kk at *;clear hk hm hr hlt gx cK;go_wp2_with fail
    go_region_held3 (fun w' => Fr wr w') (first | exact hWD | assumption) (first | (go_at_call 10; (with_reducible refine (cKw _ (by assumption)).mono ?_); rintro e w9 ⟨rfl, hz9⟩))
    rename_i hX9;have h14' := h14.out.below hX9 h14.out.lt;have hO' := Own.below hO.out hX9 (by have := h14.out.lt; omega);go_wp2_with fail
    go_roundg (gk - 1)
    case measure => omega
    case rel => exact ⟨j + 1, B, cB, q, by omega, rfl, zb (by rw [hq2.out, if_neg Hk.out]), zb h14', zb hO', zb (za hWW hX9)⟩
  ·have hjn : j = vb.n1 := by omega
   have hjz : ¬ (j : Int) < (vb.n1 : Int) := by omega
   have et : L.es.take j = L.es := List.take_of_length_le (by omega);have hq' : Hid (q = L.es.filter (fun x => decide (zbN P.ps (zu x.key) = i))) := zb (by rw [hq.out, et]);have hWW := hF.out;have e3 : vb.n3 = 0 := by rw [← nB.out.l3, pL]; rfl
   have e4 : vb.n4 = 0 := by rw [← nB.out.l4, mL]; rfl
   have e2 : vb.n2 = 0 := by rw [← nB.out.l2, kL]; rfl
   have hql : q.length ≤ 80 := by rw [hq'.out]; exact Nat.le_trans (List.length_filter_le _ _) (by omega)
   have c1w : ∀ W, Fr wr W → W.cell? ⟨w1.heap.size, 1, none⟩ = some (.slice vb.A1 vb.n1 vb.c1) := fun W h => c1 W (za hWW h)
   have c4w : ∀ W, Fr wr W → W.cell? ⟨w1.heap.size, 4, none⟩ = some (.slice vb.A4 0 vb.c4) := fun W h => by
    have hh : W.cell? ⟨w1.heap.size, 4, none⟩ = some (.slice vb.A4 vb.n4 vb.c4) := (b13.out.below (za hWW h) b13.out.lt).cell 4;rw [e4] at hh; exact hh
   have c3w : ∀ W, Fr wr W → W.cell? ⟨w.heap.size, 3, none⟩ = some (.slice vp.A3 vp.n3 vp.c3) := fun W h => (A0.out.below (za FW1.out (za hWW h)) A0.out.lt).cell 3;have cP := ze1 (w := wr) (A := vb.A4) (c := vb.c4) (n := 0) (l := []) (A2 := vp.A3) (c2 := vp.c3) (B := wr.heap.size) Has.nil (Nat.le_refl _) rfl (by omega) ⟨fun m hm => by simp at hm, List.Pairwise.nil⟩ ((HP.out.fr (za h0 (za FW1.out hWW))).h3.has) (Nat.le_refl _) HP.out.l3 HP.out.s3 OP.out i (by have := HP.out.l3; have := Hi.out; omega);rw [show btw P.ps i ([] : List RM) = [] from rfl] at cP;have rwr := ze wr;have E3 := zb e3;have E2 := zb e2;have Hql := zb hql;clear hlt hjn et e3 e4 e2 hql hq c1;go_wp2_with fail;refine cP.mono ?_;rintro e w5 ⟨A9, c9, rfl, o9, f9⟩;have h14' := h14.out.below f9 h14.out.lt;have hO' := Own.below hO.out f9 (by have := h14.out.lt; omega);have F5 := za hWW f9;have zo := h14.out.lt;have tok : Hid (0 < 1) := zb (by decide);clear cP h14 hO
   go_upto_region 11 with (first
    | (clear tok; refine zp (ds := [.slice A9 0 c9]) sl_m rfl (.tmp 62) (.tmp 61) rfl W1.heap.size 4 rfl rfl rfl (zaV _ _ _) h14' (zaD _ (by decide)) (cs' := NV.cells ⟨true, B, q.length, cB, vb.A2, vb.n2, vb.c2, none, 0, 0, A9, 0, c9⟩) rfl ?_; intro W6 g14 u14)
    | fail)
   have F6 := u14.fr F5 (Nat.le_refl _);have hO6 := own_away hO' u14 (Nat.lt_succ_self _)
   have c3w : ∀ W, Fr W6 W → W.cell? ⟨w1.heap.size, 3, none⟩ = some (.slice vb.A3 0 vb.c3) := fun W h => by
    have hh : W.cell? ⟨w1.heap.size, 3, none⟩ = some (.slice vb.A3 vb.n3 vb.c3) := (b13.out.below (za F6 h) b13.out.lt).cell 3;rw [E3.out] at hh; exact hh
   have c0w : ∀ W, Fr W6 W → W.cell? ⟨w1.heap.size, 0, none⟩ = some (.bool true) := fun W h => by rw [← lB]; exact (b13.out.below (za F6 h) b13.out.lt).cell 0
   have l14 : ∀ W, Fr W6 W → (ldS 27 (.pointer (some ⟨W1.heap.size, 0, none⟩))).run Tryz.prog W = .ok (.agg (NV.cells ⟨true, B, q.length, cB, vb.A2, vb.n2, vb.c2, none, 0, 0, A9, 0, c9⟩).toArray) W := fun W h => zq.ld rfl (g14.below h g14.lt);have r6 := ze W6;have A6 := zb (A1.out.below (za FW1.out F6) A1.out.lt);go_wp2_with fail
   go_loopg [16] 1 (fun g s16 W => s16 = .int .i64 0 ∧ Hid (Fr W6 W))
   case atStart => exact ⟨rfl, zb r6⟩
   case round =>
    obtain ⟨rfl, hW7⟩ := hrel;have hW7' := hW7.out;have A7 := A6.out.below hW7' A6.out.lt;have tok : Hid (0 < 1) := zb (by decide)
    go_wp2_with (first
     | (clear tok; refine sN ⟨true, B, q.length, cB, vb.A2, vb.n2, vb.c2, none, 0, 0, A9, 0, c9⟩ 12 111 (w.heap.size + 1) A7 ?_; intro W8 k8 u8)
     | fail)
    refine bodyPost_ret (zq.result rfl _ (w.heap.size + 1) rfl rfl k8) rfl ?_;have F8 := u8.fr (za h0 (za FW1.out (za F6 hW7'))) (Nat.le_add_right _ _);have zw : w.heap.size + 2 ≤ W1.heap.size := Nat.le_trans hyn.out FW1.out.size;have o8 := own_away (Own.below hO6 hW7' (by have := g14.lt; omega)) u8 (by omega);refine ⟨⟨true, B, q.length, cB, vb.A2, vb.n2, vb.c2, none, 0, 0, A9, 0, c9⟩, rfl, zb ?_, F8⟩;rw [← hq'.out];refine ⟨rfl, (o8.hasP fun b hb => by omega), rfl, o8.cap, ?_, ?_, fun j u h => by simp [zS] at h, E2.out.symm, nB.out.k2, nB.out.s2, zR.nil, rfl, Nat.le_refl _, by simp, by intro m hm; simp at hm, fun j u h => by simp [zm] at h, rfl, Nat.zero_le _, by simp, by intro m hm; simp at hm⟩
    ·have := Hql.out; show q.length ≤ 100000; omega
    ·intro m hm
     rw [hq'.out] at hm;exact oL.wfe m (List.mem_filter.1 hm).1
end Go.Proofs.YtmjjjdikpnhpiaaGreat
