/- package law10's 'kid' of an inner node. -/
import Derived.Test.YtmjjjdikpnhpiaaGreatActKm
import Derived.Test.YtmjjjdikpnhpiaaGreatActKid
import Derived.Test.YtmjjjdikpnhpiaaGreatActXa
import Derived.Test.YtmjjjdikpnhpiaaGreatRp
import Derived.Handy
import Derived.Deep.CutBlock
import Derived.Deep.RegionHeld3
import Derived.Test.YtmjjjdikpnhpiaaGreatShort
namespace Go.Proofs.YtmjjjdikpnhpiaaGreat
set_option linter.unusedVariables false
set_option linter.unusedSimpArgs false
set_option maxRecDepth 100000
set_option linter.unusedSimpArgs false
open Go.RowKit
def kidI (P N : RN) (i : Nat) : RN := if N.ps.filter (fun x => decide (zbN P.ps (zu x) = i)) = [] then ⟨true, [], [], [], []⟩ else
 ⟨false, [], N.ks.take ((N.ps.filter (fun x => decide (zbN P.ps (zu x) = i))).length + 1), N.ps.filter (fun x => decide (zbN P.ps (zu x) = i)), btw P.ps i N.ms⟩
attribute [local go_sem ↓] zaP zt zbh
set_option maxHeartbeats 4000000 in
theorem kidI_at {w : World} {ok : Nat → Prop} {vp : NV} {P : RN} {i : Nat} {A2 A3 : Option Addr} {n2 c2 n3 c3 : Nat} {cs ls : List Int} (hp : NP w ok vp P) (oP : OkP P.ps) (hi : i ≤ P.ps.length)
 (hl : Has w w.heap.size A2 (cs.map (Value.int .i64))) (hn : cs.length = n2) (hs : ∀ z ∈ cs, zal z) (hb : n2 * 8 ≤ 140737488351232) (hl3 : Has w w.heap.size A3 (ls.map (Value.int .i64))) (hn3 : ls.length = n3) (hs3 : ∀ z ∈ ls, zal z) (hm3 : n3 ≤ maxLen) :
 Calls Tryz.prog 7 #[nv vp, .int .i64 i, .bool true, .slice none 0 0, .slice A2 n2 c2, .slice A3 n3 c3] w fun e w' => ∃ v, e = .returned (nv v) ∧ Hid (NP w' (fun b => w.heap.size ≤ b) v (kidI P (zdY cs 11 ls) i)) ∧ Fr w w' := by
 unfold nv;obtain ⟨Y, hY, h0, hy, hA⟩ := zaz [(vp.cells.toArray, 27), (zh.cells.toArray, 27)] w;have a0 : Arr Y (w.heap.size) 27 vp.cells.toArray := hA 0 _ rfl;have a1 : Arr Y (w.heap.size + 1) 27 zh.cells.toArray := hA 1 _ rfl;change (w.alloc (.cells vp.cells.toArray 27)).alloc (.cells #[.bool false, .slice none 0 0, .slice none 0 0, .slice none 0 0, .slice none 0 0] 27) = Y at hY;have hYY := ze Y;have hyn : Hid (w.heap.size + 2 ≤ Y.heap.size) := zb (by have := hy.out; simp only [List.length_cons, List.length_nil] at this; omega);clear hA hy;have h11 : zal 11 := by unfold zal; decide
 have cB := fun W (h : Fr w W) => zoV (w := W) (A := none) (n := 0) (c := 0) (B := 0) (ns := []) Has.nil (Nat.zero_le _) rfl (fun z hz => by simp at hz) (Nat.zero_le _);have cI := fun W (h : Fr w W) => zjw (w := W) (c := c2) (c2 := c3) (f := 11) (hl.fr (Nat.le_refl _) h) h.size hn hs h11 (hl3.fr (Nat.le_refl _) h) h.size hn3 hs3 hm3 hb;obtain ⟨oN, lN, opN, olN, -, lkN, mN⟩ := inn_facts cs 11 ls;have eN : (zdY cs 11 ls).es = [] := rfl;generalize zdY cs 11 ls = N at *;have HN := zb (And.intro oN (And.intro lN (And.intro opN (And.intro olN (And.intro lkN (And.intro mN eN))))));have HP := zb hp;have OP := zb oP;have Hi := zb hi;have A0 := zb a0;have A1 := zb a1;clear hl hn hs hb hl3 hn3 hs3 hm3 hp oP hi a0 a1 oN lN opN olN lkN mN eN h11;unfold nv at cB cI;go_enter Tryz.func7, Tryz.ntmps7;go_wp2_with fail;refine (cB _ h0).mono ?_;rintro e w1 ⟨vb, rfl, -, f1⟩;have zw1 := f1.size;obtain ⟨V1, hV1, fV1, n13⟩ : ∃ V, World.alloc w1 (.cells #[.bool false, .slice none 0 0, .slice none 0 0, .slice none 0 0, .slice none 0 0] 27) = V ∧ Fr w1 V ∧ Arr V w1.heap.size 27 zh.cells.toArray := ⟨_, rfl, zf (ze _) _, Arr.new _ _ _⟩;have tok : Hid (0 < 1) := zb (by decide);clear cB
 go_upto_region 3 with (first
  | (clear tok; refine zp (ds := vb.cells) zaw rfl (.tmp 13) (.tmp 18) rfl w1.heap.size 0 rfl rfl rfl (za6 _) n13 (zbi _) (zk _ _ (Nat.le_of_eq rfl)) ?_; intro W1 b13 u13)
  | fail)
 try simp only [Act.put]
 have f1W : Fr w1 W1 := u13.fr fV1 (Nat.le_refl _);have FW1 := za h0 (za f1 f1W);clear hV1 fV1 n13 u13;go_wp2_with fail;refine (cI _ FW1).mono ?_;rintro e w2 ⟨vn, rfl, hN, f2⟩;have hz13 := b13.lt;have b13 := b13.below f2 b13.lt;have tok : Hid (0 < 1) := zb (by decide);clear cI
 go_upto_region 4 with (first
  | (clear tok; refine zp (ds := vn.cells) zaw rfl (.tmp 13) (.tmp 22) rfl w1.heap.size 0 rfl rfl rfl (za6 _) b13 (zbi _) (zk _ _ (Nat.le_of_eq rfl)) ?_; intro W2 d13 u13)
  | fail)
 try simp only [Act.put]
 have f1W2 : Fr w1 W2 := u13.fr (za f1W f2) (Nat.le_refl _);have FW2 := za h0 (za f1 f1W2);have nN : Hid (NP W2 (fun b => w1.heap.size < b ∧ b < W2.heap.size) vn N) := zb (((hN.out.kept u13 (fun h => by have hq := h; omega)).weak fun b hb h => ⟨by have := h; omega, hb⟩));have lV : vn.lf = false := by rw [nN.out.lf]; exact HN.out.2.1
 have e1 : Hid (vn.n1 = 0) := zb (by rw [← nN.out.l1, HN.out.2.2.2.2.2.2]; rfl);clear b13 u13 hN f1W;obtain ⟨V3, hV3, fV3, n14⟩ : ∃ V, World.alloc W2 (.cells #[.bool false, .slice none 0 0, .slice none 0 0, .slice none 0 0, .slice none 0 0] 27) = V ∧ Fr W2 V ∧ Arr V W2.heap.size 27 zh.cells.toArray := ⟨_, rfl, zf (ze _) _, Arr.new _ _ _⟩;have c0 : ∀ W, Fr W2 W → W.cell? ⟨w1.heap.size, 0, none⟩ = some (.bool false) := fun W h => by rw [← lV]; exact (d13.below h d13.lt).cell 0
 have c2' : ∀ W, Fr W2 W → W.cell? ⟨w1.heap.size, 2, none⟩ = some (.slice vn.A2 vn.n2 vn.c2) := fun W h => (d13.below h d13.lt).cell 2;have rW2 := ze W2;have tok : Hid (0 < 1) := zb (by decide)
 go_wp2_with (first
  | (clear tok; refine zp (ds := NV.cells ⟨false, none, 0, 0, vn.A2, vn.n2, vn.c2, none, 0, 0, none, 0, 0⟩) zaw rfl (.tmp 14) (.tmp 27) rfl W2.heap.size 0 rfl rfl rfl (za6 _) n14 (zbi _) (zk _ _ (Nat.le_of_eq rfl)) ?_; intro W3 b14 u14)
  | fail)
 have f23 : Fr W2 W3 := u14.fr fV3 (Nat.le_refl _)
 have c1 : ∀ W, Fr W3 W → W.cell? ⟨w1.heap.size, 1, none⟩ = some (.slice vn.A1 0 vn.c1) := fun W h => by
  have hh : W.cell? ⟨w1.heap.size, 1, none⟩ = some (.slice vn.A1 vn.n1 vn.c1) := (d13.below (za f23 h) d13.lt).cell 1;rw [e1.out] at hh; exact hh
 have r3 := ze W3;have D13 := zb d13;have B14 := zb b14;clear hV3 fV3 n14 u14 c0 c2' rW2 d13 b14
 go_loopg [15] 1 (fun g s15 W => s15 = .int .i64 0 ∧ Hid (Fr W3 W))
 case atStart => exact ⟨rfl, zb r3⟩
 case round =>
  obtain ⟨rfl, hW4⟩ := hrel;obtain ⟨W4, eW⟩ : ∃ W, W = wr := ⟨_, rfl⟩;rw [← eW];rw [← eW] at hW4;have F34 := hW4.out;have c1w := c1 W4 F34;have F4 := za FW2 (za f23 F34);have c4 : W4.cell? ⟨w1.heap.size, 4, none⟩ = some (.slice vn.A4 vn.n4 vn.c4) := (D13.out.below (za f23 F34) D13.out.lt).cell 4;have c3 : W4.cell? ⟨w.heap.size, 3, none⟩ = some (.slice vp.A3 vp.n3 vp.c3) := (A0.out.below (za f1 (za f1W2 (za f23 F34))) A0.out.lt).cell 3;have hN4 := nN.out.fr (za f23 F34);have cP := ze1 (w := W4) (A := vn.A4) (c := vn.c4) (n := vn.n4) (l := N.ms) (A2 := vp.A3) (c2 := vp.c3) (B := W4.heap.size) hN4.h4.has (Nat.le_refl _) hN4.l4 hN4.s4 HN.out.2.2.2.1 ((HP.out.fr F4).h3.has) (Nat.le_refl _) HP.out.l3 HP.out.s3 OP.out i (by have := HP.out.l3; have := Hi.out; omega);have hpl : (btw P.ps i N.ms).length ≤ 5000 := Nat.le_trans (List.length_filter_le _ _) HN.out.2.2.2.2.2.1;have hwf : WfM (btw P.ps i N.ms) := fun m hm => (HN.out.2.2.2.1.good m (List.mem_filter.1 hm).1).1;have HB := zb (And.intro hpl hwf);generalize hbt : btw P.ps i N.ms = bt at *;have HT := zb hbt;clear hpl hwf hbt eW hN4;go_wp2_with fail;refine cP.mono ?_;rintro e w5 ⟨A9, c9, rfl, o9, f5⟩;have F5 := za F4 f5;have f35 := za F34 f5;have b14 := B14.out.below f35 B14.out.lt;have tok : Hid (0 < 1) := zb (by decide);clear cP c1w c4 c3
  go_wp2_with (first
   | (clear tok; refine zp (ds := [.slice A9 bt.length c9]) sl_m rfl (.tmp 62) (.tmp 61) rfl W2.heap.size 4 rfl rfl rfl (zaV _ _ _) b14 (zaD _ (by decide)) (cs' := NV.cells ⟨false, none, 0, 0, vn.A2, vn.n2, vn.c2, none, 0, 0, A9, bt.length, c9⟩) rfl ?_; intro W6 g14 u14)
   | fail)
  have hz14 := B14.out.lt;have z35 := f35.size;have z34 := F34.size;have f26 : Fr W2 W6 := u14.fr (za f23 f35) (Nat.le_refl _);have F6 := za FW2 f26;have p9 : zR w5 (fun b => W2.heap.size < b) A9 (zm mc bt) := Own.hasP o9 (fun b h => by omega);have p9 := zb (p9.kept u14 (fun h => by have := h; omega));have k9' := o9.cap;have G13 := zb (D13.out.below f26 D13.out.lt);have G6 := zb (A0.out.below (za f1 (za f1W2 f26)) A0.out.lt);have G12 := zb (A1.out.below (za f1 (za f1W2 f26)) A1.out.lt);have nN6 := zb (nN.out.fr f26);have hzY := hyn.out;have hz2 : w.heap.size + 2 ≤ W2.heap.size := Nat.le_trans hzY (Nat.le_trans zw1 f1W2.size);have hz1 : w.heap.size + 2 ≤ w1.heap.size := Nat.le_trans hzY zw1;have hz12 : w1.heap.size < W2.heap.size := D13.out.lt;have hz6 : W2.heap.size < W6.heap.size := g14.lt;have P14 := zb g14;have wid : Wid kc 9 N.ps := fun x _ => zl x;have hl3 := nN6.out.l3;have hnp : vn.n3 ≤ 100000 := nN6.out.s3;have r6 := KpG.refl W6 W2.heap.size;have HL3 := zb hl3;clear o9 u14 b14 g14 D13 B14 A0 A1 nN c1 r3 hW4 F34 f5 f35 F4 F5 f23 f26 hl3 e1
  go_loopg [16] vn.n3 (fun g s16 W => ∃ (j : Nat) (A : Option Addr) (c : Nat) (q : List RK), Hid (j + g = vn.n3) ∧ s16 = .int .i64 j ∧ Hid (q = (N.ps.take j).filter (fun x => decide (zbN P.ps (zu x) = i))) ∧ Hid (Arr W W2.heap.size 27 (NV.cells ⟨false, none, 0, 0, vn.A2, vn.n2, vn.c2, A, q.length, c, A9, bt.length, c9⟩).toArray) ∧ Hid (Own W W6.heap.size 33 9 A q.length c (zm kc q)) ∧ Hid (KpG W6 W2.heap.size W))
  case atStart => exact ⟨0, none, 0, [], zb (by omega), rfl, zb rfl, P14, zb (Own.nil _ _ _ _), zb r6⟩
  case round =>
   rename_i gk0 wr0 _;obtain ⟨j, A, c, q, Hj, rfl, hq, h14, hO, hK⟩ := hrel;have fF : Fr w wr := hK.out.below F6 F6.size (by omega);have g13 := hK.out.arr G13.out (by omega);have g6 := hK.out.arr G6.out (by omega);have d3 : wr.cell? ⟨w1.heap.size, 3, none⟩ = some (.slice vn.A3 vn.n3 vn.c3) := g13.cell 3;have d6 : wr.cell? ⟨w.heap.size, 3, none⟩ = some (.slice vp.A3 vp.n3 vp.c3) := g6.cell 3
   have hql : q.length ≤ vn.n3 := by
    rw [hq.out];exact Nat.le_trans (List.length_filter_le _ _) (by rw [List.length_take, HL3.out]; omega)
   by_cases hlt : j < vn.n3
   ·have hm : N.ps[j]? = some (N.ps[j]'(by have := HL3.out; omega)) := List.getElem?_eq_getElem _
    generalize N.ps[j]'(by have := HL3.out; omega) = x at hm;have nNw := nN6.out.kpg hK.out (fun h => by have := h.2; omega);obtain ⟨b, off, eA, hb1, hr⟩ := zJ nNw.h3.has wid (by decide) (by intro e; rw [e] at hm; simp at hm);rw [eA] at d3;have lX := z9 zaf hr wid hb1 hm
    have lY : ∀ W, KpG W6 W2.heap.size W → (ldS 33 (.pointer (some ⟨b, off + j * 9, none⟩))).run Tryz.prog W = .ok (.agg (kc x).toArray) W := fun W h => by
     obtain ⟨b2, off2, eA2, hb2, hr2⟩ := zJ (nN6.out.kpg h (fun h => by have := h.2; omega)).h3.has wid (by decide) (by intro e; rw [e] at hm; simp at hm);rw [eA] at eA2
     injection eA2 with eA2
     injection eA2 with q1 q2
     subst q1 q2;exact z9 zaf hr2 wid hb2 hm W (ze W)
    have lZ : ∀ W, KpG W6 W2.heap.size W → W.cell? ⟨w1.heap.size, 3, none⟩ = some (.slice (some ⟨b, off, none⟩) vn.n3 vn.c3) := fun W h => by rw [← eA]; exact (h.arr G13.out (by omega)).cell 3
    have gx := HN.out.2.2.1.good x (List.mem_of_getElem? hm);have wx := gx.1;have cK := fun W (h : Fr wr W) => rkid_at (W0 := W) (k := x) (c := vp.c3) (((HP.out.fr fF).fr h).h3.has) (Nat.le_refl _) HP.out.l3 HP.out.s3 OP.out gx.1 gx.2 (ze W);have hjz : (j : Int) < (vn.n3 : Int) := by omega
    have hjn := hlt;have hWW := ze wr
    have hq2 : Hid ((N.ps.take (j + 1)).filter (fun x => decide (zbN P.ps (zu x) = i)) = if zbN P.ps (zu x) = i then q ++ [x] else q) := zb (by
     rw [List.take_add_one, hm, List.filter_append, ← hq.out]
     by_cases hk : zbN P.ps (zu x) = i <;> simp [hk])
    have e3 : ∀ W, Fr wr W → W.cell? ⟨w1.heap.size, 3, none⟩ = some (.slice (some ⟨b, off, none⟩) vn.n3 vn.c3) := fun W h => by rw [← eA]; exact (g13.below h g13.lt).cell 3
    have e6 : ∀ W, Fr wr W → W.cell? ⟨w.heap.size, 3, none⟩ = some (.slice vp.A3 vp.n3 vp.c3) := fun W h => (g6.below h g6.lt).cell 3;have FD : Fr wr wr.drew := zn hWW
    by_cases hk : zbN P.ps (zu x) = i
    ·rw [hk] at cK
     rw [if_pos hk] at hq2;have hke : ((i : Int) == (i : Int)) = true := by simp
     clear hm hr hlt gx hk nNw;go_wp2_with fail;refine wp_region_noPanic ?_;refine wp_region_held_drew (S := fun W => Fr wr W) (by kernel_rfl) FD (fun hHeld => ?_);change wpAnyH _ _ _ _ _ _ _ _ _;generalize wr.drew = X0 at *;refine xto 0 ?_;refine xto 1 ?_;refine xto 2 ?_;refine xto 3 ?_;refine xto 4 ?_;refine xto 5 ?_;refine xto 6 ?_;refine xto 8 ?_;refine xr 7 fun K hK0 => ?_;go_simp;refine (cK X0 FD).mono ?_;rintro e X1 ⟨rfl, z1⟩;have S1 := za FD z1;go_simp;refine hK0.out _ _ S1 fun _ => ?_;clear hK0 K
     try simp only [xs, Act.put]
     refine xtb 9 true ?_;refine wpAnyH_done (by kernel_rfl) ?_ _;refine NoPanic.normal ?_;clear hHeld;have sD : Fr wr X1.drew := za S1 (zn (ze _));have A0' := h14.out.below sD h14.out.lt;have O0 := Own.below hO.out sD (Nat.le_refl _);have K0 := hK.out.fr sD;have F0 := za fF sD;clear e3 e6 cK lX d3 d6 h14 hO;go_wp2_with fail;refine wp_region_noPanic ?_;refine wp_region_held_drew (S := fun W => KpG W6 W2.heap.size W) (by kernel_rfl) K0 (fun hHeld => ?_);change wpAnyH _ _ _ _ _ _ _ _ _;generalize X1.drew = X0 at *;have l0 : X0.cell? ⟨W2.heap.size, 3, none⟩ = some (.slice A q.length c) := A0'.cell 3;have A0 := A0';clear A0';refine xto 0 ?_;refine xto 2 ?_;refine xto 3 ?_;refine xto 4 ?_;refine xto 5 ?_;refine xto 6 ?_;refine xrr 1 7 (fun K hK0 => ?_) fun K hK0 => ?_
     ·go_simp
      refine hK0.out _ _ K0 fun _ => ?_;clear hK0 K;refine xr 7 fun K hK0 => ?_;go_simp;refine hK0.out _ _ (K0.fr (zf (ze _) _)) fun _ => ?_;clear hK0 K;refine xr 8 fun K hK0 => ?_;refine step_app_el key_elem' keys_und' (by decide) rfl (.tmp 81) (.tmp 87) rfl rfl (O0.alloc _) (m := 1) (news := kc x) rfl (zl x) (zax _ (Arr.new _ _ _)) (zU x) (by unfold maxLen; omega) (by omega) (Nat.le_trans K0.size (zf (ze X0) _).size) ?_;intro Aq cq X1 O1 g1;have ne1 : some W2.heap.size ≠ blk A := fun e => by have := (O0.lt _ e.symm).1; omega
      have A1 := (g1.block _ (by have := A0.lt; simp; omega) ne1).trans (A0.alloc _);have K1 := (K0.fr (zf (ze _) _)).grow g1 (fun k e => (O0.lt k e).1);have F1 : Fr w X1 := K1.below F6 F6.size (by omega);refine hK0.out _ _ K1 fun _ => ?_;clear hK0 K
      try simp only [xs, Act.put]
      refine xto 9 ?_;refine xr 10 fun K hK0 => ?_;refine step_put (ds := [.slice Aq (q.length + 1) cq]) sl_k (by rfl) (.tmp 89) (.tmp 88) rfl W2.heap.size 3 rfl rfl rfl (zaV _ _ _) A1 (zaD _ (by decide)) (cs' := NV.cells ⟨false, none, 0, 0, vn.A2, vn.n2, vn.c2, Aq, q.length + 1, cq, A9, bt.length, c9⟩) rfl ?_;intro X2 A2 k2;have K2 := K1.trans k2;have O2 := O1.kpg k2 (by omega);have F2 : Fr w X2 := K2.below F6 F6.size (by omega);refine hK0.out _ _ K2 fun _ => ?_;clear hK0 K
      try simp only [xs, Act.put]
      refine wpAnyH_done (by kernel_rfl) ?_ _;refine NoPanic.normal ?_;clear hHeld;go_wp2_with fail
      go_roundg (gk - 1)
      case measure => have := Hj.out; omega
      case rel => exact ⟨j + 1, Aq, cq, q ++ [x], zb (by have := Hj.out; omega), (by first | rfl | go_num), zb hq2.out.symm, zb (by rw [List.length_append]; exact A2), zb (by rw [List.length_append, zas, zbj]; exact O2), zb K2⟩
     ·have m0 : ∀ o, (X0.alloc o).cell? ⟨W2.heap.size, 3, none⟩ = some (.slice A q.length c) := fun o => (A0.alloc o).cell 3
      go_simp;refine hK0.out _ _ (K0.fr (zf (ze _) _)) fun _ => ?_;clear hK0 K;refine xr 1 fun K hK0 => ?_;go_simp;refine hK0.out _ _ (K0.fr (zf (ze _) _)) fun _ => ?_;clear hK0 K;refine xr 8 fun K hK0 => ?_;refine step_app_el key_elem' keys_und' (by decide) rfl (.tmp 81) (.tmp 87) rfl rfl (O0.alloc _) (m := 1) (news := kc x) rfl (zl x) (zax _ (Arr.new _ _ _)) (zU x) (by unfold maxLen; omega) (by omega) (Nat.le_trans K0.size (zf (ze X0) _).size) ?_;intro Aq cq X1 O1 g1;have ne1 : some W2.heap.size ≠ blk A := fun e => by have := (O0.lt _ e.symm).1; omega
      have A1 := (g1.block _ (by have := A0.lt; simp; omega) ne1).trans (A0.alloc _);have K1 := (K0.fr (zf (ze _) _)).grow g1 (fun k e => (O0.lt k e).1);have F1 : Fr w X1 := K1.below F6 F6.size (by omega);refine hK0.out _ _ K1 fun _ => ?_;clear hK0 K
      try simp only [xs, Act.put]
      refine xto 9 ?_;refine xr 10 fun K hK0 => ?_;refine step_put (ds := [.slice Aq (q.length + 1) cq]) sl_k (by rfl) (.tmp 89) (.tmp 88) rfl W2.heap.size 3 rfl rfl rfl (zaV _ _ _) A1 (zaD _ (by decide)) (cs' := NV.cells ⟨false, none, 0, 0, vn.A2, vn.n2, vn.c2, Aq, q.length + 1, cq, A9, bt.length, c9⟩) rfl ?_;intro X2 A2 k2;have K2 := K1.trans k2;have O2 := O1.kpg k2 (by omega);have F2 : Fr w X2 := K2.below F6 F6.size (by omega);refine hK0.out _ _ K2 fun _ => ?_;clear hK0 K
      try simp only [xs, Act.put]
      refine wpAnyH_done (by kernel_rfl) ?_ _;refine NoPanic.normal ?_;clear hHeld;go_wp2_with fail
      go_roundg (gk - 1)
      case measure => have := Hj.out; omega
      case rel => exact ⟨j + 1, Aq, cq, q ++ [x], zb (by have := Hj.out; omega), (by first | rfl | go_num), zb hq2.out.symm, zb (by rw [List.length_append]; exact A2), zb (by rw [List.length_append, zas, zbj]; exact O2), zb K2⟩
    ·have hke : (((zbN P.ps (zu x) : Nat) : Int) == (i : Int)) = false := by rw [beq_eq_false_iff_ne]; omega
     rw [if_neg hk] at hq2;generalize zbN P.ps (zu x) = kk at *;clear hm hr hlt gx hk nNw;go_wp2_with fail;refine wp_region_noPanic ?_;refine wp_region_held_drew (S := fun W => Fr wr W) (by kernel_rfl) FD (fun hHeld => ?_);change wpAnyH _ _ _ _ _ _ _ _ _;generalize wr.drew = X0 at *;refine xto 0 ?_;refine xto 1 ?_;refine xto 2 ?_;refine xto 3 ?_;refine xto 4 ?_;refine xto 5 ?_;refine xto 6 ?_;refine xto 8 ?_;refine xr 7 fun K hK0 => ?_;go_simp;refine (cK X0 FD).mono ?_;rintro e X1 ⟨rfl, z1⟩;have S1 := za FD z1;go_simp;refine hK0.out _ _ S1 fun _ => ?_;clear hK0 K
     try simp only [xs, Act.put]
     refine xtb 9 false ?_;refine wpAnyH_done (by kernel_rfl) ?_ _;refine NoPanic.normal ?_;clear hHeld;have KX := zb (hK.out.fr S1);have h14' := zb (h14.out.below S1 h14.out.lt);have hO' := zb (Own.below hO.out S1 (Nat.le_refl _));go_wp2_with fail
     go_roundg (gk - 1)
     case measure => have := Hj.out; omega
     case rel => exact ⟨j + 1, A, c, q, zb (by have := Hj.out; omega), (by first | rfl | go_num), zb hq2.out.symm, h14', hO', KX⟩
   ·have hjn : j = vn.n3 := by have := Hj.out; omega
    have hjz : ¬ (j : Int) < (vn.n3 : Int) := by omega
    have et : N.ps.take j = N.ps := List.take_of_length_le (by have := HL3.out; omega);have hq' : Hid (q = N.ps.filter (fun x => decide (zbN P.ps (zu x) = i))) := zb (by rw [hq.out, et]);have d0 : wr.cell? ⟨w1.heap.size, 0, none⟩ = some (.bool false) := by rw [← lV]; exact g13.cell 0
    have d2 : wr.cell? ⟨w1.heap.size, 2, none⟩ = some (.slice vn.A2 vn.n2 vn.c2) := g13.cell 2;have b3 : wr.cell? ⟨W2.heap.size, 3, none⟩ = some (.slice A q.length c) := h14.out.cell 3;have hq100 : q.length ≤ 100000 := by omega
    have g12 := hK.out.arr G12.out (by omega);have nNw := zb (nN6.out.kpg hK.out (fun h => by have := h.2; omega));have p9w := zb (p9.out.kpg hK.out (fun h => by have := h; omega));have hkk : Hid (q.length + 1 ≤ N.ks.length) := zb (by have := HN.out.2.2.2.2.1; have := HL3.out; omega);have hcap : (q.length : Int) + 1 ≤ (vn.c2 : Int) := by have := nNw.out.k2; have := nNw.out.l2; have := hkk.out; omega
    have rwr := ze wr;have hzw := hK.out.size;clear hlt hjn et hq
    by_cases hz : q = []
    ·have e0 : q.length = 0 := by rw [hz]; rfl
     have EK : Hid (kidI P N i = ⟨true, [], [], [], []⟩) := zb (by unfold kidI; rw [← hq'.out, if_pos hz]);rw [e0] at b3;have Hz := zb hz;clear hz e0;have tok1 : Hid (0 < 1) := zb (by decide);have tok2 : Hid (0 < 1) := zb (by decide);have h14' := h14.out
     go_wp2_with (first
      | (clear tok1; refine zp (ds := NV.cells ⟨true, none, 0, 0, none, 0, 0, none, 0, 0, none, 0, 0⟩) zaw rfl (.tmp 14) (.tmp 110) rfl W2.heap.size 0 rfl rfl rfl (za6 _) h14' (zbi _) (zk _ _ (Nat.le_of_eq rfl)) ?_; intro W8 k8 u8
         have m12 := u8.other g12 (by omega);have l8 : (ldS 27 (.pointer (some ⟨W2.heap.size, 0, none⟩))).run Tryz.prog W8 = .ok (.agg (NV.cells ⟨true, none, 0, 0, none, 0, 0, none, 0, 0, none, 0, 0⟩).toArray) W8 := zq.ld rfl k8)
      | (clear tok2; refine zp (ds := NV.cells ⟨true, none, 0, 0, none, 0, 0, none, 0, 0, none, 0, 0⟩) zaw rfl (.tmp 12) (.tmp 111) rfl (w.heap.size + 1) 0 rfl rfl rfl (za6 _) m12 (zbi _) (zk _ _ (Nat.le_of_eq rfl)) ?_; intro W9 k9 u9)
      | fail)
     refine bodyPost_ret (zq.result rfl _ (w.heap.size + 1) rfl rfl k9) rfl ?_;have F8 : Fr w W8 := u8.fr fF (by omega);have F9 : Fr w W9 := u9.fr F8 (by omega);exact ⟨⟨true, none, 0, 0, none, 0, 0, none, 0, 0, none, 0, 0⟩, rfl, zb (by rw [EK.out]; exact ⟨rfl, zR.nil, rfl, Nat.le_refl _, Nat.zero_le _, fun m hm => by simp at hm, zR.nil, rfl, Nat.le_refl _, Nat.zero_le _, zR.nil, rfl, Nat.le_refl _, Nat.zero_le _, fun m hm => by simp at hm, zR.nil, rfl, Nat.le_refl _, Nat.zero_le _, fun m hm => by simp at hm⟩), F9⟩
    ·have e0 : 0 < (q.length : Int) := by have := List.length_pos_iff.2 hz; omega
     have EK : Hid (kidI P N i = ⟨false, [], N.ks.take (q.length + 1), q, bt⟩) := zb (by unfold kidI; rw [← hq'.out, if_neg hz, HT.out]);have Hz := zb hz;clear hz;have tok1 : Hid (0 < 1) := zb (by decide);have tok2 : Hid (0 < 1) := zb (by decide);have h14' := h14.out
     obtain ⟨kb, ko, eK2⟩ : ∃ kb ko, vn.A2 = some ⟨kb, ko, none⟩ := by
      have h0 : N.ks[0]? = some (N.ks[0]'(by have := hkk.out; omega)) := List.getElem?_eq_getElem _;obtain ⟨kb, ko, ea, -, -⟩ := nNw.out.h2 0 (.int .i64 (N.ks[0]'(by have := hkk.out; omega))) (by simp [zS, h0]);exact ⟨kb, ko, ea⟩
     rw [eK2] at d2;have EK2 := zb eK2;have hw1 : IntKind.i64.wrap ((q.length : Int) + 1) = (q.length : Int) + 1 := by rw [IntKind.wrap_i64]; omega
     clear eK2
     go_wp2_with (first
      | (clear tok1; refine zp (ds := [.slice (some ⟨kb, ko, none⟩) (q.length + 1) vn.c2]) sl_i rfl (.tmp 106) (.tmp 105) rfl W2.heap.size 2 rfl rfl rfl (zaV _ _ _) h14' (zaD _ (by decide)) (cs' := NV.cells ⟨false, none, 0, 0, some ⟨kb, ko, none⟩, q.length + 1, vn.c2, A, q.length, c, A9, bt.length, c9⟩) rfl ?_; intro W8 k8 u8
         have m12 := u8.other g12 (by omega);have l8 : (ldS 27 (.pointer (some ⟨W2.heap.size, 0, none⟩))).run Tryz.prog W8 = .ok (.agg (NV.cells ⟨false, none, 0, 0, some ⟨kb, ko, none⟩, q.length + 1, vn.c2, A, q.length, c, A9, bt.length, c9⟩).toArray) W8 := zq.ld rfl k8)
      | (clear tok2; refine zp (ds := NV.cells ⟨false, none, 0, 0, some ⟨kb, ko, none⟩, q.length + 1, vn.c2, A, q.length, c, A9, bt.length, c9⟩) zaw rfl (.tmp 12) (.tmp 111) rfl (w.heap.size + 1) 0 rfl rfl rfl (za6 _) m12 (zbi _) (zk _ _ (Nat.le_of_eq rfl)) ?_; intro W9 k9 u9)
      | fail)
     refine bodyPost_ret (zq.result rfl _ (w.heap.size + 1) rfl rfl k9) rfl ?_;have F8 : Fr w W8 := u8.fr fF (by omega);have F9 : Fr w W9 := u9.fr F8 (by omega);have m2 := ((((nNw.out.h2.take (q.length + 1)).kept u8 (fun h => by have := h.2; omega)).kept u9 (fun h => by have := h.1; omega)).weak (ok' := fun b => w.heap.size ≤ b) (fun b hb h => by have := h.1; omega));have m3 := (own_away (own_away hO.out u8 (by omega)) u9 (by omega)).hasP (ok := fun b => w.heap.size ≤ b) (fun b hb => by omega);have m4 := (((p9w.out.kept u8 (fun h => by have := h; omega)).kept u9 (fun h => by have := h; omega)).weak (ok' := fun b => w.heap.size ≤ b) (fun b hb h => by have := h; omega));have hk2 := nNw.out.l2;have hc2 := nNw.out.k2;have hs2 := nNw.out.s2;rw [EK2.out] at m2;have et : (zS N.ks).take (q.length + 1) = zS (N.ks.take (q.length + 1)) := by simp [zS, List.map_take]
     rw [et] at m2;refine ⟨⟨false, none, 0, 0, some ⟨kb, ko, none⟩, q.length + 1, vn.c2, A, q.length, c, A9, bt.length, c9⟩, rfl, zb ?_, F9⟩;rw [EK.out];exact ⟨rfl, zR.nil, rfl, Nat.le_refl _, Nat.zero_le _, fun m hm => by simp at hm, m2, by rw [List.length_take]; have := hkk.out; show min (q.length + 1) N.ks.length = q.length + 1; omega, by have := hkk.out; show q.length + 1 ≤ vn.c2; omega, by have := hkk.out; show q.length + 1 ≤ 100000; omega, m3, rfl, hO.out.cap, hq100, fun k hk => (HN.out.2.2.1.good k (by rw [hq'.out] at hk; exact (List.mem_filter.1 hk).1)).1, m4, rfl, k9', by have := HB.out.1; show bt.length ≤ 100000; omega, HB.out.2⟩
end Go.Proofs.YtmjjjdikpnhpiaaGreat
