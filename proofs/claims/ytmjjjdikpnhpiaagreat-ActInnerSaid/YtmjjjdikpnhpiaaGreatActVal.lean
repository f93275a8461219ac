/- A key's value, folded from a leaf up: the laws' own function. -/
import Derived.Test.YtmjjjdikpnhpiaaGreatActA
import Derived.Test.YtmjjjdikpnhpiaaGreatRp
import Derived.Test.YtmjjjdikpnhpiaaGreatMsgF
import Derived.Test.YtmjjjdikpnhpiaaGreatLfF
import Derived.Test.YtmjjjdikpnhpiaaGreatShort
namespace Go.Proofs.YtmjjjdikpnhpiaaGreat
set_option linter.unusedVariables false
set_option linter.unusedSimpArgs false
set_option maxRecDepth 100000
open Go.RowKit
def app1 (m : Option RM) (o : Option RV) : Option RV := match m with | some m => zhJ m o | none => o
def upO (k : RK) (us : List (NV × RN)) (o : Option RV) : Option RV := us.foldl (fun o p => app1 (zaj p.2.ms k) o) o
theorem upO_take {k : RK} {us : List (NV × RN)} {o : Option RV} {j : Nat} {p : NV × RN} (h : us[j]? = some p) : upO k (us.take (j + 1)) o = app1 (zaj p.2.ms k) (upO k (us.take j) o) := by
 unfold upO;rw [List.take_add_one, h, List.foldl_append];rfl
theorem appO_good {m : RM} (wm : m.wf) (om : okM m = true) {o : Option RV} (ho : ∀ v, o = some v → v.wf ∧ okV v = true) : ∀ v, zhJ m o = some v → v.wf ∧ okV v = true := fun v h => by
 unfold zhJ at h
 split at h
 ·injection h with h
  rw [← h];refine ⟨zgj ?_ wm, appV_ok om⟩
  cases o with
  | none => exact zcA
  | some x => exact (ho x rfl).1
 ·cases h
theorem app1_good {m : Option RM} (hm : ∀ x, m = some x → x.wf ∧ okM x = true) {o : Option RV} (ho : ∀ v, o = some v → v.wf ∧ okV v = true) : ∀ v, app1 m o = some v → v.wf ∧ okV v = true := by
 cases m with
 | none => exact ho
 | some x => exact appO_good (hm x rfl).1 (hm x rfl).2 ho
theorem upO_good {k : RK} : ∀ {us : List (NV × RN)} {o : Option RV}, (∀ p ∈ us, zcq p.2.ms) → (∀ v, o = some v → v.wf ∧ okV v = true) → ∀ v, upO k us o = some v → v.wf ∧ okV v = true
 | [], _, _, ho => ho
 | p :: us, o, hu, ho => upO_good (us := us) (o := app1 (zaj p.2.ms k) o) (fun q hq => hu q (List.mem_cons_of_mem _ hq)) (app1_good (fun x hx => hu p (by simp) x (zjm hx).1) ho)
theorem appO_pair {m : RM} {o : Option RV} : zbx (o.getD zE) o.isSome m = (zhJ m o).getD zE ∧ zcy m = (zhJ m o).isSome := by
 unfold zhJ
 by_cases h : zcy m = true
 ·rw [if_pos h]; exact ⟨rfl, by rw [h]; rfl⟩
 ·rw [if_neg h]
  refine ⟨?_, by simpa using h⟩;have h2 : m.kind = 2 := by unfold zcy at h; simpa using h
  unfold zbx;rw [if_neg (by omega), if_pos h2]; rfl
theorem o_wf {o : Option RV} (ho : ∀ v, o = some v → v.wf ∧ okV v = true) : (o.getD zE).wf := by
 cases o with
 | none => exact zcA
 | some x => exact (ho x rfl).1
theorem o_ok {o : Option RV} (ho : ∀ v, o = some v → v.wf ∧ okV v = true) : o.isSome = true → okV (o.getD zE) = true := by
 cases o with
 | none => intro h; cases h
 | some x => intro _; exact (ho x rfl).2
attribute [local go_sem ↓] zt zae zw
set_option maxHeartbeats 4000000 in
theorem value_at {w : World} {ok : Nat → Prop} {vl : NV} {L : RN} {k : RK} {A : Option Addr} {n c : Nat} {us : List (NV × RN)} (hl : NP w ok vl L) (oe : OkE L.es) (wk : k.wf) (hU : Has w w.heap.size A (zm (fun p : NV × RN => p.1.cells) us)) (hn : us.length = n) (hn9 : n ≤ 1000)
 (hN : ∀ p ∈ us, NP w ok p.1 p.2 ∧ zcq p.2.ms) :
 Calls Tryz.prog 9 #[nv vl, kv k, .slice A n c] w fun e w' => e = .returned (zmv (upO k us (zO L.es k))) ∧ Fr w w' := by
 unfold nv;obtain ⟨Y, hY, h0, hy, hA⟩ := zaz [(vl.cells.toArray, 27), ((kc k).toArray, 33), ((vc zE).toArray, 37)] w;have a0 : Arr Y (w.heap.size) 27 vl.cells.toArray := hA 0 _ rfl;have a1 : Arr Y (w.heap.size + 1) 33 (kc k).toArray := hA 1 _ rfl;have a2 : Arr Y (w.heap.size + 2) 37 (vc zE).toArray := hA 2 _ rfl;change ((w.alloc (.cells vl.cells.toArray 27)).alloc (.cells (kc k).toArray 33)).alloc (.cells (vc zE).toArray 37) = Y at hY;rw [zc7] at hY;have hYY := ze Y;have hyn : Hid (w.heap.size + 3 ≤ Y.heap.size) := zb (by have := hy.out; simp only [List.length_cons, List.length_nil] at this; omega);clear hA hy;have c1 : ∀ W, Fr Y W → W.cell? ⟨w.heap.size, 1, none⟩ = some (.slice vl.A1 vl.n1 vl.c1) := fun W h => (a0.below h a0.lt).cell 1;have lk : ∀ W, Fr Y W → (ldS 33 (.pointer (some ⟨w.heap.size + 1, 0, none⟩))).run Tryz.prog W = .ok (.agg (kc k).toArray) W := fun W h => zaf.ld (zl k) (a1.below h a1.lt);have cE : ∀ W, Fr Y W → Calls Tryz.prog 23 #[.slice vl.A1 vl.n1 vl.c1, kv k] W fun e w' => e = .returned (zmv (zO L.es k)) ∧ Fr W w' := fun W h => ziL ((hl.fr (za h0 h)).h1.has) (Nat.le_refl _) hl.l1 hl.s1 hl.w1 wk;have hUY : Hid (Has Y w.heap.size A (zm (fun p : NV × RN => p.1.cells) us)) := zb (hU.fr (Nat.le_refl _) h0)
 have HN : Hid (∀ p ∈ us, NP Y ok p.1 p.2 ∧ zcq p.2.ms) := zb fun p hp => ⟨(hN p hp).1.fr h0, (hN p hp).2⟩;have Hn := zb hn;have wid : Wid (fun p : NV × RN => p.1.cells) 5 us := fun p _ => rfl;have oo : Hid (∀ v, zO L.es k = some v → v.wf ∧ okV v = true) := zb fun v h => ze2 oe h;have A2 := zb a2;have wkH := zb wk;have h0s := zb h0.size;have h0H := zb h0;generalize zO L.es k = o0 at *;have hx0 := zb (zD (o_wf oo.out).hl);have hz17 : Hid ((vc zE).length = 17) := zb rfl;have hz29 : Hid ((mc za0).length = 29) := zb rfl;clear hl oe hU hn hN a0 a1 a2 wk h0;unfold zmv vv at cE ⊢;go_enter Tryz.func9, Tryz.ntmps9;go_wp2_with fail;refine (cE _ hYY).mono ?_;rintro e w1 ⟨rfl, f1⟩;obtain ⟨V1, hV1, fV1, n8⟩ : ∃ V, World.alloc w1 (.cells (vc zE).toArray 37) = V ∧ Fr w1 V ∧ Arr V w1.heap.size 37 (vc zE).toArray := ⟨_, rfl, zf (ze _) _, Arr.new _ _ _⟩;rw [zc7] at hV1;have F1 := za f1 fV1;have z1 := f1.size;have tok : Hid (0 < 1) := zb (by decide);clear cE
 go_wp2_with (first
  | (clear tok; refine zp (ds := vc (o0.getD zE)) zad rfl (.tmp 8) (.tmp 18) rfl w1.heap.size 0 rfl rfl hx0.out (zar _) n8 (Nat.le_of_eq hz17.out.symm) (zk _ _ (Nat.le_of_eq (hz17.out.trans hx0.out.symm))) ?_; intro W1 b8 u8)
  | fail)
 have FW1 := zb (u8.fr F1 z1);have A3 := zb (u8.other (A2.out.below F1 A2.out.lt) (by have := hyn.out; omega));have zw1 := zb z1;have b8 := zb b8;clear u8 n8 fV1 hV1 f1 F1 A2 z1
 go_loopg [9, 10] n (fun g s9 s10 wr => ∃ j : Nat, j + g = n ∧ s10 = .int .i64 j ∧ s9 = .bool (upO k (us.take j) o0).isSome ∧ Hid (Arr wr w1.heap.size 37 (vc ((upO k (us.take j) o0).getD zE)).toArray) ∧ Hid (Arr wr (w.heap.size + 2) 37 (vc zE).toArray) ∧ Hid (Fr Y wr))
 case atStart => exact ⟨0, by omega, rfl, rfl, b8, A3, FW1⟩
 case round =>
  obtain ⟨j, hj, rfl, rfl, hB, hC, hF⟩ := hrel
  by_cases hlt : j < n
  ·have hm : us[j]? = some (us[j]'(by rw [Hn.out]; exact hlt)) := List.getElem?_eq_getElem _
   generalize us[j]'(by rw [Hn.out]; exact hlt) = p at hm;obtain ⟨b, off, rfl, hb1, hr⟩ := zJ hUY.out wid (by decide) (by intro e; rw [e] at hm; simp at hm);have c4 : ∀ W, Fr Y W → W.cell? ⟨b, off + j * 5 + 4, none⟩ = some (.slice p.1.A4 p.1.n4 p.1.c4) := znT hr wid (Nat.lt_of_lt_of_le hb1 h0s.out) hm rfl;obtain ⟨hp, hg⟩ := HN.out p (List.mem_of_getElem? hm);have cM : ∀ W, Fr Y W → Calls Tryz.prog 24 #[.slice p.1.A4 p.1.n4 p.1.c4, kv k] W fun e w' => e = .returned (findV (zaj p.2.ms k)) ∧ Fr W w' := fun W h => ref_find ((hp.fr h).h4.has) (Nat.le_refl _) hp.l4 hp.s4 hp.w4 wkH.out;have Hs := zb (upO_take (k := k) (o := o0) hm);have hgo : Hid (∀ v, upO k (us.take j) o0 = some v → v.wf ∧ okV v = true) := zb (upO_good (fun q hq => (HN.out q (List.mem_of_mem_take hq)).2) oo.out);have gm : Hid (∀ x, zaj p.2.ms k = some x → x.wf ∧ okM x = true) := zb fun x hx => hg x (zjm hx).1;generalize upO k (us.take j) o0 = o at *;generalize zaj p.2.ms k = m at *;have hlm : Hid ((mc (m.getD za0)).length = 29) := zb (znX (fun x hx => (gm.out x hx).1));have hjz : (j : Int) < (n : Int) := by omega
   have hWW := hF.out;clear hm hp hg hr hlt;unfold findV mm at cM
   go_upto_region 5 with fail
   go_cut [11, 12] from 26 to 35 (fun s11 s12 wx => ∃ g : Nat, s11 = .pointer (some ⟨g, 0, none⟩) ∧ s12 = .bool m.isSome ∧ Hid (wr.heap.size ≤ g) ∧ Arr wx g 64 (mc (m.getD za0)).toArray ∧ Fr wr wx)
   case first =>
    have hX0 : Fr wr wr.drew := zn (ze wr);refine wp_region_noPanic ?_;refine wp_region_held_drew (S := fun w' => Fr wr w') (by kernel_rfl) hX0 (fun hHeld => ?_);change wpAnyH _ _ _ _ _ _ _ _ _;have c4 : ∀ W, Fr wr W → W.cell? ⟨b, off + j * 5 + 4, none⟩ = some (.slice p.1.A4 p.1.n4 p.1.c4) := fun W h => c4 W (za hWW h);have lk : ∀ W, Fr wr W → (ldS 33 (.pointer (some ⟨w.heap.size + 1, 0, none⟩))).run Tryz.prog W = .ok (.agg (kc k).toArray) W := fun W h => lk W (za hWW h);generalize wr.drew = X0 at *;refine xto 0 ?_;refine xto 1 ?_;refine xto 2 ?_;refine xto 3 ?_;refine xto 4 ?_;refine xto 5 ?_;refine xrr 6 10 (fun K hK0 => ?_) fun K hK0 => ?_
    ·go_simp
     refine (cM X0 (za hWW hX0)).mono ?_;rintro e y1 ⟨rfl, fy1⟩;go_simp;have hy1 : Fr wr y1 := za hX0 fy1;refine xk hK0 hy1 ?_;clear hK0 K
     try simp only [xs, Act.put]
     refine xto 7 ?_;refine xto 8 ?_;refine xto 9 ?_;refine xr 10 fun K hK0 => ?_;go_simp;obtain ⟨y2, ey2, fy2, aG⟩ := zoS y1 (mc za0).toArray 64;rw [zdM] at ey2;rw [ey2];have zG : wr.heap.size ≤ y1.heap.size := hy1.size;have hy2 : Fr wr y2 := za hy1 fy2;refine xk hK0 hy2 ?_;clear hK0 K;refine xr 11 fun K hK0 => ?_;refine zy (ds := mc (m.getD za0)) zX (by rfl) (.tmp 11) (.tmp 34) rfl (y1.heap.size) 0 rfl rfl hlm.out (zay _) aG (Nat.le_of_eq hz29.out.symm) (zk _ _ (Nat.le_of_eq (hz29.out.trans hlm.out.symm))) ?_;intro x1 k1 q1;have hx1 := q1.fr hy2 zG;refine xk hK0 hx1 ?_;clear hK0 K
     try simp only [xs, Act.put]
     refine xto 12 ?_;refine wpAnyH_done (by kernel_rfl) ?_ _;refine NoPanic.normal ?_;go_wp2_with fail;go_meet;exact ⟨_, rfl, rfl, zb zG, k1, hx1⟩
    ·go_simp
     obtain ⟨y3, ey3, fy3, aG⟩ := zoS X0 (mc za0).toArray 64;rw [zdM] at ey3;rw [ey3];have zG : wr.heap.size ≤ X0.heap.size := hX0.size;have hy3 : Fr wr y3 := za hX0 fy3;refine xk hK0 hy3 ?_;clear hK0 K;refine xr 6 fun K hK0 => ?_;go_simp;refine (cM y3 (za hWW hy3)).mono ?_;rintro e y4 ⟨rfl, fy4⟩;go_simp;have hy4 : Fr wr y4 := za hy3 fy4;have aG := aG.below fy4 aG.lt;refine xk hK0 hy4 ?_;clear hK0 K
     try simp only [xs, Act.put]
     refine xto 7 ?_;refine xto 8 ?_;refine xto 9 ?_;refine xr 11 fun K hK0 => ?_;refine zy (ds := mc (m.getD za0)) zX (by rfl) (.tmp 11) (.tmp 34) rfl (X0.heap.size) 0 rfl rfl hlm.out (zay _) aG (Nat.le_of_eq hz29.out.symm) (zk _ _ (Nat.le_of_eq (hz29.out.trans hlm.out.symm))) ?_;intro x1 k1 q1;have hx1 := q1.fr hy4 zG;refine xk hK0 hx1 ?_;clear hK0 K
     try simp only [xs, Act.put]
     refine xto 12 ?_;refine wpAnyH_done (by kernel_rfl) ?_ _;refine NoPanic.normal ?_;go_wp2_with fail;go_meet;exact ⟨_, rfl, rfl, zb zG, k1, hx1⟩
   case rest =>
    obtain ⟨g, e11, e12, hg, bM, fc⟩ := hcut;subst e11 e12;have b8 := hB.out.below fc hB.out.lt;have b2 := hC.out.below fc hC.out.lt;have FC := za hWW fc;have zg := hg.out;have z8 := hB.out.lt
    cases m with
    | none =>
     go_wp2_with fail
     go_roundg (gk - 1)
     case measure => omega
     case rel => exact ⟨j + 1, by omega, rfl, by rw [Hs.out]; rfl, by rw [Hs.out]; exact zb b8, zb b2, zb FC⟩
    | some m =>
     have lm : ∀ W, Fr wc W → (ldS 64 (.pointer (some ⟨g, 0, none⟩))).run Tryz.prog W = .ok (.agg (mc m).toArray) W := fun W h => za4.ld hlm.out (bM.below h bM.lt);have l8 : ∀ W, Fr wc W → (ldS 37 (.pointer (some ⟨w1.heap.size, 0, none⟩))).run Tryz.prog W = .ok (.agg (vc (o.getD zE)).toArray) W := fun W h => zbs.ld (zD (o_wf hgo.out).hl) (b8.below h b8.lt);have cA := ziu (W0 := wc) (W := wc) (o_wf hgo.out) (o_ok hgo.out) (gm.out m rfl).1 (gm.out m rfl).2 (ze wc);unfold vv mm at cA;have rcc := ze wc;have hl8 := zb (zD (o_wf hgo.out).hl);have hlA := zb (zD (zgj (v := o.getD zE) (t := o.isSome) (o_wf hgo.out) (gm.out m rfl).1).hl);go_wp2_with fail;refine cA.mono ?_;rintro e w9 ⟨rfl, f9⟩;have b8' := b8.below f9 b8.lt;have b2' := b2.below f9 b2.lt;have F9 := za FC f9;have tok : Hid (0 < 1) := zb (by decide);clear cA lm l8
     go_wp2_with (first
      | (clear tok; refine zp (ds := vc (zbx (o.getD zE) o.isSome m)) zad rfl (.tmp 8) (.tmp 42) rfl w1.heap.size 0 rfl rfl hlA.out (zar _) b8' (Nat.le_of_eq hl8.out.symm) (zk _ _ (Nat.le_of_eq (hl8.out.trans hlA.out.symm))) ?_; intro W5 b9 u9)
      | fail)
     go_roundg (gk - 1)
     case measure => omega
     case rel => exact ⟨j + 1, by omega, rfl, by rw [Hs.out]; exact congrArg Value.bool appO_pair.2, by rw [Hs.out]; exact zb (by show Arr W5 w1.heap.size _ (vc ((zhJ m o).getD zE)).toArray; rw [← (appO_pair (m := m) (o := o)).1]; exact b9), zb (u9.other b2' (by have := hyn.out; have := zw1.out; omega)), zb (u9.fr F9 zw1.out)⟩
  ·have hjn : j = n := by omega
   subst hjn;have hjz : ¬ (j : Int) < (j : Int) := by omega
   have et : us.take j = us := List.take_of_length_le (by rw [Hn.out]; exact Nat.le_refl _);rw [et] at hB ⊢;have hgo : Hid (∀ v, upO k us o0 = some v → v.wf ∧ okV v = true) := zb (upO_good (fun q hq => (HN.out q hq).2) oo.out);generalize hgen : upO k us o0 = o at *;have Hg := zb hgen;clear hgen;have b8 := hB.out;have b2 := hC.out;have hWW := hF.out;have l8 : ∀ W, Fr wr W → (ldS 37 (.pointer (some ⟨w1.heap.size, 0, none⟩))).run Tryz.prog W = .ok (.agg (vc (o.getD zE)).toArray) W := fun W h => zbs.ld (zD (o_wf hgo.out).hl) (b8.below h b8.lt);have rr := ze wr;have hl8 := zb (zD (o_wf hgo.out).hl);have tok : Hid (0 < 1) := zb (by decide);clear hB hC hF et
   go_wp2_with (first
    | (clear tok; refine zp (ds := vc (o.getD zE)) zad rfl (.tmp 6) (.tmp 44) rfl (w.heap.size + 2) 0 rfl rfl hl8.out (zar _) b2 (Nat.le_of_eq hz17.out.symm) (zk _ _ (Nat.le_of_eq (hz17.out.trans hl8.out.symm))) ?_; intro W5 b9 u9)
    | fail)
   exact bodyPost_ret (zbs.result2 rfl _ (w.heap.size + 2) rfl hl8.out b9) rfl ⟨by rw [Hg.out]; rfl, u9.fr (za h0H.out hWW) (Nat.le_add_right _ _)⟩
end Go.Proofs.YtmjjjdikpnhpiaaGreat
