/- What the functions of layer 5 come to, six: 'Apply' of the program. -/
import Derived.Test.YtmjjjdikpnhpiaaGreatMsgF
import Derived.Test.YtmjjjdikpnhpiaaGreatLfA
import Derived.Test.YtmjjjdikpnhpiaaGreatBufQ
import Derived.Laws.OwnMore
import Derived.Laws.MakeOwn
namespace Go.Proofs.YtmjjjdikpnhpiaaGreat
set_option linter.unusedVariables false
set_option linter.unusedSimpArgs false
set_option maxRecDepth 100000
open Go.RowKit
section
attribute [local go_sem ↓] zae zt zw
section
variable {W0 W : World} {v : RV} {m : RM}
end
set_option maxRecDepth 100000 in
set_option maxHeartbeats 4000000 in
theorem znS (v : RV) (there : Bool) (m : RM) (wv : v.wf) (ov : there = true → okV v = true) (wm : m.wf) (om : okM m = true) (w : World) : Calls Tryz.prog 124 #[vv v, .bool there, mm m] w fun e w' => e = .returned (.tuple #[vv (zbx v there m), .bool (zcy m)]) ∧ Fr w w' := by
 obtain ⟨Z, hZ, hF, hZZ, hV, hM, hO, hS⟩ := ziX w v m wm.val.hl;have m0 := zbt hM 0 (zhl m);have m28 := zbt hM 28 (zdT wm.val.hl);have lmV := zcG hM wm.val.hl;have lv := zee hV (zD wv.hl);have him := wm.hi;have HlM := zb wm.val.hl;have HlV := zb wv.hl;obtain ⟨km, -, -, -, -⟩ := zbp om;unfold zbx zcy
 rcases km with km | km | km
 ·rw [if_pos km, show decide (m.kind ≠ 2) = true by simp; omega]
  rw [km] at m0;clear km wm om wv ov him;go_enter Tryz.func124, Tryz.ntmps124
  go_wp2_with (first
   | (refine zi (ds := vc m.val) zad rfl (.tmp 6) (.tmp 23) rfl (w.heap.size + 1 + 1) 0 rfl rfl (zD HlM.out) (zar _) hO (by decide) (zk _ _ (by rw [zD HlM.out]; decide)) ?_; intro W5 hO5 hk5; have hF5 := hk5.fr hF (by omega); clear hk5)
   | fail)
  exact bodyPost_ret (zbs.result2 rfl _ (w.heap.size + 1 + 1) rfl (zD HlM.out) hO5) rfl ⟨rfl, hF5⟩
 ·rw [if_neg (by omega), if_pos km, show decide (m.kind ≠ 2) = false by simp; omega]
  rw [km] at m0;clear km wm om wv ov him;go_enter Tryz.func124, Tryz.ntmps124
  go_wp2_with (first
   | (refine zi (ds := vc zE) zad rfl (.tmp 6) (.tmp 24) rfl (w.heap.size + 1 + 1) 0 rfl rfl rfl (zar _) hO (by decide) (zk _ _ (by decide)) ?_; intro W5 hO5 hk5; have hF5 := hk5.fr hF (by omega); clear hk5)
   | fail)
  exact bodyPost_ret (zbs.result2 rfl _ (w.heap.size + 1 + 1) rfl rfl hO5) rfl ⟨rfl, hF5⟩
 ·rw [if_neg (by omega), if_neg (by omega), show decide (m.kind ≠ 2) = true by simp; omega]
  rw [km] at m0
  cases there
  ·rw [if_neg (by decide)]
   have cF := fun W h => znf (W0 := Z) (W := W) (n := 0) (by decide) h;have cP := fun W0 W h => zhB (W0 := W0) (W := W) (zaR 0) (zd3 0) m.inc h;rw [ziV him] at cP;have Hf0 := zb (zaR 0).hl;have Hr := zb (zaR m.inc).hl;have HlR := zb (zP (m := { m with val := zaO m.inc }) Hr.out);generalize zaO m.inc = r at *;generalize zaO 0 = f0 at *;clear km wm om wv ov him;go_enter Tryz.func124, Tryz.ntmps124
   go_wp2_with (first
    | (go_at_call 129; refine (cF _ (by assumption)).mono ?_; rintro e w1 ⟨rfl, hz1⟩; have hV1 := hV.below hz1 hV.lt; have hM1 := hM.below hz1 hM.lt; have hO1 := hO.below hz1 hO.lt; have hF1 := za hF hz1; clear hV hM hO hF m0 m28 lmV lv cF)
    | (refine zi (ds := vc f0) zad rfl (.tmp 3) (.tmp 16) rfl w.heap.size 0 rfl rfl (zD Hf0.out) (zar _) hV1 (by rw [zD HlV.out]; decide) (zk _ _ (by rw [zD Hf0.out, zD HlV.out]; decide)) ?_; intro Y hVy hky; have hMy := hky.other hM1 (by omega); have hOy := hky.other hO1 (by omega); have hFy := hky.fr hF1 (by omega); clear hky hV1 hM1 hO1 hF1
       have lv := zee hVy (zD Hf0.out);have m28 := zbt hMy 28 (zdT HlM.out);have hYY := ze Y)
    | (go_at_call 130; refine (cP Y _ (by assumption)).mono ?_; rintro e w2 ⟨rfl, hz2⟩; have hM2 := hMy.below hz2 hMy.lt; have hO2 := hOy.below hz2 hOy.lt; have hF2 := za hFy hz2; clear hVy hMy hOy hFy m28 lv cP)
    | (refine zi (ds := vc r) zad rfl (.tmp 21) (.tmp 20) rfl (w.heap.size + 1) 11 rfl rfl (zD Hr.out) (zar _) hM2 (by rw [zP HlM.out]; decide) (zcb HlM.out Hr.out) ?_; intro X hMx hkx; have hOx := hkx.other hO2 (by omega); have hFx := hkx.fr hF2 (by omega); clear hkx hM2 hO2 hF2
       have lmV := zcG hMx Hr.out;have hXX := ze X)
    | (refine zi (ds := vc r) zad rfl (.tmp 6) (.tmp 23) rfl (w.heap.size + 1 + 1) 0 rfl rfl (zD Hr.out) (zar _) hOx (by decide) (zk _ _ (by rw [zD Hr.out]; decide)) ?_; intro W5 hO5 hk5; have hF5 := hk5.fr hFx (by omega); clear hk5)
    | fail)
   exact bodyPost_ret (zbs.result2 rfl _ (w.heap.size + 1 + 1) rfl (zD Hr.out) hO5) rfl ⟨rfl, hF5⟩
  ·rw [if_pos rfl]
   have cP := fun W0 W h => zhB (W0 := W0) (W := W) wv (ov rfl) m.inc h;have Hr := zb (show (zbJ v m.inc).bs.length = 16 from (zaR _).hl);generalize zbJ v m.inc = r at *;clear km wm om wv ov him;go_enter Tryz.func124, Tryz.ntmps124
   go_wp2_with (first
    | (go_at_call 130; refine (cP Z _ (by assumption)).mono ?_; rintro e w2 ⟨rfl, hz2⟩; have hM2 := hM.below hz2 hM.lt; have hO2 := hO.below hz2 hO.lt; have hF2 := za hF hz2; clear hV hM hO hF m28 lv cP)
    | (refine zi (ds := vc r) zad rfl (.tmp 21) (.tmp 20) rfl (w.heap.size + 1) 11 rfl rfl (zD Hr.out) (zar _) hM2 (by rw [zP HlM.out]; decide) (zcb HlM.out Hr.out) ?_; intro X hMx hkx; have hOx := hkx.other hO2 (by omega); have hFx := hkx.fr hF2 (by omega); clear hkx hM2 hO2 hF2
       have lmV := zcG hMx Hr.out;have hXX := ze X)
    | (refine zi (ds := vc r) zad rfl (.tmp 6) (.tmp 23) rfl (w.heap.size + 1 + 1) 0 rfl rfl (zD Hr.out) (zar _) hOx (by decide) (zk _ _ (by rw [zD Hr.out]; decide)) ?_; intro W5 hO5 hk5; have hF5 := hk5.fr hFx (by omega); clear hk5)
    | fail)
   exact bodyPost_ret (zbs.result2 rfl _ (w.heap.size + 1 + 1) rfl (zD Hr.out) hO5) rfl ⟨rfl, hF5⟩
section
variable {W0 W : World} {v : RV} {m : RM}
theorem zjh {there : Bool} (wv : v.wf) (ov : there = true → okV v = true) (wm : m.wf) (om : okM m = true) (hb : Fr W0 W) : Calls Tryz.prog 124 #[vv v, .bool there, mm m] W fun e w' => e = .returned (.tuple #[vv (zbx v there m), .bool (zcy m)]) ∧ Fr W0 w' := (znS v there m wv ov wm om W).mono fun _ _ ⟨he, hw⟩ => ⟨he, za hb hw⟩
end
end
section
attribute [local go_sem ↓] zt zbh
theorem zke (w : World) (k : RK) : ∃ Z, (w.alloc (.cells (kc k).toArray 33)) = Z ∧ Fr w Z ∧ Fr Z Z ∧ Arr Z w.heap.size 33 (kc k).toArray ∧ Z.heap.size = w.heap.size + 1 := by
 refine ⟨_, rfl, zf (ze w) _, ze _, Arr.new w _ _, by simp⟩
theorem zlN : (Tryz.prog.info? 3).map (·.size) = some 1 := by kernel_rfl
set_option maxHeartbeats 4000000 in
theorem zjq {w : World} {A : Option Addr} {n c B : Nat} {l : List RE} {k : RK} (hl : Has w B A (zm ec l)) (hB : B ≤ w.heap.size) (hn : l.length = n) (hsm : n ≤ 1000000) (ol : OkE l) (wk : k.wf) (ok : okB k = true) :
 Calls Tryz.prog 123 #[.slice A n c, kv k] w fun e w' => e = .returned (.tuple #[.int .i64 (zbw l (zu k) : Nat), .bool (zO l k).isSome]) ∧ Fr w w' := by
 obtain ⟨Z, hZ, hF, hZZ, hK, hS⟩ := zke w k;have hlZ := hl.below (hF.mono hB);have hBZ : B ≤ Z.heap.size := by omega
 have hw := ol.wfe.wid;have lk : ∀ W, Fr Z W → (ldS 33 (.pointer (some ⟨w.heap.size, 0, none⟩))).run Tryz.prog W = .ok (.agg (kc k).toArray) W := fun W h => zaf.ld (zl k) (hK.below h hK.lt);have Hn := zb hn;have Hol := zb ol;have Hw := zb hw;have Hl := zb hlZ;have Hwk := zb wk;have Hok := zb ok;clear hn ol hw hl hlZ hK wk ok;go_enter Tryz.func123, Tryz.ntmps123;go_wp2_with fail
 go_loopg [] n (fun g wr => ∃ lo hi : Nat, lo ≤ hi ∧ hi ≤ n ∧ hi - lo ≤ g ∧ Hid (Arr wr (w.heap.size + 1) 154 #[.int .i64 lo, .int .i64 hi]) ∧ Hid (Fr Z wr) ∧ Hid (∀ t m, t < lo → l[t]? = some m → ce m < zu k) ∧ Hid (∀ t m, hi ≤ t → l[t]? = some m → zu k ≤ ce m))
 case atStart => exact ⟨0, n, by omega, by omega, by omega, zb (zbr _ _ _ _ hS), zb (zf hZZ _), zb (fun t m h => by omega), zb (fun t m h hm => by
  have h1 := (List.getElem?_eq_some_iff.1 hm).1;have h2 := Hn.out;omega)⟩
 case round =>
  obtain ⟨lo, hi, hlh, hhn, hg, hA, hZr, Hlo, Hhi⟩ := hrel;have c0 : wr.cell? ⟨w.heap.size + 1, 0, none⟩ = some (.int .i64 lo) := hA.out.cell 0;have c1 : wr.cell? ⟨w.heap.size + 1, 1, none⟩ = some (.int .i64 hi) := hA.out.cell 1;have hrr := ze wr;have hZ1 := hZr.out
  by_cases hlt : lo < hi
  ·obtain ⟨md, hmd, hmd1, hmd2⟩ : ∃ md : Nat, ((lo : Int) + (hi : Int)).tdiv 2 = (md : Int) ∧ lo ≤ md ∧ md < hi := ⟨(lo + hi) / 2, by rw [← Int.natCast_add]; rfl, by omega, by omega⟩
   have hmn : md < n := by omega
   have hm : l[md]? = some (l[md]'(by rw [Hn.out]; exact hmn)) := List.getElem?_eq_getElem _;generalize l[md]'(by rw [Hn.out]; exact hmn) = m at hm;obtain ⟨b, off, rfl, hb1, hr⟩ := zJ Hl.out Hw.out (by decide) (by intro e; rw [e] at hm; simp at hm);have lX := zak (o := 0) zaf hr Hw.out (by omega) hm (zcC m) (zl _);simp only [Nat.add_zero] at lX;have gm := Hol.out.good m (za2 hm);have cK := fun W0 W h => zeT (W0 := W0) (W := W) gm.wk Hwk.out gm.ok Hok.out h;have Hm := zb hm;have Hgm := zb gm;have hZD := zn hZ1;have hrD := zn hrr;have hltz : (lo : Int) < (hi : Int) := by omega
   have hmnz : (md : Int) < (n : Int) := by omega
   have hmd0 : (0 : Int) ≤ (md : Int) := by omega
   by_cases hc : zaB m.key k < 0
   ·have Hlo2 : Hid (∀ t x, t < md + 1 → l[t]? = some x → ce x < zu k) := zb (fun t x ht hx => by
     have h1 := asc_at Hol.out hx Hm.out (by omega);have h2 := zfc.1 hc;unfold ce at *;omega)
    generalize zaB m.key k = r at *;clear hm hr gm hlt;go_wp2_with fail
    go_region_held3 (fun w' => Fr Z w' ∧ Fr wr w') (first | (go_split_ands; exact ⟨hZD, hrD⟩) | (go_split_ands; exact ⟨by assumption, by assumption⟩))
     (first
      | (go_at_call 101; (with_reducible refine (cK wr _ (by assumption)).mono ?_); rintro e w9 ⟨rfl, hz9⟩; have hZ9 := za hZ1 hz9))
    rename_i hH;obtain ⟨hWZ, hWr⟩ := hH;have hA9 := hA.out.below hWr hA.out.lt
    go_wp2_with (first
     | (refine zi (ds := [.int .i64 ((md : Int) + 1)]) zlN rfl (.tmp 33) (.tmp 32) rfl (w.heap.size + 1) 0 rfl rfl rfl (zdv _ rfl) (cs := [.int .i64 lo, .int .i64 hi]) hA9 (by simp) (zbl _ _ _ (by simp)) ?_; intro W5 hM5 hk5; have hF5 := hk5.fr hWZ (by omega); clear hk5)
     | fail)
    go_roundg (gk - 1)
    case measure => omega
    case rel => exact ⟨md + 1, hi, by omega, by omega, by omega, zb hM5, zb hF5, Hlo2, Hhi⟩
   ·have Hhi2 : Hid (∀ t x, md ≤ t → l[t]? = some x → zu k ≤ ce x) := zb (fun t x ht hx => by
     have h1 := asc_at Hol.out Hm.out hx ht
     have h2 : zu k ≤ zu m.key := by
      have := zbE (a := m.key) (b := k);exact this.1 (by omega)
     unfold ce at *;omega)
    generalize zaB m.key k = r at *;clear hm hr gm hlt;go_wp2_with fail
    go_region_held3 (fun w' => Fr Z w' ∧ Fr wr w') (first | (go_split_ands; exact ⟨hZD, hrD⟩) | (go_split_ands; exact ⟨by assumption, by assumption⟩))
     (first
      | (go_at_call 101; (with_reducible refine (cK wr _ (by assumption)).mono ?_); rintro e w9 ⟨rfl, hz9⟩; have hZ9 := za hZ1 hz9))
    rename_i hH;obtain ⟨hWZ, hWr⟩ := hH;have hA9 := hA.out.below hWr hA.out.lt
    go_wp2_with (first
     | (refine zi (ds := [.int .i64 (md : Int)]) zlN rfl (.tmp 35) (.tmp 34) rfl (w.heap.size + 1) 1 rfl rfl rfl (zdv _ rfl) (cs := [.int .i64 lo, .int .i64 hi]) hA9 (by simp) (zbl _ _ _ (by simp)) ?_; intro W5 hM5 hk5; have hF5 := hk5.fr hWZ (by omega); clear hk5)
     | fail)
    go_roundg (gk - 1)
    case measure => omega
    case rel => exact ⟨lo, md, by omega, by omega, by omega, zb hM5, zb hF5, Hlo, Hhi2⟩
  ·have hlz : ¬ (lo : Int) < (hi : Int) := by omega
   have elo : lo = zbw l (zu k) := by
    obtain rfl : lo = hi := by omega
    exact znU Hol.out (by rw [Hn.out]; exact hhn) Hlo.out Hhi.out
   have hf := zgY Hol.out Hwk.out Hok.out;rw [← elo] at hf;have Elo := zb elo;have hZD := zn hZ1
   by_cases hlt2 : lo < n
   ·have hm : l[lo]? = some (l[lo]'(by rw [Hn.out]; exact hlt2)) := List.getElem?_eq_getElem _
    generalize l[lo]'(by rw [Hn.out]; exact hlt2) = m at hm;rw [hm] at hf;obtain ⟨b, off, rfl, hb1, hr⟩ := zJ Hl.out Hw.out (by decide) (by intro e; rw [e] at hm; simp at hm);have gm := Hol.out.good m (za2 hm);have lX := zak (o := 0) zaf hr Hw.out (by omega) hm (zcC m) (zl _);simp only [Nat.add_zero] at lX;have qE := fun W => zcH gm.wk Hwk.out W;have ef : (zO l k).isSome = decide (m.key = k) := by rw [hf]; by_cases e : m.key = k <;> simp [e]
    have Ef := zb ef;have hjz : (lo : Int) < (n : Int) := by omega
    clear hf hm ef gm hr hlt hlt2 elo;generalize decide (m.key = k) = q at *;go_wp2_with fail
    go_region_held3 (fun w' => Fr Z w') (first | exact hZD | assumption) (first | fail)
    rename_i hH
    go_wp2
    go_ret2
    exact ⟨by rw [← Elo.out, Ef.out]; rfl, za hF hH⟩
   ·have hnone : l[lo]? = none := List.getElem?_eq_none (by rw [Hn.out]; omega)
    rw [hnone] at hf;have ef : (zO l k).isSome = false := by rw [hf]; rfl
    have Ef := zb ef;have hjz : ¬ (lo : Int) < (n : Int) := by omega
    have hjd : decide (lo < n) = false := by simpa using hlt2
    clear hf hnone ef hlt2 elo hlt;go_wp2_with fail
    go_region
    all_goals go_wp2
    all_goals go_ret2
    all_goals exact ⟨by rw [← Elo.out, Ef.out]; rfl, za hF (zn hZ1)⟩
end
section
attribute [local go_sem ↓] zt zbh
theorem ziG (A : Option Addr) (n c l h : Nat) (h1 : l ≤ h) (h2 : h ≤ c) (W : World) : (Instr.slice 23 (.slice A n c) (some (.int .i64 (l : Int))) (some (.int .i64 (h : Int))) none).run Tryz.prog W = .ok (.slice (lowE A c l) (h - l) (c - l)) W := by
 rw [run_slice_lh (P := Tryz.prog) (w := W) (t := 23) (ht := zht) A n c .i64 .i64 (l : Int) (h : Int) (by omega) (by omega) (by omega), zhp];simp only [Result.andThen, sliced, Int.toNat_natCast, lowE]
theorem del_math {l : List RE} {i n : Nat} (hi : i < n) (hn : l.length = n) (wl : WfE l) : (zm ec l).take (i * 26) ++ zm ec (l.drop (i + 1)) = zm ec (l.take i ++ l.drop (i + 1)) := by
 rw [zas, zbq wl.wid]
set_option maxHeartbeats 2000000 in
theorem zl4 {w : World} {A : Option Addr} {n c B i : Nat} {l : List RE} (ho : zau w B A c l) (hB : B ≤ w.heap.size) (hn : l.length = n) (hsm : n ≤ 1000000) (wl : WfE l) (hi : i < n) :
 Calls Tryz.prog 125 #[.slice A n c, .int .i64 i, .int .i64 ((i : Int) + 1)] w fun e w' => ∃ A' c', e = .returned (.slice A' (n - 1) c') ∧ zau w' B A' c' (l.take i ++ l.drop (i + 1)) ∧ Below B w w' := by
 unfold zau at ho;rw [hn] at ho;obtain ⟨g, rfl⟩ := ho.addr (by omega);have hlen : (zm ec l).length = n * 26 := by rw [zaa wl.wid, hn]
 have hcap := ho.cap;have hBg : B ≤ g := ho.row.2.1;obtain ⟨inf, z, hinf, hsize, hz, hzs, -⟩ := zfm
 obtain ⟨a, ea, hal⟩ : ∃ a : Addr, lowE (some ⟨g, 0, none⟩) c (i + 1) = some a ∧ (i + 1 < c → a = ⟨g, (i + 1) * 26, none⟩) := by
  unfold lowE
  split
  ·exact ⟨_, rfl, fun h => by omega⟩
  ·exact ⟨_, rfl, fun _ => by simp [Addr.add_lit]⟩
 have hdl : (zm ec (l.drop (i + 1))).length = (n - (i + 1)) * 26 := by rw [zaa (wl.wid.drop _), List.length_drop, hn]
 have hcells : ∀ j u, (zm ec (l.drop (i + 1)))[j]? = some u → w.drew.cell? (a.add j) = some u := fun j u hu => by
  have hj := (List.getElem?_eq_some_iff.1 hu).1;rw [hdl] at hj
  have : i + 1 < c := by
   rcases Nat.lt_or_ge (i + 1) c with h | h
   ·exact h
   ·have : n - (i + 1) = 0 := by omega
    rw [this] at hj;omega
  rw [hal this, Addr.add_lit];have h2 := zbm ho.has wl.wid (i + 1);rw [Nat.zero_add] at h2;obtain ⟨b, off, e, -, hc⟩ := h2 j u hu
  injection e with e
  injection e with e1 e2
  subst e1 e2;exact hc
 obtain ⟨w1, hr1, ho1, hg1⟩ := run_append_fits (P := Tryz.prog) w.drew B 23 23 52 inf 26 zaA hinf hsize g i c _ (zct (ho.pre (i := i) (by omega))) a (n - (i + 1)) (c - (i + 1)) (zm ec (l.drop (i + 1))) hdl hcells (za5 _) (by omega);rw [del_math hi hn wl, show i + (n - (i + 1)) = n - 1 by omega] at ho1;rw [show i + (n - (i + 1)) = n - 1 by omega] at hr1;have ho1' : Own w1 B 52 26 (some ⟨g, 0, none⟩) (n - 1) c (zm ec (l.take i ++ l.drop (i + 1))) := ho1;obtain ⟨ys, ho2, hys⟩ := ho1'.more (m := n) (by omega) hcap
 obtain ⟨w2, zs, hr2, ho3, hg2⟩ := zfA (P := Tryz.prog) (size := 26) w1 23 0 inf z zaA hinf hz hzs (by
  have e1 : (Tryz.prog.info? 52).bind (·.zero) = some (ev zea) := by kernel_rfl
  rw [hinf] at e1;simp [hz] at e1;subst e1;exact zdw zea) ho2 (n - 1) (c - (n - 1)) ((n - 1) * 26) (by omega) (.inl rfl)
 have hpre := ho3.pre (i := n - 1) (by omega);have hlr : (l.take i ++ l.drop (i + 1)).length = n - 1 := by rw [List.length_append, List.length_take, List.length_drop, hn]; omega
 have hwr : WfE (l.take i ++ l.drop (i + 1)) := fun x hx => by
  rcases List.mem_append.1 hx with hx | hx
  ·exact wl x (List.mem_of_mem_take hx)
  ·exact wl x (List.mem_of_mem_drop hx)
 have hlenr : (zm ec (l.take i ++ l.drop (i + 1))).length = (n - 1) * 26 := by rw [zaa hwr.wid, hlr]
 rw [List.take_left' (by rw [List.length_take, List.length_append, hlenr, hys]; omega), List.take_left' hlenr] at hpre;have Hpre := zb hpre;have Hlr := zb hlr;have Hb := zb (((Below.refl B w).drew.trans (zaF hg1 hBg hB)).trans (zaF hg2 hBg (Nat.le_trans hB ((Below.refl B w).drew.trans (zaF hg1 hBg hB)).size)));rw [show n - (n - 1) = 1 by omega] at hr2;have q0 := zil (some ⟨g, 0, none⟩) n c i (i + 1) n (by omega) (by omega) hcap;rw [Int.natCast_succ] at q0;have q1 := zcv (some ⟨g, 0, none⟩) n c i (by omega);have q2 := zaW (some ⟨g, 0, none⟩) n c (i + 1) (by omega);rw [ea, Int.natCast_succ] at q2;have q3 := ziG (some ⟨g, 0, none⟩) (n - 1) c (n - 1) n (by omega) hcap;rw [zck (by omega), Nat.zero_add, show n - (n - 1) = 1 by omega] at q3;have hne : ¬ ((i : Int) = (i : Int) + 1) := by omega
 clear ho ho1 ho1' ho2 ho3 hg1 hg2 hlen hcells hdl hinf hsize hz hzs hal ea hlr hwr hlenr hpre hys hn wl hBg hcap hi;go_enter Tryz.func125, Tryz.ntmps125;go_wp2_with fail
 go_region_law (first
  | (refine zeC rfl (.tmp 22) (.tmp 25) 23 23 rfl _ _ ?_ ?_ hr1 ?_
     ·go_simp
     ·go_simp)
  | fail)
 all_goals
  go_wp2_with (first
   | (refine zd2 _ rfl (.tmp 31) 23 rfl _ rfl hr2 ?_)
   | fail)
  go_ret;refine ⟨some ⟨g, 0, none⟩, c, rfl, ?_, Hb.out⟩;unfold zau;rw [Hlr.out];exact Hpre.out
set_option maxHeartbeats 2000000 in
theorem zlo {w : World} {A : Option Addr} {n c B : Nat} {l : List RE} (hl : Has w B A (zm ec l)) (hB : B ≤ w.heap.size) (hn : l.length = n) (h0 : 0 < n) (hsm : n ≤ 100000) (wl : WfE l) :
 Calls Tryz.prog 119 #[.slice A n c] w fun e w' => ∃ A' c', e = .returned (.slice A' n c') ∧ zau w' w.heap.size A' c' l ∧ Fr w w' := by
 obtain ⟨inf, z, hinf, hsize, hz, hzs, hby⟩ := zfm;have hmk := run_make (P := Tryz.prog) w 23 52 inf z zaA hinf hz .i64 .i64 n n (by omega) (Int.le_refl _) (by rw [hby]; omega) (by omega);simp only [Int.toNat_natCast, hsize] at hmk;obtain ⟨W1, hW1⟩ : ∃ W1, w.alloc (.cells (madeCells z.cells (n * 26)) 52) = W1 := ⟨_, rfl⟩;have hF : Fr w W1 := by rw [← hW1]; exact zf (ze w) _
 have ho1 : Own W1 w.heap.size 52 26 (some ⟨w.heap.size, 0, none⟩) n n (madeCells z.cells (n * 26)).toList := by
  rw [← hW1];exact Own.lit w w.heap.size 52 _ n 26 (Nat.le_refl _) (by simp only [maxLen]; omega) (size_madeCells _ _)
 rw [hW1] at hmk;have hlen : (zm ec l).length = n * 26 := by rw [zaa wl.wid, hn]
 obtain ⟨w2, hr2, ho2, hg2⟩ := zbf (P := Tryz.prog) W1 23 3 inf zaA hinf hsize ho1 0 n n B A n n c (zm ec l) hlen (hl.below (hF.mono hB)) (za5 _) (Nat.min_self _) (by omega) h0 (by decide)
 have e9 : (madeCells z.cells (n * 26)).toList.take (0 * 26) ++ zm ec l ++ (madeCells z.cells (n * 26)).toList.drop ((0 + n) * 26) = zm ec l := by
  rw [Nat.zero_mul, List.take_zero, List.nil_append, List.drop_eq_nil_of_le (by rw [Array.length_toList, size_madeCells]; omega), List.append_nil]
 rw [e9] at ho2;rw [Nat.zero_mul] at hr2;have Ho2 := zb ho2;have Hn := zb hn;have Hb := zb ((hF).trans (zaF hg2 (Nat.le_refl _) hF.size));clear ho1 ho2 hg2 e9 hlen hinf hsize hz hzs hby hn wl hl hW1;go_enter Tryz.func119, Tryz.ntmps119
 go_wp2_with (first
  | (refine Lib.wpList_copy_run _ rfl (.tmp 7) (.tmp 8) 23 23 rfl _ _ rfl rfl hr2 ?_)
  | fail)
 go_ret;refine ⟨some ⟨w.heap.size, 0, none⟩, n, rfl, ?_, Hb.out⟩;unfold zau;rw [Hn.out];exact Ho2.out
end
section
attribute [local go_sem ↓] zt zbh zae zw zl2
theorem ent_box1 (w : World) (e : RE) : ∃ Z, w.alloc (.cells (ec e).toArray 52) = Z ∧ Fr w Z ∧ Fr Z Z ∧ Arr Z w.heap.size 52 (ec e).toArray ∧ Z.heap.size = w.heap.size + 1 := ⟨_, rfl, zf (ze w) _, ze _, Arr.new w _ _, by simp⟩
set_option maxHeartbeats 1000000 in
theorem esize (e : RE) (hs : 0 ≤ e.key.n ∧ e.key.n ≤ 8 ∧ 0 ≤ e.val.n ∧ e.val.n ≤ 16) (w : World) : Calls Tryz.prog 107 #[ev e] w fun r w' => r = .returned (.int .i64 (zcs e)) ∧ Fr w w' := by
 obtain ⟨Z, hZ, hF, hZZ, hE, hS⟩ := ent_box1 w e;have c0 := zbt hE 0 (ec_0 e);have c9 := zbt hE 9 (ec_9 e);obtain ⟨h1, h2, h3, h4⟩ := hs;unfold zcs;generalize e.key.n = a at *;generalize e.val.n = b at *;go_enter Tryz.func107, Tryz.ntmps107;go_wp2_with fail;go_ret;exact ⟨rfl, hF⟩
theorem ziB {W0 W : World} {e : RE} (hs : 0 ≤ e.key.n ∧ e.key.n ≤ 8 ∧ 0 ≤ e.val.n ∧ e.val.n ≤ 16) (hb : Fr W0 W) : Calls Tryz.prog 107 #[ev e] W fun r w' => r = .returned (.int .i64 (zcs e)) ∧ Fr W0 w' := (esize e hs W).mono fun _ _ ⟨he, hw⟩ => ⟨he, za hb hw⟩
theorem zlO {α : Type} {cf : α → List Value} {size n j o : Nat} {l : List α} {x a : α} {ds : List Value} (hw : Wid cf size l) (hn : l.length = n) (hj : l[j]? = some x) (ho : o + ds.length ≤ size) (ha : splice (cf x) o ds = cf a) (ys : List Value) :
 splice (zm cf l ++ ys) (j * size + o) ds = zm cf (l.set j a) ++ ys := by
 have hjn := (List.getElem?_eq_some_iff.1 hj).1;have ex := (List.getElem?_eq_some_iff.1 hj).2;have hxl : (cf x).length = size := zlp hw hj
 have e0 : l = l.take j ++ x :: l.drop (j + 1) := by
  rw [← ex, ← List.drop_eq_getElem_cons hjn, List.take_append_drop]
 have e1 : zm cf l = zm cf (l.take j) ++ (cf x ++ zm cf (l.drop (j + 1))) := by
  have h := congrArg (zm cf) e0
  rwa [zas, zcj] at h
 have e2 : zm cf (l.set j a) = zm cf (l.take j) ++ (cf a ++ zm cf (l.drop (j + 1))) := by
  rw [List.set_eq_take_append_cons_drop, if_pos hjn, zas, zcj]
 have hlen : (zm cf (l.take j)).length = j * size := by rw [zaa (hw.take j), List.length_take, Nat.min_eq_left (by omega)]
 have hs : splice (cf x) o ds = (cf x).take o ++ ds ++ (cf x).drop (o + ds.length) := by simp [splice]
 rw [e2, ← ha, hs, e1, splice]
 have t1 : (zm cf (l.take j) ++ (cf x ++ zm cf (l.drop (j + 1))) ++ ys).take (j * size + o) = zm cf (l.take j) ++ (cf x).take o := by
  rw [List.append_assoc, List.take_append, List.take_of_length_le (by omega), hlen, Nat.add_sub_cancel_left, List.append_assoc, List.take_append_of_le_length (by omega)]
 have t2 : (zm cf (l.take j) ++ (cf x ++ zm cf (l.drop (j + 1))) ++ ys).drop (j * size + o + ds.length) = (cf x).drop (o + ds.length) ++ zm cf (l.drop (j + 1)) ++ ys := by
  rw [List.append_assoc, List.drop_append, List.drop_eq_nil_of_le (by omega), hlen, List.nil_append, Nat.add_assoc, Nat.add_sub_cancel_left, List.append_assoc, List.drop_append_of_le_length (by omega), List.append_assoc]
 rw [t1, t2];simp only [List.append_assoc]
theorem own_setp {P : Program} {α : Type} {cf : α → List Value} {w : World} {B T T' m size n c g j o : Nat} {l : List α} {x a : α} {ds : List Value} (hs : (P.info? T').map (·.size) = some m) (ho : Own w B T size (some ⟨g, 0, none⟩) n c (zm cf l)) (hw : Wid cf size l) (hn : l.length = n) (hj : l[j]? = some x) (ha : (cf a).length = size) (hd : ds.length = m) (hom : o + m ≤ size) (h1 : One ds) (hsp : splice (cf x) o ds = cf a) :
 ∃ W : World, (Instr.storeAt T' (.pointer (some ⟨g, j * size + o, none⟩)) (.agg ds.toArray)).run P w = .ok () W ∧ Own W B T size (some ⟨g, 0, none⟩) n c (zm cf (l.set j a)) ∧ (∀ B', B' ≤ B → B' ≤ w.heap.size → Below B' w W) := by
 obtain ⟨-, hb, hnc, hcm, cur, hg, hcs, hct⟩ := ho.row;have hjn : j < n := by rw [← hn]; exact (List.getElem?_eq_some_iff.1 hj).1
 have hle : n * size ≤ c * size := Nat.mul_le_mul_right _ hnc;have h9 : (j + 1) * size ≤ n * size := Nat.mul_le_mul_right _ hjn;have h2 : j * size + size = (j + 1) * size := (Nat.succ_mul j size).symm;have e0 : cur.toList = zm cf l ++ cur.toList.drop (n * size) := by rw [← hct, List.take_append_drop]
 have hlset : (zm cf (l.set j a)).length = n * size := by
  rw [zaa (n := size) (fun b hb => by
   rcases List.mem_or_eq_of_mem_set hb with h | h
   ·exact hw b h
   ·rw [h]; exact ha), List.length_set, hn]
 have hA : Arr w g T cur.toList.toArray := by simpa using hg
 have esp : splice cur.toList (j * size + o) ds = zm cf (l.set j a) ++ cur.toList.drop (n * size) := by
  have := zlO hw hn hj (by omega) hsp (cur.toList.drop (n * size));rw [← e0] at this;exact this
 have hcl : cur.toList.length = c * size := by rw [Array.length_toList, hcs]
 refine ⟨w.setRow g (zm cf (l.set j a) ++ cur.toList.drop (n * size)).toArray, ?_, ?_, fun B' h1 h2 => ?_⟩
 ·simp only [Instr.storeAt, Instr.sureAddr, Sem.run_bind, Sem.run_pure, Result.andThen_ok]
  rw [zcm (v := .agg ds.toArray) (ds := ds) hs rfl hd h1 hA (by omega), esp]
 ·refine Own.of_row (hA.setRow _) hb hnc hcm ?_ ?_
  ·simp only [List.size_toArray, List.length_append, List.length_drop, hlset, hcl]
   omega
  ·simp only
   exact List.take_left' hlset
 ·exact ⟨rfl, rfl, rfl, by simp [World.setRow], fun k hk => setRow_other w g k _ (by omega)⟩
theorem zgz {P : Program} {α : Type} {cf : α → List Value} {w : World} {ops : Array Oper} {rest : List Oper} {o : Oper} {a : Act} {Q : Exit → Act → World → Prop} {B T T' m size n c g j of : Nat} {l : List α} {x y : α} {ds : List Value} (hs : (P.info? T').map (·.size) = some m) (hgd : o.guard = none) (px py : Operand) (hop : o.op = .store T' px py)
 (hx : a.eval px = .pointer (some ⟨g, j * size + of, none⟩)) (hy : a.eval py = .agg ds.toArray) (ho : Own w B T size (some ⟨g, 0, none⟩) n c (zm cf l)) (hw : Wid cf size l) (hn : l.length = n) (hj : l[j]? = some x) (ha : (cf y).length = size) (hd : ds.length = m) (hom : of + m ≤ size) (h1 : One ds) (hsp : splice (cf x) of ds = cf y) (hB : B ≤ w.heap.size)
 (h : ∀ W, Own W B T size (some ⟨g, 0, none⟩) n c (zm cf (l.set j y)) → Below B w W → wpList P ops Q rest (a.put o.dst undef) W) : wpList P ops Q (o :: rest) a w := by
 obtain ⟨W, hr, so, sb⟩ := own_setp (P := P) hs ho hw hn hj ha hd hom h1 hsp;refine wpList_plain hgd fun K hK => ?_;unfold Oper.wp execOp;simp only [hop, hx, hy, Sem.run_bind, Sem.run_pure, Result.andThen_ok, hr];exact hK _ _ (h _ so (sb B (Nat.le_refl _) hB))
end
section
attribute [local go_sem ↓] zt zbh zae zw
theorem zc7 : (vc zE).toArray = #[.int .i64 0, .int .u8 0, .int .u8 0, .int .u8 0, .int .u8 0, .int .u8 0, .int .u8 0, .int .u8 0, .int .u8 0, .int .u8 0, .int .u8 0, .int .u8 0, .int .u8 0, .int .u8 0, .int .u8 0, .int .u8 0, .int .u8 0] := rfl
theorem zkV : (ec zea).toArray = #[.int .i64 0, .int .u8 0, .int .u8 0, .int .u8 0, .int .u8 0, .int .u8 0, .int .u8 0, .int .u8 0, .int .u8 0, .int .i64 0, .int .u8 0, .int .u8 0, .int .u8 0, .int .u8 0, .int .u8 0, .int .u8 0, .int .u8 0, .int .u8 0, .int .u8 0, .int .u8 0, .int .u8 0, .int .u8 0, .int .u8 0, .int .u8 0, .int .u8 0, .int .u8 0] := rfl
theorem ziv (o : Nat) : ∀ (cs : List Value) (k : Nat) (z : Array Value), List.foldl (fun (cs : Array Value) (x : Value × Nat) => cs.setIfInBounds (o + x.snd) x.fst) z (cs.zipIdx k) = List.foldl (fun (cs : Array Value) (x : Value × Nat) => cs.setIfInBounds x.snd x.fst) z (cs.zipIdx (o + k))
 | [], k, z => rfl
 | v :: cs, k, z => by
  rw [List.zipIdx_cons, List.zipIdx_cons, List.foldl_cons, List.foldl_cons, ziv o cs (k + 1)];rfl
theorem ziK (k : RK) {v : RV} (hl : v.bs.length = 16) : List.foldl (fun (cs : Array Value) (x : Value × Nat) => cs.setIfInBounds (9 + x.snd) x.fst) #[.int .i64 k.n, .int .u8 k.b0, .int .u8 k.b1, .int .u8 k.b2, .int .u8 k.b3, .int .u8 k.b4, .int .u8 k.b5, .int .u8 k.b6, .int .u8 k.b7, .int .i64 0, .int .u8 0, .int .u8 0, .int .u8 0, .int .u8 0, .int .u8 0, .int .u8 0, .int .u8 0, .int .u8 0, .int .u8 0, .int .u8 0, .int .u8 0, .int .u8 0, .int .u8 0, .int .u8 0, .int .u8 0, .int .u8 0] (vc v).zipIdx = (ec ⟨k, v⟩).toArray := by
 rw [ziv 9 (vc v) 0, zep (vc v) (9 + 0) _ (by rw [zD hl]; rfl)];rfl
theorem zge {e : RE} (hl : e.val.bs.length = 16) : List.foldl (fun (cs : Array Value) (x : Value × Nat) => cs.setIfInBounds x.snd x.fst) #[.int .i64 0, .int .u8 0, .int .u8 0, .int .u8 0, .int .u8 0, .int .u8 0, .int .u8 0, .int .u8 0, .int .u8 0, .int .i64 0, .int .u8 0, .int .u8 0, .int .u8 0, .int .u8 0, .int .u8 0, .int .u8 0, .int .u8 0, .int .u8 0, .int .u8 0, .int .u8 0, .int .u8 0, .int .u8 0, .int .u8 0, .int .u8 0, .int .u8 0, .int .u8 0] (ec e).zipIdx = (ec e).toArray := by
 have := zep (ec e) 0 (ec zea).toArray (by rw [zbT hl]; rfl);rw [zkV] at this
 simpa using this
set_option maxHeartbeats 2000000 in
theorem zkn {w : World} {A : Option Addr} {n c B : Nat} {l : List RE} {m : RM} (ho : zau w B A c l) (hB : B ≤ w.heap.size) (hn : l.length = n) (hsm : n ≤ 100000) (ol : OkE l) (wm : m.wf) (om : okM m = true) (hf : zO l m.key = none) :
 Calls Tryz.prog 118 #[.slice A n c, mm m] w fun e w' => ∃ A' c', e = .returned (.slice A' (zba l m).length c') ∧ zau w' B A' c' (zba l m) ∧ Below B w w' := by
 obtain ⟨Z, hZ, hF, hZZ, hM, hS⟩ := zcK w m;have hoZ : zau Z B A c l := Own.below ho hF (Nat.le_refl _);have cP := zjq (c := c) hoZ.has (Nat.le_refl _) hn (by omega) ol wm.key (zaH om);rw [hf] at cP;have hFB := hF.mono hB;have hBZ : B ≤ Z.heap.size := Nat.le_trans hB hF.size;have lK := zaN hM;have lM := zbg hM wm.val.hl;have cA : ∀ W, Calls Tryz.prog 124 #[.agg #[.int .i64 0, .int .u8 0, .int .u8 0, .int .u8 0, .int .u8 0, .int .u8 0, .int .u8 0, .int .u8 0, .int .u8 0, .int .u8 0, .int .u8 0, .int .u8 0, .int .u8 0, .int .u8 0, .int .u8 0, .int .u8 0, .int .u8 0], .bool false, mm m] W fun e w' => e = .returned (.tuple #[vv (zbx zE false m), .bool (zcy m)]) ∧ Fr W w' := fun W => zjh zcA (fun h => by cases h) wm om (ze W);have wv := zgj (t := false) zcA wm
 have hpe : zba l m = za3 l m.key (if zcy m = true then some (zbx zE false m) else none) := by
  unfold zba zhJ;rw [hf];rfl
 have hsp := zhH (o := if zcy m = true then some (zbx zE false m) else none) ol wm.key (zaH om);rw [hf] at hsp;rw [hpe];simp only [Option.isSome_none] at cP
 cases hb : zcy m with
 | false =>
  rw [hb] at cA hsp;have e1 : za3 l m.key (if false = true then some (zbx zE false m) else none) = l := hsp;rw [e1, hn];generalize zbx zE false m = v at *;generalize zbw l (zu m.key) = p at *;have HlV := zb (zD wv.hl);have Ho := zb hoZ;clear ho hoZ hf hM ol wm om hsp hpe e1 wv hn;go_enter Tryz.func118, Tryz.ntmps118
  go_wp2_with (first
   | (go_at_call 123; refine cP.mono ?_; rintro e W ⟨rfl, hW⟩
      have hWA := zf hW (.cells (vc zE).toArray 37);have haV := Arr.new W (vc zE).toArray 37;have lz := zee haV rfl _ (ze _);rw [zc7] at hWA haV lz;have hAA := ze (W.alloc (.cells #[.int .i64 0, .int .u8 0, .int .u8 0, .int .u8 0, .int .u8 0, .int .u8 0, .int .u8 0, .int .u8 0, .int .u8 0, .int .u8 0, .int .u8 0, .int .u8 0, .int .u8 0, .int .u8 0, .int .u8 0, .int .u8 0, .int .u8 0] 37)))
   | (go_at_call 124; (with_reducible refine (cA _).mono ?_); rintro e w9 ⟨rfl, hz9⟩; have haV9 := haV.below hz9 haV.lt; have hF9 := za hWA hz9)
   | (refine zi (ds := vc v) zad rfl (.tmp 7) (.tmp 27) rfl W.heap.size 0 rfl rfl HlV.out (zar _) haV9 (by decide) (zk _ _ (by rw [HlV.out]; decide)) ?_; intro Y hVy hky; have hFy := hky.fr hF9 hW.size; clear hky)
   | fail)
  go_ret;exact ⟨A, c, rfl, Ho.out.fr hFy, hFB.trans (hFy.mono hBZ)⟩
 | true =>
  rw [hb] at cA hsp;have e1 : za3 l m.key (if true = true then some (zbx zE false m) else none) = l.take (zbw l (zu m.key)) ++ ⟨m.key, zbx zE false m⟩ :: l.drop (zbw l (zu m.key)) := hsp;rw [e1];have hple := zjQ l (zu m.key)
  have hlr : (l.take (zbw l (zu m.key)) ++ ⟨m.key, zbx zE false m⟩ :: l.drop (zbw l (zu m.key))).length = n + 1 := by
   simp [hn];omega
  rw [hlr];have wle := ol.wfe;generalize zbx zE false m = v at *;generalize zbw l (zu m.key) = p at *;have HlV := zb (zD wv.hl);have hln : (ec ⟨m.key, v⟩).length = 26 := zbT wv.hl;have hf1 := ziK m.key wv.hl;have hf2 := zge (e := ⟨m.key, v⟩) wv.hl;have we : RE.wf ⟨m.key, v⟩ := ⟨wm.key, wv⟩;have Hwl := zb wle;obtain ⟨e, he⟩ : ∃ e : RE, (⟨m.key, v⟩ : RE) = e := ⟨_, rfl⟩;rw [he] at hln hf1 hf2 we hlr ⊢;have hlv : (vc v).length = 17 := zD wv.hl;have Ho := zb hoZ
  have cI : ∀ W, Fr Z W → Calls Tryz.prog 126 #[.slice A n c, .int .i64 (p : Nat), .slice (some ⟨W.heap.size, 0, none⟩) 1 1] (W.alloc (.cells (ec e).toArray 52)) fun r w' => ∃ A' c', r = .returned (.slice A' (n + 1) c') ∧ zau w' B A' c' (l.take p ++ e :: l.drop p) ∧ Below B w w' := fun W hW => by
   have hoW : zau W B A c l := Own.below hoZ hW (Nat.le_refl _);have hb : Below B w W := hFB.trans (hW.mono hBZ);have hsz : B ≤ W.heap.size := Nat.le_trans hB hb.size;refine (zl8 (V := W.heap.size) (i := p) (hoW.alloc _) (by simp; omega) hn (by omega) wle we (Arr.new W _ _) (fun e => by have := (hoW.lt _ e).2; omega) (by rw [← hn]; exact hple)).mono ?_;rintro r w' ⟨A', c', rfl, h1, h2⟩;exact ⟨A', c', rfl, h1, (hb.alloc hsz _).trans h2⟩
  have Hlr := zb hlr;clear ho hoZ hf hM ol om hsp hpe e1 hb wv we he wle hlr hple hn;go_enter Tryz.func118, Tryz.ntmps118
  go_wp2_with (first
   | (go_at_call 123; refine cP.mono ?_; rintro e W ⟨rfl, hW⟩
      have hWA := zf hW (.cells (vc zE).toArray 37);have haV := Arr.new W (vc zE).toArray 37;have lz := zee haV rfl _ (ze _);rw [zc7] at hWA haV lz;have hAA := ze (W.alloc (.cells #[.int .i64 0, .int .u8 0, .int .u8 0, .int .u8 0, .int .u8 0, .int .u8 0, .int .u8 0, .int .u8 0, .int .u8 0, .int .u8 0, .int .u8 0, .int .u8 0, .int .u8 0, .int .u8 0, .int .u8 0, .int .u8 0, .int .u8 0] 37)))
   | (go_at_call 124; (with_reducible refine (cA _).mono ?_); rintro e w9 ⟨rfl, hz9⟩; have haV9 := haV.below hz9 haV.lt; have hF9 := za hWA hz9; clear lz hAA hWA haV hz9)
   | (refine zi (ds := vc v) zad rfl (.tmp 7) (.tmp 27) rfl W.heap.size 0 rfl rfl HlV.out (zar _) haV9 (by decide) (zk _ _ (by rw [HlV.out]; decide)) ?_; intro Y hVy hky; have hFy := hky.fr hF9 hW.size; have lv := zee hVy HlV.out; have hYY := ze Y; clear hky haV9)
   | fail)
  refine (cI _ hFy).mono ?_;rintro r w' ⟨A', c', rfl, h1, h2⟩;go_wp2_with fail;go_ret;exact ⟨A', c', rfl, h1, h2⟩
set_option maxHeartbeats 2000000 in
theorem zlB {w : World} {A : Option Addr} {n c B : Nat} {l : List RE} {m : RM} {x : RV} (ho : zau w B A c l) (hB : B ≤ w.heap.size) (hn : l.length = n) (hsm : n ≤ 100000) (ol : OkE l) (wm : m.wf) (om : okM m = true) (hf : zO l m.key = some x) :
 Calls Tryz.prog 118 #[.slice A n c, mm m] w fun e w' => ∃ A' c', e = .returned (.slice A' (zba l m).length c') ∧ zau w' B A' c' (zba l m) ∧ Below B w w' := by
 obtain ⟨Z, hZ, hF, hZZ, hM, hS⟩ := zcK w m;have hoZ : zau Z B A c l := Own.below ho hF (Nat.le_refl _);have cP := zjq (c := c) hoZ.has (Nat.le_refl _) hn (by omega) ol wm.key (zaH om);rw [hf] at cP;have hFB := hF.mono hB;have hBZ : B ≤ Z.heap.size := Nat.le_trans hB hF.size;have lK := zaN hM;have lM := zbg hM wm.val.hl;have hx := zmG ol wm.key (zaH om) hf;have gx := ol.good _ (za2 hx);have wx := gx.wv;have cA : ∀ W, Calls Tryz.prog 124 #[vv x, .bool true, mm m] W fun e w' => e = .returned (.tuple #[vv (zbx x true m), .bool (zcy m)]) ∧ Fr W w' := fun W => zjh wx (fun h => gx.ov) wm om (ze W);have wv := zgj (t := true) wx wm
 have hpe : zba l m = za3 l m.key (if zcy m = true then some (zbx x true m) else none) := by
  unfold zba zhJ;rw [hf];rfl
 have hsp := zhH (o := if zcy m = true then some (zbx x true m) else none) ol wm.key (zaH om);rw [hf] at hsp;rw [hpe];simp only [Option.isSome_some] at cP;have hp : zbw l (zu m.key) < n := by rw [← hn]; exact (List.getElem?_eq_some_iff.1 hx).1
 obtain ⟨g, rfl⟩ := hoZ.addr (by omega);have hoZn : Own Z B 52 26 (some ⟨g, 0, none⟩) n c (zm ec l) := by rw [← hn]; exact hoZ
 obtain ⟨-, hBg, -, -, cur, hcur, -, -⟩ := hoZ.row;have hgs : g < Z.heap.size := hcur.lt
 have hr : Z.rangeAt g 0 (zm ec l) := fun j v hj => by
  obtain ⟨b, off, e, -, hc⟩ := hoZ.has j v hj
  injection e with e
  injection e with e1 e2
  subst e1 e2;exact hc
 have lX := zak (o := 9) zbs hr ol.wfe.wid hgs hx (ze4 (e := ⟨m.key, x⟩) wx.hl) (zD wx.hl);have HlX := zb (zD wx.hl);have hpz : (zbw l (zu m.key) : Int) < (n : Int) := by omega
 have hlx : (vc x).length = 17 := zD wx.hl;rw [Nat.zero_add] at lX
 cases hb : zcy m with
 | false =>
  rw [hb] at cA hsp;have e1 : za3 l m.key (if false = true then some (zbx x true m) else none) = l.take (zbw l (zu m.key)) ++ l.drop (zbw l (zu m.key) + 1) := hsp;rw [e1]
  have hlr : (l.take (zbw l (zu m.key)) ++ l.drop (zbw l (zu m.key) + 1)).length = n - 1 := by
   simp [hn];omega
  rw [hlr];have wle := ol.wfe;generalize zbx x true m = v at *;generalize zbw l (zu m.key) = p at *;have HlV := zb (zD wv.hl);have hlv : (vc v).length = 17 := zD wv.hl
  have cD : ∀ W, Fr Z W → Calls Tryz.prog 125 #[.slice (some ⟨g, 0, none⟩) n c, .int .i64 (p : Nat), .int .i64 ((p : Int) + 1)] W fun r w' => ∃ A' c', r = .returned (.slice A' (n - 1) c') ∧ zau w' B A' c' (l.take p ++ l.drop (p + 1)) ∧ Below B w w' := fun W hW => by
   have hoW : zau W B (some ⟨g, 0, none⟩) c l := Own.below hoZ hW (Nat.le_refl _);have hb : Below B w W := hFB.trans (hW.mono hBZ);refine (zl4 hoW (Nat.le_trans hB hb.size) hn (by omega) wle hp).mono ?_;rintro r w' ⟨A', c', rfl, h1, h2⟩;exact ⟨A', c', rfl, h1, hb.trans h2⟩
  clear ho hoZ hoZn hf hM ol om hsp hpe e1 hb wv wle hlr hp hr hx gx wx hn cur hcur;go_enter Tryz.func118, Tryz.ntmps118
  go_wp2_with (first
   | (go_at_call 123; refine cP.mono ?_; rintro e W ⟨rfl, hW⟩; have hWA := zf hW (.cells (vc zE).toArray 37); rw [zc7] at hWA)
   | (refine zi (ds := vc x) zad rfl (.tmp 7) (.tmp 21) rfl W.heap.size 0 rfl rfl HlX.out (zar _) (Arr.new W (vc zE).toArray 37) (by decide) (zk _ _ (by rw [HlX.out]; decide)) ?_; intro Y hVy hky; have hFy := hky.fr (zf hW _) hW.size; have lv := zee hVy HlX.out; have hYY := ze Y; clear hky)
   | (go_at_call 124; (with_reducible refine (cA _).mono ?_); rintro e w9 ⟨rfl, hz9⟩; have haV9 := hVy.below hz9 hVy.lt; have hF9 := za hFy hz9; clear lv hYY hVy hz9)
   | (refine zi (ds := vc v) zad rfl (.tmp 7) (.tmp 27) rfl W.heap.size 0 rfl rfl HlV.out (zar _) haV9 (by rw [HlX.out]; decide) (zk _ _ (by rw [HlV.out, HlX.out]; decide)) ?_; intro Y2 hV2 hk2; have hF2 := hk2.fr hF9 hW.size; clear hk2 haV9)
   | (go_at_call 125; (with_reducible refine (cD _ hF2).mono ?_); rintro r w' ⟨A', c', rfl, h1, h2⟩)
   | fail)
  go_ret;exact ⟨A', c', rfl, h1, h2⟩
 | true =>
  rw [hb] at cA hsp;have e1 : za3 l m.key (if true = true then some (zbx x true m) else none) = l.set (zbw l (zu m.key)) ⟨m.key, zbx x true m⟩ := hsp;rw [e1, List.length_set, hn];have wle := ol.wfe;generalize zbx x true m = v at *;generalize zbw l (zu m.key) = p at *;have HlV := zb (zD wv.hl);have hlv : (vc v).length = 17 := zD wv.hl;have Hx := zb hx;have Hwid := zb wle.wid;have Hn := zb hn;have Hely := zb (zbT (e := ⟨m.key, v⟩) wv.hl);have Hsp := zb (zmC (e := ⟨m.key, x⟩) wx.hl wv.hl);have cO : ∀ W, Fr Z W → Own W B 52 26 (some ⟨g, 0, none⟩) n c (zm ec l) := fun W h => Own.below hoZn h (Nat.le_refl _);clear ho hoZ hoZn hf hM ol om hsp hpe e1 hb wv wle hp hr hx gx wx hn cur hcur;go_enter Tryz.func118, Tryz.ntmps118
  go_wp2_with (first
   | (go_at_call 123; refine cP.mono ?_; rintro e W ⟨rfl, hW⟩; have hWA := zf hW (.cells (vc zE).toArray 37); rw [zc7] at hWA)
   | (refine zi (ds := vc x) zad rfl (.tmp 7) (.tmp 21) rfl W.heap.size 0 rfl rfl HlX.out (zar _) (Arr.new W (vc zE).toArray 37) (by decide) (zk _ _ (by rw [HlX.out]; decide)) ?_; intro Y hVy hky; have hFy := hky.fr (zf hW _) hW.size; have lv := zee hVy HlX.out; have hYY := ze Y; clear hky)
   | (go_at_call 124; (with_reducible refine (cA _).mono ?_); rintro e w9 ⟨rfl, hz9⟩; have haV9 := hVy.below hz9 hVy.lt; have hF9 := za hFy hz9; clear lv hYY hVy hz9)
   | (refine zi (ds := vc v) zad rfl (.tmp 7) (.tmp 27) rfl W.heap.size 0 rfl rfl HlV.out (zar _) haV9 (by rw [HlX.out]; decide) (zk _ _ (by rw [HlV.out, HlX.out]; decide)) ?_; intro Y2 hV2 hk2; have hF2 := hk2.fr hF9 hW.size; have lv2 := zee hV2 HlV.out; have h22 := ze Y2; clear hk2 haV9)
   | (refine zgz (j := p) (of := 9) (x := ⟨m.key, x⟩) (y := ⟨m.key, v⟩) zad rfl (.tmp 38) (.tmp 36) rfl rfl rfl (cO _ hF2) Hwid.out Hn.out Hx.out Hely.out HlV.out (by decide) (zar _) Hsp.out (Nat.le_trans hBZ hF2.size) ?_; intro W10 ho10 hb10)
   | fail)
  go_ret;refine ⟨some ⟨g, 0, none⟩, c, rfl, ?_, (hFB.trans (hF2.mono hBZ)).trans hb10⟩;unfold zau;rw [List.length_set, Hn.out];exact ho10
theorem zmE {w : World} {A : Option Addr} {n c B : Nat} {l : List RE} {m : RM} (ho : zau w B A c l) (hB : B ≤ w.heap.size) (hn : l.length = n) (hsm : n ≤ 100000) (ol : OkE l) (wm : m.wf) (om : okM m = true) :
 Calls Tryz.prog 118 #[.slice A n c, mm m] w fun e w' => ∃ A' c', e = .returned (.slice A' (zba l m).length c') ∧ zau w' B A' c' (zba l m) ∧ Below B w w' := by
 cases hf : zO l m.key with
 | none => exact zkn ho hB hn hsm ol wm om hf
 | some x => exact zlB ho hB hn hsm ol wm om hf
end
end Go.Proofs.YtmjjjdikpnhpiaaGreat
