/- ActRoot, walked. -/
import Derived.Test.YtiggcgajanfbjaaGreatActXa
import Derived.Test.YtiggcgajanfbjaaGreatActVal
import Derived.Test.YtiggcgajanfbjaaGreatActRm
import Derived.Test.YtiggcgajanfbjaaGreatRf
import Derived.Test.YtiggcgajanfbjaaGreatFnE
import Derived.Test.YtiggcgajanfbjaaGreatShort
namespace Go.Proofs.YtiggcgajanfbjaaGreat
set_option linter.unusedVariables false
set_option linter.unusedSimpArgs false
set_option maxRecDepth 100000
open Go.RowKit
theorem p_inner3 {w : World} {A A2 : Option Addr} {n c B n2 c2 B2 : Nat} {ns ms : List Int} {f : Int} (hl : Has w B A (ns.map (Value.int .i64))) (hB : B ≤ w.heap.size) (hn : ns.length = n) (hns : ∀ z ∈ ns, zal z) (hf : zal f)
 (hl2 : Has w B2 A2 (ms.map (Value.int .i64))) (hB2 : B2 ≤ w.heap.size) (hn2 : ms.length = n2) (hms : ∀ z ∈ ms, zal z) (hnm2 : n2 ≤ maxLen) (hby : (1 + n) * 8 ≤ 140737488355328) :
 Calls Tryz.prog 13 #[.slice A n c, .int .i64 f, .slice A2 n2 c2] w fun e w' => ∃ v, e = .returned (nv v) ∧ Hid (NP w' (fun b => w.heap.size ≤ b) v (zdY ns f ms)) ∧ Fr w w' :=
 (zmr (c := c) (c2 := c2) hl hB hn hns (by unfold maxLen; omega) hf hl2 hB2 hn2 hms hnm2 hby).mono fun e w' h => by
  obtain ⟨A1, d1, A3, d3, A4, d4, e1, h1, h2, h3, hF⟩ := h;have hp := zfB ns;have hk := zch (zca (16 :: ns) 3).length f;have hm := zcS ms 205;refine ⟨⟨false, none, 0, 0, A1, _, d1, A3, _, d3, A4, _, d4⟩, e1, zb ?_, hF⟩;exact ⟨rfl, zR.nil, rfl, Nat.le_refl _, Nat.zero_le _, by intro m hm; simp [zdY] at hm, (h1.out.hasP fun _ h => h), rfl, h1.out.cap, by simp only; omega, (h2.out.hasP fun _ h => h), rfl, h2.out.cap, by simp only; omega, (zh1 _ _).wfk, (h3.out.hasP fun _ h => h), rfl, h3.out.cap, by simp only; omega, (fun m hm => ((zgC ms 205).good m hm).1)⟩
theorem rotB_78 (r : RN) : zhn r 7 8 = zap r := by
 unfold zhn;rw [show (!(decide ((7 : Int) = 8)) && (zdH 7 && zdH 8)) = true from by decide, Bool.and_true]
theorem node_key {W : World} {v : NV} {p : RK} {ks : List Int} {es : List RE} {ms : List RM} {lf : Bool} (h : NP W tt v ⟨lf, es, ks, [p], ms⟩) : ∃ b off, v.A3 = some ⟨b, off, none⟩ ∧ ∀ V, Fr W V → (ldS 26 (.pointer (some ⟨b, off, none⟩))).run Tryz.prog V = .ok (.agg (kc p).toArray) V := by
 obtain ⟨b, off, e, hb, hr⟩ := zJ h.h3.has (show Wid kc 9 [p] from fun x _ => zl x) (by decide) (by simp);refine ⟨b, off, e, ?_⟩;have := z9 zaf hr (show Wid kc 9 [p] from fun x _ => zl x) hb (i := 0) rfl
 simpa using this
theorem low_np {W : World} {g : Nat} {Ky : RK} {V : RV} (h : zR W tt (some ⟨g, 0, none⟩) (ec ⟨Ky, V⟩)) (wK : Ky.wf) (wV : V.wf) : NP W tt ⟨true, some ⟨g, 0, none⟩, 1, 1, none, 0, 0, none, 0, 0, none, 0, 0⟩ ⟨true, [⟨Ky, V⟩], [], [], []⟩ :=
 ⟨rfl, by simpa [zm] using h, rfl, Nat.le_refl _, (by show 1 ≤ 100000; decide), fun x hx => by rw [List.mem_singleton.1 hx]; exact ⟨wK, wV⟩, zR.nil, rfl, Nat.le_refl _, Nat.zero_le _, zR.nil, rfl, Nat.le_refl _, Nat.zero_le _, fun x hx => by simp at hx, zR.nil, rfl, Nat.le_refl _, Nat.zero_le _, fun x hx => by simp at hx⟩
theorem node_fold (v : NV) : List.foldl (fun (cs : Array Value) (x : Value × Nat) => cs.setIfInBounds x.snd x.fst) #[.bool false, .slice none 0 0, .slice none 0 0, .slice none 0 0, .slice none 0 0] (NV.cells v).zipIdx = (NV.cells v).toArray := by
 have := zep (NV.cells v) 0 #[.bool false, .slice none 0 0, .slice none 0 0, .slice none 0 0, .slice none 0 0] rfl
 simpa using this
attribute [local go_sem ↓] zaP zt zae
set_option maxHeartbeats 4000000 in
theorem actRoot_core {w : World} {A0 A1 A2 : Option Addr} {n0 c0 n1 c1 n2 c2 : Nat} {es cs ms : List Int} {kz vz : Int} {ib : Bool}
 (hl0 : Has w w.heap.size A0 (es.map (Value.int .i64))) (hn0 : es.length = n0) (hs0 : ∀ z ∈ es, zal z) (hm0 : n0 ≤ maxLen)
 (hl1 : Has w w.heap.size A1 (cs.map (Value.int .i64))) (hn1 : cs.length = n1) (hs1 : ∀ z ∈ cs, zal z) (hb1 : n1 * 8 ≤ 140737488351232)
 (hl2 : Has w w.heap.size A2 (ms.map (Value.int .i64))) (hn2 : ms.length = n2) (hs2 : ∀ z ∈ ms, zal z) (hm2 : n2 ≤ maxLen) (hkv : zal kz) (hvv : zal vz) :
 Calls Tryz.prog 8 #[.slice A0 n0 c0, .slice A1 n1 c1, .slice A2 n2 c2, .bool ib, .int .i64 kz, .int .i64 vz] w fun e w' => e = .returned (.bool true) ∧ Below w.heap.size w w' := by
 have rr := ze w;have cB := fun W (h : Fr w W) => zoV (w := W) (c := c0) (hl0.fr (Nat.le_refl _) h) h.size hn0 hs0 hm0
 have h243 : ∀ z ∈ (24 :: 16 :: 8 :: cs), zal z := fun z hz => by
  simp only [List.mem_cons] at hz
  rcases hz with rfl | rfl | rfl | hz
  ·unfold zal; decide
  ·unfold zal; decide
  ·unfold zal; decide
  ·exact hs1 z hz
 have HL1 := zb hl1;have Hn1 := zb hn1;have Hb1 := zb hb1;have cC := fun X W A' c' (hX : Fr w X) (h : Fr X W) (ho : Own W X.heap.size 3 1 A' (3 + n1) c' (zS [24, 16, 8] ++ zS cs)) => p_inner3 (w := W) (A := A') (n := 3 + n1) (c := c') (ns := 24 :: 16 :: 8 :: cs) (c2 := c2) (f := 90) (by simpa [zS] using ho.has) (Nat.le_refl _) (by simp [hn1]; omega) h243 (by unfold zal; decide) (hl2.fr (Nat.le_refl _) (za hX h)) (za hX h).size hn2 hs2 hm2 (by omega);have cK := fun W0 W (h : Fr W0 W) => zex (W0 := W0) (W := W) hkv h;have cV := fun W0 W (h : Fr W0 W) => zfV (W0 := W0) (W := W) hvv h;have wK := zfj kz;have oK := zhz kz;have wV := zgE vz;have oV := zni vz;have oL : Hid ((OkN (zcp es) ∧ zcW (zcp es) ≤ rmN (zcp es)) ∧ (zcp es).lf = true) := zb ⟨⟨zir es, zn6 es⟩, rfl⟩;have oN : Hid ((OkN (zdY (24 :: 16 :: 8 :: cs) 90 ms) ∧ zcW (zdY (24 :: 16 :: 8 :: cs) 90 ms) ≤ rmN (zdY (24 :: 16 :: 8 :: cs) 90 ms)) ∧ (zdY (24 :: 16 :: 8 :: cs) 90 ms).lf = false) := zb ⟨⟨zm0 _ 90 ms, innN_byt _ 90 ms⟩, rfl⟩;generalize zcp es = L at *;generalize zdY (24 :: 16 :: 8 :: cs) 90 ms = N at *;generalize zbL kz = Ky at *;generalize zgW vz = VV at *;clear hl0 hn0 hs0 hm0 hl2 hn2 hs2 hm2 hl1 hn1 hs1 hb1 hkv hvv h243;unfold nv at cB cC;unfold vv at cV;go_enter Tryz.func8, Tryz.ntmps8;go_wp2_with fail;refine (cB _ rr).mono ?_
 rintro e w1 ⟨vb, rfl, hB, f1⟩;have nB : Hid (NP w1 tt vb L) := zb (hB.out.weak fun _ _ _ => trivial);have zw1 : w.heap.size ≤ w1.heap.size := f1.size;clear cB hB;have zbase := f1.size;obtain ⟨V1, hV1, fV1, hvz, hA⟩ := zaz [(zh.cells.toArray, 37)] w1;have eb13 : Arr V1 (w1.heap.size) 37 zh.cells.toArray := hA 0 _ rfl;change (w1).alloc (.cells #[.bool false, .slice none 0 0, .slice none 0 0, .slice none 0 0, .slice none 0 0] 37) = V1 at hV1;replace nB := zb (nB.out.weak (ok' := okL tt [w1.heap.size]) (fun b hb _ => ⟨trivial, fun hm => by simp at hm; omega⟩));have FV1 := za f1 fV1;replace nB := zb (nB.out.fr fV1);clear hA hvz;have tokb13 : Hid (0 < 1) := zb (by decide)
 go_upto_if 31 with (first
  | (clear tokb13; refine sN vb 13 30 w1.heap.size eb13 ?_; intro V1_b13 b13 ub13
     have FV1_b13 := ub13.fr FV1 (by omega);replace nB := zb (nB.out.kept ub13 (fun h => h.2 (by simp)));replace nB : Hid (NP V1_b13 tt vb (L)) := zb (nB.out.weak fun _ _ _ => trivial);have rV1_b13 := ze V1_b13)
  | fail)
 have rX := ze V1_b13;have zX := b13.lt;clear rr zbase
 try simp only [Act.put]
 go_cut [] from 31 to 36 (fun wx => ∃ (vr : NV) (R : RN), Arr wx w1.heap.size 37 (NV.cells vr).toArray ∧ Hid (NP wx tt vr R) ∧ Hid ((OkN R ∧ zcW R ≤ rmN R) ∧ R.lf = !ib) ∧ Fr w wx)
 case first =>
  cases ib
  ·go_wp2_with fail
   go_meet;exact ⟨vb, L, b13, nB, zb ⟨oL.out.1, oL.out.2⟩, FV1_b13⟩
  ·have tok : Hid (0 < 1) := zb (by decide)
   go_wp2_with (first
    | (clear tok; refine zL (w0 := V1_b13) zcf zbP (by decide) rfl (.tmp 32) (.tmp 33) rfl (zf rX _) (some ⟨V1_b13.heap.size, 0, none⟩) 3 3 (zS [24, 16, 8]) rfl (Own.lit V1_b13 V1_b13.heap.size 3 #[.int .i64 24, .int .i64 16, .int .i64 8] 3 1 (Nat.le_refl _) (by decide) rfl) w.heap.size A1 n1 c1 (zS cs) rfl (by rw [zeP, Hn1.out, Nat.mul_one]) (HL1.out.fr (Nat.le_refl _) (zf FV1_b13 _)) (zbZ _) (by have := Hb1.out; unfold maxLen; omega) (by have := Hb1.out; omega) ?_; intro A5 c5 w2 o1 f2)
    | fail)
   refine (cC _ _ _ _ FV1_b13 f2 o1).mono ?_;rintro e w3 ⟨vc, rfl, hC, f3⟩;have c13 := b13.below (za f2 f3) b13.lt;have F3 := za FV1_b13 (za f2 f3);have zF := f2.size;have tok : Hid (0 < 1) := zb (by decide);clear b13
   go_wp2_with (first
    | (clear tok; refine sN vc 13 36 w1.heap.size c13 ?_; intro W5 d13 u5
       have F5 := u5.fr F3 zw1;clear c13)
    | fail)
   go_meet;exact ⟨vc, N, d13, zb ((hC.out.kept u5 (fun h => by have hq := h; omega)).weak fun _ _ _ => trivial), zb ⟨oN.out.1, oN.out.2⟩, F5⟩
 case rest =>
  obtain ⟨vr, R, d13, nR, oR, F5⟩ := hcut;obtain ⟨W5, eW⟩ : ∃ W, W = wc := ⟨_, rfl⟩;rw [← eW];rw [← eW] at d13 nR F5;clear eW b13 nB cC oL oN hV1 fV1 rX HL1 Hn1 Hb1 ub13;have cQ := zoW (w := W5) (ok := tt) (a := 7) (b := 8) (fun _ _ => trivial) nR.out oR.out.1.1;unfold RotO nv at cQ;have ldd13 := ldN vr w1.heap.size d13;have rXW5 := ze W5;go_wp2_with fail;refine cQ.mono ?_;rintro e w6 ⟨v1, v2, v3, bq, p6, c6, n6, rfl, hI, hP, hQ, hR, f6⟩;obtain ⟨eb, ep, ec, en⟩ := hI.out;rw [rotB_78] at eb;clear cQ hI ldd13;subst eb;have hP1 := hP;have hQ1 := hQ;have hR1 := hR;have Fw6 := za F5 f6;replace d13 := d13.below f6 d13.lt;replace nR := zb (nR.out.fr f6);clear hP hQ hR;have zbase := Fw6.size;have zd13 := d13.lt;obtain ⟨V2, hV2, fV2, hvz, hA⟩ := zaz [(zh.cells.toArray, 37), (zh.cells.toArray, 37), (zh.cells.toArray, 37)] w6;have eb14 : Arr V2 (w6.heap.size) 37 zh.cells.toArray := hA 0 _ rfl;have eb15 : Arr V2 (w6.heap.size + 1) 37 zh.cells.toArray := hA 1 _ rfl;have eb16 : Arr V2 (w6.heap.size + 2) 37 zh.cells.toArray := hA 2 _ rfl
  change (((w6).alloc (.cells #[.bool false, .slice none 0 0, .slice none 0 0, .slice none 0 0, .slice none 0 0] 37)).alloc (.cells #[.bool false, .slice none 0 0, .slice none 0 0, .slice none 0 0, .slice none 0 0] 37)).alloc (.cells #[.bool false, .slice none 0 0, .slice none 0 0, .slice none 0 0, .slice none 0 0] 37) = V2 at hV2;replace nR := zb (nR.out.weak (ok' := okL tt [w6.heap.size, w6.heap.size + 1, w6.heap.size + 2]) (fun b hb _ => ⟨trivial, fun hm => by simp at hm; omega⟩));replace hP1 := zb (hP1.out.weak (ok' := okL tt [w6.heap.size, w6.heap.size + 1, w6.heap.size + 2]) (fun b hb _ => ⟨trivial, fun hm => by simp at hm; omega⟩));replace hQ1 := zb (hQ1.out.weak (ok' := okL tt [w6.heap.size, w6.heap.size + 1, w6.heap.size + 2]) (fun b hb _ => ⟨trivial, fun hm => by simp at hm; omega⟩));replace hR1 := zb (hR1.out.weak (ok' := okL tt [w6.heap.size, w6.heap.size + 1, w6.heap.size + 2]) (fun b hb _ => ⟨trivial, fun hm => by simp at hm; omega⟩));have FV2 := za Fw6 fV2;replace d13 := d13.below fV2 d13.lt;replace nR := zb (nR.out.fr fV2);replace hP1 := zb (hP1.out.fr fV2);replace hQ1 := zb (hQ1.out.fr fV2);replace hR1 := zb (hR1.out.fr fV2);clear hA hvz;have tokb14 : Hid (0 < 1) := zb (by decide);have tokb15 : Hid (0 < 1) := zb (by decide);have tokb16 : Hid (0 < 1) := zb (by decide)
  go_upto_region 5 with (first
   | (clear tokb14; refine sN v1 14 40 w6.heap.size eb14 ?_; intro V2_b14 b14 ub14
      have FV2_b14 := ub14.fr FV2 (by omega);replace d13 := ub14.other d13 (by omega);replace eb15 := ub14.other eb15 (by omega);replace eb16 := ub14.other eb16 (by omega);replace nR := zb (nR.out.kept ub14 (fun h => h.2 (by simp)));replace hP1 := zb (hP1.out.kept ub14 (fun h => h.2 (by simp)));replace hQ1 := zb (hQ1.out.kept ub14 (fun h => h.2 (by simp)));replace hR1 := zb (hR1.out.kept ub14 (fun h => h.2 (by simp))))
   | (clear tokb15; refine sN v2 15 41 (w6.heap.size + 1) eb15 ?_; intro V2_b15 b15 ub15
      have FV2_b15 := ub15.fr FV2_b14 (by omega);replace d13 := ub15.other d13 (by omega);replace b14 := ub15.other b14 (by omega);replace eb16 := ub15.other eb16 (by omega);replace nR := zb (nR.out.kept ub15 (fun h => h.2 (by simp)));replace hP1 := zb (hP1.out.kept ub15 (fun h => h.2 (by simp)));replace hQ1 := zb (hQ1.out.kept ub15 (fun h => h.2 (by simp)));replace hR1 := zb (hR1.out.kept ub15 (fun h => h.2 (by simp))))
   | (clear tokb16; refine sN v3 16 42 (w6.heap.size + 2) eb16 ?_; intro V2_b16 b16 ub16
      have FV2_b16 := ub16.fr FV2_b15 (by omega);replace d13 := ub16.other d13 (by omega);replace b14 := ub16.other b14 (by omega);replace b15 := ub16.other b15 (by omega);replace nR := zb (nR.out.kept ub16 (fun h => h.2 (by simp)));replace hP1 := zb (hP1.out.kept ub16 (fun h => h.2 (by simp)));replace hQ1 := zb (hQ1.out.kept ub16 (fun h => h.2 (by simp)));replace hR1 := zb (hR1.out.kept ub16 (fun h => h.2 (by simp)));replace nR : Hid (NP V2_b16 tt vr (R)) := zb (nR.out.weak fun _ _ _ => trivial);replace hP1 : Hid (NP V2_b16 tt v1 (p6)) := zb (hP1.out.weak fun _ _ _ => trivial);replace hQ1 : Hid (NP V2_b16 tt v2 (c6)) := zb (hQ1.out.weak fun _ _ _ => trivial);replace hR1 : Hid (NP V2_b16 tt v3 (n6)) := zb (hR1.out.weak fun _ _ _ => trivial);have rV2_b16 := ze V2_b16;have ldd13 := ldN vr w1.heap.size d13)
   | fail)
  have FX : Fr V2_b16 V2_b16 := ze _;have Fall := FV2_b16
  try simp only [Act.put]
  have S1 := fun W (h : Fr V2_b16 W) => zjL (hP1.out.fr h).nh (nR.out.fr h).nh;have cW := fun W => znk W
  cases hb : zap R
  case' false =>
   rw [hb] at ep;obtain rfl : p6 = R := ep.trans (if_neg (by decide));simp only [zkp] at S1;unfold nv at S1;have ld13 := ldN vr w1.heap.size d13;have ld14 := ldN v1 w6.heap.size b14;have c1 : ∀ W, Fr V2_b16 W → W.cell? ⟨w1.heap.size, 1, none⟩ = some (.slice vr.A1 vr.n1 vr.c1) := fun W h => (d13.below h d13.lt).cell 1;have c2 : ∀ W, Fr V2_b16 W → W.cell? ⟨w1.heap.size, 2, none⟩ = some (.slice vr.A2 vr.n2 vr.c2) := fun W h => (d13.below h d13.lt).cell 2;have hlf := oR.out.2
   have hle : ib = false → ((vr.n1 : Int) < 2) := fun h => by
    rw [h] at hlf;unfold zap at hb;rw [hlf] at hb;have := nR.out.l1;simp at hb;omega
   have hlk : ib = true → ((vr.n2 : Int) < 4) := fun h => by
    rw [h] at hlf;unfold zap at hb;rw [hlf] at hb;have := nR.out.l2;have := ((zaI hlf).1 oR.out.1.1).2.1.1.2.1;simp at hb;omega
   clear d13 b14 b15 b16 hP1 hQ1 hR1 nR oR ec en ep hlf cK cV
   cases ib
   case' false => have hl := hle rfl
   case' true => have hl := hlk rfl
   all_goals clear hle hlk
   all_goals go_wp2_with fail
   all_goals refine (S1 _ FX).mono ?_
   all_goals rintro e x1 ⟨rfl, g1⟩
   all_goals go_wp2_with fail
   all_goals refine (cW _).mono ?_
   all_goals rintro e x5 ⟨rfl, g5⟩
   all_goals go_wp2_with fail
   all_goals go_ret
   all_goals exact ⟨rfl, za Fall (za g1 g5)⟩
  case' true =>
   rw [hb] at ep ec en;rw [if_pos rfl] at ep ec en;subst ep ec en;clear S1;obtain ⟨wp, op⟩ := piv_good oR.out.1.1 hb;obtain ⟨ft1, ft2⟩ := half_fits oR.out.1.1 oR.out.1.2 hb;have ftq := rootN_fits wp op;have e2 : Hid ((2 : Nat) = v1.n2) := zb hP1.out.l2;have e3 : Hid ((1 : Nat) = v1.n3) := zb hP1.out.l3;have e4 : Hid ((0 : Nat) = v1.n4) := zb hP1.out.l4;go_wp2_with fail;refine (cK _ _ FX).mono ?_;rintro e w7 ⟨rfl, f7⟩;clear cK;have Fw7 := za FV2_b16 f7;replace d13 := d13.below f7 d13.lt;replace b14 := b14.below f7 b14.lt;replace b15 := b15.below f7 b15.lt;replace b16 := b16.below f7 b16.lt;replace nR := zb (nR.out.fr f7);replace hP1 := zb (hP1.out.fr f7);replace hQ1 := zb (hQ1.out.fr f7);replace hR1 := zb (hR1.out.fr f7);have zbase := Fw7.size;have zd13 := d13.lt;have zb14 := b14.lt;have zb15 := b15.lt;have zb16 := b16.lt;obtain ⟨V3, hV3, fV3, hvz, hA⟩ := zaz [((kc zr).toArray, 26)] w7;have eb18 : Arr V3 (w7.heap.size) 26 (kc zr).toArray := hA 0 _ rfl;change (w7).alloc (.cells (kc zr).toArray 26) = V3 at hV3;rw [zH] at hV3;replace nR := zb (nR.out.weak (ok' := okL tt [w7.heap.size]) (fun b hb _ => ⟨trivial, fun hm => by simp at hm; omega⟩));replace hP1 := zb (hP1.out.weak (ok' := okL tt [w7.heap.size]) (fun b hb _ => ⟨trivial, fun hm => by simp at hm; omega⟩));replace hQ1 := zb (hQ1.out.weak (ok' := okL tt [w7.heap.size]) (fun b hb _ => ⟨trivial, fun hm => by simp at hm; omega⟩))
   replace hR1 := zb (hR1.out.weak (ok' := okL tt [w7.heap.size]) (fun b hb _ => ⟨trivial, fun hm => by simp at hm; omega⟩));have FV3 := za Fw7 fV3;replace d13 := d13.below fV3 d13.lt;replace b14 := b14.below fV3 b14.lt;replace b15 := b15.below fV3 b15.lt;replace b16 := b16.below fV3 b16.lt;replace nR := zb (nR.out.fr fV3);replace hP1 := zb (hP1.out.fr fV3);replace hQ1 := zb (hQ1.out.fr fV3);replace hR1 := zb (hR1.out.fr fV3);clear hA hvz;have tokb18 : Hid (0 < 1) := zb (by decide)
   go_upto_region 8 with (first
    | (clear tokb18; refine zp (ds := (kc Ky)) zC rfl (.tmp 18) (.tmp 72) rfl (w7.heap.size) 0 rfl rfl (zl _) (zU _) eb18 (zbA _) (zaE _ _) ?_; intro V3_b18 b18 ub18
       have FV3_b18 := ub18.fr FV3 (by omega);replace d13 := ub18.other d13 (by omega);replace b14 := ub18.other b14 (by omega);replace b15 := ub18.other b15 (by omega);replace b16 := ub18.other b16 (by omega);replace nR := zb (nR.out.kept ub18 (fun h => h.2 (by simp)));replace hP1 := zb (hP1.out.kept ub18 (fun h => h.2 (by simp)));replace hQ1 := zb (hQ1.out.kept ub18 (fun h => h.2 (by simp)));replace hR1 := zb (hR1.out.kept ub18 (fun h => h.2 (by simp)));replace nR : Hid (NP V3_b18 tt vr (R)) := zb (nR.out.weak fun _ _ _ => trivial);replace hP1 : Hid (NP V3_b18 tt v1 (⟨false, [], [7, 8], [zaU R], []⟩)) := zb (hP1.out.weak fun _ _ _ => trivial);replace hQ1 : Hid (NP V3_b18 tt v2 (hl1 R)) := zb (hQ1.out.weak fun _ _ _ => trivial);replace hR1 : Hid (NP V3_b18 tt v3 (hl2 R)) := zb (hR1.out.weak fun _ _ _ => trivial);have rV3_b18 := ze V3_b18;have ldd13 := ldN vr w1.heap.size d13)
    | fail)
   have FX : Fr V3_b18 V3_b18 := ze _
   try simp only [Act.put]
   have cF1 := fun W (h : Fr V3_b18 W) => (zdB (b := true) (hP1.out.fr h).nh ⟨fun _ => ftq, fun _ => rfl⟩);have cF2 := fun W (h : Fr V3_b18 W) => (zdB (b := true) (hQ1.out.fr h).nh ⟨fun _ => ft1, fun _ => rfl⟩);have cF3 := fun W (h : Fr V3_b18 W) => (zdB (b := true) (hR1.out.fr h).nh ⟨fun _ => ft2, fun _ => rfl⟩);unfold nv at cF1 cF2 cF3;have c2 : ∀ W, Fr V3_b18 W → W.cell? ⟨w6.heap.size, 2, none⟩ = some (.slice v1.A2 2 v1.c2) := fun W h => by have hh : W.cell? ⟨w6.heap.size, 2, none⟩ = some (.slice v1.A2 v1.n2 v1.c2) := (b14.below h b14.lt).cell 2; rw [← e2.out] at hh; exact hh
   have c3 : ∀ W, Fr V3_b18 W → W.cell? ⟨w6.heap.size, 3, none⟩ = some (.slice v1.A3 1 v1.c3) := fun W h => by have hh : W.cell? ⟨w6.heap.size, 3, none⟩ = some (.slice v1.A3 v1.n3 v1.c3) := (b14.below h b14.lt).cell 3; rw [← e3.out] at hh; exact hh
   have c4 : ∀ W, Fr V3_b18 W → W.cell? ⟨w6.heap.size, 4, none⟩ = some (.slice v1.A4 0 v1.c4) := fun W h => by have hh : W.cell? ⟨w6.heap.size, 4, none⟩ = some (.slice v1.A4 v1.n4 v1.c4) := (b14.below h b14.lt).cell 4; rw [← e4.out] at hh; exact hh
   obtain ⟨pb, po, hA3, lpK⟩ := node_key hP1.out;rw [hA3] at c3;clear e2 e3 e4;have ldb14 := ldN v1 w6.heap.size b14;have ldb15 := ldN v2 (w6.heap.size + 1) b15;have ldb16 := ldN v3 (w6.heap.size + 2) b16;have rXV3_b18 := ze V3_b18;go_wp2_with fail;refine (cF1 _ FX).mono ?_;rintro e x1 ⟨rfl, g1⟩;go_wp2_with fail;refine (cF2 _ g1).mono ?_;rintro e x2 ⟨rfl, g2⟩;have g2 := za g1 g2;go_wp2_with fail;refine (cF3 _ g2).mono ?_;rintro e x3 ⟨rfl, g3⟩;have g3 := za g2 g3;clear cF1 cF2 cF3 c2 c4 ldb14 ldb15 ldb16 g1 g2 ftq ft1 ft2;have c3 : ∀ W, Fr x3 W → W.cell? ⟨w6.heap.size, 3, none⟩ = some (.slice (some ⟨pb, po, none⟩) 1 v1.c3) := fun W h => c3 W (za g3 h);have lpK : ∀ V, Fr x3 V → (ldS 26 (.pointer (some ⟨pb, po, none⟩))).run Tryz.prog V = .ok (.agg (kc (zaU R)).toArray) V := fun W h => lpK W (za g3 h);have Fx3 := za FV3_b18 g3;replace d13 := d13.below g3 d13.lt;replace b14 := b14.below g3 b14.lt;replace b15 := b15.below g3 b15.lt;replace b16 := b16.below g3 b16.lt;replace b18 := b18.below g3 b18.lt
   replace nR := zb (nR.out.fr g3);replace hP1 := zb (hP1.out.fr g3);replace hQ1 := zb (hQ1.out.fr g3);replace hR1 := zb (hR1.out.fr g3);have ldb15 := ldN v2 (w6.heap.size + 1) b15;have rXx3 := ze x3;have hR0 : Hid (NP x3 (fun b => b < x3.heap.size) v3 (hl2 R)) := zb (hR1.out.weak (fun b hb _ => hb));have nR0 : Hid (NP x3 (fun b => b < x3.heap.size) vr R) := zb (nR.out.weak (fun b hb _ => hb));have zbase := Fx3.size;have zd13 := d13.lt;have zb14 := b14.lt;have zb15 := b15.lt;have zb16 := b16.lt;have zb18 := b18.lt;obtain ⟨V4, hV4, fV4, hvz, hA⟩ := zaz [(zh.cells.toArray, 37)] x3;have eb19 : Arr V4 (x3.heap.size) 37 zh.cells.toArray := hA 0 _ rfl;change (x3).alloc (.cells #[.bool false, .slice none 0 0, .slice none 0 0, .slice none 0 0, .slice none 0 0] 37) = V4 at hV4;replace nR := zb (nR.out.weak (ok' := okL tt [x3.heap.size]) (fun b hb _ => ⟨trivial, fun hm => by simp at hm; omega⟩));replace hP1 := zb (hP1.out.weak (ok' := okL tt [x3.heap.size]) (fun b hb _ => ⟨trivial, fun hm => by simp at hm; omega⟩));replace hQ1 := zb (hQ1.out.weak (ok' := okL tt [x3.heap.size]) (fun b hb _ => ⟨trivial, fun hm => by simp at hm; omega⟩));replace hR1 := zb (hR1.out.weak (ok' := okL tt [x3.heap.size]) (fun b hb _ => ⟨trivial, fun hm => by simp at hm; omega⟩))
   have FV4 := za Fx3 fV4;replace d13 := d13.below fV4 d13.lt;replace b14 := b14.below fV4 b14.lt;replace b15 := b15.below fV4 b15.lt;replace b16 := b16.below fV4 b16.lt;replace b18 := b18.below fV4 b18.lt;replace nR := zb (nR.out.fr fV4);replace hP1 := zb (hP1.out.fr fV4);replace hQ1 := zb (hQ1.out.fr fV4);replace hR1 := zb (hR1.out.fr fV4);clear hA hvz;have tokb19 : Hid (0 < 1) := zb (by decide)
   go_upto_region 11 with (first
    | (clear tokb19; refine sN v2 19 104 x3.heap.size eb19 ?_; intro V4_b19 b19 ub19
       have FV4_b19 := ub19.fr FV4 (by omega);replace d13 := ub19.other d13 (by omega);replace b14 := ub19.other b14 (by omega);replace b15 := ub19.other b15 (by omega);replace b16 := ub19.other b16 (by omega);replace b18 := ub19.other b18 (by omega);replace nR := zb (nR.out.kept ub19 (fun h => h.2 (by simp)));replace hP1 := zb (hP1.out.kept ub19 (fun h => h.2 (by simp)));replace hQ1 := zb (hQ1.out.kept ub19 (fun h => h.2 (by simp)));replace hR1 := zb (hR1.out.kept ub19 (fun h => h.2 (by simp)));replace nR : Hid (NP V4_b19 tt vr (R)) := zb (nR.out.weak fun _ _ _ => trivial);replace hP1 : Hid (NP V4_b19 tt v1 (⟨false, [], [7, 8], [zaU R], []⟩)) := zb (hP1.out.weak fun _ _ _ => trivial);replace hQ1 : Hid (NP V4_b19 tt v2 (hl1 R)) := zb (hQ1.out.weak fun _ _ _ => trivial);replace hR1 : Hid (NP V4_b19 tt v3 (hl2 R)) := zb (hR1.out.weak fun _ _ _ => trivial);have rV4_b19 := ze V4_b19;have ldb15 := ldN v2 (w6.heap.size + 1) b15)
    | fail)
   have FX : Fr V4_b19 V4_b19 := ze _;have FA : Fr x3 V4_b19 := ub19.fr fV4 (Nat.le_refl _);have hR0 := zb (hR0.out.fr FA);have nR0 := zb (nR0.out.fr FA);have zb3 := Fx3.size;clear zbase
   try simp only [Act.put]
   go_cut [111] from 105 to 111 (fun s111 wx => s111 = .bool (!decide (zu Ky < zu (zaU R))) ∧ Fr V4_b19 wx)
   case first =>
    have c3 : ∀ W, Fr V4_b19 W → W.cell? ⟨w6.heap.size, 3, none⟩ = some (.slice (some ⟨pb, po, none⟩) 1 v1.c3) := fun W h => c3 W (za FA h);have lpK : ∀ V, Fr V4_b19 V → (ldS 26 (.pointer (some ⟨pb, po, none⟩))).run Tryz.prog V = .ok (.agg (kc (zaU R)).toArray) V := fun W h => lpK W (za FA h);have lK : ∀ W, Fr V4_b19 W → (ldS 26 (.pointer (some ⟨w7.heap.size, 0, none⟩))).run Tryz.prog W = .ok (.agg (kc Ky).toArray) W := fun W h => zaf.ld (zl _) (b18.below h b18.lt);have cP := fun W => zcF (W0 := W) (W := W) wK wp oK op (ze W);have hX0 : Fr V4_b19 V4_b19.drew := zn FX
    by_cases hc : zu Ky < zu (zaU R)
    ·have hn : ¬ (0 : Int) ≤ zaB Ky (zaU R) := fun h => by have := zbE.1 h; omega
     have eb : (!decide (zu Ky < zu (zaU R))) = false := by rw [decide_eq_true hc]; rfl
     have Heb := zb eb;generalize zaB Ky (zaU R) = q at *;clear hc eb;refine wp_region_noPanic ?_;refine wp_region_held_drew (S := fun w' => Fr V4_b19 w') (by kernel_rfl) hX0 (fun hHeld => ?_);change wpAnyH _ _ _ _ _ _ _ _ _;generalize V4_b19.drew = X0 at *;refine xto 0 ?_;refine xto 1 ?_;refine xto 2 ?_;refine xto 3 ?_;refine xto 4 ?_;refine xr 5 fun K hK0 => ?_;go_simp;refine (cP X0).mono ?_;rintro e y1 ⟨rfl, f1y⟩;go_simp;have hy1 : Fr V4_b19 y1 := za hX0 f1y;refine xk hK0 hy1 ?_;clear hK0 K
     try simp only [xs, Act.put]
     refine xtb 6 false ?_;refine wpAnyH_done (by kernel_rfl) ?_ _;refine NoPanic.normal ?_;go_wp2_with fail;go_meet;exact ⟨by rw [Heb.out], hy1⟩
    ·have hn : (0 : Int) ≤ zaB Ky (zaU R) := zbE.2 (by omega)
     have eb : (!decide (zu Ky < zu (zaU R))) = true := by rw [decide_eq_false hc]; rfl
     have Heb := zb eb;generalize zaB Ky (zaU R) = q at *;clear hc eb;refine wp_region_noPanic ?_;refine wp_region_held_drew (S := fun w' => Fr V4_b19 w') (by kernel_rfl) hX0 (fun hHeld => ?_);change wpAnyH _ _ _ _ _ _ _ _ _;generalize V4_b19.drew = X0 at *;refine xto 0 ?_;refine xto 1 ?_;refine xto 2 ?_;refine xto 3 ?_;refine xto 4 ?_;refine xr 5 fun K hK0 => ?_;go_simp;refine (cP X0).mono ?_;rintro e y1 ⟨rfl, f1y⟩;go_simp;have hy1 : Fr V4_b19 y1 := za hX0 f1y;refine xk hK0 hy1 ?_;clear hK0 K
     try simp only [xs, Act.put]
     refine xtb 6 true ?_;refine wpAnyH_done (by kernel_rfl) ?_ _;refine NoPanic.normal ?_;go_wp2_with fail;go_meet;exact ⟨by rw [Heb.out], hy1⟩
   case rest =>
    obtain ⟨e111, fc1⟩ := hcut;subst e111;obtain ⟨W8, eW⟩ : ∃ W, W = wc := ⟨_, rfl⟩;rw [← eW];rw [← eW] at fc1;clear eW;have hR0 := zb (hR0.out.fr fc1);have nR0 := zb (nR0.out.fr fc1);clear c3 lpK FA FX;have FW8 := za FV4_b19 fc1;replace d13 := d13.below fc1 d13.lt;replace b14 := b14.below fc1 b14.lt;replace b15 := b15.below fc1 b15.lt;replace b16 := b16.below fc1 b16.lt;replace b18 := b18.below fc1 b18.lt;replace b19 := b19.below fc1 b19.lt;replace nR := zb (nR.out.fr fc1);replace hP1 := zb (hP1.out.fr fc1);replace hQ1 := zb (hQ1.out.fr fc1);replace hR1 := zb (hR1.out.fr fc1);have z13 := d13.lt;have z16 := b16.lt;have z18 := b18.lt;have FX : Fr W8 W8 := ze _
    go_upto_if 111 with fail
    try simp only [Act.put]
    go_cut [] from 111 to 112 (fun wx => ∃ vh, Arr wx x3.heap.size 37 (NV.cells vh).toArray ∧ Arr wx w1.heap.size 37 vr.cells.toArray ∧ Arr wx (w7.heap.size) 26 (kc Ky).toArray ∧ Hid (NP wx tt vh (halfN R Ky)) ∧ Hid (NP wx tt vr R) ∧ Fr w wx)
    case first =>
     by_cases hc : zu Ky < zu (zaU R)
     ·have eH : halfN R Ky = hl1 R := if_pos hc
      have eb : (!decide (zu Ky < zu (zaU R))) = false := by rw [decide_eq_true hc]; rfl
      rw [eb];clear hc eb;go_wp2_with fail;go_meet;exact ⟨v2, b19, d13, b18, zb (by rw [eH]; exact hQ1.out), nR, FW8⟩
     ·have eH : halfN R Ky = hl2 R := if_neg hc
      have eb : (!decide (zu Ky < zu (zaU R))) = true := by rw [decide_eq_false hc]; rfl
      rw [eb];clear hc eb;have l16 : ∀ W, Fr W8 W → (ldS 37 (.pointer (some ⟨w6.heap.size + 2, 0, none⟩))).run Tryz.prog W = .ok (.agg v3.cells.toArray) W := fun W h => zq.ld rfl (b16.below h b16.lt);have tok : Hid (0 < 1) := zb (by decide)
      go_wp2_with (first
       | (clear tok; refine sN v3 19 112 x3.heap.size b19 ?_; intro W6 m19 u6)
       | fail)
      go_meet;exact ⟨v3, m19, u6.other d13 (by omega), u6.other b18 (by omega), zb (by rw [eH]; exact (hR0.out.kept u6 (fun h => by have hq := h; omega)).weak fun _ _ _ => trivial), zb ((nR0.out.kept u6 (fun h => by have hq := h; omega)).weak fun _ _ _ => trivial), u6.fr FW8 zb3⟩
    case rest =>
     clear d13 b14 b15 b16 b18 b19 hP1 hQ1 hR1 nR hR0 nR0 FX hA3;obtain ⟨vh, b19, d13, b18, nH, nR, F9⟩ := hcut;obtain ⟨W9, eW⟩ : ∃ W, W = wc := ⟨_, rfl⟩;rw [← eW];rw [← eW] at b19 d13 b18 nH nR F9;clear eW;have FX : Fr W9 W9 := ze _;have hl16 : VV.bs.length = 16 := wV.hl;have eb1 := ziK Ky hl16;have hv17 : (vc VV).length = 17 := zD hl16;have he26 : (ec (⟨Ky, VV⟩ : RE)).length = 26 := zbT hl16;have eb2 := zge (e := ⟨Ky, VV⟩) hl16
     go_upto_region 13 with fail
     try simp only [Act.put]
     go_cut [20] from 113 to 118 (fun s20 wx => ∃ (g : Nat) (vl : NV), s20 = .pointer (some ⟨g, 0, none⟩) ∧ Hid (W9.heap.size ≤ g) ∧ Arr wx g 37 (NV.cells vl).toArray ∧ Hid (NP wx tt vl ⟨true, [⟨Ky, VV⟩], [], [], []⟩) ∧ Fr W9 wx)
     case first =>
      have lK : ∀ W, Fr W9 W → (ldS 26 (.pointer (some ⟨w7.heap.size, 0, none⟩))).run Tryz.prog W = .ok (.agg (kc Ky).toArray) W := fun W h => zaf.ld (zl _) (b18.below h b18.lt);have hX0 : Fr W9 W9.drew := zn FX;refine wp_region_noPanic ?_;refine wp_region_held_drew (S := fun w' => Fr W9 w') (by kernel_rfl) hX0 (fun hHeld => ?_);change wpAnyH _ _ _ _ _ _ _ _ _;generalize W9.drew = X0 at *;refine xto 0 ?_;refine xto 1 ?_;refine xrr 2 6 (fun K hK0 => ?_) fun K hK0 => ?_
      ·go_simp
       refine (cV X0 X0 (ze _)).mono ?_;rintro e y1 ⟨rfl, fy1⟩;go_simp;have hy1 : Fr W9 y1 := za hX0 fy1;refine xk hK0 hy1 ?_;clear hK0 K
       try simp only [xs, Act.put]
       refine xto 3 ?_;refine xrr 4 6 (fun K hK0 => ?_) fun K hK0 => ?_
       ·go_simp
        try simp only [eb1]
        try simp only [eb2]
        obtain ⟨y2, ey2, fy2, aE0⟩ : ∃ V, World.alloc y1 (.cells (ec ⟨Ky, VV⟩).toArray 63) = V ∧ Fr y1 V ∧ Arr V y1.heap.size 63 (ec ⟨Ky, VV⟩).toArray := ⟨_, rfl, zf (ze _) _, Arr.new _ _ _⟩;rw [ey2];have hy2 : Fr W9 y2 := za hy1 fy2;have aE := aE0;refine xk hK0 hy2 ?_;clear hK0 K
        try simp only [xs, Act.put]
        refine xto 5 ?_;refine xr 6 fun K hK0 => ?_;go_simp;obtain ⟨y3, ey3, fy3, aG0⟩ := zoR y2;rw [ey3];have zG : W9.heap.size ≤ y2.heap.size := hy2.size;have neG : y2.heap.size ≠ y1.heap.size := Nat.ne_of_gt aE.lt;have hy3 : Fr W9 y3 := za hy2 fy3;have aE := aE.below fy3 aE.lt;have aG := aG0;refine xk hK0 hy3 ?_;clear hK0 K;refine xr 7 fun K hK0 => ?_;refine tN ⟨true, some ⟨y1.heap.size, 0, none⟩, 1, 1, none, 0, 0, none, 0, 0, none, 0, 0⟩ 20 118 y2.heap.size aG ?_;intro x1 k1 q1;have hx1 := q1.fr hy3 zG;have k2 := q1.other aE (by first | exact neG | exact Ne.symm neG);refine xk hK0 hx1 ?_;clear hK0 K
        try simp only [xs, Act.put]
        refine wpAnyH_done (by kernel_rfl) ?_ _;refine NoPanic.normal ?_;go_wp2_with fail;go_meet;exact ⟨_, _, rfl, zb zG, k1, zb (low_np (Arr.hasP (cs := ec ⟨Ky, VV⟩) k2 trivial) wK wV), hx1⟩
       ·go_simp
        obtain ⟨y4, ey4, fy4, aG0⟩ := zoR y1;rw [ey4];have zG : W9.heap.size ≤ y1.heap.size := hy1.size;have hy4 : Fr W9 y4 := za hy1 fy4;have aG := aG0;refine xk hK0 hy4 ?_;clear hK0 K;refine xr 4 fun K hK0 => ?_;go_simp
        try simp only [eb1]
        try simp only [eb2]
        obtain ⟨y5, ey5, fy5, aE0⟩ : ∃ V, World.alloc y4 (.cells (ec ⟨Ky, VV⟩).toArray 63) = V ∧ Fr y4 V ∧ Arr V y4.heap.size 63 (ec ⟨Ky, VV⟩).toArray := ⟨_, rfl, zf (ze _) _, Arr.new _ _ _⟩;rw [ey5];have neG : y1.heap.size ≠ y4.heap.size := Nat.ne_of_lt aG.lt;have hy5 : Fr W9 y5 := za hy4 fy5;have aG := aG.below fy5 aG.lt;have aE := aE0;refine xk hK0 hy5 ?_;clear hK0 K
        try simp only [xs, Act.put]
        refine xto 5 ?_;refine xr 7 fun K hK0 => ?_;refine tN ⟨true, some ⟨y4.heap.size, 0, none⟩, 1, 1, none, 0, 0, none, 0, 0, none, 0, 0⟩ 20 118 y1.heap.size aG ?_;intro x1 k1 q1;have hx1 := q1.fr hy5 zG;have k2 := q1.other aE (by first | exact neG | exact Ne.symm neG);refine xk hK0 hx1 ?_;clear hK0 K
        try simp only [xs, Act.put]
        refine wpAnyH_done (by kernel_rfl) ?_ _;refine NoPanic.normal ?_;go_wp2_with fail;go_meet;exact ⟨_, _, rfl, zb zG, k1, zb (low_np (Arr.hasP (cs := ec ⟨Ky, VV⟩) k2 trivial) wK wV), hx1⟩
      ·go_simp
       obtain ⟨y6, ey6, fy6, aG0⟩ := zoR X0;rw [ey6];have zG : W9.heap.size ≤ X0.heap.size := hX0.size;have hy6 : Fr W9 y6 := za hX0 fy6;have aG := aG0;refine xk hK0 hy6 ?_;clear hK0 K;refine xr 2 fun K hK0 => ?_;go_simp;refine (cV y6 y6 (ze _)).mono ?_;rintro e y7 ⟨rfl, fy7⟩;go_simp;have hy7 : Fr W9 y7 := za hy6 fy7;have aG := aG.below fy7 aG.lt;refine xk hK0 hy7 ?_;clear hK0 K
       try simp only [xs, Act.put]
       refine xto 3 ?_;refine xr 4 fun K hK0 => ?_;go_simp
       try simp only [eb1]
       try simp only [eb2]
       obtain ⟨y8, ey8, fy8, aE0⟩ : ∃ V, World.alloc y7 (.cells (ec ⟨Ky, VV⟩).toArray 63) = V ∧ Fr y7 V ∧ Arr V y7.heap.size 63 (ec ⟨Ky, VV⟩).toArray := ⟨_, rfl, zf (ze _) _, Arr.new _ _ _⟩;rw [ey8];have neG : X0.heap.size ≠ y7.heap.size := Nat.ne_of_lt aG.lt;have hy8 : Fr W9 y8 := za hy7 fy8;have aG := aG.below fy8 aG.lt;have aE := aE0;refine xk hK0 hy8 ?_;clear hK0 K
       try simp only [xs, Act.put]
       refine xto 5 ?_;refine xr 7 fun K hK0 => ?_;refine tN ⟨true, some ⟨y7.heap.size, 0, none⟩, 1, 1, none, 0, 0, none, 0, 0, none, 0, 0⟩ 20 118 X0.heap.size aG ?_;intro x1 k1 q1;have hx1 := q1.fr hy8 zG;have k2 := q1.other aE (by first | exact neG | exact Ne.symm neG);refine xk hK0 hx1 ?_;clear hK0 K
       try simp only [xs, Act.put]
       refine wpAnyH_done (by kernel_rfl) ?_ _;refine NoPanic.normal ?_;go_wp2_with fail;go_meet;exact ⟨_, _, rfl, zb zG, k1, zb (low_np (Arr.hasP (cs := ec ⟨Ky, VV⟩) k2 trivial) wK wV), hx1⟩
     case rest =>
      obtain ⟨g20, vl, e20, hg20, b20, nL, f10⟩ := hcut;subst e20;obtain ⟨W10, eW⟩ : ∃ W, W = wc := ⟨_, rfl⟩;rw [← eW];rw [← eW] at b20 nL f10;clear eW eb1 eb2 hv17 he26 FX;have d13 := d13.below f10 d13.lt;have b19 := b19.below f10 b19.lt;have b18 := b18.below f10 b18.lt;have nR := zb (nR.out.fr f10);have nH := zb (nH.out.fr f10);have F10 := za F9 f10;have hlf := oR.out.2;have hz17 : Hid ((vc zE).length = 17) := zb rfl;clear f10 hg20
      cases ib
      case' false =>
       have hle : R.lf = true := hlf.trans rfl;have eF := halfN_findE oR.out.1.1 hle hb Ky;have oE := ((zcd hle).1 oR.out.1.1).2.2.2;have go : ∀ v, zO R.es Ky = some v → v.wf ∧ okV v = true := fun v h => ze2 oE h;have c1 : ∀ W, Fr W10 W → W.cell? ⟨w1.heap.size, 1, none⟩ = some (.slice vr.A1 vr.n1 vr.c1) := fun W h => (d13.below h d13.lt).cell 1;have lK : ∀ W, Fr W10 W → (ldS 26 (.pointer (some ⟨w7.heap.size, 0, none⟩))).run Tryz.prog W = .ok (.agg (kc Ky).toArray) W := fun W h => zaf.ld (zl _) (b18.below h b18.lt);have cE := fun W (h : Fr W10 W) => ziL (k := Ky) (c := vr.c1) ((nR.out.fr h).h1.has) (Nat.le_refl _) nR.out.l1 nR.out.s1 nR.out.w1 wK;have cG := fun W (h : Fr W10 W) => ziL (k := Ky) (c := vh.c1) ((nH.out.fr h).h1.has) (Nat.le_refl _) nH.out.l1 nH.out.s1 nH.out.w1 wK;rw [eF] at cG;generalize zO R.es Ky = o at *;have hlx := zb (zD (o_wf go).hl);have wx := o_wf go;unfold zmv at cE cG;generalize o.getD zE = x at *;generalize o.isSome = bo at *;unfold vv at cE cG;have FX : Fr W10 W10 := ze _;have hU := cW;clear nH nR nL b20 go eF oE;go_wp2_with fail;refine (cE _ FX).mono ?_;rintro e w11 ⟨rfl, f11⟩;have F11 := za F10 f11;replace d13 := d13.below f11 d13.lt;replace b18 := b18.below f11 b18.lt;replace b19 := b19.below f11 b19.lt;clear c1 lK cE
       obtain ⟨V5, hV5, fV5, nb21⟩ : ∃ V, World.alloc w11 (.cells (vc zE).toArray 29) = V ∧ Fr w11 V ∧ Arr V w11.heap.size 29 (vc zE).toArray := ⟨_, rfl, zf (ze _) _, Arr.new _ _ _⟩;rw [zc7] at hV5;have FV5 := za F11 fV5;have zb21 := F11.size;have yd13 := d13.lt;replace d13 := d13.below fV5 d13.lt;have yb18 := b18.lt;replace b18 := b18.below fV5 b18.lt;have yb19 := b19.lt;replace b19 := b19.below fV5 b19.lt;have tokb21 : Hid (0 < 1) := zb (by decide)
       go_upto_region 16 with (first
        | (clear tokb21; refine zp (ds := vc x) zad rfl (.tmp 21) (.tmp 126) rfl w11.heap.size 0 rfl rfl hlx.out (zar _) nb21 (Nat.le_of_eq hz17.out.symm) (zk _ _ (Nat.le_of_eq (hz17.out.trans hlx.out.symm))) ?_; intro Wb21 b21 ub21
           replace d13 := ub21.other d13 (by omega);replace b18 := ub21.other b18 (by omega);replace b19 := ub21.other b19 (by omega);have Fb21 := ub21.fr FV5 (by omega))
        | fail)
       have c1 : ∀ W, Fr Wb21 W → W.cell? ⟨x3.heap.size, 1, none⟩ = some (.slice vh.A1 vh.n1 vh.c1) := fun W h => (b19.below h b19.lt).cell 1;have lK : ∀ W, Fr Wb21 W → (ldS 26 (.pointer (some ⟨w7.heap.size, 0, none⟩))).run Tryz.prog W = .ok (.agg (kc Ky).toArray) W := fun W h => zaf.ld (zl _) (b18.below h b18.lt);have FX1 : Fr Wb21 Wb21 := ze _;have f1021 : Fr W10 Wb21 := ub21.fr (za f11 fV5) f11.size;go_wp2_with fail;refine (cG _ f1021).mono ?_;rintro e w12 ⟨rfl, f12⟩;have F12 := za Fb21 f12;replace d13 := d13.below f12 d13.lt;replace b18 := b18.below f12 b18.lt;replace b19 := b19.below f12 b19.lt;replace b21 := b21.below f12 b21.lt;clear c1 lK cG;obtain ⟨V6, hV6, fV6, nb23⟩ : ∃ V, World.alloc w12 (.cells (vc zE).toArray 29) = V ∧ Fr w12 V ∧ Arr V w12.heap.size 29 (vc zE).toArray := ⟨_, rfl, zf (ze _) _, Arr.new _ _ _⟩;rw [zc7] at hV6;have FV6 := za F12 fV6;have zb23 := F12.size;have yd13 := d13.lt;replace d13 := d13.below fV6 d13.lt;have yb18 := b18.lt;replace b18 := b18.below fV6 b18.lt;have yb19 := b19.lt;replace b19 := b19.below fV6 b19.lt;have yb21 := b21.lt;replace b21 := b21.below fV6 b21.lt;have tokb23 : Hid (0 < 1) := zb (by decide)
       go_upto_region 17 with (first
        | (clear tokb23; refine zp (ds := vc x) zad rfl (.tmp 23) (.tmp 133) rfl w12.heap.size 0 rfl rfl hlx.out (zar _) nb23 (Nat.le_of_eq hz17.out.symm) (zk _ _ (Nat.le_of_eq (hz17.out.trans hlx.out.symm))) ?_; intro Wb23 b23 ub23
           replace d13 := ub23.other d13 (by omega);replace b18 := ub23.other b18 (by omega);replace b19 := ub23.other b19 (by omega);replace b21 := ub23.other b21 (by omega);have Fb23 := ub23.fr FV6 (by omega))
        | fail)
       have l21 : ∀ V, Fr Wb23 V → (ldS 29 (.pointer (some ⟨w11.heap.size, 0, none⟩))).run Tryz.prog V = .ok (.agg (vc x).toArray) V := fun V h => zbs.ld hlx.out (b21.below h b21.lt);have l23 : ∀ V, Fr Wb23 V → (ldS 29 (.pointer (some ⟨w12.heap.size, 0, none⟩))).run Tryz.prog V = .ok (.agg (vc x).toArray) V := fun V h => zbs.ld hlx.out (b23.below h b23.lt);have qV : ∀ V, (binOp .eql 29 (.agg (vc x).toArray) (.agg (vc x).toArray)).run Tryz.prog V = .ok (.bool true) V := fun V => by have := znq wx wx V; rwa [decide_eq_true rfl] at this
       have FX2 : Fr Wb23 Wb23 := ze _;clear b18 b19 d13 b21 b23 nb21 nb23
       cases bo
       all_goals go_wp2_with fail
       all_goals refine (cW _).mono ?_
       all_goals rintro e x5 ⟨rfl, g5⟩
       all_goals go_wp2_with fail
       all_goals go_ret
       all_goals exact ⟨rfl, za Fb23 g5⟩
      case' true =>
       have hle : R.lf = false := hlf.trans rfl;have eF := halfN_findL oR.out.1.1 hle hb wK oK;have gR : zcq R.ms := ((zaI hle).1 oR.out.1.1).2.2.good
       have gH : zcq (halfN R Ky).ms := by
        have hh := half_fits oR.out.1.1 oR.out.1.2 hb;unfold halfN
        split
        ·exact ((zaI (by unfold hl1; rw [hle]; rfl)).1 hh.1.1).2.2.good
        ·exact ((zaI (by unfold hl2; rw [hle]; rfl)).1 hh.2.1).2.2.good
       have oE : OkE [(⟨Ky, VV⟩ : RE)] := ⟨fun x hx => by rw [List.mem_singleton.1 hx]; exact ⟨wK, oK, wV, oV⟩, List.pairwise_cons.2 ⟨by simp, List.Pairwise.nil⟩⟩;have go : ∀ v, app1 (zaj R.ms Ky) (zO [(⟨Ky, VV⟩ : RE)] Ky) = some v → v.wf ∧ okV v = true := app1_good (fun x hx => gR x (zjm hx).1) (fun v h => ze2 oE h);have cA := fun X (fX : Fr W10 X) (W : World) (f : Fr X W) (a : Arr W X.heap.size 37 vr.cells.toArray) => value_at (w := W) (A := some ⟨X.heap.size, 0, none⟩) (n := 1) (c := 1) (us := [(vr, R)]) (nL.out.fr (za fX f)) oE wK (by simpa [zm] using (Arr.hasP (ok := tt) a trivial).has) rfl (by omega) (fun p hp => by rw [List.mem_singleton.1 hp]; exact ⟨nR.out.fr (za fX f), gR⟩);have cB := fun X (fX : Fr W10 X) (W : World) (f : Fr X W) (a : Arr W X.heap.size 37 vh.cells.toArray) => value_at (w := W) (A := some ⟨X.heap.size, 0, none⟩) (n := 1) (c := 1) (us := [(vh, halfN R Ky)]) (nL.out.fr (za fX f)) oE wK (by simpa [zm] using (Arr.hasP (ok := tt) a trivial).has) rfl (by omega) (fun p hp => by rw [List.mem_singleton.1 hp]; exact ⟨nH.out.fr (za fX f), gH⟩);simp only [upO, List.foldl_cons, List.foldl_nil] at cA cB;rw [eF] at cB;generalize app1 (zaj R.ms Ky) (zO [(⟨Ky, VV⟩ : RE)] Ky) = o at *;have hlx := zb (zD (o_wf go).hl);have wx := o_wf go;unfold zmv at cA cB;generalize o.getD zE = x at *;generalize o.isSome = bo at *;unfold vv nv at cA cB;have fd1 := node_fold vr;have fd2 := node_fold vh
       have h5r : (NV.cells vr).length = 5 := rfl;have h5h : (NV.cells vh).length = 5 := rfl;have l20 : ∀ W, Fr W10 W → (ldS 37 (.pointer (some ⟨g20, 0, none⟩))).run Tryz.prog W = .ok (.agg (NV.cells vl).toArray) W := fun W h => zq.ld rfl (b20.below h b20.lt);have l13 : ∀ W, Fr W10 W → (ldS 37 (.pointer (some ⟨w1.heap.size, 0, none⟩))).run Tryz.prog W = .ok (.agg (NV.cells vr).toArray) W := fun W h => zq.ld rfl (d13.below h d13.lt);have l19 : ∀ W, Fr W10 W → (ldS 37 (.pointer (some ⟨x3.heap.size, 0, none⟩))).run Tryz.prog W = .ok (.agg (NV.cells vh).toArray) W := fun W h => zq.ld rfl (b19.below h b19.lt);have lK : ∀ W, Fr W10 W → (ldS 26 (.pointer (some ⟨w7.heap.size, 0, none⟩))).run Tryz.prog W = .ok (.agg (kc Ky).toArray) W := fun W h => zaf.ld (zl _) (b18.below h b18.lt);obtain ⟨U1, hU1, fU1, aU1⟩ : ∃ V, World.alloc W10 (.cells vr.cells.toArray 37) = V ∧ Fr W10 V ∧ Arr V W10.heap.size 37 vr.cells.toArray := ⟨_, rfl, zf (ze _) _, Arr.new _ _ _⟩;have FX : Fr W10 W10 := ze _;clear nH nR nL go eF oE gR gH d13 b18 b19 b20;go_wp2_with fail;refine (cA _ FX _ fU1 aU1).mono ?_;rintro e w11 ⟨rfl, f11⟩;have FU := za F10 (za fU1 f11);have f1011 := za fU1 f11;clear cA aU1;obtain ⟨V7, hV7, fV7, nb25⟩ : ∃ V, World.alloc w11 (.cells (vc zE).toArray 29) = V ∧ Fr w11 V ∧ Arr V w11.heap.size 29 (vc zE).toArray := ⟨_, rfl, zf (ze _) _, Arr.new _ _ _⟩
       rw [zc7] at hV7;have FV7 := za FU fV7;have zb25 := FU.size;have tokb25 : Hid (0 < 1) := zb (by decide)
       go_upto_region 19 with (first
        | (clear tokb25; refine zp (ds := vc x) zad rfl (.tmp 25) (.tmp 152) rfl w11.heap.size 0 rfl rfl hlx.out (zar _) nb25 (Nat.le_of_eq hz17.out.symm) (zk _ _ (Nat.le_of_eq (hz17.out.trans hlx.out.symm))) ?_; intro Wb25 b25 ub25
           have Fb25 := ub25.fr FV7 (by omega))
        | fail)
       have f1025 : Fr W10 Wb25 := ub25.fr (za f1011 fV7) f1011.size;have l20 : ∀ W, Fr Wb25 W → (ldS 37 (.pointer (some ⟨g20, 0, none⟩))).run Tryz.prog W = .ok (.agg (NV.cells vl).toArray) W := fun W h => l20 W (za f1025 h);have l19 : ∀ W, Fr Wb25 W → (ldS 37 (.pointer (some ⟨x3.heap.size, 0, none⟩))).run Tryz.prog W = .ok (.agg (NV.cells vh).toArray) W := fun W h => l19 W (za f1025 h);have lK : ∀ W, Fr Wb25 W → (ldS 26 (.pointer (some ⟨w7.heap.size, 0, none⟩))).run Tryz.prog W = .ok (.agg (kc Ky).toArray) W := fun W h => lK W (za f1025 h);obtain ⟨U2, hU2, fU2, aU2⟩ : ∃ V, World.alloc Wb25 (.cells vh.cells.toArray 37) = V ∧ Fr Wb25 V ∧ Arr V Wb25.heap.size 37 vh.cells.toArray := ⟨_, rfl, zf (ze _) _, Arr.new _ _ _⟩;have FX1 : Fr Wb25 Wb25 := ze _;go_wp2_with fail;refine (cB _ f1025 _ fU2 aU2).mono ?_;rintro e w12 ⟨rfl, f12⟩;have FU2 := za Fb25 (za fU2 f12);replace b25 := b25.below (za fU2 f12) b25.lt;clear cB aU2 l20 l19 lK l13;obtain ⟨V8, hV8, fV8, nb27⟩ : ∃ V, World.alloc w12 (.cells (vc zE).toArray 29) = V ∧ Fr w12 V ∧ Arr V w12.heap.size 29 (vc zE).toArray := ⟨_, rfl, zf (ze _) _, Arr.new _ _ _⟩;rw [zc7] at hV8;have FV8 := za FU2 fV8;have zb27 := FU2.size;have yb25 := b25.lt;replace b25 := b25.below fV8 b25.lt;have tokb27 : Hid (0 < 1) := zb (by decide)
       go_upto_region 20 with (first
        | (clear tokb27; refine zp (ds := vc x) zad rfl (.tmp 27) (.tmp 160) rfl w12.heap.size 0 rfl rfl hlx.out (zar _) nb27 (Nat.le_of_eq hz17.out.symm) (zk _ _ (Nat.le_of_eq (hz17.out.trans hlx.out.symm))) ?_; intro Wb27 b27 ub27
           replace b25 := ub27.other b25 (by omega);have Fb27 := ub27.fr FV8 (by omega))
        | fail)
       have l25 : ∀ V, Fr Wb27 V → (ldS 29 (.pointer (some ⟨w11.heap.size, 0, none⟩))).run Tryz.prog V = .ok (.agg (vc x).toArray) V := fun V h => zbs.ld hlx.out (b25.below h b25.lt);have l27 : ∀ V, Fr Wb27 V → (ldS 29 (.pointer (some ⟨w12.heap.size, 0, none⟩))).run Tryz.prog V = .ok (.agg (vc x).toArray) V := fun V h => zbs.ld hlx.out (b27.below h b27.lt);have qV : ∀ V, (binOp .eql 29 (.agg (vc x).toArray) (.agg (vc x).toArray)).run Tryz.prog V = .ok (.bool true) V := fun V => by have := znq wx wx V; rwa [decide_eq_true rfl] at this
       have FX2 : Fr Wb27 Wb27 := ze _;clear b25 b27 nb25 nb27
       cases bo
       all_goals go_wp2_with fail
       all_goals refine (cW _).mono ?_
       all_goals rintro e x5 ⟨rfl, g5⟩
       all_goals go_wp2_with fail
       all_goals go_ret
       all_goals exact ⟨rfl, za Fb27 g5⟩
end Go.Proofs.YtiggcgajanfbjaaGreat
