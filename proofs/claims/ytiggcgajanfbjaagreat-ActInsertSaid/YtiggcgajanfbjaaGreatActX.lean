/- ActInsert, walked. -/
import Derived.Test.YtiggcgajanfbjaaGreatActXa
import Derived.Test.YtiggcgajanfbjaaGreatActR
import Derived.Test.YtiggcgajanfbjaaGreatActJb
import Derived.Test.YtiggcgajanfbjaaGreatRf
import Derived.Test.YtiggcgajanfbjaaGreatShort
namespace Go.Proofs.YtiggcgajanfbjaaGreat
set_option linter.unusedVariables false
set_option linter.unusedSimpArgs false
set_option maxRecDepth 100000
open Go.RowKit
attribute [local go_sem ↓] zaP zw
set_option maxHeartbeats 40000000 in
theorem actInsert_core {w : World} {A0 A1 A3 : Option Addr} {n0 c0 n1 c1 n3 c3 : Nat} {es ns ms : List Int} {f iv : Int} (hl0' : Has w w.heap.size A0 (es.map (Value.int .i64))) (hn0 : es.length = n0) (hes : ∀ z ∈ es, zal z) (hm0 : n0 ≤ maxLen)
 (hl1 : Has w w.heap.size A1 (ns.map (Value.int .i64))) (hn1 : ns.length = n1) (hns : ∀ z ∈ ns, zal z) (hby : n1 * 8 ≤ 140737488351232) (hf : zal f)
 (hl3 : Has w w.heap.size A3 (ms.map (Value.int .i64))) (hn3 : ms.length = n3) (hms : ∀ z ∈ ms, zal z) (hm3 : n3 ≤ maxLen) (hiv : zal iv) :
 Calls Tryz.prog 3 #[.slice A0 n0 c0, .slice A1 n1 c1, .int .i64 f, .slice A3 n3 c3, .int .i64 iv] w fun e w' => e = .returned (.bool true) ∧ Below w.heap.size w w' := by
 have rr := ze w;have cM := fun W => zey (v := iv) (s := 900) (W0 := W) (W := W) hiv (by unfold zal; decide) (ze W);have wm := zc0 iv 900;have om := zc4 iv 900;generalize zdq iv 900 = m at *;have hln := zP wm.val.hl;have hl0 : (mc za0).length = 29 := rfl;have cL := fun W (h : Fr w W) => zoV (w := W) (c := c0) (hl0'.fr (Nat.le_refl _) h) h.size hn0 hes hm0;have cI := fun W (h : Fr w W) => zjw (w := W) (c := c1) (c2 := c3) (f := f) (hl1.fr (Nat.le_refl _) h) h.size hn1 hns hf (hl3.fr (Nat.le_refl _) h) h.size hn3 hms hm3 hby
 have oL := zir es;have eL := zjk es;have nL : (zcp es).es.length ≤ 80 := zfe es 248;have lL : (zcp es).lf = true := rfl;have oI := zm0 ns f ms;have eI := zkM ns f ms;have nI : (zdY ns f ms).ms.length ≤ 60 := zcS ms 205;have lI : (zdY ns f ms).lf = false := rfl
 have fitL : ∃ b : Bool, b = true ↔ OkN (zaQ (zcp es) [m]) ∧ zcW (zaQ (zcp es) [m]) ≤ rmN (zaQ (zcp es) [m]) := by
  by_cases h : OkN (zaQ (zcp es) [m]) ∧ zcW (zaQ (zcp es) [m]) ≤ rmN (zaQ (zcp es) [m])
  ·exact ⟨true, fun _ => h, fun _ => rfl⟩
  ·exact ⟨false, fun h' => (by cases h'), fun h' => absurd h' h⟩
 have fitI : ∃ b : Bool, b = true ↔ OkN (zaQ (zdY ns f ms) [m]) ∧ zcW (zaQ (zdY ns f ms) [m]) ≤ rmN (zaQ (zdY ns f ms) [m]) := by
  by_cases h : OkN (zaQ (zdY ns f ms) [m]) ∧ zcW (zaQ (zdY ns f ms) [m]) ≤ rmN (zaQ (zdY ns f ms) [m])
  ·exact ⟨true, fun _ => h, fun _ => rfl⟩
  ·exact ⟨false, fun h' => (by cases h'), fun h' => absurd h' h⟩
 have byL := zn6 es;have byI := innN_byt ns f ms;generalize zcp es = L at *;generalize zdY ns f ms = N at *;obtain ⟨fl, hfl⟩ := fitL;obtain ⟨fi, hfi⟩ := fitI;clear hl0' hn0 hes hm0 hl1 hn1 hns hf hl3 hn3 hms hm3 hby hiv;go_enter Tryz.func3, Tryz.ntmps3;go_wp2_with fail;refine (cM _).mono ?_;rintro e w1 ⟨rfl, f1⟩;clear cM;have zbase := f1.size;obtain ⟨V1, hV1, fV1, hvz, hA⟩ := zaz [((mc za0).toArray, 31)] w1;have eb1 : Arr V1 (w1.heap.size) 31 (mc za0).toArray := hA 0 _ rfl;change (w1).alloc (.cells (mc za0).toArray 31) = V1 at hV1;rw [zdM] at hV1;have FV1 := za f1 fV1;clear hA hvz;have tokb1 : Hid (0 < 1) := zb (by decide)
 go_upto_region 2 with (first
  | (clear tokb1; refine zp (ds := (mc m)) zX rfl (.tmp 11) (.tmp 21) rfl (w1.heap.size) 0 rfl rfl hln (zay _) eb1 (Nat.le_of_eq hl0.symm) (zk _ _ (Nat.le_of_eq (hl0.trans hln.symm))) ?_; intro V1_b1 b1 ub1
     have FV1_b1 := ub1.fr FV1 (by omega);have rV1_b1 := ze V1_b1;have ldb1 : ∀ W, Fr V1_b1 W → (ldS 31 (.pointer (some ⟨w1.heap.size, 0, none⟩))).run Tryz.prog W = .ok (.agg (mc m).toArray) W := fun W h => za4.ld hln (b1.below h b1.lt))
  | fail)
 have zbase := FV1_b1.size;have zb1 := b1.lt;have FX : Fr V1_b1 V1_b1 := ze _
 try simp only [Act.put]
 go_cut [12, 13] from 22 to 29 (fun s6 s7 wx => ∃ g vQ, s6 = .pointer (some ⟨g, 0, none⟩) ∧ s7 = .bool fl ∧ Hid (V1_b1.heap.size ≤ g) ∧ Arr wx g 37 (NV.cells vQ).toArray ∧ Hid (NP wx tt vQ (if fl = true then zaQ L [m] else L)) ∧ Fr V1_b1 wx)
 case first =>
  have hX0 : Fr V1_b1 V1_b1.drew := zn FX;have ldb1 : ∀ W, Fr V1_b1 W → (ldS 31 (.pointer (some ⟨w1.heap.size, 0, none⟩))).run Tryz.prog W = .ok (.agg (mc m).toArray) W := fun W h => za4.ld hln (b1.below h b1.lt);refine wp_region_noPanic ?_;refine wp_region_held_drew (S := fun w' => Fr V1_b1 w') (by kernel_rfl) hX0 (fun hHeld => ?_);change wpAnyH _ _ _ _ _ _ _ _ _;generalize V1_b1.drew = X0 at *;refine xto 0 ?_;refine xto 2 ?_;refine xrr 1 7 (fun K hK0 => ?_) fun K hK0 => ?_
  ·go_simp
   refine (cL X0 (za FV1_b1 hX0)).mono ?_;rintro e y1 ⟨vv, rfl, hN, fy1⟩;go_simp;have hy1 : Fr V1_b1 y1 := za hX0 fy1;have hL : Hid (NP y1 tt vv (L)) := zb (hN.out.weak fun _ _ _ => trivial);refine xk hK0 hy1 ?_;clear hK0 K;refine xrr 3 7 (fun K hK0 => ?_) fun K hK0 => ?_
   ·go_simp
    have cQ := zel (w := y1) (ok := tt) (m := m) (fb := fl) (fun _ _ => trivial) hL.out lL eL (by omega) wm om hfl;unfold zdz nv at cQ;refine cQ.mono ?_;rintro e y2 ⟨vQ, b, n', rfl, hI, hQ, fy2⟩;go_simp;have hy2 : Fr V1_b1 y2 := za hy1 fy2;have hL := zb (hL.out.fr fy2);obtain ⟨rfl, rfl⟩ := hI.out;refine xk hK0 hy2 ?_;clear hK0 K
    try simp only [xs, Act.put]
    refine xto 4 ?_;refine xto 5 ?_;refine xto 6 ?_;refine xr 7 fun K hK0 => ?_;go_simp;have hQ := zb (hQ.out.weak (ok' := okL tt [y2.heap.size]) (fun b hb _ => ⟨trivial, fun hm => by simp at hm; omega⟩));have hL := zb (hL.out.weak (ok' := okL tt [y2.heap.size]) (fun b hb _ => ⟨trivial, fun hm => by simp at hm; omega⟩));obtain ⟨y3, ey3, fy3, aG⟩ := zoR y2;rw [ey3];have zG : V1_b1.heap.size ≤ y2.heap.size := hy2.size;have hy3 : Fr V1_b1 y3 := za hy2 fy3;have hQ := zb (hQ.out.fr fy3);have hL := zb (hL.out.fr fy3);refine xk hK0 hy3 ?_;clear hK0 K;refine xr 8 fun K hK0 => ?_;refine tN vQ 12 27 y2.heap.size aG ?_;intro x1 k1 q1;have hx1 := q1.fr hy3 zG;refine xk hK0 hx1 ?_;clear hK0 K
    try simp only [xs, Act.put]
    refine xto 9 ?_;refine wpAnyH_done (by kernel_rfl) ?_ _;refine NoPanic.normal ?_;go_wp2_with fail;go_meet;exact ⟨_, vQ, rfl, rfl, zb zG, k1, zb ((hQ.out.kept q1 (fun h => h.2 (by simp))).weak fun _ _ _ => trivial), hx1⟩
   ·go_simp
    have hL := zb (hL.out.weak (ok' := okL tt [y1.heap.size]) (fun b hb _ => ⟨trivial, fun hm => by simp at hm; omega⟩));obtain ⟨y4, ey4, fy4, aG⟩ := zoR y1;rw [ey4];have zG : V1_b1.heap.size ≤ y1.heap.size := hy1.size;have hy4 : Fr V1_b1 y4 := za hy1 fy4;have hL := zb (hL.out.fr fy4);refine xk hK0 hy4 ?_;clear hK0 K;refine xr 3 fun K hK0 => ?_;go_simp;have cQ := zel (w := y4) (ok := (okL tt [y1.heap.size])) (m := m) (fb := fl) (zbU (fun _ _ => trivial) (fun g hg => by simp at hg; subst hg; exact aG.lt)) hL.out lL eL (by omega) wm om hfl;unfold zdz nv at cQ;refine cQ.mono ?_;rintro e y5 ⟨vQ, b, n', rfl, hI, hQ, fy5⟩;go_simp;have hy5 : Fr V1_b1 y5 := za hy4 fy5;have aG := aG.below fy5 aG.lt;have hL := zb (hL.out.fr fy5);obtain ⟨rfl, rfl⟩ := hI.out;refine xk hK0 hy5 ?_;clear hK0 K
    try simp only [xs, Act.put]
    refine xto 4 ?_;refine xto 5 ?_;refine xto 6 ?_;refine xr 8 fun K hK0 => ?_;refine tN vQ 12 27 y1.heap.size aG ?_;intro x1 k1 q1;have hx1 := q1.fr hy5 zG;refine xk hK0 hx1 ?_;clear hK0 K
    try simp only [xs, Act.put]
    refine xto 9 ?_;refine wpAnyH_done (by kernel_rfl) ?_ _;refine NoPanic.normal ?_;go_wp2_with fail;go_meet;exact ⟨_, vQ, rfl, rfl, zb zG, k1, zb ((hQ.out.kept q1 (fun h => h.2 (by simp))).weak fun _ _ _ => trivial), hx1⟩
  ·go_simp
   obtain ⟨y6, ey6, fy6, aG⟩ := zoR X0;rw [ey6];have zG : V1_b1.heap.size ≤ X0.heap.size := hX0.size;have hy6 : Fr V1_b1 y6 := za hX0 fy6;refine xk hK0 hy6 ?_;clear hK0 K;refine xr 1 fun K hK0 => ?_;go_simp;have aG0 := aG;refine (cL y6 (za FV1_b1 hy6)).mono ?_;rintro e y7 ⟨vv, rfl, hN, fy7⟩;go_simp;have hy7 : Fr V1_b1 y7 := za hy6 fy7;have aG := aG.below fy7 aG.lt;have hL : Hid (NP y7 (okL tt [X0.heap.size]) vv (L)) := zb (hN.out.weak fun b _ hb => ⟨trivial, fun hm => by simp at hm; subst hm; exact absurd hb (by have := aG0.lt; omega)⟩);refine xk hK0 hy7 ?_;clear hK0 K;refine xr 3 fun K hK0 => ?_;go_simp;have cQ := zel (w := y7) (ok := (okL tt [X0.heap.size])) (m := m) (fb := fl) (zbU (fun _ _ => trivial) (fun g hg => by simp at hg; subst hg; exact aG.lt)) hL.out lL eL (by omega) wm om hfl;unfold zdz nv at cQ;refine cQ.mono ?_;rintro e y8 ⟨vQ, b, n', rfl, hI, hQ, fy8⟩;go_simp;have hy8 : Fr V1_b1 y8 := za hy7 fy8;have aG := aG.below fy8 aG.lt;have hL := zb (hL.out.fr fy8);obtain ⟨rfl, rfl⟩ := hI.out;refine xk hK0 hy8 ?_;clear hK0 K
   try simp only [xs, Act.put]
   refine xto 4 ?_;refine xto 5 ?_;refine xto 6 ?_;refine xr 8 fun K hK0 => ?_;refine tN vQ 12 27 X0.heap.size aG ?_;intro x1 k1 q1;have hx1 := q1.fr hy8 zG;refine xk hK0 hx1 ?_;clear hK0 K
   try simp only [xs, Act.put]
   refine xto 9 ?_;refine wpAnyH_done (by kernel_rfl) ?_ _;refine NoPanic.normal ?_;go_wp2_with fail;go_meet;exact ⟨_, vQ, rfl, rfl, zb zG, k1, zb ((hQ.out.kept q1 (fun h => h.2 (by simp))).weak fun _ _ _ => trivial), hx1⟩
 case rest =>
  obtain ⟨gb2, vb2, hs6, hs7, hGb2, b2, nb2, fWb2⟩ := hcut;subst hs6 hs7;obtain ⟨Wb2, eWb2⟩ : ∃ W, W = wc := ⟨_, rfl⟩;rw [← eWb2];rw [← eWb2] at b2 nb2 fWb2;clear eWb2;have zgb2 := hGb2.out;have FWb2 := za FV1_b1 fWb2;replace b1 := b1.below fWb2 b1.lt;have zb2 := b2.lt
  go_upto_region 3 with fail
  have zbase := FWb2.size;have zb1 := b1.lt;have zb2 := b2.lt;have FX : Fr Wb2 Wb2 := ze _
  try simp only [Act.put]
  go_cut [14, 15] from 29 to 36 (fun s6 s7 wx => ∃ g vQ, s6 = .pointer (some ⟨g, 0, none⟩) ∧ s7 = .bool fl ∧ Hid (Wb2.heap.size ≤ g) ∧ Arr wx g 37 (NV.cells vQ).toArray ∧ Hid (NP wx tt vQ (if fl = true then zaQ L [m] else L)) ∧ Fr Wb2 wx)
  case first =>
   have hX0 : Fr Wb2 Wb2.drew := zn FX;have ldb1 : ∀ W, Fr Wb2 W → (ldS 31 (.pointer (some ⟨w1.heap.size, 0, none⟩))).run Tryz.prog W = .ok (.agg (mc m).toArray) W := fun W h => za4.ld hln (b1.below h b1.lt);refine wp_region_noPanic ?_;refine wp_region_held_drew (S := fun w' => Fr Wb2 w') (by kernel_rfl) hX0 (fun hHeld => ?_);change wpAnyH _ _ _ _ _ _ _ _ _;generalize Wb2.drew = X0 at *;refine xto 0 ?_;refine xto 2 ?_;refine xrr 1 7 (fun K hK0 => ?_) fun K hK0 => ?_
   ·go_simp
    refine (cL X0 (za FWb2 hX0)).mono ?_;rintro e y1 ⟨vv, rfl, hN, fy1⟩;go_simp;have hy1 : Fr Wb2 y1 := za hX0 fy1;have hL : Hid (NP y1 tt vv (L)) := zb (hN.out.weak fun _ _ _ => trivial);refine xk hK0 hy1 ?_;clear hK0 K;refine xrr 3 7 (fun K hK0 => ?_) fun K hK0 => ?_
    ·go_simp
     have cQ := zgK (w := y1) (ok := tt) (m := m) (fb := fl) (fun _ _ => trivial) hL.out lL eL (by omega) wm om hfl;unfold zdz nv at cQ;refine cQ.mono ?_;rintro e y2 ⟨vQ, b, n', rfl, hI, hQ, fy2⟩;go_simp;have hy2 : Fr Wb2 y2 := za hy1 fy2;have hL := zb (hL.out.fr fy2);obtain ⟨rfl, rfl⟩ := hI.out;refine xk hK0 hy2 ?_;clear hK0 K
     try simp only [xs, Act.put]
     refine xto 4 ?_;refine xto 5 ?_;refine xto 6 ?_;refine xr 7 fun K hK0 => ?_;go_simp;have hQ := zb (hQ.out.weak (ok' := okL tt [y2.heap.size]) (fun b hb _ => ⟨trivial, fun hm => by simp at hm; omega⟩));have hL := zb (hL.out.weak (ok' := okL tt [y2.heap.size]) (fun b hb _ => ⟨trivial, fun hm => by simp at hm; omega⟩));obtain ⟨y3, ey3, fy3, aG⟩ := zoR y2;rw [ey3];have zG : Wb2.heap.size ≤ y2.heap.size := hy2.size;have hy3 : Fr Wb2 y3 := za hy2 fy3;have hQ := zb (hQ.out.fr fy3);have hL := zb (hL.out.fr fy3);refine xk hK0 hy3 ?_;clear hK0 K;refine xr 8 fun K hK0 => ?_;refine tN vQ 14 34 y2.heap.size aG ?_;intro x1 k1 q1;have hx1 := q1.fr hy3 zG;refine xk hK0 hx1 ?_;clear hK0 K
     try simp only [xs, Act.put]
     refine xto 9 ?_;refine wpAnyH_done (by kernel_rfl) ?_ _;refine NoPanic.normal ?_;go_wp2_with fail;go_meet;exact ⟨_, vQ, rfl, rfl, zb zG, k1, zb ((hQ.out.kept q1 (fun h => h.2 (by simp))).weak fun _ _ _ => trivial), hx1⟩
    ·go_simp
     have hL := zb (hL.out.weak (ok' := okL tt [y1.heap.size]) (fun b hb _ => ⟨trivial, fun hm => by simp at hm; omega⟩));obtain ⟨y4, ey4, fy4, aG⟩ := zoR y1;rw [ey4];have zG : Wb2.heap.size ≤ y1.heap.size := hy1.size;have hy4 : Fr Wb2 y4 := za hy1 fy4;have hL := zb (hL.out.fr fy4);refine xk hK0 hy4 ?_;clear hK0 K;refine xr 3 fun K hK0 => ?_;go_simp;have cQ := zgK (w := y4) (ok := (okL tt [y1.heap.size])) (m := m) (fb := fl) (zbU (fun _ _ => trivial) (fun g hg => by simp at hg; subst hg; exact aG.lt)) hL.out lL eL (by omega) wm om hfl;unfold zdz nv at cQ;refine cQ.mono ?_;rintro e y5 ⟨vQ, b, n', rfl, hI, hQ, fy5⟩;go_simp;have hy5 : Fr Wb2 y5 := za hy4 fy5;have aG := aG.below fy5 aG.lt;have hL := zb (hL.out.fr fy5);obtain ⟨rfl, rfl⟩ := hI.out;refine xk hK0 hy5 ?_;clear hK0 K
     try simp only [xs, Act.put]
     refine xto 4 ?_;refine xto 5 ?_;refine xto 6 ?_;refine xr 8 fun K hK0 => ?_;refine tN vQ 14 34 y1.heap.size aG ?_;intro x1 k1 q1;have hx1 := q1.fr hy5 zG;refine xk hK0 hx1 ?_;clear hK0 K
     try simp only [xs, Act.put]
     refine xto 9 ?_;refine wpAnyH_done (by kernel_rfl) ?_ _;refine NoPanic.normal ?_;go_wp2_with fail;go_meet;exact ⟨_, vQ, rfl, rfl, zb zG, k1, zb ((hQ.out.kept q1 (fun h => h.2 (by simp))).weak fun _ _ _ => trivial), hx1⟩
   ·go_simp
    obtain ⟨y6, ey6, fy6, aG⟩ := zoR X0;rw [ey6];have zG : Wb2.heap.size ≤ X0.heap.size := hX0.size;have hy6 : Fr Wb2 y6 := za hX0 fy6;refine xk hK0 hy6 ?_;clear hK0 K;refine xr 1 fun K hK0 => ?_;go_simp;have aG0 := aG;refine (cL y6 (za FWb2 hy6)).mono ?_;rintro e y7 ⟨vv, rfl, hN, fy7⟩;go_simp;have hy7 : Fr Wb2 y7 := za hy6 fy7;have aG := aG.below fy7 aG.lt;have hL : Hid (NP y7 (okL tt [X0.heap.size]) vv (L)) := zb (hN.out.weak fun b _ hb => ⟨trivial, fun hm => by simp at hm; subst hm; exact absurd hb (by have := aG0.lt; omega)⟩);refine xk hK0 hy7 ?_;clear hK0 K;refine xr 3 fun K hK0 => ?_;go_simp;have cQ := zgK (w := y7) (ok := (okL tt [X0.heap.size])) (m := m) (fb := fl) (zbU (fun _ _ => trivial) (fun g hg => by simp at hg; subst hg; exact aG.lt)) hL.out lL eL (by omega) wm om hfl;unfold zdz nv at cQ;refine cQ.mono ?_;rintro e y8 ⟨vQ, b, n', rfl, hI, hQ, fy8⟩;go_simp;have hy8 : Fr Wb2 y8 := za hy7 fy8;have aG := aG.below fy8 aG.lt;have hL := zb (hL.out.fr fy8);obtain ⟨rfl, rfl⟩ := hI.out;refine xk hK0 hy8 ?_;clear hK0 K
    try simp only [xs, Act.put]
    refine xto 4 ?_;refine xto 5 ?_;refine xto 6 ?_;refine xr 8 fun K hK0 => ?_;refine tN vQ 14 34 X0.heap.size aG ?_;intro x1 k1 q1;have hx1 := q1.fr hy8 zG;refine xk hK0 hx1 ?_;clear hK0 K
    try simp only [xs, Act.put]
    refine xto 9 ?_;refine wpAnyH_done (by kernel_rfl) ?_ _;refine NoPanic.normal ?_;go_wp2_with fail;go_meet;exact ⟨_, vQ, rfl, rfl, zb zG, k1, zb ((hQ.out.kept q1 (fun h => h.2 (by simp))).weak fun _ _ _ => trivial), hx1⟩
  case rest =>
   obtain ⟨gb3, vb3, hs6, hs7, hGb3, b3, nb3, fWb3⟩ := hcut;subst hs6 hs7;obtain ⟨Wb3, eWb3⟩ : ∃ W, W = wc := ⟨_, rfl⟩;rw [← eWb3];rw [← eWb3] at b3 nb3 fWb3;clear eWb3;have zgb3 := hGb3.out;have FWb3 := za FWb2 fWb3;replace b1 := b1.below fWb3 b1.lt;replace b2 := b2.below fWb3 b2.lt;replace nb2 := zb (nb2.out.fr fWb3);have zb3 := b3.lt
   go_upto_region 4 with fail
   have zbase := FWb3.size;have zb1 := b1.lt;have zb2 := b2.lt;have zb3 := b3.lt;have FX : Fr Wb3 Wb3 := ze _
   try simp only [Act.put]
   go_cut [16, 17] from 36 to 45 (fun s6 s7 wx => ∃ g vQ, s6 = .pointer (some ⟨g, 0, none⟩) ∧ s7 = .bool fi ∧ Hid (Wb3.heap.size ≤ g) ∧ Arr wx g 37 (NV.cells vQ).toArray ∧ Hid (NP wx tt vQ (if fi = true then zaQ N [m] else N)) ∧ Fr Wb3 wx)
   case first =>
    have hX0 : Fr Wb3 Wb3.drew := zn FX;have ldb1 : ∀ W, Fr Wb3 W → (ldS 31 (.pointer (some ⟨w1.heap.size, 0, none⟩))).run Tryz.prog W = .ok (.agg (mc m).toArray) W := fun W h => za4.ld hln (b1.below h b1.lt);refine wp_region_noPanic ?_;refine wp_region_held_drew (S := fun w' => Fr Wb3 w') (by kernel_rfl) hX0 (fun hHeld => ?_);change wpAnyH _ _ _ _ _ _ _ _ _;generalize Wb3.drew = X0 at *;refine xto 0 ?_;refine xto 1 ?_;refine xto 2 ?_;refine xto 4 ?_;refine xrr 3 9 (fun K hK0 => ?_) fun K hK0 => ?_
    ·go_simp
     refine (cI X0 (za FWb3 hX0)).mono ?_;rintro e y1 ⟨vv, rfl, hN, fy1⟩;go_simp;have hy1 : Fr Wb3 y1 := za hX0 fy1;have hL : Hid (NP y1 tt vv (N)) := zb (hN.out.weak fun _ _ _ => trivial);refine xk hK0 hy1 ?_;clear hK0 K;refine xrr 5 9 (fun K hK0 => ?_) fun K hK0 => ?_
     ·go_simp
      have cQ := zgR (w := y1) (ok := tt) (m := m) (fb := fi) (fun _ _ => trivial) hL.out lI eI (by omega) wm om hfi;unfold zdz nv at cQ;refine cQ.mono ?_;rintro e y2 ⟨vQ, b, n', rfl, hI, hQ, fy2⟩;go_simp;have hy2 : Fr Wb3 y2 := za hy1 fy2;have hL := zb (hL.out.fr fy2);obtain ⟨rfl, rfl⟩ := hI.out;refine xk hK0 hy2 ?_;clear hK0 K
      try simp only [xs, Act.put]
      refine xto 6 ?_;refine xto 7 ?_;refine xto 8 ?_;refine xr 9 fun K hK0 => ?_;go_simp;have hQ := zb (hQ.out.weak (ok' := okL tt [y2.heap.size]) (fun b hb _ => ⟨trivial, fun hm => by simp at hm; omega⟩));have hL := zb (hL.out.weak (ok' := okL tt [y2.heap.size]) (fun b hb _ => ⟨trivial, fun hm => by simp at hm; omega⟩));obtain ⟨y3, ey3, fy3, aG⟩ := zoR y2;rw [ey3];have zG : Wb3.heap.size ≤ y2.heap.size := hy2.size;have hy3 : Fr Wb3 y3 := za hy2 fy3;have hQ := zb (hQ.out.fr fy3);have hL := zb (hL.out.fr fy3);refine xk hK0 hy3 ?_;clear hK0 K;refine xr 10 fun K hK0 => ?_;refine tN vQ 16 43 y2.heap.size aG ?_;intro x1 k1 q1;have hx1 := q1.fr hy3 zG;refine xk hK0 hx1 ?_;clear hK0 K
      try simp only [xs, Act.put]
      refine xto 11 ?_;refine wpAnyH_done (by kernel_rfl) ?_ _;refine NoPanic.normal ?_;go_wp2_with fail;go_meet;exact ⟨_, vQ, rfl, rfl, zb zG, k1, zb ((hQ.out.kept q1 (fun h => h.2 (by simp))).weak fun _ _ _ => trivial), hx1⟩
     ·go_simp
      have hL := zb (hL.out.weak (ok' := okL tt [y1.heap.size]) (fun b hb _ => ⟨trivial, fun hm => by simp at hm; omega⟩));obtain ⟨y4, ey4, fy4, aG⟩ := zoR y1;rw [ey4];have zG : Wb3.heap.size ≤ y1.heap.size := hy1.size;have hy4 : Fr Wb3 y4 := za hy1 fy4;have hL := zb (hL.out.fr fy4);refine xk hK0 hy4 ?_;clear hK0 K;refine xr 5 fun K hK0 => ?_;go_simp;have cQ := zgR (w := y4) (ok := (okL tt [y1.heap.size])) (m := m) (fb := fi) (zbU (fun _ _ => trivial) (fun g hg => by simp at hg; subst hg; exact aG.lt)) hL.out lI eI (by omega) wm om hfi;unfold zdz nv at cQ;refine cQ.mono ?_;rintro e y5 ⟨vQ, b, n', rfl, hI, hQ, fy5⟩;go_simp;have hy5 : Fr Wb3 y5 := za hy4 fy5;have aG := aG.below fy5 aG.lt;have hL := zb (hL.out.fr fy5);obtain ⟨rfl, rfl⟩ := hI.out;refine xk hK0 hy5 ?_;clear hK0 K
      try simp only [xs, Act.put]
      refine xto 6 ?_;refine xto 7 ?_;refine xto 8 ?_;refine xr 10 fun K hK0 => ?_;refine tN vQ 16 43 y1.heap.size aG ?_;intro x1 k1 q1;have hx1 := q1.fr hy5 zG;refine xk hK0 hx1 ?_;clear hK0 K
      try simp only [xs, Act.put]
      refine xto 11 ?_;refine wpAnyH_done (by kernel_rfl) ?_ _;refine NoPanic.normal ?_;go_wp2_with fail;go_meet;exact ⟨_, vQ, rfl, rfl, zb zG, k1, zb ((hQ.out.kept q1 (fun h => h.2 (by simp))).weak fun _ _ _ => trivial), hx1⟩
    ·go_simp
     obtain ⟨y6, ey6, fy6, aG⟩ := zoR X0;rw [ey6];have zG : Wb3.heap.size ≤ X0.heap.size := hX0.size;have hy6 : Fr Wb3 y6 := za hX0 fy6;refine xk hK0 hy6 ?_;clear hK0 K;refine xr 3 fun K hK0 => ?_;go_simp;have aG0 := aG;refine (cI y6 (za FWb3 hy6)).mono ?_;rintro e y7 ⟨vv, rfl, hN, fy7⟩;go_simp;have hy7 : Fr Wb3 y7 := za hy6 fy7;have aG := aG.below fy7 aG.lt;have hL : Hid (NP y7 (okL tt [X0.heap.size]) vv (N)) := zb (hN.out.weak fun b _ hb => ⟨trivial, fun hm => by simp at hm; subst hm; exact absurd hb (by have := aG0.lt; omega)⟩);refine xk hK0 hy7 ?_;clear hK0 K;refine xr 5 fun K hK0 => ?_;go_simp;have cQ := zgR (w := y7) (ok := (okL tt [X0.heap.size])) (m := m) (fb := fi) (zbU (fun _ _ => trivial) (fun g hg => by simp at hg; subst hg; exact aG.lt)) hL.out lI eI (by omega) wm om hfi;unfold zdz nv at cQ;refine cQ.mono ?_;rintro e y8 ⟨vQ, b, n', rfl, hI, hQ, fy8⟩;go_simp;have hy8 : Fr Wb3 y8 := za hy7 fy8;have aG := aG.below fy8 aG.lt;have hL := zb (hL.out.fr fy8);obtain ⟨rfl, rfl⟩ := hI.out;refine xk hK0 hy8 ?_;clear hK0 K
     try simp only [xs, Act.put]
     refine xto 6 ?_;refine xto 7 ?_;refine xto 8 ?_;refine xr 10 fun K hK0 => ?_;refine tN vQ 16 43 X0.heap.size aG ?_;intro x1 k1 q1;have hx1 := q1.fr hy8 zG;refine xk hK0 hx1 ?_;clear hK0 K
     try simp only [xs, Act.put]
     refine xto 11 ?_;refine wpAnyH_done (by kernel_rfl) ?_ _;refine NoPanic.normal ?_;go_wp2_with fail;go_meet;exact ⟨_, vQ, rfl, rfl, zb zG, k1, zb ((hQ.out.kept q1 (fun h => h.2 (by simp))).weak fun _ _ _ => trivial), hx1⟩
   case rest =>
    obtain ⟨gb4, vb4, hs6, hs7, hGb4, b4, nb4, fWb4⟩ := hcut;subst hs6 hs7;obtain ⟨Wb4, eWb4⟩ : ∃ W, W = wc := ⟨_, rfl⟩;rw [← eWb4];rw [← eWb4] at b4 nb4 fWb4;clear eWb4;have zgb4 := hGb4.out;have FWb4 := za FWb3 fWb4;replace b1 := b1.below fWb4 b1.lt;replace b2 := b2.below fWb4 b2.lt;replace b3 := b3.below fWb4 b3.lt;replace nb2 := zb (nb2.out.fr fWb4);replace nb3 := zb (nb3.out.fr fWb4);have zb4 := b4.lt
    go_upto_region 5 with fail
    have zbase := FWb4.size;have zb1 := b1.lt;have zb2 := b2.lt;have zb3 := b3.lt;have zb4 := b4.lt;have FX : Fr Wb4 Wb4 := ze _
    try simp only [Act.put]
    go_cut [18, 19] from 45 to 54 (fun s6 s7 wx => ∃ g vQ, s6 = .pointer (some ⟨g, 0, none⟩) ∧ s7 = .bool fi ∧ Hid (Wb4.heap.size ≤ g) ∧ Arr wx g 37 (NV.cells vQ).toArray ∧ Hid (NP wx tt vQ (if fi = true then zaQ N [m] else N)) ∧ Fr Wb4 wx)
    case first =>
     have hX0 : Fr Wb4 Wb4.drew := zn FX;have ldb1 : ∀ W, Fr Wb4 W → (ldS 31 (.pointer (some ⟨w1.heap.size, 0, none⟩))).run Tryz.prog W = .ok (.agg (mc m).toArray) W := fun W h => za4.ld hln (b1.below h b1.lt);refine wp_region_noPanic ?_;refine wp_region_held_drew (S := fun w' => Fr Wb4 w') (by kernel_rfl) hX0 (fun hHeld => ?_);change wpAnyH _ _ _ _ _ _ _ _ _;generalize Wb4.drew = X0 at *;refine xto 0 ?_;refine xto 1 ?_;refine xto 2 ?_;refine xto 4 ?_;refine xrr 3 9 (fun K hK0 => ?_) fun K hK0 => ?_
     ·go_simp
      refine (cI X0 (za FWb4 hX0)).mono ?_;rintro e y1 ⟨vv, rfl, hN, fy1⟩;go_simp;have hy1 : Fr Wb4 y1 := za hX0 fy1;have hL : Hid (NP y1 tt vv (N)) := zb (hN.out.weak fun _ _ _ => trivial);refine xk hK0 hy1 ?_;clear hK0 K;refine xrr 5 9 (fun K hK0 => ?_) fun K hK0 => ?_
      ·go_simp
       have cQ := zfD (w := y1) (ok := tt) (m := m) (fb := fi) (fun _ _ => trivial) hL.out lI eI (by omega) wm om hfi;unfold zdz nv at cQ;refine cQ.mono ?_;rintro e y2 ⟨vQ, b, n', rfl, hI, hQ, fy2⟩;go_simp;have hy2 : Fr Wb4 y2 := za hy1 fy2;have hL := zb (hL.out.fr fy2);obtain ⟨rfl, rfl⟩ := hI.out;refine xk hK0 hy2 ?_;clear hK0 K
       try simp only [xs, Act.put]
       refine xto 6 ?_;refine xto 7 ?_;refine xto 8 ?_;refine xr 9 fun K hK0 => ?_;go_simp;have hQ := zb (hQ.out.weak (ok' := okL tt [y2.heap.size]) (fun b hb _ => ⟨trivial, fun hm => by simp at hm; omega⟩));have hL := zb (hL.out.weak (ok' := okL tt [y2.heap.size]) (fun b hb _ => ⟨trivial, fun hm => by simp at hm; omega⟩));obtain ⟨y3, ey3, fy3, aG⟩ := zoR y2;rw [ey3];have zG : Wb4.heap.size ≤ y2.heap.size := hy2.size;have hy3 : Fr Wb4 y3 := za hy2 fy3;have hQ := zb (hQ.out.fr fy3);have hL := zb (hL.out.fr fy3);refine xk hK0 hy3 ?_;clear hK0 K;refine xr 10 fun K hK0 => ?_;refine tN vQ 18 52 y2.heap.size aG ?_;intro x1 k1 q1;have hx1 := q1.fr hy3 zG;refine xk hK0 hx1 ?_;clear hK0 K
       try simp only [xs, Act.put]
       refine xto 11 ?_;refine wpAnyH_done (by kernel_rfl) ?_ _;refine NoPanic.normal ?_;go_wp2_with fail;go_meet;exact ⟨_, vQ, rfl, rfl, zb zG, k1, zb ((hQ.out.kept q1 (fun h => h.2 (by simp))).weak fun _ _ _ => trivial), hx1⟩
      ·go_simp
       have hL := zb (hL.out.weak (ok' := okL tt [y1.heap.size]) (fun b hb _ => ⟨trivial, fun hm => by simp at hm; omega⟩));obtain ⟨y4, ey4, fy4, aG⟩ := zoR y1;rw [ey4];have zG : Wb4.heap.size ≤ y1.heap.size := hy1.size;have hy4 : Fr Wb4 y4 := za hy1 fy4;have hL := zb (hL.out.fr fy4);refine xk hK0 hy4 ?_;clear hK0 K;refine xr 5 fun K hK0 => ?_;go_simp;have cQ := zfD (w := y4) (ok := (okL tt [y1.heap.size])) (m := m) (fb := fi) (zbU (fun _ _ => trivial) (fun g hg => by simp at hg; subst hg; exact aG.lt)) hL.out lI eI (by omega) wm om hfi;unfold zdz nv at cQ;refine cQ.mono ?_;rintro e y5 ⟨vQ, b, n', rfl, hI, hQ, fy5⟩;go_simp;have hy5 : Fr Wb4 y5 := za hy4 fy5;have aG := aG.below fy5 aG.lt;have hL := zb (hL.out.fr fy5);obtain ⟨rfl, rfl⟩ := hI.out;refine xk hK0 hy5 ?_;clear hK0 K
       try simp only [xs, Act.put]
       refine xto 6 ?_;refine xto 7 ?_;refine xto 8 ?_;refine xr 10 fun K hK0 => ?_;refine tN vQ 18 52 y1.heap.size aG ?_;intro x1 k1 q1;have hx1 := q1.fr hy5 zG;refine xk hK0 hx1 ?_;clear hK0 K
       try simp only [xs, Act.put]
       refine xto 11 ?_;refine wpAnyH_done (by kernel_rfl) ?_ _;refine NoPanic.normal ?_;go_wp2_with fail;go_meet;exact ⟨_, vQ, rfl, rfl, zb zG, k1, zb ((hQ.out.kept q1 (fun h => h.2 (by simp))).weak fun _ _ _ => trivial), hx1⟩
     ·go_simp
      obtain ⟨y6, ey6, fy6, aG⟩ := zoR X0;rw [ey6];have zG : Wb4.heap.size ≤ X0.heap.size := hX0.size;have hy6 : Fr Wb4 y6 := za hX0 fy6;refine xk hK0 hy6 ?_;clear hK0 K;refine xr 3 fun K hK0 => ?_;go_simp;have aG0 := aG;refine (cI y6 (za FWb4 hy6)).mono ?_;rintro e y7 ⟨vv, rfl, hN, fy7⟩;go_simp;have hy7 : Fr Wb4 y7 := za hy6 fy7;have aG := aG.below fy7 aG.lt;have hL : Hid (NP y7 (okL tt [X0.heap.size]) vv (N)) := zb (hN.out.weak fun b _ hb => ⟨trivial, fun hm => by simp at hm; subst hm; exact absurd hb (by have := aG0.lt; omega)⟩);refine xk hK0 hy7 ?_;clear hK0 K;refine xr 5 fun K hK0 => ?_;go_simp;have cQ := zfD (w := y7) (ok := (okL tt [X0.heap.size])) (m := m) (fb := fi) (zbU (fun _ _ => trivial) (fun g hg => by simp at hg; subst hg; exact aG.lt)) hL.out lI eI (by omega) wm om hfi;unfold zdz nv at cQ;refine cQ.mono ?_;rintro e y8 ⟨vQ, b, n', rfl, hI, hQ, fy8⟩;go_simp;have hy8 : Fr Wb4 y8 := za hy7 fy8;have aG := aG.below fy8 aG.lt;have hL := zb (hL.out.fr fy8);obtain ⟨rfl, rfl⟩ := hI.out;refine xk hK0 hy8 ?_;clear hK0 K
      try simp only [xs, Act.put]
      refine xto 6 ?_;refine xto 7 ?_;refine xto 8 ?_;refine xr 10 fun K hK0 => ?_;refine tN vQ 18 52 X0.heap.size aG ?_;intro x1 k1 q1;have hx1 := q1.fr hy8 zG;refine xk hK0 hx1 ?_;clear hK0 K
      try simp only [xs, Act.put]
      refine xto 11 ?_;refine wpAnyH_done (by kernel_rfl) ?_ _;refine NoPanic.normal ?_;go_wp2_with fail;go_meet;exact ⟨_, vQ, rfl, rfl, zb zG, k1, zb ((hQ.out.kept q1 (fun h => h.2 (by simp))).weak fun _ _ _ => trivial), hx1⟩
    case rest =>
     obtain ⟨gb5, vb5, hs6, hs7, hGb5, b5, nb5, fWb5⟩ := hcut;subst hs6 hs7;obtain ⟨Wb5, eWb5⟩ : ∃ W, W = wc := ⟨_, rfl⟩;rw [← eWb5];rw [← eWb5] at b5 nb5 fWb5;clear eWb5;have zgb5 := hGb5.out;have FWb5 := za FWb4 fWb5;replace b1 := b1.below fWb5 b1.lt;replace b2 := b2.below fWb5 b2.lt;replace b3 := b3.below fWb5 b3.lt;replace b4 := b4.below fWb5 b4.lt;replace nb2 := zb (nb2.out.fr fWb5);replace nb3 := zb (nb3.out.fr fWb5);replace nb4 := zb (nb4.out.fr fWb5);have zb5 := b5.lt;have S1 := fun W (h : Fr Wb5 W) => zjL (nb2.out.fr h).nh (nb3.out.fr h).nh;have S2 := fun W (h : Fr Wb5 W) => zjL (nb4.out.fr h).nh (nb5.out.fr h).nh;simp only [zkp] at S1 S2
     have T1 := fun W (h : Fr Wb5 W) => zdB (b := true) (nb2.out.fr h).nh ⟨fun _ => by
      split
      ·rename_i hq; exact hfl.1 hq
      ·exact ⟨oL, byL⟩, fun _ => rfl⟩
     have T2 := fun W (h : Fr Wb5 W) => zdB (b := true) (nb4.out.fr h).nh ⟨fun _ => by
      split
      ·rename_i hq; exact hfi.1 hq
      ·exact ⟨oI, byI⟩, fun _ => rfl⟩
     have cW := fun W => znk W;unfold nv at S1 S2 T1 T2;have ldb2 : ∀ W, Fr Wb5 W → (ldS 37 (.pointer (some ⟨gb2, 0, none⟩))).run Tryz.prog W = .ok (.agg (NV.cells vb2).toArray) W := fun W h => zq.ld rfl (b2.below h b2.lt);have ldb3 : ∀ W, Fr Wb5 W → (ldS 37 (.pointer (some ⟨gb3, 0, none⟩))).run Tryz.prog W = .ok (.agg (NV.cells vb3).toArray) W := fun W h => zq.ld rfl (b3.below h b3.lt);have ldb4 : ∀ W, Fr Wb5 W → (ldS 37 (.pointer (some ⟨gb4, 0, none⟩))).run Tryz.prog W = .ok (.agg (NV.cells vb4).toArray) W := fun W h => zq.ld rfl (b4.below h b4.lt);have ldb5 : ∀ W, Fr Wb5 W → (ldS 37 (.pointer (some ⟨gb5, 0, none⟩))).run Tryz.prog W = .ok (.agg (NV.cells vb5).toArray) W := fun W h => zq.ld rfl (b5.below h b5.lt);have rXWb5 := ze Wb5;clear hfl hfi oL oI byL byI cL cI nb2 nb3 nb4 nb5 b1 b2 b3 b4 b5 wm om eL eI nL nI lL lI;have F6 := FWb5
     cases fl
     all_goals cases fi
     all_goals go_wp2_with fail
     all_goals refine (S1 _ rXWb5).mono ?_
     all_goals rintro e x1 ⟨rfl, g1⟩
     all_goals go_wp2_with fail
     all_goals refine (S2 _ g1).mono ?_
     all_goals rintro e x2 ⟨rfl, g2⟩
     all_goals have g2 := za g1 g2
     all_goals go_wp2_with fail
     all_goals refine (T1 _ g2).mono ?_
     all_goals rintro e x3 ⟨rfl, g3⟩
     all_goals have g3 := za g2 g3
     all_goals go_wp2_with fail
     all_goals refine (T2 _ g3).mono ?_
     all_goals rintro e x4 ⟨rfl, g4⟩
     all_goals have g4 := za g3 g4
     all_goals clear S1 S2 T1 T2
     all_goals go_wp2_with fail
     all_goals refine (cW _).mono ?_
     all_goals rintro e x5 ⟨rfl, g5⟩
     all_goals go_wp2_with fail
     all_goals go_ret
     all_goals exact ⟨rfl, za F6 (za g4 g5)⟩
end Go.Proofs.YtiggcgajanfbjaaGreat
