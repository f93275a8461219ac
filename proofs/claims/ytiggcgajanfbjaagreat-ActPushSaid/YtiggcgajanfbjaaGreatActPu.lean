/- ActPush, walked. -/
import Derived.Test.YtiggcgajanfbjaaGreatActXa
import Derived.Test.YtiggcgajanfbjaaGreatActQ
import Derived.Test.YtiggcgajanfbjaaGreatShort
namespace Go.Proofs.YtiggcgajanfbjaaGreat
set_option linter.unusedVariables false
set_option linter.unusedSimpArgs false
set_option maxRecDepth 100000
open Go.RowKit
attribute [local go_sem ↓] zaP
set_option maxHeartbeats 4000000 in
theorem actPush_core {w : World} {A0 A1 A2 A3 A4 : Option Addr} {n0 c0 n1 c1 n2 c2 n3 c3 n4 c4 : Nat} {ps ls es cs ms : List Int} {iv : Int} {ib : Bool}
 (hl0 : Has w w.heap.size A0 (ps.map (Value.int .i64))) (hn0 : ps.length = n0) (hs0 : ∀ z ∈ ps, zal z) (hb0 : n0 * 8 ≤ 140737488351232)
 (hl1 : Has w w.heap.size A1 (ls.map (Value.int .i64))) (hn1 : ls.length = n1) (hs1 : ∀ z ∈ ls, zal z) (hm1 : n1 ≤ maxLen)
 (hl2 : Has w w.heap.size A2 (es.map (Value.int .i64))) (hn2 : es.length = n2) (hs2 : ∀ z ∈ es, zal z) (hm2 : n2 ≤ maxLen)
 (hl3 : Has w w.heap.size A3 (cs.map (Value.int .i64))) (hn3 : cs.length = n3) (hs3 : ∀ z ∈ cs, zal z) (hb3 : n3 * 8 ≤ 140737488351232)
 (hl4 : Has w w.heap.size A4 (ms.map (Value.int .i64))) (hn4 : ms.length = n4) (hs4 : ∀ z ∈ ms, zal z) (hm4 : n4 ≤ maxLen) (hiv : zal iv) :
 Calls Tryz.prog 4 #[.slice A0 n0 c0, .slice A1 n1 c1, .slice A2 n2 c2, .slice A3 n3 c3, .slice A4 n4 c4, .int .i64 iv, .bool ib] w fun e w' => e = .returned (.bool true) ∧ Below w.heap.size w w' := by
 have rr := ze w;have cA := fun W (h : Fr w W) => zjw (w := W) (c := c0) (c2 := c1) (f := 50) (hl0.fr (Nat.le_refl _) h) h.size hn0 hs0 (by unfold zal; decide) (hl1.fr (Nat.le_refl _) h) h.size hn1 hs1 hm1 hb0;have cB := fun W (h : Fr w W) => zoV (w := W) (c := c2) (hl2.fr (Nat.le_refl _) h) h.size hn2 hs2 hm2;have cC := fun W (h : Fr w W) => zjw (w := W) (c := c3) (c2 := c4) (f := 90) (hl3.fr (Nat.le_refl _) h) h.size hn3 hs3 (by unfold zal; decide) (hl4.fr (Nat.le_refl _) h) h.size hn4 hs4 hm4 hb3;have oL := zir es;have cL0 : OkC (zcp es) := ⟨.inl ⟨rfl, zjk es⟩, Nat.le_trans (zfe es 248) (by decide), Nat.zero_le _⟩;have lL : (zcp es).lf = true := rfl;have oP := zm0 ps 50 ls;have nP : (zdY ps 50 ls).ms.length ≤ 60 := zcS ls 205;have cN0 : OkC (zdY cs 90 ms) := ⟨.inr ⟨rfl, zkM cs 90 ms⟩, Nat.zero_le _, Nat.le_trans (zcS ms 205) (by decide)⟩;generalize zcp es = L at *;generalize zdY cs 90 ms = N at *;generalize zdY ps 50 ls = P at *;clear hl0 hn0 hs0 hb0 hl1 hn1 hs1 hm1 hl2 hn2 hs2 hm2 hl3 hn3 hs3 hb3 hl4 hn4 hs4 hm4;unfold nv at cA cB cC;go_enter Tryz.func4, Tryz.ntmps4;go_wp2_with fail;refine (cA _ rr).mono ?_;rintro e w1 ⟨va, rfl, hA, f1⟩;have nA : Hid (NP w1 tt va P) := zb (hA.out.weak fun _ _ _ => trivial);clear cA hA;have zbase := f1.size;obtain ⟨V1, hV1, fV1, hvz, hA⟩ := zaz [(zh.cells.toArray, 37)] w1
 have eb15 : Arr V1 (w1.heap.size) 37 zh.cells.toArray := hA 0 _ rfl;change (w1).alloc (.cells #[.bool false, .slice none 0 0, .slice none 0 0, .slice none 0 0, .slice none 0 0] 37) = V1 at hV1;replace nA := zb (nA.out.weak (ok' := okL tt [w1.heap.size]) (fun b hb _ => ⟨trivial, fun hm => by simp at hm; omega⟩));have FV1 := za f1 fV1;replace nA := zb (nA.out.fr fV1);clear hA hvz;have tokb15 : Hid (0 < 1) := zb (by decide)
 go_wp2_with (first
  | (clear tokb15; refine sN va 15 29 w1.heap.size eb15 ?_; intro V1_b15 b15 ub15
     have FV1_b15 := ub15.fr FV1 (by omega);replace nA := zb (nA.out.kept ub15 (fun h => h.2 (by simp)));replace nA : Hid (NP V1_b15 tt va (P)) := zb (nA.out.weak fun _ _ _ => trivial);have rV1_b15 := ze V1_b15)
  | fail)
 have nA0 : Hid (NP V1_b15 (fun b => b < V1_b15.heap.size) va P) := zb (nA.out.weak (fun b hb _ => hb));refine (cB _ FV1_b15).mono ?_;rintro e w2 ⟨vb, rfl, hB, f2⟩;have z2 : V1_b15.heap.size ≤ w2.heap.size := f2.size;have Fw2 := za FV1_b15 f2;replace b15 := b15.below f2 b15.lt;replace nA := zb (nA.out.fr f2);have fA0 := f2;have nB : Hid (NP w2 tt vb L) := zb (hB.out.weak fun _ _ _ => trivial);clear hB;have zbase := Fw2.size;have zb15 := b15.lt;obtain ⟨V2, hV2, fV2, hvz, hA⟩ := zaz [(zh.cells.toArray, 37)] w2;have eb17 : Arr V2 (w2.heap.size) 37 zh.cells.toArray := hA 0 _ rfl;change (w2).alloc (.cells #[.bool false, .slice none 0 0, .slice none 0 0, .slice none 0 0, .slice none 0 0] 37) = V2 at hV2;replace nA := zb (nA.out.weak (ok' := okL tt [w2.heap.size]) (fun b hb _ => ⟨trivial, fun hm => by simp at hm; omega⟩));replace nB := zb (nB.out.weak (ok' := okL tt [w2.heap.size]) (fun b hb _ => ⟨trivial, fun hm => by simp at hm; omega⟩));have FV2 := za Fw2 fV2;replace b15 := b15.below fV2 b15.lt;replace nA := zb (nA.out.fr fV2);replace nB := zb (nB.out.fr fV2);clear hA hvz;have tokb17 : Hid (0 < 1) := zb (by decide)
 go_upto_region 4 with (first
  | (clear tokb17; refine sN vb 17 33 w2.heap.size eb17 ?_; intro V2_b17 b17 ub17
     have FV2_b17 := ub17.fr FV2 (by omega);replace b15 := ub17.other b15 (by omega);replace nA := zb (nA.out.kept ub17 (fun h => h.2 (by simp)));replace nB := zb (nB.out.kept ub17 (fun h => h.2 (by simp)));replace nA : Hid (NP V2_b17 tt va (P)) := zb (nA.out.weak fun _ _ _ => trivial);replace nB : Hid (NP V2_b17 tt vb (L)) := zb (nB.out.weak fun _ _ _ => trivial);have rV2_b17 := ze V2_b17)
  | fail)
 have FA : Fr V1_b15 V2_b17 := ub17.fr (za f2 fV2) z2;have rX := ze V2_b17
 cases ib
 case' false =>
  clear cC cN0
  go_upto_region 6 with fail
  obtain ⟨W5, hW5⟩ : ∃ W, W = V2_b17 := ⟨_, rfl⟩;rw [← hW5];rw [← hW5] at b15 b17 nA nB rX;have F5 : Fr w W5 := by rw [hW5]; exact FV2_b17
  obtain ⟨C, hC⟩ : ∃ C, C = L := ⟨_, rfl⟩;have oC : OkC C := by rw [hC]; exact cL0
  have nC : Hid (NP W5 tt vb C) := by rw [hC]; exact nB
  obtain ⟨vc, hvc⟩ : ∃ vc, vc = vb := ⟨_, rfl⟩;rw [← hvc] at b17 nC;have d17 := b17;have d15 := b15;have mA := nA;clear hW5 hC hvc nB b17 b15 nA
 case' true =>
  have hz := b17.lt;go_wp2_with fail;refine (cC _ FV2_b17).mono ?_;rintro e w3 ⟨vc, rfl, hC, f3⟩;have c17 := b17.below f3 b17.lt;have c15 := b15.below f3 b15.lt;have F3 := za FV2_b17 f3;have zF := FV2_b17.size;have m0 := zb (nA0.out.fr (za FA f3));have tok : Hid (0 < 1) := zb (by decide);clear cC b17 b15
  go_upto_region 6 with (first
   | (clear tok; refine sN vc 17 37 w2.heap.size c17 ?_; intro W5 d17 u5
      have F5 := u5.fr F3 (by have := f2.size; have := f1.size; omega);have d15 := u5.other c15 (by omega);clear c17 c15)
   | fail)
  obtain ⟨C, hC'⟩ : ∃ C, C = N := ⟨_, rfl⟩;have oC : OkC C := by rw [hC']; exact cN0
  have nC : Hid (NP W5 tt vc C) := zb (by rw [hC']; exact (hC.out.kept u5 (fun h => by omega)).weak fun _ _ _ => trivial);have mA : Hid (NP W5 tt va P) := zb ((m0.out.kept u5 (fun h => by omega)).weak fun _ _ _ => trivial);clear hC hC' nB nA
 all_goals
  clear nA0 rr zbase
  try clear cN0
  obtain ⟨j, hj⟩ : ∃ j, iv.tmod 6 = j := ⟨_, rfl⟩;rw [hj];clear hj
  have fbx : ∃ b : Bool, b = true ↔ OkN (zbo P C j.toNat) ∧ zcW (zbo P C j.toNat) ≤ rmN (zbo P C j.toNat) := by
   by_cases h : OkN (zbo P C j.toNat) ∧ zcW (zbo P C j.toNat) ≤ rmN (zbo P C j.toNat)
   ·exact ⟨true, fun _ => h, fun _ => rfl⟩
   ·exact ⟨false, fun h' => (by cases h'), fun h' => absurd h' h⟩
  obtain ⟨fb, hfb⟩ := fbx;have cP := zcl (w := W5) (ok := tt) (i := j) (fun _ _ => trivial) mA.out nC.out oP oC (by omega) hfb;unfold zcQ nv at cP;have ldd15 := ldN va w1.heap.size d15;have ldd17 := ldN vc w2.heap.size d17;have rXW5 := ze W5;go_wp2_with fail;refine cP.mono ?_;rintro e w6 ⟨v1, v2, b6, p6, c6, rfl, hI, hP, hQ, f6⟩;obtain ⟨eb, ep, ec⟩ := hI.out;clear cP hI ldd15 ldd17;subst eb;have hP6 := hP;have hQ6 := hQ;have Fw6 := za F5 f6;replace d15 := d15.below f6 d15.lt;replace d17 := d17.below f6 d17.lt;replace mA := zb (mA.out.fr f6);replace nC := zb (nC.out.fr f6);clear hP hQ;have zbase := Fw6.size;have zd15 := d15.lt;have zd17 := d17.lt;obtain ⟨V3, hV3, fV3, hvz, hA⟩ := zaz [(zh.cells.toArray, 37), (zh.cells.toArray, 37)] w6;have eb18 : Arr V3 (w6.heap.size) 37 zh.cells.toArray := hA 0 _ rfl;have eb19 : Arr V3 (w6.heap.size + 1) 37 zh.cells.toArray := hA 1 _ rfl
  change ((w6).alloc (.cells #[.bool false, .slice none 0 0, .slice none 0 0, .slice none 0 0, .slice none 0 0] 37)).alloc (.cells #[.bool false, .slice none 0 0, .slice none 0 0, .slice none 0 0, .slice none 0 0] 37) = V3 at hV3;replace mA := zb (mA.out.weak (ok' := okL tt [w6.heap.size, w6.heap.size + 1]) (fun b hb _ => ⟨trivial, fun hm => by simp at hm; omega⟩));replace nC := zb (nC.out.weak (ok' := okL tt [w6.heap.size, w6.heap.size + 1]) (fun b hb _ => ⟨trivial, fun hm => by simp at hm; omega⟩));replace hP6 := zb (hP6.out.weak (ok' := okL tt [w6.heap.size, w6.heap.size + 1]) (fun b hb _ => ⟨trivial, fun hm => by simp at hm; omega⟩));replace hQ6 := zb (hQ6.out.weak (ok' := okL tt [w6.heap.size, w6.heap.size + 1]) (fun b hb _ => ⟨trivial, fun hm => by simp at hm; omega⟩));have FV3 := za Fw6 fV3;replace d15 := d15.below fV3 d15.lt;replace d17 := d17.below fV3 d17.lt;replace mA := zb (mA.out.fr fV3);replace nC := zb (nC.out.fr fV3);replace hP6 := zb (hP6.out.fr fV3);replace hQ6 := zb (hQ6.out.fr fV3);clear hA hvz;have tokb18 : Hid (0 < 1) := zb (by decide);have tokb19 : Hid (0 < 1) := zb (by decide)
  go_upto_region 7 with (first
   | (clear tokb18; refine sN v1 18 43 w6.heap.size eb18 ?_; intro V3_b18 b18 ub18
      have FV3_b18 := ub18.fr FV3 (by omega);replace d15 := ub18.other d15 (by omega);replace d17 := ub18.other d17 (by omega);replace eb19 := ub18.other eb19 (by omega);replace mA := zb (mA.out.kept ub18 (fun h => h.2 (by simp)));replace nC := zb (nC.out.kept ub18 (fun h => h.2 (by simp)));replace hP6 := zb (hP6.out.kept ub18 (fun h => h.2 (by simp)));replace hQ6 := zb (hQ6.out.kept ub18 (fun h => h.2 (by simp))))
   | (clear tokb19; refine sN v2 19 44 (w6.heap.size + 1) eb19 ?_; intro V3_b19 b19 ub19
      have FV3_b19 := ub19.fr FV3_b18 (by omega);replace d15 := ub19.other d15 (by omega);replace d17 := ub19.other d17 (by omega);replace b18 := ub19.other b18 (by omega);replace mA := zb (mA.out.kept ub19 (fun h => h.2 (by simp)));replace nC := zb (nC.out.kept ub19 (fun h => h.2 (by simp)));replace hP6 := zb (hP6.out.kept ub19 (fun h => h.2 (by simp)));replace hQ6 := zb (hQ6.out.kept ub19 (fun h => h.2 (by simp)));replace mA : Hid (NP V3_b19 tt va (P)) := zb (mA.out.weak fun _ _ _ => trivial);replace nC : Hid (NP V3_b19 tt vc (C)) := zb (nC.out.weak fun _ _ _ => trivial);replace hP6 : Hid (NP V3_b19 tt v1 (p6)) := zb (hP6.out.weak fun _ _ _ => trivial);replace hQ6 : Hid (NP V3_b19 tt v2 (c6)) := zb (hQ6.out.weak fun _ _ _ => trivial);have rV3_b19 := ze V3_b19;have ldd15 := ldN va w1.heap.size d15;have ldd17 := ldN vc w2.heap.size d17)
   | fail)
  have cQ := rpush_at (w := V3_b19) (ok := tt) (i := j) (fun _ _ => trivial) mA.out nC.out oP oC (by omega) hfb;unfold zcQ nv at cQ;have ldd15 := ldN va w1.heap.size d15;have ldd17 := ldN vc w2.heap.size d17;have rXV3_b19 := ze V3_b19;go_wp2_with fail;refine cQ.mono ?_;rintro e w7 ⟨v3, v4, b7, p7, c7, rfl, hI, hP, hQ, f7⟩;obtain ⟨eb, ep', ec'⟩ := hI.out;have e1 : p7 = p6 := by rw [ep', ep, eb]
  have e2 : c7 = c6 := by rw [ec', ec, eb]
  clear cQ hI ldd15 ldd17 ep ec ep' ec';subst eb e1 e2;have hP7 := hP;have hQ7 := hQ;have Fw7 := za FV3_b19 f7;replace d15 := d15.below f7 d15.lt;replace d17 := d17.below f7 d17.lt;replace b18 := b18.below f7 b18.lt;replace b19 := b19.below f7 b19.lt;replace mA := zb (mA.out.fr f7);replace nC := zb (nC.out.fr f7);replace hP6 := zb (hP6.out.fr f7);replace hQ6 := zb (hQ6.out.fr f7);clear hP hQ;have zbase := Fw7.size;have zd15 := d15.lt;have zd17 := d17.lt;have zb18 := b18.lt;have zb19 := b19.lt;obtain ⟨V4, hV4, fV4, hvz, hA⟩ := zaz [(zh.cells.toArray, 37), (zh.cells.toArray, 37)] w7;have eb21 : Arr V4 (w7.heap.size) 37 zh.cells.toArray := hA 0 _ rfl;have eb22 : Arr V4 (w7.heap.size + 1) 37 zh.cells.toArray := hA 1 _ rfl;change ((w7).alloc (.cells #[.bool false, .slice none 0 0, .slice none 0 0, .slice none 0 0, .slice none 0 0] 37)).alloc (.cells #[.bool false, .slice none 0 0, .slice none 0 0, .slice none 0 0, .slice none 0 0] 37) = V4 at hV4;replace mA := zb (mA.out.weak (ok' := okL tt [w7.heap.size, w7.heap.size + 1]) (fun b hb _ => ⟨trivial, fun hm => by simp at hm; omega⟩));replace nC := zb (nC.out.weak (ok' := okL tt [w7.heap.size, w7.heap.size + 1]) (fun b hb _ => ⟨trivial, fun hm => by simp at hm; omega⟩));replace hP6 := zb (hP6.out.weak (ok' := okL tt [w7.heap.size, w7.heap.size + 1]) (fun b hb _ => ⟨trivial, fun hm => by simp at hm; omega⟩))
  replace hQ6 := zb (hQ6.out.weak (ok' := okL tt [w7.heap.size, w7.heap.size + 1]) (fun b hb _ => ⟨trivial, fun hm => by simp at hm; omega⟩));replace hP7 := zb (hP7.out.weak (ok' := okL tt [w7.heap.size, w7.heap.size + 1]) (fun b hb _ => ⟨trivial, fun hm => by simp at hm; omega⟩));replace hQ7 := zb (hQ7.out.weak (ok' := okL tt [w7.heap.size, w7.heap.size + 1]) (fun b hb _ => ⟨trivial, fun hm => by simp at hm; omega⟩));have FV4 := za Fw7 fV4;replace d15 := d15.below fV4 d15.lt;replace d17 := d17.below fV4 d17.lt;replace b18 := b18.below fV4 b18.lt;replace b19 := b19.below fV4 b19.lt;replace mA := zb (mA.out.fr fV4);replace nC := zb (nC.out.fr fV4);replace hP6 := zb (hP6.out.fr fV4);replace hQ6 := zb (hQ6.out.fr fV4);replace hP7 := zb (hP7.out.fr fV4);replace hQ7 := zb (hQ7.out.fr fV4);clear hA hvz;have tokb21 : Hid (0 < 1) := zb (by decide);have tokb22 : Hid (0 < 1) := zb (by decide)
  go_upto_region 8 with (first
   | (clear tokb21; refine sN v3 21 51 w7.heap.size eb21 ?_; intro V4_b21 b21 ub21
      have FV4_b21 := ub21.fr FV4 (by omega);replace d15 := ub21.other d15 (by omega);replace d17 := ub21.other d17 (by omega);replace b18 := ub21.other b18 (by omega);replace b19 := ub21.other b19 (by omega);replace eb22 := ub21.other eb22 (by omega);replace mA := zb (mA.out.kept ub21 (fun h => h.2 (by simp)));replace nC := zb (nC.out.kept ub21 (fun h => h.2 (by simp)));replace hP6 := zb (hP6.out.kept ub21 (fun h => h.2 (by simp)));replace hQ6 := zb (hQ6.out.kept ub21 (fun h => h.2 (by simp)));replace hP7 := zb (hP7.out.kept ub21 (fun h => h.2 (by simp)));replace hQ7 := zb (hQ7.out.kept ub21 (fun h => h.2 (by simp))))
   | (clear tokb22; refine sN v4 22 52 (w7.heap.size + 1) eb22 ?_; intro V4_b22 b22 ub22
      have FV4_b22 := ub22.fr FV4_b21 (by omega);replace d15 := ub22.other d15 (by omega);replace d17 := ub22.other d17 (by omega);replace b18 := ub22.other b18 (by omega);replace b19 := ub22.other b19 (by omega);replace b21 := ub22.other b21 (by omega);replace mA := zb (mA.out.kept ub22 (fun h => h.2 (by simp)));replace nC := zb (nC.out.kept ub22 (fun h => h.2 (by simp)));replace hP6 := zb (hP6.out.kept ub22 (fun h => h.2 (by simp)));replace hQ6 := zb (hQ6.out.kept ub22 (fun h => h.2 (by simp)));replace hP7 := zb (hP7.out.kept ub22 (fun h => h.2 (by simp)));replace hQ7 := zb (hQ7.out.kept ub22 (fun h => h.2 (by simp)));replace mA : Hid (NP V4_b22 tt va (P)) := zb (mA.out.weak fun _ _ _ => trivial);replace nC : Hid (NP V4_b22 tt vc (C)) := zb (nC.out.weak fun _ _ _ => trivial);replace hP6 : Hid (NP V4_b22 tt v1 (p7)) := zb (hP6.out.weak fun _ _ _ => trivial);replace hQ6 : Hid (NP V4_b22 tt v2 (c7)) := zb (hQ6.out.weak fun _ _ _ => trivial);replace hP7 : Hid (NP V4_b22 tt v3 (p7)) := zb (hP7.out.weak fun _ _ _ => trivial);replace hQ7 : Hid (NP V4_b22 tt v4 (c7)) := zb (hQ7.out.weak fun _ _ _ => trivial);have rV4_b22 := ze V4_b22)
   | fail)
  have fbx : ∃ b : Bool, b = true ↔ OkN (zbo L C j.toNat) ∧ zcW (zbo L C j.toNat) ≤ rmN (zbo L C j.toNat) := by
   by_cases h : OkN (zbo L C j.toNat) ∧ zcW (zbo L C j.toNat) ≤ rmN (zbo L C j.toNat)
   ·exact ⟨true, fun _ => h, fun _ => rfl⟩
   ·exact ⟨false, fun h' => (by cases h'), fun h' => absurd h' h⟩
  obtain ⟨fb3, hfb3⟩ := fbx;have pz : Hid (zeh fb3 L j = false) := zb (by unfold zeh zcL; rw [lL]; rfl);have FX : Fr V4_b22 V4_b22 := ze _
  try simp only [Act.put]
  go_cut [24, 25, 26] from 54 to 62 (fun s24 s25 s26 wx => s26 = .bool false ∧ Fr V4_b22 wx)
  case first =>
   have ldd17 := ldN vc w2.heap.size d17;have hX0 : Fr V4_b22 V4_b22.drew := zn FX;refine wp_region_noPanic ?_;refine wp_region_held_drew (S := fun w' => Fr V4_b22 w') (by kernel_rfl) hX0 (fun hHeld => ?_);change wpAnyH _ _ _ _ _ _ _ _ _;generalize V4_b22.drew = X0 at *;refine xto 0 ?_;refine xto 2 ?_;refine xto 3 ?_;refine wpAnyH_ready (rs := [1, 9, 10]) (by kernel_rfl) (by simp) ?_;refine AllReadyH.cons rfl (fun K hK0 => ?_) (AllReadyH.cons rfl (fun K hK0 => ?_) (AllReadyH.cons rfl (fun K hK0 => ?_) (AllReadyH.nil)))
   ·go_simp
    refine (cB X0 (za FV4_b22 hX0)).mono ?_;rintro e y1 ⟨vv, rfl, hN, fy1⟩;go_simp;have hy1 : Fr V4_b22 y1 := za hX0 fy1;have hL : Hid (NP y1 tt vv L) := zb (hN.out.weak fun _ _ _ => trivial);refine xk hK0 hy1 ?_;clear hK0 K
    try simp only [xs, Act.put]
    refine wpAnyH_ready (rs := [4, 9, 10]) (by kernel_rfl) (by simp) ?_;refine AllReadyH.cons rfl (fun K hK0 => ?_) (AllReadyH.cons rfl (fun K hK0 => ?_) (AllReadyH.cons rfl (fun K hK0 => ?_) (AllReadyH.nil)))
    ·go_simp
     have cZ := zcl (w := y1) (ok := tt) (i := j) (fun _ _ => trivial) hL.out (nC.out.fr hy1) oL oC cL0.2.2 hfb3;unfold zcQ nv at cZ;refine cZ.mono ?_;rintro e y2 ⟨vq, vr, bq, pq, cq, rfl, hI, _, _, fy2⟩;obtain ⟨rfl, _, _⟩ := hI.out;rw [pz.out];go_simp;have hy2 : Fr V4_b22 y2 := za hy1 fy2;have hL := zb (hL.out.fr fy2);refine xk hK0 hy2 ?_;clear hK0 K
     try simp only [xs, Act.put]
     refine xto 5 ?_;refine xto 6 ?_;refine xto 7 ?_;refine xto 8 ?_;refine xrr 9 10 (fun K hK0 => ?_) fun K hK0 => ?_
     ·go_simp
      obtain ⟨y3, ey3, fy3, na24⟩ := zoR y2;rw [ey3];have za24 : V4_b22.heap.size ≤ y2.heap.size := hy2.size;have hy3 : Fr V4_b22 y3 := za hy2 fy3;have hL := zb (hL.out.fr fy3);have a24 := na24;refine xk hK0 hy3 ?_;clear hK0 K;refine xr 10 fun K hK0 => ?_;go_simp;obtain ⟨y4, ey4, fy4, na25⟩ := zoR y3;rw [ey4];have za25 : V4_b22.heap.size ≤ y3.heap.size := hy3.size;have ne : y2.heap.size ≠ y3.heap.size := Nat.ne_of_lt a24.lt;have hy4 : Fr V4_b22 y4 := za hy3 fy4;have a24 := a24.below fy4 a24.lt;have hL := zb (hL.out.fr fy4);have a25 := na25;refine xk hK0 hy4 ?_;clear hK0 K;refine xr 11 fun K hK0 => ?_;refine tN vq 24 60 y2.heap.size a24 ?_;intro x1 k1 q1;have hx1 := q1.fr hy4 za24;have a25 := q1.other a25 (by first | exact ne | exact Ne.symm ne);refine xk hK0 hx1 ?_;clear hK0 K;refine xr 12 fun K hK0 => ?_
      refine tN vr 25 61 y3.heap.size a25 ?_;intro x2 k2 q2;have hx2 := q2.fr hx1 za25;refine xk hK0 hx2 ?_;clear hK0 K
      try simp only [xs, Act.put]
      refine xto 13 ?_;refine wpAnyH_done (by kernel_rfl) ?_ _;refine NoPanic.normal ?_;go_wp2_with fail;go_meet;exact ⟨rfl, hx2⟩
     ·go_simp
      obtain ⟨y5, ey5, fy5, na25⟩ := zoR y2;rw [ey5];have za25 : V4_b22.heap.size ≤ y2.heap.size := hy2.size;have hy5 : Fr V4_b22 y5 := za hy2 fy5;have hL := zb (hL.out.fr fy5);have a25 := na25;refine xk hK0 hy5 ?_;clear hK0 K;refine xr 9 fun K hK0 => ?_;go_simp;obtain ⟨y6, ey6, fy6, na24⟩ := zoR y5;rw [ey6];have za24 : V4_b22.heap.size ≤ y5.heap.size := hy5.size;have ne : y2.heap.size ≠ y5.heap.size := Nat.ne_of_lt a25.lt;have hy6 : Fr V4_b22 y6 := za hy5 fy6;have a25 := a25.below fy6 a25.lt;have hL := zb (hL.out.fr fy6);have a24 := na24;refine xk hK0 hy6 ?_;clear hK0 K;refine xr 11 fun K hK0 => ?_;refine tN vq 24 60 y5.heap.size a24 ?_;intro x1 k1 q1;have hx1 := q1.fr hy6 za24;have a25 := q1.other a25 (by first | exact ne | exact Ne.symm ne);refine xk hK0 hx1 ?_;clear hK0 K;refine xr 12 fun K hK0 => ?_
      refine tN vr 25 61 y2.heap.size a25 ?_;intro x2 k2 q2;have hx2 := q2.fr hx1 za25;refine xk hK0 hx2 ?_;clear hK0 K
      try simp only [xs, Act.put]
      refine xto 13 ?_;refine wpAnyH_done (by kernel_rfl) ?_ _;refine NoPanic.normal ?_;go_wp2_with fail;go_meet;exact ⟨rfl, hx2⟩
    ·go_simp
     obtain ⟨y7, ey7, fy7, na24⟩ := zoR y1;rw [ey7];have za24 : V4_b22.heap.size ≤ y1.heap.size := hy1.size;have hy7 : Fr V4_b22 y7 := za hy1 fy7;have hL := zb (hL.out.fr fy7);have a24 := na24;refine xk hK0 hy7 ?_;clear hK0 K;refine xrr 4 10 (fun K hK0 => ?_) fun K hK0 => ?_
     ·go_simp
      have cZ := zcl (w := y7) (ok := tt) (i := j) (fun _ _ => trivial) hL.out (nC.out.fr hy7) oL oC cL0.2.2 hfb3;unfold zcQ nv at cZ;refine cZ.mono ?_;rintro e y8 ⟨vq, vr, bq, pq, cq, rfl, hI, _, _, fy8⟩;obtain ⟨rfl, _, _⟩ := hI.out;rw [pz.out];go_simp;have hy8 : Fr V4_b22 y8 := za hy7 fy8;have a24 := a24.below fy8 a24.lt;have hL := zb (hL.out.fr fy8);refine xk hK0 hy8 ?_;clear hK0 K
      try simp only [xs, Act.put]
      refine xto 5 ?_;refine xto 6 ?_;refine xto 7 ?_;refine xto 8 ?_;refine xr 10 fun K hK0 => ?_;go_simp;obtain ⟨y9, ey9, fy9, na25⟩ := zoR y8;rw [ey9];have za25 : V4_b22.heap.size ≤ y8.heap.size := hy8.size;have ne : y1.heap.size ≠ y8.heap.size := Nat.ne_of_lt a24.lt;have hy9 : Fr V4_b22 y9 := za hy8 fy9;have a24 := a24.below fy9 a24.lt;have hL := zb (hL.out.fr fy9);have a25 := na25;refine xk hK0 hy9 ?_;clear hK0 K;refine xr 11 fun K hK0 => ?_;refine tN vq 24 60 y1.heap.size a24 ?_;intro x1 k1 q1;have hx1 := q1.fr hy9 za24;have a25 := q1.other a25 (by first | exact ne | exact Ne.symm ne);refine xk hK0 hx1 ?_;clear hK0 K;refine xr 12 fun K hK0 => ?_;refine tN vr 25 61 y8.heap.size a25 ?_;intro x2 k2 q2;have hx2 := q2.fr hx1 za25;refine xk hK0 hx2 ?_;clear hK0 K
      try simp only [xs, Act.put]
      refine xto 13 ?_;refine wpAnyH_done (by kernel_rfl) ?_ _;refine NoPanic.normal ?_;go_wp2_with fail;go_meet;exact ⟨rfl, hx2⟩
     ·go_simp
      obtain ⟨y10, ey10, fy10, na25⟩ := zoR y7;rw [ey10];have za25 : V4_b22.heap.size ≤ y7.heap.size := hy7.size;have ne : y1.heap.size ≠ y7.heap.size := Nat.ne_of_lt a24.lt;have hy10 : Fr V4_b22 y10 := za hy7 fy10;have a24 := a24.below fy10 a24.lt;have hL := zb (hL.out.fr fy10);have a25 := na25;refine xk hK0 hy10 ?_;clear hK0 K;refine xr 4 fun K hK0 => ?_;go_simp;have cZ := zcl (w := y10) (ok := tt) (i := j) (fun _ _ => trivial) hL.out (nC.out.fr hy10) oL oC cL0.2.2 hfb3;unfold zcQ nv at cZ;refine cZ.mono ?_;rintro e y11 ⟨vq, vr, bq, pq, cq, rfl, hI, _, _, fy11⟩;obtain ⟨rfl, _, _⟩ := hI.out;rw [pz.out];go_simp;have hy11 : Fr V4_b22 y11 := za hy10 fy11;have a24 := a24.below fy11 a24.lt;have a25 := a25.below fy11 a25.lt;have hL := zb (hL.out.fr fy11);refine xk hK0 hy11 ?_;clear hK0 K
      try simp only [xs, Act.put]
      refine xto 5 ?_;refine xto 6 ?_;refine xto 7 ?_;refine xto 8 ?_;refine xr 11 fun K hK0 => ?_;refine tN vq 24 60 y1.heap.size a24 ?_;intro x1 k1 q1;have hx1 := q1.fr hy11 za24;have a25 := q1.other a25 (by first | exact ne | exact Ne.symm ne);refine xk hK0 hx1 ?_;clear hK0 K;refine xr 12 fun K hK0 => ?_;refine tN vr 25 61 y7.heap.size a25 ?_;intro x2 k2 q2;have hx2 := q2.fr hx1 za25;refine xk hK0 hx2 ?_;clear hK0 K
      try simp only [xs, Act.put]
      refine xto 13 ?_;refine wpAnyH_done (by kernel_rfl) ?_ _;refine NoPanic.normal ?_;go_wp2_with fail;go_meet;exact ⟨rfl, hx2⟩
    ·go_simp
     obtain ⟨y12, ey12, fy12, na25⟩ := zoR y1;rw [ey12];have za25 : V4_b22.heap.size ≤ y1.heap.size := hy1.size;have hy12 : Fr V4_b22 y12 := za hy1 fy12;have hL := zb (hL.out.fr fy12);have a25 := na25;refine xk hK0 hy12 ?_;clear hK0 K;refine xrr 4 9 (fun K hK0 => ?_) fun K hK0 => ?_
     ·go_simp
      have cZ := zcl (w := y12) (ok := tt) (i := j) (fun _ _ => trivial) hL.out (nC.out.fr hy12) oL oC cL0.2.2 hfb3;unfold zcQ nv at cZ;refine cZ.mono ?_;rintro e y13 ⟨vq, vr, bq, pq, cq, rfl, hI, _, _, fy13⟩;obtain ⟨rfl, _, _⟩ := hI.out;rw [pz.out];go_simp;have hy13 : Fr V4_b22 y13 := za hy12 fy13;have a25 := a25.below fy13 a25.lt;have hL := zb (hL.out.fr fy13);refine xk hK0 hy13 ?_;clear hK0 K
      try simp only [xs, Act.put]
      refine xto 5 ?_;refine xto 6 ?_;refine xto 7 ?_;refine xto 8 ?_;refine xr 9 fun K hK0 => ?_;go_simp;obtain ⟨y14, ey14, fy14, na24⟩ := zoR y13;rw [ey14];have za24 : V4_b22.heap.size ≤ y13.heap.size := hy13.size;have ne : y1.heap.size ≠ y13.heap.size := Nat.ne_of_lt a25.lt;have hy14 : Fr V4_b22 y14 := za hy13 fy14;have a25 := a25.below fy14 a25.lt;have hL := zb (hL.out.fr fy14);have a24 := na24;refine xk hK0 hy14 ?_;clear hK0 K;refine xr 11 fun K hK0 => ?_;refine tN vq 24 60 y13.heap.size a24 ?_;intro x1 k1 q1;have hx1 := q1.fr hy14 za24;have a25 := q1.other a25 (by first | exact ne | exact Ne.symm ne);refine xk hK0 hx1 ?_;clear hK0 K;refine xr 12 fun K hK0 => ?_;refine tN vr 25 61 y1.heap.size a25 ?_;intro x2 k2 q2;have hx2 := q2.fr hx1 za25;refine xk hK0 hx2 ?_;clear hK0 K
      try simp only [xs, Act.put]
      refine xto 13 ?_;refine wpAnyH_done (by kernel_rfl) ?_ _;refine NoPanic.normal ?_;go_wp2_with fail;go_meet;exact ⟨rfl, hx2⟩
     ·go_simp
      obtain ⟨y15, ey15, fy15, na24⟩ := zoR y12;rw [ey15];have za24 : V4_b22.heap.size ≤ y12.heap.size := hy12.size;have ne : y1.heap.size ≠ y12.heap.size := Nat.ne_of_lt a25.lt;have hy15 : Fr V4_b22 y15 := za hy12 fy15;have a25 := a25.below fy15 a25.lt;have hL := zb (hL.out.fr fy15);have a24 := na24;refine xk hK0 hy15 ?_;clear hK0 K;refine xr 4 fun K hK0 => ?_;go_simp;have cZ := zcl (w := y15) (ok := tt) (i := j) (fun _ _ => trivial) hL.out (nC.out.fr hy15) oL oC cL0.2.2 hfb3;unfold zcQ nv at cZ;refine cZ.mono ?_;rintro e y16 ⟨vq, vr, bq, pq, cq, rfl, hI, _, _, fy16⟩;obtain ⟨rfl, _, _⟩ := hI.out;rw [pz.out];go_simp;have hy16 : Fr V4_b22 y16 := za hy15 fy16;have a24 := a24.below fy16 a24.lt;have a25 := a25.below fy16 a25.lt;have hL := zb (hL.out.fr fy16);refine xk hK0 hy16 ?_;clear hK0 K
      try simp only [xs, Act.put]
      refine xto 5 ?_;refine xto 6 ?_;refine xto 7 ?_;refine xto 8 ?_;refine xr 11 fun K hK0 => ?_;refine tN vq 24 60 y12.heap.size a24 ?_;intro x1 k1 q1;have hx1 := q1.fr hy16 za24;have a25 := q1.other a25 (by first | exact ne | exact Ne.symm ne);refine xk hK0 hx1 ?_;clear hK0 K;refine xr 12 fun K hK0 => ?_;refine tN vr 25 61 y1.heap.size a25 ?_;intro x2 k2 q2;have hx2 := q2.fr hx1 za25;refine xk hK0 hx2 ?_;clear hK0 K
      try simp only [xs, Act.put]
      refine xto 13 ?_;refine wpAnyH_done (by kernel_rfl) ?_ _;refine NoPanic.normal ?_;go_wp2_with fail;go_meet;exact ⟨rfl, hx2⟩
   ·go_simp
    obtain ⟨y17, ey17, fy17, na24⟩ := zoR X0;rw [ey17];have za24 : V4_b22.heap.size ≤ X0.heap.size := hX0.size;have hy17 : Fr V4_b22 y17 := za hX0 fy17;have a24 := na24;refine xk hK0 hy17 ?_;clear hK0 K;refine xrr 1 10 (fun K hK0 => ?_) fun K hK0 => ?_
    ·go_simp
     refine (cB y17 (za FV4_b22 hy17)).mono ?_;rintro e y18 ⟨vv, rfl, hN, fy18⟩;go_simp;have hy18 : Fr V4_b22 y18 := za hy17 fy18;have a24 := a24.below fy18 a24.lt;have hL : Hid (NP y18 tt vv L) := zb (hN.out.weak fun _ _ _ => trivial);refine xk hK0 hy18 ?_;clear hK0 K;refine xrr 4 10 (fun K hK0 => ?_) fun K hK0 => ?_
     ·go_simp
      have cZ := zcl (w := y18) (ok := tt) (i := j) (fun _ _ => trivial) hL.out (nC.out.fr hy18) oL oC cL0.2.2 hfb3;unfold zcQ nv at cZ;refine cZ.mono ?_;rintro e y19 ⟨vq, vr, bq, pq, cq, rfl, hI, _, _, fy19⟩;obtain ⟨rfl, _, _⟩ := hI.out;rw [pz.out];go_simp;have hy19 : Fr V4_b22 y19 := za hy18 fy19;have a24 := a24.below fy19 a24.lt;have hL := zb (hL.out.fr fy19);refine xk hK0 hy19 ?_;clear hK0 K
      try simp only [xs, Act.put]
      refine xto 5 ?_;refine xto 6 ?_;refine xto 7 ?_;refine xto 8 ?_;refine xr 10 fun K hK0 => ?_;go_simp;obtain ⟨y20, ey20, fy20, na25⟩ := zoR y19;rw [ey20];have za25 : V4_b22.heap.size ≤ y19.heap.size := hy19.size;have ne : X0.heap.size ≠ y19.heap.size := Nat.ne_of_lt a24.lt;have hy20 : Fr V4_b22 y20 := za hy19 fy20;have a24 := a24.below fy20 a24.lt;have hL := zb (hL.out.fr fy20);have a25 := na25;refine xk hK0 hy20 ?_;clear hK0 K;refine xr 11 fun K hK0 => ?_;refine tN vq 24 60 X0.heap.size a24 ?_;intro x1 k1 q1;have hx1 := q1.fr hy20 za24;have a25 := q1.other a25 (by first | exact ne | exact Ne.symm ne);refine xk hK0 hx1 ?_;clear hK0 K;refine xr 12 fun K hK0 => ?_;refine tN vr 25 61 y19.heap.size a25 ?_;intro x2 k2 q2;have hx2 := q2.fr hx1 za25;refine xk hK0 hx2 ?_;clear hK0 K
      try simp only [xs, Act.put]
      refine xto 13 ?_;refine wpAnyH_done (by kernel_rfl) ?_ _;refine NoPanic.normal ?_;go_wp2_with fail;go_meet;exact ⟨rfl, hx2⟩
     ·go_simp
      obtain ⟨y21, ey21, fy21, na25⟩ := zoR y18;rw [ey21];have za25 : V4_b22.heap.size ≤ y18.heap.size := hy18.size;have ne : X0.heap.size ≠ y18.heap.size := Nat.ne_of_lt a24.lt;have hy21 : Fr V4_b22 y21 := za hy18 fy21;have a24 := a24.below fy21 a24.lt;have hL := zb (hL.out.fr fy21);have a25 := na25;refine xk hK0 hy21 ?_;clear hK0 K;refine xr 4 fun K hK0 => ?_;go_simp;have cZ := zcl (w := y21) (ok := tt) (i := j) (fun _ _ => trivial) hL.out (nC.out.fr hy21) oL oC cL0.2.2 hfb3;unfold zcQ nv at cZ;refine cZ.mono ?_;rintro e y22 ⟨vq, vr, bq, pq, cq, rfl, hI, _, _, fy22⟩;obtain ⟨rfl, _, _⟩ := hI.out;rw [pz.out];go_simp;have hy22 : Fr V4_b22 y22 := za hy21 fy22;have a24 := a24.below fy22 a24.lt;have a25 := a25.below fy22 a25.lt;have hL := zb (hL.out.fr fy22);refine xk hK0 hy22 ?_;clear hK0 K
      try simp only [xs, Act.put]
      refine xto 5 ?_;refine xto 6 ?_;refine xto 7 ?_;refine xto 8 ?_;refine xr 11 fun K hK0 => ?_;refine tN vq 24 60 X0.heap.size a24 ?_;intro x1 k1 q1;have hx1 := q1.fr hy22 za24;have a25 := q1.other a25 (by first | exact ne | exact Ne.symm ne);refine xk hK0 hx1 ?_;clear hK0 K;refine xr 12 fun K hK0 => ?_;refine tN vr 25 61 y18.heap.size a25 ?_;intro x2 k2 q2;have hx2 := q2.fr hx1 za25;refine xk hK0 hx2 ?_;clear hK0 K
      try simp only [xs, Act.put]
      refine xto 13 ?_;refine wpAnyH_done (by kernel_rfl) ?_ _;refine NoPanic.normal ?_;go_wp2_with fail;go_meet;exact ⟨rfl, hx2⟩
    ·go_simp
     obtain ⟨y23, ey23, fy23, na25⟩ := zoR y17;rw [ey23];have za25 : V4_b22.heap.size ≤ y17.heap.size := hy17.size;have ne : X0.heap.size ≠ y17.heap.size := Nat.ne_of_lt a24.lt;have hy23 : Fr V4_b22 y23 := za hy17 fy23;have a24 := a24.below fy23 a24.lt;have a25 := na25;refine xk hK0 hy23 ?_;clear hK0 K;refine xr 1 fun K hK0 => ?_;go_simp;refine (cB y23 (za FV4_b22 hy23)).mono ?_;rintro e y24 ⟨vv, rfl, hN, fy24⟩;go_simp;have hy24 : Fr V4_b22 y24 := za hy23 fy24;have a24 := a24.below fy24 a24.lt;have a25 := a25.below fy24 a25.lt;have hL : Hid (NP y24 tt vv L) := zb (hN.out.weak fun _ _ _ => trivial);refine xk hK0 hy24 ?_;clear hK0 K;refine xr 4 fun K hK0 => ?_;go_simp;have cZ := zcl (w := y24) (ok := tt) (i := j) (fun _ _ => trivial) hL.out (nC.out.fr hy24) oL oC cL0.2.2 hfb3;unfold zcQ nv at cZ;refine cZ.mono ?_;rintro e y25 ⟨vq, vr, bq, pq, cq, rfl, hI, _, _, fy25⟩;obtain ⟨rfl, _, _⟩ := hI.out;rw [pz.out];go_simp;have hy25 : Fr V4_b22 y25 := za hy24 fy25;have a24 := a24.below fy25 a24.lt;have a25 := a25.below fy25 a25.lt;have hL := zb (hL.out.fr fy25);refine xk hK0 hy25 ?_;clear hK0 K
     try simp only [xs, Act.put]
     refine xto 5 ?_;refine xto 6 ?_;refine xto 7 ?_;refine xto 8 ?_;refine xr 11 fun K hK0 => ?_;refine tN vq 24 60 X0.heap.size a24 ?_;intro x1 k1 q1;have hx1 := q1.fr hy25 za24;have a25 := q1.other a25 (by first | exact ne | exact Ne.symm ne);refine xk hK0 hx1 ?_;clear hK0 K;refine xr 12 fun K hK0 => ?_;refine tN vr 25 61 y17.heap.size a25 ?_;intro x2 k2 q2;have hx2 := q2.fr hx1 za25;refine xk hK0 hx2 ?_;clear hK0 K
     try simp only [xs, Act.put]
     refine xto 13 ?_;refine wpAnyH_done (by kernel_rfl) ?_ _;refine NoPanic.normal ?_;go_wp2_with fail;go_meet;exact ⟨rfl, hx2⟩
   ·go_simp
    obtain ⟨y26, ey26, fy26, na25⟩ := zoR X0;rw [ey26];have za25 : V4_b22.heap.size ≤ X0.heap.size := hX0.size;have hy26 : Fr V4_b22 y26 := za hX0 fy26;have a25 := na25;refine xk hK0 hy26 ?_;clear hK0 K;refine xrr 1 9 (fun K hK0 => ?_) fun K hK0 => ?_
    ·go_simp
     refine (cB y26 (za FV4_b22 hy26)).mono ?_;rintro e y27 ⟨vv, rfl, hN, fy27⟩;go_simp;have hy27 : Fr V4_b22 y27 := za hy26 fy27;have a25 := a25.below fy27 a25.lt;have hL : Hid (NP y27 tt vv L) := zb (hN.out.weak fun _ _ _ => trivial);refine xk hK0 hy27 ?_;clear hK0 K;refine xrr 4 9 (fun K hK0 => ?_) fun K hK0 => ?_
     ·go_simp
      have cZ := zcl (w := y27) (ok := tt) (i := j) (fun _ _ => trivial) hL.out (nC.out.fr hy27) oL oC cL0.2.2 hfb3;unfold zcQ nv at cZ;refine cZ.mono ?_;rintro e y28 ⟨vq, vr, bq, pq, cq, rfl, hI, _, _, fy28⟩;obtain ⟨rfl, _, _⟩ := hI.out;rw [pz.out];go_simp;have hy28 : Fr V4_b22 y28 := za hy27 fy28;have a25 := a25.below fy28 a25.lt;have hL := zb (hL.out.fr fy28);refine xk hK0 hy28 ?_;clear hK0 K
      try simp only [xs, Act.put]
      refine xto 5 ?_;refine xto 6 ?_;refine xto 7 ?_;refine xto 8 ?_;refine xr 9 fun K hK0 => ?_;go_simp;obtain ⟨y29, ey29, fy29, na24⟩ := zoR y28;rw [ey29];have za24 : V4_b22.heap.size ≤ y28.heap.size := hy28.size;have ne : X0.heap.size ≠ y28.heap.size := Nat.ne_of_lt a25.lt;have hy29 : Fr V4_b22 y29 := za hy28 fy29;have a25 := a25.below fy29 a25.lt;have hL := zb (hL.out.fr fy29);have a24 := na24;refine xk hK0 hy29 ?_;clear hK0 K;refine xr 11 fun K hK0 => ?_;refine tN vq 24 60 y28.heap.size a24 ?_;intro x1 k1 q1;have hx1 := q1.fr hy29 za24;have a25 := q1.other a25 (by first | exact ne | exact Ne.symm ne);refine xk hK0 hx1 ?_;clear hK0 K;refine xr 12 fun K hK0 => ?_;refine tN vr 25 61 X0.heap.size a25 ?_;intro x2 k2 q2;have hx2 := q2.fr hx1 za25;refine xk hK0 hx2 ?_;clear hK0 K
      try simp only [xs, Act.put]
      refine xto 13 ?_;refine wpAnyH_done (by kernel_rfl) ?_ _;refine NoPanic.normal ?_;go_wp2_with fail;go_meet;exact ⟨rfl, hx2⟩
     ·go_simp
      obtain ⟨y30, ey30, fy30, na24⟩ := zoR y27;rw [ey30];have za24 : V4_b22.heap.size ≤ y27.heap.size := hy27.size;have ne : X0.heap.size ≠ y27.heap.size := Nat.ne_of_lt a25.lt;have hy30 : Fr V4_b22 y30 := za hy27 fy30;have a25 := a25.below fy30 a25.lt;have hL := zb (hL.out.fr fy30);have a24 := na24;refine xk hK0 hy30 ?_;clear hK0 K;refine xr 4 fun K hK0 => ?_;go_simp;have cZ := zcl (w := y30) (ok := tt) (i := j) (fun _ _ => trivial) hL.out (nC.out.fr hy30) oL oC cL0.2.2 hfb3;unfold zcQ nv at cZ;refine cZ.mono ?_;rintro e y31 ⟨vq, vr, bq, pq, cq, rfl, hI, _, _, fy31⟩;obtain ⟨rfl, _, _⟩ := hI.out;rw [pz.out];go_simp;have hy31 : Fr V4_b22 y31 := za hy30 fy31;have a24 := a24.below fy31 a24.lt;have a25 := a25.below fy31 a25.lt;have hL := zb (hL.out.fr fy31);refine xk hK0 hy31 ?_;clear hK0 K
      try simp only [xs, Act.put]
      refine xto 5 ?_;refine xto 6 ?_;refine xto 7 ?_;refine xto 8 ?_;refine xr 11 fun K hK0 => ?_;refine tN vq 24 60 y27.heap.size a24 ?_;intro x1 k1 q1;have hx1 := q1.fr hy31 za24;have a25 := q1.other a25 (by first | exact ne | exact Ne.symm ne);refine xk hK0 hx1 ?_;clear hK0 K;refine xr 12 fun K hK0 => ?_;refine tN vr 25 61 X0.heap.size a25 ?_;intro x2 k2 q2;have hx2 := q2.fr hx1 za25;refine xk hK0 hx2 ?_;clear hK0 K
      try simp only [xs, Act.put]
      refine xto 13 ?_;refine wpAnyH_done (by kernel_rfl) ?_ _;refine NoPanic.normal ?_;go_wp2_with fail;go_meet;exact ⟨rfl, hx2⟩
    ·go_simp
     obtain ⟨y32, ey32, fy32, na24⟩ := zoR y26;rw [ey32];have za24 : V4_b22.heap.size ≤ y26.heap.size := hy26.size;have ne : X0.heap.size ≠ y26.heap.size := Nat.ne_of_lt a25.lt;have hy32 : Fr V4_b22 y32 := za hy26 fy32;have a25 := a25.below fy32 a25.lt;have a24 := na24;refine xk hK0 hy32 ?_;clear hK0 K;refine xr 1 fun K hK0 => ?_;go_simp;refine (cB y32 (za FV4_b22 hy32)).mono ?_;rintro e y33 ⟨vv, rfl, hN, fy33⟩;go_simp;have hy33 : Fr V4_b22 y33 := za hy32 fy33;have a24 := a24.below fy33 a24.lt;have a25 := a25.below fy33 a25.lt;have hL : Hid (NP y33 tt vv L) := zb (hN.out.weak fun _ _ _ => trivial);refine xk hK0 hy33 ?_;clear hK0 K;refine xr 4 fun K hK0 => ?_;go_simp;have cZ := zcl (w := y33) (ok := tt) (i := j) (fun _ _ => trivial) hL.out (nC.out.fr hy33) oL oC cL0.2.2 hfb3;unfold zcQ nv at cZ;refine cZ.mono ?_;rintro e y34 ⟨vq, vr, bq, pq, cq, rfl, hI, _, _, fy34⟩;obtain ⟨rfl, _, _⟩ := hI.out;rw [pz.out];go_simp;have hy34 : Fr V4_b22 y34 := za hy33 fy34;have a24 := a24.below fy34 a24.lt;have a25 := a25.below fy34 a25.lt;have hL := zb (hL.out.fr fy34);refine xk hK0 hy34 ?_;clear hK0 K
     try simp only [xs, Act.put]
     refine xto 5 ?_;refine xto 6 ?_;refine xto 7 ?_;refine xto 8 ?_;refine xr 11 fun K hK0 => ?_;refine tN vq 24 60 y26.heap.size a24 ?_;intro x1 k1 q1;have hx1 := q1.fr hy34 za24;have a25 := q1.other a25 (by first | exact ne | exact Ne.symm ne);refine xk hK0 hx1 ?_;clear hK0 K;refine xr 12 fun K hK0 => ?_;refine tN vr 25 61 X0.heap.size a25 ?_;intro x2 k2 q2;have hx2 := q2.fr hx1 za25;refine xk hK0 hx2 ?_;clear hK0 K
     try simp only [xs, Act.put]
     refine xto 13 ?_;refine wpAnyH_done (by kernel_rfl) ?_ _;refine NoPanic.normal ?_;go_wp2_with fail;go_meet;exact ⟨rfl, hx2⟩
  case rest =>
   obtain ⟨hs26, fwc⟩ := hcut;subst hs26;have Fwc := za FV4_b22 fwc;replace b18 := b18.below fwc b18.lt;replace b19 := b19.below fwc b19.lt;replace b21 := b21.below fwc b21.lt;replace b22 := b22.below fwc b22.lt;replace hP6 := zb (hP6.out.fr fwc);replace hQ6 := zb (hQ6.out.fr fwc);replace hP7 := zb (hP7.out.fr fwc);replace hQ7 := zb (hQ7.out.fr fwc);have S1 := fun W (h : Fr wc W) => zjL (hP6.out.fr h).nh (hP7.out.fr h).nh;have S2 := fun W (h : Fr wc W) => zjL (hQ6.out.fr h).nh (hQ7.out.fr h).nh;simp only [zkp] at S1 S2;have cW := fun W => znk W;unfold nv at S1 S2;have ldb18 := ldN v1 w6.heap.size b18;have ldb19 := ldN v2 (w6.heap.size + 1) b19;have ldb21 := ldN v3 w7.heap.size b21;have ldb22 := ldN v4 (w7.heap.size + 1) b22;have rXwc := ze wc;clear b18 b19 b21 b22 hP6 hP7 hQ6 hQ7 cB oL cL0 lL oP nP oC hfb hfb3 pz;generalize zeh fb P j = bb at *;have F9 := Fwc
   cases bb
   all_goals go_wp2_with fail
   all_goals refine (S1 _ rXwc).mono ?_
   all_goals rintro e x1 ⟨rfl, g1⟩
   all_goals go_wp2_with fail
   all_goals refine (S2 _ g1).mono ?_
   all_goals rintro e x2 ⟨rfl, g2⟩
   all_goals have g2 := za g1 g2
   all_goals clear S1 S2
   all_goals go_wp2_with fail
   all_goals refine (cW _).mono ?_
   all_goals rintro e x5 ⟨rfl, g5⟩
   all_goals go_wp2_with fail
   all_goals go_ret
   all_goals exact ⟨rfl, za F9 (za g2 g5)⟩
end Go.Proofs.YtiggcgajanfbjaaGreat
