/- CodecTurned, walked. -/
import Derived.Test.YtnbbjieblgpjfaaCodX
namespace Go.Proofs.Ytnbbjieblgpjfaa
set_option linter.unusedVariables false
set_option linter.unusedSimpArgs false
set_option maxRecDepth 100000
open Go.RowKit
theorem set_self {b : List Int} {k : Nat} {a : Int} (h : b[k]? = some a) : b.set k a = b := by
  apply List.ext_getElem?
  intro i
  rw [List.getElem?_set]
  by_cases e : k = i
  · subst e
    rw [if_pos rfl, h, if_pos (List.getElem?_eq_some_iff.1 h).1]
  · rw [if_neg e]
attribute [local go_sem ↓] zw zt zae zbh zaP
set_option maxHeartbeats 16000000 in
theorem codecTurned_core {w : World} {A0 A1 A3 : Option Addr} {n0 c0 n1 c1 n3 c3 : Nat} {es ps ms : List Int} {f at_ : Int} {ib : Bool} {x : Nat}
    (hl0 : Has w w.heap.size A0 (es.map (Value.int .i64))) (hn0 : es.length = n0) (hs0 : ∀ z ∈ es, zal z) (hm0 : n0 ≤ maxLen)
    (hl1 : Has w w.heap.size A1 (ps.map (Value.int .i64))) (hn1 : ps.length = n1) (hs1 : ∀ z ∈ ps, zal z) (hb1 : n1 * 8 ≤ 140737488351232) (hf : zal f)
    (hl3 : Has w w.heap.size A3 (ms.map (Value.int .i64))) (hn3 : ms.length = n3) (hs3 : ∀ z ∈ ms, zal z) (hm3 : n3 ≤ maxLen) (hat : zal at_) (hx : x < 256) :
    Calls Try.prog 5 #[.slice A0 n0 c0, .slice A1 n1 c1, .int .i64 f, .slice A3 n3 c3, .bool ib, .int .i64 at_, .int .u8 (x : Int)] w fun e w' => e = .returned (.bool true) ∧ Below w.heap.size w w' := by
  have rr := ze w
  have cL := fun W (h : Fr w W) => zoV (w := W) (c := c0) (hl0.fr (Nat.le_refl _) h) h.size hn0 hs0 hm0
  have cI := fun W (h : Fr w W) => zjw (w := W) (c := c1) (c2 := c3) (hl1.fr (Nat.le_refl _) h) h.size hn1 hs1 hf (hl3.fr (Nat.le_refl _) h) h.size hn3 hs3 hm3 hb1
  have lF := zb (leaf_fit es)
  have iF := zb (inn_fit ps f ms)
  have cP := fun W => zgS at_ 256 hat (by decide) (by decide) W
  rw [show ((256 : Nat) : Int) = 256 from rfl] at cP
  obtain ⟨K, hK, hK256⟩ : ∃ K : Nat, at_ % 256 = (K : Int) ∧ K < 256 := ⟨(at_ % 256).toNat, by omega, by omega⟩
  rw [hK] at cP
  clear hl0 hn0 hs0 hm0 hl1 hn1 hs1 hb1 hf hl3 hn3 hs3 hm3 hK
  generalize zcp es = L at *
  generalize zdY ps f ms = I at *
  go_enter Try.func5, Try.ntmps5
  go_wp2_with fail
  refine (cL _ rr).mono ?_
  rintro e w1 ⟨v1, rfl, h1, f1⟩
  have N1 := zb h1.out.nh
  clear cL h1
  unfold nv
  obtain ⟨U2, hU2, fU2, aU2⟩ : ∃ U, w1.alloc (.cells zh.cells.toArray 27) = U ∧ Fr w1 U ∧ Arr U w1.heap.size 27 zh.cells.toArray := ⟨_, rfl, zf (ze _) _, Arr.new _ _ _⟩
  rw [zeroN_cells] at hU2
  have tok1 : Hid (0 < 1) := zb (by decide)
  go_upto_if 28 with (first
    | (clear tok1; refine wpList_put (ds := v1.cells) zaw rfl (.tmp 15) (.tmp 27) rfl w1.heap.size 0 rfl rfl rfl (za6 _) aU2 (Nat.le_of_ble_eq_true rfl) (zk _ _ (Nat.le_of_eq rfl)) ?_; intro w2 a2 k2
       have f2 : Fr w1 w2 := k2.below fU2 fU2.size (Nat.le_refl _))
    | fail)
  try simp only [Act.put]
  have F2 := za f1 f2
  have N2 := zb (N1.out.fr f2)
  clear k2 aU2 hU2 fU2 N1
  have z15 : w.heap.size ≤ w1.heap.size := f1.size
  go_cut [] from 28 to 32 (fun wx => ∃ (v : NV) (n : RN), Arr wx w1.heap.size 27 v.cells.toArray ∧ Hid (NH wx wx.heap.size v n) ∧ Hid (Fit n) ∧ Hid (Fr w wx))
  case first =>
    cases ib
    · go_wp2_with fail
      go_meet
      exact ⟨v1, L, a2, zb (N2.out.grow_top f2), lF, zb F2⟩
    · go_wp2_with fail
      refine (cI _ F2).mono ?_
      rintro e w3 ⟨v3, rfl, h3, f3⟩
      have a3 := a2.below f3 a2.lt
      have tok1 : Hid (0 < 1) := zb (by decide)
      clear cI
      unfold nv
      go_wp2_with (first
        | (clear tok1; refine wpList_put (ds := v3.cells) zaw rfl (.tmp 15) (.tmp 32) rfl w1.heap.size 0 rfl rfl rfl (za6 _) a3 (Nat.le_of_ble_eq_true rfl) (zk _ _ (Nat.le_of_eq rfl)) ?_; intro w4 a4 k4)
        | fail)
      have F4 := k4.below (za F2 f3) (za F2 f3).size z15
      have zz := a2.lt
      have N4 := zb (h3.out.kpg k4 (by have := f2.size; omega)).nh
      go_meet
      exact ⟨v3, I, a4, N4, iF, zb F4⟩
  case rest =>
    obtain ⟨v, n, b15, hN, hF, hw⟩ := hcut
    obtain ⟨wz, rfl⟩ : ∃ W : World, W = wc := ⟨_, rfl⟩
    clear a2 N2 cI lF iF
    have l15 : (ldS 27 (.pointer (some ⟨w1.heap.size, 0, none⟩))).run Try.prog wz = .ok (.agg v.cells.toArray) wz := zq.ld rfl b15
    have cR := encode_yes hN.out hF.out.1 hF.out.2
    have B15 := zb b15
    unfold nv at cR
    clear b15
    go_wp2_with fail
    refine cR.mono ?_
    rintro e w5 ⟨g5, rfl, h5⟩
    obtain ⟨z5, a5, f5⟩ := h5.out
    clear cR h5 l15
    have A5 := zb a5
    obtain ⟨q1, q2, -, q4⟩ := bk_sum hF.out
    obtain ⟨a, z, ha, hz, hz0, hz1, hzne, hzeq⟩ := turn_byte q1 q2 hK256 hx
    have hKi : (K : Int) < 256 := by omega
    have Q1 := zb q1
    have Q2 := zb q2
    have Q4 := zb q4
    have Ha := zb ha
    have Zne := zb hzne
    have Zeq := zb hzeq
    have Z01 := zb (And.intro hz0 hz1)
    have O0 := Own.lit w5 w5.heap.size 5 #[] 0 1 (Nat.le_refl _) (by unfold maxLen; decide) rfl
    have H0 : Has (w5.alloc (.cells #[] 5)) w5.heap.size (some ⟨g5, 0, none⟩) (u8s (bkB n)) := ((zax _ a5).fr a5.lt (zf (ze w5) _)).mono a5.lt
    have zB : w5.heap.size ≤ (w5.alloc (.cells #[] 5)).heap.size := (zf (ze w5) _).size
    have tok1 : Hid (0 < 1) := zb (by decide)
    clear q1 q2 q4 ha hzne hzeq hz0 hz1 a5
    go_upto_region 8 with (first
      | (clear tok1; refine zfh rfl (.tmp 45) (.tmp 46) rfl w5.heap.size (some ⟨w5.heap.size, 0, none⟩) 0 0 [] rfl O0 w5.heap.size (some ⟨g5, 0, none⟩) 256 256 (bkB n) rfl Q1.out H0 (by decide) zB ?_; intro A7 c7 w7 o7 g7 k7
         have f7 : Fr w5 w7 := zat (zf (ze w5) _) O0 g7 (zf (ze w5) _).size (Nat.le_refl _))
      | fail)
    try simp only [Act.put]
    simp only [Nat.zero_add, List.nil_append] at o7
    have O7 := zb o7
    have F7 := zb f7
    clear o7 g7 k7 O0 H0 zB f7
    go_wp2_with fail
    refine (cP w7).mono ?_
    rintro e w8 ⟨rfl, f8⟩
    have o8 := O7.out.below f8 (Nat.le_refl _)
    obtain ⟨g, -, rfl, hg1, hg2, -⟩ := cown_store o8 hK256
    obtain ⟨hfz, ⟨y, hy, hc⟩, s8⟩ := cown_at o8 hK256
    rw [List.getElem?_map, Ha.out] at hy
    obtain rfl : Value.int .u8 a = y := by injection hy
    have o9 := s8 (.int .u8 z)
    have es : (u8s (bkB n)).set K (.int .u8 z) = u8s ((bkB n).set K z) := List.map_set.symm
    rw [es] at o9
    have kp : KpG w8 g (w8.setCell ⟨g, K, none⟩ (.int .u8 z)) := ⟨rfl, rfl, rfl, by simp [World.setCell], fun k _ hk => Below.heap_setCell _ _ _ _ (fun e => hk (by simp [e]))⟩
    obtain ⟨w9, hw9⟩ : ∃ W, w8.setCell ⟨g, K, none⟩ (.int .u8 z) = W := ⟨_, rfl⟩
    have F9 : Fr w5 w9 := by rw [← hw9]; exact kp.below (za F7.out f8) (za F7.out f8).size hg1
    rw [hw9] at o9
    have dl := zb (show ((bkB n).set K z).length = 256 by rw [List.length_set]; exact Q1.out)
    have db := zb (show zdi ((bkB n).set K z) from set_bytes Q2.out Z01.out)
    have cD := decode_at (w := w9) (c := c7) o9.has (Nat.le_refl _) dl.out o9.cap (by decide) db.out
    clear s8 es kp o8 hy hg2 o9 cP
    go_wp2_with fail
    refine cD.mono ?_
    rintro e w10 ⟨v10, r, z10, rfl, h10⟩
    obtain ⟨n10, d10, f10⟩ := h10.out
    clear cD h10 hc hfz hw9
    unfold nv
    obtain ⟨UX, hUX, fUX, aUX⟩ : ∃ U, w10.alloc (.cells zh.cells.toArray 27) = U ∧ Fr w10 U ∧ Arr U w10.heap.size 27 zh.cells.toArray := ⟨_, rfl, zf (ze _) _, Arr.new _ _ _⟩
    rw [zeroN_cells] at hUX
    have tok1 : Hid (0 < 1) := zb (by decide)
    go_upto_region 11 with (first
      | (clear tok1; refine wpList_put (ds := v10.cells) zaw rfl (.tmp 20) (.tmp 62) rfl w10.heap.size 0 rfl rfl rfl (za6 _) aUX (Nat.le_of_ble_eq_true rfl) (zk _ _ (Nat.le_of_eq rfl)) ?_; intro wX aX kX
         have fX : Fr w10 wX := kX.below fUX fUX.size (Nat.le_refl _))
      | fail)
    try simp only [Act.put]
    have F10 := za F9 (za f10 fX)
    have NX := zb ((n10.fr fX).nh)
    have l20 : ∀ W, Fr wX W → (ldS 27 (.pointer (some ⟨w10.heap.size, 0, none⟩))).run Try.prog W = .ok (.agg v10.cells.toArray) W := fun W h => zq.ld rfl (aX.below h aX.lt)
    have FwX := zb (za hw.out (za f5 F10))
    have l15 : ∀ W, Fr wX W → (ldS 27 (.pointer (some ⟨w1.heap.size, 0, none⟩))).run Try.prog W = .ok (.agg v.cells.toArray) W := fun W h => zq.ld rfl (B15.out.below (za (za f5 F10) h) B15.out.lt)
    have N15 := zb ((hN.out.fr (za f5 F10)).grow_top (za f5 F10))
    have A5X := zb (A5.out.below F10 A5.out.lt)
    have D10 := zb d10
    clear kX aUX hUX fUX n10 aX d10
    have cS := decode_len (w := wX) (A := some ⟨g5, 0, none⟩) (n := K) (c := 256) (b := (bkB n).take K) (by rw [List.length_take, Q1.out]; omega) (by omega) (by omega)
    have hKl : ((bkB n).take K).length ≠ 256 := by rw [List.length_take, Q1.out]; omega
    go_wp2_with fail
    refine cS.mono ?_
    rintro e w11 ⟨v11, r11, z11, rfl, h11⟩
    obtain ⟨-, d11, f11⟩ := h11.out
    obtain ⟨rfl, rfl⟩ := decR_short hKl d11
    clear cS h11 d11 hKl
    unfold nv
    obtain ⟨UY, hUY, fUY, aUY⟩ : ∃ U, w11.alloc (.cells zh.cells.toArray 27) = U ∧ Fr w11 U ∧ Arr U w11.heap.size 27 zh.cells.toArray := ⟨_, rfl, zf (ze _) _, Arr.new _ _ _⟩
    rw [zeroN_cells] at hUY
    have tok1 : Hid (0 < 1) := zb (by decide)
    go_upto_region 12 with (first
      | (clear tok1; refine wpList_put (ds := v11.cells) zaw rfl (.tmp 22) (.tmp 69) rfl w11.heap.size 0 rfl rfl rfl (za6 _) aUY (Nat.le_of_ble_eq_true rfl) (zk _ _ (Nat.le_of_eq rfl)) ?_; intro wY aY kY
         have fY : Fr w11 wY := kY.below fUY fUY.size (Nat.le_refl _))
      | fail)
    try simp only [Act.put]
    have FXY := za f11 fY
    have A5Y := A5X.out.below FXY A5X.out.lt
    clear kY aUY hUY fUY aY
    have O0 := Own.lit wY wY.heap.size 5 #[] 0 1 (Nat.le_refl _) (by unfold maxLen; decide) rfl
    have H0 : Has (wY.alloc (.cells #[] 5)) wY.heap.size (some ⟨g5, 0, none⟩) (u8s (bkB n)) := ((zax _ A5Y).fr A5Y.lt (zf (ze wY) _)).mono A5Y.lt
    have zB : wY.heap.size ≤ (wY.alloc (.cells #[] 5)).heap.size := (zf (ze wY) _).size
    have tok1 : Hid (0 < 1) := zb (by decide)
    have tok2 : Hid (0 < 1) := zb (by decide)
    go_wp2_with (first
      | (clear tok1; refine zfh rfl (.tmp 72) (.tmp 73) rfl wY.heap.size (some ⟨wY.heap.size, 0, none⟩) 0 0 [] rfl O0 wY.heap.size (some ⟨g5, 0, none⟩) 256 256 (bkB n) rfl Q1.out H0 (by decide) zB ?_; intro Aa ca wa oa ga ka
         have fa : Fr wY wa := zat (zf (ze wY) _) O0 ga (zf (ze wY) _).size (Nat.le_refl _)
         simp only [Nat.zero_add, List.nil_append] at oa
         have hBa : wY.heap.size ≤ (wa.alloc (.cells #[.int .u8 (x : Int)] 5)).heap.size := Nat.le_trans fa.size (zf (ze wa) _).size)
      | (clear tok2; refine zfh rfl (.tmp 74) (.tmp 76) rfl wY.heap.size Aa 256 ca (bkB n) rfl (oa.alloc _) _ _ 1 1 [(x : Int)] rfl rfl (zev _ _ _) (by omega) hBa ?_; intro Ab cb wb ob gb kb
         have fb : Fr wY wb := zat (za fa (zf (ze wa) _)) (oa.alloc _) gb hBa (Nat.le_refl _))
      | fail)
    have Fb := zb fb
    have cT := decode_len (w := wb) (A := Ab) (n := 257) (c := cb) (b := bkB n ++ [(x : Int)]) (by rw [List.length_append, Q1.out]; rfl) (by decide) (by decide)
    have hT : (bkB n ++ [(x : Int)]).length ≠ 256 := by rw [List.length_append, Q1.out]; simp
    clear O0 H0 zB oa ga ka ob gb kb hBa A5Y
    refine cT.mono ?_
    rintro e w12 ⟨v12, r12, z12, rfl, h12⟩
    obtain ⟨-, d12, f12⟩ := h12.out
    obtain ⟨rfl, rfl⟩ := decR_short hT d12
    clear cT h12 d12 hT
    unfold nv
    obtain ⟨UZ, hUZ, fUZ, aUZ⟩ : ∃ U, w12.alloc (.cells zh.cells.toArray 27) = U ∧ Fr w12 U ∧ Arr U w12.heap.size 27 zh.cells.toArray := ⟨_, rfl, zf (ze _) _, Arr.new _ _ _⟩
    rw [zeroN_cells] at hUZ
    have tok1 : Hid (0 < 1) := zb (by decide)
    go_upto_region 13 with (first
      | (clear tok1; refine wpList_put (ds := v12.cells) zaw rfl (.tmp 24) (.tmp 79) rfl w12.heap.size 0 rfl rfl rfl (za6 _) aUZ (Nat.le_of_ble_eq_true rfl) (zk _ _ (Nat.le_of_eq rfl)) ?_; intro wZ aZ kZ
         have fZ : Fr w12 wZ := kZ.below fUZ fUZ.size (Nat.le_refl _))
      | fail)
    try simp only [Act.put]
    clear kZ aUZ hUZ fUZ aZ
    have FXZ := zb (za FXY (za Fb.out (za f12 fZ)))
    have l20Z := l20 wZ FXZ.out
    have l15Z := l15 wZ FXZ.out
    have cA := awake11
    by_cases h0 : x = 0
    · obtain rfl : z = a := Zeq.out h0
      have e0 : (bkB n).set K z = bkB n := set_self Ha.out
      rw [e0] at D10
      obtain ⟨rfl, rfl⟩ := decR_yes hF.out D10.out
      have hx0 : ((x : Int) == 0) = true := by rw [h0]; rfl
      have cS := q_rsame (W := wZ) ((NX.out.fr FXZ.out).grow_top FXZ.out) ((N15.out.fr FXZ.out).grow_top FXZ.out)
      rw [csmN_refl] at cS
      unfold nv at cS
      clear h0 e0 l20 l15
      go_wp2_with fail
      refine cS.mono ?_
      rintro e w13 ⟨rfl, f13⟩
      go_wp2_with fail
      refine (cA _).mono ?_
      rintro e w14 ⟨rfl, f14⟩
      go_wp2_with fail
      go_ret
      exact ⟨rfl, za FwX.out (za FXZ.out (za f13 f14))⟩
    · obtain ⟨rfl, rfl⟩ := decR_turned Q1.out Q2.out Q4.out hK256 Z01.out (fun e => by rw [Ha.out] at e; injection e with e; exact Zne.out h0 e.symm) D10.out
      have hx0 : ((x : Int) == 0) = false := by rw [beq_eq_false_iff_ne]; omega
      have cS := q_rsame (W := wZ) ((NX.out.fr FXZ.out).grow_top FXZ.out) (zeroN_nh wZ)
      rw [csmN_refl] at cS
      unfold nv at cS
      rw [zeroN_cells] at cS
      clear h0 l20 l15
      go_wp2_with fail
      refine cS.mono ?_
      rintro e w13 ⟨rfl, f13⟩
      go_wp2_with fail
      refine (cA _).mono ?_
      rintro e w14 ⟨rfl, f14⟩
      go_wp2_with fail
      go_ret
      exact ⟨rfl, za FwX.out (za FXZ.out (za f13 f14))⟩
end Go.Proofs.Ytnbbjieblgpjfaa
