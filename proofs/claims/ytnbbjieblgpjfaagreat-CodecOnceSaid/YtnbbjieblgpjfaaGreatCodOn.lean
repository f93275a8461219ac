/- CodecOnce, walked. -/
import Derived.Test.YtnbbjieblgpjfaaGreatCodX
namespace Go.Proofs.YtnbbjieblgpjfaaGreat
set_option linter.unusedVariables false
set_option linter.unusedSimpArgs false
set_option maxRecDepth 100000
open Go.RowKit
attribute [local go_sem ↓] zw zt zae zbh zaP
set_option maxHeartbeats 16000000 in
theorem codecOnce_core {w : World} {A0 A1 A3 : Option Addr} {n0 c0 n1 c1 n3 c3 : Nat} {es ps ms : List Int} {f at_ : Int} {ib : Bool} {x : Nat}
    (hl0 : Has w w.heap.size A0 (es.map (Value.int .i64))) (hn0 : es.length = n0) (hs0 : ∀ z ∈ es, zal z) (hm0 : n0 ≤ maxLen)
    (hl1 : Has w w.heap.size A1 (ps.map (Value.int .i64))) (hn1 : ps.length = n1) (hs1 : ∀ z ∈ ps, zal z) (hb1 : n1 * 8 ≤ 140737488351232) (hf : zal f)
    (hl3 : Has w w.heap.size A3 (ms.map (Value.int .i64))) (hn3 : ms.length = n3) (hs3 : ∀ z ∈ ms, zal z) (hm3 : n3 ≤ maxLen) (hat : zal at_) (hx : x < 256) :
    Calls Tryz.prog 6 #[.slice A0 n0 c0, .slice A1 n1 c1, .int .i64 f, .slice A3 n3 c3, .bool ib, .int .i64 at_, .int .u8 (x : Int)] w fun e w' => e = .returned (.bool true) ∧ Below w.heap.size w w' := by
  have rr := ze w
  have cL := fun W (h : Fr w W) => zoV (w := W) (c := c0) (hl0.fr (Nat.le_refl _) h) h.size hn0 hs0 hm0
  have cI := fun W (h : Fr w W) => zjw (w := W) (c := c1) (c2 := c3) (hl1.fr (Nat.le_refl _) h) h.size hn1 hs1 hf (hl3.fr (Nat.le_refl _) h) h.size hn3 hs3 hm3 hb1
  have lF := zb (leaf_fit es)
  have iF := zb (inn_fit ps f ms)
  have cP := fun W => zgS at_ 256 hat (by decide) (by decide) W
  rw [show ((256 : Nat) : Int) = 256 from rfl] at cP
  obtain ⟨K, hK, hK256⟩ : ∃ K : Nat, at_ % 256 = (K : Int) ∧ K < 256 := ⟨(at_ % 256).toNat, by omega, by omega⟩
  rw [hK] at cP
  clear hl0 hn0 hs0 hm0 hl1 hn1 hs1 hb1 hf hl3 hn3 hs3 hm3 hK
  generalize zcp es = L at *
  generalize zdY ps f ms = I at *
  go_enter Tryz.func6, Tryz.ntmps6
  go_wp2_with fail
  refine (cL _ rr).mono ?_
  rintro e w1 ⟨v1, rfl, h1, f1⟩
  have N1 := zb h1.out.nh
  clear cL h1
  unfold nv
  obtain ⟨U2, hU2, fU2, aU2⟩ : ∃ U, w1.alloc (.cells zh.cells.toArray 27) = U ∧ Fr w1 U ∧ Arr U w1.heap.size 27 zh.cells.toArray := ⟨_, rfl, zf (ze _) _, Arr.new _ _ _⟩
  rw [zeroN_cells] at hU2
  have tok1 : Hid (0 < 1) := zb (by decide)
  go_upto_if 26 with (first
    | (clear tok1; refine wpList_put (ds := v1.cells) zaw rfl (.tmp 15) (.tmp 25) rfl w1.heap.size 0 rfl rfl rfl (za6 _) aU2 (Nat.le_of_ble_eq_true rfl) (zk _ _ (Nat.le_of_eq rfl)) ?_; intro w2 a2 k2
       have f2 : Fr w1 w2 := k2.below fU2 fU2.size (Nat.le_refl _))
    | fail)
  try simp only [Act.put]
  have F2 := za f1 f2
  have N2 := zb (N1.out.fr f2)
  clear k2 aU2 hU2 fU2 N1
  have z15 : w.heap.size ≤ w1.heap.size := f1.size
  go_cut [] from 26 to 30 (fun wx => ∃ (v : NV) (n : RN), Arr wx w1.heap.size 27 v.cells.toArray ∧ Hid (NH wx wx.heap.size v n) ∧ Hid (Fit n) ∧ Hid (Fr w wx))
  case first =>
    cases ib
    · go_wp2_with fail
      go_meet
      exact ⟨v1, L, a2, zb (N2.out.grow_top f2), lF, zb F2⟩
    · go_wp2_with fail
      refine (cI _ F2).mono ?_
      rintro e w3 ⟨v3, rfl, h3, f3⟩
      have a3 := a2.below f3 a2.lt
      have tok1 : Hid (0 < 1) := zb (by decide)
      clear cI
      unfold nv
      go_wp2_with (first
        | (clear tok1; refine wpList_put (ds := v3.cells) zaw rfl (.tmp 15) (.tmp 30) rfl w1.heap.size 0 rfl rfl rfl (za6 _) a3 (Nat.le_of_ble_eq_true rfl) (zk _ _ (Nat.le_of_eq rfl)) ?_; intro w4 a4 k4)
        | fail)
      have F4 := k4.below (za F2 f3) (za F2 f3).size z15
      have zz := a2.lt
      have N4 := zb (h3.out.kpg k4 (by have := f2.size; omega)).nh
      go_meet
      exact ⟨v3, I, a4, N4, iF, zb F4⟩
  case rest =>
    obtain ⟨v, n, b15, hN, hF, hw⟩ := hcut
    obtain ⟨wz, rfl⟩ : ∃ W : World, W = wc := ⟨_, rfl⟩
    clear a2 N2 cI lF iF
    have l15 : (ldS 27 (.pointer (some ⟨w1.heap.size, 0, none⟩))).run Tryz.prog wz = .ok (.agg v.cells.toArray) wz := zq.ld rfl b15
    have cR := rencode_yes hN.out hF.out.1 hF.out.2
    have B15 := zb b15
    unfold nv at cR
    clear b15
    go_wp2_with fail
    refine cR.mono ?_
    rintro e w5 ⟨A5, c5, rfl, h5⟩
    obtain ⟨o5, f5⟩ := h5.out
    have O5 := zb o5
    clear cR h5 o5 l15
    go_wp2_with fail
    refine (cP w5).mono ?_
    rintro e w6 ⟨rfl, f6⟩
    clear cP
    have Fz6 := za f5 f6
    have cA := awake11
    by_cases hskip : x = 0 ∨ (4 ≤ K ∧ K < 8)
    · have hx0 : ((x : Int) == 0) = decide (x = 0) := by rw [Bool.eq_iff_iff]; simp
      have fin := za hw.out Fz6
      by_cases h0 : x = 0
      · rw [decide_eq_true h0] at hx0
        have Hs := zb hskip
        clear hskip h0
        go_wp2_with fail
        refine (cA _).mono ?_
        rintro e w7 ⟨rfl, f7⟩
        go_wp2_with fail
        go_ret
        exact ⟨rfl, za fin f7⟩
      · rw [decide_eq_false h0] at hx0
        have h4 : (4 : Int) ≤ (K : Int) := by omega
        have h8 : (K : Int) < 8 := by omega
        have Hs := zb hskip
        clear hskip h0
        go_wp2_with fail
        refine (cA _).mono ?_
        rintro e w7 ⟨rfl, f7⟩
        go_wp2_with fail
        go_ret
        exact ⟨rfl, za fin f7⟩
    have hx0 : ((x : Int) == 0) = false := by rw [beq_eq_false_iff_ne]; omega
    have Hsk := zb hskip
    have hor : Hid (K < 4 ∨ 8 ≤ K) := zb (by omega)
    clear hskip
    have hk4 : ¬ (4 : Int) ≤ (K : Int) ∨ ((4 : Int) ≤ (K : Int) ∧ ¬ (K : Int) < 8) := by have := hor.out; omega
    rcases hk4 with h4 | ⟨h4, h8⟩
    all_goals
      have hKi : (K : Int) < 256 := by omega
      obtain ⟨q1, q2, -, -⟩ := bk_sum hF.out
      obtain ⟨a, z, ha, hz, hz0, hz1, hzne, -⟩ := turn_byte q1 q2 hK256 hx
      have hx1 : x ≠ 0 := fun e => Hsk.out (.inl e)
      have st := zb (seal_turned q1 hK256 (fun e => Hsk.out (.inr e)) (z := z) (fun e => by rw [ha] at e; injection e with e; exact hzne hx1 e.symm))
      have dl := zb (show ((bkB n).set K z).length = 256 by rw [List.length_set]; exact q1)
      have db := zb (show zdi ((bkB n).set K z) from fun y hy => by
        rcases List.mem_or_eq_of_mem_set hy with h | h
        · exact q2 _ h
        · subst h; exact ⟨hz0, hz1⟩)
      have Q1 := zb q1
      have Ha := zb ha
      have O0 := Own.lit w6 w6.heap.size 5 #[] 0 1 (Nat.le_refl _) (by unfold maxLen; decide) rfl
      have H0 : Has (w6.alloc (.cells #[] 5)) w5.heap.size A5 (u8s (bkB n)) := O5.out.has.fr (Nat.le_refl _) (za f6 (zf (ze w6) _))
      have zB : w6.heap.size ≤ (w6.alloc (.cells #[] 5)).heap.size := (zf (ze w6) _).size
      have tok1 : Hid (0 < 1) := zb (by decide)
      clear q1 q2 ha hzne hx1 hor
      go_upto_region 9 with (first
        | (clear tok1; refine zfh rfl (.tmp 53) (.tmp 54) rfl w6.heap.size (some ⟨w6.heap.size, 0, none⟩) 0 0 [] rfl O0 w5.heap.size A5 256 c5 (bkB n) rfl Q1.out H0 (by decide) zB ?_; intro A7 c7 w7 o7 g7 k7
           have f7 : Fr w6 w7 := zat (zf (ze w6) _) O0 g7 (zf (ze w6) _).size (Nat.le_refl _))
        | fail)
      try simp only [Act.put]
      simp only [Nat.zero_add, List.nil_append] at o7
      obtain ⟨g, -, rfl, hg1, hg2, -⟩ := cown_store o7 hK256
      obtain ⟨hfz, ⟨y, hy, hc⟩, s8⟩ := cown_at o7 hK256
      rw [List.getElem?_map, Ha.out] at hy
      obtain rfl : Value.int .u8 a = y := by injection hy
      have o8 := s8 (.int .u8 z)
      have es : (u8s (bkB n)).set K (.int .u8 z) = u8s ((bkB n).set K z) := List.map_set.symm
      rw [es] at o8
      have kp : KpG w7 g (w7.setCell ⟨g, K, none⟩ (.int .u8 z)) := ⟨rfl, rfl, rfl, by simp [World.setCell], fun k _ hk => Below.heap_setCell _ _ _ _ (fun e => hk (by simp [e]))⟩
      obtain ⟨w8, hw8⟩ : ∃ W, w7.setCell ⟨g, K, none⟩ (.int .u8 z) = W := ⟨_, rfl⟩
      have F8 : Fr w6 w8 := by rw [← hw8]; exact kp.below f7 f7.size hg1
      rw [hw8] at o8
      have cW := whole_at (c := c7) o8.has (Nat.le_refl _) dl.out db.out
      clear s8 es kp o7 g7 k7 O0 H0 zB hy o8 hg2
      go_wp2_with fail
      refine cW.mono ?_
      rintro e w9 ⟨A9, c9, rfl, h9⟩
      obtain ⟨o9, hc9, f9⟩ := h9.out
      have cD := decode_at (w := w9) o9.has (Nat.le_refl _) (sealB_len dl.out) hc9 (by decide) (bytes_sealB db.out)
      have O9 := zb o9
      have F9 := za F8 f9
      clear cW h9 o9 hc hfz hw8
      go_wp2_with fail
      refine cD.mono ?_
      rintro e w10 ⟨v10, r, z10, rfl, h10⟩
      obtain ⟨n10, d10, f10⟩ := h10.out
      clear cD h10
      unfold nv
      obtain ⟨UX, hUX, fUX, aUX⟩ : ∃ U, w10.alloc (.cells zh.cells.toArray 27) = U ∧ Fr w10 U ∧ Arr U w10.heap.size 27 zh.cells.toArray := ⟨_, rfl, zf (ze _) _, Arr.new _ _ _⟩
      rw [zeroN_cells] at hUX
      have tok1 : Hid (0 < 1) := zb (by decide)
      go_upto_region 12 with (first
        | (clear tok1; refine wpList_put (ds := v10.cells) zaw rfl (.tmp 20) (.tmp 70) rfl w10.heap.size 0 rfl rfl rfl (za6 _) aUX (Nat.le_of_ble_eq_true rfl) (zk _ _ (Nat.le_of_eq rfl)) ?_; intro wX aX kX
           have fX : Fr w10 wX := kX.below fUX fUX.size (Nat.le_refl _))
        | fail)
      try simp only [Act.put]
      have F10 := za F9 (za f10 fX)
      have F6X := za Fz6 F10
      have FwX := za hw.out F6X
      have nX := (n10.fr fX).nh
      have l20 : ∀ W, Fr wX W → (ldS 27 (.pointer (some ⟨w10.heap.size, 0, none⟩))).run Tryz.prog W = .ok (.agg v10.cells.toArray) W := fun W h => zq.ld rfl (aX.below h aX.lt)
      have l15 : ∀ W, Fr wX W → (ldS 27 (.pointer (some ⟨w1.heap.size, 0, none⟩))).run Tryz.prog W = .ok (.agg v.cells.toArray) W := fun W h => zq.ld rfl (B15.out.below (za F6X h) B15.out.lt)
      have l20X := l20 wX (ze _)
      have NX := zb nX
      clear kX aUX hUX fUX n10 aX
      rcases decR_seal dl.out db.out d10 with ⟨rfl, rfl⟩ | ⟨ft, bt, rfl⟩
      · have cS := q_rsame (W := wX) nX (zeroN_nh wX)
        rw [csmN_refl] at cS
        unfold nv at cS
        rw [zeroN_cells] at cS
        clear d10 nX
        go_wp2_with fail
        refine cS.mono ?_
        rintro e w12 ⟨rfl, f12⟩
        go_wp2_with fail
        refine (cA _).mono ?_
        rintro e w13 ⟨rfl, f13⟩
        go_wp2_with fail
        go_ret
        exact ⟨rfl, za FwX (za f12 f13)⟩
      · have cE := encode_yes nX ft.1 ft.2
        rw [bt] at cE
        have hne := smN_ne (a := r) (b := n) (fun e => st.out (by rw [← bt, e]))
        have cF := fun W h => zdB (W := W) (b := true) ((NX.out.fr h).grow_top h) ⟨fun _ => ft, fun _ => rfl⟩
        unfold nv at cE cF
        clear d10 nX
        go_wp2_with fail
        refine cE.mono ?_
        rintro e w12 ⟨g12, rfl, h12⟩
        obtain ⟨z12, a12, f12⟩ := h12.out
        have s1 := conv_str (w := w12) (c := 256) (zax _ a12) (sealB_len dl.out)
        have s2 := conv_str (w := w12) (c := c9) (O9.out.has.fr (Nat.le_refl _) (za (za f10 fX) f12)) (sealB_len dl.out)
        generalize strOfNums (sealB ((bkB n).set K z)) = stt at *
        have l20a := l20 w12 f12
        have l15a := l15 w12 f12
        have cS := q_rsame (W := w12) ((NX.out.fr f12).grow_top f12) ((hN.out.fr (za F6X f12)).grow_top (za F6X f12))
        rw [hne] at cS
        unfold nv at cS
        clear cE h12 a12
        go_wp2_with fail
        refine cS.mono ?_
        rintro e w13 ⟨rfl, f13⟩
        have l20b := l20 w13 (za f12 f13)
        have cF13 := cF w13 (za f12 f13)
        go_wp2_with fail
        refine cF13.mono ?_
        rintro e w14 ⟨rfl, f14⟩
        go_wp2_with fail
        refine (cA _).mono ?_
        rintro e w15 ⟨rfl, f15⟩
        go_wp2_with fail
        go_ret
        exact ⟨rfl, za FwX (za f12 (za f13 (za f14 f15)))⟩
end Go.Proofs.YtnbbjieblgpjfaaGreat
