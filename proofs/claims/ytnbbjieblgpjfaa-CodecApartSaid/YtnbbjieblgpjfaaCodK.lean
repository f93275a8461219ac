/- Package law11's codes: a node's bytes are the document's, and it is told again. -/
import Derived.Test.YtnbbjieblgpjfaaCodJ
import Derived.Test.YtnbbjieblgpjfaaCodH
namespace Go.Proofs.Ytnbbjieblgpjfaa
set_option linter.unusedVariables false
set_option linter.unusedSimpArgs false
set_option maxRecDepth 100000
open Go.RowKit
theorem csmN_refl (n : RN) : smN n n = true := by unfold smN; simp
attribute [local go_sem ↓] zw zt zae zbh zaP
set_option maxHeartbeats 4000000 in
theorem codes_yes {w : World} {v : NV} {n : RN} (h : NH w w.heap.size v n) (hf : Fit n) :
    Calls Try.prog 8 #[nv v] w fun e w' => e = .returned (.bool true) ∧ Fr w w' := by
  obtain ⟨Y, hY, fY, aY, -, -, -, -, -, lY⟩ := nod_boxed w v
  have rY := ze Y
  have hN := h.fr fY
  have hNY : NH Y Y.heap.size v n := hN.grow_top fY
  have cE := encode_yes hNY hf.1 hf.2
  have Hf := zb hf
  have HN := zb hNY
  unfold nv at cE ⊢
  clear h hf hN hNY
  go_enter Try.func8, Try.ntmps8
  go_wp2_with fail
  refine cE.mono ?_
  rintro e w1 ⟨g1, rfl, h1⟩
  obtain ⟨z1, a1, f1⟩ := h1.out
  have cR := rencode_yes ((HN.out.fr f1).grow_top f1) Hf.out.1 Hf.out.2
  unfold nv at cR
  clear cE h1
  go_wp2_with fail
  refine cR.mono ?_
  rintro e w2 ⟨A2, c2, rfl, h2⟩
  obtain ⟨o2, f2⟩ := h2.out
  obtain ⟨q1, q2, q3, q4⟩ := bk_sum Hf.out
  have a2 := a1.below f2 a1.lt
  have cD := decode_at (w := w2) (c := 256) (zax _ a2) a2.lt q1 (Nat.le_refl _) (by decide) q2
  have dy := fun r z (d : DecR (bkB n) r z) => decR_yes Hf.out d
  have Q1 := zb q1
  generalize bkB n = bk at *
  clear cR h2 q1 q2 q3 q4
  go_wp2_with fail
  refine cD.mono ?_
  rintro e w3 ⟨v3, r, z, rfl, h3⟩
  obtain ⟨n3, d3, f3⟩ := h3.out
  obtain ⟨rfl, rfl⟩ := dy _ _ d3
  obtain ⟨U, hU, fU, aU⟩ : ∃ U, w3.alloc (.cells zh.cells.toArray 27) = U ∧ Fr w3 U ∧ Arr U w3.heap.size 27 zh.cells.toArray := ⟨_, rfl, zf (ze _) _, Arr.new _ _ _⟩
  rw [zeroN_cells] at hU
  have tok1 : Hid (0 < 1) := zb (by decide)
  clear cD dy d3 h3
  unfold nv
  go_upto_region 4 with (first
    | (clear tok1; refine wpList_put (ds := v3.cells) zaw rfl (.tmp 7) (.tmp 22) rfl w3.heap.size 0 rfl rfl rfl (za6 _) aU (Nat.le_of_ble_eq_true rfl) (zk _ _ (Nat.le_of_eq rfl)) ?_; intro w4 a4 k4
       have f4 : Fr w3 w4 := k4.below fU fU.size (Nat.le_refl _)
       clear k4 aU hU)
    | fail)
  try simp only [Act.put]
  have f14 := za f2 (za f3 f4)
  have s1 := conv_str (w := w4) (c := 256) (zax _ (a1.below f14 a1.lt)) Q1.out
  have s2 := conv_str (w := w4) (c := c2) ((o2.has.fr (Nat.le_refl _) (za f3 f4))) Q1.out
  generalize strOfNums bk = st at *
  have l7 : (ldS 27 (.pointer (some ⟨w3.heap.size, 0, none⟩))).run Try.prog w4 = .ok (.agg v3.cells.toArray) w4 := zq.ld rfl a4
  have FY := za f1 f14
  have l1 := lY w4 FY
  have cS := q_rsame (W := w4) (n3.fr f4).nh ((HN.out.fr FY).grow_top FY)
  rw [csmN_refl] at cS
  unfold nv at cS
  clear n3 a4 a1 a2 o2 lY
  go_wp2_with fail
  refine cS.mono ?_
  rintro e w5 ⟨rfl, f5⟩
  go_wp2_with fail
  go_ret
  exact ⟨rfl, za fY (za FY f5)⟩
set_option maxHeartbeats 4000000 in
theorem codes_no {w : World} {v : NV} {n : RN} (h : NH w w.heap.size v n) (hf : ¬ Fit n) :
    Calls Try.prog 8 #[nv v] w fun e w' => e = .returned (.bool true) ∧ Fr w w' := by
  obtain ⟨Y, hY, fY, aY, -, -, -, -, -, lY⟩ := nod_boxed w v
  have rY := ze Y
  have hNY : NH Y Y.heap.size v n := (h.fr fY).grow_top fY
  have cE := encode_no hNY hf
  have HN := zb hNY
  have Hf := zb hf
  unfold nv at cE ⊢
  clear h hf hNY
  go_enter Try.func8, Try.ntmps8
  go_wp2_with fail
  refine cE.mono ?_
  rintro e w1 ⟨rfl, f1⟩
  have cR := rencode_no ((HN.out.fr f1).grow_top f1) Hf.out
  unfold nv at cR
  clear cE
  go_wp2_with fail
  refine cR.mono ?_
  rintro e w2 ⟨rfl, f2⟩
  clear cR
  go_wp2_with fail
  refine (decode_len (w := w2) (A := none) (n := 0) (c := 0) (b := []) rfl (by decide) (by decide)).mono ?_
  rintro e w3 ⟨v3, r, z, rfl, h3⟩
  obtain ⟨-, d3, f3⟩ := h3.out
  obtain ⟨U, hU, fU, aU⟩ : ∃ U, w3.alloc (.cells zh.cells.toArray 27) = U ∧ Fr w3 U ∧ Arr U w3.heap.size 27 zh.cells.toArray := ⟨_, rfl, zf (ze _) _, Arr.new _ _ _⟩
  rw [zeroN_cells] at hU
  have tok1 : Hid (0 < 1) := zb (by decide)
  clear d3 h3
  unfold nv
  go_upto_region 4 with (first
    | (clear tok1; refine wpList_put (ds := v3.cells) zaw rfl (.tmp 7) (.tmp 22) rfl w3.heap.size 0 rfl rfl rfl (za6 _) aU (Nat.le_of_ble_eq_true rfl) (zk _ _ (Nat.le_of_eq rfl)) ?_; intro w4 a4 k4
       have f4 : Fr w3 w4 := k4.below fU fU.size (Nat.le_refl _)
       clear k4 aU hU a4)
    | fail)
  try simp only [Act.put]
  have s1 := conv_str (w := w4) (B := 0) (A := none) (n := 0) (c := 0) (xs := []) Has.nil rfl
  generalize strOfNums ([] : List Int) = st at *
  clear lY
  go_wp2_with fail
  go_ret
  exact ⟨rfl, za fY (za f1 (za f2 (za f3 f4)))⟩
theorem codes_at {w : World} {v : NV} {n : RN} (h : NH w w.heap.size v n) :
    Calls Try.prog 8 #[nv v] w fun e w' => e = .returned (.bool true) ∧ Fr w w' := by
  by_cases hf : Fit n
  · exact codes_yes h hf
  · exact codes_no h hf
end Go.Proofs.Ytnbbjieblgpjfaa
