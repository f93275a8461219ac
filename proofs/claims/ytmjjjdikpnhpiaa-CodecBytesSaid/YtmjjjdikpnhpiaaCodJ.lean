/- Package law11's awake. -/
import Derived.Test.YtmjjjdikpnhpiaaCodD
namespace Go.Proofs.Ytmjjjdikpnhpiaa
set_option linter.unusedVariables false
set_option linter.unusedSimpArgs false
set_option maxRecDepth 100000
open Go.RowKit
def leaf0 : RN := ⟨true, [], [], [], []⟩
def leafV : NV := ⟨true, none, 0, 0, none, 0, 0, none, 0, 0, none, 0, 0⟩
theorem leaf0_fit : Fit leaf0 := ⟨.inl ⟨rfl, rfl, rfl, rfl, OkE.nil⟩, by decide⟩
theorem leaf0_nh (w : World) : NH w w.heap.size leafV leaf0 :=
  ⟨rfl, Nat.le_refl _, Has.nil, rfl, Nat.le_refl _, Nat.zero_le _, (fun x hx => by simp [leaf0] at hx), Has.nil, rfl, Nat.le_refl _, Nat.zero_le _, Has.nil, rfl, Nat.le_refl _, Nat.zero_le _, (fun x hx => by simp [leaf0] at hx), Has.nil, rfl, Nat.le_refl _, Nat.zero_le _, (fun x hx => by simp [leaf0] at hx)⟩
theorem zeroN_nh (w : World) : NH w w.heap.size zh zce :=
  ⟨rfl, Nat.le_refl _, Has.nil, rfl, Nat.le_refl _, Nat.zero_le _, (fun x hx => by simp [zce] at hx), Has.nil, rfl, Nat.le_refl _, Nat.zero_le _, Has.nil, rfl, Nat.le_refl _, Nat.zero_le _, (fun x hx => by simp [zce] at hx), Has.nil, rfl, Nat.le_refl _, Nat.zero_le _, (fun x hx => by simp [zce] at hx)⟩
theorem zeroN_not : ¬ Fit zce := fun h => by
  rcases h.1 with ⟨h, _⟩ | ⟨_, _, ⟨h, _⟩, _⟩
  · cases h
  · cases h
theorem zeros_sum : sumB (List.replicate 256 0) ≠ 0 := by decide +kernel
theorem zeros_dec {r : RN} {z : Int} (d : DecR (List.replicate 256 0) r z) : z = 5 := by
  have hs := zeros_sum
  have hz : leN (((List.replicate 256 (0 : Int)).drop 4).take 4) = 0 := by decide
  rcases d with ⟨d, _⟩ | ⟨_, _, _, d⟩ | ⟨_, d, _⟩ | ⟨d1, d2, _⟩
  · exact absurd List.length_replicate d
  · exact d
  · rw [hz] at d; omega
  · have := (bk_sum d1).2.2.2
    rw [d2, hz] at this; omega
theorem bk0_at : (bkB leaf0)[0]? = some 1 ∧ (bkB leaf0)[1]? = some 0 ∧ (bkB leaf0)[255]? = some 0 := by
  have e : bkB leaf0 = [1, 0, 0, 0] ++ (leB (sumB (pdB leaf0)) 4 ++ ([] ++ List.replicate 248 0)) := rfl
  rw [e]
  refine ⟨rfl, rfl, ?_⟩
  rw [List.getElem?_append_right (by decide), List.getElem?_append_right (by rw [zcP]; decide), zcP, List.nil_append]
  rfl
attribute [local go_sem ↓] zw zt zae zbh zaP
set_option maxHeartbeats 4000000 in
theorem awake11 (w : World) : Calls Try.prog 4 #[] w fun e w' => e = .returned (.bool true) ∧ Fr w w' := by
  have cE := fun W => encode_yes (leaf0_nh W) leaf0_fit.1 leaf0_fit.2
  have cZ := fun W => encode_no (zeroN_nh W) zeroN_not
  unfold nv NV.cells leafV at cE
  unfold nv NV.cells zh at cZ
  dsimp only at cE cZ
  have hmk : ∀ W : World, (Instr.makeSlice 22 (.int .i64 256) (.int .i64 256)).run Try.prog W = .ok (.slice (some ⟨W.heap.size, 0, none⟩) 256 256) (W.alloc (.cells (Array.replicate 256 (.int .u8 0)) 5)) := fun W => zlZ 256 (by decide) W
  go_enter Try.func4, Try.ntmps4
  go_wp2_with fail
  refine (cE _).mono ?_
  rintro e w1 ⟨g1, rfl, h1⟩
  obtain ⟨z1, a1, f1⟩ := h1.out
  obtain ⟨q1, q2, q3, q4⟩ := bk_sum leaf0_fit
  obtain ⟨p0, p1, p2⟩ := bk0_at
  have cD := decode_at (w := w1) (c := 256) (zax _ a1) a1.lt q1 (Nat.le_refl _) (by decide) q2
  have ex : ∀ j z, (bkB leaf0)[j]? = some z → ∀ W, Fr w1 W → W.cell? ⟨g1, j, none⟩ = some (.int .u8 z) := fun j z h W f => by
    rw [(a1.below f a1.lt).cell]
    simp [h]
  have x0 := ex 0 1 p0
  have x1 := ex 1 0 p1
  have x2 := ex 255 0 p2
  have dy := fun r z (d : DecR (bkB leaf0) r z) => decR_yes leaf0_fit d
  generalize bkB leaf0 = bk at *
  clear ex p0 p1 p2 q1 q2 q3 q4 a1 h1 cE
  go_wp2_with fail
  refine cD.mono ?_
  rintro e w2 ⟨v, r, z, rfl, h2⟩
  obtain ⟨n2, d2, f2⟩ := h2.out
  obtain ⟨rfl, rfl⟩ := dy _ _ d2
  have lv : v.lf = true := n2.lf
  have nv1 : v.n1 = 0 := n2.l1.symm
  obtain ⟨vlf, A1, n1, k1, A2, n2', k2, A3, n3, k3, A4, n4, k4⟩ := v
  dsimp only at lv nv1
  subst lv nv1
  obtain ⟨U, hU, fU, aU⟩ : ∃ U, w2.alloc (.cells zh.cells.toArray 29) = U ∧ Fr w2 U ∧ Arr U w2.heap.size 29 zh.cells.toArray := ⟨_, rfl, zf (ze _) _, Arr.new _ _ _⟩
  rw [zeroN_cells] at hU
  have tok1 : Hid (0 < 1) := zb (by decide)
  clear cD dy d2 h2
  unfold nv
  go_wp2_with (first
    | (clear tok1; refine wpList_put (ds := NV.cells ⟨true, A1, 0, k1, A2, n2', k2, A3, n3, k3, A4, n4, k4⟩) zaw rfl (.tmp 3) (.tmp 19) rfl w2.heap.size 0 rfl rfl rfl (za6 _) aU (Nat.le_of_ble_eq_true rfl) (zk _ _ (Nat.le_of_eq rfl)) ?_; intro w3 a3 k3'
       have f3 : Fr w2 w3 := k3'.below fU fU.size (Nat.le_refl _)
       clear k3' aU hU)
    | fail)
  refine (cZ _).mono ?_
  rintro e w4 ⟨rfl, f4⟩
  clear cZ
  go_wp2_with fail
  refine (decode_len (w := w4) (A := none) (n := 0) (c := 0) (b := []) rfl (by decide) (by decide)).mono ?_
  rintro e w5 ⟨v5, r5, z5, rfl, h5⟩
  obtain ⟨-, d5, f5⟩ := h5.out
  obtain rfl : z5 = 4 := by
    rcases d5 with ⟨_, _, d⟩ | ⟨d, _⟩ | ⟨d, _⟩ | ⟨d, e, _⟩
    · exact d
    · cases d
    · cases d
    · have := (bk_sum d).1; rw [e] at this; cases this
  obtain ⟨U5, hU5, fU5, aU5⟩ : ∃ U, w5.alloc (.cells zh.cells.toArray 29) = U ∧ Fr w5 U ∧ Arr U w5.heap.size 29 zh.cells.toArray := ⟨_, rfl, zf (ze _) _, Arr.new _ _ _⟩
  rw [zeroN_cells] at hU5
  have tok1 : Hid (0 < 1) := zb (by decide)
  clear d5 h5
  go_wp2_with (first
    | (clear tok1; refine wpList_put (ds := v5.cells) zaw rfl (.tmp 7) (.tmp 28) rfl w5.heap.size 0 rfl rfl rfl (za6 _) aU5 (Nat.le_of_ble_eq_true rfl) (zk _ _ (Nat.le_of_eq rfl)) ?_; intro w6 a6 k6
       have f6 : Fr w5 w6 := k6.below fU5 fU5.size (Nat.le_refl _)
       clear k6 aU5 hU5 a6)
    | fail)
  obtain ⟨V, hV, fV, aV⟩ : ∃ V, w6.alloc (.cells (Array.replicate 256 (.int .u8 0)) 5) = V ∧ Fr w6 V ∧ Arr V w6.heap.size 5 (Array.replicate 256 (Value.int .u8 0)) := ⟨_, rfl, zf (ze _) _, Arr.new _ _ _⟩
  rw [← u8s_zeros] at aV
  have cD := decode_at (w := V) (c := 256) (b := List.replicate 256 0) (zax _ aV) aV.lt List.length_replicate (Nat.le_refl _) (by decide) (zeR _)
  have dz := fun r z (d : DecR (List.replicate 256 0) r z) => zeros_dec d
  generalize List.replicate 256 (0 : Int) = zs at *
  rw [hV]
  refine cD.mono ?_
  rintro e w7 ⟨v7, r7, z7, rfl, h7⟩
  obtain ⟨-, d7, f7⟩ := h7.out
  obtain rfl := dz _ _ d7
  obtain ⟨U7, hU7, fU7, aU7⟩ : ∃ U, w7.alloc (.cells zh.cells.toArray 29) = U ∧ Fr w7 U ∧ Arr U w7.heap.size 29 zh.cells.toArray := ⟨_, rfl, zf (ze _) _, Arr.new _ _ _⟩
  rw [zeroN_cells] at hU7
  have F3 := za (za f4 f5) (za f6 (za fV f7))
  have FA := za f1 (za f2 f3)
  have tok1 : Hid (0 < 1) := zb (by decide)
  clear d7 h7 cD dz aV hV
  unfold nv
  go_upto_region 6 with (first
    | (clear tok1; refine wpList_put (ds := v7.cells) zaw rfl (.tmp 9) (.tmp 33) rfl w7.heap.size 0 rfl rfl rfl (za6 _) aU7 (Nat.le_of_ble_eq_true rfl) (zk _ _ (Nat.le_of_eq rfl)) ?_; intro w8 a8 k8
       have f8 : Fr w7 w8 := k8.below fU7 fU7.size (Nat.le_refl _)
       clear k8 aU7 hU7 a8)
    | fail)
  try simp only [Act.put]
  have F8 := za F3 f8
  have b3 := a3.below F8 a3.lt
  have c0 : w8.cell? ⟨w2.heap.size, 0, none⟩ = some (.bool true) := by rw [b3.cell]; rfl
  have c1 : w8.cell? ⟨w2.heap.size, 1, none⟩ = some (.slice A1 0 k1) := by rw [b3.cell]; rfl
  have F18 := za (za f2 f3) F8
  have y0 := x0 w8 F18
  have y1 := x1 w8 F18
  have y2 := x2 w8 F18
  clear x0 x1 x2
  go_wp2_with fail
  go_ret
  exact ⟨rfl, za FA F8⟩
end Go.Proofs.Ytmjjjdikpnhpiaa
