/- KeyTwo and KeyThree, walked. -/
import Derived.Test.YtfjglbkolhadaaaKeyM0
import Derived.Deep.RegionHeld3
namespace Go.Proofs.Ytfjglbkolhadaaa
open Go.RowKit Go.Maps
set_option linter.unusedVariables false
theorem ref_check_at {w0 W : World} (k : RK) (wk : k.wf) (hb : Fr w0 W) : Calls Try.prog 14 #[kv k] W fun e w' => e = .returned (.bool (okB k)) ∧ Fr w0 w' := (ref_check k wk W).mono fun _ _ ⟨he, hw⟩ => ⟨he, fr_step hb hw⟩
theorem key_check_at {w0 W : World} (k : RK) (wk : k.wf) (hb : Fr w0 W) : Calls Try.prog 13 #[kv k] W fun e w' => e = .returned (.bool (okB k)) ∧ Fr w0 w' := (key_check k wk W).mono fun _ _ ⟨he, hw⟩ => ⟨he, fr_step hb hw⟩
theorem key_next_at {w0 W : World} (k : RK) (wk : k.wf) (ok : okB k = true) (hb : Fr w0 W) : Calls Try.prog 22 #[kv k] W fun e w' => e = .returned (nextV (nextK k)) ∧ Fr w0 w' := (key_next k wk ok W).mono fun _ _ ⟨he, hw⟩ => ⟨he, fr_step hb hw⟩
theorem ref_next_at {w0 W : World} (k : RK) (wk : k.wf) (ok : okB k = true) (hb : Fr w0 W) : Calls Try.prog 23 #[kv k] W fun e w' => e = .returned (nextV (nextK k)) ∧ Fr w0 w' := (ref_next k wk ok W).mono fun _ _ ⟨he, hw⟩ => ⟨he, fr_step hb hw⟩
theorem key_compare_at {w0 W : World} (a b : RK) (wa : a.wf) (wb : b.wf) (oa : okB a = true) (ob : okB b = true) (hb : Fr w0 W) : Calls Try.prog 24 #[kv a, kv b] W fun e w' => e = .returned (.int .i64 (cmpK a b)) ∧ Fr w0 w' := (key_compare a b wa wb (okB_len oa) (okB_len ob) W).mono fun _ _ ⟨he, hw⟩ => ⟨he, fr_step hb hw.fr⟩
theorem ref_compare_at {w0 W : World} (a b : RK) (wa : a.wf) (wb : b.wf) (oa : okB a = true) (ob : okB b = true) (hb : Fr w0 W) : Calls Try.prog 25 #[kv a, kv b] W fun e w' => e = .returned (.int .i64 (cmpK a b)) ∧ Fr w0 w' := (ref_compare a b wa wb oa ob W).mono fun _ _ ⟨he, hw⟩ => ⟨he, fr_step hb hw⟩
theorem cmpK_neg (a b : RK) : cmpK b a = -cmpK a b := by
  unfold cmpK
  rcases cmpI_cases (code a) (code b) with ⟨h, h2⟩ | ⟨h, h2⟩ | ⟨h, h2⟩
  · rw [h2, cmpI_gt h]; rfl
  · rw [h2, cmpI_lt h]
  · rw [h2, cmpI_eq h.symm]; rfl
theorem cmpK_bd (a b : RK) : -1 ≤ cmpK a b ∧ cmpK a b ≤ 1 := by
  unfold cmpK
  rcases cmpI_cases (code a) (code b) with ⟨h, h2⟩ | ⟨h, h2⟩ | ⟨h, h2⟩ <;> omega
set_option maxRecDepth 100000 in
set_option maxHeartbeats 4000000 in
theorem keyTwo_core (a b : RK) (wa : a.wf) (wb : b.wf) (w : World) : Calls Try.prog 4 #[kv a, kv b] w fun e w' => e = .returned (.bool true) ∧ Below w.heap.size w w' := by
  go_enter Try.func4, Try.ntmps4
  go_wp2_with fail
  generalize hX : World.alloc (World.alloc w _) _ = X
  have hA : Arr X w.heap.size 24 (kc a).toArray := by rw [← hX]; exact (Arr.new w _ _).alloc _
  have hB : Arr X (w.heap.size + 1) 24 (kc b).toArray := by rw [← hX]; exact arr_new_at _ _ _ _ (by simp)
  have hF : Fr w X := by rw [← hX]; exact fr_new (fr_new (fr_refl w) _) _
  clear hX
  have cells : ∀ W, Fr X W → W.cell? ⟨w.heap.size, 0, none⟩ = some (.int .i64 a.n) ∧ W.cell? ⟨w.heap.size, 1, none⟩ = some (.int .u8 a.b0) ∧ W.cell? ⟨w.heap.size, 2, none⟩ = some (.int .u8 a.b1) ∧ W.cell? ⟨w.heap.size, 3, none⟩ = some (.int .u8 a.b2) ∧ W.cell? ⟨w.heap.size, 4, none⟩ = some (.int .u8 a.b3) ∧ W.cell? ⟨w.heap.size, 5, none⟩ = some (.int .u8 a.b4) ∧ W.cell? ⟨w.heap.size, 6, none⟩ = some (.int .u8 a.b5) ∧ W.cell? ⟨w.heap.size, 7, none⟩ = some (.int .u8 a.b6) ∧ W.cell? ⟨w.heap.size, 8, none⟩ = some (.int .u8 a.b7) ∧ W.cell? ⟨w.heap.size + 1, 0, none⟩ = some (.int .i64 b.n) ∧ W.cell? ⟨w.heap.size + 1, 1, none⟩ = some (.int .u8 b.b0) ∧ W.cell? ⟨w.heap.size + 1, 2, none⟩ = some (.int .u8 b.b1) ∧ W.cell? ⟨w.heap.size + 1, 3, none⟩ = some (.int .u8 b.b2) ∧ W.cell? ⟨w.heap.size + 1, 4, none⟩ = some (.int .u8 b.b3) ∧ W.cell? ⟨w.heap.size + 1, 5, none⟩ = some (.int .u8 b.b4) ∧ W.cell? ⟨w.heap.size + 1, 6, none⟩ = some (.int .u8 b.b5) ∧ W.cell? ⟨w.heap.size + 1, 7, none⟩ = some (.int .u8 b.b6) ∧ W.cell? ⟨w.heap.size + 1, 8, none⟩ = some (.int .u8 b.b7) ∧ Fr X W := fun W h => by
    obtain ⟨p0_0, p0_1, p0_2, p0_3, p0_4, p0_5, p0_6, p0_7, p0_8⟩ := (hA.below h hA.lt).cells9
    obtain ⟨p1_0, p1_1, p1_2, p1_3, p1_4, p1_5, p1_6, p1_7, p1_8⟩ := (hB.below h hB.lt).cells9
    exact ⟨p0_0, p0_1, p0_2, p0_3, p0_4, p0_5, p0_6, p0_7, p0_8, p1_0, p1_1, p1_2, p1_3, p1_4, p1_5, p1_6, p1_7, p1_8, h⟩
  have cA := fun (W : World) (h : Fr X W) => ref_check_at a wa h
  have cB := fun (W : World) (h : Fr X W) => ref_check_at b wb h
  by_cases oa : okB a = true
  · rw [oa] at cA
    refine (cA _ (fr_refl X)).mono ?_
    rintro e w1 ⟨rfl, hf1⟩
    obtain ⟨a0, a1, a2, a3, a4, a5, a6, a7, a8, b0, b1, b2, b3, b4, b5, b6, b7, b8, _⟩ := cells w1 hf1
    go_wp2_with fail
    by_cases ob : okB b = true
    · rw [ob] at cB
      obtain ⟨n, okn, hnv, wn⟩ : ∃ n okn, nextV (nextK a) = .tuple #[kv n, .bool okn] ∧ n.wf := by
        cases h : nextK a with
        | none => exact ⟨zeroK, false, rfl, zeroK_wf⟩
        | some n => exact ⟨n, true, rfl, (next_some wa oa h).1⟩
      have cN := fun (W : World) (h : Fr X W) => key_next_at a wa oa h
      have cR := fun (W : World) => ref_next a wa oa W
      rw [hnv] at cN
      rw [hnv] at cR
      clear hnv
      refine (cB _ hf1).mono ?_
      rintro e w2 ⟨rfl, hf2⟩
      clear a0 a1 a2 a3 a4 a5 a6 a7 a8 b0 b1 b2 b3 b4 b5 b6 b7 b8
      obtain ⟨c0, c1, c2, c3, c4, c5, c6, c7, c8, d0, d1, d2, d3, d4, d5, d6, d7, d8, _⟩ := cells w2 hf2
      go_wp2_with fail
      refine (cN _ hf2).mono ?_
      rintro e w3 ⟨rfl, hf3⟩
      clear c0 c1 c2 c3 c4 c5 c6 c7 c8 d0 d1 d2 d3 d4 d5 d6 d7 d8
      obtain ⟨a0, a1, a2, a3, a4, a5, a6, a7, a8, b0, b1, b2, b3, b4, b5, b6, b7, b8, _⟩ := cells w3 hf3
      go_wp2_with (first | (refine wpList_load_row rfl 24 (.tmp 2) rfl w.heap.size rfl 24 (kc a).toArray (0, 0) _ ((hA.below hf3 hA.lt).alloc _) Try.underlying24 rfl key_info ?_) | fail)
      refine (cR _).mono ?_
      rintro e w4 ⟨rfl, hf4⟩
      clear a0 a1 a2 a3 a4 a5 a6 a7 a8 b0 b1 b2 b3 b4 b5 b6 b7 b8
      have hA4 := ((hA.below hf3 hA.lt).alloc (.cells (kc n).toArray 24)).below hf4 ((hA.below hf3 hA.lt).alloc _).lt
      have hB4 := ((hB.below hf3 hB.lt).alloc (.cells (kc n).toArray 24)).below hf4 ((hB.below hf3 hB.lt).alloc _).lt
      have hN4 := (Arr.new w3 (kc n).toArray 24).below hf4 (by simp)
      have hF4 := fr_step (fr_new (fr_step hF hf3) _) hf4
      go_wp2_with fail
      generalize hX : World.alloc w4 _ = Z
      have hA5 : Arr Z w.heap.size 24 (kc a).toArray := by rw [← hX]; exact hA4.alloc _
      have hB5 : Arr Z (w.heap.size + 1) 24 (kc b).toArray := by rw [← hX]; exact hB4.alloc _
      have hN5 : Arr Z w3.heap.size 24 (kc n).toArray := by rw [← hX]; exact hN4.alloc _
      have hM5 : Arr Z w4.heap.size 24 (kc n).toArray := by rw [← hX]; exact Arr.new w4 _ _
      have hF5 : Fr w Z := by rw [← hX]; exact fr_new hF4 _
      clear hX hA4 hB4 hN4 hF4 hf4 hf3 hf2 hf1 cells cA cB cN cR hA hB hF
      have cz : ∀ W, Fr Z W → W.cell? ⟨w.heap.size, 0, none⟩ = some (.int .i64 a.n) ∧ W.cell? ⟨w.heap.size, 1, none⟩ = some (.int .u8 a.b0) ∧ W.cell? ⟨w.heap.size, 2, none⟩ = some (.int .u8 a.b1) ∧ W.cell? ⟨w.heap.size, 3, none⟩ = some (.int .u8 a.b2) ∧ W.cell? ⟨w.heap.size, 4, none⟩ = some (.int .u8 a.b3) ∧ W.cell? ⟨w.heap.size, 5, none⟩ = some (.int .u8 a.b4) ∧ W.cell? ⟨w.heap.size, 6, none⟩ = some (.int .u8 a.b5) ∧ W.cell? ⟨w.heap.size, 7, none⟩ = some (.int .u8 a.b6) ∧ W.cell? ⟨w.heap.size, 8, none⟩ = some (.int .u8 a.b7) ∧ W.cell? ⟨w.heap.size + 1, 0, none⟩ = some (.int .i64 b.n) ∧ W.cell? ⟨w.heap.size + 1, 1, none⟩ = some (.int .u8 b.b0) ∧ W.cell? ⟨w.heap.size + 1, 2, none⟩ = some (.int .u8 b.b1) ∧ W.cell? ⟨w.heap.size + 1, 3, none⟩ = some (.int .u8 b.b2) ∧ W.cell? ⟨w.heap.size + 1, 4, none⟩ = some (.int .u8 b.b3) ∧ W.cell? ⟨w.heap.size + 1, 5, none⟩ = some (.int .u8 b.b4) ∧ W.cell? ⟨w.heap.size + 1, 6, none⟩ = some (.int .u8 b.b5) ∧ W.cell? ⟨w.heap.size + 1, 7, none⟩ = some (.int .u8 b.b6) ∧ W.cell? ⟨w.heap.size + 1, 8, none⟩ = some (.int .u8 b.b7) ∧ W.cell? ⟨w3.heap.size, 0, none⟩ = some (.int .i64 n.n) ∧ W.cell? ⟨w3.heap.size, 1, none⟩ = some (.int .u8 n.b0) ∧ W.cell? ⟨w3.heap.size, 2, none⟩ = some (.int .u8 n.b1) ∧ W.cell? ⟨w3.heap.size, 3, none⟩ = some (.int .u8 n.b2) ∧ W.cell? ⟨w3.heap.size, 4, none⟩ = some (.int .u8 n.b3) ∧ W.cell? ⟨w3.heap.size, 5, none⟩ = some (.int .u8 n.b4) ∧ W.cell? ⟨w3.heap.size, 6, none⟩ = some (.int .u8 n.b5) ∧ W.cell? ⟨w3.heap.size, 7, none⟩ = some (.int .u8 n.b6) ∧ W.cell? ⟨w3.heap.size, 8, none⟩ = some (.int .u8 n.b7) ∧ W.cell? ⟨w4.heap.size, 0, none⟩ = some (.int .i64 n.n) ∧ W.cell? ⟨w4.heap.size, 1, none⟩ = some (.int .u8 n.b0) ∧ W.cell? ⟨w4.heap.size, 2, none⟩ = some (.int .u8 n.b1) ∧ W.cell? ⟨w4.heap.size, 3, none⟩ = some (.int .u8 n.b2) ∧ W.cell? ⟨w4.heap.size, 4, none⟩ = some (.int .u8 n.b3) ∧ W.cell? ⟨w4.heap.size, 5, none⟩ = some (.int .u8 n.b4) ∧ W.cell? ⟨w4.heap.size, 6, none⟩ = some (.int .u8 n.b5) ∧ W.cell? ⟨w4.heap.size, 7, none⟩ = some (.int .u8 n.b6) ∧ W.cell? ⟨w4.heap.size, 8, none⟩ = some (.int .u8 n.b7) ∧ Fr Z W := fun W h => by
        obtain ⟨p0_0, p0_1, p0_2, p0_3, p0_4, p0_5, p0_6, p0_7, p0_8⟩ := (hA5.below h hA5.lt).cells9
        obtain ⟨p1_0, p1_1, p1_2, p1_3, p1_4, p1_5, p1_6, p1_7, p1_8⟩ := (hB5.below h hB5.lt).cells9
        obtain ⟨p2_0, p2_1, p2_2, p2_3, p2_4, p2_5, p2_6, p2_7, p2_8⟩ := (hN5.below h hN5.lt).cells9
        obtain ⟨p3_0, p3_1, p3_2, p3_3, p3_4, p3_5, p3_6, p3_7, p3_8⟩ := (hM5.below h hM5.lt).cells9
        exact ⟨p0_0, p0_1, p0_2, p0_3, p0_4, p0_5, p0_6, p0_7, p0_8, p1_0, p1_1, p1_2, p1_3, p1_4, p1_5, p1_6, p1_7, p1_8, p2_0, p2_1, p2_2, p2_3, p2_4, p2_5, p2_6, p2_7, p2_8, p3_0, p3_1, p3_2, p3_3, p3_4, p3_5, p3_6, p3_7, p3_8, h⟩
      have cab := fun (W : World) => (key_compare a b wa wb (okB_len oa) (okB_len ob) W)
      have cba := fun (W : World) => (key_compare b a wb wa (okB_len ob) (okB_len oa) W)
      have rab := fun (W : World) => ref_compare a b wa wb oa ob W
      have hbd := cmpK_bd a b
      have heq : ∀ W, (binOp .eql 24 (kv n) (kv n)).run Try.prog W = .ok (.bool true) W := fun W => by simpa using key_eql wn wn W
      rw [cmpK_neg] at cba
      generalize cmpK a b = r at cab cba rab hbd
      obtain ⟨hb1, hb2⟩ := hbd
      have hneg : IntKind.i64.wrap (-r) = -r := IntWalk.i64_in _ (by omega)
      clear wa wb oa ob wn
      go_region_held3 (fun w' => w'.cell? ⟨w.heap.size, 0, none⟩ = some (.int .i64 a.n) ∧ w'.cell? ⟨w.heap.size, 1, none⟩ = some (.int .u8 a.b0) ∧ w'.cell? ⟨w.heap.size, 2, none⟩ = some (.int .u8 a.b1) ∧ w'.cell? ⟨w.heap.size, 3, none⟩ = some (.int .u8 a.b2) ∧ w'.cell? ⟨w.heap.size, 4, none⟩ = some (.int .u8 a.b3) ∧ w'.cell? ⟨w.heap.size, 5, none⟩ = some (.int .u8 a.b4) ∧ w'.cell? ⟨w.heap.size, 6, none⟩ = some (.int .u8 a.b5) ∧ w'.cell? ⟨w.heap.size, 7, none⟩ = some (.int .u8 a.b6) ∧ w'.cell? ⟨w.heap.size, 8, none⟩ = some (.int .u8 a.b7) ∧ w'.cell? ⟨w.heap.size + 1, 0, none⟩ = some (.int .i64 b.n) ∧ w'.cell? ⟨w.heap.size + 1, 1, none⟩ = some (.int .u8 b.b0) ∧ w'.cell? ⟨w.heap.size + 1, 2, none⟩ = some (.int .u8 b.b1) ∧ w'.cell? ⟨w.heap.size + 1, 3, none⟩ = some (.int .u8 b.b2) ∧ w'.cell? ⟨w.heap.size + 1, 4, none⟩ = some (.int .u8 b.b3) ∧ w'.cell? ⟨w.heap.size + 1, 5, none⟩ = some (.int .u8 b.b4) ∧ w'.cell? ⟨w.heap.size + 1, 6, none⟩ = some (.int .u8 b.b5) ∧ w'.cell? ⟨w.heap.size + 1, 7, none⟩ = some (.int .u8 b.b6) ∧ w'.cell? ⟨w.heap.size + 1, 8, none⟩ = some (.int .u8 b.b7) ∧ w'.cell? ⟨w3.heap.size, 0, none⟩ = some (.int .i64 n.n) ∧ w'.cell? ⟨w3.heap.size, 1, none⟩ = some (.int .u8 n.b0) ∧ w'.cell? ⟨w3.heap.size, 2, none⟩ = some (.int .u8 n.b1) ∧ w'.cell? ⟨w3.heap.size, 3, none⟩ = some (.int .u8 n.b2) ∧ w'.cell? ⟨w3.heap.size, 4, none⟩ = some (.int .u8 n.b3) ∧ w'.cell? ⟨w3.heap.size, 5, none⟩ = some (.int .u8 n.b4) ∧ w'.cell? ⟨w3.heap.size, 6, none⟩ = some (.int .u8 n.b5) ∧ w'.cell? ⟨w3.heap.size, 7, none⟩ = some (.int .u8 n.b6) ∧ w'.cell? ⟨w3.heap.size, 8, none⟩ = some (.int .u8 n.b7) ∧ w'.cell? ⟨w4.heap.size, 0, none⟩ = some (.int .i64 n.n) ∧ w'.cell? ⟨w4.heap.size, 1, none⟩ = some (.int .u8 n.b0) ∧ w'.cell? ⟨w4.heap.size, 2, none⟩ = some (.int .u8 n.b1) ∧ w'.cell? ⟨w4.heap.size, 3, none⟩ = some (.int .u8 n.b2) ∧ w'.cell? ⟨w4.heap.size, 4, none⟩ = some (.int .u8 n.b3) ∧ w'.cell? ⟨w4.heap.size, 5, none⟩ = some (.int .u8 n.b4) ∧ w'.cell? ⟨w4.heap.size, 6, none⟩ = some (.int .u8 n.b5) ∧ w'.cell? ⟨w4.heap.size, 7, none⟩ = some (.int .u8 n.b6) ∧ w'.cell? ⟨w4.heap.size, 8, none⟩ = some (.int .u8 n.b7) ∧ Fr Z w')
        (first
          | exact cz _ (fr_drew (fr_refl Z))
          | (go_split_ands; exact cz _ (fr_step (by assumption) hz)))
        (first
          | (go_at_call 24; (first | (with_reducible refine (cab _).mono ?_) | (with_reducible refine (cba _).mono ?_)); rintro e w9 ⟨rfl, hz⟩; have hz := hz.fr)
          | (go_at_call 25; refine (rab _).mono ?_; rintro e w9 ⟨rfl, hz⟩)
          | (go_at_call 10; refine (awake _).mono ?_; rintro e w9 ⟨rfl, hz⟩))
      rename_i hH
      have hz9 := hH.2.2.2.2.2.2.2.2.2.2.2.2.2.2.2.2.2.2.2.2.2.2.2.2.2.2.2.2.2.2.2.2.2.2.2.2
      clear hH
      go_wp2
      go_ret
      exact ⟨rfl, fr_step hF5 hz9⟩
    · have ob' : okB b = false := by simpa using ob
      rw [ob'] at cB
      refine (cB _ hf1).mono ?_
      rintro e w2 ⟨rfl, hf2⟩
      clear a0 a1 a2 a3 a4 a5 a6 a7 a8 b0 b1 b2 b3 b4 b5 b6 b7 b8
      go_wp2_with fail
      refine (awake_at (fr_step hF hf2)).mono ?_
      rintro e w3 ⟨rfl, hf3⟩
      go_wp2_with fail
      go_ret
      exact ⟨rfl, hf3⟩
  · have oa' : okB a = false := by simpa using oa
    rw [oa'] at cA
    refine (cA _ (fr_refl X)).mono ?_
    rintro e w1 ⟨rfl, hf1⟩
    go_wp2_with fail
    refine (awake_at (fr_step hF hf1)).mono ?_
    rintro e w2 ⟨rfl, hf2⟩
    go_wp2_with fail
    go_ret
    exact ⟨rfl, hf2⟩
end Go.Proofs.Ytfjglbkolhadaaa
