/- KeyThree, walked. -/
import Derived.Test.YtfjglbkolhadaaaKeyM
namespace Go.Proofs.Ytfjglbkolhadaaa
open Go.RowKit Go.Maps
set_option linter.unusedVariables false
theorem cmpK_zero {a b : RK} (wa : a.wf) (wb : b.wf) (oa : okB a = true) (ob : okB b = true) : (cmpK a b == 0) = decide (a = b) := by
  rw [Bool.eq_iff_iff, decide_eq_true_iff, beq_iff_eq]
  unfold cmpK
  constructor
  · intro h
    rcases cmpI_cases (code a) (code b) with ⟨g, h2⟩ | ⟨g, h2⟩ | ⟨g, h2⟩
    · omega
    · omega
    · exact code_inj wa wb (okB_len oa) (okB_len ob) g
  · rintro rfl
    exact cmpI_eq rfl
theorem cmpK_le {a b : RK} : cmpK a b ≤ 0 ↔ code a ≤ code b := by
  unfold cmpK
  rcases cmpI_cases (code a) (code b) with ⟨h, h2⟩ | ⟨h, h2⟩ | ⟨h, h2⟩ <;> omega
theorem cmpK_lt {a b : RK} : cmpK a b < 0 ↔ code a < code b := by
  unfold cmpK
  rcases cmpI_cases (code a) (code b) with ⟨h, h2⟩ | ⟨h, h2⟩ | ⟨h, h2⟩ <;> omega
set_option maxRecDepth 100000 in
set_option maxHeartbeats 8000000 in
theorem keyThree_core (a b c : RK) (wa : a.wf) (wb : b.wf) (wc : c.wf) (w : World) : Calls Try.prog 7 #[kv a, kv b, kv c] w fun e w' => e = .returned (.bool true) ∧ Below w.heap.size w w' := by
  go_enter Try.func7, Try.ntmps7
  go_wp2_with fail
  generalize hX : World.alloc (World.alloc (World.alloc w _) _) _ = X
  have hA : Arr X w.heap.size 24 (kc a).toArray := by rw [← hX]; exact ((Arr.new w _ _).alloc _).alloc _
  have hB : Arr X (w.heap.size + 1) 24 (kc b).toArray := by rw [← hX]; exact Arr.alloc (arr_new_at _ _ _ _ (by simp)) _
  have hC : Arr X (w.heap.size + 1 + 1) 24 (kc c).toArray := by rw [← hX]; exact arr_new_at _ _ _ _ (by simp)
  have hF : Fr w X := by rw [← hX]; exact fr_new (fr_new (fr_new (fr_refl w) _) _) _
  clear hX
  have cells : ∀ W, Fr X W → W.cell? ⟨w.heap.size, 0, none⟩ = some (.int .i64 a.n) ∧ W.cell? ⟨w.heap.size, 1, none⟩ = some (.int .u8 a.b0) ∧ W.cell? ⟨w.heap.size, 2, none⟩ = some (.int .u8 a.b1) ∧ W.cell? ⟨w.heap.size, 3, none⟩ = some (.int .u8 a.b2) ∧ W.cell? ⟨w.heap.size, 4, none⟩ = some (.int .u8 a.b3) ∧ W.cell? ⟨w.heap.size, 5, none⟩ = some (.int .u8 a.b4) ∧ W.cell? ⟨w.heap.size, 6, none⟩ = some (.int .u8 a.b5) ∧ W.cell? ⟨w.heap.size, 7, none⟩ = some (.int .u8 a.b6) ∧ W.cell? ⟨w.heap.size, 8, none⟩ = some (.int .u8 a.b7) ∧ W.cell? ⟨w.heap.size + 1, 0, none⟩ = some (.int .i64 b.n) ∧ W.cell? ⟨w.heap.size + 1, 1, none⟩ = some (.int .u8 b.b0) ∧ W.cell? ⟨w.heap.size + 1, 2, none⟩ = some (.int .u8 b.b1) ∧ W.cell? ⟨w.heap.size + 1, 3, none⟩ = some (.int .u8 b.b2) ∧ W.cell? ⟨w.heap.size + 1, 4, none⟩ = some (.int .u8 b.b3) ∧ W.cell? ⟨w.heap.size + 1, 5, none⟩ = some (.int .u8 b.b4) ∧ W.cell? ⟨w.heap.size + 1, 6, none⟩ = some (.int .u8 b.b5) ∧ W.cell? ⟨w.heap.size + 1, 7, none⟩ = some (.int .u8 b.b6) ∧ W.cell? ⟨w.heap.size + 1, 8, none⟩ = some (.int .u8 b.b7) ∧ W.cell? ⟨w.heap.size + 1 + 1, 0, none⟩ = some (.int .i64 c.n) ∧ W.cell? ⟨w.heap.size + 1 + 1, 1, none⟩ = some (.int .u8 c.b0) ∧ W.cell? ⟨w.heap.size + 1 + 1, 2, none⟩ = some (.int .u8 c.b1) ∧ W.cell? ⟨w.heap.size + 1 + 1, 3, none⟩ = some (.int .u8 c.b2) ∧ W.cell? ⟨w.heap.size + 1 + 1, 4, none⟩ = some (.int .u8 c.b3) ∧ W.cell? ⟨w.heap.size + 1 + 1, 5, none⟩ = some (.int .u8 c.b4) ∧ W.cell? ⟨w.heap.size + 1 + 1, 6, none⟩ = some (.int .u8 c.b5) ∧ W.cell? ⟨w.heap.size + 1 + 1, 7, none⟩ = some (.int .u8 c.b6) ∧ W.cell? ⟨w.heap.size + 1 + 1, 8, none⟩ = some (.int .u8 c.b7) ∧ Fr X W := fun W h => by
    obtain ⟨p0_0, p0_1, p0_2, p0_3, p0_4, p0_5, p0_6, p0_7, p0_8⟩ := (hA.below h hA.lt).cells9
    obtain ⟨p1_0, p1_1, p1_2, p1_3, p1_4, p1_5, p1_6, p1_7, p1_8⟩ := (hB.below h hB.lt).cells9
    obtain ⟨p2_0, p2_1, p2_2, p2_3, p2_4, p2_5, p2_6, p2_7, p2_8⟩ := (hC.below h hC.lt).cells9
    exact ⟨p0_0, p0_1, p0_2, p0_3, p0_4, p0_5, p0_6, p0_7, p0_8, p1_0, p1_1, p1_2, p1_3, p1_4, p1_5, p1_6, p1_7, p1_8, p2_0, p2_1, p2_2, p2_3, p2_4, p2_5, p2_6, p2_7, p2_8, h⟩
  have cA := fun (W : World) (h : Fr X W) => ref_check_at a wa h
  have cB := fun (W : World) (h : Fr X W) => ref_check_at b wb h
  have cC := fun (W : World) (h : Fr X W) => ref_check_at c wc h
  by_cases oa : okB a = true
  · rw [oa] at cA
    refine (cA _ (fr_refl X)).mono ?_
    rintro e w1 ⟨rfl, hf1⟩
    obtain ⟨a0, a1, a2, a3, a4, a5, a6, a7, a8, b0, b1, b2, b3, b4, b5, b6, b7, b8, c0, c1, c2, c3, c4, c5, c6, c7, c8, _⟩ := cells w1 hf1
    go_wp2_with fail
    by_cases ob : okB b = true
    · rw [ob] at cB
      refine (cB _ hf1).mono ?_
      rintro e w2 ⟨rfl, hf2⟩
      clear a0 a1 a2 a3 a4 a5 a6 a7 a8 b0 b1 b2 b3 b4 b5 b6 b7 b8 c0 c1 c2 c3 c4 c5 c6 c7 c8
      obtain ⟨a0, a1, a2, a3, a4, a5, a6, a7, a8, b0, b1, b2, b3, b4, b5, b6, b7, b8, c0, c1, c2, c3, c4, c5, c6, c7, c8, _⟩ := cells w2 hf2
      go_wp2_with fail
      by_cases oc : okB c = true
      · rw [oc] at cC
        refine (cC _ hf2).mono ?_
        rintro e w3 ⟨rfl, hf3⟩
        clear a0 a1 a2 a3 a4 a5 a6 a7 a8 b0 b1 b2 b3 b4 b5 b6 b7 b8 c0 c1 c2 c3 c4 c5 c6 c7 c8
        obtain ⟨a0, a1, a2, a3, a4, a5, a6, a7, a8, b0, b1, b2, b3, b4, b5, b6, b7, b8, c0, c1, c2, c3, c4, c5, c6, c7, c8, _⟩ := cells w3 hf3
        have cab := fun (W : World) (h : Fr X W) => key_compare_at a b wa wb oa ob h
        have cbc := fun (W : World) (h : Fr X W) => key_compare_at b c wb wc ob oc h
        have cac := fun (W : World) (h : Fr X W) => key_compare_at a c wa wc oa oc h
        have caa := fun (W : World) (h : Fr X W) => key_compare_at a a wa wa oa oa h
        rw [show cmpK a a = 0 from cmpI_eq rfl] at caa
        have hq := cmpK_zero wa wb oa ob
        have heq := key_eql wa wb
        have h3 : cmpK a b ≤ 0 → cmpK b c ≤ 0 → cmpK a c ≤ 0 := fun p q => by rw [cmpK_le] at *; omega
        generalize decide (a = b) = d at hq heq
        generalize cmpK a b = r1 at *
        generalize cmpK b c = r2 at *
        generalize cmpK a c = r3 at *
        clear wa wb wc oa ob oc cA cB cC
        go_wp2_with fail
        refine (cab _ hf3).mono ?_
        rintro e w4 ⟨rfl, hf4⟩
        clear a0 a1 a2 a3 a4 a5 a6 a7 a8 b0 b1 b2 b3 b4 b5 b6 b7 b8 c0 c1 c2 c3 c4 c5 c6 c7 c8
        obtain ⟨a0, a1, a2, a3, a4, a5, a6, a7, a8, b0, b1, b2, b3, b4, b5, b6, b7, b8, c0, c1, c2, c3, c4, c5, c6, c7, c8, _⟩ := cells w4 hf4
        by_cases h1 : r1 ≤ 0
        · have d1 : decide (r1 ≤ 0) = true := by simpa using h1
          go_wp2_with fail
          refine (cbc _ hf4).mono ?_
          rintro e w5 ⟨rfl, hf5⟩
          clear a0 a1 a2 a3 a4 a5 a6 a7 a8 b0 b1 b2 b3 b4 b5 b6 b7 b8 c0 c1 c2 c3 c4 c5 c6 c7 c8
          obtain ⟨a0, a1, a2, a3, a4, a5, a6, a7, a8, b0, b1, b2, b3, b4, b5, b6, b7, b8, c0, c1, c2, c3, c4, c5, c6, c7, c8, _⟩ := cells w5 hf5
          by_cases h2 : r2 ≤ 0
          · have d2 : decide (r2 ≤ 0) = true := by simpa using h2
            have d3 : decide (0 < r3) = false := by simpa using h3 h1 h2
            clear h3
            go_wp2_with fail
            refine (cac _ hf5).mono ?_
            rintro e w6 ⟨rfl, hf6⟩
            clear a0 a1 a2 a3 a4 a5 a6 a7 a8 b0 b1 b2 b3 b4 b5 b6 b7 b8 c0 c1 c2 c3 c4 c5 c6 c7 c8
            obtain ⟨a0, a1, a2, a3, a4, a5, a6, a7, a8, b0, b1, b2, b3, b4, b5, b6, b7, b8, c0, c1, c2, c3, c4, c5, c6, c7, c8, _⟩ := cells w6 hf6
            go_wp2_with fail
            have hfz := hf6
            clear a0 a1 a2 a3 a4 a5 a6 a7 a8 b0 b1 b2 b3 b4 b5 b6 b7 b8 c0 c1 c2 c3 c4 c5 c6 c7 c8
            go_region_held3 (fun w' => w'.cell? ⟨w.heap.size, 0, none⟩ = some (.int .i64 a.n) ∧ w'.cell? ⟨w.heap.size, 1, none⟩ = some (.int .u8 a.b0) ∧ w'.cell? ⟨w.heap.size, 2, none⟩ = some (.int .u8 a.b1) ∧ w'.cell? ⟨w.heap.size, 3, none⟩ = some (.int .u8 a.b2) ∧ w'.cell? ⟨w.heap.size, 4, none⟩ = some (.int .u8 a.b3) ∧ w'.cell? ⟨w.heap.size, 5, none⟩ = some (.int .u8 a.b4) ∧ w'.cell? ⟨w.heap.size, 6, none⟩ = some (.int .u8 a.b5) ∧ w'.cell? ⟨w.heap.size, 7, none⟩ = some (.int .u8 a.b6) ∧ w'.cell? ⟨w.heap.size, 8, none⟩ = some (.int .u8 a.b7) ∧ w'.cell? ⟨w.heap.size + 1, 0, none⟩ = some (.int .i64 b.n) ∧ w'.cell? ⟨w.heap.size + 1, 1, none⟩ = some (.int .u8 b.b0) ∧ w'.cell? ⟨w.heap.size + 1, 2, none⟩ = some (.int .u8 b.b1) ∧ w'.cell? ⟨w.heap.size + 1, 3, none⟩ = some (.int .u8 b.b2) ∧ w'.cell? ⟨w.heap.size + 1, 4, none⟩ = some (.int .u8 b.b3) ∧ w'.cell? ⟨w.heap.size + 1, 5, none⟩ = some (.int .u8 b.b4) ∧ w'.cell? ⟨w.heap.size + 1, 6, none⟩ = some (.int .u8 b.b5) ∧ w'.cell? ⟨w.heap.size + 1, 7, none⟩ = some (.int .u8 b.b6) ∧ w'.cell? ⟨w.heap.size + 1, 8, none⟩ = some (.int .u8 b.b7) ∧ w'.cell? ⟨w.heap.size + 1 + 1, 0, none⟩ = some (.int .i64 c.n) ∧ w'.cell? ⟨w.heap.size + 1 + 1, 1, none⟩ = some (.int .u8 c.b0) ∧ w'.cell? ⟨w.heap.size + 1 + 1, 2, none⟩ = some (.int .u8 c.b1) ∧ w'.cell? ⟨w.heap.size + 1 + 1, 3, none⟩ = some (.int .u8 c.b2) ∧ w'.cell? ⟨w.heap.size + 1 + 1, 4, none⟩ = some (.int .u8 c.b3) ∧ w'.cell? ⟨w.heap.size + 1 + 1, 5, none⟩ = some (.int .u8 c.b4) ∧ w'.cell? ⟨w.heap.size + 1 + 1, 6, none⟩ = some (.int .u8 c.b5) ∧ w'.cell? ⟨w.heap.size + 1 + 1, 7, none⟩ = some (.int .u8 c.b6) ∧ w'.cell? ⟨w.heap.size + 1 + 1, 8, none⟩ = some (.int .u8 c.b7) ∧ Fr X w')
              (first
                | exact cells _ (fr_drew hfz)
                | exact cells _ hz)
              (first
                | (go_at_call 24; (first | (with_reducible refine (cab _ ?_).mono ?_) | (with_reducible refine (caa _ ?_).mono ?_)); (go_split_ands; first | assumption | exact fr_drew hfz); rintro e w9 ⟨rfl, hz⟩)
                | (go_at_call 10; refine (awake_at (w0 := X) ?_).mono ?_; (go_split_ands; first | assumption | exact fr_drew hfz); rintro e w9 ⟨rfl, hz⟩))
            rename_i hH
            have hz9 := hH.2.2.2.2.2.2.2.2.2.2.2.2.2.2.2.2.2.2.2.2.2.2.2.2.2.2.2
            clear hH
            go_wp2
            go_ret
            exact ⟨rfl, fr_step hF hz9⟩
          · have d2 : decide (r2 ≤ 0) = false := by simpa using h2
            clear h3
            go_wp2_with fail
            have hfz := hf5
            clear a0 a1 a2 a3 a4 a5 a6 a7 a8 b0 b1 b2 b3 b4 b5 b6 b7 b8 c0 c1 c2 c3 c4 c5 c6 c7 c8
            go_region_held3 (fun w' => w'.cell? ⟨w.heap.size, 0, none⟩ = some (.int .i64 a.n) ∧ w'.cell? ⟨w.heap.size, 1, none⟩ = some (.int .u8 a.b0) ∧ w'.cell? ⟨w.heap.size, 2, none⟩ = some (.int .u8 a.b1) ∧ w'.cell? ⟨w.heap.size, 3, none⟩ = some (.int .u8 a.b2) ∧ w'.cell? ⟨w.heap.size, 4, none⟩ = some (.int .u8 a.b3) ∧ w'.cell? ⟨w.heap.size, 5, none⟩ = some (.int .u8 a.b4) ∧ w'.cell? ⟨w.heap.size, 6, none⟩ = some (.int .u8 a.b5) ∧ w'.cell? ⟨w.heap.size, 7, none⟩ = some (.int .u8 a.b6) ∧ w'.cell? ⟨w.heap.size, 8, none⟩ = some (.int .u8 a.b7) ∧ w'.cell? ⟨w.heap.size + 1, 0, none⟩ = some (.int .i64 b.n) ∧ w'.cell? ⟨w.heap.size + 1, 1, none⟩ = some (.int .u8 b.b0) ∧ w'.cell? ⟨w.heap.size + 1, 2, none⟩ = some (.int .u8 b.b1) ∧ w'.cell? ⟨w.heap.size + 1, 3, none⟩ = some (.int .u8 b.b2) ∧ w'.cell? ⟨w.heap.size + 1, 4, none⟩ = some (.int .u8 b.b3) ∧ w'.cell? ⟨w.heap.size + 1, 5, none⟩ = some (.int .u8 b.b4) ∧ w'.cell? ⟨w.heap.size + 1, 6, none⟩ = some (.int .u8 b.b5) ∧ w'.cell? ⟨w.heap.size + 1, 7, none⟩ = some (.int .u8 b.b6) ∧ w'.cell? ⟨w.heap.size + 1, 8, none⟩ = some (.int .u8 b.b7) ∧ w'.cell? ⟨w.heap.size + 1 + 1, 0, none⟩ = some (.int .i64 c.n) ∧ w'.cell? ⟨w.heap.size + 1 + 1, 1, none⟩ = some (.int .u8 c.b0) ∧ w'.cell? ⟨w.heap.size + 1 + 1, 2, none⟩ = some (.int .u8 c.b1) ∧ w'.cell? ⟨w.heap.size + 1 + 1, 3, none⟩ = some (.int .u8 c.b2) ∧ w'.cell? ⟨w.heap.size + 1 + 1, 4, none⟩ = some (.int .u8 c.b3) ∧ w'.cell? ⟨w.heap.size + 1 + 1, 5, none⟩ = some (.int .u8 c.b4) ∧ w'.cell? ⟨w.heap.size + 1 + 1, 6, none⟩ = some (.int .u8 c.b5) ∧ w'.cell? ⟨w.heap.size + 1 + 1, 7, none⟩ = some (.int .u8 c.b6) ∧ w'.cell? ⟨w.heap.size + 1 + 1, 8, none⟩ = some (.int .u8 c.b7) ∧ Fr X w')
              (first
                | exact cells _ (fr_drew hfz)
                | exact cells _ hz)
              (first
                | (go_at_call 24; (first | (with_reducible refine (cab _ ?_).mono ?_) | (with_reducible refine (caa _ ?_).mono ?_)); (go_split_ands; first | assumption | exact fr_drew hfz); rintro e w9 ⟨rfl, hz⟩)
                | (go_at_call 10; refine (awake_at (w0 := X) ?_).mono ?_; (go_split_ands; first | assumption | exact fr_drew hfz); rintro e w9 ⟨rfl, hz⟩))
            rename_i hH
            have hz9 := hH.2.2.2.2.2.2.2.2.2.2.2.2.2.2.2.2.2.2.2.2.2.2.2.2.2.2.2
            clear hH
            go_wp2
            go_ret
            exact ⟨rfl, fr_step hF hz9⟩
        · have d1 : decide (r1 ≤ 0) = false := by simpa using h1
          clear h3
          go_wp2_with fail
          have hfz := hf4
          clear a0 a1 a2 a3 a4 a5 a6 a7 a8 b0 b1 b2 b3 b4 b5 b6 b7 b8 c0 c1 c2 c3 c4 c5 c6 c7 c8
          go_region_held3 (fun w' => w'.cell? ⟨w.heap.size, 0, none⟩ = some (.int .i64 a.n) ∧ w'.cell? ⟨w.heap.size, 1, none⟩ = some (.int .u8 a.b0) ∧ w'.cell? ⟨w.heap.size, 2, none⟩ = some (.int .u8 a.b1) ∧ w'.cell? ⟨w.heap.size, 3, none⟩ = some (.int .u8 a.b2) ∧ w'.cell? ⟨w.heap.size, 4, none⟩ = some (.int .u8 a.b3) ∧ w'.cell? ⟨w.heap.size, 5, none⟩ = some (.int .u8 a.b4) ∧ w'.cell? ⟨w.heap.size, 6, none⟩ = some (.int .u8 a.b5) ∧ w'.cell? ⟨w.heap.size, 7, none⟩ = some (.int .u8 a.b6) ∧ w'.cell? ⟨w.heap.size, 8, none⟩ = some (.int .u8 a.b7) ∧ w'.cell? ⟨w.heap.size + 1, 0, none⟩ = some (.int .i64 b.n) ∧ w'.cell? ⟨w.heap.size + 1, 1, none⟩ = some (.int .u8 b.b0) ∧ w'.cell? ⟨w.heap.size + 1, 2, none⟩ = some (.int .u8 b.b1) ∧ w'.cell? ⟨w.heap.size + 1, 3, none⟩ = some (.int .u8 b.b2) ∧ w'.cell? ⟨w.heap.size + 1, 4, none⟩ = some (.int .u8 b.b3) ∧ w'.cell? ⟨w.heap.size + 1, 5, none⟩ = some (.int .u8 b.b4) ∧ w'.cell? ⟨w.heap.size + 1, 6, none⟩ = some (.int .u8 b.b5) ∧ w'.cell? ⟨w.heap.size + 1, 7, none⟩ = some (.int .u8 b.b6) ∧ w'.cell? ⟨w.heap.size + 1, 8, none⟩ = some (.int .u8 b.b7) ∧ w'.cell? ⟨w.heap.size + 1 + 1, 0, none⟩ = some (.int .i64 c.n) ∧ w'.cell? ⟨w.heap.size + 1 + 1, 1, none⟩ = some (.int .u8 c.b0) ∧ w'.cell? ⟨w.heap.size + 1 + 1, 2, none⟩ = some (.int .u8 c.b1) ∧ w'.cell? ⟨w.heap.size + 1 + 1, 3, none⟩ = some (.int .u8 c.b2) ∧ w'.cell? ⟨w.heap.size + 1 + 1, 4, none⟩ = some (.int .u8 c.b3) ∧ w'.cell? ⟨w.heap.size + 1 + 1, 5, none⟩ = some (.int .u8 c.b4) ∧ w'.cell? ⟨w.heap.size + 1 + 1, 6, none⟩ = some (.int .u8 c.b5) ∧ w'.cell? ⟨w.heap.size + 1 + 1, 7, none⟩ = some (.int .u8 c.b6) ∧ w'.cell? ⟨w.heap.size + 1 + 1, 8, none⟩ = some (.int .u8 c.b7) ∧ Fr X w')
            (first
              | exact cells _ (fr_drew hfz)
              | exact cells _ hz)
            (first
              | (go_at_call 24; (first | (with_reducible refine (cab _ ?_).mono ?_) | (with_reducible refine (caa _ ?_).mono ?_)); (go_split_ands; first | assumption | exact fr_drew hfz); rintro e w9 ⟨rfl, hz⟩)
              | (go_at_call 10; refine (awake_at (w0 := X) ?_).mono ?_; (go_split_ands; first | assumption | exact fr_drew hfz); rintro e w9 ⟨rfl, hz⟩))
          rename_i hH
          have hz9 := hH.2.2.2.2.2.2.2.2.2.2.2.2.2.2.2.2.2.2.2.2.2.2.2.2.2.2.2
          clear hH
          go_wp2
          go_ret
          exact ⟨rfl, fr_step hF hz9⟩
      · have oc' : okB c = false := by simpa using oc
        rw [oc'] at cC
        refine (cC _ hf2).mono ?_
        rintro e w3 ⟨rfl, hf3⟩
        clear a0 a1 a2 a3 a4 a5 a6 a7 a8 b0 b1 b2 b3 b4 b5 b6 b7 b8 c0 c1 c2 c3 c4 c5 c6 c7 c8
        go_wp2_with fail
        refine (awake_at (fr_step hF hf3)).mono ?_
        rintro e w4 ⟨rfl, hf4⟩
        go_wp2_with fail
        go_ret
        exact ⟨rfl, hf4⟩
    · have ob' : okB b = false := by simpa using ob
      rw [ob'] at cB
      refine (cB _ hf1).mono ?_
      rintro e w2 ⟨rfl, hf2⟩
      clear a0 a1 a2 a3 a4 a5 a6 a7 a8 b0 b1 b2 b3 b4 b5 b6 b7 b8 c0 c1 c2 c3 c4 c5 c6 c7 c8
      go_wp2_with fail
      refine (awake_at (fr_step hF hf2)).mono ?_
      rintro e w3 ⟨rfl, hf3⟩
      go_wp2_with fail
      go_ret
      exact ⟨rfl, hf3⟩
  · have oa' : okB a = false := by simpa using oa
    rw [oa'] at cA
    refine (cA _ (fr_refl X)).mono ?_
    rintro e w1 ⟨rfl, hf1⟩
    go_wp2_with fail
    refine (awake_at (fr_step hF hf1)).mono ?_
    rintro e w2 ⟨rfl, hf2⟩
    go_wp2_with fail
    go_ret
    exact ⟨rfl, hf2⟩
end Go.Proofs.Ytfjglbkolhadaaa
