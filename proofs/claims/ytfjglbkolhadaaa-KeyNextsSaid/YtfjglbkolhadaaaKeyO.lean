/- KeyNexts, walked. -/
import Derived.Test.YtfjglbkolhadaaaKeyN
namespace Go.Proofs.Ytfjglbkolhadaaa
open Go.RowKit Go.Maps
set_option linter.unusedVariables false
/-- A key of nothing but greatest bytes, as far as place j. -/
def lastB (a : RK) (j : Nat) : Bool := decide (a.n = 8 ∧ ∀ t, t < j → a.at t = 255)
theorem lastB_zero (a : RK) : (a.n == 8) = lastB a 0 := by
  unfold lastB
  rw [Bool.eq_iff_iff, beq_iff_eq, decide_eq_true_iff]
  exact ⟨fun h => ⟨h, fun t ht => by omega⟩, fun h => h.1⟩
theorem lastB_no {a : RK} {j : Nat} (h : lastB a j = false) : lastB a (j + 1) = false := by
  unfold lastB at *
  simp only [decide_eq_false_iff_not] at *
  exact fun e => h ⟨e.1, fun t ht => e.2 t (by omega)⟩
theorem lastB_yes {a : RK} {j : Nat} (h : lastB a j = true) : lastB a (j + 1) = (a.at j == 255) := by
  unfold lastB at *
  simp only [decide_eq_true_iff] at h
  rw [Bool.eq_iff_iff, beq_iff_eq, decide_eq_true_iff]
  exact ⟨fun e => e.2 j (by omega), fun e => ⟨h.1, fun t ht => by
    by_cases e2 : t = j
    · rw [e2]; exact e
    · exact h.2 t (by omega)⟩⟩
set_option maxRecDepth 100000 in
set_option maxHeartbeats 8000000 in
theorem keyNexts_core (a b : RK) (wa : a.wf) (wb : b.wf) (w : World) : Calls Try.prog 6 #[kv a, kv b] w fun e w' => e = .returned (.bool true) ∧ Below w.heap.size w w' := by
  go_enter Try.func6, Try.ntmps6
  go_wp2_with fail
  generalize hX : World.alloc (World.alloc w _) _ = X
  have hA : Arr X w.heap.size 24 (kc a).toArray := by rw [← hX]; exact (Arr.new w _ _).alloc _
  have hB : Arr X (w.heap.size + 1) 24 (kc b).toArray := by rw [← hX]; exact arr_new_at _ _ _ _ (by simp)
  have hF : Fr w X := by rw [← hX]; exact fr_new (fr_new (fr_refl w) _) _
  clear hX
  have cells : ∀ W, Fr X W → W.cell? ⟨w.heap.size, 0, none⟩ = some (.int .i64 a.n) ∧ W.cell? ⟨w.heap.size, 1, none⟩ = some (.int .u8 a.b0) ∧ W.cell? ⟨w.heap.size, 2, none⟩ = some (.int .u8 a.b1) ∧ W.cell? ⟨w.heap.size, 3, none⟩ = some (.int .u8 a.b2) ∧ W.cell? ⟨w.heap.size, 4, none⟩ = some (.int .u8 a.b3) ∧ W.cell? ⟨w.heap.size, 5, none⟩ = some (.int .u8 a.b4) ∧ W.cell? ⟨w.heap.size, 6, none⟩ = some (.int .u8 a.b5) ∧ W.cell? ⟨w.heap.size, 7, none⟩ = some (.int .u8 a.b6) ∧ W.cell? ⟨w.heap.size, 8, none⟩ = some (.int .u8 a.b7) ∧ W.cell? ⟨w.heap.size + 1, 0, none⟩ = some (.int .i64 b.n) ∧ W.cell? ⟨w.heap.size + 1, 1, none⟩ = some (.int .u8 b.b0) ∧ W.cell? ⟨w.heap.size + 1, 2, none⟩ = some (.int .u8 b.b1) ∧ W.cell? ⟨w.heap.size + 1, 3, none⟩ = some (.int .u8 b.b2) ∧ W.cell? ⟨w.heap.size + 1, 4, none⟩ = some (.int .u8 b.b3) ∧ W.cell? ⟨w.heap.size + 1, 5, none⟩ = some (.int .u8 b.b4) ∧ W.cell? ⟨w.heap.size + 1, 6, none⟩ = some (.int .u8 b.b5) ∧ W.cell? ⟨w.heap.size + 1, 7, none⟩ = some (.int .u8 b.b6) ∧ W.cell? ⟨w.heap.size + 1, 8, none⟩ = some (.int .u8 b.b7) ∧ Fr X W := fun W h => by
    obtain ⟨p0_0, p0_1, p0_2, p0_3, p0_4, p0_5, p0_6, p0_7, p0_8⟩ := (hA.below h hA.lt).cells9
    obtain ⟨p1_0, p1_1, p1_2, p1_3, p1_4, p1_5, p1_6, p1_7, p1_8⟩ := (hB.below h hB.lt).cells9
    exact ⟨p0_0, p0_1, p0_2, p0_3, p0_4, p0_5, p0_6, p0_7, p0_8, p1_0, p1_1, p1_2, p1_3, p1_4, p1_5, p1_6, p1_7, p1_8, h⟩
  have cA := fun (W : World) (h : Fr X W) => ref_check_at a wa h
  have cB := fun (W : World) (h : Fr X W) => ref_check_at b wb h
  by_cases oa : okB a = true
  · rw [oa] at cA
    refine (cA _ (fr_refl X)).mono ?_
    rintro e w1 ⟨rfl, hf1⟩
    obtain ⟨a0, a1, a2, a3, a4, a5, a6, a7, a8, b0, b1, b2, b3, b4, b5, b6, b7, b8, _⟩ := cells w1 hf1
    go_wp2_with fail
    by_cases ob : okB b = true
    · rw [ob] at cB
      obtain ⟨n, okn, hnv, hn⟩ : ∃ n okn, nextV (nextK a) = .tuple #[kv n, .bool okn] ∧ ((okn = false ∧ n = zeroK ∧ lastB a 8 = true ∧ code b ≤ code a) ∨ (okn = true ∧ n.wf ∧ okB n = true ∧ lastB a 8 = false ∧ code a < code n ∧ (code a < code b → code n ≤ code b))) := by
        cases h : nextK a with
        | none =>
          obtain ⟨h1, h2⟩ := next_none wa oa h
          exact ⟨zeroK, false, rfl, .inl ⟨rfl, rfl, by unfold lastB; simpa using h1, h2 b wb ob⟩⟩
        | some n =>
          obtain ⟨h1, h2, h3, h4, h5⟩ := next_some wa oa h
          exact ⟨n, true, rfl, .inr ⟨rfl, h1, h2, by unfold lastB; simpa using h5, h3, h4 b wb ob⟩⟩
      have cN := fun (W : World) (h : Fr X W) => key_next_at a wa oa h
      rw [hnv] at cN
      clear hnv
      have Hn := keep hn
      clear hn
      refine (cB _ hf1).mono ?_
      rintro e w2 ⟨rfl, hf2⟩
      clear a0 a1 a2 a3 a4 a5 a6 a7 a8 b0 b1 b2 b3 b4 b5 b6 b7 b8
      obtain ⟨a0, a1, a2, a3, a4, a5, a6, a7, a8, b0, b1, b2, b3, b4, b5, b6, b7, b8, _⟩ := cells w2 hf2
      go_wp2_with fail
      refine (cN _ hf2).mono ?_
      rintro e w3 ⟨rfl, hf3⟩
      clear a0 a1 a2 a3 a4 a5 a6 a7 a8 b0 b1 b2 b3 b4 b5 b6 b7 b8
      have hA3 := hA.below hf3 hA.lt
      have hB3 := hB.below hf3 hB.lt
      have hlt1 := hA3.lt
      have hlt2 := hB3.lt
      have l0 := lastB_zero a
      obtain ⟨a0, a1, a2, a3, a4, a5, a6, a7, a8⟩ := (hA3.alloc (.cells (kc n).toArray 24)).cells9
      clear a1 a2 a3 a4 a5 a6 a7 a8
      go_wp2_with fail
      generalize hX : World.alloc w3 _ = Z
      have hA5 : Arr Z w.heap.size 24 (kc a).toArray := by rw [← hX]; exact hA3.alloc _
      have hB5 : Arr Z (w.heap.size + 1) 24 (kc b).toArray := by rw [← hX]; exact hB3.alloc _
      have hN5 : Arr Z w3.heap.size 24 (kc n).toArray := by rw [← hX]; exact Arr.new w3 _ _
      have hF5 : Fr w Z := by rw [← hX]; exact fr_new (fr_step hF hf3) _
      clear hX hA3 hB3 a0 l0 cells cA cB cN hA hB hF hf1 hf2 hf3
      have cz : ∀ W, Fr Z W → W.cell? ⟨w.heap.size, 0, none⟩ = some (.int .i64 a.n) ∧ W.cell? ⟨w.heap.size, 1, none⟩ = some (.int .u8 a.b0) ∧ W.cell? ⟨w.heap.size, 2, none⟩ = some (.int .u8 a.b1) ∧ W.cell? ⟨w.heap.size, 3, none⟩ = some (.int .u8 a.b2) ∧ W.cell? ⟨w.heap.size, 4, none⟩ = some (.int .u8 a.b3) ∧ W.cell? ⟨w.heap.size, 5, none⟩ = some (.int .u8 a.b4) ∧ W.cell? ⟨w.heap.size, 6, none⟩ = some (.int .u8 a.b5) ∧ W.cell? ⟨w.heap.size, 7, none⟩ = some (.int .u8 a.b6) ∧ W.cell? ⟨w.heap.size, 8, none⟩ = some (.int .u8 a.b7) ∧ W.cell? ⟨w.heap.size + 1, 0, none⟩ = some (.int .i64 b.n) ∧ W.cell? ⟨w.heap.size + 1, 1, none⟩ = some (.int .u8 b.b0) ∧ W.cell? ⟨w.heap.size + 1, 2, none⟩ = some (.int .u8 b.b1) ∧ W.cell? ⟨w.heap.size + 1, 3, none⟩ = some (.int .u8 b.b2) ∧ W.cell? ⟨w.heap.size + 1, 4, none⟩ = some (.int .u8 b.b3) ∧ W.cell? ⟨w.heap.size + 1, 5, none⟩ = some (.int .u8 b.b4) ∧ W.cell? ⟨w.heap.size + 1, 6, none⟩ = some (.int .u8 b.b5) ∧ W.cell? ⟨w.heap.size + 1, 7, none⟩ = some (.int .u8 b.b6) ∧ W.cell? ⟨w.heap.size + 1, 8, none⟩ = some (.int .u8 b.b7) ∧ W.cell? ⟨w3.heap.size, 0, none⟩ = some (.int .i64 n.n) ∧ W.cell? ⟨w3.heap.size, 1, none⟩ = some (.int .u8 n.b0) ∧ W.cell? ⟨w3.heap.size, 2, none⟩ = some (.int .u8 n.b1) ∧ W.cell? ⟨w3.heap.size, 3, none⟩ = some (.int .u8 n.b2) ∧ W.cell? ⟨w3.heap.size, 4, none⟩ = some (.int .u8 n.b3) ∧ W.cell? ⟨w3.heap.size, 5, none⟩ = some (.int .u8 n.b4) ∧ W.cell? ⟨w3.heap.size, 6, none⟩ = some (.int .u8 n.b5) ∧ W.cell? ⟨w3.heap.size, 7, none⟩ = some (.int .u8 n.b6) ∧ W.cell? ⟨w3.heap.size, 8, none⟩ = some (.int .u8 n.b7) ∧ Fr Z W := fun W h => by
        obtain ⟨p0_0, p0_1, p0_2, p0_3, p0_4, p0_5, p0_6, p0_7, p0_8⟩ := (hA5.below h hA5.lt).cells9
        obtain ⟨p1_0, p1_1, p1_2, p1_3, p1_4, p1_5, p1_6, p1_7, p1_8⟩ := (hB5.below h hB5.lt).cells9
        obtain ⟨p2_0, p2_1, p2_2, p2_3, p2_4, p2_5, p2_6, p2_7, p2_8⟩ := (hN5.below h hN5.lt).cells9
        exact ⟨p0_0, p0_1, p0_2, p0_3, p0_4, p0_5, p0_6, p0_7, p0_8, p1_0, p1_1, p1_2, p1_3, p1_4, p1_5, p1_6, p1_7, p1_8, p2_0, p2_1, p2_2, p2_3, p2_4, p2_5, p2_6, p2_7, p2_8, h⟩
      go_loop [7, 8] (fun l i => ∃ j : Nat, j ≤ 8 ∧ i = .int .i64 j ∧ l = .bool (lastB a j)) (fun _ i => 8 - (intOf i).toNat)
      case atStart => exact ⟨0, by omega, rfl, rfl⟩
      case round =>
        obtain ⟨j, hj, rfl, rfl⟩ := hrel
        by_cases hlt : j < 8
        · have hc : Z.cell? ⟨w.heap.size, 1 + j, none⟩ = some (.int .u8 (a.at j)) := (hA5.cell (1 + j)).trans (kc_at a j hlt)
          cases hl : lastB a j with
          | false =>
            have Hl := keep (lastB_no hl)
            clear hl
            go_wp2_with fail
            go_round
            case rel => exact ⟨j + 1, by omega, by go_num, by rw [Hl.out]⟩
            case measure => simp [intOf]; omega
          | true =>
            have Hl := keep (lastB_yes hl)
            clear hl
            go_wp2_with fail
            go_round
            case rel => exact ⟨j + 1, by omega, by go_num, by rw [Hl.out]⟩
            case measure => simp [intOf]; omega
        · obtain rfl : j = 8 := by omega
          clear hj hlt
          rcases Hn.out with ⟨rfl, rfl, hl, hle⟩ | ⟨rfl, wn, on, hl, hlt, hnx⟩
          · rw [hl]
            have heq0 : ∀ W, (binOp .eql 24 (kv zeroK) (kv zeroK)).run Try.prog W = .ok (.bool true) W := fun W => by simpa using key_eql zeroK_wf zeroK_wf W
            have heq : ∀ W, (binOp .eql 24 (.agg #[.int .i64 0, .int .u8 0, .int .u8 0, .int .u8 0, .int .u8 0, .int .u8 0, .int .u8 0, .int .u8 0, .int .u8 0]) (.agg #[.int .i64 0, .int .u8 0, .int .u8 0, .int .u8 0, .int .u8 0, .int .u8 0, .int .u8 0, .int .u8 0, .int .u8 0])).run Try.prog W = .ok (.bool true) W := heq0
            clear heq0
            have hcz := cmpK_le (a := b) (b := a)
            have cba := fun (W : World) (h : Fr Z W) => key_compare_at b a wb wa ob oa h
            have d1 : decide (cmpK b a ≤ 0) = true := by simpa using hcz.2 hle
            generalize cmpK b a = r at cba d1
            clear hl hle hcz Hn
            obtain ⟨a0, a1, a2, a3, a4, a5, a6, a7, a8, b0, b1, b2, b3, b4, b5, b6, b7, b8, n0, n1, n2, n3, n4, n5, n6, n7, n8, _⟩ := cz Z (fr_refl Z)
            obtain ⟨m0, m1, m2, m3, m4, m5, m6, m7, m8⟩ : Z.cell? ⟨w3.heap.size, 0, none⟩ = some (.int .i64 0) ∧ Z.cell? ⟨w3.heap.size, 1, none⟩ = some (.int .u8 0) ∧ Z.cell? ⟨w3.heap.size, 2, none⟩ = some (.int .u8 0) ∧ Z.cell? ⟨w3.heap.size, 3, none⟩ = some (.int .u8 0) ∧ Z.cell? ⟨w3.heap.size, 4, none⟩ = some (.int .u8 0) ∧ Z.cell? ⟨w3.heap.size, 5, none⟩ = some (.int .u8 0) ∧ Z.cell? ⟨w3.heap.size, 6, none⟩ = some (.int .u8 0) ∧ Z.cell? ⟨w3.heap.size, 7, none⟩ = some (.int .u8 0) ∧ Z.cell? ⟨w3.heap.size, 8, none⟩ = some (.int .u8 0) := ⟨n0, n1, n2, n3, n4, n5, n6, n7, n8⟩
            clear cz hN5 n0 n1 n2 n3 n4 n5 n6 n7 n8
            go_wp2_with fail
            refine (cba _ (fr_refl Z)).mono ?_
            rintro e w4 ⟨rfl, hf4⟩
            go_wp2_with fail
            refine (awake_at hf4).mono ?_
            rintro e w5 ⟨rfl, hf5⟩
            go_wp2_with fail
            go_ret
            exact ⟨rfl, fr_step hF5 hf5⟩
          · rw [hl]
            have cK := fun (W : World) (h : Fr Z W) => key_check_at n wn h
            rw [on] at cK
            have can := fun (W : World) (h : Fr Z W) => key_compare_at a n wa wn oa on h
            have cab := fun (W : World) (h : Fr Z W) => key_compare_at a b wa wb oa ob h
            have cnb := fun (W : World) (h : Fr Z W) => key_compare_at n b wn wb on ob h
            have d1 : decide (cmpK a n < 0) = true := by simpa using cmpK_lt.2 hlt
            have d2 : cmpK a b < 0 → cmpK n b ≤ 0 := fun h => cmpK_le.2 (hnx (cmpK_lt.1 h))
            generalize cmpK a n = r1 at can d1
            generalize cmpK a b = r2 at cab d2
            generalize cmpK n b = r3 at cnb d2
            clear hl hlt hnx Hn wn on
            obtain ⟨a0, a1, a2, a3, a4, a5, a6, a7, a8, b0, b1, b2, b3, b4, b5, b6, b7, b8, n0, n1, n2, n3, n4, n5, n6, n7, n8, _⟩ := cz Z (fr_refl Z)
            go_wp2_with fail
            refine (cK _ (fr_refl Z)).mono ?_
            rintro e w4 ⟨rfl, hf4⟩
            clear a0 a1 a2 a3 a4 a5 a6 a7 a8 b0 b1 b2 b3 b4 b5 b6 b7 b8 n0 n1 n2 n3 n4 n5 n6 n7 n8
            obtain ⟨a0, a1, a2, a3, a4, a5, a6, a7, a8, b0, b1, b2, b3, b4, b5, b6, b7, b8, n0, n1, n2, n3, n4, n5, n6, n7, n8, _⟩ := cz w4 hf4
            go_wp2_with fail
            refine (can _ hf4).mono ?_
            rintro e w5 ⟨rfl, hf5⟩
            clear a0 a1 a2 a3 a4 a5 a6 a7 a8 b0 b1 b2 b3 b4 b5 b6 b7 b8 n0 n1 n2 n3 n4 n5 n6 n7 n8
            obtain ⟨a0, a1, a2, a3, a4, a5, a6, a7, a8, b0, b1, b2, b3, b4, b5, b6, b7, b8, n0, n1, n2, n3, n4, n5, n6, n7, n8, _⟩ := cz w5 hf5
            go_wp2_with fail
            refine (cab _ hf5).mono ?_
            rintro e w6 ⟨rfl, hf6⟩
            clear a0 a1 a2 a3 a4 a5 a6 a7 a8 b0 b1 b2 b3 b4 b5 b6 b7 b8 n0 n1 n2 n3 n4 n5 n6 n7 n8
            obtain ⟨a0, a1, a2, a3, a4, a5, a6, a7, a8, b0, b1, b2, b3, b4, b5, b6, b7, b8, n0, n1, n2, n3, n4, n5, n6, n7, n8, _⟩ := cz w6 hf6
            by_cases h2 : 0 ≤ r2
            · have d3 : decide (0 ≤ r2) = true := by simpa using h2
              go_wp2_with fail
              refine (awake_at hf6).mono ?_
              rintro e w7 ⟨rfl, hf7⟩
              go_wp2_with fail
              go_ret
              exact ⟨rfl, fr_step hF5 hf7⟩
            · have d3 : decide (0 ≤ r2) = false := by simpa using h2
              have d4 : decide (r3 ≤ 0) = true := by simpa using d2 (by omega)
              clear d2
              go_wp2_with fail
              refine (cnb _ hf6).mono ?_
              rintro e w7 ⟨rfl, hf7⟩
              clear a0 a1 a2 a3 a4 a5 a6 a7 a8 b0 b1 b2 b3 b4 b5 b6 b7 b8 n0 n1 n2 n3 n4 n5 n6 n7 n8
              go_wp2_with fail
              refine (awake_at hf7).mono ?_
              rintro e w8 ⟨rfl, hf8⟩
              go_wp2_with fail
              go_ret
              exact ⟨rfl, fr_step hF5 hf8⟩
    · have ob' : okB b = false := by simpa using ob
      rw [ob'] at cB
      refine (cB _ hf1).mono ?_
      rintro e w2 ⟨rfl, hf2⟩
      clear a0 a1 a2 a3 a4 a5 a6 a7 a8 b0 b1 b2 b3 b4 b5 b6 b7 b8
      go_wp2_with fail
      refine (awake_at (fr_step hF hf2)).mono ?_
      rintro e w3 ⟨rfl, hf3⟩
      go_wp2_with fail
      go_ret
      exact ⟨rfl, hf3⟩
  · have oa' : okB a = false := by simpa using oa
    rw [oa'] at cA
    refine (cA _ (fr_refl X)).mono ?_
    rintro e w1 ⟨rfl, hf1⟩
    go_wp2_with fail
    refine (awake_at (fr_step hF hf1)).mono ?_
    rintro e w2 ⟨rfl, hf2⟩
    go_wp2_with fail
    go_ret
    exact ⟨rfl, hf2⟩
end Go.Proofs.Ytfjglbkolhadaaa
