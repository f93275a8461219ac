/- KeyTexts, walked. -/
import Derived.Test.YtfjglbkolhadaaaKeyP0
namespace Go.Proofs.Ytfjglbkolhadaaa
open Go.RowKit Go.Maps
set_option linter.unusedVariables false
theorem key_text_at {w0 W : World} (s : ByteArray) (hs : s.size ≤ 8) (hb : Fr w0 W) : Calls Try.prog 15 #[kv (ofS s)] W fun e w' => e = .returned (.string s) ∧ Fr w0 w' :=
  (key_text_yes (ofS s) (ofS_wf s hs) (ofS_ok s hs) W).mono fun _ _ ⟨he, hw⟩ => ⟨by rw [he, txt_ofS s hs], fr_step hb hw⟩
set_option maxRecDepth 100000 in
set_option maxHeartbeats 8000000 in
theorem keyTexts_core (s t : ByteArray) (ws : s.size ≤ maxLen) (wt : t.size ≤ maxLen) (w : World) : Calls Try.prog 5 #[.string s, .string t] w fun e w' => e = .returned (.bool true) ∧ Below w.heap.size w w' := by
  unfold maxLen at ws wt
  by_cases hs : s.size ≤ 8
  · have d1 : decide ((8 : Int) < (s.size : Int)) = false := by simp; omega
    by_cases ht : t.size ≤ 8
    · have d2 : decide ((8 : Int) < (t.size : Int)) = false := by simp; omega
      have cS := fun (W : World) => key_of_fits s hs W
      have cT := fun (W : World) => key_of_fits t ht W
      obtain ⟨q1, q2⟩ := cmp_texts hs ht _ _ 0 (by omega) rfl rfl (fun q hq => by omega)
      simp only [List.drop_zero] at q1 q2
      rw [← Lib.toList_data, ← Lib.toList_data] at q1 q2
      have hwa := ofS_wf s hs
      have hwb := ofS_wf t ht
      have hoa := ofS_ok s hs
      have hob := ofS_ok t ht
      have q3 := cmpK_zero hwa hwb hoa hob
      have heq := key_eql hwa hwb
      have hE : (s.toList == t.toList) = decide (ofS s = ofS t) := by
        rw [← q3, Bool.eq_iff_iff, beq_iff_eq, beq_iff_eq]; exact q2.symm
      have cK : ∀ W' W, Fr W' W → Calls Try.prog 13 #[kv (ofS s)] W fun e w' => e = .returned (.bool true) ∧ Fr W' w' := fun W' W h => by have h2 := key_check_at (ofS s) hwa h; rwa [hoa] at h2
      have cab : ∀ W, Calls Try.prog 24 #[kv (ofS s), kv (ofS t)] W fun e w' => e = .returned (.int .i64 (cmpK (ofS s) (ofS t))) ∧ Fr W w' := fun W => key_compare_at _ _ hwa hwb hoa hob (fr_refl W)
      have cTs : ∀ W' W, Fr W' W → Calls Try.prog 15 #[kv (ofS s)] W fun e w' => e = .returned (.string s) ∧ Fr W' w' := fun W' W h => key_text_at s hs h
      have cTt : ∀ W' W, Fr W' W → Calls Try.prog 15 #[kv (ofS t)] W fun e w' => e = .returned (.string t) ∧ Fr W' w' := fun W' W h => key_text_at t ht h
      have q4 : decide (0 < cmpK (ofS s) (ofS t)) = !(Op.bytesLess s.toList t.toList || decide (ofS s = ofS t)) := by
        rw [← q1, ← q3, Bool.eq_iff_iff]
        simp
        omega
      clear q2 q3 hwa hwb hoa hob
      generalize cmpK (ofS s) (ofS t) = r at cab q1 q4
      generalize decide (ofS s = ofS t) = E at heq hE q4
      generalize hL : Op.bytesLess s.toList t.toList = L at q1 q4
      generalize ofS s = a at cS heq cK cab cTs
      generalize ofS t = b at cT heq cab cTt
      go_enter Try.func5, Try.ntmps5
      go_wp2_with fail
      refine (cS _).mono ?_
      rintro e w1 ⟨rfl, hf1⟩
      go_wp2_with fail
      refine (cT _).mono ?_
      rintro e w2 ⟨rfl, hf2⟩
      have hA2 := (Arr.new w1 (kc a).toArray 24).below hf2 (by simp)
      have hF2 := fr_step (fr_new hf1 _) hf2
      go_wp2_with (first | (refine wpList_load_row rfl 24 (.tmp 5) rfl w1.heap.size rfl 24 (kc a).toArray (0, 0) _ (hA2.alloc _) Try.underlying24 rfl key_info ?_) | fail)
      refine (cab _).mono ?_
      rintro e w3 ⟨rfl, hf3⟩
      have hA3 := (hA2.alloc (.cells (kc b).toArray 24)).below hf3 (hA2.alloc _).lt
      have hB3 := (Arr.new w2 (kc b).toArray 24).below hf3 (by simp)
      have hF3 := fr_step (fr_new hF2 _) hf3
      clear hf1 hf2 hf3 hA2 hF2 cS cT cab
      have cells : ∀ W, Fr w3 W → W.cell? ⟨w1.heap.size, 0, none⟩ = some (.int .i64 a.n) ∧ W.cell? ⟨w1.heap.size, 1, none⟩ = some (.int .u8 a.b0) ∧ W.cell? ⟨w1.heap.size, 2, none⟩ = some (.int .u8 a.b1) ∧ W.cell? ⟨w1.heap.size, 3, none⟩ = some (.int .u8 a.b2) ∧ W.cell? ⟨w1.heap.size, 4, none⟩ = some (.int .u8 a.b3) ∧ W.cell? ⟨w1.heap.size, 5, none⟩ = some (.int .u8 a.b4) ∧ W.cell? ⟨w1.heap.size, 6, none⟩ = some (.int .u8 a.b5) ∧ W.cell? ⟨w1.heap.size, 7, none⟩ = some (.int .u8 a.b6) ∧ W.cell? ⟨w1.heap.size, 8, none⟩ = some (.int .u8 a.b7) ∧ W.cell? ⟨w2.heap.size, 0, none⟩ = some (.int .i64 b.n) ∧ W.cell? ⟨w2.heap.size, 1, none⟩ = some (.int .u8 b.b0) ∧ W.cell? ⟨w2.heap.size, 2, none⟩ = some (.int .u8 b.b1) ∧ W.cell? ⟨w2.heap.size, 3, none⟩ = some (.int .u8 b.b2) ∧ W.cell? ⟨w2.heap.size, 4, none⟩ = some (.int .u8 b.b3) ∧ W.cell? ⟨w2.heap.size, 5, none⟩ = some (.int .u8 b.b4) ∧ W.cell? ⟨w2.heap.size, 6, none⟩ = some (.int .u8 b.b5) ∧ W.cell? ⟨w2.heap.size, 7, none⟩ = some (.int .u8 b.b6) ∧ W.cell? ⟨w2.heap.size, 8, none⟩ = some (.int .u8 b.b7) ∧ Fr w3 W := fun W h => by
        obtain ⟨p0_0, p0_1, p0_2, p0_3, p0_4, p0_5, p0_6, p0_7, p0_8⟩ := (hA3.below h hA3.lt).cells9
        obtain ⟨p1_0, p1_1, p1_2, p1_3, p1_4, p1_5, p1_6, p1_7, p1_8⟩ := (hB3.below h hB3.lt).cells9
        exact ⟨p0_0, p0_1, p0_2, p0_3, p0_4, p0_5, p0_6, p0_7, p0_8, p1_0, p1_1, p1_2, p1_3, p1_4, p1_5, p1_6, p1_7, p1_8, h⟩
      obtain ⟨a0, a1, a2, a3, a4, a5, a6, a7, a8, b0, b1, b2, b3, b4, b5, b6, b7, b8, _⟩ := cells w3 (fr_refl w3)
      go_wp2_with fail
      refine (cK w3 _ (fr_refl w3)).mono ?_
      rintro e w4 ⟨rfl, hf4⟩
      clear a0 a1 a2 a3 a4 a5 a6 a7 a8 b0 b1 b2 b3 b4 b5 b6 b7 b8
      obtain ⟨a0, a1, a2, a3, a4, a5, a6, a7, a8, b0, b1, b2, b3, b4, b5, b6, b7, b8, _⟩ := cells w4 hf4
      go_wp2_with fail
      refine (cTs w3 _ hf4).mono ?_
      rintro e w5 ⟨rfl, hf5⟩
      clear a0 a1 a2 a3 a4 a5 a6 a7 a8 b0 b1 b2 b3 b4 b5 b6 b7 b8
      obtain ⟨a0, a1, a2, a3, a4, a5, a6, a7, a8, b0, b1, b2, b3, b4, b5, b6, b7, b8, _⟩ := cells w5 hf5
      go_wp2_with fail
      refine (cTt w3 _ hf5).mono ?_
      rintro e w6 ⟨rfl, hf6⟩
      clear a0 a1 a2 a3 a4 a5 a6 a7 a8 b0 b1 b2 b3 b4 b5 b6 b7 b8
      obtain ⟨a0, a1, a2, a3, a4, a5, a6, a7, a8, b0, b1, b2, b3, b4, b5, b6, b7, b8, _⟩ := cells w6 hf6
      go_wp2_with fail
      refine (awake_at hf6).mono ?_
      rintro e w7 ⟨rfl, hf7⟩
      go_wp2_with fail
      go_ret
      exact ⟨rfl, fr_step hF3 hf7⟩
    · have d2 : decide ((8 : Int) < (t.size : Int)) = true := by simp; omega
      go_enter Try.func5, Try.ntmps5
      go_wp2_with fail
      refine (awake _).mono ?_
      rintro e w1 ⟨rfl, hf1⟩
      go_wp2_with fail
      go_ret
      exact ⟨rfl, hf1⟩
  · have d1 : decide ((8 : Int) < (s.size : Int)) = true := by simp; omega
    go_enter Try.func5, Try.ntmps5
    go_wp2_with fail
    refine (awake _).mono ?_
    rintro e w1 ⟨rfl, hf1⟩
    go_wp2_with fail
    go_ret
    exact ⟨rfl, hf1⟩
end Go.Proofs.Ytfjglbkolhadaaa
