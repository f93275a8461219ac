/- What the functions of layer 3 come to, two: 'Check', of the program and of the document. -/
import Derived.Test.YtnfoebcfhldemaaKey1
import Derived.Test.YtnfoebcfhldemaaKeyA
import Derived.Deep.RegionHeld3
import Derived.BigQuiet
import Derived.Deep.QuietTactic
import Derived.Outline
namespace Go.Proofs.Ytnfoebcfhldemaa
set_option maxRecDepth 100000
open Go.RowKit
set_option linter.unusedVariables false
def okB (k : RK) : Bool := decide (0 ≤ k.n) && decide (k.n ≤ 8) && decide (k = firstK k k.n.toNat)
theorem firstK_wf (k : RK) (h : k.wf) (m : Nat) (hm : m ≤ 8) : (firstK k m).wf := by
  have z : Byt 0 := by unfold Byt; omega
  constructor
  · simp [firstK]; omega
  all_goals (simp only [firstK]; split <;> first | exact h.h0 | exact h.h1 | exact h.h2 | exact h.h3 | exact h.h4 | exact h.h5 | exact h.h6 | exact h.h7 | exact z)
theorem fr_drewN {a w : World} (h : Fr a w) (n : Nat) : Fr a (w.drewN n) := h.trans ⟨rfl, rfl, rfl, Nat.le_refl _, fun _ _ => rfl⟩
set_option maxRecDepth 100000 in
set_option maxHeartbeats 1000000 in
theorem key_check_lo (k : RK) (hn : k.n < 0) (w : World) : Calls Try.prog 75 #[kv k] w fun e w' => e = .returned (.bool false) ∧ Below w.heap.size w w' := by
  have h1 : decide (0 ≤ k.n) = false := by simpa using hn
  go_enter Try.func75, Try.ntmps75
  go_wp2_with fail
  go_quiet (fail)
  go_wp2
  go_ret
  exact ⟨rfl, fr_drewN (fr_new (fr_refl w) _) _⟩
set_option maxRecDepth 100000 in
set_option maxHeartbeats 1000000 in
theorem key_check_hi (k : RK) (hn : 8 < k.n) (w : World) : Calls Try.prog 75 #[kv k] w fun e w' => e = .returned (.bool false) ∧ Below w.heap.size w w' := by
  have h0 : decide (0 ≤ k.n) = true := by simp; omega
  have h1 : decide (k.n ≤ 8) = false := by simp; omega
  go_enter Try.func75, Try.ntmps75
  go_wp2_with fail
  go_quiet (fail)
  go_wp2
  go_ret
  exact ⟨rfl, fr_drewN (fr_new (fr_refl w) _) _⟩
set_option maxRecDepth 100000 in
set_option maxHeartbeats 4000000 in
theorem key_check_in (k : RK) (hw : k.wf) (m : Nat) (hm : m ≤ 8) (hn : k.n = (m : Int)) (w : World) : Calls Try.prog 75 #[kv k] w fun e w' => e = .returned (.bool (decide (k = firstK k m))) ∧ Below w.heap.size w w' := by
  have heq := fun W => key_eql hw (firstK_wf k hw m hm) W
  have hc := fun W => key_first k m hm W
  have hfn : kv (firstK k m) = kv (firstK k m) := rfl
  generalize hd : decide (k = firstK k m) = d at heq ⊢
  clear hd
  obtain ⟨n, b0, b1, b2, b3, b4, b5, b6, b7⟩ := k
  simp only at hn
  subst hn
  generalize hf : firstK ⟨(m : Int), b0, b1, b2, b3, b4, b5, b6, b7⟩ m = f at heq hc
  clear hf hfn hw
  have hm1 : (m : Int) ≤ 8 := by omega
  go_enter Try.func75, Try.ntmps75
  go_wp2_with fail
  have hF : Fr w (w.alloc (.cells (kc ⟨(m : Int), b0, b1, b2, b3, b4, b5, b6, b7⟩).toArray 27)) := fr_new (fr_refl w) _
  have hz : w.heap.size < (w.alloc (.cells (kc ⟨(m : Int), b0, b1, b2, b3, b4, b5, b6, b7⟩).toArray 27)).heap.size := by simp
  go_region_held3 (fun w' => w'.cell? ⟨w.heap.size, 0, none⟩ = some (.int .i64 m) ∧ w'.cell? ⟨w.heap.size, 1, none⟩ = some (.int .u8 b0) ∧ w'.cell? ⟨w.heap.size, 2, none⟩ = some (.int .u8 b1) ∧ w'.cell? ⟨w.heap.size, 3, none⟩ = some (.int .u8 b2) ∧ w'.cell? ⟨w.heap.size, 4, none⟩ = some (.int .u8 b3) ∧ w'.cell? ⟨w.heap.size, 5, none⟩ = some (.int .u8 b4) ∧ w'.cell? ⟨w.heap.size, 6, none⟩ = some (.int .u8 b5) ∧ w'.cell? ⟨w.heap.size, 7, none⟩ = some (.int .u8 b6) ∧ w'.cell? ⟨w.heap.size, 8, none⟩ = some (.int .u8 b7) ∧ Fr w w' ∧ w.heap.size < w'.heap.size)
    (first
      | (go_split_ands; exact ⟨by simp, by simp, by simp, by simp, by simp, by simp, by simp, by simp, by simp, fr_drew hF, hz⟩)
      | (go_split_ands
         refine ⟨?_, ?_, ?_, ?_, ?_, ?_, ?_, ?_, ?_, ?_, ?_⟩
         all_goals first | (rw [hb.cell (by assumption)]; assumption) | (refine fr_step ?_ hb; assumption) | (refine Nat.lt_of_lt_of_le ?_ hb.size; assumption)))
    (first | (go_at_call 86; refine (hc _).mono ?_; rintro e w' ⟨rfl, hb⟩))
  rename_i hH
  obtain ⟨_, _, _, _, _, _, _, _, _, hB, _⟩ := hH
  go_wp2
  go_ret
  exact ⟨rfl, hB⟩
theorem okB_lo {k : RK} (h : k.n < 0) : okB k = false := by simp [okB]; omega
theorem okB_hi {k : RK} (h : 8 < k.n) : okB k = false := by simp [okB]; omega
theorem okB_in {k : RK} {m : Nat} (hm : m ≤ 8) (h : k.n = m) : okB k = decide (k = firstK k m) := by
  have h1 : (0 : Int) ≤ k.n := by omega
  have h2 : k.n ≤ 8 := by omega
  simp [okB, h1, h2]
  rw [h, Int.toNat_natCast]
theorem key_check (k : RK) (hw : k.wf) (w : World) : Calls Try.prog 75 #[kv k] w fun e w' => e = .returned (.bool (okB k)) ∧ Below w.heap.size w w' := by
  by_cases h1 : k.n < 0
  · rw [okB_lo h1]; exact key_check_lo k h1 w
  · by_cases h2 : 8 < k.n
    · rw [okB_hi h2]; exact key_check_hi k h2 w
    · obtain ⟨m, hm⟩ : ∃ m : Nat, k.n = m := ⟨k.n.toNat, by omega⟩
      rw [okB_in (by omega) hm]; exact key_check_in k hw m (by omega) hm w
/-- The bytes of k, by their places. -/
theorem kc_at (k : RK) (i : Nat) (h : i < 8) : (kc k).toArray[1 + i]? = some (.int .u8 (k.at i)) := by
  rcases i with _|_|_|_|_|_|_|_|i
  all_goals first | rfl | omega
theorem at_byt {k : RK} (hw : k.wf) (i : Nat) : Byt (k.at i) := by
  rcases i with _|_|_|_|_|_|_|_|i
  all_goals first | exact hw.h0 | exact hw.h1 | exact hw.h2 | exact hw.h3 | exact hw.h4 | exact hw.h5 | exact hw.h6 | exact hw.h7 | (simp [RK.at, Byt])
theorem first_iff (k : RK) (m : Nat) (hm : m ≤ 8) (hn : k.n = m) : k = firstK k m ↔ ∀ t, m ≤ t → t < 8 → k.at t = 0 := by
  constructor
  · intro e t h1 h2
    rw [e]
    rcases t with _|_|_|_|_|_|_|_|t
    all_goals first | omega | (simp only [RK.at, firstK]; rw [if_neg (by omega)])
  · intro h
    obtain ⟨n, b0, b1, b2, b3, b4, b5, b6, b7⟩ := k
    simp only at hn
    subst hn
    have g0 : b0 = if 0 < m then b0 else 0 := by split; rfl; exact h 0 (by omega) (by omega)
    have g1 : b1 = if 1 < m then b1 else 0 := by split; rfl; exact h 1 (by omega) (by omega)
    have g2 : b2 = if 2 < m then b2 else 0 := by split; rfl; exact h 2 (by omega) (by omega)
    have g3 : b3 = if 3 < m then b3 else 0 := by split; rfl; exact h 3 (by omega) (by omega)
    have g4 : b4 = if 4 < m then b4 else 0 := by split; rfl; exact h 4 (by omega) (by omega)
    have g5 : b5 = if 5 < m then b5 else 0 := by split; rfl; exact h 5 (by omega) (by omega)
    have g6 : b6 = if 6 < m then b6 else 0 := by split; rfl; exact h 6 (by omega) (by omega)
    have g7 : b7 = if 7 < m then b7 else 0 := by split; rfl; exact h 7 (by omega) (by omega)
    simp only [firstK, RK.mk.injEq]
    exact ⟨trivial, g0, g1, g2, g3, g4, g5, g6, g7⟩
set_option maxRecDepth 100000 in
set_option maxHeartbeats 1000000 in
theorem ref_check_out (k : RK) (hn : k.n < 0 ∨ 8 < k.n) (w : World) : Calls Try.prog 71 #[kv k] w fun e w' => e = .returned (.bool false) ∧ Below w.heap.size w w' := by
  rcases hn with hn | hn
  · go_enter Try.func71, Try.ntmps71
    go_wp2
    go_ret
    exact ⟨rfl, fr_new (fr_refl w) _⟩
  · have h1 : decide (k.n < 0) = false := by simp; omega
    go_enter Try.func71, Try.ntmps71
    go_wp2
    go_ret
    exact ⟨rfl, fr_new (fr_refl w) _⟩
set_option maxRecDepth 100000 in
set_option maxHeartbeats 1000000 in
theorem ref_check_in (k : RK) (hw : k.wf) (m : Nat) (hm : m ≤ 8) (hn : k.n = (m : Int)) (w : World) : Calls Try.prog 71 #[kv k] w fun e w' => e = .returned (.bool (decide (k = firstK k m))) ∧ Below w.heap.size w w' := by
  have Hi := keep (first_iff k m hm hn)
  have Hn := keep hn
  have h1 : decide (k.n < 0) = false := by simp; omega
  have h2 : decide (8 < k.n) = false := by simp; omega
  clear hn
  go_enter Try.func71, Try.ntmps71
  go_wp2
  generalize hW : World.alloc w _ = W
  have ha : Arr W w.heap.size 27 (kc k).toArray := by rw [← hW]; exact Arr.new w _ _
  have hF : Fr w W := by rw [← hW]; exact fr_new (fr_refl w) _
  clear hW
  rw [Hn.out]
  go_loop [3] (fun i => ∃ j : Nat, m ≤ j ∧ j ≤ 8 ∧ i = .int .i64 j ∧ Hid (∀ t, m ≤ t → t < j → k.at t = 0)) (fun i => 8 - (intOf i).toNat)
  case atStart => exact ⟨m, Nat.le_refl _, hm, rfl, keep fun t a b => by omega⟩
  case round =>
    obtain ⟨j, hj1, hj, rfl, Ht⟩ := hrel
    by_cases hlt : j < 8
    · have hc := (ha.cell (1 + j)).trans (kc_at k j hlt)
      by_cases h0 : k.at j = 0
      · have H0 := keep h0
        rw [h0] at hc
        clear h0
        go_wp2
        go_round
        case rel => exact ⟨j + 1, by omega, by omega, by go_num, keep fun t a b => by
          by_cases e : t = j
          · rw [e, H0.out]
          · exact Ht.out t a (by omega)⟩
        case measure => simp [intOf]; omega
      · have h3 : (k.at j != 0) = true := by simpa using h0
        have hd : decide (k = firstK k m) = false := by
          simp only [decide_eq_false_iff_not]
          intro e
          exact h0 (Hi.out.1 e j hj1 hlt)
        have Hd := keep hd
        clear hd
        go_wp2
        go_ret
        exact ⟨ret_bool Hd.out.symm, hF⟩
    · obtain rfl : j = 8 := by omega
      have hd : decide (k = firstK k m) = true := by
        simp only [decide_eq_true_iff]
        exact Hi.out.2 fun t a b => Ht.out t a b
      have Hd := keep hd
      clear hd
      go_wp2
      go_ret
      exact ⟨ret_bool Hd.out.symm, hF⟩
theorem ref_check (k : RK) (hw : k.wf) (w : World) : Calls Try.prog 71 #[kv k] w fun e w' => e = .returned (.bool (okB k)) ∧ Below w.heap.size w w' := by
  by_cases h1 : k.n < 0
  · rw [okB_lo h1]; exact ref_check_out k (.inl h1) w
  · by_cases h2 : 8 < k.n
    · rw [okB_hi h2]; exact ref_check_out k (.inr h2) w
    · obtain ⟨m, hm⟩ : ∃ m : Nat, k.n = m := ⟨k.n.toNat, by omega⟩
      rw [okB_in (by omega) hm]; exact ref_check_in k hw m (by omega) hm w
end Go.Proofs.Ytnfoebcfhldemaa
