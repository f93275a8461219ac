/- SchedTurns, walked. -/
import Derived.Test.YtmfnekobepdhkaaScG
import Derived.Test.YtmfnekobepdhkaaScTm
namespace Go.Proofs.Ytmfnekobepdhkaa
set_option linter.unusedVariables false
set_option linter.unusedSimpArgs false
set_option maxRecDepth 100000
open Go.RowKit
set_option maxHeartbeats 8000000 in
theorem turns_core {w : World} {n f p : Int} (hn : Is64 n) (hf : Is64 f) (hp : 0 ≤ p ∧ p ≤ 65535) :
    Calls Try.prog 4 #[.int .i64 n, .int .i64 f, .int .u16 p] w fun e w' => e = .returned (.bool true) ∧ Below w.heap.size w w' := by
  have cP : ∀ W, Calls Try.prog 11 #[.int .i64 n, .int .i64 8] W fun e w' => e = .returned (.int .i64 (n % 8)) ∧ Fr W w' := fun W => law_place n 8 hn (by omega) (by omega) W
  obtain ⟨k0, hk, hk8⟩ : ∃ k : Nat, n % 8 = k ∧ k < 8 := ⟨(n % 8).toNat, by omega, by omega⟩
  rw [hk] at cP
  have cN := fun W => new_yes W (1 + k0) (by omega) (by omega)
  rw [show ((1 + k0 : Nat) : Int) = 1 + (k0 : Int) by omega] at cN
  clear hk hn
  obtain ⟨k, hk⟩ : ∃ k, 1 + k0 = k := ⟨_, rfl⟩
  have hkz : 1 + (k0 : Int) = (k : Int) := by omega
  have hk1 : 1 ≤ k ∧ k ≤ 8 := by omega
  rw [hk, hkz] at cN
  have cQ : ∀ W, Calls Try.prog 11 #[.int .i64 f, .int .i64 (k : Int)] W fun e w' => e = .returned (.int .i64 (f % (k : Int))) ∧ Fr W w' := fun W => law_place f k hf (by omega) (by omega) W
  obtain ⟨a, ha, hak⟩ : ∃ a : Nat, f % (k : Int) = a ∧ a < k := ⟨(f % (k : Int)).toNat, by
    have := Int.emod_nonneg f (b := (k : Int)) (by omega)
    omega, by
    have := Int.emod_nonneg f (b := (k : Int)) (by omega)
    have := Int.emod_lt_of_pos f (b := (k : Int)) (by omega)
    omega⟩
  rw [ha] at cQ
  obtain ⟨m, hm, hm3⟩ : ∃ m : Nat, Int.tmod p 300 = m ∧ m < 300 := ⟨(p % 300).toNat, by rw [Int.tmod_eq_emod_of_nonneg hp.1]; omega, by omega⟩
  have hk0 : ((k : Int) == 0) = false := by simp; omega
  clear ha hf hk
  go_enter Try.func4, Try.ntmps4
  go_wp2_with fail
  refine (cP w).mono ?_
  rintro e w1 ⟨rfl, f1⟩
  go_wp2_with fail
  refine (cN w1).mono ?_
  rintro e w2 ⟨g, rfl, h⟩
  have hq : w.heap.size ≤ g := by have := f1.size; have := h.out.2.2; omega
  have P0 : Hid (PT w2 g (turT k a 0) 0 ∧ Fr w w2) := keep ⟨by rw [turT_new hk1.1]; exact h.out.1, fr_step f1 h.out.2.1⟩
  clear h cP cN
  go_wp2_with fail
  refine (cQ w2).mono ?_
  rintro e w3 ⟨rfl, f3⟩
  replace P0 := keep (show PT w3 g (turT k a 0) 0 ∧ Fr w w3 from ⟨P0.out.1.fr f3, fr_step P0.out.2 f3⟩)
  clear cQ
  go_wp2_with fail
  go_loopg [12] m (fun g' s12 wr => ∃ (i : Nat), i + g' = m ∧ s12 = .int .i64 i ∧ Hid (PT wr g (turT k a i) i ∧ Fr w wr))
  case atStart => exact ⟨0, by omega, rfl, P0⟩
  case round =>
    clear P0
    obtain ⟨i, hi, rfl, hP⟩ := hrel
    by_cases hlt : i < m
    · have hiz : (i : Int) < (m : Int) := by omega
      have c1 := pick_at (p := (a : Int) + (i : Int)) hP.out.1 (by omega) (by omega)
      obtain ⟨e1, e2, e3⟩ := turT_pick (k := k) (a := a) (i := i) hk1.1
      rw [e1, e2, e3] at c1
      have htm : Int.tmod ((a : Int) + (i : Int)) (k : Int) = (((a + i) % k : Nat) : Int) := by
        rw [Int.tmod_eq_emod_of_nonneg (by omega), ← Int.natCast_add, ← Int.natCast_emod]
      generalize (a + i) % k = z at *
      clear e1 e2 e3
      go_wp2_with fail
      refine c1.mono ?_
      rintro e w4 ⟨rfl, h⟩
      clear c1
      go_wp2_with fail
      go_roundg (gk - 1)
      case measure => omega
      case rel => exact ⟨i + 1, by omega, rfl, keep ⟨h.out.1, fr_chg hP.out.2 h.out.2 hq⟩⟩
    · obtain rfl : i = m := by omega
      have hiz : ¬ (i : Int) < (i : Int) := by omega
      have HT := keep hP.out.1
      have hfr := hP.out.2
      obtain ⟨V, eV⟩ : ∃ V, V = wr := ⟨_, rfl⟩
      rw [← eV] at HT hfr ⊢
      clear eV hP hlt
      go_wp2_with fail
      go_loopg [15] k (fun g' s15 wr => ∃ (x : Nat), x + g' = k ∧ s15 = .int .i64 x ∧ Hid (Fr V wr))
      case atStart => exact ⟨0, by omega, rfl, keep (fr_refl V)⟩
      case round =>
        obtain ⟨x, hx, rfl, hW⟩ := hrel
        have hF := hW.out
        by_cases hxl : x < k
        · have hxz : (x : Int) < (k : Int) := by omega
          have hxb : -9223372036854775808 ≤ (x : Int) ∧ (x : Int) ≤ 9223372036854775807 := by omega
          have hat := turT_at (a := a) (i := i) hk1.1 hxl
          obtain ⟨b1, b2, b3⟩ := turT_bd (a := a) (i := i) hk1.1 hxl
          have cA : ∀ W, Fr wr W → Calls Try.prog 26 #[.pointer (some ⟨g, 0, none⟩), .int .i64 (x : Int)] W fun e w' => e = .returned (.int .i64 (kX k a i x)) ∧ Fr wr w' := fun W f => (picks_at (HT.out.fr (fr_step hF f)) hxb).mono fun e w' ⟨he, hh⟩ => ⟨by rw [he, hat.1], hh ▸ f⟩
          have cB : ∀ W, Fr wr W → Calls Try.prog 28 #[.pointer (some ⟨g, 0, none⟩), .int .i64 (x : Int)] W fun e w' => e = .returned (.int .i64 (wX k a i x)) ∧ Fr wr w' := fun W f => (wait_at (HT.out.fr (fr_step hF f)) hxb).mono fun e w' ⟨he, hh⟩ => ⟨by rw [he, hat.2], hh ▸ f⟩
          have hq2 : Int.tdiv (i : Int) (k : Int) = ((i / k : Nat) : Int) := by
            rw [Int.tdiv_eq_ediv_of_nonneg (by omega), ← Int.natCast_ediv]
          have hqb : i / k ≤ 300 := Nat.le_trans (Nat.div_le_self i k) (by omega)
          generalize i / k = q at *
          generalize kX k a i x = y1 at *
          generalize wX k a i x = y2 at *
          have t1 : decide (y1 < (q : Int)) = false := by rw [decide_eq_false_iff_not]; omega
          have t2 : decide ((q : Int) + 1 < y1) = false := by rw [decide_eq_false_iff_not]; omega
          have t3 : decide ((k : Int) - 1 < y2) = false := by rw [decide_eq_false_iff_not]; omega
          have wrd := fr_drew (fr_refl wr)
          have hkn : ¬ k = 0 := by omega
          have hqw1 : IntKind.i64.wrap ((q : Int) + 1) = q + 1 := by rw [IntKind.wrap_i64]; omega
          have hkw : IntKind.i64.wrap ((k : Int) - 1) = k - 1 := by rw [IntKind.wrap_i64]; omega
          have hqw : IntKind.i64.wrap (q : Int) = q := by rw [IntKind.wrap_i64]; omega
          clear hat hxl
          go_wp2_with fail
          refine wp_region_noPanic ?_
          refine wp_region_held_drew (S := fun W => Fr wr W) (by kernel_rfl) wrd (fun hHeld => ?_)
          change wpAnyH _ _ _ _ _ _ _ _ _
          refine wpAnyH_take (i := 0) (v := ?_) rfl (by kernel_rfl) (by kernel_rfl) (by kernel_rfl) (fun _ _ _ h => h) (Or.inl ⟨by rfl, ?_⟩) (by assumption) ?_
          rotate_left
          · intro w' hSw
            try dsimp only at hSw
            go_simp
            try with_reducible rfl
          try simp only [List.getElem_toArray, List.getElem_cons_zero, Act.put, List.setIfInBounds_toArray, List.set_cons_zero, List.set_cons_succ]
          refine wpAnyH_take (i := 1) (v := ?_) rfl (by kernel_rfl) (by kernel_rfl) (by kernel_rfl) (fun _ _ _ h => h) (Or.inl ⟨by rfl, ?_⟩) (by assumption) ?_
          rotate_left
          · intro w' hSw
            try dsimp only at hSw
            go_simp
            try with_reducible rfl
          try simp only [List.getElem_toArray, List.getElem_cons_succ, List.getElem_cons_zero, Act.put, List.setIfInBounds_toArray, List.set_cons_zero, List.set_cons_succ]
          refine wpAnyH_take (i := 3) (v := ?_) rfl (by kernel_rfl) (by kernel_rfl) (by kernel_rfl) (fun _ _ _ h => h) (Or.inl ⟨by rfl, ?_⟩) (by assumption) ?_
          rotate_left
          · intro w' hSw
            try dsimp only at hSw
            go_simp
            try with_reducible rfl
          try simp only [List.getElem_toArray, List.getElem_cons_succ, List.getElem_cons_zero, Act.put, List.setIfInBounds_toArray, List.set_cons_zero, List.set_cons_succ]
          refine wpAnyH_take (i := 4) (v := ?_) rfl (by kernel_rfl) (by kernel_rfl) (by kernel_rfl) (fun _ _ _ h => h) (Or.inl ⟨by rfl, ?_⟩) (by assumption) ?_
          rotate_left
          · intro w' hSw
            try dsimp only at hSw
            go_simp
            try with_reducible rfl
          try simp only [List.getElem_toArray, List.getElem_cons_succ, List.getElem_cons_zero, Act.put, List.setIfInBounds_toArray, List.set_cons_zero, List.set_cons_succ]
          refine wpAnyH_take (i := 5) (v := ?_) rfl (by kernel_rfl) (by kernel_rfl) (by kernel_rfl) (fun _ _ _ h => h) (Or.inl ⟨by rfl, ?_⟩) (by assumption) ?_
          rotate_left
          · intro w' hSw
            try dsimp only at hSw
            go_simp
            try with_reducible rfl
          try simp only [List.getElem_toArray, List.getElem_cons_succ, List.getElem_cons_zero, Act.put, List.setIfInBounds_toArray, List.set_cons_zero, List.set_cons_succ]
          refine wpAnyH_ready (rs := [2]) (by kernel_rfl) (by simp) ?_
          refine AllReadyH.cons rfl (fun K hK0 => ?_) AllReadyH.nil
          go_simp
          refine (cA _ (by assumption)).mono ?_
          rintro e w2x ⟨rfl, f2x⟩
          go_simp
          refine hK0.out _ _ f2x (fun hS2 => ?_)
          clear hK0 K
          try simp only [List.getElem_toArray, List.getElem_cons_succ, List.getElem_cons_zero, Act.put, List.setIfInBounds_toArray, List.set_cons_zero, List.set_cons_succ]
          refine wpAnyH_take (i := 6) (v := .bool false) rfl (by kernel_rfl) (by kernel_rfl) (by kernel_rfl) (fun _ _ _ h => h) (Or.inl ⟨by rfl, ?_⟩) (by assumption) ?_
          · intro w' hSw
            try dsimp only at hSw
            try go_simp
            all_goals first | done | with_reducible rfl | omega | assumption | (simp; omega)
          try simp only [List.getElem_toArray, List.getElem_cons_succ, List.getElem_cons_zero, Act.put, List.setIfInBounds_toArray, List.set_cons_zero, List.set_cons_succ]
          refine wpAnyH_take (i := 7) (v := .bool false) rfl (by kernel_rfl) (by kernel_rfl) (by kernel_rfl) (fun _ _ _ h => h) (Or.inl ⟨by rfl, ?_⟩) (by assumption) ?_
          · intro w' hSw
            try dsimp only at hSw
            try go_simp
            all_goals first | done | with_reducible rfl | omega | assumption | (simp; omega)
          try simp only [List.getElem_toArray, List.getElem_cons_succ, List.getElem_cons_zero, Act.put, List.setIfInBounds_toArray, List.set_cons_zero, List.set_cons_succ]
          refine wpAnyH_take (i := 8) (v := ?_) rfl (by kernel_rfl) (by kernel_rfl) (by kernel_rfl) (fun _ _ _ h => h) (Or.inl ⟨by rfl, ?_⟩) (by assumption) ?_
          rotate_left
          · intro w' hSw
            try dsimp only at hSw
            go_simp
            try with_reducible rfl
          try simp only [List.getElem_toArray, List.getElem_cons_succ, List.getElem_cons_zero, Act.put, List.setIfInBounds_toArray, List.set_cons_zero, List.set_cons_succ]
          refine wpAnyH_take (i := 9) (v := ?_) rfl (by kernel_rfl) (by kernel_rfl) (by kernel_rfl) (fun _ _ _ h => h) (Or.inl ⟨by rfl, ?_⟩) (by assumption) ?_
          rotate_left
          · intro w' hSw
            try dsimp only at hSw
            go_simp
            try with_reducible rfl
          try simp only [List.getElem_toArray, List.getElem_cons_succ, List.getElem_cons_zero, Act.put, List.setIfInBounds_toArray, List.set_cons_zero, List.set_cons_succ]
          refine wpAnyH_take (i := 11) (v := ?_) rfl (by kernel_rfl) (by kernel_rfl) (by kernel_rfl) (fun _ _ _ h => h) (Or.inl ⟨by rfl, ?_⟩) (by assumption) ?_
          rotate_left
          · intro w' hSw
            try dsimp only at hSw
            go_simp
            try with_reducible rfl
          try simp only [List.getElem_toArray, List.getElem_cons_succ, List.getElem_cons_zero, Act.put, List.setIfInBounds_toArray, List.set_cons_zero, List.set_cons_succ]
          refine wpAnyH_take (i := 12) (v := ?_) rfl (by kernel_rfl) (by kernel_rfl) (by kernel_rfl) (fun _ _ _ h => h) (Or.inl ⟨by rfl, ?_⟩) (by assumption) ?_
          rotate_left
          · intro w' hSw
            try dsimp only at hSw
            go_simp
            try with_reducible rfl
          try simp only [List.getElem_toArray, List.getElem_cons_succ, List.getElem_cons_zero, Act.put, List.setIfInBounds_toArray, List.set_cons_zero, List.set_cons_succ]
          refine wpAnyH_take (i := 13) (v := ?_) rfl (by kernel_rfl) (by kernel_rfl) (by kernel_rfl) (fun _ _ _ h => h) (Or.inl ⟨by rfl, ?_⟩) (by assumption) ?_
          rotate_left
          · intro w' hSw
            try dsimp only at hSw
            go_simp
            try with_reducible rfl
          try simp only [List.getElem_toArray, List.getElem_cons_succ, List.getElem_cons_zero, Act.put, List.setIfInBounds_toArray, List.set_cons_zero, List.set_cons_succ]
          refine wpAnyH_take (i := 14) (v := ?_) rfl (by kernel_rfl) (by kernel_rfl) (by kernel_rfl) (fun _ _ _ h => h) (Or.inl ⟨by rfl, ?_⟩) (by assumption) ?_
          rotate_left
          · intro w' hSw
            try dsimp only at hSw
            go_simp
            try with_reducible rfl
          try simp only [List.getElem_toArray, List.getElem_cons_succ, List.getElem_cons_zero, Act.put, List.setIfInBounds_toArray, List.set_cons_zero, List.set_cons_succ]
          refine wpAnyH_ready (rs := [10]) (by kernel_rfl) (by simp) ?_
          refine AllReadyH.cons rfl (fun K hK0 => ?_) AllReadyH.nil
          go_simp
          refine (cA _ (by assumption)).mono ?_
          rintro e w10x ⟨rfl, f10x⟩
          go_simp
          refine hK0.out _ _ f10x (fun hS10 => ?_)
          clear hK0 K
          try simp only [List.getElem_toArray, List.getElem_cons_succ, List.getElem_cons_zero, Act.put, List.setIfInBounds_toArray, List.set_cons_zero, List.set_cons_succ]
          refine wpAnyH_take (i := 15) (v := .bool false) rfl (by kernel_rfl) (by kernel_rfl) (by kernel_rfl) (fun _ _ _ h => h) (Or.inl ⟨by rfl, ?_⟩) (by assumption) ?_
          · intro w' hSw
            try dsimp only at hSw
            try go_simp
            all_goals first | done | with_reducible rfl | omega | assumption | (simp; omega)
          try simp only [List.getElem_toArray, List.getElem_cons_succ, List.getElem_cons_zero, Act.put, List.setIfInBounds_toArray, List.set_cons_zero, List.set_cons_succ]
          refine wpAnyH_take (i := 16) (v := .bool false) rfl (by kernel_rfl) (by kernel_rfl) (by kernel_rfl) (fun _ _ _ h => h) (Or.inl ⟨by rfl, ?_⟩) (by assumption) ?_
          · intro w' hSw
            try dsimp only at hSw
            try go_simp
            all_goals first | done | with_reducible rfl | omega | assumption | (simp; omega)
          try simp only [List.getElem_toArray, List.getElem_cons_succ, List.getElem_cons_zero, Act.put, List.setIfInBounds_toArray, List.set_cons_zero, List.set_cons_succ]
          refine wpAnyH_take (i := 17) (v := .bool false) rfl (by kernel_rfl) (by kernel_rfl) (by kernel_rfl) (fun _ _ _ h => h) (Or.inl ⟨by rfl, ?_⟩) (by assumption) ?_
          · intro w' hSw
            try dsimp only at hSw
            try go_simp
            all_goals first | done | with_reducible rfl | omega | assumption | (simp; omega)
          try simp only [List.getElem_toArray, List.getElem_cons_succ, List.getElem_cons_zero, Act.put, List.setIfInBounds_toArray, List.set_cons_zero, List.set_cons_succ]
          refine wpAnyH_take (i := 18) (v := ?_) rfl (by kernel_rfl) (by kernel_rfl) (by kernel_rfl) (fun _ _ _ h => h) (Or.inl ⟨by rfl, ?_⟩) (by assumption) ?_
          rotate_left
          · intro w' hSw
            try dsimp only at hSw
            go_simp
            try with_reducible rfl
          try simp only [List.getElem_toArray, List.getElem_cons_succ, List.getElem_cons_zero, Act.put, List.setIfInBounds_toArray, List.set_cons_zero, List.set_cons_succ]
          refine wpAnyH_take (i := 19) (v := ?_) rfl (by kernel_rfl) (by kernel_rfl) (by kernel_rfl) (fun _ _ _ h => h) (Or.inl ⟨by rfl, ?_⟩) (by assumption) ?_
          rotate_left
          · intro w' hSw
            try dsimp only at hSw
            go_simp
            try with_reducible rfl
          try simp only [List.getElem_toArray, List.getElem_cons_succ, List.getElem_cons_zero, Act.put, List.setIfInBounds_toArray, List.set_cons_zero, List.set_cons_succ]
          refine wpAnyH_take (i := 21) (v := ?_) rfl (by kernel_rfl) (by kernel_rfl) (by kernel_rfl) (fun _ _ _ h => h) (Or.inl ⟨by rfl, ?_⟩) (by assumption) ?_
          rotate_left
          · intro w' hSw
            try dsimp only at hSw
            go_simp
            try with_reducible rfl
          try simp only [List.getElem_toArray, List.getElem_cons_succ, List.getElem_cons_zero, Act.put, List.setIfInBounds_toArray, List.set_cons_zero, List.set_cons_succ]
          refine wpAnyH_take (i := 22) (v := ?_) rfl (by kernel_rfl) (by kernel_rfl) (by kernel_rfl) (fun _ _ _ h => h) (Or.inl ⟨by rfl, ?_⟩) (by assumption) ?_
          rotate_left
          · intro w' hSw
            try dsimp only at hSw
            go_simp
            try with_reducible rfl
          try simp only [List.getElem_toArray, List.getElem_cons_succ, List.getElem_cons_zero, Act.put, List.setIfInBounds_toArray, List.set_cons_zero, List.set_cons_succ]
          refine wpAnyH_ready (rs := [20]) (by kernel_rfl) (by simp) ?_
          refine AllReadyH.cons rfl (fun K hK0 => ?_) AllReadyH.nil
          go_simp
          refine (cB _ (by assumption)).mono ?_
          rintro e w20x ⟨rfl, f20x⟩
          go_simp
          refine hK0.out _ _ f20x (fun hS20 => ?_)
          clear hK0 K
          try simp only [List.getElem_toArray, List.getElem_cons_succ, List.getElem_cons_zero, Act.put, List.setIfInBounds_toArray, List.set_cons_zero, List.set_cons_succ]
          refine wpAnyH_take (i := 23) (v := .bool false) rfl (by kernel_rfl) (by kernel_rfl) (by kernel_rfl) (fun _ _ _ h => h) (Or.inl ⟨by rfl, ?_⟩) (by assumption) ?_
          · intro w' hSw
            try dsimp only at hSw
            try go_simp
            all_goals first | done | with_reducible rfl | omega | assumption | (simp; omega)
          try simp only [List.getElem_toArray, List.getElem_cons_succ, List.getElem_cons_zero, Act.put, List.setIfInBounds_toArray, List.set_cons_zero, List.set_cons_succ]
          refine wpAnyH_take (i := 24) (v := .bool false) rfl (by kernel_rfl) (by kernel_rfl) (by kernel_rfl) (fun _ _ _ h => h) (Or.inl ⟨by rfl, ?_⟩) (by assumption) ?_
          · intro w' hSw
            try dsimp only at hSw
            try go_simp
            all_goals first | done | with_reducible rfl | omega | assumption | (simp; omega)
          try simp only [List.getElem_toArray, List.getElem_cons_succ, List.getElem_cons_zero, Act.put, List.setIfInBounds_toArray, List.set_cons_zero, List.set_cons_succ]
          refine wpAnyH_done (by kernel_rfl) ?_ _
          refine NoPanic.normal ?_
          go_wp2_with fail
          have HF := keep (fr_step hF f20x)
          go_roundg (gk - 1)
          case measure => omega
          case rel => exact ⟨x + 1, by omega, rfl, HF⟩
        · have hxk : x = k := by omega
          have hxz : ¬ (x : Int) < (k : Int) := by omega
          have hT2 := HT.out.fr hF
          have cW := worst_at hT2
          rw [show (turT k a i).mo = ((min i (k - 1) : Nat) : Int) from rfl] at cW
          obtain ⟨y, hy⟩ : ∃ y : Nat, min i (k - 1) = y := ⟨_, rfl⟩
          have y1 : (y : Int) ≤ (k : Int) - 1 := by omega
          have y2 : (i : Int) < (k : Int) ∨ ((y : Int) == (k : Int) - 1) = true := by
            rw [beq_iff_eq]; omega
          rw [hy] at cW
          have ca := awake13 wr
          have hfz := keep (fr_step hfr hF)
          clear hxl hxk hT2 hy
          rcases y2 with y2 | y2
          · go_wp2_with (first
              | (go_at_call 25; refine cW.mono ?_; rintro e w' ⟨rfl, rfl⟩)
              | (go_at_call 10; refine ca.mono ?_; rintro e wa ⟨rfl, fa⟩)
              | fail)
            go_ret
            exact ⟨rfl, fr_step hfz.out fa⟩
          · by_cases y3 : (i : Int) < (k : Int)
            · go_wp2_with (first
                | (go_at_call 25; refine cW.mono ?_; rintro e w' ⟨rfl, rfl⟩)
                | (go_at_call 10; refine ca.mono ?_; rintro e wa ⟨rfl, fa⟩)
                | fail)
              go_ret
              exact ⟨rfl, fr_step hfz.out fa⟩
            · go_wp2_with (first
                | (go_at_call 25; refine cW.mono ?_; rintro e w' ⟨rfl, rfl⟩)
                | (go_at_call 10; refine ca.mono ?_; rintro e wa ⟨rfl, fa⟩)
                | fail)
              go_ret
              exact ⟨rfl, fr_step hfz.out fa⟩
end Go.Proofs.Ytmfnekobepdhkaa
