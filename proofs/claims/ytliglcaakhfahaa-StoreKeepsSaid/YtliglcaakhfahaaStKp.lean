/- StoreKeeps, walked. -/
import Derived.Test.YtliglcaakhfahaaStI
namespace Go.Proofs.Ytliglcaakhfahaa
set_option linter.unusedVariables false
set_option linter.unusedSimpArgs false
set_option maxRecDepth 100000
open Go.RowKit
set_option maxHeartbeats 4000000 in
theorem keeps_core {w : World} {n at' oth x y : Int} (hn : Is64 n) (hat : Is64 at') (hoth : Is64 oth) (hx : 0 ≤ x ∧ x ≤ 255) (hy : 0 ≤ y ∧ y ≤ 255) :
    Calls Try.prog 4 #[.int .i64 n, .int .i64 at', .int .i64 oth, .int .u8 x, .int .u8 y] w fun e w' => e = .returned (.bool true) ∧ Below w.heap.size w w' := by
  have cP : ∀ W, Calls Try.prog 10 #[.int .i64 n, .int .i64 39] W fun e w' => e = .returned (.int .i64 (n % 39)) ∧ Fr W w' := fun W => law_place n 39 hn (by omega) (by omega) W
  obtain ⟨k, hk, hk2, hk4⟩ : ∃ k : Nat, 2 + n % 39 = (k : Int) ∧ 2 ≤ k ∧ k ≤ 40 := ⟨(2 + n % 39).toNat, by omega, by omega, by omega⟩
  have hb39 : 0 ≤ n % 39 ∧ n % 39 ≤ 38 := by omega
  have cA : ∀ W, Calls Try.prog 10 #[.int .i64 at', .int .i64 (k : Int)] W fun e w' => e = .returned (.int .i64 (at' % k)) ∧ Fr W w' := fun W => law_place at' k hat (by omega) (by omega) W
  have cB : ∀ W, Calls Try.prog 10 #[.int .i64 oth, .int .i64 ((k : Int) - 1)] W fun e w' => e = .returned (.int .i64 (oth % ((k : Int) - 1))) ∧ Fr W w' := fun W => by
    have := law_place oth (k - 1) hoth (by omega) (by omega) W
    rwa [show ((k - 1 : Nat) : Int) = (k : Int) - 1 by omega] at this
  have m1 := Int.emod_nonneg at' (b := (k : Int)) (by omega)
  have m2 := Int.emod_lt_of_pos at' (b := (k : Int)) (by omega)
  have m3 := Int.emod_nonneg oth (b := (k : Int) - 1) (by omega)
  have m4 := Int.emod_lt_of_pos oth (b := (k : Int) - 1) (by omega)
  obtain ⟨a, ha, hak⟩ : ∃ a : Nat, at' % (k : Int) = a ∧ a < k := ⟨(at' % (k : Int)).toNat, by omega, by omega⟩
  obtain ⟨p, hp, hpk⟩ : ∃ p : Nat, oth % ((k : Int) - 1) = p ∧ p + 1 < k := ⟨(oth % ((k : Int) - 1)).toNat, by omega, by omega⟩
  obtain ⟨b, hb, hbk, hab⟩ : ∃ b : Nat, ((a : Int) + 1 + p) % (k : Int) = b ∧ b < k ∧ b ≠ a := by
    by_cases h : a + 1 + p < k
    · refine ⟨a + 1 + p, ?_, h, by omega⟩
      rw [show ((a + 1 + p : Nat) : Int) = (a : Int) + 1 + p by omega]
      exact Int.emod_eq_of_lt (by omega) (by omega)
    · refine ⟨a + 1 + p - k, ?_, by omega, by omega⟩
      rw [show ((a : Int) + 1 + p) = ((a + 1 + p - k : Nat) : Int) + k by omega, Int.add_emod_right]
      exact Int.emod_eq_of_lt (by omega) (by omega)
  rw [ha] at cA
  rw [hp] at cB
  generalize n % 39 = x0 at *
  clear ha hp m1 m2 m3 m4 hat hoth hn
  have c0 := fun W => new_yes W k (by omega) (by omega)
  have cX := fun W => bytes_at W 256 (by decide) x hx
  have cY := fun W => bytes_at W 256 (by decide) y hy
  rw [show ((256 : Nat) : Int) = 256 from rfl] at cX cY
  have HB := keep hb
  clear hb
  go_enter Try.func4, Try.ntmps4
  go_wp2_with fail
  refine (cP w).mono ?_
  rintro e w0 ⟨rfl, f0⟩
  go_wp2_with fail
  refine (c0 w0).mono ?_
  rintro e w1 ⟨g, q, rfl, h⟩
  have p0 := keep h.out.1
  rw [← filS_zero] at p0
  have f1 := fr_step f0 h.out.2.1
  have hq : w.heap.size ≤ q := Nat.le_trans f0.size h.out.2.2.2
  clear h c0 cP f0
  go_wp2_with fail
  go_loopg [14] k (fun g' s14 wr => ∃ j : Nat, j + g' = k ∧ s14 = .int .i64 j ∧ Hid (PS wr g q (filS k j)) ∧ Hid (Fr w wr))
  case atStart => exact ⟨0, by omega, rfl, p0, keep f1⟩
  case round =>
    obtain ⟨j, hj, rfl, hP, hF⟩ := hrel
    by_cases hlt : j < k
    · have hjz : (j : Int) < (k : Int) := by omega
      have c1 := alloc_at hP.out
      obtain ⟨e1, e2, e3⟩ := al_fil hlt
      rw [e1, e2, e3] at c1
      have Hlt := keep hlt
      clear e1 e2 e3 hlt
      go_wp2_with fail
      refine c1.mono ?_
      rintro e w2 ⟨rfl, h⟩
      have P2 := keep h.out.1
      have F2 := keep (fr_chg hF.out h.out.2 hq)
      clear h c1 hP hF
      go_wp2_with fail
      go_roundg (gk - 1)
      case measure => omega
      case rel => exact ⟨j + 1, by omega, rfl, P2, F2⟩
    · have hjn : j = k := by omega
      have hjz : ¬ (j : Int) < (k : Int) := by omega
      have P := keep (hjn ▸ hP.out)
      have hAU := au_fil k
      have hll := filS_len (Nat.le_refl k)
      generalize filS k k = l0 at P hAU hll
      have f2 := hF.out
      clear hlt hP hF p0 f1 hj hjn
      go_wp2_with fail
      refine (cA _).mono ?_
      rintro e w2 ⟨rfl, f3⟩
      go_wp2_with fail
      refine (cB _).mono ?_
      rintro e w3 ⟨rfl, f4⟩
      go_wp2_with fail
      simp only [HB.out]
      refine (cX _).mono ?_
      rintro e w4 ⟨A, rfl, h⟩
      have hax := h.out.1
      have f5 := fr_step (fr_step f3 f4) h.out.2
      replace f2 := fr_step f2 f5
      have hlx := byL_len 256 x
      have hox := byL_ok 256 x
      generalize hbx : byL 256 x = X at *
      have c1 := write_at (id := (a : Int)) (c := 256) (P.out.fr f5) (by omega) hax.has hlx (by decide) hox
      obtain ⟨e1, e2⟩ := hAU.wr (by rw [hll]; exact hak)
      rw [e1, e2 X hlx] at c1
      have P4 := P.out.fr f5
      clear h f3 f4 f5 e1 e2 cA cB P hax
      go_wp2_with fail
      refine c1.mono ?_
      rintro e w5 ⟨rfl, h⟩
      replace f2 := fr_chg f2 h.out.2 hq
      have P5 := h.out.1
      have AU5 := hAU.set a X
      have L5 : (l0.set a (true, X)).length = k := by simpa using hll
      have R5 := rd_self (l := l0) (a := a) (by omega) X
      generalize l0.set a (true, X) = l1 at *
      have HH := keep (And.intro AU5 (And.intro L5 R5))
      clear h c1 P4 hAU hll AU5 L5 R5
      go_wp2_with fail
      refine (cY _).mono ?_
      rintro e w6 ⟨B, rfl, h⟩
      have hlY := byL_len 256 y
      have hoY := byL_ok 256 y
      generalize byL 256 y = Y at *
      have c1 := write_at (id := (b : Int)) (c := 256) (P5.fr h.out.2) (by omega) h.out.1.has hlY (by decide) hoY
      obtain ⟨e1, e2⟩ := HH.out.1.wr (a := b) (by rw [HH.out.2.1]; exact hbk)
      rw [e1, e2 Y hlY] at c1
      replace f2 := fr_step f2 h.out.2
      clear h e1 e2 P5
      go_wp2_with fail
      with_reducible refine c1.mono ?_
      rintro e w7 ⟨rfl, h⟩
      replace f2 := fr_chg f2 h.out.2 hq
      have P7 := h.out.1
      have AU7 := HH.out.1.set b Y
      have L7 : (l1.set b (true, Y)).length = k := by simpa using HH.out.2.1
      have R7 := rd_set (l := l1) hab (true, Y)
      rw [HH.out.2.2.1, HH.out.2.2.2] at R7
      generalize l1.set b (true, Y) = l2 at *
      clear h c1 HH hlY hoY
      have c1 := read_at (id := (a : Int)) P7 (by omega)
      rw [R7.1, R7.2] at c1
      have HH := keep (And.intro AU7 (And.intro L7 R7))
      have P7h := keep P7
      clear AU7 L7 R7 P7
      go_wp2_with fail
      refine c1.mono ?_
      rintro e w8 ⟨C, m, d, rfl, h⟩
      obtain rfl : m = 256 := by rw [← h.out.1, hlx]
      have hC := h.out.2.1
      have f8 := h.out.2.2
      have s1 : ∀ W, Fr w8 W → (convert 40 9 (.slice C 256 d)).run Try.prog W = .ok (.string (strOfNums X)) W := fun W f => conv_str (hC.fr f).has hlx
      replace f2 := fr_step f2 f8
      have w8d := fr_drew (fr_refl w8)
      have HX := keep hlx
      have HO := keep hox
      have Hbx := keep hbx
      have HC := keep hC
      clear h c1 hlx hox hbx hC
      generalize hS : strOfNums X = S at *
      have HS := keep hS
      clear hS
      have cX2 : ∀ W, Fr w8 W → Calls Try.prog 15 #[.int .i64 256, .int .u8 x] W fun e w' => ∃ A, e = .returned (.slice A 256 256) ∧ Fr w8 w' ∧ (convert 40 9 (.slice A 256 256)).run Try.prog w' = .ok (.string S) w' := fun W f => (cX W).mono fun e w' ⟨A, he, hh⟩ => ⟨A, he, fr_step f hh.out.2, by rw [← HS.out]; exact conv_str hh.out.1.has HX.out⟩
      go_wp2_with fail
      refine wp_region_noPanic ?_
      refine wp_region_held_drew (S := fun W => Fr w8 W) (by kernel_rfl) w8d (fun hHeld => ?_)
      change wpAnyH _ _ _ _ _ _ _ _ _
      refine wpAnyH_take (i := 0) (v := ?_) rfl (by kernel_rfl) (by kernel_rfl) (by kernel_rfl) (fun _ _ _ h => h) (Or.inl ⟨by rfl, ?_⟩) (by assumption) ?_
      rotate_left
      · intro w' hSw
        try dsimp only at hSw
        go_simp
        try with_reducible rfl
      try simp only [List.getElem_toArray, List.getElem_cons_zero, Act.put, List.setIfInBounds_toArray, List.set_cons_zero, List.set_cons_succ]
      refine wpAnyH_take (i := 1) (v := .bool false) rfl (by kernel_rfl) (by kernel_rfl) (by kernel_rfl) (fun _ _ _ h => h) (Or.inl ⟨by rfl, ?_⟩) (by assumption) ?_
      · intro w' hSw
        try dsimp only at hSw
        try go_simp
        all_goals first | done | with_reducible rfl | omega | assumption | (simp; omega)
      try simp only [List.getElem_toArray, List.getElem_cons_succ, List.getElem_cons_zero, Act.put, List.setIfInBounds_toArray, List.set_cons_zero, List.set_cons_succ]
      refine wpAnyH_take (i := 2) (v := .bool false) rfl (by kernel_rfl) (by kernel_rfl) (by kernel_rfl) (fun _ _ _ h => h) (Or.inl ⟨by rfl, ?_⟩) (by assumption) ?_
      · intro w' hSw
        try dsimp only at hSw
        try go_simp
        all_goals first | done | with_reducible rfl | omega | assumption | (simp; omega)
      try simp only [List.getElem_toArray, List.getElem_cons_succ, List.getElem_cons_zero, Act.put, List.setIfInBounds_toArray, List.set_cons_zero, List.set_cons_succ]
      refine wpAnyH_take (i := 3) (v := ?_) rfl (by kernel_rfl) (by kernel_rfl) (by kernel_rfl) (fun _ _ _ h => h) (Or.inl ⟨by rfl, ?_⟩) (by assumption) ?_
      rotate_left
      · intro w' hSw
        try dsimp only at hSw
        go_simp
        try with_reducible rfl
      try simp only [List.getElem_toArray, List.getElem_cons_succ, List.getElem_cons_zero, Act.put, List.setIfInBounds_toArray, List.set_cons_zero, List.set_cons_succ]
      refine wpAnyH_take (i := 4) (v := .bool false) rfl (by kernel_rfl) (by kernel_rfl) (by kernel_rfl) (fun _ _ _ h => h) (Or.inl ⟨by rfl, ?_⟩) (by assumption) ?_
      · intro w' hSw
        try dsimp only at hSw
        try go_simp
        all_goals first | done | with_reducible rfl | omega | assumption | (simp; omega)
      try simp only [List.getElem_toArray, List.getElem_cons_succ, List.getElem_cons_zero, Act.put, List.setIfInBounds_toArray, List.set_cons_zero, List.set_cons_succ]
      refine wpAnyH_take (i := 5) (v := .bool false) rfl (by kernel_rfl) (by kernel_rfl) (by kernel_rfl) (fun _ _ _ h => h) (Or.inl ⟨by rfl, ?_⟩) (by assumption) ?_
      · intro w' hSw
        try dsimp only at hSw
        try go_simp
        all_goals first | done | with_reducible rfl | omega | assumption | (simp; omega)
      try simp only [List.getElem_toArray, List.getElem_cons_succ, List.getElem_cons_zero, Act.put, List.setIfInBounds_toArray, List.set_cons_zero, List.set_cons_succ]
      refine wpAnyH_take (i := 6) (v := .bool false) rfl (by kernel_rfl) (by kernel_rfl) (by kernel_rfl) (fun _ _ _ h => h) (Or.inl ⟨by rfl, ?_⟩) (by assumption) ?_
      · intro w' hSw
        try dsimp only at hSw
        try go_simp
        all_goals first | done | with_reducible rfl | omega | assumption | (simp; omega)
      try simp only [List.getElem_toArray, List.getElem_cons_succ, List.getElem_cons_zero, Act.put, List.setIfInBounds_toArray, List.set_cons_zero, List.set_cons_succ]
      refine wpAnyH_take (i := 7) (v := ?_) rfl (by kernel_rfl) (by kernel_rfl) (by kernel_rfl) (fun _ _ _ h => h) (Or.inl ⟨by rfl, ?_⟩) (by assumption) ?_
      rotate_left
      · intro w' hSw
        try dsimp only at hSw
        go_simp
        try with_reducible rfl
      try simp only [List.getElem_toArray, List.getElem_cons_succ, List.getElem_cons_zero, Act.put, List.setIfInBounds_toArray, List.set_cons_zero, List.set_cons_succ]
      refine wpAnyH_take (i := 8) (v := .bool false) rfl (by kernel_rfl) (by kernel_rfl) (by kernel_rfl) (fun _ _ _ h => h) (Or.inl ⟨by rfl, ?_⟩) (by assumption) ?_
      · intro w' hSw
        try dsimp only at hSw
        try go_simp
        all_goals first | done | with_reducible rfl | omega | assumption | (simp; omega)
      try simp only [List.getElem_toArray, List.getElem_cons_succ, List.getElem_cons_zero, Act.put, List.setIfInBounds_toArray, List.set_cons_zero, List.set_cons_succ]
      refine wpAnyH_take (i := 9) (v := .bool false) rfl (by kernel_rfl) (by kernel_rfl) (by kernel_rfl) (fun _ _ _ h => h) (Or.inl ⟨by rfl, ?_⟩) (by assumption) ?_
      · intro w' hSw
        try dsimp only at hSw
        try go_simp
        all_goals first | done | with_reducible rfl | omega | assumption | (simp; omega)
      try simp only [List.getElem_toArray, List.getElem_cons_succ, List.getElem_cons_zero, Act.put, List.setIfInBounds_toArray, List.set_cons_zero, List.set_cons_succ]
      refine wpAnyH_take (i := 10) (v := .bool false) rfl (by kernel_rfl) (by kernel_rfl) (by kernel_rfl) (fun _ _ _ h => h) (Or.inl ⟨by rfl, ?_⟩) (by assumption) ?_
      · intro w' hSw
        try dsimp only at hSw
        try go_simp
        all_goals first | done | with_reducible rfl | omega | assumption | (simp; omega)
      try simp only [List.getElem_toArray, List.getElem_cons_succ, List.getElem_cons_zero, Act.put, List.setIfInBounds_toArray, List.set_cons_zero, List.set_cons_succ]
      refine wpAnyH_take (i := 11) (v := ?_) rfl (by kernel_rfl) (by kernel_rfl) (by kernel_rfl) (fun _ _ _ h => h) (Or.inl ⟨by rfl, ?_⟩) (by assumption) ?_
      rotate_left
      · intro w' hSw
        try dsimp only at hSw
        go_simp
        try with_reducible rfl
      try simp only [List.getElem_toArray, List.getElem_cons_succ, List.getElem_cons_zero, Act.put, List.setIfInBounds_toArray, List.set_cons_zero, List.set_cons_succ]
      refine wpAnyH_take (i := 12) (v := ?_) rfl (by kernel_rfl) (by kernel_rfl) (by kernel_rfl) (fun _ _ _ h => h) (Or.inl ⟨by rfl, ?_⟩) (by assumption) ?_
      rotate_left
      · intro w' hSw
        try dsimp only at hSw
        go_simp
        try with_reducible rfl
      try simp only [List.getElem_toArray, List.getElem_cons_succ, List.getElem_cons_zero, Act.put, List.setIfInBounds_toArray, List.set_cons_zero, List.set_cons_succ]
      refine wpAnyH_take (i := 13) (v := ?_) rfl (by kernel_rfl) (by kernel_rfl) (by kernel_rfl) (fun _ _ _ h => h) (Or.inl ⟨by rfl, ?_⟩) (by assumption) ?_
      rotate_left
      · intro w' hSw
        try dsimp only at hSw
        go_simp
        try with_reducible rfl
      try simp only [List.getElem_toArray, List.getElem_cons_succ, List.getElem_cons_zero, Act.put, List.setIfInBounds_toArray, List.set_cons_zero, List.set_cons_succ]
      refine wpAnyH_ready (rs := [14]) (by kernel_rfl) (by simp) ?_
      refine AllReadyH.cons rfl (fun K hK0 => ?_) AllReadyH.nil
      go_simp
      refine (cX2 _ (by assumption)).mono ?_
      rintro e wn ⟨A100, rfl, fn100, hc100⟩
      go_simp
      refine hK0.out _ _ fn100 (fun hS => ?_)
      clear hK0 K
      try simp only [List.getElem_toArray, List.getElem_cons_succ, List.getElem_cons_zero, Act.put, List.setIfInBounds_toArray, List.set_cons_zero, List.set_cons_succ]
      refine wpAnyH_ready (rs := [15]) (by kernel_rfl) (by simp) ?_
      refine AllReadyH.cons rfl (fun K hK0 => ?_) AllReadyH.nil
      refine step_convert (by rfl) 40 9 (.tmp 100) rfl hc100 ?_
      refine hK0.out _ _ (by assumption) (fun hS => ?_)
      clear hK0 K
      try simp only [List.getElem_toArray, List.getElem_cons_succ, List.getElem_cons_zero, Act.put, List.setIfInBounds_toArray, List.set_cons_zero, List.set_cons_succ]
      refine wpAnyH_take (i := 16) (v := .bool false) rfl (by kernel_rfl) (by kernel_rfl) (by kernel_rfl) (fun _ _ _ h => h) (Or.inl ⟨by rfl, ?_⟩) (by assumption) ?_
      · intro w' hSw
        try dsimp only at hSw
        try go_simp
        all_goals first | done | with_reducible rfl | omega | assumption | (simp; omega)
      try simp only [List.getElem_toArray, List.getElem_cons_succ, List.getElem_cons_zero, Act.put, List.setIfInBounds_toArray, List.set_cons_zero, List.set_cons_succ]
      refine wpAnyH_take (i := 17) (v := .bool false) rfl (by kernel_rfl) (by kernel_rfl) (by kernel_rfl) (fun _ _ _ h => h) (Or.inl ⟨by rfl, ?_⟩) (by assumption) ?_
      · intro w' hSw
        try dsimp only at hSw
        try go_simp
        all_goals first | done | with_reducible rfl | omega | assumption | (simp; omega)
      try simp only [List.getElem_toArray, List.getElem_cons_succ, List.getElem_cons_zero, Act.put, List.setIfInBounds_toArray, List.set_cons_zero, List.set_cons_succ]
      refine wpAnyH_done (by kernel_rfl) ?_ _
      refine NoPanic.normal ?_
      have hS9 := hS
      have P9 := P7h.out.fr (fr_step f8 hS9)
      replace f2 := fr_step f2 hS9
      have c1 := write_at (id := (b : Int)) (c := d) P9 (by omega) (HC.out.fr hS9).has HX.out (by decide) HO.out
      obtain ⟨e1, e2⟩ := HH.out.1.wr (a := b) (by rw [HH.out.2.1]; exact hbk)
      rw [e1, e2 X HX.out] at c1
      clear e1 e2 P9 cX2
      go_wp2_with fail
      refine c1.mono ?_
      rintro e wb ⟨rfl, h⟩
      replace f2 := fr_chg f2 h.out.2 hq
      have R8 := rd_set (l := l2) hab (true, X)
      rw [HH.out.2.2.1, HH.out.2.2.2] at R8
      have c2 := read_at (id := (a : Int)) h.out.1 (by omega)
      rw [R8.1, R8.2] at c2
      clear h c1 R8
      go_wp2_with fail
      refine c2.mono ?_
      rintro e wc ⟨D, m2, d2, rfl, h⟩
      have fc := h.out.2.2
      have s2 : ∀ W, Fr wc W → (convert 40 9 (.slice D m2 d2)).run Try.prog W = .ok (.string S) W := fun W f => by rw [← HS.out]; exact conv_str (h.out.2.1.fr f).has h.out.1
      replace f2 := fr_step f2 fc
      have wcd := fr_drew (fr_refl wc)
      have cX3 : ∀ W, Fr wc W → Calls Try.prog 15 #[.int .i64 256, .int .u8 x] W fun e w' => ∃ A, e = .returned (.slice A 256 256) ∧ Fr wc w' ∧ (convert 40 9 (.slice A 256 256)).run Try.prog w' = .ok (.string S) w' := fun W f => (cX W).mono fun e w' ⟨A, he, hh⟩ => ⟨A, he, fr_step f hh.out.2, by rw [← HS.out]; exact conv_str hh.out.1.has HX.out⟩
      have cW : ∀ W, Fr wc W → Calls Try.prog 9 #[] W fun e w' => e = .returned (.bool true) ∧ Fr wc w' := fun W f => (awake12 W).mono fun e w' ⟨he, hf⟩ => ⟨he, fr_step f hf⟩
      clear h c2 s1 w8d cX
      go_wp2_with fail
      refine wp_region_noPanic ?_
      refine wp_region_held_drew (S := fun W => Fr wc W) (by kernel_rfl) wcd (fun hHeld => ?_)
      change wpAnyH _ _ _ _ _ _ _ _ _
      refine wpAnyH_take (i := 0) (v := ?_) rfl (by kernel_rfl) (by kernel_rfl) (by kernel_rfl) (fun _ _ _ h => h) (Or.inl ⟨by rfl, ?_⟩) (by assumption) ?_
      rotate_left
      · intro w' hSw
        try dsimp only at hSw
        go_simp
        try with_reducible rfl
      try simp only [List.getElem_toArray, List.getElem_cons_zero, Act.put, List.setIfInBounds_toArray, List.set_cons_zero, List.set_cons_succ]
      refine wpAnyH_take (i := 1) (v := .bool true) rfl (by kernel_rfl) (by kernel_rfl) (by kernel_rfl) (fun _ _ _ h => h) (Or.inl ⟨by rfl, ?_⟩) (by assumption) ?_
      · intro w' hSw
        try dsimp only at hSw
        try go_simp
        all_goals first | done | with_reducible rfl | omega | assumption | (simp; omega)
      try simp only [List.getElem_toArray, List.getElem_cons_succ, List.getElem_cons_zero, Act.put, List.setIfInBounds_toArray, List.set_cons_zero, List.set_cons_succ]
      refine wpAnyH_take (i := 2) (v := .bool true) rfl (by kernel_rfl) (by kernel_rfl) (by kernel_rfl) (fun _ _ _ h => h) (Or.inl ⟨by rfl, ?_⟩) (by assumption) ?_
      · intro w' hSw
        try dsimp only at hSw
        try go_simp
        all_goals first | done | with_reducible rfl | omega | assumption | (simp; omega)
      try simp only [List.getElem_toArray, List.getElem_cons_succ, List.getElem_cons_zero, Act.put, List.setIfInBounds_toArray, List.set_cons_zero, List.set_cons_succ]
      refine wpAnyH_take (i := 3) (v := ?_) rfl (by kernel_rfl) (by kernel_rfl) (by kernel_rfl) (fun _ _ _ h => h) (Or.inl ⟨by rfl, ?_⟩) (by assumption) ?_
      rotate_left
      · intro w' hSw
        try dsimp only at hSw
        go_simp
        try with_reducible rfl
      try simp only [List.getElem_toArray, List.getElem_cons_succ, List.getElem_cons_zero, Act.put, List.setIfInBounds_toArray, List.set_cons_zero, List.set_cons_succ]
      refine wpAnyH_take (i := 4) (v := ?_) rfl (by kernel_rfl) (by kernel_rfl) (by kernel_rfl) (fun _ _ _ h => h) (Or.inl ⟨by rfl, ?_⟩) (by assumption) ?_
      rotate_left
      · intro w' hSw
        try dsimp only at hSw
        go_simp
        try with_reducible rfl
      try simp only [List.getElem_toArray, List.getElem_cons_succ, List.getElem_cons_zero, Act.put, List.setIfInBounds_toArray, List.set_cons_zero, List.set_cons_succ]
      refine wpAnyH_take (i := 5) (v := ?_) rfl (by kernel_rfl) (by kernel_rfl) (by kernel_rfl) (fun _ _ _ h => h) (Or.inl ⟨by rfl, ?_⟩) (by assumption) ?_
      rotate_left
      · intro w' hSw
        try dsimp only at hSw
        go_simp
        try with_reducible rfl
      try simp only [List.getElem_toArray, List.getElem_cons_succ, List.getElem_cons_zero, Act.put, List.setIfInBounds_toArray, List.set_cons_zero, List.set_cons_succ]
      refine wpAnyH_ready (rs := [6]) (by kernel_rfl) (by simp) ?_
      refine AllReadyH.cons rfl (fun K hK0 => ?_) AllReadyH.nil
      go_simp
      refine (cX3 _ (by assumption)).mono ?_
      rintro e wn ⟨A120, rfl, fn120, hc120⟩
      go_simp
      refine hK0.out _ _ fn120 (fun hS => ?_)
      clear hK0 K
      try simp only [List.getElem_toArray, List.getElem_cons_succ, List.getElem_cons_zero, Act.put, List.setIfInBounds_toArray, List.set_cons_zero, List.set_cons_succ]
      refine wpAnyH_ready (rs := [7]) (by kernel_rfl) (by simp) ?_
      refine AllReadyH.cons rfl (fun K hK0 => ?_) AllReadyH.nil
      refine step_convert (by rfl) 40 9 (.tmp 120) rfl hc120 ?_
      refine hK0.out _ _ (by assumption) (fun hS => ?_)
      clear hK0 K
      try simp only [List.getElem_toArray, List.getElem_cons_succ, List.getElem_cons_zero, Act.put, List.setIfInBounds_toArray, List.set_cons_zero, List.set_cons_succ]
      refine wpAnyH_take (i := 8) (v := .bool true) rfl (by kernel_rfl) (by kernel_rfl) (by kernel_rfl) (fun _ _ _ h => h) (Or.inl ⟨by rfl, ?_⟩) (by assumption) ?_
      · intro w' hSw
        try dsimp only at hSw
        try go_simp
        all_goals first | done | with_reducible rfl | omega | assumption | (simp; omega)
      try simp only [List.getElem_toArray, List.getElem_cons_succ, List.getElem_cons_zero, Act.put, List.setIfInBounds_toArray, List.set_cons_zero, List.set_cons_succ]
      refine wpAnyH_take (i := 9) (v := .bool true) rfl (by kernel_rfl) (by kernel_rfl) (by kernel_rfl) (fun _ _ _ h => h) (Or.inl ⟨by rfl, ?_⟩) (by assumption) ?_
      · intro w' hSw
        try dsimp only at hSw
        try go_simp
        all_goals first | done | with_reducible rfl | omega | assumption | (simp; omega)
      try simp only [List.getElem_toArray, List.getElem_cons_succ, List.getElem_cons_zero, Act.put, List.setIfInBounds_toArray, List.set_cons_zero, List.set_cons_succ]
      refine wpAnyH_take (i := 10) (v := .bool true) rfl (by kernel_rfl) (by kernel_rfl) (by kernel_rfl) (fun _ _ _ h => h) (Or.inl ⟨by rfl, ?_⟩) (by assumption) ?_
      · intro w' hSw
        try dsimp only at hSw
        try go_simp
        all_goals first | done | with_reducible rfl | omega | assumption | (simp; omega)
      try simp only [List.getElem_toArray, List.getElem_cons_succ, List.getElem_cons_zero, Act.put, List.setIfInBounds_toArray, List.set_cons_zero, List.set_cons_succ]
      refine wpAnyH_ready (rs := [11]) (by kernel_rfl) (by simp) ?_
      refine AllReadyH.cons rfl (fun K hK0 => ?_) AllReadyH.nil
      go_simp
      refine (cW _ (by assumption)).mono ?_
      rintro e wz ⟨rfl, fz⟩
      go_simp
      refine hK0.out _ _ fz (fun hS => ?_)
      clear hK0 K
      try simp only [List.getElem_toArray, List.getElem_cons_succ, List.getElem_cons_zero, Act.put, List.setIfInBounds_toArray, List.set_cons_zero, List.set_cons_succ]
      refine wpAnyH_take (i := 12) (v := .bool true) rfl (by kernel_rfl) (by kernel_rfl) (by kernel_rfl) (fun _ _ _ h => h) (Or.inl ⟨by rfl, ?_⟩) (by assumption) ?_
      · intro w' hSw
        try dsimp only at hSw
        try go_simp
        all_goals first | done | with_reducible rfl | omega | assumption | (simp; omega)
      try simp only [List.getElem_toArray, List.getElem_cons_succ, List.getElem_cons_zero, Act.put, List.setIfInBounds_toArray, List.set_cons_zero, List.set_cons_succ]
      refine wpAnyH_take (i := 13) (v := ?_) rfl (by kernel_rfl) (by kernel_rfl) (by kernel_rfl) (fun _ _ _ h => h) (Or.inl ⟨by rfl, ?_⟩) (by assumption) ?_
      rotate_left
      · intro w' hSw
        try dsimp only at hSw
        go_simp
        try with_reducible rfl
      try simp only [List.getElem_toArray, List.getElem_cons_succ, List.getElem_cons_zero, Act.put, List.setIfInBounds_toArray, List.set_cons_zero, List.set_cons_succ]
      refine wpAnyH_done (by kernel_rfl) ?_ _
      refine NoPanic.normal ?_
      have hSe := hS
      go_wp2_with fail
      go_ret
      exact ⟨rfl, fr_step f2 hSe⟩
end Go.Proofs.Ytliglcaakhfahaa
