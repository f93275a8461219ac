/- StoreFills, walked. -/
import Derived.Test.YtliglcaakhfahaaStI
namespace Go.Proofs.Ytliglcaakhfahaa
set_option linter.unusedVariables false
set_option linter.unusedSimpArgs false
set_option maxRecDepth 100000
open Go.RowKit
/-- A block freed, and had again. -/
theorem free_again {l : List Slot} (h : AU l) {a : Nat} (ha : a < l.length) (x : List Int) :
    frE (l.set a (true, x)) (a : Int) = 0 ∧ frL (l.set a (true, x)) (a : Int) = l.set a (false, x) ∧ frE (l.set a (false, x)) (a : Int) = 6 ∧ frL (l.set a (false, x)) (a : Int) = l.set a (false, x) ∧ rdE (l.set a (false, x)) (a : Int) = 6 ∧
      alI (l.set a (false, x)) = (a : Int) ∧ alE (l.set a (false, x)) = 0 ∧ alL (l.set a (false, x)) = l.set a (true, z256) := by
  have e1 := atS_nat (List.getElem?_set_self ha (a := ((true, x) : Slot)))
  have e0 : (l.set a (false, x))[a]? = some (false, x) := List.getElem?_set_self ha
  have e2 : atS (l.set a (false, x)) (a : Int) = none := by simp [atS, e0]
  have e3 : frS (l.set a (false, x)) = a := frS_at (b := x) (fun t ht y hy => by
    rw [List.getElem?_set_ne (by omega)] at hy
    obtain ⟨b, hb⟩ := h t (by omega)
    rw [hb] at hy
    injection hy with hy
    rw [← hy]) e0
  have hl : (l.set a (false, x)).length = l.length := List.length_set
  refine ⟨by rw [frE, e1]; rfl, by rw [frL, e1]; simp [List.set_set], by rw [frE, e2]; rfl, by rw [frL, e2], by rw [rdE, e2]; rfl, by rw [alI, e3, hl, if_pos ha], by rw [alE, e3, hl, if_pos ha], by rw [alL, e3, List.set_set]⟩
set_option maxHeartbeats 4000000 in
theorem fills_core {w : World} {n at' : Int} (hn : Is64 n) (hat : Is64 at') :
    Calls Try.prog 5 #[.int .i64 n, .int .i64 at'] w fun e w' => e = .returned (.bool true) ∧ Below w.heap.size w w' := by
  have cP : ∀ W, Calls Try.prog 10 #[.int .i64 n, .int .i64 256] W fun e w' => e = .returned (.int .i64 (n % 256)) ∧ Fr W w' := fun W => law_place n 256 hn (by omega) (by omega) W
  obtain ⟨k, hk, hk2, hk4⟩ : ∃ k : Nat, 1 + n % 256 = (k : Int) ∧ 1 ≤ k ∧ k ≤ 256 := ⟨(1 + n % 256).toNat, by omega, by omega, by omega⟩
  have hb39 : 0 ≤ n % 256 ∧ n % 256 ≤ 255 := by omega
  have cA : ∀ W, Calls Try.prog 10 #[.int .i64 at', .int .i64 (k : Int)] W fun e w' => e = .returned (.int .i64 (at' % k)) ∧ Fr W w' := fun W => law_place at' k hat (by omega) (by omega) W
  have m1 := Int.emod_nonneg at' (b := (k : Int)) (by omega)
  have m2 := Int.emod_lt_of_pos at' (b := (k : Int)) (by omega)
  obtain ⟨a, ha, hak⟩ : ∃ a : Nat, at' % (k : Int) = a ∧ a < k := ⟨(at' % (k : Int)).toNat, by omega, by omega⟩
  rw [ha] at cA
  generalize n % 256 = x0 at *
  clear ha m1 m2 hat hn
  have c0 := fun W => new_yes W k (by omega) (by omega)
  have cX := fun W => bytes_at W 256 (by decide) 3 (by decide)
  rw [show ((256 : Nat) : Int) = 256 from rfl] at cX
  go_enter Try.func5, Try.ntmps5
  go_wp2_with fail
  refine (cP w).mono ?_
  rintro e w0 ⟨rfl, f0⟩
  go_wp2_with fail
  refine (c0 w0).mono ?_
  rintro e w1 ⟨g, q, rfl, h⟩
  have p0 := keep h.out.1
  rw [← filS_zero] at p0
  have f1 := fr_step f0 h.out.2.1
  have hq : w.heap.size ≤ q := Nat.le_trans f0.size h.out.2.2.2
  clear h c0 cP f0
  go_wp2_with fail
  go_loopg [8] k (fun g' s8 wr => ∃ j : Nat, j + g' = k ∧ s8 = .int .i64 j ∧ Hid (PS wr g q (filS k j)) ∧ Hid (Fr w wr))
  case atStart => exact ⟨0, by omega, rfl, p0, keep f1⟩
  case round =>
    obtain ⟨j, hj, rfl, hP, hF⟩ := hrel
    by_cases hlt : j < k
    · have hjz : (j : Int) < (k : Int) := by omega
      have c1 := alloc_at hP.out
      obtain ⟨e1, e2, e3⟩ := al_fil hlt
      rw [e1, e2, e3] at c1
      have hlf := lfN_fil (k := k) (i := j + 1) (by omega)
      have hle : (k : Int) - ((j + 1 : Nat) : Int) = (k : Int) - 1 - j := by omega
      rw [hle] at hlf
      have Hlt := keep hlt
      clear e1 e2 e3 hlt hle
      go_wp2_with fail
      refine c1.mono ?_
      rintro e w2 ⟨rfl, h⟩
      have P2 := keep h.out.1
      have F2 := keep (fr_chg hF.out h.out.2 hq)
      have c2 := left_at h.out.1
      rw [hlf] at c2
      clear h c1 hP hF hlf
      go_wp2_with fail
      refine c2.mono ?_
      rintro e w3 ⟨rfl, f3⟩
      go_wp2_with fail
      go_roundg (gk - 1)
      case measure => omega
      case rel => exact ⟨j + 1, by omega, rfl, keep (P2.out.fr f3), keep (fr_step F2.out f3)⟩
    · have hjn : j = k := by omega
      have hjz : ¬ (j : Int) < (k : Int) := by omega
      have P : PS wr g q (filS k k) := hjn ▸ hP.out
      have hAU := keep (au_fil k)
      have hll := keep (filS_len (Nat.le_refl k))
      have c1 := alloc_at P
      obtain ⟨e1, e2, e3⟩ := al_full k
      rw [e1, e2, e3] at c1
      have f2 := hF.out
      clear hlt hP hF p0 f1 hj hjn P e1 e2 e3
      generalize filS k k = l0 at *
      go_wp2_with fail
      refine c1.mono ?_
      rintro e w2 ⟨rfl, h⟩
      have P2 := keep h.out.1
      replace f2 := fr_chg f2 h.out.2 hq
      clear h c1
      go_wp2_with fail
      refine (cA _).mono ?_
      rintro e w3 ⟨rfl, f3⟩
      go_wp2_with fail
      refine (cX _).mono ?_
      rintro e w4 ⟨A, rfl, h⟩
      have f5 := fr_step f3 h.out.2
      replace f2 := fr_step f2 f5
      have hlx := byL_len 256 3
      have hox := byL_ok 256 3
      have hax := h.out.1.has
      generalize byL 256 3 = X at *
      have c1 := write_at (id := (a : Int)) (c := 256) (P2.out.fr f5) (by omega) hax hlx (by decide) hox
      obtain ⟨e1, e2⟩ := hAU.out.wr (by rw [hll.out]; exact hak)
      rw [e1, e2 X hlx] at c1
      obtain ⟨r1, r2, r3, r4, r5, r6, r7, r8⟩ := free_again hAU.out (a := a) (by rw [hll.out]; exact hak) X
      have r9 := rd_self (l := l0) (a := a) (by rw [hll.out]; exact hak) z256
      generalize hl1 : l0.set a (true, X) = l1 at *
      generalize hl2 : l0.set a (false, X) = l2 at *
      generalize l0.set a (true, z256) = l3 at *
      have HR := keep (And.intro r1 (And.intro r2 (And.intro r3 (And.intro r4 (And.intro r5 (And.intro r6 (And.intro r7 (And.intro r8 r9))))))))
      clear h f3 f5 e1 e2 cA cX P2 hax hlx hox r1 r2 r3 r4 r5 r6 r7 r8 r9 hl1 hl2 hAU hll
      go_wp2_with fail
      refine c1.mono ?_
      rintro e w5 ⟨rfl, h⟩
      replace f2 := fr_chg f2 h.out.2 hq
      have c2 := free_at (id := (a : Int)) h.out.1 (by omega)
      rw [HR.out.1, HR.out.2.1] at c2
      clear h c1
      go_wp2_with fail
      refine c2.mono ?_
      rintro e w6 ⟨rfl, h⟩
      replace f2 := fr_chg f2 h.out.2 hq
      have c3 := free_at (id := (a : Int)) h.out.1 (by omega)
      rw [HR.out.2.2.1, HR.out.2.2.2.1] at c3
      clear h c2
      go_wp2_with fail
      refine c3.mono ?_
      rintro e w7 ⟨rfl, h⟩
      replace f2 := fr_chg f2 h.out.2 hq
      have c4 := read_at (id := (a : Int)) h.out.1 (by omega)
      rw [HR.out.2.2.2.2.1] at c4
      have P7 := keep h.out.1
      clear h c3
      go_wp2_with fail
      refine c4.mono ?_
      rintro e w8 ⟨B, m, d, rfl, h⟩
      have f8 := h.out.2.2
      replace f2 := fr_step f2 f8
      have c5 := alloc_at (P7.out.fr f8)
      rw [HR.out.2.2.2.2.2.1, HR.out.2.2.2.2.2.2.1, HR.out.2.2.2.2.2.2.2.1] at c5
      clear h c4 f8 P7
      go_wp2_with fail
      refine c5.mono ?_
      rintro e w9 ⟨rfl, h⟩
      replace f2 := fr_chg f2 h.out.2 hq
      have c6 := read_at (id := (a : Int)) h.out.1 (by omega)
      rw [HR.out.2.2.2.2.2.2.2.2.1, HR.out.2.2.2.2.2.2.2.2.2] at c6
      clear h c5
      go_wp2_with fail
      refine c6.mono ?_
      rintro e wa ⟨C, m2, d2, rfl, h⟩
      have fa := h.out.2.2
      replace f2 := fr_step f2 fa
      have s1 : ∀ W, Fr wa W → (convert 40 9 (.slice C m2 d2)).run Try.prog W = .ok (.string (strOfNums z256)) W := fun W f => conv_str (h.out.2.1.fr f).has h.out.1
      have s2 : ∀ W : World, (convert 40 9 (.slice (some ⟨W.heap.size, 0, none⟩) 256 256)).run Try.prog (W.alloc (.cells (u8s z256).toArray 5)) = .ok (.string (strOfNums z256)) (W.alloc (.cells (u8s z256).toArray 5)) := fun W => conv_str (B := W.heap.size + 1) (arr_part (Arr.new W _ _) (fun j u hu => by rw [Nat.zero_add]; exact hu)) z256_ok.1
      have hz := u8_zero_make
      generalize strOfNums z256 = S at *
      generalize u8s z256 = zc at *
      have wad := fr_drew (fr_refl wa)
      have cW : ∀ W, Fr wa W → Calls Try.prog 9 #[] W fun e w' => e = .returned (.bool true) ∧ Fr wa w' := fun W f => (awake12 W).mono fun e w' ⟨he, hf⟩ => ⟨he, fr_step f hf⟩
      clear h c6 HR
      go_wp2_with fail
      refine wp_region_noPanic ?_
      refine wp_region_held_drew (S := fun W => Fr wa W) (by kernel_rfl) wad (fun hHeld => ?_)
      change wpAnyH _ _ _ _ _ _ _ _ _
      refine wpAnyH_take (i := 0) (v := ?_) rfl (by kernel_rfl) (by kernel_rfl) (by kernel_rfl) (fun _ _ _ h => h) (Or.inl ⟨by rfl, ?_⟩) (by assumption) ?_
      rotate_left
      · intro w' hSw
        try dsimp only at hSw
        go_simp
        try with_reducible rfl
      try simp only [List.getElem_toArray, List.getElem_cons_zero, Act.put, List.setIfInBounds_toArray, List.set_cons_zero, List.set_cons_succ]
      refine wpAnyH_take (i := 1) (v := .bool true) rfl (by kernel_rfl) (by kernel_rfl) (by kernel_rfl) (fun _ _ _ h => h) (Or.inl ⟨by rfl, ?_⟩) (by assumption) ?_
      · intro w' hSw
        try dsimp only at hSw
        try go_simp
        all_goals first | done | with_reducible rfl | omega | assumption | (simp; omega)
      try simp only [List.getElem_toArray, List.getElem_cons_succ, List.getElem_cons_zero, Act.put, List.setIfInBounds_toArray, List.set_cons_zero, List.set_cons_succ]
      refine wpAnyH_take (i := 2) (v := .bool true) rfl (by kernel_rfl) (by kernel_rfl) (by kernel_rfl) (fun _ _ _ h => h) (Or.inl ⟨by rfl, ?_⟩) (by assumption) ?_
      · intro w' hSw
        try dsimp only at hSw
        try go_simp
        all_goals first | done | with_reducible rfl | omega | assumption | (simp; omega)
      try simp only [List.getElem_toArray, List.getElem_cons_succ, List.getElem_cons_zero, Act.put, List.setIfInBounds_toArray, List.set_cons_zero, List.set_cons_succ]
      refine wpAnyH_take (i := 3) (v := ?_) rfl (by kernel_rfl) (by kernel_rfl) (by kernel_rfl) (fun _ _ _ h => h) (Or.inl ⟨by rfl, ?_⟩) (by assumption) ?_
      rotate_left
      · intro w' hSw
        try dsimp only at hSw
        go_simp
        try with_reducible rfl
      try simp only [List.getElem_toArray, List.getElem_cons_succ, List.getElem_cons_zero, Act.put, List.setIfInBounds_toArray, List.set_cons_zero, List.set_cons_succ]
      refine wpAnyH_take (i := 4) (v := .bool true) rfl (by kernel_rfl) (by kernel_rfl) (by kernel_rfl) (fun _ _ _ h => h) (Or.inl ⟨by rfl, ?_⟩) (by assumption) ?_
      · intro w' hSw
        try dsimp only at hSw
        try go_simp
        all_goals first | done | with_reducible rfl | omega | assumption | (simp; omega)
      try simp only [List.getElem_toArray, List.getElem_cons_succ, List.getElem_cons_zero, Act.put, List.setIfInBounds_toArray, List.set_cons_zero, List.set_cons_succ]
      refine wpAnyH_take (i := 5) (v := .bool true) rfl (by kernel_rfl) (by kernel_rfl) (by kernel_rfl) (fun _ _ _ h => h) (Or.inl ⟨by rfl, ?_⟩) (by assumption) ?_
      · intro w' hSw
        try dsimp only at hSw
        try go_simp
        all_goals first | done | with_reducible rfl | omega | assumption | (simp; omega)
      try simp only [List.getElem_toArray, List.getElem_cons_succ, List.getElem_cons_zero, Act.put, List.setIfInBounds_toArray, List.set_cons_zero, List.set_cons_succ]
      refine wpAnyH_take (i := 6) (v := .bool true) rfl (by kernel_rfl) (by kernel_rfl) (by kernel_rfl) (fun _ _ _ h => h) (Or.inl ⟨by rfl, ?_⟩) (by assumption) ?_
      · intro w' hSw
        try dsimp only at hSw
        try go_simp
        all_goals first | done | with_reducible rfl | omega | assumption | (simp; omega)
      try simp only [List.getElem_toArray, List.getElem_cons_succ, List.getElem_cons_zero, Act.put, List.setIfInBounds_toArray, List.set_cons_zero, List.set_cons_succ]
      refine wpAnyH_take (i := 7) (v := ?_) rfl (by kernel_rfl) (by kernel_rfl) (by kernel_rfl) (fun _ _ _ h => h) (Or.inl ⟨by rfl, ?_⟩) (by assumption) ?_
      rotate_left
      · intro w' hSw
        try dsimp only at hSw
        go_simp
        try with_reducible rfl
      try simp only [List.getElem_toArray, List.getElem_cons_succ, List.getElem_cons_zero, Act.put, List.setIfInBounds_toArray, List.set_cons_zero, List.set_cons_succ]
      refine wpAnyH_take (i := 8) (v := .bool true) rfl (by kernel_rfl) (by kernel_rfl) (by kernel_rfl) (fun _ _ _ h => h) (Or.inl ⟨by rfl, ?_⟩) (by assumption) ?_
      · intro w' hSw
        try dsimp only at hSw
        try go_simp
        all_goals first | done | with_reducible rfl | omega | assumption | (simp; omega)
      try simp only [List.getElem_toArray, List.getElem_cons_succ, List.getElem_cons_zero, Act.put, List.setIfInBounds_toArray, List.set_cons_zero, List.set_cons_succ]
      refine wpAnyH_take (i := 9) (v := .bool true) rfl (by kernel_rfl) (by kernel_rfl) (by kernel_rfl) (fun _ _ _ h => h) (Or.inl ⟨by rfl, ?_⟩) (by assumption) ?_
      · intro w' hSw
        try dsimp only at hSw
        try go_simp
        all_goals first | done | with_reducible rfl | omega | assumption | (simp; omega)
      try simp only [List.getElem_toArray, List.getElem_cons_succ, List.getElem_cons_zero, Act.put, List.setIfInBounds_toArray, List.set_cons_zero, List.set_cons_succ]
      refine wpAnyH_take (i := 10) (v := .bool true) rfl (by kernel_rfl) (by kernel_rfl) (by kernel_rfl) (fun _ _ _ h => h) (Or.inl ⟨by rfl, ?_⟩) (by assumption) ?_
      · intro w' hSw
        try dsimp only at hSw
        try go_simp
        all_goals first | done | with_reducible rfl | omega | assumption | (simp; omega)
      try simp only [List.getElem_toArray, List.getElem_cons_succ, List.getElem_cons_zero, Act.put, List.setIfInBounds_toArray, List.set_cons_zero, List.set_cons_succ]
      refine wpAnyH_take (i := 11) (v := ?_) rfl (by kernel_rfl) (by kernel_rfl) (by kernel_rfl) (fun _ _ _ h => h) (Or.inl ⟨by rfl, ?_⟩) (by assumption) ?_
      rotate_left
      · intro w' hSw
        try dsimp only at hSw
        go_simp
        try with_reducible rfl
      try simp only [List.getElem_toArray, List.getElem_cons_succ, List.getElem_cons_zero, Act.put, List.setIfInBounds_toArray, List.set_cons_zero, List.set_cons_succ]
      refine wpAnyH_take (i := 12) (v := .bool true) rfl (by kernel_rfl) (by kernel_rfl) (by kernel_rfl) (fun _ _ _ h => h) (Or.inl ⟨by rfl, ?_⟩) (by assumption) ?_
      · intro w' hSw
        try dsimp only at hSw
        try go_simp
        all_goals first | done | with_reducible rfl | omega | assumption | (simp; omega)
      try simp only [List.getElem_toArray, List.getElem_cons_succ, List.getElem_cons_zero, Act.put, List.setIfInBounds_toArray, List.set_cons_zero, List.set_cons_succ]
      refine wpAnyH_take (i := 13) (v := .bool true) rfl (by kernel_rfl) (by kernel_rfl) (by kernel_rfl) (fun _ _ _ h => h) (Or.inl ⟨by rfl, ?_⟩) (by assumption) ?_
      · intro w' hSw
        try dsimp only at hSw
        try go_simp
        all_goals first | done | with_reducible rfl | omega | assumption | (simp; omega)
      try simp only [List.getElem_toArray, List.getElem_cons_succ, List.getElem_cons_zero, Act.put, List.setIfInBounds_toArray, List.set_cons_zero, List.set_cons_succ]
      refine wpAnyH_take (i := 14) (v := .bool true) rfl (by kernel_rfl) (by kernel_rfl) (by kernel_rfl) (fun _ _ _ h => h) (Or.inl ⟨by rfl, ?_⟩) (by assumption) ?_
      · intro w' hSw
        try dsimp only at hSw
        try go_simp
        all_goals first | done | with_reducible rfl | omega | assumption | (simp; omega)
      try simp only [List.getElem_toArray, List.getElem_cons_succ, List.getElem_cons_zero, Act.put, List.setIfInBounds_toArray, List.set_cons_zero, List.set_cons_succ]
      refine wpAnyH_take (i := 15) (v := ?_) rfl (by kernel_rfl) (by kernel_rfl) (by kernel_rfl) (fun _ _ _ h => h) (Or.inl ⟨by rfl, ?_⟩) (by assumption) ?_
      rotate_left
      · intro w' hSw
        try dsimp only at hSw
        go_simp
        try with_reducible rfl
      try simp only [List.getElem_toArray, List.getElem_cons_succ, List.getElem_cons_zero, Act.put, List.setIfInBounds_toArray, List.set_cons_zero, List.set_cons_succ]
      refine wpAnyH_take (i := 16) (v := .bool true) rfl (by kernel_rfl) (by kernel_rfl) (by kernel_rfl) (fun _ _ _ h => h) (Or.inl ⟨by rfl, ?_⟩) (by assumption) ?_
      · intro w' hSw
        try dsimp only at hSw
        try go_simp
        all_goals first | done | with_reducible rfl | omega | assumption | (simp; omega)
      try simp only [List.getElem_toArray, List.getElem_cons_succ, List.getElem_cons_zero, Act.put, List.setIfInBounds_toArray, List.set_cons_zero, List.set_cons_succ]
      refine wpAnyH_take (i := 17) (v := .bool true) rfl (by kernel_rfl) (by kernel_rfl) (by kernel_rfl) (fun _ _ _ h => h) (Or.inl ⟨by rfl, ?_⟩) (by assumption) ?_
      · intro w' hSw
        try dsimp only at hSw
        try go_simp
        all_goals first | done | with_reducible rfl | omega | assumption | (simp; omega)
      try simp only [List.getElem_toArray, List.getElem_cons_succ, List.getElem_cons_zero, Act.put, List.setIfInBounds_toArray, List.set_cons_zero, List.set_cons_succ]
      refine wpAnyH_take (i := 18) (v := .bool true) rfl (by kernel_rfl) (by kernel_rfl) (by kernel_rfl) (fun _ _ _ h => h) (Or.inl ⟨by rfl, ?_⟩) (by assumption) ?_
      · intro w' hSw
        try dsimp only at hSw
        try go_simp
        all_goals first | done | with_reducible rfl | omega | assumption | (simp; omega)
      try simp only [List.getElem_toArray, List.getElem_cons_succ, List.getElem_cons_zero, Act.put, List.setIfInBounds_toArray, List.set_cons_zero, List.set_cons_succ]
      refine wpAnyH_take (i := 19) (v := ?_) rfl (by kernel_rfl) (by kernel_rfl) (by kernel_rfl) (fun _ _ _ h => h) (Or.inl ⟨by rfl, ?_⟩) (by assumption) ?_
      rotate_left
      · intro w' hSw
        try dsimp only at hSw
        go_simp
        try with_reducible rfl
      try simp only [List.getElem_toArray, List.getElem_cons_succ, List.getElem_cons_zero, Act.put, List.setIfInBounds_toArray, List.set_cons_zero, List.set_cons_succ]
      refine wpAnyH_take (i := 20) (v := .bool true) rfl (by kernel_rfl) (by kernel_rfl) (by kernel_rfl) (fun _ _ _ h => h) (Or.inl ⟨by rfl, ?_⟩) (by assumption) ?_
      · intro w' hSw
        try dsimp only at hSw
        try go_simp
        all_goals first | done | with_reducible rfl | omega | assumption | (simp; omega)
      try simp only [List.getElem_toArray, List.getElem_cons_succ, List.getElem_cons_zero, Act.put, List.setIfInBounds_toArray, List.set_cons_zero, List.set_cons_succ]
      refine wpAnyH_take (i := 21) (v := .bool true) rfl (by kernel_rfl) (by kernel_rfl) (by kernel_rfl) (fun _ _ _ h => h) (Or.inl ⟨by rfl, ?_⟩) (by assumption) ?_
      · intro w' hSw
        try dsimp only at hSw
        try go_simp
        all_goals first | done | with_reducible rfl | omega | assumption | (simp; omega)
      try simp only [List.getElem_toArray, List.getElem_cons_succ, List.getElem_cons_zero, Act.put, List.setIfInBounds_toArray, List.set_cons_zero, List.set_cons_succ]
      refine wpAnyH_take (i := 22) (v := .bool true) rfl (by kernel_rfl) (by kernel_rfl) (by kernel_rfl) (fun _ _ _ h => h) (Or.inl ⟨by rfl, ?_⟩) (by assumption) ?_
      · intro w' hSw
        try dsimp only at hSw
        try go_simp
        all_goals first | done | with_reducible rfl | omega | assumption | (simp; omega)
      try simp only [List.getElem_toArray, List.getElem_cons_succ, List.getElem_cons_zero, Act.put, List.setIfInBounds_toArray, List.set_cons_zero, List.set_cons_succ]
      refine wpAnyH_take (i := 23) (v := ?_) rfl (by kernel_rfl) (by kernel_rfl) (by kernel_rfl) (fun _ _ _ h => h) (Or.inl ⟨by rfl, ?_⟩) (by assumption) ?_
      rotate_left
      · intro w' hSw
        try dsimp only at hSw
        go_simp
        try with_reducible rfl
      try simp only [List.getElem_toArray, List.getElem_cons_succ, List.getElem_cons_zero, Act.put, List.setIfInBounds_toArray, List.set_cons_zero, List.set_cons_succ]
      refine wpAnyH_take (i := 24) (v := ?_) rfl (by kernel_rfl) (by kernel_rfl) (by kernel_rfl) (fun _ _ _ h => h) (Or.inl ⟨by rfl, ?_⟩) (by assumption) ?_
      rotate_left
      · intro w' hSw
        try dsimp only at hSw
        go_simp
        try with_reducible rfl
      try simp only [List.getElem_toArray, List.getElem_cons_succ, List.getElem_cons_zero, Act.put, List.setIfInBounds_toArray, List.set_cons_zero, List.set_cons_succ]
      refine wpAnyH_take (i := 25) (v := .bool true) rfl (by kernel_rfl) (by kernel_rfl) (by kernel_rfl) (fun _ _ _ h => h) (Or.inl ⟨by rfl, ?_⟩) (by assumption) ?_
      · intro w' hSw
        try dsimp only at hSw
        try go_simp
        all_goals first | done | with_reducible rfl | omega | assumption | (simp; omega)
      try simp only [List.getElem_toArray, List.getElem_cons_succ, List.getElem_cons_zero, Act.put, List.setIfInBounds_toArray, List.set_cons_zero, List.set_cons_succ]
      refine wpAnyH_take (i := 26) (v := .bool true) rfl (by kernel_rfl) (by kernel_rfl) (by kernel_rfl) (fun _ _ _ h => h) (Or.inl ⟨by rfl, ?_⟩) (by assumption) ?_
      · intro w' hSw
        try dsimp only at hSw
        try go_simp
        all_goals first | done | with_reducible rfl | omega | assumption | (simp; omega)
      try simp only [List.getElem_toArray, List.getElem_cons_succ, List.getElem_cons_zero, Act.put, List.setIfInBounds_toArray, List.set_cons_zero, List.set_cons_succ]
      refine wpAnyH_take (i := 27) (v := .bool true) rfl (by kernel_rfl) (by kernel_rfl) (by kernel_rfl) (fun _ _ _ h => h) (Or.inl ⟨by rfl, ?_⟩) (by assumption) ?_
      · intro w' hSw
        try dsimp only at hSw
        try go_simp
        all_goals first | done | with_reducible rfl | omega | assumption | (simp; omega)
      try simp only [List.getElem_toArray, List.getElem_cons_succ, List.getElem_cons_zero, Act.put, List.setIfInBounds_toArray, List.set_cons_zero, List.set_cons_succ]
      refine wpAnyH_take (i := 28) (v := ?_) rfl (by kernel_rfl) (by kernel_rfl) (by kernel_rfl) (fun _ _ _ h => h) (Or.inl ⟨by rfl, ?_⟩) (by assumption) ?_
      rotate_left
      · intro w' hSw
        try dsimp only at hSw
        go_simp
        try with_reducible rfl
      try simp only [List.getElem_toArray, List.getElem_cons_succ, List.getElem_cons_zero, Act.put, List.setIfInBounds_toArray, List.set_cons_zero, List.set_cons_succ]
      refine wpAnyH_take (i := 29) (v := .bool true) rfl (by kernel_rfl) (by kernel_rfl) (by kernel_rfl) (fun _ _ _ h => h) (Or.inl ⟨by rfl, ?_⟩) (by assumption) ?_
      · intro w' hSw
        try dsimp only at hSw
        try go_simp
        all_goals first | done | with_reducible rfl | omega | assumption | (simp; omega)
      try simp only [List.getElem_toArray, List.getElem_cons_succ, List.getElem_cons_zero, Act.put, List.setIfInBounds_toArray, List.set_cons_zero, List.set_cons_succ]
      refine wpAnyH_take (i := 30) (v := .bool true) rfl (by kernel_rfl) (by kernel_rfl) (by kernel_rfl) (fun _ _ _ h => h) (Or.inl ⟨by rfl, ?_⟩) (by assumption) ?_
      · intro w' hSw
        try dsimp only at hSw
        try go_simp
        all_goals first | done | with_reducible rfl | omega | assumption | (simp; omega)
      try simp only [List.getElem_toArray, List.getElem_cons_succ, List.getElem_cons_zero, Act.put, List.setIfInBounds_toArray, List.set_cons_zero, List.set_cons_succ]
      refine wpAnyH_take (i := 31) (v := .bool true) rfl (by kernel_rfl) (by kernel_rfl) (by kernel_rfl) (fun _ _ _ h => h) (Or.inl ⟨by rfl, ?_⟩) (by assumption) ?_
      · intro w' hSw
        try dsimp only at hSw
        try go_simp
        all_goals first | done | with_reducible rfl | omega | assumption | (simp; omega)
      try simp only [List.getElem_toArray, List.getElem_cons_succ, List.getElem_cons_zero, Act.put, List.setIfInBounds_toArray, List.set_cons_zero, List.set_cons_succ]
      refine wpAnyH_take (i := 32) (v := ?_) rfl (by kernel_rfl) (by kernel_rfl) (by kernel_rfl) (fun _ _ _ h => h) (Or.inl ⟨by rfl, ?_⟩) (by assumption) ?_
      rotate_left
      · intro w' hSw
        try dsimp only at hSw
        go_simp
        try with_reducible rfl
      try simp only [List.getElem_toArray, List.getElem_cons_succ, List.getElem_cons_zero, Act.put, List.setIfInBounds_toArray, List.set_cons_zero, List.set_cons_succ]
      refine wpAnyH_take (i := 33) (v := ?_) rfl (by kernel_rfl) (by kernel_rfl) (by kernel_rfl) (fun _ _ _ h => h) (Or.inl ⟨by rfl, ?_⟩) (by assumption) ?_
      rotate_left
      · intro w' hSw
        try dsimp only at hSw
        go_simp
        try with_reducible rfl
      try simp only [List.getElem_toArray, List.getElem_cons_succ, List.getElem_cons_zero, Act.put, List.setIfInBounds_toArray, List.set_cons_zero, List.set_cons_succ]
      refine wpAnyH_ready (rs := [34]) (by kernel_rfl) (by simp) ?_
      refine AllReadyH.cons rfl (fun K hK0 => ?_) AllReadyH.nil
      refine step_make (by rfl) (.const (.int .i64 256)) (.const (.int .i64 256)) 40 rfl (hz _) ?_
      refine hK0.out _ _ (fr_new (by assumption) _) (fun hS => ?_)
      clear hK0 K
      try simp only [List.getElem_toArray, List.getElem_cons_succ, List.getElem_cons_zero, Act.put, List.setIfInBounds_toArray, List.set_cons_zero, List.set_cons_succ]
      refine wpAnyH_ready (rs := [35]) (by kernel_rfl) (by simp) ?_
      refine AllReadyH.cons rfl (fun K hK0 => ?_) AllReadyH.nil
      refine step_convert (by rfl) 40 9 (.tmp 132) rfl (s2 _) ?_
      refine hK0.out _ _ (by assumption) (fun hS => ?_)
      clear hK0 K
      try simp only [List.getElem_toArray, List.getElem_cons_succ, List.getElem_cons_zero, Act.put, List.setIfInBounds_toArray, List.set_cons_zero, List.set_cons_succ]
      refine wpAnyH_take (i := 36) (v := .bool true) rfl (by kernel_rfl) (by kernel_rfl) (by kernel_rfl) (fun _ _ _ h => h) (Or.inl ⟨by rfl, ?_⟩) (by assumption) ?_
      · intro w' hSw
        try dsimp only at hSw
        try go_simp
        all_goals first | done | with_reducible rfl | omega | assumption | (simp; omega)
      try simp only [List.getElem_toArray, List.getElem_cons_succ, List.getElem_cons_zero, Act.put, List.setIfInBounds_toArray, List.set_cons_zero, List.set_cons_succ]
      refine wpAnyH_take (i := 37) (v := .bool true) rfl (by kernel_rfl) (by kernel_rfl) (by kernel_rfl) (fun _ _ _ h => h) (Or.inl ⟨by rfl, ?_⟩) (by assumption) ?_
      · intro w' hSw
        try dsimp only at hSw
        try go_simp
        all_goals first | done | with_reducible rfl | omega | assumption | (simp; omega)
      try simp only [List.getElem_toArray, List.getElem_cons_succ, List.getElem_cons_zero, Act.put, List.setIfInBounds_toArray, List.set_cons_zero, List.set_cons_succ]
      refine wpAnyH_take (i := 38) (v := .bool true) rfl (by kernel_rfl) (by kernel_rfl) (by kernel_rfl) (fun _ _ _ h => h) (Or.inl ⟨by rfl, ?_⟩) (by assumption) ?_
      · intro w' hSw
        try dsimp only at hSw
        try go_simp
        all_goals first | done | with_reducible rfl | omega | assumption | (simp; omega)
      try simp only [List.getElem_toArray, List.getElem_cons_succ, List.getElem_cons_zero, Act.put, List.setIfInBounds_toArray, List.set_cons_zero, List.set_cons_succ]
      refine wpAnyH_ready (rs := [39]) (by kernel_rfl) (by simp) ?_
      refine AllReadyH.cons rfl (fun K hK0 => ?_) AllReadyH.nil
      go_simp
      refine (cW _ (by assumption)).mono ?_
      rintro e wz ⟨rfl, fz⟩
      go_simp
      refine hK0.out _ _ fz (fun hS => ?_)
      clear hK0 K
      try simp only [List.getElem_toArray, List.getElem_cons_succ, List.getElem_cons_zero, Act.put, List.setIfInBounds_toArray, List.set_cons_zero, List.set_cons_succ]
      refine wpAnyH_take (i := 40) (v := .bool true) rfl (by kernel_rfl) (by kernel_rfl) (by kernel_rfl) (fun _ _ _ h => h) (Or.inl ⟨by rfl, ?_⟩) (by assumption) ?_
      · intro w' hSw
        try dsimp only at hSw
        try go_simp
        all_goals first | done | with_reducible rfl | omega | assumption | (simp; omega)
      try simp only [List.getElem_toArray, List.getElem_cons_succ, List.getElem_cons_zero, Act.put, List.setIfInBounds_toArray, List.set_cons_zero, List.set_cons_succ]
      refine wpAnyH_take (i := 41) (v := ?_) rfl (by kernel_rfl) (by kernel_rfl) (by kernel_rfl) (fun _ _ _ h => h) (Or.inl ⟨by rfl, ?_⟩) (by assumption) ?_
      rotate_left
      · intro w' hSw
        try dsimp only at hSw
        go_simp
        try with_reducible rfl
      try simp only [List.getElem_toArray, List.getElem_cons_succ, List.getElem_cons_zero, Act.put, List.setIfInBounds_toArray, List.set_cons_zero, List.set_cons_succ]
      refine wpAnyH_done (by kernel_rfl) ?_ _
      refine NoPanic.normal ?_
      have hSe := hS
      go_wp2_with fail
      go_ret
      exact ⟨rfl, fr_step f2 hSe⟩
end Go.Proofs.Ytliglcaakhfahaa
