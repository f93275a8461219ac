/- StoreRefuses, walked. -/
import Derived.Test.YtliglcaakhfahaaStH
namespace Go.Proofs.Ytliglcaakhfahaa
set_option linter.unusedVariables false
set_option linter.unusedSimpArgs false
set_option maxRecDepth 100000
open Go.RowKit
section
variable (x y z : List Int)
theorem atS_one {id : Int} (h : id ≠ 0) : atS [(true, x), (false, y), (false, z)] id = none := by
  unfold atS
  split
  · rename_i h0
    obtain ⟨k, rfl⟩ := Int.eq_ofNat_of_zero_le h0
    simp only [Int.ofNat_eq_natCast, Int.toNat_natCast]
    rcases k with _ | _ | _ | k
    · exact absurd rfl h
    · rfl
    · rfl
    · rfl
  · rfl
theorem atS_zero : atS [(true, x), (false, y), (false, z)] 0 = some x := rfl
theorem three0 : alI [(false, x), (false, y), (false, z)] = 0 ∧ alE [(false, x), (false, y), (false, z)] = 0 ∧ alL [(false, x), (false, y), (false, z)] = [(true, z256), (false, y), (false, z)] := by
  simp [alI, alE, alL, frS, List.findIdx_cons]
theorem three1 : lfN [(true, x), (false, y), (false, z)] = 2 := by
  simp [lfN, usL, usJ]
end
theorem z256_def : z256 = List.replicate 256 0 := rfl
set_option maxHeartbeats 4000000 in
theorem refuses_core {w : World} {id long : Int} (hid : Is64 id) (hlong : Is64 long) :
    Calls Try.prog 6 #[.int .i64 id, .int .i64 long] w fun e w' => e = .returned (.bool true) ∧ Below w.heap.size w w' := by
  have c0 := new_yes w 3 (by decide) (by decide)
  rw [show ((3 : Nat) : Int) = 3 from rfl] at c0
  have cP : ∀ W, Calls Try.prog 10 #[.int .i64 long, .int .i64 600] W fun e w' => e = .returned (.int .i64 (long % 600)) ∧ Fr W w' := fun W => law_place long 600 hlong (by omega) (by omega) W
  obtain ⟨m, hm, hm6⟩ : ∃ m : Nat, long % 600 = m ∧ m < 600 := ⟨(long % 600).toNat, by omega, by omega⟩
  rw [hm] at cP
  clear hm
  unfold Is64 at hid
  go_enter Try.func6, Try.ntmps6
  go_wp2_with fail
  refine c0.mono ?_
  rintro e w1 ⟨g, q, rfl, h⟩
  have p0 : PS w1 g q [(false, z256), (false, z256), (false, z256)] := h.out.1
  have f1 := h.out.2.1
  have hq := h.out.2.2.2
  have c1 := alloc_at p0
  obtain ⟨e1, e2, e3⟩ := three0 z256 z256 z256
  rw [e1, e2, e3] at c1
  clear h p0 c0 e1 e2 e3
  go_wp2_with fail
  refine c1.mono ?_
  rintro e w2 ⟨rfl, h⟩
  replace f1 := fr_chg f1 h.out.2 hq
  have P := keep h.out.1
  clear c1 h
  go_wp2_with fail
  refine (cP w2).mono ?_
  rintro e w3 ⟨rfl, f3⟩
  have c2 := bytes_at w3 m (by omega) 5 (by decide)
  go_wp2_with fail
  refine c2.mono ?_
  rintro e w4 ⟨A, rfl, h⟩
  have f4 := fr_step f3 h.out.2
  have Hb := keep h.out.1.has
  clear c2 h cP
  have Q := keep (P.out.fr f4)
  replace f1 := fr_step f1 f4
  have lenb := byL_len m 5
  have c3 := write_at (id := id) (c := m) Q.out hid Hb.out lenb (by omega) (byL_ok _ _)
  by_cases h0 : id = 0
  · subst h0
    by_cases h256 : m = 256
    · subst h256
      have hok : (byL 256 5).length = 256 ∧ Bytes (byL 256 5) := ⟨byL_len _ _, byL_ok _ _⟩
      have e1 : wrE [(true, z256), (false, z256), (false, z256)] 0 256 = 0 := rfl
      have e2 : wrL [(true, z256), (false, z256), (false, z256)] 0 (byL 256 5) = [(true, byL 256 5), (false, z256), (false, z256)] := by rw [wrL, if_pos ⟨rfl, hok.1⟩]; rfl
      rw [e1, e2] at c3
      generalize byL 256 5 = bb at *
      clear e1 e2 hok lenb
      go_wp2_with fail
      refine c3.mono ?_
      rintro e w5 ⟨rfl, h⟩
      replace f1 := fr_chg f1 h.out.2 hq
      have c4 := read_at (id := 0) h.out.1 (by decide)
      have P5 := keep h.out.1
      clear h c3
      rw [show rdE [(true, bb), (false, z256), (false, z256)] 0 = 0 from rfl, show rdB [(true, bb), (false, z256), (false, z256)] 0 = bb from rfl] at c4
      go_wp2_with fail
      refine c4.mono ?_
      rintro e w6 ⟨A2, n2, d2, rfl, h⟩
      have fz := h.out.2.2
      have w6d := fr_drew (fr_refl w6)
      replace f1 := fr_step f1 fz
      have c5 := fun W f => read_at (id := 0) (P5.out.fr (fr_step fz (w' := W) f)) (by decide)
      rw [show rdE [(true, bb), (false, z256), (false, z256)] 0 = 0 from rfl] at c5
      have L1 := three1 bb z256 z256
      clear h c4
      go_wp2_with fail
      refine wp_region_noPanic ?_
      refine wp_region_held_drew (S := fun W => Fr w6 W) (by kernel_rfl) w6d (fun hHeld => ?_)
      change wpAnyH _ _ _ _ _ _ _ _ _
      refine wpAnyH_take (i := 0) (v := ?_) rfl (by kernel_rfl) (by kernel_rfl) (by kernel_rfl) (fun _ _ _ h => h) (Or.inl ⟨by rfl, ?_⟩) (by assumption) ?_
      rotate_left
      · intro w' hSw
        try dsimp only at hSw
        go_simp
        try with_reducible rfl
      try simp only [List.getElem_toArray, List.getElem_cons_zero, Act.put, List.setIfInBounds_toArray, List.set_cons_zero, List.set_cons_succ]
      refine wpAnyH_take (i := 1) (v := ?_) rfl (by kernel_rfl) (by kernel_rfl) (by kernel_rfl) (fun _ _ _ h => h) (Or.inl ⟨by rfl, ?_⟩) (by assumption) ?_
      rotate_left
      · intro w' hSw
        try dsimp only at hSw
        go_simp
        try with_reducible rfl
      try simp only [List.getElem_toArray, List.getElem_cons_succ, List.getElem_cons_zero, Act.put, List.setIfInBounds_toArray, List.set_cons_zero, List.set_cons_succ]
      refine wpAnyH_take (i := 2) (v := .bool false) rfl (by kernel_rfl) (by kernel_rfl) (by kernel_rfl) (fun _ _ _ h => h) (Or.inl ⟨by rfl, ?_⟩) (by assumption) ?_
      · intro w' hSw
        try dsimp only at hSw
        try go_simp
        all_goals first | done | with_reducible rfl | omega | assumption | (simp; omega)
      try simp only [List.getElem_toArray, List.getElem_cons_succ, List.getElem_cons_zero, Act.put, List.setIfInBounds_toArray, List.set_cons_zero, List.set_cons_succ]
      refine wpAnyH_take (i := 3) (v := .bool false) rfl (by kernel_rfl) (by kernel_rfl) (by kernel_rfl) (fun _ _ _ h => h) (Or.inl ⟨by rfl, ?_⟩) (by assumption) ?_
      · intro w' hSw
        try dsimp only at hSw
        try go_simp
        all_goals first | done | with_reducible rfl | omega | assumption | (simp; omega)
      try simp only [List.getElem_toArray, List.getElem_cons_succ, List.getElem_cons_zero, Act.put, List.setIfInBounds_toArray, List.set_cons_zero, List.set_cons_succ]
      refine wpAnyH_take (i := 4) (v := ?_) rfl (by kernel_rfl) (by kernel_rfl) (by kernel_rfl) (fun _ _ _ h => h) (Or.inl ⟨by rfl, ?_⟩) (by assumption) ?_
      rotate_left
      · intro w' hSw
        try dsimp only at hSw
        go_simp
        try with_reducible rfl
      try simp only [List.getElem_toArray, List.getElem_cons_succ, List.getElem_cons_zero, Act.put, List.setIfInBounds_toArray, List.set_cons_zero, List.set_cons_succ]
      refine wpAnyH_take (i := 5) (v := .bool false) rfl (by kernel_rfl) (by kernel_rfl) (by kernel_rfl) (fun _ _ _ h => h) (Or.inl ⟨by rfl, ?_⟩) (by assumption) ?_
      · intro w' hSw
        try dsimp only at hSw
        try go_simp
        all_goals first | done | with_reducible rfl | omega | assumption | (simp; omega)
      try simp only [List.getElem_toArray, List.getElem_cons_succ, List.getElem_cons_zero, Act.put, List.setIfInBounds_toArray, List.set_cons_zero, List.set_cons_succ]
      refine wpAnyH_take (i := 6) (v := .bool false) rfl (by kernel_rfl) (by kernel_rfl) (by kernel_rfl) (fun _ _ _ h => h) (Or.inl ⟨by rfl, ?_⟩) (by assumption) ?_
      · intro w' hSw
        try dsimp only at hSw
        try go_simp
        all_goals first | done | with_reducible rfl | omega | assumption | (simp; omega)
      try simp only [List.getElem_toArray, List.getElem_cons_succ, List.getElem_cons_zero, Act.put, List.setIfInBounds_toArray, List.set_cons_zero, List.set_cons_succ]
      refine wpAnyH_take (i := 7) (v := .bool false) rfl (by kernel_rfl) (by kernel_rfl) (by kernel_rfl) (fun _ _ _ h => h) (Or.inl ⟨by rfl, ?_⟩) (by assumption) ?_
      · intro w' hSw
        try dsimp only at hSw
        try go_simp
        all_goals first | done | with_reducible rfl | omega | assumption | (simp; omega)
      try simp only [List.getElem_toArray, List.getElem_cons_succ, List.getElem_cons_zero, Act.put, List.setIfInBounds_toArray, List.set_cons_zero, List.set_cons_succ]
      refine wpAnyH_take (i := 8) (v := ?_) rfl (by kernel_rfl) (by kernel_rfl) (by kernel_rfl) (fun _ _ _ h => h) (Or.inl ⟨by rfl, ?_⟩) (by assumption) ?_
      rotate_left
      · intro w' hSw
        try dsimp only at hSw
        go_simp
        try with_reducible rfl
      try simp only [List.getElem_toArray, List.getElem_cons_succ, List.getElem_cons_zero, Act.put, List.setIfInBounds_toArray, List.set_cons_zero, List.set_cons_succ]
      refine wpAnyH_take (i := 9) (v := .bool false) rfl (by kernel_rfl) (by kernel_rfl) (by kernel_rfl) (fun _ _ _ h => h) (Or.inl ⟨by rfl, ?_⟩) (by assumption) ?_
      · intro w' hSw
        try dsimp only at hSw
        try go_simp
        all_goals first | done | with_reducible rfl | omega | assumption | (simp; omega)
      try simp only [List.getElem_toArray, List.getElem_cons_succ, List.getElem_cons_zero, Act.put, List.setIfInBounds_toArray, List.set_cons_zero, List.set_cons_succ]
      refine wpAnyH_take (i := 10) (v := .bool false) rfl (by kernel_rfl) (by kernel_rfl) (by kernel_rfl) (fun _ _ _ h => h) (Or.inl ⟨by rfl, ?_⟩) (by assumption) ?_
      · intro w' hSw
        try dsimp only at hSw
        try go_simp
        all_goals first | done | with_reducible rfl | omega | assumption | (simp; omega)
      try simp only [List.getElem_toArray, List.getElem_cons_succ, List.getElem_cons_zero, Act.put, List.setIfInBounds_toArray, List.set_cons_zero, List.set_cons_succ]
      refine wpAnyH_take (i := 11) (v := undef) rfl (by kernel_rfl) (by kernel_rfl) (by kernel_rfl) (fun _ _ _ h => h) (Or.inr ⟨by rfl, rfl⟩) (by assumption) ?_
      try simp only [List.getElem_toArray, List.getElem_cons_succ, List.getElem_cons_zero, Act.put, List.setIfInBounds_toArray, List.set_cons_zero, List.set_cons_succ]
      refine wpAnyH_take (i := 12) (v := undef) rfl (by kernel_rfl) (by kernel_rfl) (by kernel_rfl) (fun _ _ _ h => h) (Or.inr ⟨by rfl, rfl⟩) (by assumption) ?_
      try simp only [List.getElem_toArray, List.getElem_cons_succ, List.getElem_cons_zero, Act.put, List.setIfInBounds_toArray, List.set_cons_zero, List.set_cons_succ]
      refine wpAnyH_take (i := 13) (v := undef) rfl (by kernel_rfl) (by kernel_rfl) (by kernel_rfl) (fun _ _ _ h => h) (Or.inr ⟨by rfl, rfl⟩) (by assumption) ?_
      try simp only [List.getElem_toArray, List.getElem_cons_succ, List.getElem_cons_zero, Act.put, List.setIfInBounds_toArray, List.set_cons_zero, List.set_cons_succ]
      refine wpAnyH_take (i := 14) (v := undef) rfl (by kernel_rfl) (by kernel_rfl) (by kernel_rfl) (fun _ _ _ h => h) (Or.inr ⟨by rfl, rfl⟩) (by assumption) ?_
      try simp only [List.getElem_toArray, List.getElem_cons_succ, List.getElem_cons_zero, Act.put, List.setIfInBounds_toArray, List.set_cons_zero, List.set_cons_succ]
      refine wpAnyH_take (i := 15) (v := undef) rfl (by kernel_rfl) (by kernel_rfl) (by kernel_rfl) (fun _ _ _ h => h) (Or.inr ⟨by rfl, rfl⟩) (by assumption) ?_
      try simp only [List.getElem_toArray, List.getElem_cons_succ, List.getElem_cons_zero, Act.put, List.setIfInBounds_toArray, List.set_cons_zero, List.set_cons_succ]
      refine wpAnyH_take (i := 16) (v := .bool false) rfl (by kernel_rfl) (by kernel_rfl) (by kernel_rfl) (fun _ _ _ h => h) (Or.inl ⟨by rfl, ?_⟩) (by assumption) ?_
      · intro w' hSw
        try dsimp only at hSw
        try go_simp
        all_goals first | done | with_reducible rfl | omega | assumption | (simp; omega)
      try simp only [List.getElem_toArray, List.getElem_cons_succ, List.getElem_cons_zero, Act.put, List.setIfInBounds_toArray, List.set_cons_zero, List.set_cons_succ]
      refine wpAnyH_take (i := 17) (v := .bool false) rfl (by kernel_rfl) (by kernel_rfl) (by kernel_rfl) (fun _ _ _ h => h) (Or.inl ⟨by rfl, ?_⟩) (by assumption) ?_
      · intro w' hSw
        try dsimp only at hSw
        try go_simp
        all_goals first | done | with_reducible rfl | omega | assumption | (simp; omega)
      try simp only [List.getElem_toArray, List.getElem_cons_succ, List.getElem_cons_zero, Act.put, List.setIfInBounds_toArray, List.set_cons_zero, List.set_cons_succ]
      refine wpAnyH_done (by kernel_rfl) ?_ _
      refine NoPanic.normal ?_
      go_wp2_with fail
      refine (c5 _ (by first | exact hS7 | exact w6d)).mono ?_
      rintro e w8 ⟨A3, n3, d3, rfl, h⟩
      have P8 := P5.out.fr (fr_step (fr_step fz w6d) h.out.2.2)
      have c6 := left_at P8
      rw [L1] at c6
      have f8 := fr_step (fr_step f1 w6d) h.out.2.2
      clear h
      go_wp2_with fail
      refine c6.mono ?_
      rintro e w9 ⟨rfl, f9⟩
      go_wp2_with fail
      refine (awake12 w9).mono ?_
      rintro e wa ⟨rfl, fa⟩
      go_wp2_with fail
      go_ret
      exact ⟨rfl, fr_step f8 (fr_step f9 fa)⟩
    · have e1 : wrE [(true, z256), (false, z256), (false, z256)] 0 m = 1 := by simp [wrE, atS, h256]
      have e2 : wrL [(true, z256), (false, z256), (false, z256)] 0 (byL m 5) = [(true, z256), (false, z256), (false, z256)] := by rw [wrL, if_neg (fun h => h256 (by rw [← lenb]; exact h.2))]
      rw [e1, e2] at c3
      have hne : ((m : Int) != 256) = true := by rw [bne_iff_ne]; omega
      clear e1 e2 lenb h256
      go_wp2_with fail
      refine c3.mono ?_
      rintro e w5 ⟨rfl, h⟩
      replace f1 := fr_chg f1 h.out.2 hq
      have c4 := read_at (id := 0) h.out.1 (by decide)
      have P5 := keep h.out.1
      clear h c3
      rw [show rdE [(true, z256), (false, z256), (false, z256)] 0 = 0 from rfl, show rdB [(true, z256), (false, z256), (false, z256)] 0 = z256 from rfl] at c4
      go_wp2_with fail
      refine c4.mono ?_
      rintro e w6 ⟨A2, n2, d2, rfl, h⟩
      have fz := h.out.2.2
      have c5 := fun W f => read_at (id := 0) (P5.out.fr (fr_step fz (w' := W) f)) (by decide)
      rw [show rdE [(true, z256), (false, z256), (false, z256)] 0 = 0 from rfl] at c5
      have L1 := three1 z256 z256 z256
      have s1 : ∀ W, Fr w6 W → (convert 40 9 (.slice A2 n2 d2)).run Try.prog W = .ok (.string (strOfNums z256)) W := fun W f => conv_str (h.out.2.1.fr f).has h.out.1
      have s2 : ∀ W : World, (convert 40 9 (.slice (some ⟨W.heap.size, 0, none⟩) 256 256)).run Try.prog (W.alloc (.cells (u8s z256).toArray 5)) = .ok (.string (strOfNums z256)) (W.alloc (.cells (u8s z256).toArray 5)) := fun W => conv_str (B := W.heap.size + 1) (arr_part (Arr.new W _ _) (fun j u hu => by rw [Nat.zero_add]; exact hu)) z256_ok.1
      have hz := u8_zero_make
      generalize strOfNums z256 = S at *
      generalize u8s z256 = zc at *
      have w6d := fr_drew (fr_refl w6)
      replace f1 := fr_step f1 fz
      clear h c4
      go_wp2_with fail
      refine wp_region_noPanic ?_
      refine wp_region_held_drew (S := fun W => Fr w6 W) (by kernel_rfl) w6d (fun hHeld => ?_)
      change wpAnyH _ _ _ _ _ _ _ _ _
      refine wpAnyH_take (i := 0) (v := ?_) rfl (by kernel_rfl) (by kernel_rfl) (by kernel_rfl) (fun _ _ _ h => h) (Or.inl ⟨by rfl, ?_⟩) (by assumption) ?_
      rotate_left
      · intro w' hSw
        try dsimp only at hSw
        go_simp
        try with_reducible rfl
      try simp only [List.getElem_toArray, List.getElem_cons_zero, Act.put, List.setIfInBounds_toArray, List.set_cons_zero, List.set_cons_succ]
      refine wpAnyH_take (i := 1) (v := ?_) rfl (by kernel_rfl) (by kernel_rfl) (by kernel_rfl) (fun _ _ _ h => h) (Or.inl ⟨by rfl, ?_⟩) (by assumption) ?_
      rotate_left
      · intro w' hSw
        try dsimp only at hSw
        go_simp
        try with_reducible rfl
      try simp only [List.getElem_toArray, List.getElem_cons_succ, List.getElem_cons_zero, Act.put, List.setIfInBounds_toArray, List.set_cons_zero, List.set_cons_succ]
      refine wpAnyH_take (i := 2) (v := .bool false) rfl (by kernel_rfl) (by kernel_rfl) (by kernel_rfl) (fun _ _ _ h => h) (Or.inl ⟨by rfl, ?_⟩) (by assumption) ?_
      · intro w' hSw
        try dsimp only at hSw
        try go_simp
        all_goals first | done | with_reducible rfl | omega | assumption | (simp; omega)
      try simp only [List.getElem_toArray, List.getElem_cons_succ, List.getElem_cons_zero, Act.put, List.setIfInBounds_toArray, List.set_cons_zero, List.set_cons_succ]
      refine wpAnyH_take (i := 3) (v := .bool false) rfl (by kernel_rfl) (by kernel_rfl) (by kernel_rfl) (fun _ _ _ h => h) (Or.inl ⟨by rfl, ?_⟩) (by assumption) ?_
      · intro w' hSw
        try dsimp only at hSw
        try go_simp
        all_goals first | done | with_reducible rfl | omega | assumption | (simp; omega)
      try simp only [List.getElem_toArray, List.getElem_cons_succ, List.getElem_cons_zero, Act.put, List.setIfInBounds_toArray, List.set_cons_zero, List.set_cons_succ]
      refine wpAnyH_take (i := 4) (v := ?_) rfl (by kernel_rfl) (by kernel_rfl) (by kernel_rfl) (fun _ _ _ h => h) (Or.inl ⟨by rfl, ?_⟩) (by assumption) ?_
      rotate_left
      · intro w' hSw
        try dsimp only at hSw
        go_simp
        try with_reducible rfl
      try simp only [List.getElem_toArray, List.getElem_cons_succ, List.getElem_cons_zero, Act.put, List.setIfInBounds_toArray, List.set_cons_zero, List.set_cons_succ]
      refine wpAnyH_take (i := 5) (v := .bool false) rfl (by kernel_rfl) (by kernel_rfl) (by kernel_rfl) (fun _ _ _ h => h) (Or.inl ⟨by rfl, ?_⟩) (by assumption) ?_
      · intro w' hSw
        try dsimp only at hSw
        try go_simp
        all_goals first | done | with_reducible rfl | omega | assumption | (simp; omega)
      try simp only [List.getElem_toArray, List.getElem_cons_succ, List.getElem_cons_zero, Act.put, List.setIfInBounds_toArray, List.set_cons_zero, List.set_cons_succ]
      refine wpAnyH_take (i := 6) (v := .bool false) rfl (by kernel_rfl) (by kernel_rfl) (by kernel_rfl) (fun _ _ _ h => h) (Or.inl ⟨by rfl, ?_⟩) (by assumption) ?_
      · intro w' hSw
        try dsimp only at hSw
        try go_simp
        all_goals first | done | with_reducible rfl | omega | assumption | (simp; omega)
      try simp only [List.getElem_toArray, List.getElem_cons_succ, List.getElem_cons_zero, Act.put, List.setIfInBounds_toArray, List.set_cons_zero, List.set_cons_succ]
      refine wpAnyH_take (i := 7) (v := .bool false) rfl (by kernel_rfl) (by kernel_rfl) (by kernel_rfl) (fun _ _ _ h => h) (Or.inl ⟨by rfl, ?_⟩) (by assumption) ?_
      · intro w' hSw
        try dsimp only at hSw
        try go_simp
        all_goals first | done | with_reducible rfl | omega | assumption | (simp; omega)
      try simp only [List.getElem_toArray, List.getElem_cons_succ, List.getElem_cons_zero, Act.put, List.setIfInBounds_toArray, List.set_cons_zero, List.set_cons_succ]
      refine wpAnyH_take (i := 8) (v := ?_) rfl (by kernel_rfl) (by kernel_rfl) (by kernel_rfl) (fun _ _ _ h => h) (Or.inl ⟨by rfl, ?_⟩) (by assumption) ?_
      rotate_left
      · intro w' hSw
        try dsimp only at hSw
        go_simp
        try with_reducible rfl
      try simp only [List.getElem_toArray, List.getElem_cons_succ, List.getElem_cons_zero, Act.put, List.setIfInBounds_toArray, List.set_cons_zero, List.set_cons_succ]
      refine wpAnyH_take (i := 9) (v := .bool true) rfl (by kernel_rfl) (by kernel_rfl) (by kernel_rfl) (fun _ _ _ h => h) (Or.inl ⟨by rfl, ?_⟩) (by assumption) ?_
      · intro w' hSw
        try dsimp only at hSw
        try go_simp
        all_goals first | done | with_reducible rfl | omega | assumption | (simp; omega)
      try simp only [List.getElem_toArray, List.getElem_cons_succ, List.getElem_cons_zero, Act.put, List.setIfInBounds_toArray, List.set_cons_zero, List.set_cons_succ]
      refine wpAnyH_take (i := 10) (v := .bool true) rfl (by kernel_rfl) (by kernel_rfl) (by kernel_rfl) (fun _ _ _ h => h) (Or.inl ⟨by rfl, ?_⟩) (by assumption) ?_
      · intro w' hSw
        try dsimp only at hSw
        try go_simp
        all_goals first | done | with_reducible rfl | omega | assumption | (simp; omega)
      try simp only [List.getElem_toArray, List.getElem_cons_succ, List.getElem_cons_zero, Act.put, List.setIfInBounds_toArray, List.set_cons_zero, List.set_cons_succ]
      refine wpAnyH_take (i := 11) (v := ?_) rfl (by kernel_rfl) (by kernel_rfl) (by kernel_rfl) (fun _ _ _ h => h) (Or.inl ⟨by rfl, ?_⟩) (by assumption) ?_
      rotate_left
      · intro w' hSw
        try dsimp only at hSw
        go_simp
        try with_reducible rfl
      try simp only [List.getElem_toArray, List.getElem_cons_succ, List.getElem_cons_zero, Act.put, List.setIfInBounds_toArray, List.set_cons_zero, List.set_cons_succ]
      refine wpAnyH_take (i := 12) (v := ?_) rfl (by kernel_rfl) (by kernel_rfl) (by kernel_rfl) (fun _ _ _ h => h) (Or.inl ⟨by rfl, ?_⟩) (by assumption) ?_
      rotate_left
      · intro w' hSw
        try dsimp only at hSw
        go_simp
        try with_reducible rfl
      try simp only [List.getElem_toArray, List.getElem_cons_succ, List.getElem_cons_zero, Act.put, List.setIfInBounds_toArray, List.set_cons_zero, List.set_cons_succ]
      refine wpAnyH_ready (rs := [13]) (by kernel_rfl) (by simp) ?_
      refine AllReadyH.cons rfl (fun K hK0 => ?_) AllReadyH.nil
      refine step_make (by rfl) (.const (.int .i64 256)) (.const (.int .i64 256)) 40 rfl (hz _) ?_
      refine hK0.out _ _ (fr_new (by assumption) _) (fun _ => ?_)
      clear hK0 K
      try simp only [List.getElem_toArray, List.getElem_cons_succ, List.getElem_cons_zero, Act.put, List.setIfInBounds_toArray, List.set_cons_zero, List.set_cons_succ]
      refine wpAnyH_ready (rs := [14]) (by kernel_rfl) (by simp) ?_
      refine AllReadyH.cons rfl (fun K hK0 => ?_) AllReadyH.nil
      refine step_convert (by rfl) 40 9 (.tmp 58) rfl (s2 _) ?_
      refine hK0.out _ _ (by assumption) (fun hS7 => ?_)
      clear hK0 K
      try simp only [List.getElem_toArray, List.getElem_cons_succ, List.getElem_cons_zero, Act.put, List.setIfInBounds_toArray, List.set_cons_zero, List.set_cons_succ]
      refine wpAnyH_take (i := 15) (v := .bool false) rfl (by kernel_rfl) (by kernel_rfl) (by kernel_rfl) (fun _ _ _ h => h) (Or.inl ⟨by rfl, ?_⟩) (by assumption) ?_
      · intro w' hSw
        try dsimp only at hSw
        try go_simp
        all_goals first | done | with_reducible rfl | omega | assumption | (simp; omega)
      try simp only [List.getElem_toArray, List.getElem_cons_succ, List.getElem_cons_zero, Act.put, List.setIfInBounds_toArray, List.set_cons_zero, List.set_cons_succ]
      refine wpAnyH_take (i := 16) (v := .bool false) rfl (by kernel_rfl) (by kernel_rfl) (by kernel_rfl) (fun _ _ _ h => h) (Or.inl ⟨by rfl, ?_⟩) (by assumption) ?_
      · intro w' hSw
        try dsimp only at hSw
        try go_simp
        all_goals first | done | with_reducible rfl | omega | assumption | (simp; omega)
      try simp only [List.getElem_toArray, List.getElem_cons_succ, List.getElem_cons_zero, Act.put, List.setIfInBounds_toArray, List.set_cons_zero, List.set_cons_succ]
      refine wpAnyH_take (i := 17) (v := .bool false) rfl (by kernel_rfl) (by kernel_rfl) (by kernel_rfl) (fun _ _ _ h => h) (Or.inl ⟨by rfl, ?_⟩) (by assumption) ?_
      · intro w' hSw
        try dsimp only at hSw
        try go_simp
        all_goals first | done | with_reducible rfl | omega | assumption | (simp; omega)
      try simp only [List.getElem_toArray, List.getElem_cons_succ, List.getElem_cons_zero, Act.put, List.setIfInBounds_toArray, List.set_cons_zero, List.set_cons_succ]
      refine wpAnyH_done (by kernel_rfl) ?_ _
      refine NoPanic.normal ?_
      go_wp2_with fail
      refine (c5 _ hS7).mono ?_
      rintro e w8 ⟨A3, n3, d3, rfl, h⟩
      have P8 := P5.out.fr (fr_step (fr_step fz hS7) h.out.2.2)
      have c6 := left_at P8
      rw [L1] at c6
      have f8 := fr_step (fr_step f1 hS7) h.out.2.2
      clear h
      go_wp2_with fail
      refine c6.mono ?_
      rintro e w9 ⟨rfl, f9⟩
      go_wp2_with fail
      refine (awake12 w9).mono ?_
      rintro e wa ⟨rfl, fa⟩
      go_wp2_with fail
      go_ret
      exact ⟨rfl, fr_step f8 (fr_step f9 fa)⟩
  · have ha := atS_one z256 z256 z256 h0
    have e1 : wrE [(true, z256), (false, z256), (false, z256)] id m = 6 := by rw [wrE, ha]; rfl
    have e2 : wrL [(true, z256), (false, z256), (false, z256)] id (byL m 5) = [(true, z256), (false, z256), (false, z256)] := by rw [wrL, ha, if_neg (fun h => by cases h.1)]
    rw [e1, e2] at c3
    have hne : (id != 0) = true := by rw [bne_iff_ne]; exact h0
    have heq : (id == 0) = false := by simpa using h0
    have HA := keep ha
    clear e1 e2 ha h0
    go_wp2_with fail
    refine c3.mono ?_
    rintro e w5 ⟨rfl, h⟩
    replace f1 := fr_chg f1 h.out.2 hq
    have c4 := read_at (id := 0) h.out.1 (by decide)
    have P5 := keep h.out.1
    clear h c3
    rw [show rdE [(true, z256), (false, z256), (false, z256)] 0 = 0 from rfl, show rdB [(true, z256), (false, z256), (false, z256)] 0 = z256 from rfl] at c4
    go_wp2_with fail
    refine c4.mono ?_
    rintro e w6 ⟨A2, n2, d2, rfl, h⟩
    have fz := h.out.2.2
    have c5 := fun W f => read_at (id := id) (P5.out.fr (fr_step fz (w' := W) f)) hid
    rw [show rdE [(true, z256), (false, z256), (false, z256)] id = 6 from by rw [rdE, HA.out]; rfl, show rdB [(true, z256), (false, z256), (false, z256)] id = [] from by rw [rdB, HA.out]; rfl] at c5
    have L1 := three1 z256 z256 z256
    have s1 : ∀ W, Fr w6 W → (convert 40 9 (.slice A2 n2 d2)).run Try.prog W = .ok (.string (strOfNums z256)) W := fun W f => conv_str (h.out.2.1.fr f).has h.out.1
    have s2 : ∀ W : World, (convert 40 9 (.slice (some ⟨W.heap.size, 0, none⟩) 256 256)).run Try.prog (W.alloc (.cells (u8s z256).toArray 5)) = .ok (.string (strOfNums z256)) (W.alloc (.cells (u8s z256).toArray 5)) := fun W => conv_str (B := W.heap.size + 1) (arr_part (Arr.new W _ _) (fun j u hu => by rw [Nat.zero_add]; exact hu)) z256_ok.1
    have hz := u8_zero_make
    generalize strOfNums z256 = S at *
    generalize u8s z256 = zc at *
    have w6d := fr_drew (fr_refl w6)
    replace f1 := fr_step f1 fz
    clear h c4
    go_wp2_with fail
    refine wp_region_noPanic ?_
    refine wp_region_held_drew (S := fun W => Fr w6 W) (by kernel_rfl) w6d (fun hHeld => ?_)
    change wpAnyH _ _ _ _ _ _ _ _ _
    refine wpAnyH_take (i := 0) (v := ?_) rfl (by kernel_rfl) (by kernel_rfl) (by kernel_rfl) (fun _ _ _ h => h) (Or.inl ⟨by rfl, ?_⟩) (by assumption) ?_
    rotate_left
    · intro w' hSw
      try dsimp only at hSw
      go_simp
      try with_reducible rfl
    try simp only [List.getElem_toArray, List.getElem_cons_zero, Act.put, List.setIfInBounds_toArray, List.set_cons_zero, List.set_cons_succ]
    refine wpAnyH_take (i := 1) (v := ?_) rfl (by kernel_rfl) (by kernel_rfl) (by kernel_rfl) (fun _ _ _ h => h) (Or.inl ⟨by rfl, ?_⟩) (by assumption) ?_
    rotate_left
    · intro w' hSw
      try dsimp only at hSw
      go_simp
      try with_reducible rfl
    try simp only [List.getElem_toArray, List.getElem_cons_succ, List.getElem_cons_zero, Act.put, List.setIfInBounds_toArray, List.set_cons_zero, List.set_cons_succ]
    refine wpAnyH_take (i := 2) (v := .bool false) rfl (by kernel_rfl) (by kernel_rfl) (by kernel_rfl) (fun _ _ _ h => h) (Or.inl ⟨by rfl, ?_⟩) (by assumption) ?_
    · intro w' hSw
      try dsimp only at hSw
      try go_simp
      all_goals first | done | with_reducible rfl | omega | assumption | (simp; omega)
    try simp only [List.getElem_toArray, List.getElem_cons_succ, List.getElem_cons_zero, Act.put, List.setIfInBounds_toArray, List.set_cons_zero, List.set_cons_succ]
    refine wpAnyH_take (i := 3) (v := .bool false) rfl (by kernel_rfl) (by kernel_rfl) (by kernel_rfl) (fun _ _ _ h => h) (Or.inl ⟨by rfl, ?_⟩) (by assumption) ?_
    · intro w' hSw
      try dsimp only at hSw
      try go_simp
      all_goals first | done | with_reducible rfl | omega | assumption | (simp; omega)
    try simp only [List.getElem_toArray, List.getElem_cons_succ, List.getElem_cons_zero, Act.put, List.setIfInBounds_toArray, List.set_cons_zero, List.set_cons_succ]
    refine wpAnyH_take (i := 4) (v := ?_) rfl (by kernel_rfl) (by kernel_rfl) (by kernel_rfl) (fun _ _ _ h => h) (Or.inl ⟨by rfl, ?_⟩) (by assumption) ?_
    rotate_left
    · intro w' hSw
      try dsimp only at hSw
      go_simp
      try with_reducible rfl
    try simp only [List.getElem_toArray, List.getElem_cons_succ, List.getElem_cons_zero, Act.put, List.setIfInBounds_toArray, List.set_cons_zero, List.set_cons_succ]
    refine wpAnyH_take (i := 5) (v := .bool false) rfl (by kernel_rfl) (by kernel_rfl) (by kernel_rfl) (fun _ _ _ h => h) (Or.inl ⟨by rfl, ?_⟩) (by assumption) ?_
    · intro w' hSw
      try dsimp only at hSw
      try go_simp
      all_goals first | done | with_reducible rfl | omega | assumption | (simp; omega)
    try simp only [List.getElem_toArray, List.getElem_cons_succ, List.getElem_cons_zero, Act.put, List.setIfInBounds_toArray, List.set_cons_zero, List.set_cons_succ]
    refine wpAnyH_take (i := 6) (v := .bool false) rfl (by kernel_rfl) (by kernel_rfl) (by kernel_rfl) (fun _ _ _ h => h) (Or.inl ⟨by rfl, ?_⟩) (by assumption) ?_
    · intro w' hSw
      try dsimp only at hSw
      try go_simp
      all_goals first | done | with_reducible rfl | omega | assumption | (simp; omega)
    try simp only [List.getElem_toArray, List.getElem_cons_succ, List.getElem_cons_zero, Act.put, List.setIfInBounds_toArray, List.set_cons_zero, List.set_cons_succ]
    refine wpAnyH_take (i := 7) (v := .bool false) rfl (by kernel_rfl) (by kernel_rfl) (by kernel_rfl) (fun _ _ _ h => h) (Or.inl ⟨by rfl, ?_⟩) (by assumption) ?_
    · intro w' hSw
      try dsimp only at hSw
      try go_simp
      all_goals first | done | with_reducible rfl | omega | assumption | (simp; omega)
    try simp only [List.getElem_toArray, List.getElem_cons_succ, List.getElem_cons_zero, Act.put, List.setIfInBounds_toArray, List.set_cons_zero, List.set_cons_succ]
    refine wpAnyH_take (i := 8) (v := ?_) rfl (by kernel_rfl) (by kernel_rfl) (by kernel_rfl) (fun _ _ _ h => h) (Or.inl ⟨by rfl, ?_⟩) (by assumption) ?_
    rotate_left
    · intro w' hSw
      try dsimp only at hSw
      go_simp
      try with_reducible rfl
    try simp only [List.getElem_toArray, List.getElem_cons_succ, List.getElem_cons_zero, Act.put, List.setIfInBounds_toArray, List.set_cons_zero, List.set_cons_succ]
    refine wpAnyH_take (i := 9) (v := .bool true) rfl (by kernel_rfl) (by kernel_rfl) (by kernel_rfl) (fun _ _ _ h => h) (Or.inl ⟨by rfl, ?_⟩) (by assumption) ?_
    · intro w' hSw
      try dsimp only at hSw
      try go_simp
      all_goals first | done | with_reducible rfl | omega | assumption | (simp; omega)
    try simp only [List.getElem_toArray, List.getElem_cons_succ, List.getElem_cons_zero, Act.put, List.setIfInBounds_toArray, List.set_cons_zero, List.set_cons_succ]
    refine wpAnyH_take (i := 10) (v := .bool true) rfl (by kernel_rfl) (by kernel_rfl) (by kernel_rfl) (fun _ _ _ h => h) (Or.inl ⟨by rfl, ?_⟩) (by assumption) ?_
    · intro w' hSw
      try dsimp only at hSw
      try go_simp
      all_goals first | done | with_reducible rfl | omega | assumption | (simp; omega)
    try simp only [List.getElem_toArray, List.getElem_cons_succ, List.getElem_cons_zero, Act.put, List.setIfInBounds_toArray, List.set_cons_zero, List.set_cons_succ]
    refine wpAnyH_take (i := 11) (v := ?_) rfl (by kernel_rfl) (by kernel_rfl) (by kernel_rfl) (fun _ _ _ h => h) (Or.inl ⟨by rfl, ?_⟩) (by assumption) ?_
    rotate_left
    · intro w' hSw
      try dsimp only at hSw
      go_simp
      try with_reducible rfl
    try simp only [List.getElem_toArray, List.getElem_cons_succ, List.getElem_cons_zero, Act.put, List.setIfInBounds_toArray, List.set_cons_zero, List.set_cons_succ]
    refine wpAnyH_take (i := 12) (v := ?_) rfl (by kernel_rfl) (by kernel_rfl) (by kernel_rfl) (fun _ _ _ h => h) (Or.inl ⟨by rfl, ?_⟩) (by assumption) ?_
    rotate_left
    · intro w' hSw
      try dsimp only at hSw
      go_simp
      try with_reducible rfl
    try simp only [List.getElem_toArray, List.getElem_cons_succ, List.getElem_cons_zero, Act.put, List.setIfInBounds_toArray, List.set_cons_zero, List.set_cons_succ]
    refine wpAnyH_ready (rs := [13]) (by kernel_rfl) (by simp) ?_
    refine AllReadyH.cons rfl (fun K hK0 => ?_) AllReadyH.nil
    refine step_make (by rfl) (.const (.int .i64 256)) (.const (.int .i64 256)) 40 rfl (hz _) ?_
    refine hK0.out _ _ (fr_new (by assumption) _) (fun _ => ?_)
    clear hK0 K
    try simp only [List.getElem_toArray, List.getElem_cons_succ, List.getElem_cons_zero, Act.put, List.setIfInBounds_toArray, List.set_cons_zero, List.set_cons_succ]
    refine wpAnyH_ready (rs := [14]) (by kernel_rfl) (by simp) ?_
    refine AllReadyH.cons rfl (fun K hK0 => ?_) AllReadyH.nil
    refine step_convert (by rfl) 40 9 (.tmp 58) rfl (s2 _) ?_
    refine hK0.out _ _ (by assumption) (fun hS7 => ?_)
    clear hK0 K
    try simp only [List.getElem_toArray, List.getElem_cons_succ, List.getElem_cons_zero, Act.put, List.setIfInBounds_toArray, List.set_cons_zero, List.set_cons_succ]
    refine wpAnyH_take (i := 15) (v := .bool false) rfl (by kernel_rfl) (by kernel_rfl) (by kernel_rfl) (fun _ _ _ h => h) (Or.inl ⟨by rfl, ?_⟩) (by assumption) ?_
    · intro w' hSw
      try dsimp only at hSw
      try go_simp
      all_goals first | done | with_reducible rfl | omega | assumption | (simp; omega)
    try simp only [List.getElem_toArray, List.getElem_cons_succ, List.getElem_cons_zero, Act.put, List.setIfInBounds_toArray, List.set_cons_zero, List.set_cons_succ]
    refine wpAnyH_take (i := 16) (v := .bool false) rfl (by kernel_rfl) (by kernel_rfl) (by kernel_rfl) (fun _ _ _ h => h) (Or.inl ⟨by rfl, ?_⟩) (by assumption) ?_
    · intro w' hSw
      try dsimp only at hSw
      try go_simp
      all_goals first | done | with_reducible rfl | omega | assumption | (simp; omega)
    try simp only [List.getElem_toArray, List.getElem_cons_succ, List.getElem_cons_zero, Act.put, List.setIfInBounds_toArray, List.set_cons_zero, List.set_cons_succ]
    refine wpAnyH_take (i := 17) (v := .bool false) rfl (by kernel_rfl) (by kernel_rfl) (by kernel_rfl) (fun _ _ _ h => h) (Or.inl ⟨by rfl, ?_⟩) (by assumption) ?_
    · intro w' hSw
      try dsimp only at hSw
      try go_simp
      all_goals first | done | with_reducible rfl | omega | assumption | (simp; omega)
    try simp only [List.getElem_toArray, List.getElem_cons_succ, List.getElem_cons_zero, Act.put, List.setIfInBounds_toArray, List.set_cons_zero, List.set_cons_succ]
    refine wpAnyH_done (by kernel_rfl) ?_ _
    refine NoPanic.normal ?_
    go_wp2_with fail
    refine (c5 _ hS7).mono ?_
    rintro e w8 ⟨A3, n3, d3, rfl, h⟩
    have P8 := P5.out.fr (fr_step (fr_step fz hS7) h.out.2.2)
    have c6 := left_at P8
    rw [L1] at c6
    have f8 := fr_step (fr_step f1 hS7) h.out.2.2
    obtain rfl : n3 = 0 := h.out.1.symm
    clear h
    go_wp2_with fail
    refine c6.mono ?_
    rintro e w9 ⟨rfl, f9⟩
    go_wp2_with fail
    refine (awake12 w9).mono ?_
    rintro e wa ⟨rfl, fa⟩
    go_wp2_with fail
    go_ret
    exact ⟨rfl, fr_step f8 (fr_step f9 fa)⟩
end Go.Proofs.Ytliglcaakhfahaa
