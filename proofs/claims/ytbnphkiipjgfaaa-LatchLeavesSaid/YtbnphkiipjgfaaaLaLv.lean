/- LatchLeaves, walked. -/
import Derived.Test.YtbnphkiipjgfaaaLaDo
namespace Go.Proofs.Ytbnphkiipjgfaaa
set_option linter.unusedVariables false
set_option linter.unusedSimpArgs false
set_option maxRecDepth 100000
open Go.RowKit
theorem enq_rep (k i : Nat) : enq (List.replicate k false) i = (nums k i).map fun z => (z, false) := by
  induction k generalizing i with
  | zero => rfl
  | succ k ih => simp [List.replicate_succ, enq, nums, ih]
theorem nums_mem {k i : Nat} {z : Int} (h : z ∈ nums k i) : (i : Int) ≤ z ∧ z < (i : Int) + k := by
  induction k generalizing i with
  | zero => cases h
  | succ k ih =>
    simp only [nums, List.mem_cons] at h
    rcases h with rfl | h
    · omega
    · have := ih h
      omega
theorem nums_sorted (k i : Nat) : (nums k i).Pairwise (· < ·) := by
  induction k generalizing i with
  | zero => exact List.Pairwise.nil
  | succ k ih =>
    refine List.pairwise_cons.2 ⟨fun z hz => ?_, ih (i + 1)⟩
    have := nums_mem hz
    omega
theorem nums_less (k i : Nat) (g : Int) : ((nums k i).filter fun z => !decide (z = g)).length = if (i : Int) ≤ g ∧ g < (i : Int) + k then k - 1 else k := by
  induction k generalizing i with
  | zero =>
    rw [if_neg (by omega)]
    rfl
  | succ k ih =>
    simp only [nums, List.filter_cons]
    have := ih (i + 1)
    by_cases hg : (i : Int) = g
    · subst hg
      simp only [decide_true, Bool.not_true, Bool.false_eq_true, if_false]
      rw [this, if_neg (by omega), if_pos (by omega)]
      rfl
    · simp only [hg, decide_false, Bool.not_false, if_true, List.length_cons]
      rw [this]
      by_cases h2 : ((i + 1 : Nat) : Int) ≤ g ∧ g < ((i + 1 : Nat) : Int) + k
      · rw [if_pos h2, if_pos (by omega)]
        omega
      · rw [if_neg h2, if_neg (by omega)]
/-- Readers alone all come in. -/
theorem let_all {rs : List Int} (hr : rs ≠ []) (zs : List Int) (p : Int) : ∃ rs', rs'.length = rs.length + zs.length ∧ letT ⟨rs, -1, zs.map fun z => (z, false), p⟩ = (⟨rs', -1, [], p⟩, zs) := by
  induction zs generalizing rs with
  | nil => exact ⟨rs, rfl, let_nil rfl⟩
  | cons z zs ih =>
    obtain ⟨rs', h1, h2⟩ := ih (rs := insT rs z) (fun e => by have := ins_len rs z; rw [e] at this; cases this)
    refine ⟨rs', by rw [h1, ins_len]; simp; omega, ?_⟩
    rw [List.map_cons, let_yes (x := (z, false)) (q := zs.map fun z => (z, false)) rfl (by simp [canT])]
    have e : giveT { rs := rs, wr := -1, q := zs.map fun z => (z, false), pn := p } (z, false) = ⟨insT rs z, -1, zs.map fun z => (z, false), p⟩ := rfl
    rw [e, h2]
theorem lv1 : tryB newT 90 false = true ∧ takeT newT 90 false = ⟨[90], -1, [], 0⟩ := ⟨by decide, by rfl⟩
theorem lv2 : tryB ⟨[90], -1, [], 0⟩ 91 true = false ∧ takeT ⟨[90], -1, [], 0⟩ 91 true = ⟨[90], -1, [(91, true)] ++ enq (List.replicate 0 false) 0, 0⟩ := ⟨by decide, by rfl⟩
/-- What is left of those who wait. -/
def lvL (k g : Nat) : List Int := (nums k 0).filter fun z => !decide (z = (g : Int))
theorem lv3 {k g : Nat} (hk : k ≤ 20) (hg : g < k) : dropT ⟨[90], -1, [(91, true)] ++ enq (List.replicate k false) 0, 0⟩ g = (⟨[90], -1, (91, true) :: (lvL k g).map fun z => (z, false), 0⟩, []) := by
  have e : outT ⟨[90], -1, [(91, true)] ++ enq (List.replicate k false) 0, 0⟩ (g : Int) = ⟨[90], -1, (91, true) :: (lvL k g).map fun z => (z, false), 0⟩ := by
    have h1 : ¬ (90 : Int) = g := by omega
    have h2 : ¬ (91 : Int) = g := by omega
    have h3 : ¬ (-1 : Int) = g := by omega
    rw [enq_rep]
    simp only [outT, h1, h2, h3, lvL, List.filter_cons, List.filter_nil, List.filter_map, List.singleton_append, decide_false, Bool.not_false, if_true, if_false, Lat.mk.injEq, true_and, and_true]
    rfl
  rw [dropT, if_neg (by omega), e]
  exact let_no (x := (91, true)) (q := (lvL k g).map fun z => (z, false)) rfl (by simp [canT])
theorem lvL_mem {k g : Nat} {z : Int} (h : z ∈ lvL k g) : z ∈ nums k 0 ∧ z ≠ g := by
  have := List.mem_filter.1 h
  exact ⟨this.1, by simpa using this.2⟩
theorem lv4 {k g : Nat} (hk : k ≤ 20) : ∃ rs', rs'.length = 1 + (lvL k g).length ∧ dropT ⟨[90], -1, (91, true) :: (lvL k g).map fun z => (z, false), 0⟩ 91 = (⟨rs', -1, [], 0⟩, lvL k g) := by
  obtain ⟨rs', h1, h2⟩ := let_all (rs := [90]) (by simp) (lvL k g) 0
  refine ⟨rs', h1, ?_⟩
  have e : outT ⟨[90], -1, (91, true) :: (lvL k g).map fun z => (z, false), 0⟩ 91 = ⟨[90], -1, (lvL k g).map fun z => (z, false), 0⟩ := by
    have h9 : ((lvL k g).map fun z => ((z, false) : Wt)).filter (fun x => !decide (x.1 = 91)) = (lvL k g).map fun z => (z, false) := List.filter_eq_self.2 fun x hx => by
      obtain ⟨z, hz, rfl⟩ := List.mem_map.1 hx
      have := nums_mem (lvL_mem hz).1
      simp only [Bool.not_eq_true', decide_eq_false_iff_not]
      omega
    simp only [outT, Lat.mk.injEq, and_true]
    refine ⟨by decide, by decide, ?_⟩
    rw [List.filter_cons, if_neg (by decide), h9]
  rw [dropT, if_neg (by omega), e, h2]
theorem lv5 {rs : List Int} : (dropT ⟨rs, -1, [], 0⟩ 77).2 = [] := by
  rw [dropT, if_neg (by omega), let_nil rfl]
theorem lvL_sorted (k g : Nat) : (lvL k g).Pairwise (· < ·) := (nums_sorted k 0).filter _
set_option maxHeartbeats 16000000 in
theorem leaves_core {w : World} {n gone : Int} (hn : 0 ≤ n ∧ n ≤ 255) (hgo : 0 ≤ gone ∧ gone ≤ 255) :
    Calls Try.prog 8 #[.int .u8 n, .int .u8 gone] w fun e w' => e = .returned (.bool true) ∧ Below w.heap.size w w' := by
  obtain ⟨q9, hq9, hq9l⟩ : ∃ q : Nat, Int.tmod n 9 = q ∧ q < 9 := ⟨(n % 9).toNat, by rw [Int.tmod_eq_emod_of_nonneg (by omega)]; omega, by omega⟩
  obtain ⟨k, hk⟩ : ∃ k : Nat, (1 : Int) + (q9 : Int) = (k : Int) := ⟨1 + q9, by omega⟩
  have hk1 : 1 ≤ k ∧ k ≤ 9 := by omega
  obtain ⟨d, hd, hdl⟩ : ∃ d : Nat, Int.tmod gone (k : Int) = d ∧ d < k := by
    have h1 := Int.emod_nonneg gone (b := (k : Int)) (by omega)
    have h2 := Int.emod_lt_of_pos gone (b := (k : Int)) (by omega)
    exact ⟨(gone % (k : Int)).toNat, by rw [Int.tmod_eq_emod_of_nonneg (by omega)]; omega, by omega⟩
  have hk0 : ¬ (k : Int) = 0 := by omega
  go_enter Try.func8, Try.ntmps8
  go_wp2_with fail
  with_reducible refine (lnewg w).mono ?_
  rintro e v0 ⟨g, rfl, h0⟩
  have c1 := ltake (x := 90) (b := false) h0.out (by omega) (by omega)
  rw [lv1.1, lv1.2] at c1
  clear h0
  go_wp2_with fail
  with_reducible refine c1.mono ?_
  rintro e v1 ⟨rfl, h1⟩
  have c2 := ltake (x := 91) (b := true) h1.out (by omega) (by omega)
  rw [lv2.1, lv2.2] at c2
  clear c1 h1
  go_wp2_with fail
  with_reducible refine c2.mono ?_
  rintro e v2 ⟨rfl, h2⟩
  clear c2
  go_wp2_with fail
  go_loopg [7] k (fun gg s7 wr => ∃ j : Nat, j + gg = k ∧ s7 = .int .i64 j ∧ Hid (LB w wr g ⟨[90], -1, [(91, true)] ++ enq (List.replicate j false) 0, 0⟩ (j + 2)))
  case atStart => exact ⟨0, by omega, rfl, h2⟩
  case round =>
    clear h2
    obtain ⟨j, hj, rfl, hB⟩ := hrel
    by_cases hlt : j < k
    · have ct := ltake (x := (j : Int)) (b := false) hB.out (by omega) (by omega)
      have hte := take_enq (rs := [90]) (wr := -1) (q0 := [(91, true)]) (l := List.replicate j false) (b := false) (.inr (by simp)) (by simp; omega) (.inl (by omega)) (by simp; omega)
      rw [List.length_replicate, ← List.replicate_succ'] at hte
      rw [hte.1, hte.2] at ct
      have hjz : (j : Int) < (k : Int) := by omega
      clear hte hlt hB
      go_wp2_with fail
      with_reducible refine ct.mono ?_
      rintro e w2 ⟨rfl, h2⟩
      clear ct
      go_wp2_with fail
      go_roundg (gk - 1)
      case measure => omega
      case rel => exact ⟨j + 1, by omega, rfl, h2⟩
    · have hjn : j = k := by omega
      subst hjn
      have hjz : ¬ (j : Int) < (j : Int) := by omega
      have cd := ldrop (x := (d : Int)) hB.out (by omega)
      rw [lv3 (by omega) hdl] at cd
      clear hB hlt
      go_wp2_with fail
      with_reducible refine cd.mono ?_
      rintro e w3 ⟨B3, k3, b3, rfl, h3⟩
      have hk3 : k3 = 0 := h3.out.2.1.1.symm
      subst hk3
      have cd2 := ldrop (x := 91) h3.out.1 (by omega)
      obtain ⟨rs', r1, r2⟩ := lv4 (k := j) (g := d) (by omega)
      rw [r2] at cd2
      have hll : (lvL j d).length = j - 1 := by rw [lvL, nums_less, if_pos (by omega)]
      have Hrl := keep r1
      have HL := keep hll
      clear cd h3 r1 r2 hll
      go_wp2_with fail
      with_reducible refine cd2.mono ?_
      rintro e w4 ⟨B4, k4, b4, rfl, h4⟩
      have hk4 : k4 = j - 1 := by rw [← h4.out.2.1.1, HL.out]
      have hz1 : ((k4 : Int) != (j : Int) - 1) = false := by rw [bne_eq_false_iff_eq]; omega
      have L4 := keep h4.out.1
      have R4 := keep h4.out.2.1.2.1
      have cw := lwriter L4.out
      have Hk4 := keep hk4
      have hk4b : k4 ≤ 9 := by omega
      clear cd2 h4 hk4
      go_wp2_with fail
      with_reducible refine cw.mono ?_
      rintro e w5 ⟨rfl, rfl⟩
      have cr := lreaders L4.out (by omega)
      clear cw
      go_wp2_with fail
      with_reducible refine cr.mono ?_
      rintro e w5 ⟨B5, k5, b5, rfl, h5⟩
      have hz2 : ((k5 : Int) != (j : Int)) = false := by
        have hk : k5 = j := by rw [← h5.out.1, Hrl.out, HL.out]; omega
        rw [bne_eq_false_iff_eq]; omega
      have L5 := keep (L4.out.go h5.out.2.2)
      have R5 := keep (R4.out.fr h5.out.2.2)
      clear cr h5
      go_wp2_with fail
      go_loopg [11] k4 (fun gg s11 wr => ∃ i : Nat, i + gg = k4 ∧ s11 = .int .i64 i ∧ Hid (Fr w5 wr))
      case atStart => exact ⟨0, by omega, rfl, keep (fr_refl w5)⟩
      case round =>
        obtain ⟨i, hi, rfl, hF⟩ := hrel
        have hlen : i < (lvL j d).length ↔ i < k4 := by rw [HL.out, Hk4.out]
        have wrr := fr_refl wr
        have wrd := fr_drew wrr
        by_cases hlt : i < k4
        · have hx : (lvL j d)[i]? = some ((lvL j d)[i]'(hlen.2 hlt)) := List.getElem?_eq_getElem _
          generalize (lvL j d)[i]'(hlen.2 hlt) = z at hx
          obtain ⟨gr, or, rfl, xr⟩ := rw_cell (R5.out.fr hF.out) hx
          have hgr : gr < wr.heap.size := World.block_lt_of_cell? _ _ xr
          have xz : ∀ W, Fr wr W → W.cell? ⟨gr, or + i, none⟩ = some (.int .i64 z) := fun W f => (f.cell hgr).trans xr
          have hzd : z ≠ (d : Int) := (lvL_mem (List.mem_of_getElem? hx)).2
          have hzb := nums_mem (lvL_mem (List.mem_of_getElem? hx)).1
          have hze : (z == (d : Int)) = false := by rw [beq_eq_false_iff_ne]; exact hzd
          have hiz : (i : Int) < (k4 : Int) := by omega
          by_cases hi0 : i = 0
          · subst hi0
            rw [Nat.add_zero] at xz
            have hi00 : ((0 : Nat) : Int) = 0 := rfl
            clear hlt hx hlen xr
            go_wp2_with fail
            refine wp_region_noPanic ?_
            refine wp_region_held_drew (S := fun W => Fr wr W) (by kernel_rfl) wrd (fun hHeld => ?_)
            change wpAnyH _ _ _ _ _ _ _ _ _
            refine wpAnyH_take (i := 0) (v := ?_) rfl (by kernel_rfl) (by kernel_rfl) (by kernel_rfl) (fun _ _ _ h => h) (Or.inl ⟨by rfl, ?_⟩) (by assumption) ?_
            rotate_left
            · intro w' hSw
              try dsimp only at hSw
              go_simp
              try with_reducible rfl
            try simp only [List.getElem_toArray, List.getElem_cons_zero, Act.put, List.setIfInBounds_toArray, List.set_cons_zero, List.set_cons_succ]
            refine wpAnyH_take (i := 1) (v := ?_) rfl (by kernel_rfl) (by kernel_rfl) (by kernel_rfl) (fun _ _ _ h => h) (Or.inl ⟨by rfl, ?_⟩) (by assumption) ?_
            rotate_left
            · intro w' hSw
              try dsimp only at hSw
              go_simp
              try with_reducible rfl
            try simp only [List.getElem_toArray, List.getElem_cons_succ, List.getElem_cons_zero, Act.put, List.setIfInBounds_toArray, List.set_cons_zero, List.set_cons_succ]
            refine wpAnyH_take (i := 2) (v := ?_) rfl (by kernel_rfl) (by kernel_rfl) (by kernel_rfl) (fun _ _ _ h => h) (Or.inl ⟨by rfl, ?_⟩) (by assumption) ?_
            rotate_left
            · intro w' hSw
              try dsimp only at hSw
              go_simp
              try with_reducible rfl
            try simp only [List.getElem_toArray, List.getElem_cons_succ, List.getElem_cons_zero, Act.put, List.setIfInBounds_toArray, List.set_cons_zero, List.set_cons_succ]
            refine wpAnyH_take (i := 3) (v := ?_) rfl (by kernel_rfl) (by kernel_rfl) (by kernel_rfl) (fun _ _ _ h => h) (Or.inl ⟨by rfl, ?_⟩) (by assumption) ?_
            rotate_left
            · intro w' hSw
              try dsimp only at hSw
              go_simp
              try with_reducible rfl
            try simp only [List.getElem_toArray, List.getElem_cons_succ, List.getElem_cons_zero, Act.put, List.setIfInBounds_toArray, List.set_cons_zero, List.set_cons_succ]
            refine wpAnyH_take (i := 4) (v := ?_) rfl (by kernel_rfl) (by kernel_rfl) (by kernel_rfl) (fun _ _ _ h => h) (Or.inl ⟨by rfl, ?_⟩) (by assumption) ?_
            rotate_left
            · intro w' hSw
              try dsimp only at hSw
              go_simp
              try with_reducible rfl
            try simp only [List.getElem_toArray, List.getElem_cons_succ, List.getElem_cons_zero, Act.put, List.setIfInBounds_toArray, List.set_cons_zero, List.set_cons_succ]
            refine wpAnyH_take (i := 5) (v := .bool false) rfl (by kernel_rfl) (by kernel_rfl) (by kernel_rfl) (fun _ _ _ h => h) (Or.inl ⟨by rfl, ?_⟩) (by assumption) ?_
            · intro w' hSw
              try dsimp only at hSw
              try go_simp
              all_goals first | done | with_reducible rfl | omega | assumption | (simp; omega)
            try simp only [List.getElem_toArray, List.getElem_cons_succ, List.getElem_cons_zero, Act.put, List.setIfInBounds_toArray, List.set_cons_zero, List.set_cons_succ]
            refine wpAnyH_take (i := 6) (v := .bool false) rfl (by kernel_rfl) (by kernel_rfl) (by kernel_rfl) (fun _ _ _ h => h) (Or.inl ⟨by rfl, ?_⟩) (by assumption) ?_
            · intro w' hSw
              try dsimp only at hSw
              try go_simp
              all_goals first | done | with_reducible rfl | omega | assumption | (simp; omega)
            try simp only [List.getElem_toArray, List.getElem_cons_succ, List.getElem_cons_zero, Act.put, List.setIfInBounds_toArray, List.set_cons_zero, List.set_cons_succ]
            refine wpAnyH_take (i := 7) (v := ?_) rfl (by kernel_rfl) (by kernel_rfl) (by kernel_rfl) (fun _ _ _ h => h) (Or.inl ⟨by rfl, ?_⟩) (by assumption) ?_
            rotate_left
            · intro w' hSw
              try dsimp only at hSw
              go_simp
              try with_reducible rfl
            try simp only [List.getElem_toArray, List.getElem_cons_succ, List.getElem_cons_zero, Act.put, List.setIfInBounds_toArray, List.set_cons_zero, List.set_cons_succ]
            refine wpAnyH_take (i := 8) (v := .bool false) rfl (by kernel_rfl) (by kernel_rfl) (by kernel_rfl) (fun _ _ _ h => h) (Or.inl ⟨by rfl, ?_⟩) (by assumption) ?_
            · intro w' hSw
              try dsimp only at hSw
              try go_simp
              all_goals first | done | with_reducible rfl | omega | assumption | (simp; omega)
            try simp only [List.getElem_toArray, List.getElem_cons_succ, List.getElem_cons_zero, Act.put, List.setIfInBounds_toArray, List.set_cons_zero, List.set_cons_succ]
            refine wpAnyH_take (i := 9) (v := .bool false) rfl (by kernel_rfl) (by kernel_rfl) (by kernel_rfl) (fun _ _ _ h => h) (Or.inl ⟨by rfl, ?_⟩) (by assumption) ?_
            · intro w' hSw
              try dsimp only at hSw
              try go_simp
              all_goals first | done | with_reducible rfl | omega | assumption | (simp; omega)
            try simp only [List.getElem_toArray, List.getElem_cons_succ, List.getElem_cons_zero, Act.put, List.setIfInBounds_toArray, List.set_cons_zero, List.set_cons_succ]
            refine wpAnyH_take (i := 10) (v := undef) rfl (by kernel_rfl) (by kernel_rfl) (by kernel_rfl) (fun _ _ _ h => h) (Or.inr ⟨by rfl, rfl⟩) (by assumption) ?_
            try simp only [List.getElem_toArray, List.getElem_cons_succ, List.getElem_cons_zero, Act.put, List.setIfInBounds_toArray, List.set_cons_zero, List.set_cons_succ]
            refine wpAnyH_take (i := 11) (v := undef) rfl (by kernel_rfl) (by kernel_rfl) (by kernel_rfl) (fun _ _ _ h => h) (Or.inr ⟨by rfl, rfl⟩) (by assumption) ?_
            try simp only [List.getElem_toArray, List.getElem_cons_succ, List.getElem_cons_zero, Act.put, List.setIfInBounds_toArray, List.set_cons_zero, List.set_cons_succ]
            refine wpAnyH_take (i := 12) (v := undef) rfl (by kernel_rfl) (by kernel_rfl) (by kernel_rfl) (fun _ _ _ h => h) (Or.inr ⟨by rfl, rfl⟩) (by assumption) ?_
            try simp only [List.getElem_toArray, List.getElem_cons_succ, List.getElem_cons_zero, Act.put, List.setIfInBounds_toArray, List.set_cons_zero, List.set_cons_succ]
            refine wpAnyH_take (i := 13) (v := undef) rfl (by kernel_rfl) (by kernel_rfl) (by kernel_rfl) (fun _ _ _ h => h) (Or.inr ⟨by rfl, rfl⟩) (by assumption) ?_
            try simp only [List.getElem_toArray, List.getElem_cons_succ, List.getElem_cons_zero, Act.put, List.setIfInBounds_toArray, List.set_cons_zero, List.set_cons_succ]
            refine wpAnyH_take (i := 14) (v := undef) rfl (by kernel_rfl) (by kernel_rfl) (by kernel_rfl) (fun _ _ _ h => h) (Or.inr ⟨by rfl, rfl⟩) (by assumption) ?_
            try simp only [List.getElem_toArray, List.getElem_cons_succ, List.getElem_cons_zero, Act.put, List.setIfInBounds_toArray, List.set_cons_zero, List.set_cons_succ]
            refine wpAnyH_take (i := 15) (v := undef) rfl (by kernel_rfl) (by kernel_rfl) (by kernel_rfl) (fun _ _ _ h => h) (Or.inr ⟨by rfl, rfl⟩) (by assumption) ?_
            try simp only [List.getElem_toArray, List.getElem_cons_succ, List.getElem_cons_zero, Act.put, List.setIfInBounds_toArray, List.set_cons_zero, List.set_cons_succ]
            refine wpAnyH_take (i := 16) (v := undef) rfl (by kernel_rfl) (by kernel_rfl) (by kernel_rfl) (fun _ _ _ h => h) (Or.inr ⟨by rfl, rfl⟩) (by assumption) ?_
            try simp only [List.getElem_toArray, List.getElem_cons_succ, List.getElem_cons_zero, Act.put, List.setIfInBounds_toArray, List.set_cons_zero, List.set_cons_succ]
            refine wpAnyH_take (i := 17) (v := undef) rfl (by kernel_rfl) (by kernel_rfl) (by kernel_rfl) (fun _ _ _ h => h) (Or.inr ⟨by rfl, rfl⟩) (by assumption) ?_
            try simp only [List.getElem_toArray, List.getElem_cons_succ, List.getElem_cons_zero, Act.put, List.setIfInBounds_toArray, List.set_cons_zero, List.set_cons_succ]
            refine wpAnyH_take (i := 18) (v := undef) rfl (by kernel_rfl) (by kernel_rfl) (by kernel_rfl) (fun _ _ _ h => h) (Or.inr ⟨by rfl, rfl⟩) (by assumption) ?_
            try simp only [List.getElem_toArray, List.getElem_cons_succ, List.getElem_cons_zero, Act.put, List.setIfInBounds_toArray, List.set_cons_zero, List.set_cons_succ]
            refine wpAnyH_take (i := 19) (v := undef) rfl (by kernel_rfl) (by kernel_rfl) (by kernel_rfl) (fun _ _ _ h => h) (Or.inr ⟨by rfl, rfl⟩) (by assumption) ?_
            try simp only [List.getElem_toArray, List.getElem_cons_succ, List.getElem_cons_zero, Act.put, List.setIfInBounds_toArray, List.set_cons_zero, List.set_cons_succ]
            refine wpAnyH_take (i := 20) (v := .bool false) rfl (by kernel_rfl) (by kernel_rfl) (by kernel_rfl) (fun _ _ _ h => h) (Or.inl ⟨by rfl, ?_⟩) (by assumption) ?_
            · intro w' hSw
              try dsimp only at hSw
              try go_simp
              all_goals first | done | with_reducible rfl | omega | assumption | (simp; omega)
            try simp only [List.getElem_toArray, List.getElem_cons_succ, List.getElem_cons_zero, Act.put, List.setIfInBounds_toArray, List.set_cons_zero, List.set_cons_succ]
            refine wpAnyH_take (i := 21) (v := .bool false) rfl (by kernel_rfl) (by kernel_rfl) (by kernel_rfl) (fun _ _ _ h => h) (Or.inl ⟨by rfl, ?_⟩) (by assumption) ?_
            · intro w' hSw
              try dsimp only at hSw
              try go_simp
              all_goals first | done | with_reducible rfl | omega | assumption | (simp; omega)
            try simp only [List.getElem_toArray, List.getElem_cons_succ, List.getElem_cons_zero, Act.put, List.setIfInBounds_toArray, List.set_cons_zero, List.set_cons_succ]
            refine wpAnyH_done (by kernel_rfl) ?_ _
            refine NoPanic.normal ?_
            go_wp2_with fail
            go_roundg (gk - 1)
            case measure => omega
            case rel => exact ⟨1, by omega, rfl, keep (fr_step hF.out (by assumption))⟩
          · obtain ⟨i2, hi2⟩ : ∃ i2, i = i2 + 1 := ⟨i - 1, by omega⟩
            have hx2 : (lvL j d)[i2]? = some ((lvL j d)[i2]'(by have := hlen.2 hlt; omega)) := List.getElem?_eq_getElem _
            generalize (lvL j d)[i2]'(by have := hlen.2 hlt; omega) = z2 at hx2
            have hzz : z2 < z := by
              obtain ⟨a1, a2⟩ := List.getElem?_eq_some_iff.1 hx
              obtain ⟨b1, b2⟩ := List.getElem?_eq_some_iff.1 hx2
              rw [← a2, ← b2]
              exact List.pairwise_iff_getElem.1 (lvL_sorted j d) i2 i b1 a1 (by omega)
            obtain ⟨gr2, or2, hA2, xr2⟩ := rw_cell (R5.out.fr hF.out) hx2
            injection hA2 with hA2
            injection hA2 with e1 e2
            subst e1 e2
            have xz2 : ∀ W, Fr wr W → W.cell? ⟨gr, or + i2, none⟩ = some (.int .i64 z2) := fun W f => (f.cell hgr).trans xr2
            have hsub : (i : Int) - 1 = (i2 : Int) := by omega
            have hi0z : 0 < (i : Int) := by omega
            have hi2k : i2 < k4 := by omega
            have hwi2 : IntKind.i64.wrap (i2 : Int) = (i2 : Int) := by rw [IntKind.wrap_i64]; omega
            clear hlt hx hx2 hlen xr xr2 hi2
            go_wp2_with fail
            refine wp_region_noPanic ?_
            refine wp_region_held_drew (S := fun W => Fr wr W) (by kernel_rfl) wrd (fun hHeld => ?_)
            change wpAnyH _ _ _ _ _ _ _ _ _
            refine wpAnyH_take (i := 0) (v := ?_) rfl (by kernel_rfl) (by kernel_rfl) (by kernel_rfl) (fun _ _ _ h => h) (Or.inl ⟨by rfl, ?_⟩) (by assumption) ?_
            rotate_left
            · intro w' hSw
              try dsimp only at hSw
              go_simp
              try with_reducible rfl
            try simp only [List.getElem_toArray, List.getElem_cons_zero, Act.put, List.setIfInBounds_toArray, List.set_cons_zero, List.set_cons_succ]
            refine wpAnyH_take (i := 1) (v := ?_) rfl (by kernel_rfl) (by kernel_rfl) (by kernel_rfl) (fun _ _ _ h => h) (Or.inl ⟨by rfl, ?_⟩) (by assumption) ?_
            rotate_left
            · intro w' hSw
              try dsimp only at hSw
              go_simp
              try with_reducible rfl
            try simp only [List.getElem_toArray, List.getElem_cons_succ, List.getElem_cons_zero, Act.put, List.setIfInBounds_toArray, List.set_cons_zero, List.set_cons_succ]
            refine wpAnyH_take (i := 2) (v := ?_) rfl (by kernel_rfl) (by kernel_rfl) (by kernel_rfl) (fun _ _ _ h => h) (Or.inl ⟨by rfl, ?_⟩) (by assumption) ?_
            rotate_left
            · intro w' hSw
              try dsimp only at hSw
              go_simp
              try with_reducible rfl
            try simp only [List.getElem_toArray, List.getElem_cons_succ, List.getElem_cons_zero, Act.put, List.setIfInBounds_toArray, List.set_cons_zero, List.set_cons_succ]
            refine wpAnyH_take (i := 3) (v := ?_) rfl (by kernel_rfl) (by kernel_rfl) (by kernel_rfl) (fun _ _ _ h => h) (Or.inl ⟨by rfl, ?_⟩) (by assumption) ?_
            rotate_left
            · intro w' hSw
              try dsimp only at hSw
              go_simp
              try with_reducible rfl
            try simp only [List.getElem_toArray, List.getElem_cons_succ, List.getElem_cons_zero, Act.put, List.setIfInBounds_toArray, List.set_cons_zero, List.set_cons_succ]
            refine wpAnyH_take (i := 4) (v := ?_) rfl (by kernel_rfl) (by kernel_rfl) (by kernel_rfl) (fun _ _ _ h => h) (Or.inl ⟨by rfl, ?_⟩) (by assumption) ?_
            rotate_left
            · intro w' hSw
              try dsimp only at hSw
              go_simp
              try with_reducible rfl
            try simp only [List.getElem_toArray, List.getElem_cons_succ, List.getElem_cons_zero, Act.put, List.setIfInBounds_toArray, List.set_cons_zero, List.set_cons_succ]
            refine wpAnyH_take (i := 5) (v := .bool false) rfl (by kernel_rfl) (by kernel_rfl) (by kernel_rfl) (fun _ _ _ h => h) (Or.inl ⟨by rfl, ?_⟩) (by assumption) ?_
            · intro w' hSw
              try dsimp only at hSw
              try go_simp
              all_goals first | done | with_reducible rfl | omega | assumption | (simp; omega)
            try simp only [List.getElem_toArray, List.getElem_cons_succ, List.getElem_cons_zero, Act.put, List.setIfInBounds_toArray, List.set_cons_zero, List.set_cons_succ]
            refine wpAnyH_take (i := 6) (v := .bool false) rfl (by kernel_rfl) (by kernel_rfl) (by kernel_rfl) (fun _ _ _ h => h) (Or.inl ⟨by rfl, ?_⟩) (by assumption) ?_
            · intro w' hSw
              try dsimp only at hSw
              try go_simp
              all_goals first | done | with_reducible rfl | omega | assumption | (simp; omega)
            try simp only [List.getElem_toArray, List.getElem_cons_succ, List.getElem_cons_zero, Act.put, List.setIfInBounds_toArray, List.set_cons_zero, List.set_cons_succ]
            refine wpAnyH_take (i := 7) (v := ?_) rfl (by kernel_rfl) (by kernel_rfl) (by kernel_rfl) (fun _ _ _ h => h) (Or.inl ⟨by rfl, ?_⟩) (by assumption) ?_
            rotate_left
            · intro w' hSw
              try dsimp only at hSw
              go_simp
              try with_reducible rfl
            try simp only [List.getElem_toArray, List.getElem_cons_succ, List.getElem_cons_zero, Act.put, List.setIfInBounds_toArray, List.set_cons_zero, List.set_cons_succ]
            refine wpAnyH_take (i := 8) (v := .bool true) rfl (by kernel_rfl) (by kernel_rfl) (by kernel_rfl) (fun _ _ _ h => h) (Or.inl ⟨by rfl, ?_⟩) (by assumption) ?_
            · intro w' hSw
              try dsimp only at hSw
              try go_simp
              all_goals first | done | with_reducible rfl | omega | assumption | (simp; omega)
            try simp only [List.getElem_toArray, List.getElem_cons_succ, List.getElem_cons_zero, Act.put, List.setIfInBounds_toArray, List.set_cons_zero, List.set_cons_succ]
            refine wpAnyH_take (i := 9) (v := .bool true) rfl (by kernel_rfl) (by kernel_rfl) (by kernel_rfl) (fun _ _ _ h => h) (Or.inl ⟨by rfl, ?_⟩) (by assumption) ?_
            · intro w' hSw
              try dsimp only at hSw
              try go_simp
              all_goals first | done | with_reducible rfl | omega | assumption | (simp; omega)
            try simp only [List.getElem_toArray, List.getElem_cons_succ, List.getElem_cons_zero, Act.put, List.setIfInBounds_toArray, List.set_cons_zero, List.set_cons_succ]
            refine wpAnyH_take (i := 10) (v := ?_) rfl (by kernel_rfl) (by kernel_rfl) (by kernel_rfl) (fun _ _ _ h => h) (Or.inl ⟨by rfl, ?_⟩) (by assumption) ?_
            rotate_left
            · intro w' hSw
              try dsimp only at hSw
              go_simp
              try with_reducible rfl
            try simp only [List.getElem_toArray, List.getElem_cons_succ, List.getElem_cons_zero, Act.put, List.setIfInBounds_toArray, List.set_cons_zero, List.set_cons_succ]
            refine wpAnyH_take (i := 11) (v := ?_) rfl (by kernel_rfl) (by kernel_rfl) (by kernel_rfl) (fun _ _ _ h => h) (Or.inl ⟨by rfl, ?_⟩) (by assumption) ?_
            rotate_left
            · intro w' hSw
              try dsimp only at hSw
              go_simp
              try with_reducible rfl
            try simp only [List.getElem_toArray, List.getElem_cons_succ, List.getElem_cons_zero, Act.put, List.setIfInBounds_toArray, List.set_cons_zero, List.set_cons_succ]
            refine wpAnyH_take (i := 12) (v := ?_) rfl (by kernel_rfl) (by kernel_rfl) (by kernel_rfl) (fun _ _ _ h => h) (Or.inl ⟨by rfl, ?_⟩) (by assumption) ?_
            rotate_left
            · intro w' hSw
              try dsimp only at hSw
              go_simp
              try with_reducible rfl
            try simp only [List.getElem_toArray, List.getElem_cons_succ, List.getElem_cons_zero, Act.put, List.setIfInBounds_toArray, List.set_cons_zero, List.set_cons_succ]
            refine wpAnyH_take (i := 13) (v := ?_) rfl (by kernel_rfl) (by kernel_rfl) (by kernel_rfl) (fun _ _ _ h => h) (Or.inl ⟨by rfl, ?_⟩) (by assumption) ?_
            rotate_left
            · intro w' hSw
              try dsimp only at hSw
              go_simp
              try with_reducible rfl
            try simp only [List.getElem_toArray, List.getElem_cons_succ, List.getElem_cons_zero, Act.put, List.setIfInBounds_toArray, List.set_cons_zero, List.set_cons_succ]
            refine wpAnyH_take (i := 14) (v := ?_) rfl (by kernel_rfl) (by kernel_rfl) (by kernel_rfl) (fun _ _ _ h => h) (Or.inl ⟨by rfl, ?_⟩) (by assumption) ?_
            rotate_left
            · intro w' hSw
              try dsimp only at hSw
              go_simp
              try with_reducible rfl
            try simp only [List.getElem_toArray, List.getElem_cons_succ, List.getElem_cons_zero, Act.put, List.setIfInBounds_toArray, List.set_cons_zero, List.set_cons_succ]
            refine wpAnyH_take (i := 15) (v := ?_) rfl (by kernel_rfl) (by kernel_rfl) (by kernel_rfl) (fun _ _ _ h => h) (Or.inl ⟨by rfl, ?_⟩) (by assumption) ?_
            rotate_left
            · intro w' hSw
              try dsimp only at hSw
              go_simp
              try with_reducible rfl
            try simp only [List.getElem_toArray, List.getElem_cons_succ, List.getElem_cons_zero, Act.put, List.setIfInBounds_toArray, List.set_cons_zero, List.set_cons_succ]
            refine wpAnyH_take (i := 16) (v := ?_) rfl (by kernel_rfl) (by kernel_rfl) (by kernel_rfl) (fun _ _ _ h => h) (Or.inl ⟨by rfl, ?_⟩) (by assumption) ?_
            rotate_left
            · intro w' hSw
              try dsimp only at hSw
              go_simp
              try with_reducible rfl
            try simp only [List.getElem_toArray, List.getElem_cons_succ, List.getElem_cons_zero, Act.put, List.setIfInBounds_toArray, List.set_cons_zero, List.set_cons_succ]
            refine wpAnyH_take (i := 17) (v := ?_) rfl (by kernel_rfl) (by kernel_rfl) (by kernel_rfl) (fun _ _ _ h => h) (Or.inl ⟨by rfl, ?_⟩) (by assumption) ?_
            rotate_left
            · intro w' hSw
              try dsimp only at hSw
              go_simp
              try with_reducible rfl
            try simp only [List.getElem_toArray, List.getElem_cons_succ, List.getElem_cons_zero, Act.put, List.setIfInBounds_toArray, List.set_cons_zero, List.set_cons_succ]
            refine wpAnyH_take (i := 18) (v := ?_) rfl (by kernel_rfl) (by kernel_rfl) (by kernel_rfl) (fun _ _ _ h => h) (Or.inl ⟨by rfl, ?_⟩) (by assumption) ?_
            rotate_left
            · intro w' hSw
              try dsimp only at hSw
              go_simp
              try with_reducible rfl
            try simp only [List.getElem_toArray, List.getElem_cons_succ, List.getElem_cons_zero, Act.put, List.setIfInBounds_toArray, List.set_cons_zero, List.set_cons_succ]
            refine wpAnyH_take (i := 19) (v := .bool false) rfl (by kernel_rfl) (by kernel_rfl) (by kernel_rfl) (fun _ _ _ h => h) (Or.inl ⟨by rfl, ?_⟩) (by assumption) ?_
            · intro w' hSw
              try dsimp only at hSw
              try go_simp
              all_goals first | done | with_reducible rfl | omega | assumption | (simp; omega)
            try simp only [List.getElem_toArray, List.getElem_cons_succ, List.getElem_cons_zero, Act.put, List.setIfInBounds_toArray, List.set_cons_zero, List.set_cons_succ]
            refine wpAnyH_take (i := 20) (v := .bool false) rfl (by kernel_rfl) (by kernel_rfl) (by kernel_rfl) (fun _ _ _ h => h) (Or.inl ⟨by rfl, ?_⟩) (by assumption) ?_
            · intro w' hSw
              try dsimp only at hSw
              try go_simp
              all_goals first | done | with_reducible rfl | omega | assumption | (simp; omega)
            try simp only [List.getElem_toArray, List.getElem_cons_succ, List.getElem_cons_zero, Act.put, List.setIfInBounds_toArray, List.set_cons_zero, List.set_cons_succ]
            refine wpAnyH_take (i := 21) (v := .bool false) rfl (by kernel_rfl) (by kernel_rfl) (by kernel_rfl) (fun _ _ _ h => h) (Or.inl ⟨by rfl, ?_⟩) (by assumption) ?_
            · intro w' hSw
              try dsimp only at hSw
              try go_simp
              all_goals first | done | with_reducible rfl | omega | assumption | (simp; omega)
            try simp only [List.getElem_toArray, List.getElem_cons_succ, List.getElem_cons_zero, Act.put, List.setIfInBounds_toArray, List.set_cons_zero, List.set_cons_succ]
            refine wpAnyH_done (by kernel_rfl) ?_ _
            refine NoPanic.normal ?_
            go_wp2_with fail
            go_roundg (gk - 1)
            case measure => omega
            case rel => exact ⟨i + 1, by omega, rfl, keep (fr_step hF.out (by assumption))⟩
        · have hiz : ¬ (i : Int) < (k4 : Int) := by omega
          have cd := ldrop (x := 77) (L5.out.go hF.out) (by omega)
          clear hlt hlen
          go_wp2_with fail
          with_reducible refine cd.mono ?_
          rintro e w7 ⟨B7, k7, b7, rfl, h7⟩
          have hk7 : k7 = 0 := by rw [← h7.out.2.1.1, lv5]; rfl
          subst hk7
          have F7 := keep h7.out.1.fr
          clear cd h7
          go_wp2_with fail
          with_reducible refine (awake14 w7).mono ?_
          rintro e w8 ⟨rfl, f⟩
          go_wp2_with fail
          go_ret
          exact ⟨rfl, fr_step F7.out f⟩
end Go.Proofs.Ytbnphkiipjgfaaa
