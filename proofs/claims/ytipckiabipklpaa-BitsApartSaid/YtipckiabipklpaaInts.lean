/- What the functions of layer 1 on numbers alone come to, of the program and of the document. -/
import Derived.Test.YtipckiabipklpaaRows
import Derived.Test.YtipckiabipklpaaMath
import Derived.WalkSpells
import Derived.WalkLawsBesides
namespace Go.Proofs.Ytipckiabipklpaa
open Go.RowKit

set_option maxHeartbeats 400000 in
theorem shiftU (n c : Int) (hl : -9223372036854775808 ≤ c) (hu : c ≤ 9223372036854775807) (w : World) :
    Calls Try.prog 26 #[.int .u64 n, .int .i64 c] w fun e w' => e = .returned (.int .u64 (shU n c)) ∧ w = w' := by
  by_cases h : c < 0
  · go_enter Try.func26, Try.ntmps26
    go_wp2
    go_ret
    exact ⟨ret_int (shU_neg n c h hl), rfl⟩
  · go_enter Try.func26, Try.ntmps26
    go_wp2
    go_ret
    exact ⟨ret_int (shU_pos n c (by omega)), rfl⟩

set_option maxHeartbeats 400000 in
theorem shiftI (n c : Int) (hl : -9223372036854775808 ≤ c) (hu : c ≤ 9223372036854775807) (w : World) :
    Calls Try.prog 29 #[.int .i64 n, .int .i64 c] w fun e w' => e = .returned (.int .i64 (shI n c)) ∧ w = w' := by
  by_cases h : c < 0
  · go_enter Try.func29, Try.ntmps29
    go_wp2
    go_ret
    exact ⟨ret_int (shI_neg n c h hl), rfl⟩
  · go_enter Try.func29, Try.ntmps29
    go_wp2
    go_ret
    exact ⟨ret_int (shI_pos n c (by omega)), rfl⟩

set_option maxHeartbeats 400000 in
theorem allowed (c : Int) (w : World) :
    Calls Try.prog 25 #[.int .i64 c] w fun e w' => e = .returned (.bool (okW c)) ∧ w = w' := by
  by_cases h : 1 ≤ c
  · go_enter Try.func25, Try.ntmps25
    go_wp2
    go_ret
    exact ⟨ret_bool (by simp [okW, h]), rfl⟩
  · go_enter Try.func25, Try.ntmps25
    go_wp2
    go_ret
    exact ⟨ret_bool (by simp [okW]; omega), rfl⟩

set_option maxHeartbeats 400000 in
theorem spare (c : Int) (h : 1 ≤ c) (h' : c ≤ 8) (w : World) :
    Calls Try.prog 27 #[.int .i64 c] w fun e w' => e = .returned (.int .i64 (64 - 8 * c)) ∧ w = w' := by
  go_enter Try.func27, Try.ntmps27
  go_wp2
  go_ret
  exact ⟨rfl, rfl⟩

set_option maxHeartbeats 400000 in
theorem fits (n c : Int) (hn : 0 ≤ n) (w : World) :
    Calls Try.prog 18 #[.int .u64 n, .int .i64 c] w fun e w' => e = .returned (.bool (fitsS n c)) ∧ w = w' := by
  by_cases hc : 1 ≤ c ∧ c ≤ 8
  · obtain ⟨h1, h2⟩ := hc
    have hk : okW c = true := by simp [okW, h1, h2]
    have H := keep (fits_shU n c h1 h2 hn)
    go_enter Try.func18, Try.ntmps18
    go_wp2_with (first | (go_at_call 25; refine (allowed _ _).mono ?_; rintro e w' ⟨rfl, rfl⟩) | (go_at_call 26; refine (shiftU _ _ (by omega) (by omega) _).mono ?_; rintro e w' ⟨rfl, rfl⟩))
    go_ret
    exact ⟨ret_bool (by rw [H.out]; simp [fitsS, hk]), rfl⟩
  · have hk : okW c = false := (okW_not c).2 hc
    go_enter Try.func18, Try.ntmps18
    go_wp2_with (first | (go_at_call 25; refine (allowed _ _).mono ?_; rintro e w' ⟨rfl, rfl⟩))
    go_ret
    exact ⟨ret_bool (by simp [fitsS, hk]), rfl⟩

set_option maxHeartbeats 400000 in
theorem ref_fits (n c : Int) (hn : 0 ≤ n) (hm : n < 18446744073709551616) (w : World) :
    Calls Try.prog 19 #[.int .u64 n, .int .i64 c] w fun e w' => e = .returned (.bool (fitsS n c)) ∧ w = w' := by
  have hm' := keep hm
  clear hm
  by_cases h1 : 1 ≤ c
  · by_cases h2 : c ≤ 8
    · by_cases h3 : c = 8
      · subst h3
        go_enter Try.func19, Try.ntmps19
        go_wp2
        go_ret
        exact ⟨ret_bool (by have := hm'.out; simp [fitsS, okW, p256_8]; omega), rfl⟩
      · have hb : (c == 8) = false := by simpa using h3
        have H := keep (fits_8 n c h1 h2 hn)
        go_enter Try.func19, Try.ntmps19
        go_wp2
        go_ret
        exact ⟨ret_bool (by rw [H.out]; simp [fitsS, okW, h1, h2]), rfl⟩
    · go_enter Try.func19, Try.ntmps19
      go_wp2
      go_ret
      exact ⟨ret_bool (fits_not n c (by omega)).symm, rfl⟩
  · go_enter Try.func19, Try.ntmps19
    go_wp2
    go_ret
    exact ⟨ret_bool (fits_not n c (by omega)).symm, rfl⟩

set_option maxHeartbeats 400000 in
theorem ref_low (n c : Int) (hn : 0 ≤ n) (hm : n < 18446744073709551616) (h1 : 1 ≤ c) (h2 : c ≤ 8) (w : World) :
    Calls Try.prog 24 #[.int .u64 n, .int .i64 c] w fun e w' => e = .returned (.int .u64 (lowS n c)) ∧ w = w' := by
  have H := keep (low_up n c h1 h2 hn hm)
  clear hm
  go_enter Try.func24, Try.ntmps24
  go_wp2
  go_ret
  exact ⟨ret_int (by rw [← H.out, u64_of]), rfl⟩

set_option maxHeartbeats 400000 in
theorem signed_ok (n c : Int) (hn : 0 ≤ n) (hm : n < 18446744073709551616) (h1 : 1 ≤ c) (h2 : c ≤ 8) (w : World) :
    Calls Try.prog 20 #[.int .u64 n, .int .i64 c] w fun e w' => e = .returned (.int .i64 (sgnS n c)) ∧ w = w' := by
  have hk : okW c = true := by simp [okW, h1, h2]
  have H := keep (sgn_up n c h1 h2 hn hm)
  clear hm
  go_enter Try.func20, Try.ntmps20
  go_wp2_with (first | (go_at_call 25; refine (allowed _ _).mono ?_; rintro e w' ⟨rfl, rfl⟩) | (go_at_call 27; refine (spare _ h1 h2 _).mono ?_; rintro e w' ⟨rfl, rfl⟩) | (go_at_call 26; refine (shiftU _ _ (by omega) (by omega) _).mono ?_; rintro e w' ⟨rfl, rfl⟩) | (go_at_call 29; refine (shiftI _ _ (by omega) (by omega) _).mono ?_; rintro e w' ⟨rfl, rfl⟩))
  go_ret
  exact ⟨ret_int H.out, rfl⟩
set_option maxHeartbeats 400000 in
theorem signed (n c : Int) (hn : 0 ≤ n) (hm : n < 18446744073709551616) (w : World) :
    Calls Try.prog 20 #[.int .u64 n, .int .i64 c] w fun e w' => e = .returned (.int .i64 (sgnS n c)) ∧ w = w' := by
  by_cases hc : 1 ≤ c ∧ c ≤ 8
  · exact signed_ok n c hn hm hc.1 hc.2 w
  · have hk : okW c = false := (okW_not c).2 hc
    clear hm
    go_enter Try.func20, Try.ntmps20
    go_wp2_with (first | (go_at_call 25; refine (allowed _ _).mono ?_; rintro e w' ⟨rfl, rfl⟩))
    go_ret
    exact ⟨ret_int (sgn_not n c hc).symm, rfl⟩

set_option maxHeartbeats 400000 in
theorem ref_signed (n c : Int) (hn : 0 ≤ n) (hm : n < 18446744073709551616) (w : World) :
    Calls Try.prog 21 #[.int .u64 n, .int .i64 c] w fun e w' => e = .returned (.int .i64 (sgnS n c)) ∧ w = w' := by
  by_cases h1 : 1 ≤ c
  · by_cases h2 : c ≤ 8
    · have H := keep (sgn_up' n c h1 h2 hn hm)
      clear hm
      go_enter Try.func21, Try.ntmps21
      go_wp2
      go_ret
      exact ⟨ret_int H.out, rfl⟩
    · have H := keep (sgn_not n c (by omega))
      clear hm
      go_enter Try.func21, Try.ntmps21
      go_wp2
      go_ret
      exact ⟨ret_int H.out.symm, rfl⟩
  · have H := keep (sgn_not n c (by omega))
    clear hm
    go_enter Try.func21, Try.ntmps21
    go_wp2
    go_ret
    exact ⟨ret_int H.out.symm, rfl⟩

def narS (n w : Int) : Int := if inS n w then lowS n w else 0
theorem nar_yes {n w : Int} (h : inS n w = true) : narS n w = lowS n w := by simp [narS, h]
theorem nar_no {n w : Int} (h : inS n w = false) : narS n w = 0 := by simp [narS, h]

set_option maxHeartbeats 400000 in
theorem narrow (n c : Int) (w : World) :
    Calls Try.prog 13 #[.int .i64 n, .int .i64 c] w fun e w' => e = .returned (.tuple #[.int .u64 (narS n c), .bool (inS n c)]) ∧ w = w' := by
  by_cases hc : 1 ≤ c ∧ c ≤ 8
  · obtain ⟨h1, h2⟩ := hc
    have hk : okW c = true := by simp [okW, h1, h2]
    have hl := keep (low_shU n c h1 h2)
    have hb := keep (low_bd n c h1 h2)
    have hs := sgn_low_ne n c h1 h2
    cases hin : inS n c
    all_goals
      rw [hin] at hs
      have hin' := keep hin
      clear hin
      go_enter Try.func13, Try.ntmps13
      go_wp2_with (first | (go_at_call 25; refine (allowed _ _).mono ?_; rintro e w' ⟨rfl, rfl⟩) | (go_at_call 27; refine (spare _ h1 h2 _).mono ?_; rintro e w' ⟨rfl, rfl⟩) | (go_at_call 26; refine (shiftU _ _ (by omega) (by omega) _).mono ?_; rintro e w' ⟨rfl, rfl⟩; try rw [hl.out]) | (go_at_call 20; refine (signed _ _ hb.out.1 hb.out.2 _).mono ?_; rintro e w' ⟨rfl, rfl⟩))
      go_ret2
      first | exact ⟨ret_int_bool (nar_no hin'.out).symm rfl, rfl⟩ | exact ⟨ret_int_bool (nar_yes hin'.out).symm rfl, rfl⟩
  · have hk : okW c = false := (okW_not c).2 hc
    have hin := keep (in_not n c hc)
    go_enter Try.func13, Try.ntmps13
    go_wp2_with (first | (go_at_call 25; refine (allowed _ _).mono ?_; rintro e w' ⟨rfl, rfl⟩))
    go_ret2
    exact ⟨ret_int_bool (nar_no hin.out).symm hin.out.symm, rfl⟩

set_option maxHeartbeats 400000 in
theorem ref_narrow (n c : Int) (w : World) :
    Calls Try.prog 14 #[.int .i64 n, .int .i64 c] w fun e w' => e = .returned (.tuple #[.int .u64 (narS n c), .bool (inS n c)]) ∧ w = w' := by
  by_cases h1 : 1 ≤ c
  · by_cases h2 : c ≤ 8
    · have hl := keep (low_u64 n c h1 h2)
      have hb := keep (low_bd n c h1 h2)
      have hu : Hid (0 ≤ IntKind.u64.wrap n ∧ IntKind.u64.wrap n < 18446744073709551616) := keep (by rw [u64_of]; omega)
      have hs := sgn_low_ne n c h1 h2
      cases hin : inS n c
      all_goals
        rw [hin] at hs
        have hin' := keep hin
        clear hin
        go_enter Try.func14, Try.ntmps14
        go_wp2_with (first | (go_at_call 24; refine (ref_low _ _ hu.out.1 hu.out.2 h1 h2 _).mono ?_; rintro e w' ⟨rfl, rfl⟩; rw [hl.out]) | (go_at_call 21; refine (ref_signed _ _ hb.out.1 hb.out.2 _).mono ?_; rintro e w' ⟨rfl, rfl⟩))
        go_ret2
        first | exact ⟨ret_int_bool (nar_no hin'.out).symm rfl, rfl⟩ | exact ⟨ret_int_bool (nar_yes hin'.out).symm rfl, rfl⟩
    · have hin := keep (in_not n c (by omega))
      go_enter Try.func14, Try.ntmps14
      go_wp2
      go_ret2
      exact ⟨ret_int_bool (nar_no hin.out).symm hin.out.symm, rfl⟩
  · have hin := keep (in_not n c (by omega))
    go_enter Try.func14, Try.ntmps14
    go_wp2
    go_ret2
    exact ⟨ret_int_bool (nar_no hin.out).symm hin.out.symm, rfl⟩

end Go.Proofs.Ytipckiabipklpaa
