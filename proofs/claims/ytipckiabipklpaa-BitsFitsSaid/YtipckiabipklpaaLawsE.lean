/- BitsFits, walked. -/
import Derived.Test.YtipckiabipklpaaLawsA
namespace Go.Proofs.Ytipckiabipklpaa
open Go.RowKit

theorem fits_low_eq (x k : Int) (h1 : 1 ≤ k) (h2 : k ≤ 8) (hx : 0 ≤ x) : (lowS x k == x) = fitsS x k := by
  have hk : okW k = true := (okW_iff k).2 ⟨h1, h2⟩
  rw [Bool.eq_iff_iff]
  simp only [fitsS, hk, Bool.true_and, decide_eq_true_eq, beq_iff_eq]
  rcases eight k h1 h2 with rfl | rfl | rfl | rfl | rfl | rfl | rfl | rfl <;> simp only [lowS, p256_1, p256_2, p256_3, p256_4, p256_5, p256_6, p256_7, p256_8] <;> omega
theorem fits_more (x k : Int) (h1 : 1 ≤ k) (h2 : k ≤ 7) (h : fitsS x k = true) : fitsS x (k + 1) = true := by
  have hk : okW k = true := (okW_iff k).2 ⟨h1, by omega⟩
  have hk' : okW (k + 1) = true := (okW_iff _).2 ⟨by omega, by omega⟩
  simp only [fitsS, hk, hk', Bool.true_and, decide_eq_true_eq] at h ⊢
  rcases (show k = 1 ∨ k = 2 ∨ k = 3 ∨ k = 4 ∨ k = 5 ∨ k = 6 ∨ k = 7 from by omega) with rfl | rfl | rfl | rfl | rfl | rfl | rfl <;> simp only [Int.reduceAdd, p256_1, p256_2, p256_3, p256_4, p256_5, p256_6, p256_7, p256_8] at h ⊢ <;> omega
theorem fits_8_ (x : Int) (h : x < 18446744073709551616) : fitsS x 8 = true := by
  simp only [fitsS, p256_8, (okW_iff 8).2 (by omega), Bool.true_and, decide_eq_true_eq]; exact h

set_option maxHeartbeats 1000000 in
theorem bitsFits_core (x k : Int) (w : World) (hx : 0 ≤ x ∧ x ≤ 18446744073709551615) :
    Calls Try.prog 8 #[.int .u64 x, .int .i64 k] w fun e w' => e = .returned (.bool true) ∧ Below w.heap.size w w' := by
  by_cases hn : 1 ≤ k ∧ k ≤ 7
  · obtain ⟨hk1, hk2⟩ := hn
    obtain ⟨K, rfl⟩ := Int.eq_ofNat_of_zero_le (show 0 ≤ k by omega)
    have hx0 := hx.1
    have h8 := fits_8_ x (by omega)
    clear hx
    have hle := fits_low_eq x K hk1 (by omega) hx0
    have hmo := keep (fits_more x K hk1 hk2)
    have hrow : Hid (leN ((([] ++ leB x K).drop 0).take K) = lowS x K) := keep (by
      rw [List.nil_append, List.drop_zero, List.take_of_length_le (by rw [leB_len]; omega), low_leB x K hx0])
    cases hf : fitsS x K
    all_goals
      rw [hf] at hle
      have hmo' : fitsS x K = true → fitsS x ((K : Int) + 1) = true := hmo.out
      rw [hf] at hmo'
      first | have hm1 := hmo' rfl | skip
      clear hmo'
      go_enter Try.func8, Try.ntmps8
      go_wp2_with fail
      refine (put_ok none 0 0 [] rfl (by omega) x K hx0 hk1 (by omega) _ Has.nil).mono ?_
      rintro e w1 ⟨A1, c1, rfl, ho1, hb1⟩
      rw [Int.toNat_natCast, Nat.zero_add] at ho1 ⊢
      have hcap := ho1.cap
      go_wp2_with fail
      refine (num_ok A1 K c1 ([] ++ leB x K) (len_one ho1) (by omega) hcap (by simpa using bytes_leB K x) 0 K (by omega) (by omega) (by omega) _ ho1.has).mono ?_
      rintro e w2 ⟨rfl, rfl⟩
      rw [hrow.out]
      go_wp2_with fail
      refine (fits x K hx0 _).mono ?_
      rintro e w2 ⟨rfl, rfl⟩
      go_wp2_with (first
        | (go_at_call 18; refine (fits x _ hx0 _).mono ?_; rintro e w2 ⟨rfl, rfl⟩)
        | (go_at_call 10; refine (awake _).mono ?_; rintro e w3 ⟨rfl, hb3⟩))
      go_ret
      exact ⟨rfl, hb1.trans (hb3.mono hb1.size)⟩
  · go_enter Try.func8, Try.ntmps8
    go_wp2_with (go_at_call 10; refine (awake _).mono ?_; rintro e w' ⟨rfl, hb⟩)
    all_goals (go_ret; exact ⟨rfl, hb⟩)

end Go.Proofs.Ytipckiabipklpaa
