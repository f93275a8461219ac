/- BitsSigned, walked. -/
import Derived.Test.YtipckiabipklpaaLawsA
namespace Go.Proofs.Ytipckiabipklpaa
open Go.RowKit

theorem half_of (k : Int) (h1 : 1 ≤ k) (h2 : k ≤ 8) : ∃ H : Int, wrap64 (2 ^ (8 * k - 2).toNat) = H ∧ 1 ≤ H ∧ H ≤ 4611686018427387904 ∧ p256 k = 4 * H := by
  rcases eight k h1 h2 with rfl | rfl | rfl | rfl | rfl | rfl | rfl | rfl
  all_goals refine ⟨_, rfl, ?_⟩; rw [w64_of]; decide
theorem tdiv_neg (x : Int) (h : x ≤ 0) : x.tdiv 2 = -((-x) / 2) := by
  rw [← Int.tdiv_eq_ediv_of_nonneg (by omega), Int.neg_tdiv, Int.neg_neg]
theorem in_iff (x k H : Int) (h1 : 1 ≤ k) (h2 : k ≤ 8) (hp : p256 k = 4 * H) : inS x k = true ↔ -(2 * H) ≤ x ∧ x < 2 * H := by
  have hk : okW k = true := (okW_iff k).2 ⟨h1, h2⟩
  have e : 4 * H / 2 = 2 * H := by omega
  simp only [inS, hk, hp, e, Bool.true_and, Bool.and_eq_true, decide_eq_true_eq]
theorem fits_low (x k : Int) (h1 : 1 ≤ k) (h2 : k ≤ 8) : fitsS (lowS x k) k = true := by
  have hk : okW k = true := (okW_iff k).2 ⟨h1, h2⟩
  simp only [fitsS, hk, Bool.true_and, decide_eq_true_eq]
  rcases eight k h1 h2 with rfl | rfl | rfl | rfl | rfl | rfl | rfl | rfl <;> simp only [lowS, p256_1, p256_2, p256_3, p256_4, p256_5, p256_6, p256_7, p256_8] <;> omega

set_option maxHeartbeats 1000000 in
theorem bitsSigned_core (x k : Int) (w : World) (hx : -9223372036854775808 ≤ x ∧ x ≤ 9223372036854775807) :
    Calls Try.prog 6 #[.int .i64 x, .int .i64 k] w fun e w' => e = .returned (.bool true) ∧ Below w.heap.size w w' := by
  by_cases hn : 1 ≤ k ∧ k ≤ 8
  · obtain ⟨hk1, hk2⟩ := hn
    obtain ⟨H, hH, hH1, hH2, hp⟩ := half_of k hk1 hk2
    have hi := keep (in_iff x k H hk1 hk2 hp)
    have hlb := keep (low_bd x k hk1 hk2)
    clear hp
    cases hin : inS x k
    · have hnar := nar_no hin
      by_cases h0 : 0 ≤ x
      · have d1 : ¬ x / 2 < H := by
          intro h
          have := hi.out.2 (by omega)
          rw [hin] at this
          cases this
        obtain ⟨hx1, hx2⟩ := hx
        go_enter Try.func6, Try.ntmps6
        go_wp2_with (first | (go_at_call 13; refine (narrow x k _).mono ?_; rintro e w' ⟨rfl, rfl⟩) | (go_at_call 10; refine (awake _).mono ?_; rintro e w' ⟨rfl, hb⟩))
        go_ret
        exact ⟨rfl, hb⟩
      · have t1 := tdiv_neg x (by omega)
        have t2 := tdiv_neg (x + 1) (by omega)
        have d1 : x.tdiv 2 < H := by omega
        have d2 : ¬ -H < (x + 1).tdiv 2 := by
          intro h
          have := hi.out.2 (by omega)
          rw [hin] at this
          cases this
        clear t1 t2
        go_enter Try.func6, Try.ntmps6
        go_wp2_with (first | (go_at_call 13; refine (narrow x k _).mono ?_; rintro e w' ⟨rfl, rfl⟩) | (go_at_call 10; refine (awake _).mono ?_; rintro e w' ⟨rfl, hb⟩))
        go_ret
        exact ⟨rfl, hb⟩
    · have hnar := nar_yes hin
      have hs := (sgn_low x k hk1 hk2).trans hin
      have hf := fits_low x k hk1 hk2
      have hbd := hi.out.1 hin
      by_cases h0 : 0 ≤ x
      · have d1 : x / 2 < H := by omega
        clear hbd
        go_enter Try.func6, Try.ntmps6
        go_wp2_with (first | (go_at_call 13; refine (narrow x k _).mono ?_; rintro e w' ⟨rfl, rfl⟩) | (go_at_call 18; refine (fits _ k hlb.out.1 _).mono ?_; rintro e w' ⟨rfl, rfl⟩) | (go_at_call 20; refine (signed _ k hlb.out.1 hlb.out.2 _).mono ?_; rintro e w' ⟨rfl, rfl⟩) | (go_at_call 10; refine (awake _).mono ?_; rintro e w' ⟨rfl, hb⟩))
        go_ret
        exact ⟨rfl, hb⟩
      · have t1 := tdiv_neg x (by omega)
        have t2 := tdiv_neg (x + 1) (by omega)
        have d1 : x.tdiv 2 < H := by omega
        have d2 : -H < (x + 1).tdiv 2 := by omega
        clear t1 t2 hbd
        go_enter Try.func6, Try.ntmps6
        go_wp2_with (first | (go_at_call 13; refine (narrow x k _).mono ?_; rintro e w' ⟨rfl, rfl⟩) | (go_at_call 18; refine (fits _ k hlb.out.1 _).mono ?_; rintro e w' ⟨rfl, rfl⟩) | (go_at_call 20; refine (signed _ k hlb.out.1 hlb.out.2 _).mono ?_; rintro e w' ⟨rfl, rfl⟩) | (go_at_call 10; refine (awake _).mono ?_; rintro e w' ⟨rfl, hb⟩))
        go_ret
        exact ⟨rfl, hb⟩
  · go_enter Try.func6, Try.ntmps6
    go_wp2_with (go_at_call 10; refine (awake _).mono ?_; rintro e w' ⟨rfl, hb⟩)
    all_goals (go_ret; exact ⟨rfl, hb⟩)

end Go.Proofs.Ytipckiabipklpaa
