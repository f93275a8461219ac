/- What a turn of a number's bits comes to. -/
import Derived.Test.YtipckiabipklpaaInts
namespace Go.Proofs.Ytipckiabipklpaa
open Go.RowKit

/-- n turned by k places, 0 ≤ k ≤ 64. -/
def rotS (n k : Int) : Int := (n * 2 ^ k.toNat) % 18446744073709551616 + n / 2 ^ (64 - k).toNat

theorem rot_or (n k : Int) (hn : 0 ≤ n) (hm : n < 18446744073709551616) (h : 0 ≤ k) (h' : k < 64) (a b : Int) (ha : a = (n * 2 ^ k.toNat) % 18446744073709551616) (hb : b = n / 2 ^ (64 - k).toNat) : bits .or .u64 a b = rotS n k := by
  obtain ⟨N, rfl⟩ := Int.eq_ofNat_of_zero_le hn
  obtain ⟨K, rfl⟩ := Int.eq_ofNat_of_zero_le h
  have hK : K < 64 := by omega
  have e64 : (18446744073709551616 : Nat) = 2 ^ K * 2 ^ (64 - K) := by rw [← Nat.pow_add, show K + (64 - K) = 64 from by omega]
  have ea : a = ((2 ^ K * (N % 2 ^ (64 - K)) : Nat) : Int) := by
    rw [ha, Int.toNat_natCast, ← Nat.mul_mod_mul_left, ← e64, Nat.mul_comm]
    simp
  have eb : b = ((N / 2 ^ (64 - K) : Nat) : Int) := by
    rw [hb, show ((64 : Int) - (K : Int)).toNat = 64 - K from by omega]
    simp
  have hlt : N / 2 ^ (64 - K) < 2 ^ K := by
    apply Nat.div_lt_of_lt_mul
    rw [Nat.mul_comm, ← e64]
    omega
  have hlt2 : 2 ^ K * (N % 2 ^ (64 - K)) < 18446744073709551616 := by
    rw [e64]
    exact Nat.mul_lt_mul_of_pos_left (Nat.mod_lt _ (Nat.two_pow_pos _)) (Nat.two_pow_pos _)
  have h2K : 2 ^ K ≤ 18446744073709551616 := by
    rw [e64]
    exact Nat.le_mul_of_pos_right _ (Nat.two_pow_pos _)
  have hr : rotS (N : Int) (K : Int) = a + b := by rw [rotS, ha, hb]
  rw [hr, ea, eb, u64_or_nat _ _ hlt2 (by omega), ← Nat.two_pow_add_eq_or_of_lt hlt]
  simp

theorem and63 (c : Int) (h : -9223372036854775808 ≤ c) (h' : c ≤ 9223372036854775807) : bits .and .i64 c 63 = c % 64 := by
  show IntKind.i64.wrap ((BitVec.ofInt 64 c &&& BitVec.ofInt 64 63).toNat : Int) = _
  rw [BitVec.toNat_and, show (BitVec.ofInt 64 63).toNat = 2 ^ 6 - 1 from by decide, Nat.and_two_pow_sub_one_eq_mod, BitVec.toNat_ofInt, IntKind.wrap_i64]
  omega

theorem rem64 (c : Int) : c.tmod 64 = if 0 ≤ c then c % 64 else -((-c) % 64) := by
  by_cases h : 0 ≤ c
  · rw [if_pos h, Int.tmod_eq_emod_of_nonneg h]
  · rw [if_neg h, ← Int.tmod_eq_emod_of_nonneg (by omega), Int.neg_tmod, Int.neg_neg]

set_option maxHeartbeats 400000 in
theorem turn (n c : Int) (hn : 0 ≤ n) (hm : n < 18446744073709551616) (h : -9223372036854775808 ≤ c) (h' : c ≤ 9223372036854775807) (w : World) :
    Calls Try.prog 22 #[.int .u64 n, .int .i64 c] w fun e w' => e = .returned (.int .u64 (rotS n (c % 64))) ∧ w = w' := by
  have ha := and63 c h h'
  have H := keep (rot_or n (c % 64) hn hm (by omega) (by omega) (shU n (c % 64)) (shU n (c % 64 - 64)) (by rw [shU, if_neg (by omega), show min (c % 64).toNat 64 = (c % 64).toNat from by omega])
    (by rw [shU, if_pos (by omega), show min (-(c % 64 - 64)).toNat 64 = (64 - c % 64).toNat from by omega]))
  clear hm
  go_enter Try.func22, Try.ntmps22
  go_wp2_with (go_at_call 26; refine (shiftU _ _ (by omega) (by omega) _).mono ?_; rintro e w' ⟨rfl, rfl⟩)
  go_ret
  exact ⟨ret_int H.out, rfl⟩

set_option maxHeartbeats 400000 in
theorem ref_turn (n c : Int) (hn : 0 ≤ n) (hm : n < 18446744073709551616) (h : -9223372036854775808 ≤ c) (h' : c ≤ 9223372036854775807) (w : World) :
    Calls Try.prog 23 #[.int .u64 n, .int .i64 c] w fun e w' => e = .returned (.int .u64 (rotS n (c % 64))) ∧ w = w' := by
  have hq := rem64 c
  have h1 : -63 ≤ c.tmod 64 := by rw [hq]; split <;> omega
  have h2 : c.tmod 64 ≤ 63 := by rw [hq]; split <;> omega
  have Hq := keep hq
  have Hm := keep hm
  clear hq hm
  by_cases hneg : c.tmod 64 < 0
  · have e : Hid (c.tmod 64 + 64 = c % 64) := keep (by have := Hq.out; split at this <;> omega)
    go_enter Try.func23, Try.ntmps23
    go_wp2
    go_ret
    exact ⟨ret_int (rot_or n (c % 64) hn Hm.out (by omega) (by omega) _ _ (by rw [u64_of, e.out]) (by rw [e.out])), rfl⟩
  · have e : Hid (c.tmod 64 = c % 64) := keep (by have := Hq.out; split at this <;> omega)
    go_enter Try.func23, Try.ntmps23
    go_wp2
    go_ret
    exact ⟨ret_int (rot_or n (c % 64) hn Hm.out (by omega) (by omega) _ _ (by rw [u64_of, e.out]) (by rw [e.out])), rfl⟩

end Go.Proofs.Ytipckiabipklpaa
