/- Turning bits: turns add up, 64 are none, and as many bits are 1 as were. Plain arithmetic. -/
import Derived.Test.YtipckiabipklpaaTurn
namespace Go.Proofs.Ytipckiabipklpaa
open Go.RowKit

def rotN (n : Int) (k : Nat) : Int := (n * 2 ^ k) % 18446744073709551616 + n / 2 ^ (64 - k)
def rot1 (n : Int) : Int := (n * 2) % 18446744073709551616 + n / 9223372036854775808
def rotI : Nat → Int → Int
  | 0, n => n
  | k + 1, n => rot1 (rotI k n)
theorem rot1_bd (n : Int) (h : 0 ≤ n) (h' : n < 18446744073709551616) : 0 ≤ rot1 n ∧ rot1 n < 18446744073709551616 := by
  unfold rot1; omega
theorem rotI_bd (n : Int) (h : 0 ≤ n) (h' : n < 18446744073709551616) : ∀ k, 0 ≤ rotI k n ∧ rotI k n < 18446744073709551616
  | 0 => ⟨h, h'⟩
  | k + 1 => rot1_bd _ (rotI_bd n h h' k).1 (rotI_bd n h h' k).2
theorem rotI_add (n : Int) (j : Nat) : ∀ k, rotI (k + j) n = rotI k (rotI j n)
  | 0 => by rw [Nat.zero_add]; rfl
  | k + 1 => by rw [Nat.succ_add]; show rot1 (rotI (k + j) n) = rot1 (rotI k (rotI j n)); rw [rotI_add n j k]

theorem rot_alg (n P Q : Int) (hP : 0 < P) (hQ : 0 < Q) (hPQ : Q * P = 9223372036854775808) (h : 0 ≤ n) (h' : n < 18446744073709551616) :
    (n * (2 * P)) % 18446744073709551616 + n / Q = rot1 ((n * P) % 18446744073709551616 + n / (Q * 2)) := by
  have e1 : Q * (n / Q) + n % Q = n := Int.mul_ediv_add_emod n Q
  have hs := Int.emod_nonneg n (Int.ne_of_gt hQ)
  have hs' := Int.emod_lt_of_pos n hQ
  have hu : 0 ≤ n / Q := Int.ediv_nonneg h (Int.le_of_lt hQ)
  have hu' : n / Q < 2 * P := by
    apply Int.ediv_lt_of_lt_mul hQ
    rw [Int.mul_assoc, Int.mul_comm P Q, hPQ]
    omega
  rw [← Int.ediv_ediv_of_nonneg (Int.le_of_lt hQ)]
  generalize n / Q = u at *
  generalize n % Q = s at *
  have hX : s * P ≤ 9223372036854775808 - P := by
    have : s * P ≤ (Q - 1) * P := Int.mul_le_mul_of_nonneg_right (by omega) (Int.le_of_lt hP)
    rw [Int.sub_mul, hPQ] at this
    omega
  have hX0 : 0 ≤ s * P := Int.mul_nonneg hs (Int.le_of_lt hP)
  have eP : n * P = 9223372036854775808 * u + s * P := by
    rw [← e1, Int.add_mul, Int.mul_right_comm, hPQ]
  have eP2 : n * (2 * P) = 18446744073709551616 * u + 2 * (s * P) := by
    rw [Int.mul_left_comm, eP]
    omega
  rw [eP, eP2]
  unfold rot1
  generalize s * P = X at *
  clear eP eP2 e1 hs hs' hPQ
  obtain ⟨q, t, rfl, ht0, ht1⟩ : ∃ q t : Int, u = 2 * q + t ∧ 0 ≤ t ∧ t ≤ 1 := ⟨u / 2, u % 2, by omega, by omega, by omega⟩
  have a1 : (9223372036854775808 * (2 * q + t) + X) % 18446744073709551616 = 9223372036854775808 * t + X := by omega
  have a2 : (2 * q + t) / 2 = q := by omega
  have a3 : (18446744073709551616 * (2 * q + t) + 2 * X) % 18446744073709551616 = 2 * X := by omega
  rw [a1, a2, a3]
  omega
theorem pow_split (k : Nat) (hk : k < 64) : (2 : Int) ^ (63 - k) * 2 ^ k = 9223372036854775808 := by
  rw [← Int.pow_add, show 63 - k + k = 63 from by omega]; rfl
theorem rot_step (n : Int) (h : 0 ≤ n) (h' : n < 18446744073709551616) (k : Nat) (hk : k < 64) : rotN n (k + 1) = rot1 (rotN n k) := by
  have := rot_alg n (2 ^ k) (2 ^ (63 - k)) (Int.pow_pos (by decide)) (Int.pow_pos (by decide)) (pow_split k hk) h h'
  rw [rotN, rotN, show 64 - (k + 1) = 63 - k from by omega, show 64 - k = (63 - k) + 1 from by omega, Int.pow_succ, Int.pow_succ, Int.mul_comm (2 ^ k) 2]
  exact this
theorem rotN_eq (n : Int) (h : 0 ≤ n) (h' : n < 18446744073709551616) : ∀ k, k ≤ 64 → rotN n k = rotI k n
  | 0, _ => by simp only [rotN, rotI, Nat.sub_zero, Int.reducePow]; omega
  | k + 1, hk => by rw [rot_step n h h' k (by omega), rotN_eq n h h' k (by omega)]; rfl
theorem rotI_64 (n : Int) (h : 0 ≤ n) (h' : n < 18446744073709551616) : rotI 64 n = n := by
  rw [← rotN_eq n h h' 64 (Nat.le_refl _)]
  simp only [rotN, Nat.sub_self, Int.reducePow]
  omega
theorem rotS_eq (n c : Int) (h : 0 ≤ n) (h' : n < 18446744073709551616) : rotS n (c % 64) = rotI (c % 64).toNat n := by
  rw [← rotN_eq n h h' _ (by omega), rotS, rotN, show (64 - c % 64).toNat = 64 - (c % 64).toNat from by omega]
theorem rotI_mod (n : Int) (h : 0 ≤ n) (h' : n < 18446744073709551616) (a b : Nat) (ha : a < 64) (hb : b < 64) : rotI ((a + b) % 64) n = rotI (a + b) n := by
  by_cases hab : a + b < 64
  · rw [Nat.mod_eq_of_lt hab]
  · have e : a + b = (a + b) % 64 + 64 := by omega
    conv => rhs; rw [e, rotI_add, rotI_64 n h h']
theorem rotS_bd (n c : Int) (h : 0 ≤ n) (h' : n < 18446744073709551616) : 0 ≤ rotS n (c % 64) ∧ rotS n (c % 64) < 18446744073709551616 := by
  rw [rotS_eq n c h h']
  exact rotI_bd n h h' _
/-- Two turns are one by both together. -/
theorem rotS_add (n a b c : Int) (h : 0 ≤ n) (h' : n < 18446744073709551616) (hc : c % 64 = (a + b) % 64) : rotS (rotS n (a % 64)) (b % 64) = rotS n (c % 64) := by
  have hb := rotS_bd n a h h'
  rw [rotS_eq _ b hb.1 hb.2, rotS_eq n a h h', rotS_eq n c h h', ← rotI_add, show (c % 64).toNat = ((b % 64).toNat + (a % 64).toNat) % 64 from by omega, rotI_mod n h h' _ _ (by omega) (by omega)]
theorem rotS_zero (n c : Int) (h : 0 ≤ n) (h' : n < 18446744073709551616) (hc : c % 64 = 0) : rotS n (c % 64) = n := by
  rw [rotS_eq n c h h', hc]; rfl

/-- How many of the k lowest bits are 1. -/
def pop (n : Int) : Nat → Int
  | 0 => 0
  | k + 1 => pop n k + n / 2 ^ k % 2
theorem bit_up (n : Int) (h : 0 ≤ n) (h' : n < 18446744073709551616) (k : Nat) (hk : k < 63) : rot1 n / 2 ^ (k + 1) % 2 = n / 2 ^ k % 2 := by
  have hp : (0 : Int) < 2 ^ k := Int.pow_pos (by decide)
  rw [Int.pow_succ, Int.mul_comm, ← Int.ediv_ediv_of_nonneg (by omega), show rot1 n / 2 = n % 9223372036854775808 from by unfold rot1; omega]
  rcases (show n / 9223372036854775808 = 0 ∨ n / 9223372036854775808 = 1 from by omega) with h0 | h0
  · rw [show n % 9223372036854775808 = n from by omega]
  · have e : n = n % 9223372036854775808 + 2 ^ k * (2 * 2 ^ (62 - k)) := by
      have : (2 : Int) ^ k * (2 * 2 ^ (62 - k)) = 9223372036854775808 := by
        rw [← Int.mul_assoc, Int.mul_comm (2 ^ k) 2, Int.mul_assoc, ← Int.pow_add, show k + (62 - k) = 62 from by omega]
        rfl
      rw [this]
      omega
    conv => rhs; rw [e, Int.add_mul_ediv_left _ _ (Int.ne_of_gt hp)]
    omega
theorem pop_up (n : Int) (h : 0 ≤ n) (h' : n < 18446744073709551616) : ∀ k, k ≤ 63 → pop (rot1 n) (k + 1) = n / 9223372036854775808 + pop n k
  | 0, _ => by simp only [pop, rot1, Int.reducePow]; omega
  | k + 1, hk => by
    rw [pop, pop_up n h h' k (by omega), bit_up n h h' k (by omega), Int.add_assoc]; rfl
theorem pop_rot1 (n : Int) (h : 0 ≤ n) (h' : n < 18446744073709551616) : pop (rot1 n) 64 = pop n 64 := by
  rw [pop_up n h h' 63 (Nat.le_refl _)]
  show _ = pop n 63 + n / 2 ^ 63 % 2
  simp only [Int.reducePow]
  omega
theorem pop_rotI (n : Int) (h : 0 ≤ n) (h' : n < 18446744073709551616) : ∀ k, pop (rotI k n) 64 = pop n 64
  | 0 => rfl
  | k + 1 => (pop_rot1 _ (rotI_bd n h h' k).1 (rotI_bd n h h' k).2).trans (pop_rotI n h h' k)
theorem pop_rotS (n c : Int) (h : 0 ≤ n) (h' : n < 18446744073709551616) : pop (rotS n (c % 64)) 64 = pop n 64 := by
  rw [rotS_eq n c h h']; exact pop_rotI n h h' _
theorem pop_bd (n : Int) : ∀ k : Nat, 0 ≤ pop n k ∧ pop n k ≤ k
  | 0 => by simp [pop]
  | k + 1 => by
    have := pop_bd n k
    simp only [pop]
    omega
theorem bit_and (n : Int) (k : Nat) (h : 0 ≤ n) (h' : n < 18446744073709551616) : bits .and .u64 (n / 2 ^ k) 1 = n / 2 ^ k % 2 := by
  have hp : (0 : Int) < 2 ^ k := Int.pow_pos (by decide)
  have h0 : 0 ≤ n / 2 ^ k := Int.ediv_nonneg h (Int.le_of_lt hp)
  have h1 : n / 2 ^ k ≤ n := Int.ediv_le_self _ h
  rw [u64_and _ 1 h0 (by omega) (by omega) (by omega)]
  obtain ⟨N, hN⟩ := Int.eq_ofNat_of_zero_le h0
  rw [hN, Int.toNat_natCast, show (1 : Int).toNat = 2 ^ 1 - 1 from rfl, Nat.and_two_pow_sub_one_eq_mod]
  omega
end Go.Proofs.Ytipckiabipklpaa
