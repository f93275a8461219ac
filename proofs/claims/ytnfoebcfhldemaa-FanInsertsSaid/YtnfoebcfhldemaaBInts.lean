/- Plain arithmetic of layer 1: what shifting, reading and writing bytes come to, as functions on numbers and lists. No program text. -/
import Derived.Test.YtnfoebcfhldemaaBase
import Derived.Test.YtnfoebcfhldemaaRows
import Derived.WalkSpells
import Derived.WalkLawsBesides
namespace Go.Proofs.Ytnfoebcfhldemaa
set_option maxRecDepth 100000
open Go.RowKit
set_option linter.unusedVariables false

def two64 : Int := 18446744073709551616
/-- A 64-bit number without sign, moved by that many places up, or down if below 0. -/
def shU (n c : Int) : Int := if c < 0 then n / 2 ^ min (-c).toNat 64 else (n * 2 ^ min c.toNat 64) % 18446744073709551616
/-- A 64-bit number with a sign, moved likewise. -/
def shI (n c : Int) : Int := if c < 0 then n / 2 ^ min (-c).toNat 64 else (n * 2 ^ min c.toNat 64 + 9223372036854775808) % 18446744073709551616 - 9223372036854775808

theorem u64_of (n : Int) : IntKind.u64.wrap n = n % 18446744073709551616 := by
  simp [IntKind.wrap, IntKind.bits, IntKind.signed]
theorem w64_of (n : Int) : wrap64 n = (n + 9223372036854775808) % 18446744073709551616 - 9223372036854775808 := by
  unfold wrap64; rfl
theorem count_neg (c : Int) (h : c < 0) (hl : -9223372036854775808 ≤ c) : (IntKind.u64.wrap (wrap64 (-c))).toNat = (-c).toNat := by
  rw [u64_of, w64_of]; omega
theorem shU_neg (n c : Int) (h : c < 0) (hl : -9223372036854775808 ≤ c) : n / 2 ^ min (IntKind.u64.wrap (wrap64 (-c))).toNat 64 = shU n c := by
  rw [count_neg c h hl, shU, if_pos h]
theorem shU_pos (n c : Int) (h : 0 ≤ c) : IntKind.u64.wrap (n * 2 ^ min c.toNat 64) = shU n c := by
  rw [u64_of, shU, if_neg (by omega)]
theorem shI_neg (n c : Int) (h : c < 0) (hl : -9223372036854775808 ≤ c) : n / 2 ^ min (IntKind.u64.wrap (wrap64 (-c))).toNat 64 = shI n c := by
  rw [count_neg c h hl, shI, if_pos h]
theorem shI_pos (n c : Int) (h : 0 ≤ c) : IntKind.i64.wrap (n * 2 ^ min c.toNat 64) = shI n c := by
  rw [IntKind.wrap_i64, shI, if_neg (by omega)]

/-- May a number have that many bytes? -/
def okW (w : Int) : Bool := decide (1 ≤ w) && decide (w ≤ 8)
theorem okW_iff (w : Int) : okW w = true ↔ 1 ≤ w ∧ w ≤ 8 := by simp [okW]
theorem okW_not (w : Int) : okW w = false ↔ ¬ (1 ≤ w ∧ w ≤ 8) := by simp [okW]
theorem eight (w : Int) (h : 1 ≤ w) (h' : w ≤ 8) : w = 1 ∨ w = 2 ∨ w = 3 ∨ w = 4 ∨ w = 5 ∨ w = 6 ∨ w = 7 ∨ w = 8 := by omega

/-- 256 to the power of w. -/
def p256 (w : Int) : Int := 256 ^ w.toNat
/-- n's w lowest bytes. -/
def lowS (n w : Int) : Int := n % p256 w
def fitsS (n w : Int) : Bool := okW w && decide (n < p256 w)
/-- What the w lowest bytes of n are in two's complement. -/
def sgnS (n w : Int) : Int := if okW w then (n + p256 w / 2) % p256 w - p256 w / 2 else 0
/-- Has n room in w bytes in two's complement? -/
def inS (n w : Int) : Bool := okW w && (decide (-(p256 w / 2) ≤ n) && decide (n < p256 w / 2))

theorem p256_1 : p256 1 = 256 := by decide
theorem p256_2 : p256 2 = 65536 := by decide
theorem p256_3 : p256 3 = 16777216 := by decide
theorem p256_4 : p256 4 = 4294967296 := by decide
theorem p256_5 : p256 5 = 1099511627776 := by decide
theorem p256_6 : p256 6 = 281474976710656 := by decide
theorem p256_7 : p256 7 = 72057594037927936 := by decide
theorem p256_8 : p256 8 = 18446744073709551616 := by decide

/-- Of a number that is one of the eight widths: the case of each, and what is to be shown in each by plain arithmetic. -/
theorem pow_8 (w : Int) (h : 1 ≤ w) (h' : w ≤ 8) : (2 : Int) ^ (8 * w).toNat = p256 w := by
  rcases eight w h h' with rfl | rfl | rfl | rfl | rfl | rfl | rfl | rfl <;> decide
theorem fits_8 (n w : Int) (h : 1 ≤ w) (h' : w ≤ 8) (hn : 0 ≤ n) : (n / 2 ^ (8 * w).toNat == 0) = decide (n < p256 w) := by
  rw [pow_8 w h h', Bool.eq_iff_iff]
  simp only [beq_iff_eq, decide_eq_true_eq]
  rcases eight w h h' with rfl | rfl | rfl | rfl | rfl | rfl | rfl | rfl <;> simp only [p256_1, p256_2, p256_3, p256_4, p256_5, p256_6, p256_7, p256_8] <;> omega
theorem fits_shU (n w : Int) (h : 1 ≤ w) (h' : w ≤ 8) (hn : 0 ≤ n) : (shU n (-8 * w) == 0) = decide (n < p256 w) := by
  rw [← fits_8 n w h h' hn, shU, if_pos (by omega), show min (-(-8 * w)).toNat 64 = (8 * w).toNat from by omega]
theorem fits_not (n w : Int) (h : ¬ (1 ≤ w ∧ w ≤ 8)) : fitsS n w = false := by
  simp only [fitsS, (okW_not w).2 h, Bool.false_and]
theorem sgn_not (n w : Int) (h : ¬ (1 ≤ w ∧ w ≤ 8)) : sgnS n w = 0 := by
  simp [sgnS, (okW_not w).2 h]
theorem in_not (n w : Int) (h : ¬ (1 ≤ w ∧ w ≤ 8)) : inS n w = false := by
  simp only [inS, (okW_not w).2 h, Bool.false_and]
theorem low_up (n w : Int) (h : 1 ≤ w) (h' : w ≤ 8) (hn : 0 ≤ n) (hm : n < 18446744073709551616) : (n * 2 ^ (64 - 8 * w).toNat) % 18446744073709551616 / 2 ^ (64 - 8 * w).toNat = lowS n w := by
  rcases eight w h h' with rfl | rfl | rfl | rfl | rfl | rfl | rfl | rfl <;> simp [p256, lowS] <;> omega
/-- The two's complement of the w lowest bytes by a shift up and a shift down with the sign. -/
theorem sgn_up (n w : Int) (h : 1 ≤ w) (h' : w ≤ 8) (hn : 0 ≤ n) (hm : n < 18446744073709551616) : shI (wrap64 (shU n (64 - 8 * w))) (-(64 - 8 * w)) = sgnS n w := by
  rw [w64_of]
  rcases eight w h h' with rfl | rfl | rfl | rfl | rfl | rfl | rfl | rfl <;> simp [shI, shU, sgnS, okW, p256] <;> omega
theorem sgn_up' (n w : Int) (h : 1 ≤ w) (h' : w ≤ 8) (hn : 0 ≤ n) (hm : n < 18446744073709551616) : wrap64 (IntKind.u64.wrap (n * 2 ^ (64 - 8 * w).toNat)) / 2 ^ (64 - 8 * w).toNat = sgnS n w := by
  rw [w64_of, u64_of]
  rcases eight w h h' with rfl | rfl | rfl | rfl | rfl | rfl | rfl | rfl <;> simp [sgnS, okW, p256] <;> omega
theorem low_shU (n w : Int) (h : 1 ≤ w) (h' : w ≤ 8) : shU (shU (IntKind.u64.wrap n) (64 - 8 * w)) (-(64 - 8 * w)) = lowS n w := by
  rw [u64_of]
  rcases eight w h h' with rfl | rfl | rfl | rfl | rfl | rfl | rfl | rfl <;> simp [shU, lowS, p256] <;> omega
theorem low_u64 (n w : Int) (h : 1 ≤ w) (h' : w ≤ 8) : lowS (IntKind.u64.wrap n) w = lowS n w := by
  rw [u64_of]
  rcases eight w h h' with rfl | rfl | rfl | rfl | rfl | rfl | rfl | rfl <;> simp only [lowS, p256_1, p256_2, p256_3, p256_4, p256_5, p256_6, p256_7, p256_8] <;> omega
theorem low_bd (n w : Int) (h : 1 ≤ w) (h' : w ≤ 8) : 0 ≤ lowS n w ∧ lowS n w < 18446744073709551616 := by
  rcases eight w h h' with rfl | rfl | rfl | rfl | rfl | rfl | rfl | rfl <;> simp only [lowS, p256_1, p256_2, p256_3, p256_4, p256_5, p256_6, p256_7, p256_8] <;> omega
/-- Narrowed and widened again it is the same just if it has room. -/
theorem sgn_low (n w : Int) (h : 1 ≤ w) (h' : w ≤ 8) : (sgnS (lowS n w) w == n) = inS n w := by
  have hk : okW w = true := (okW_iff w).2 ⟨h, h'⟩
  rw [Bool.eq_iff_iff]
  simp only [sgnS, lowS, inS, hk, if_true, Bool.true_and, beq_iff_eq, Bool.and_eq_true, decide_eq_true_eq]
  rcases eight w h h' with rfl | rfl | rfl | rfl | rfl | rfl | rfl | rfl <;> simp only [p256_1, p256_2, p256_3, p256_4, p256_5, p256_6, p256_7, p256_8] <;> omega
theorem sgn_low_ne (n w : Int) (h : 1 ≤ w) (h' : w ≤ 8) : (sgnS (lowS n w) w != n) = !inS n w := by
  rw [← sgn_low n w h h']; rfl

end Go.Proofs.Ytnfoebcfhldemaa
/- What the functions of layer 1 on numbers alone come to, of the program and of the document. -/
namespace Go.Proofs.Ytnfoebcfhldemaa
set_option maxRecDepth 100000
open Go.RowKit
set_option linter.unusedVariables false

set_option maxHeartbeats 400000 in
theorem shiftU (n c : Int) (hl : -9223372036854775808 ≤ c) (hu : c ≤ 9223372036854775807) (w : World) :
    Calls Try.prog 103 #[.int .u64 n, .int .i64 c] w fun e w' => e = .returned (.int .u64 (shU n c)) ∧ w = w' := by
  by_cases h : c < 0
  · go_enter Try.func103, Try.ntmps103
    go_wp2
    go_ret
    exact ⟨ret_int (shU_neg n c h hl), rfl⟩
  · go_enter Try.func103, Try.ntmps103
    go_wp2
    go_ret
    exact ⟨ret_int (shU_pos n c (by omega)), rfl⟩

set_option maxHeartbeats 400000 in
theorem allowed (c : Int) (w : World) :
    Calls Try.prog 102 #[.int .i64 c] w fun e w' => e = .returned (.bool (okW c)) ∧ w = w' := by
  by_cases h : 1 ≤ c
  · go_enter Try.func102, Try.ntmps102
    go_wp2
    go_ret
    exact ⟨ret_bool (by simp [okW, h]), rfl⟩
  · go_enter Try.func102, Try.ntmps102
    go_wp2
    go_ret
    exact ⟨ret_bool (by simp [okW]; omega), rfl⟩
end Go.Proofs.Ytnfoebcfhldemaa
