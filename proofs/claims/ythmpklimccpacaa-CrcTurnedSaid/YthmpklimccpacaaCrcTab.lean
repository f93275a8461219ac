/- The model's 32-bit words as plain numbers; the table of a byte's steps. No program text. -/
import Derived.Test.YthmpklimccpacaaBase
import Derived.Test.YthmpklimccpacaaCrcMath
namespace Go.Proofs.Ythmpklimccpacaa
open Go.RowKit
set_option linter.unusedVariables false

theorem u32_xor (a b : Nat) (ha : a < 4294967296) (hb : b < 4294967296) : bits .xor .u32 (a : Int) (b : Int) = ((a ^^^ b : Nat) : Int) := by
  have hx := xor_lt ha hb
  show IntKind.u32.wrap ((BitVec.ofInt 32 a ^^^ BitVec.ofInt 32 b).toNat : Int) = _
  rw [BitVec.toNat_xor, BitVec.toNat_ofInt, BitVec.toNat_ofInt, IntKind.wrap_u32, show ((a : Int) % ((2 ^ 32 : Nat) : Int)).toNat = a from by omega, show ((b : Int) % ((2 ^ 32 : Nat) : Int)).toNat = b from by omega]
  omega
theorem u8_xor (a b : Nat) (ha : a < 256) (hb : b < 256) : bits .xor .u8 (a : Int) (b : Int) = ((a ^^^ b : Nat) : Int) := by
  have hx : a ^^^ b < 256 := Nat.xor_lt_two_pow (n := 8) ha hb
  show IntKind.u8.wrap ((BitVec.ofInt 8 a ^^^ BitVec.ofInt 8 b).toNat : Int) = _
  rw [BitVec.toNat_xor, BitVec.toNat_ofInt, BitVec.toNat_ofInt, IntKind.wrap_u8, show ((a : Int) % ((2 ^ 8 : Nat) : Int)).toNat = a from by omega, show ((b : Int) % ((2 ^ 8 : Nat) : Int)).toNat = b from by omega]
  omega
theorem u32_and1 (a : Nat) (ha : a < 4294967296) : bits .and .u32 (a : Int) 1 = ((a % 2 : Nat) : Int) := by
  show IntKind.u32.wrap ((BitVec.ofInt 32 a &&& BitVec.ofInt 32 1).toNat : Int) = _
  rw [BitVec.toNat_and, BitVec.toNat_ofInt, IntKind.wrap_u32, show ((a : Int) % ((2 ^ 32 : Nat) : Int)).toNat = a from by omega, show (BitVec.ofInt 32 1).toNat = 2 ^ 1 - 1 from by decide, Nat.and_two_pow_sub_one_eq_mod]
  omega
theorem xor_ones (a : Nat) (ha : a < 4294967296) : a ^^^ 4294967295 = 4294967295 - a := by
  have h := BitVec.toNat_not (x := BitVec.ofNat 32 a)
  have e : ~~~ BitVec.ofNat 32 a = BitVec.ofNat 32 a ^^^ BitVec.allOnes 32 := by rw [BitVec.xor_allOnes]
  rw [e, BitVec.toNat_xor, BitVec.toNat_allOnes, BitVec.toNat_ofNat, Nat.mod_eq_of_lt (show a < 2 ^ 32 from ha)] at h
  omega

/-- Bit by bit, as the program tells it. -/
theorem bit_odd (r : Nat) (h : r < 4294967296) (h1 : (bits .and .u32 (r : Int) 1 == 1) = true) : bits .xor .u32 ((r : Int) / 2) 3988292384 = ((bitS r : Nat) : Int) := by
  rw [u32_and1 r h] at h1
  have h1 : r % 2 = 1 := by have h2 : ((r % 2 : Nat) : Int) = 1 := by simpa only [beq_iff_eq] using h1
                            omega
  have := u32_xor (r / 2) 3988292384 (by omega) (by omega)
  rw [bitS, if_pos h1, ← this]
  rfl
theorem bit_even (r : Nat) (h : r < 4294967296) (h1 : (bits .and .u32 (r : Int) 1 == 1) = false) : (r : Int) / 2 = ((bitS r : Nat) : Int) := by
  rw [u32_and1 r h] at h1
  have h1 : ¬ r % 2 = 1 := fun e => by rw [e] at h1; simp at h1
  rw [bitS, if_neg h1, Nat.xor_zero]
  rfl

/-- A byte's step by the table. -/
theorem step_tab (r b : Nat) (h : r < 4294967296) (hb : b < 256) : r / 256 ^^^ bitsS 8 (r % 256 ^^^ b) = stepS r b := by
  have e : r = r % 256 ^^^ (r / 256) * 2 ^ 8 := by
    have h1 : r = 2 ^ 8 * (r / 256) + r % 256 := by omega
    have h2 := Nat.two_pow_add_eq_or_of_lt (i := 8) (b := r % 256) (by omega) (r / 256)
    have h3 : (2 ^ 8 * (r / 256)) ^^^ (r % 256) = (2 ^ 8 * (r / 256)) ||| (r % 256) := by
      apply Nat.eq_of_testBit_eq
      intro i
      rw [Nat.testBit_xor, Nat.testBit_or]
      rcases Nat.lt_or_ge i 8 with hi | hi
      · rw [Nat.testBit_two_pow_mul]
        simp [show ¬ 8 ≤ i from by omega]
      · have : (r % 256).testBit i = false := Nat.testBit_lt_two_pow (Nat.lt_of_lt_of_le (show r % 256 < 2 ^ 8 by omega) (Nat.pow_le_pow_right (by omega) hi))
        simp [this]
    rw [Nat.mul_comm, Nat.xor_comm, h3, ← h2]
    omega
  unfold stepS
  conv => rhs; rw [e]
  rw [xor_right, bitsS_xor 8 (r % 256 ^^^ b), bitsS_up, Nat.xor_comm]

/-- What the table has. -/
def tabV (i : Nat) : Value := .int .u32 ((bitsS 8 i : Nat) : Int)
def tbl : Array Value := ((List.range 256).map tabV).toArray
theorem tbl_size : tbl.size = 256 := by simp [tbl]
theorem tbl_get (i : Nat) (h : i < 256) : tbl[i]? = some (tabV i) := by simp [tbl, h]
theorem tbl_one : tbl.all (·.oneCell') = true := by
  simp [tbl, tabV, Value.oneCell']
theorem tbl_of (cs : Array Value) (hs : cs.size = 256) (h : ∀ i, i < 256 → cs[i]? = some (tabV i)) : cs = tbl := by
  apply Array.ext_getElem?
  intro i
  rcases Nat.lt_or_ge i 256 with hi | hi
  · rw [h i hi, tbl_get i hi]
  · rw [Array.getElem?_eq_none (by omega), Array.getElem?_eq_none (by rw [tbl_size]; omega)]

/-- Half of the table's stride behind k rounds. -/
def wid (k : Nat) : Nat := 2 ^ (8 - k)
theorem wid_bit : ∀ k, k < 8 → bitsS 8 (2 ^ (7 - k)) = bitsS (k + 1) 1 := by decide
theorem wid_xor : ∀ k, k < 8 → ∀ j, j < 2 ^ k → j * 2 ^ (8 - k) + 2 ^ (7 - k) = (j * 2 ^ (8 - k)) ^^^ 2 ^ (7 - k) := by decide +kernel
theorem tab_half (k j : Nat) (hk : k < 8) (hj : j < 2 ^ k) : bitsS 8 (j * 2 ^ (8 - k) + 2 ^ (7 - k)) = bitsS 8 (j * 2 ^ (8 - k)) ^^^ bitsS (k + 1) 1 := by
  rw [wid_xor k hk j hj, bitsS_xor, wid_bit k hk]
end Go.Proofs.Ythmpklimccpacaa
