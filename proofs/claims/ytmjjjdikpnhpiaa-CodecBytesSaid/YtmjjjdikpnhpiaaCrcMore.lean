/- Plain arithmetic of layer 2: the register of a cyclic sum, step by step, and why no burst of 32 bits is lost. No program text. -/
import Derived.WalkKit
import Derived.Test.YtmjjjdikpnhpiaaBase
import Derived.Test.YtmjjjdikpnhpiaaRows
import Derived.Deep.LoopGhost
namespace Go.Proofs.Ytmjjjdikpnhpiaa
set_option maxRecDepth 100000
open Go.RowKit
set_option linter.unusedVariables false

/-- One bit's step of the register. -/
def bitS (r : Nat) : Nat := (r / 2) ^^^ (if r % 2 = 1 then 3988292384 else 0)
/-- k bits' steps. -/
def bitsS : Nat → Nat → Nat
  | 0, r => r
  | k + 1, r => bitsS k (bitS r)
/-- One byte's step. -/
def stepS (r b : Nat) : Nat := bitsS 8 (r ^^^ b)
def runS (r : Nat) (l : List Nat) : Nat := l.foldl stepS r
/-- What comes of going on from a sum. -/
def moreS (s : Nat) (l : List Nat) : Nat := runS (s ^^^ 4294967295) l ^^^ 4294967295
def Octets (l : List Nat) : Prop := ∀ b ∈ l, b < 256

theorem xor_left (a b c : Nat) : a ^^^ (b ^^^ c) = b ^^^ (a ^^^ c) := by rw [← Nat.xor_assoc, Nat.xor_comm a b, Nat.xor_assoc]
theorem xor_right (a b c : Nat) : a ^^^ b ^^^ c = a ^^^ c ^^^ b := by rw [Nat.xor_assoc, Nat.xor_comm b c, Nat.xor_assoc]
theorem xor_eq {a b : Nat} (h : a ^^^ b = 0) : a = b := by
  have : a ^^^ b ^^^ b = 0 ^^^ b := by rw [h]
  simpa [Nat.xor_assoc] using this
theorem xor_lt {a b : Nat} (ha : a < 4294967296) (hb : b < 4294967296) : a ^^^ b < 4294967296 := Nat.xor_lt_two_pow (n := 32) ha hb
theorem bitS_lt {r : Nat} (h : r < 4294967296) : bitS r < 4294967296 := by
  unfold bitS
  apply xor_lt (by omega)
  split <;> omega
theorem bitsS_lt : ∀ (k : Nat) {r : Nat}, r < 4294967296 → bitsS k r < 4294967296
  | 0, _, h => h
  | k + 1, _, h => bitsS_lt k (bitS_lt h)
theorem stepS_lt {r b : Nat} (h : r < 4294967296) (hb : b < 256) : stepS r b < 4294967296 := bitsS_lt 8 (xor_lt h (by omega))
theorem runS_lt : ∀ (l : List Nat) {r : Nat}, r < 4294967296 → Octets l → runS r l < 4294967296
  | [], _, h, _ => h
  | b :: l, r, h, hl => by
    show runS (stepS r b) l < _
    exact runS_lt l (stepS_lt h (hl b (by simp))) (fun x hx => hl x (by simp [hx]))
theorem moreS_lt {s : Nat} {l : List Nat} (h : s < 4294967296) (hl : Octets l) : moreS s l < 4294967296 :=
  xor_lt (runS_lt l (xor_lt h (by omega)) hl) (by omega)

theorem bitS_xor (a b : Nat) : bitS (a ^^^ b) = bitS a ^^^ bitS b := by
  have hm : (a ^^^ b) % 2 = (a % 2 + b % 2) % 2 := by
    have := Nat.xor_mod_two_eq_one (a := a) (b := b)
    omega
  have hd : (a ^^^ b) / 2 = a / 2 ^^^ b / 2 := Nat.xor_div_two
  unfold bitS
  rw [hd]
  rcases (show a % 2 = 0 ∨ a % 2 = 1 from by omega) with ha | ha <;> rcases (show b % 2 = 0 ∨ b % 2 = 1 from by omega) with hb | hb <;> simp [ha, hb, hm]
  · simp only [Nat.xor_assoc]
  · rw [xor_right]
  · rw [Nat.xor_assoc, xor_left 3988292384, Nat.xor_self, Nat.xor_zero]
theorem bitsS_xor : ∀ (k a b : Nat), bitsS k (a ^^^ b) = bitsS k a ^^^ bitsS k b
  | 0, _, _ => rfl
  | k + 1, a, b => by rw [bitsS, bitS_xor, bitsS_xor k]; rfl
theorem bitS_zero {r : Nat} (h : r < 4294967296) (h0 : bitS r = 0) : r = 0 := by
  unfold bitS at h0
  split at h0
  · have e : r / 2 = 3988292384 := xor_eq h0
    omega
  · rw [Nat.xor_zero] at h0
    omega
theorem bitsS_zero : ∀ (k : Nat) {r : Nat}, r < 4294967296 → bitsS k r = 0 → r = 0
  | 0, _, _, h0 => h0
  | k + 1, _, h, h0 => bitS_zero h (bitsS_zero k (bitS_lt h) h0)
theorem bitsS_0 : ∀ k : Nat, bitsS k 0 = 0
  | 0 => rfl
  | k + 1 => by show bitsS k (bitS 0) = 0; exact bitsS_0 k
theorem bitsS_inj (k : Nat) {a b : Nat} (ha : a < 4294967296) (hb : b < 4294967296) (h : bitsS k a = bitsS k b) : a = b := by
  have h0 : bitsS k (a ^^^ b) = 0 := by rw [bitsS_xor, h, Nat.xor_self]
  exact xor_eq (bitsS_zero k (xor_lt ha hb) h0)
theorem runS_app (r : Nat) (l m : List Nat) : runS r (l ++ m) = runS (runS r l) m := List.foldl_append
theorem runS_inj : ∀ (l : List Nat) {a b : Nat}, Octets l → a < 4294967296 → b < 4294967296 → runS a l = runS b l → a = b
  | [], _, _, _, _, _, h => h
  | x :: l, a, b, hl, ha, hb, h => by
    have hx := hl x (by simp)
    have := runS_inj l (fun y hy => hl y (by simp [hy])) (stepS_lt ha hx) (stepS_lt hb hx) h
    have h1 := bitsS_inj 8 (xor_lt ha (by omega)) (xor_lt hb (by omega)) this
    have h2 : (a ^^^ x) ^^^ x = (b ^^^ x) ^^^ x := by rw [h1]
    simpa [Nat.xor_assoc] using h2
theorem stepS_inj {r b b' : Nat} (hr : r < 4294967296) (hb : b < 256) (hb' : b' < 256) (h : stepS r b = stepS r b') : b = b' := by
  have h1 := bitsS_inj 8 (xor_lt hr (by omega)) (xor_lt hr (by omega)) h
  have h2 : r ^^^ (r ^^^ b) = r ^^^ (r ^^^ b') := by rw [h1]
  simpa [← Nat.xor_assoc] using h2
theorem compl_inj {a b : Nat} (h : a ^^^ 4294967295 = b ^^^ 4294967295) : a = b := by
  have : (a ^^^ 4294967295) ^^^ 4294967295 = (b ^^^ 4294967295) ^^^ 4294967295 := by rw [h]
  simpa [Nat.xor_assoc] using this
theorem compl_compl (a : Nat) : (a ^^^ 4294967295) ^^^ 4294967295 = a := by simp [Nat.xor_assoc]
theorem moreS_app (s : Nat) (l m : List Nat) : moreS (moreS s l) m = moreS s (l ++ m) := by
  unfold moreS
  rw [compl_compl, runS_app]
/-- Shifted down as often as it was shifted up. -/
theorem bitsS_up : ∀ (k x : Nat), bitsS k (x * 2 ^ k) = x
  | 0, x => by simp [bitsS]
  | k + 1, x => by
    have e : bitS (x * 2 ^ (k + 1)) = x * 2 ^ k := by
      unfold bitS
      rw [Nat.pow_succ, ← Nat.mul_assoc]
      simp
    rw [bitsS, e, bitsS_up k]
theorem bitsS_add : ∀ (j k r : Nat), bitsS (j + k) r = bitsS k (bitsS j r)
  | 0, k, r => by rw [Nat.zero_add]; rfl
  | j + 1, k, r => by rw [Nat.succ_add]; show bitsS (j + k) (bitS r) = _; rw [bitsS_add j k]; rfl
end Go.Proofs.Ytmjjjdikpnhpiaa
/- The model's 32-bit words as plain numbers; the table of a byte's steps. No program text. -/
namespace Go.Proofs.Ytmjjjdikpnhpiaa
set_option maxRecDepth 100000
open Go.RowKit
set_option linter.unusedVariables false

theorem u32_xor (a b : Nat) (ha : a < 4294967296) (hb : b < 4294967296) : bits .xor .u32 (a : Int) (b : Int) = ((a ^^^ b : Nat) : Int) := by
  have hx := xor_lt ha hb
  show IntKind.u32.wrap ((BitVec.ofInt 32 a ^^^ BitVec.ofInt 32 b).toNat : Int) = _
  rw [BitVec.toNat_xor, BitVec.toNat_ofInt, BitVec.toNat_ofInt, IntKind.wrap_u32, show ((a : Int) % ((2 ^ 32 : Nat) : Int)).toNat = a from by omega, show ((b : Int) % ((2 ^ 32 : Nat) : Int)).toNat = b from by omega]
  omega
theorem u8_xor (a b : Nat) (ha : a < 256) (hb : b < 256) : bits .xor .u8 (a : Int) (b : Int) = ((a ^^^ b : Nat) : Int) := by
  have hx : a ^^^ b < 256 := Nat.xor_lt_two_pow (n := 8) ha hb
  show IntKind.u8.wrap ((BitVec.ofInt 8 a ^^^ BitVec.ofInt 8 b).toNat : Int) = _
  rw [BitVec.toNat_xor, BitVec.toNat_ofInt, BitVec.toNat_ofInt, IntKind.wrap_u8, show ((a : Int) % ((2 ^ 8 : Nat) : Int)).toNat = a from by omega, show ((b : Int) % ((2 ^ 8 : Nat) : Int)).toNat = b from by omega]
  omega
theorem u32_and1 (a : Nat) (ha : a < 4294967296) : bits .and .u32 (a : Int) 1 = ((a % 2 : Nat) : Int) := by
  show IntKind.u32.wrap ((BitVec.ofInt 32 a &&& BitVec.ofInt 32 1).toNat : Int) = _
  rw [BitVec.toNat_and, BitVec.toNat_ofInt, IntKind.wrap_u32, show ((a : Int) % ((2 ^ 32 : Nat) : Int)).toNat = a from by omega, show (BitVec.ofInt 32 1).toNat = 2 ^ 1 - 1 from by decide, Nat.and_two_pow_sub_one_eq_mod]
  omega
/-- Bit by bit, as the program tells it. -/
theorem bit_odd (r : Nat) (h : r < 4294967296) (h1 : (bits .and .u32 (r : Int) 1 == 1) = true) : bits .xor .u32 ((r : Int) / 2) 3988292384 = ((bitS r : Nat) : Int) := by
  rw [u32_and1 r h] at h1
  have h1 : r % 2 = 1 := by have h2 : ((r % 2 : Nat) : Int) = 1 := by simpa only [beq_iff_eq] using h1
                            omega
  have := u32_xor (r / 2) 3988292384 (by omega) (by omega)
  rw [bitS, if_pos h1, ← this]
  rfl
theorem bit_even (r : Nat) (h : r < 4294967296) (h1 : (bits .and .u32 (r : Int) 1 == 1) = false) : (r : Int) / 2 = ((bitS r : Nat) : Int) := by
  rw [u32_and1 r h] at h1
  have h1 : ¬ r % 2 = 1 := fun e => by rw [e] at h1; simp at h1
  rw [bitS, if_neg h1, Nat.xor_zero]
  rfl

/-- A byte's step by the table. -/
theorem step_tab (r b : Nat) (h : r < 4294967296) (hb : b < 256) : r / 256 ^^^ bitsS 8 (r % 256 ^^^ b) = stepS r b := by
  have e : r = r % 256 ^^^ (r / 256) * 2 ^ 8 := by
    have h1 : r = 2 ^ 8 * (r / 256) + r % 256 := by omega
    have h2 := Nat.two_pow_add_eq_or_of_lt (i := 8) (b := r % 256) (by omega) (r / 256)
    have h3 : (2 ^ 8 * (r / 256)) ^^^ (r % 256) = (2 ^ 8 * (r / 256)) ||| (r % 256) := by
      apply Nat.eq_of_testBit_eq
      intro i
      rw [Nat.testBit_xor, Nat.testBit_or]
      rcases Nat.lt_or_ge i 8 with hi | hi
      · rw [Nat.testBit_two_pow_mul]
        simp [show ¬ 8 ≤ i from by omega]
      · have : (r % 256).testBit i = false := Nat.testBit_lt_two_pow (Nat.lt_of_lt_of_le (show r % 256 < 2 ^ 8 by omega) (Nat.pow_le_pow_right (by omega) hi))
        simp [this]
    rw [Nat.mul_comm, Nat.xor_comm, h3, ← h2]
    omega
  unfold stepS
  conv => rhs; rw [e]
  rw [xor_right, bitsS_xor 8 (r % 256 ^^^ b), bitsS_up, Nat.xor_comm]

/-- What the table has. -/
def tabV (i : Nat) : Value := .int .u32 ((bitsS 8 i : Nat) : Int)
def tbl : Array Value := ((List.range 256).map tabV).toArray
theorem tbl_size : tbl.size = 256 := by simp [tbl]
theorem tbl_get (i : Nat) (h : i < 256) : tbl[i]? = some (tabV i) := by simp [tbl, h]
theorem tbl_one : tbl.all (·.oneCell') = true := by
  simp [tbl, tabV, Value.oneCell']
theorem tbl_of (cs : Array Value) (hs : cs.size = 256) (h : ∀ i, i < 256 → cs[i]? = some (tabV i)) : cs = tbl := by
  apply Array.ext_getElem?
  intro i
  rcases Nat.lt_or_ge i 256 with hi | hi
  · rw [h i hi, tbl_get i hi]
  · rw [Array.getElem?_eq_none (by omega), Array.getElem?_eq_none (by rw [tbl_size]; omega)]

/-- Half of the table's stride behind k rounds. -/
def wid (k : Nat) : Nat := 2 ^ (8 - k)
theorem wid_bit : ∀ k, k < 8 → bitsS 8 (2 ^ (7 - k)) = bitsS (k + 1) 1 := by decide
theorem wid_xor : ∀ k, k < 8 → ∀ j, j < 2 ^ k → j * 2 ^ (8 - k) + 2 ^ (7 - k) = (j * 2 ^ (8 - k)) ^^^ 2 ^ (7 - k) := by decide +kernel
theorem tab_half (k j : Nat) (hk : k < 8) (hj : j < 2 ^ k) : bitsS 8 (j * 2 ^ (8 - k) + 2 ^ (7 - k)) = bitsS 8 (j * 2 ^ (8 - k)) ^^^ bitsS (k + 1) 1 := by
  rw [wid_xor k hk j hj, bitsS_xor, wid_bit k hk]
end Go.Proofs.Ytmjjjdikpnhpiaa
/- What the functions of layer 2 come to, of the program and of the document. -/
namespace Go.Proofs.Ytmjjjdikpnhpiaa
set_option maxRecDepth 100000
open Go.RowKit
set_option linter.unusedVariables false

set_option maxHeartbeats 400000 in
theorem crc_shift (r : Nat) (h : r < 4294967296) (w : World) : Calls Try.prog 71 #[.int .u32 (r : Int)] w fun e w' => e = .returned (.int .u32 ((bitS r : Nat) : Int)) ∧ w = w' := by
  go_enter Try.func71, Try.ntmps71
  go_wp2
  · go_ret
    exact ⟨zbM (bit_odd r h (by assumption)), rfl⟩
  · go_ret
    exact ⟨zbM (bit_even r h (by assumption)), rfl⟩

theorem odd_ne (B m j : Nat) (hB : 0 < B) : m * (2 * B) ≠ j * (2 * B) + B := by
  intro e
  have e2 : B * (2 * m) = B * (2 * j + 1) := by rw [Nat.mul_add, Nat.mul_one, ← Nat.mul_assoc, ← Nat.mul_assoc, Nat.mul_comm B 2, Nat.mul_comm _ m, Nat.mul_comm _ j]; exact e
  have := Nat.eq_of_mul_eq_mul_left hB e2
  omega
def zeroTbl : Array Value := Array.replicate 256 (.int .u32 0)
theorem zero_tbl : ∀ w : World, (zeroValue 98).run Try.prog w = .ok (.agg zeroTbl) w := fun w => by kernel_rfl
theorem zeroTbl_size : zeroTbl.size = 256 := by simp [zeroTbl]

theorem tbl_info : (Try.prog.info? 98).map (·.size) = some tbl.size := by rw [tbl_size]; kernel_rfl
theorem zgx {B g : Nat} {a w : World} (h : Below B a w) (hg : B ≤ g) (cs : Array Value) : Below B a (w.setRow g cs) :=
  h.trans ⟨rfl, rfl, rfl, by simp [World.setRow], fun k hk => by simp only [World.setRow, Array.getElem?_modify]; rw [if_neg (by omega)]⟩
set_option maxRecDepth 100000 in
set_option maxHeartbeats 800000 in
theorem crc_steps (w : World) : Calls Try.prog 56 #[] w fun e w' => e = .returned (.agg tbl) ∧ Below w.heap.size w w' := by
  have hz := zero_tbl
  go_enter Try.func56, Try.ntmps56
  go_wp2_with fail
  clear hz
  go_loopg [2, 3] 8 (fun g r b wr => ∃ k : Nat, k + g = 8 ∧ r = .int .u32 ((bitsS k 1 : Nat) : Int) ∧ b = .int .i64 ((2 ^ (8 - k) / 2 : Nat) : Int) ∧ (∃ cs : Array Value, Arr wr (w.heap.size + 1) 98 cs ∧ cs.size = 256 ∧ ∀ j, j < 2 ^ k → cs[j * 2 ^ (8 - k)]? = some (tabV (j * 2 ^ (8 - k)))) ∧ Arr wr w.heap.size 98 zeroTbl ∧ Below w.heap.size w wr)
  case atStart =>
    refine ⟨0, rfl, rfl, rfl, ⟨zeroTbl, by simpa using Arr.new (w.alloc (.cells zeroTbl 98)) zeroTbl 98, zeroTbl_size, fun j hj => ?_⟩, (Arr.new w _ _).alloc _, ((Below.refl _ _).alloc (Nat.le_refl _) _).alloc (by simp) _⟩
    obtain rfl : j = 0 := by simp at hj; exact hj
    simp [zeroTbl, tabV, bitsS_0]
  case round =>
    obtain ⟨k, hk, rfl, rfl, ⟨cs, ha, hs, ht⟩, h0, hb⟩ := hrel
    have Hk := zb hk
    by_cases hk8 : k < 8
    · have Hh := zb (tab_half k)
      have hD : Hid (2 ^ (8 - k) = 2 * 2 ^ (7 - k)) := zb (by rw [show 8 - k = (7 - k) + 1 from by omega, Nat.pow_succ, Nat.mul_comm])
      have hN : Hid (2 ^ k * 2 ^ (8 - k) = 256) := zb (by rw [← Nat.pow_add, show k + (8 - k) = 8 from by omega])
      have hB : Hid (1 ≤ 2 ^ (7 - k)) := zb (Nat.one_le_two_pow)
      have hN1 : Hid (2 ^ (8 - k) ≤ 2 ^ k * 2 ^ (8 - k)) := zb (Nat.le_mul_of_pos_left _ (Nat.two_pow_pos k))
      have hN2 : Hid (2 ^ (k + 1) = 2 * 2 ^ k) := zb (by rw [Nat.pow_succ, Nat.mul_comm])
      have hE : Hid (2 ^ (8 - (k + 1)) = 2 ^ (7 - k)) := zb (by rw [show 8 - (k + 1) = 7 - k from by omega])
      rw [show 2 ^ (8 - k) / 2 = 2 ^ (7 - k) from by have := hD.out; omega]
      generalize 2 ^ (7 - k) = B at *
      generalize 2 ^ (8 - k) = D at *
      generalize 2 ^ k = N at *
      have hB1 : 1 ≤ B := hB.out
      have hB2 : B ≤ 128 := by have := hN.out; have := hD.out; have := hN1.out; omega
      clear hN1 hB
      have hs2 := zb hs
      have Ht := zb ht
      clear hk hs ht
      have hr1 : bitsS k 1 < 4294967296 := bitsS_lt k (by omega)
      go_wp2_with (go_at_call 71; refine (crc_shift _ hr1 _).mono ?_; rintro e w' ⟨rfl, rfl⟩)
      go_loopg [4] N (fun g i wq => ∃ j : Nat, j + g = N ∧ i = .int .i64 ((j * D : Nat) : Int) ∧ (∃ cs : Array Value, Arr wq (w.heap.size + 1) 98 cs ∧ cs.size = 256 ∧ (∀ m, m < N → cs[m * D]? = some (tabV (m * D))) ∧ ∀ m, m < j → cs[m * D + B]? = some (tabV (m * D + B))) ∧ Arr wq w.heap.size 98 zeroTbl ∧ Below w.heap.size w wq)
      case atStart => exact ⟨0, by omega, by simp, ⟨cs, ha, hs2.out, Ht.out, fun m hm => absurd hm (by omega)⟩, h0, hb⟩
      case round =>
        clear ha h0 hb hs2 Ht cs
        obtain ⟨j, hj, rfl, ⟨cs, ha, hs, ht1, ht2⟩, h0, hb⟩ := hrel
        have Hj := zb hj
        by_cases hlt : j < N
        · have hm : j * D + D ≤ 256 := by have := hN.out; rw [← Nat.succ_mul, ← this]; exact Nat.mul_le_mul_right D hlt
          have hx : j * D < 256 := by have := hD.out; omega
          have hx2 : j * D + B < 256 := by have := hD.out; omega
          have hc1 : wr.cell? ⟨w.heap.size + 1, j * D, none⟩ = some (tabV (j * D)) := by rw [ha.cell, ht1 j hlt]
          obtain ⟨v, hc2⟩ : ∃ v, wr.cell? ⟨w.heap.size + 1, j * D + B, none⟩ = some v := ⟨cs[j * D + B]'(by omega), by rw [ha.cell]; simp⟩
          have hf := ha.free (j * D + B)
          have Hs := zb hs
          have Ht1 := zb ht1
          have Ht2 := zb ht2
          clear hj hs ht1 ht2
          unfold tabV at hc1
          go_wp2_with fail
          have hxor : bits .xor .u32 ((bitsS 8 (j * D) : Nat) : Int) ((bitS (bitsS k 1) : Nat) : Int) = ((bitsS 8 (j * D + B) : Nat) : Int) := by
            rw [u32_xor _ _ (bitsS_lt 8 (by omega)) (bitS_lt hr1), Hh.out j hk8 hlt]
            rw [show bitS (bitsS k 1) = bitsS (k + 1) 1 from by rw [bitsS_add k 1]; rfl]
          rw [hxor]
          go_roundg (gk - 1)
          case measure => have := Hj.out; omega
          case rel =>
            refine ⟨j + 1, by have := Hj.out; omega, ?_, ⟨_, ha.set _ _, by have := Hs.out; simpa using this, fun m hm => ?_, fun m hm => ?_⟩, h0.other _ (by simp) _, hb.setCell (by simp) _⟩
            · rw [Nat.succ_mul, hD.out]; go_num
            · rw [Array.getElem?_setIfInBounds_ne, Ht1.out m hm]
              intro e
              have := hD.out
              subst this
              exact odd_ne B m j (by omega) (by rw [e])
            · by_cases e : m = j
              · subst e
                rw [Array.getElem?_setIfInBounds_self_of_lt (by have := Hs.out; omega)]
                rfl
              · rw [Array.getElem?_setIfInBounds_ne, Ht2.out m (by omega)]
                intro e2
                exact e (Nat.eq_of_mul_eq_mul_right (show 0 < D by have := hD.out; omega) (by omega)).symm
        · obtain rfl : j = N := by omega
          have hend : 256 ≤ j * D := by have := hN.out; omega
          have Hs := zb hs
          have Ht1 := zb ht1
          have Ht2 := zb ht2
          clear hj hs ht1 ht2
          go_wp2_with fail
          go_roundg (8 - (k + 1))
          case measure => have := Hk.out; omega
          case rel =>
            refine ⟨k + 1, by omega, ?_, ?_, ⟨cs, ha, Hs.out, fun m hm => ?_⟩, h0, hb⟩
            · rw [show bitS (bitsS k 1) = bitsS (k + 1) 1 from by rw [bitsS_add k 1]; rfl]
            · rw [hE.out]; simp
            · rw [hE.out]
              rw [hN2.out] at hm
              rcases (show m % 2 = 0 ∨ m % 2 = 1 from by omega) with h2 | h2
              · have := Ht1.out (m / 2) (by omega)
                rw [hD.out, ← Nat.mul_assoc, show m / 2 * 2 = m from by omega] at this
                exact this
              · have := Ht2.out (m / 2) (by omega)
                rw [hD.out, ← Nat.mul_assoc, show m / 2 * 2 * B + B = m * B from by rw [← Nat.succ_mul]; congr 1; omega] at this
                exact this
    · obtain rfl : k = 8 := by omega
      have hcs : cs = tbl := tbl_of cs hs fun i hi => by simpa using ht i (by simpa using hi)
      subst hcs
      clear hk hs ht
      go_wp2_with (first
        | (refine wpList_load_row rfl 98 (.tmp 1) rfl (w.heap.size + 1) rfl 98 tbl (0, 0) _ ha Try.underlying98 rfl tbl_info ?_)
        | (refine wpList_store_row rfl 98 (.tmp 0) (.tmp 26) rfl w.heap.size tbl rfl rfl 98 zeroTbl h0 tbl_info zeroTbl_size tbl_one ?_))
      exact bodyPost_ret (results_cell_row rfl _ _ w.heap.size 98 tbl (0, 0) _ rfl (setRow_heap _ _ _ _ _ _ h0) Try.underlying98 rfl tbl_info) rfl ⟨rfl, zgx hb (Nat.le_refl _) _⟩
set_option maxRecDepth 100000 in
set_option maxHeartbeats 400000 in
theorem crc_take (g r b : Nat) (hr : r < 4294967296) (hb : b < 256) (w : World) (ha : Arr w g 98 tbl) : Calls Try.prog 57 #[.pointer (some ⟨g, 0, none⟩), .int .u32 (r : Int), .int .u8 (b : Int)] w fun e w' => e = .returned (.int .u32 ((stepS r b : Nat) : Int)) ∧ w = w' := by
  have hi : r % 256 ^^^ b < 256 := Nat.xor_lt_two_pow (n := 8) (by omega) hb
  have hx : bits .xor .u8 ((r : Int) % 256) (b : Int) = ((r % 256 ^^^ b : Nat) : Int) := u8_xor (r % 256) b (by omega) hb
  have hc := (ha.cell (r % 256 ^^^ b)).trans (tbl_get _ hi)
  unfold tabV at hc
  go_enter Try.func57, Try.ntmps57
  go_wp2
  go_ret
  refine ⟨zbM ?_, rfl⟩
  rw [← step_tab r b hr hb, ← u32_xor _ _ (by omega) (bitsS_lt 8 (by omega))]
  rfl
set_option maxHeartbeats 400000 in
theorem ref_step (r b : Nat) (hr : r < 4294967296) (hb : b < 256) (w : World) : Calls Try.prog 61 #[.int .u32 (r : Int), .int .u8 (b : Int)] w fun e w' => e = .returned (.int .u32 ((stepS r b : Nat) : Int)) ∧ w = w' := by
  go_enter Try.func61, Try.ntmps61
  go_wp2
  rw [u32_xor r b hr (by omega)]
  go_loop [0, 5] (fun v i => ∃ k : Nat, k ≤ 8 ∧ i = .int .i64 k ∧ v = .int .u32 ((bitsS k (r ^^^ b) : Nat) : Int)) (fun _ i => 8 - (intOf i).toNat)
  case atStart => exact ⟨0, by omega, rfl, rfl⟩
  case round =>
    obtain ⟨k, hk, rfl, rfl⟩ := hrel
    have hl := bitsS_lt k (xor_lt hr (show b < 4294967296 by omega))
    have hn := bitsS_add k 1 (r ^^^ b)
    have Hn := zb hn
    clear hn
    by_cases hlt : k < 8
    · cases h1 : (bits .and .u32 ((bitsS k (r ^^^ b) : Nat) : Int) 1 == 1)
      · have hs := zb (bit_even _ hl h1)
        go_wp2
        go_round
        case rel => exact ⟨k + 1, by omega, by go_num, by rw [hs.out, Hn.out]; rfl⟩
        case measure => simp [intOf]; omega
      · have hs := zb (bit_odd _ hl h1)
        go_wp2
        go_round
        case rel => exact ⟨k + 1, by omega, by go_num, by rw [hs.out, Hn.out]; rfl⟩
        case measure => simp [intOf]; omega
    · obtain rfl : k = 8 := by omega
      go_wp2
      go_ret
      exact ⟨rfl, rfl⟩
end Go.Proofs.Ytmjjjdikpnhpiaa
/- What the sums of layer 2 come to, of the program and of the document. -/
namespace Go.Proofs.Ytmjjjdikpnhpiaa
set_option maxRecDepth 100000
open Go.RowKit
set_option linter.unusedVariables false

abbrev octs (l : List Nat) : List Value := l.map fun b : Nat => Value.int .u8 (b : Int)
theorem u32_not (r : Nat) (h : r < 4294967296) : bits .xor .u32 IntKind.u32.max (r : Int) = ((r ^^^ 4294967295 : Nat) : Int) := by
  rw [Nat.xor_comm, ← u32_xor 4294967295 r (by omega) h]
  rfl
theorem u32_sig : IntKind.u32.signed = false := rfl
/-- The next byte of a row. -/
theorem oct_at {l : List Nat} {n j : Nat} {w : World} {B : Nat} {A : Option Addr} (hl : l.length = n) (ho : Octets l) (hr : Has w B A (octs l)) (hj : j < n) :
    ∃ x b off, A = some ⟨b, off, none⟩ ∧ b < B ∧ w.cell? ⟨b, off + j, none⟩ = some (.int .u8 ((x : Nat) : Int)) ∧ x < 256 ∧ l.take (j + 1) = l.take j ++ [x] := by
  have hi : j < l.length := by omega
  obtain ⟨b, off, hA, hb, hc⟩ := hr j (.int .u8 (l[j] : Int)) (by simp [hi])
  exact ⟨l[j], b, off, hA, hb, hc, ho _ (List.getElem_mem hi), List.take_succ_eq_append_getElem hi⟩
theorem octets_take {l : List Nat} (h : Octets l) (j : Nat) : Octets (l.take j) := fun b hb => h b (List.mem_of_mem_take hb)
set_option maxRecDepth 100000 in
set_option maxHeartbeats 400000 in
theorem crc_more (s : Nat) (hs : s < 4294967296) (A : Option Addr) (n c : Nat) (l : List Nat) (hl : l.length = n) (ho : Octets l) (hn : n ≤ 100000) (w : World) (hr : Has w w.heap.size A (octs l)) :
    Calls Try.prog 29 #[.int .u32 (s : Int), .slice A n c] w fun e w' => e = .returned (.int .u32 ((moreS s l : Nat) : Int)) ∧ Below w.heap.size w w' := by
  have hz := zero_tbl
  have hsig := u32_sig
  have hc0 := u32_not s hs
  have Hl := zb hl
  clear hl
  go_enter Try.func29, Try.ntmps29
  go_wp2_with (first
    | (go_at_call 56; refine (crc_steps _).mono ?_; rintro e w1 ⟨rfl, hb1⟩)
    | (refine wpList_store_row rfl 98 (.tmp 5) (.tmp 9) rfl w1.heap.size tbl rfl rfl 98 zeroTbl (heap_alloc_new _ _) tbl_info zeroTbl_size tbl_one ?_))
  have hb2 : Below w.heap.size w ((w1.alloc (.cells zeroTbl 98)).setRow w1.heap.size tbl) := zgx (hb1.alloc hb1.size _) hb1.size _
  have ha : Arr ((w1.alloc (.cells zeroTbl 98)).setRow w1.heap.size tbl) w1.heap.size 98 tbl := setRow_heap _ _ _ _ _ _ (heap_alloc_new _ _)
  obtain ⟨W, hW⟩ : ∃ W, (w1.alloc (.cells zeroTbl 98)).setRow w1.heap.size tbl = W := ⟨_, rfl⟩
  rw [hW] at hb2 ha ⊢
  clear hW hz hc0
  have hs' := xor_lt hs (show 4294967295 < 4294967296 by omega)
  go_loopg [6, 14] n (fun g v i wq => ∃ j : Nat, j + g = n ∧ i = .int .i64 j ∧ v = .int .u32 ((runS (s ^^^ 4294967295) (l.take j) : Nat) : Int) ∧ W = wq)
  case atStart => exact ⟨0, by omega, rfl, rfl, rfl⟩
  case round =>
    obtain ⟨j, hj, rfl, rfl, rfl⟩ := hrel
    have Hj := zb hj
    have hrl := runS_lt _ hs' (octets_take ho j)
    by_cases hlt : j < n
    · obtain ⟨x, b, off, rfl, hb, hc, hx, ht⟩ := oct_at Hl.out ho hr hlt
      have hc2 := (hb2.cell (p := ⟨b, off + j, none⟩) hb).trans hc
      have Ht := zb ht
      clear hj hc ht
      go_wp2_with (go_at_call 57; refine (crc_take _ _ _ hrl hx _ ha).mono ?_; rintro e w2 ⟨rfl, rfl⟩)
      go_roundg (gk - 1)
      case measure => have := Hj.out; omega
      case rel => exact ⟨j + 1, by have := Hj.out; omega, by go_num, by rw [Ht.out, runS_app]; rfl, rfl⟩
    · obtain rfl : n = j := by omega
      clear hj
      go_wp2
      go_ret
      refine ⟨zbM ?_, hb2⟩
      rw [u32_not _ hrl, List.take_of_length_le (by have := Hl.out; omega)]
      rfl

theorem runS_zeros (k r : Nat) : runS r (List.replicate (k + 1) 0) = stepS (runS r (List.replicate k 0)) 0 := by
  rw [List.replicate_succ', runS_app]; rfl
theorem octets_zeros (k : Nat) : Octets (List.replicate k 0) := fun b hb => by
  rw [(List.mem_replicate.1 hb).2]; omega
/-- How many bytes 0 a count comes to. -/
def cntZ (n : Int) : Nat := (min (max n 0) 65536).toNat

set_option maxRecDepth 100000 in
set_option maxHeartbeats 400000 in
theorem crc_zeros_in (s : Nat) (hs : s < 4294967296) (n : Nat) (hn : n ≤ 65536) (w : World) :
    Calls Try.prog 30 #[.int .u32 (s : Int), .int .i64 (n : Int)] w fun e w' => e = .returned (.int .u32 ((moreS s (List.replicate n 0) : Nat) : Int)) ∧ Below w.heap.size w w' := by
  have hz := zero_tbl
  have hsig := u32_sig
  have hc0 := u32_not s hs
  go_enter Try.func30, Try.ntmps30
  go_wp2_with (first
    | (go_at_call 56; refine (crc_steps _).mono ?_; rintro e w1 ⟨rfl, hb1⟩)
    | (refine wpList_store_row rfl 98 (.tmp 5) (.tmp 7) rfl w1.heap.size tbl rfl rfl 98 zeroTbl (heap_alloc_new _ _) tbl_info zeroTbl_size tbl_one ?_))
  have hb2 : Below w.heap.size w ((w1.alloc (.cells zeroTbl 98)).setRow w1.heap.size tbl) := zgx (hb1.alloc hb1.size _) hb1.size _
  have ha : Arr ((w1.alloc (.cells zeroTbl 98)).setRow w1.heap.size tbl) w1.heap.size 98 tbl := setRow_heap _ _ _ _ _ _ (heap_alloc_new _ _)
  obtain ⟨W, hW⟩ : ∃ W, (w1.alloc (.cells zeroTbl 98)).setRow w1.heap.size tbl = W := ⟨_, rfl⟩
  rw [hW] at hb2 ha ⊢
  clear hW hz hc0
  have hs' := xor_lt hs (show 4294967295 < 4294967296 by omega)
  go_loopg [6, 13] n (fun g v i wq => ∃ j : Nat, j + g = n ∧ i = .int .i64 j ∧ v = .int .u32 ((runS (s ^^^ 4294967295) (List.replicate j 0) : Nat) : Int) ∧ W = wq)
  case atStart => exact ⟨0, by omega, rfl, rfl, rfl⟩
  case round =>
    obtain ⟨j, hj, rfl, rfl, rfl⟩ := hrel
    have Hj := zb hj
    have hrl := runS_lt _ hs' (octets_zeros j)
    have ht := zb (runS_zeros j (s ^^^ 4294967295))
    have h0 : (0 : Nat) < 256 := by omega
    by_cases hlt : j < n
    · clear hj
      go_wp2_with (go_at_call 57; refine (crc_take _ _ 0 hrl h0 _ ha).mono ?_; rintro e w2 ⟨rfl, rfl⟩)
      go_roundg (gk - 1)
      case measure => have := Hj.out; omega
      case rel => exact ⟨j + 1, by have := Hj.out; omega, by go_num, by rw [ht.out], rfl⟩
    · obtain rfl : j = n := by omega
      clear hj
      go_wp2
      go_ret
      exact ⟨zbM (u32_not _ hrl), hb2⟩

set_option maxRecDepth 100000 in
set_option maxHeartbeats 400000 in
theorem crc_zeros_low (s : Nat) (hs : s < 4294967296) (n : Int) (hn : n < 0) (w : World) :
    Calls Try.prog 30 #[.int .u32 (s : Int), .int .i64 n] w fun e w' => e = .returned (.int .u32 ((moreS s (List.replicate 0 0) : Nat) : Int)) ∧ Below w.heap.size w w' := by
  have hz := zero_tbl
  have hsig := u32_sig
  have hc0 := u32_not s hs
  go_enter Try.func30, Try.ntmps30
  go_wp2_with (first
    | (go_at_call 56; refine (crc_steps _).mono ?_; rintro e w1 ⟨rfl, hb1⟩)
    | (refine wpList_store_row rfl 98 (.tmp 5) (.tmp 7) rfl w1.heap.size tbl rfl rfl 98 zeroTbl (heap_alloc_new _ _) tbl_info zeroTbl_size tbl_one ?_))
  have hb2 : Below w.heap.size w ((w1.alloc (.cells zeroTbl 98)).setRow w1.heap.size tbl) := zgx (hb1.alloc hb1.size _) hb1.size _
  have ha : Arr ((w1.alloc (.cells zeroTbl 98)).setRow w1.heap.size tbl) w1.heap.size 98 tbl := setRow_heap _ _ _ _ _ _ (heap_alloc_new _ _)
  obtain ⟨W, hW⟩ : ∃ W, (w1.alloc (.cells zeroTbl 98)).setRow w1.heap.size tbl = W := ⟨_, rfl⟩
  rw [hW] at hb2 ha ⊢
  clear hW hz hc0
  have hs' := xor_lt hs (show 4294967295 < 4294967296 by omega)
  go_loopg [6, 13] 0 (fun g v i wq => ∃ j : Nat, j + g = 0 ∧ i = .int .i64 j ∧ v = .int .u32 ((runS (s ^^^ 4294967295) (List.replicate j 0) : Nat) : Int) ∧ W = wq)
  case atStart => exact ⟨0, by omega, rfl, rfl, rfl⟩
  case round =>
    obtain ⟨j, hj, rfl, rfl, rfl⟩ := hrel
    have Hj := zb hj
    have hrl := runS_lt _ hs' (octets_zeros j)
    have ht := zb (runS_zeros j (s ^^^ 4294967295))
    have h0 : (0 : Nat) < 256 := by omega
    by_cases hlt : j < 0
    · exact absurd hlt (by omega)
    · obtain rfl : j = 0 := by omega
      clear hj
      go_wp2
      go_ret
      exact ⟨zbM (u32_not _ hrl), hb2⟩

set_option maxRecDepth 100000 in
set_option maxHeartbeats 400000 in
theorem crc_zeros_high (s : Nat) (hs : s < 4294967296) (n : Int) (hn : 65536 < n) (w : World) :
    Calls Try.prog 30 #[.int .u32 (s : Int), .int .i64 n] w fun e w' => e = .returned (.int .u32 ((moreS s (List.replicate 65536 0) : Nat) : Int)) ∧ Below w.heap.size w w' := by
  obtain ⟨M, hM⟩ : ∃ M : Nat, M = 65536 := ⟨_, rfl⟩
  have HM := zb hM
  rw [← hM]
  clear hM
  have hz := zero_tbl
  have hsig := u32_sig
  have hc0 := u32_not s hs
  go_enter Try.func30, Try.ntmps30
  go_wp2_with (first
    | (go_at_call 56; refine (crc_steps _).mono ?_; rintro e w1 ⟨rfl, hb1⟩)
    | (refine wpList_store_row rfl 98 (.tmp 5) (.tmp 7) rfl w1.heap.size tbl rfl rfl 98 zeroTbl (heap_alloc_new _ _) tbl_info zeroTbl_size tbl_one ?_))
  have hb2 : Below w.heap.size w ((w1.alloc (.cells zeroTbl 98)).setRow w1.heap.size tbl) := zgx (hb1.alloc hb1.size _) hb1.size _
  have ha : Arr ((w1.alloc (.cells zeroTbl 98)).setRow w1.heap.size tbl) w1.heap.size 98 tbl := setRow_heap _ _ _ _ _ _ (heap_alloc_new _ _)
  obtain ⟨W, hW⟩ : ∃ W, (w1.alloc (.cells zeroTbl 98)).setRow w1.heap.size tbl = W := ⟨_, rfl⟩
  rw [hW] at hb2 ha ⊢
  clear hW hz hc0
  have hs' := xor_lt hs (show 4294967295 < 4294967296 by omega)
  go_loopg [6, 13] M (fun g v i wq => ∃ j : Nat, j + g = M ∧ i = .int .i64 j ∧ v = .int .u32 ((runS (s ^^^ 4294967295) (List.replicate j 0) : Nat) : Int) ∧ W = wq)
  case atStart => exact ⟨0, by omega, rfl, rfl, rfl⟩
  case round =>
    obtain ⟨j, hj, rfl, rfl, rfl⟩ := hrel
    have Hj := zb hj
    have hrl := runS_lt _ hs' (octets_zeros j)
    have ht := zb (runS_zeros j (s ^^^ 4294967295))
    have h0 : (0 : Nat) < 256 := by omega
    by_cases hlt : j < M
    · have hlt3 : (j : Int) < 65536 := by have := HM.out; omega
      clear hj
      go_wp2_with (go_at_call 57; refine (crc_take _ _ 0 hrl h0 _ ha).mono ?_; rintro e w2 ⟨rfl, rfl⟩)
      go_roundg (gk - 1)
      case measure => have := Hj.out; omega
      case rel => exact ⟨j + 1, by have := Hj.out; omega, by go_num, by rw [ht.out], rfl⟩
    · obtain rfl : j = M := by omega
      have hge : decide ((j : Int) < 65536) = false := by have := HM.out; simp only [decide_eq_false_iff_not]; omega
      clear hj
      go_wp2
      go_ret
      exact ⟨zbM (u32_not _ hrl), hb2⟩

theorem cntZ_in (n : Nat) (h : n ≤ 65536) : cntZ (n : Int) = n := by unfold cntZ; omega
theorem cntZ_low (n : Int) (h : n < 0) : cntZ n = 0 := by unfold cntZ; omega
theorem cntZ_high (n : Int) (h : 65536 < n) : cntZ n = 65536 := by unfold cntZ; omega
theorem crc_zeros (s : Nat) (hs : s < 4294967296) (n : Int) (w : World) :
    Calls Try.prog 30 #[.int .u32 (s : Int), .int .i64 n] w fun e w' => e = .returned (.int .u32 ((moreS s (List.replicate (cntZ n) 0) : Nat) : Int)) ∧ Below w.heap.size w w' := by
  by_cases h1 : n < 0
  · rw [cntZ_low n h1]; exact crc_zeros_low s hs n h1 w
  · obtain ⟨N, rfl⟩ := Int.eq_ofNat_of_zero_le (show 0 ≤ n by omega)
    by_cases h2 : N ≤ 65536
    · rw [cntZ_in N h2]; exact crc_zeros_in s hs N h2 w
    · rw [cntZ_high _ (by omega)]; exact crc_zeros_high s hs _ (by omega) w
set_option maxHeartbeats 400000 in
theorem ref_more (s : Nat) (hs : s < 4294967296) (A : Option Addr) (n c : Nat) (l : List Nat) (hl : l.length = n) (ho : Octets l) (hn : n ≤ 100000) (w : World) (hr : Has w w.heap.size A (octs l)) :
    Calls Try.prog 42 #[.int .u32 (s : Int), .slice A n c] w fun e w' => e = .returned (.int .u32 ((moreS s l : Nat) : Int)) ∧ w = w' := by
  have hsig := u32_sig
  have hc0 := u32_not s hs
  have Hl := zb hl
  clear hl
  have hs' := xor_lt hs (show 4294967295 < 4294967296 by omega)
  go_enter Try.func42, Try.ntmps42
  go_wp2_with fail
  clear hc0
  go_loopg [5, 6] n (fun g v i wq => ∃ j : Nat, j + g = n ∧ i = .int .i64 j ∧ v = .int .u32 ((runS (s ^^^ 4294967295) (l.take j) : Nat) : Int) ∧ w = wq)
  case atStart => exact ⟨0, by omega, rfl, rfl, rfl⟩
  case round =>
    obtain ⟨j, hj, rfl, rfl, rfl⟩ := hrel
    have Hj := zb hj
    have hrl := runS_lt _ hs' (octets_take ho j)
    by_cases hlt : j < n
    · obtain ⟨x, b, off, rfl, hb, hc, hx, ht⟩ := oct_at Hl.out ho hr hlt
      have Ht := zb ht
      clear hj ht
      go_wp2_with (go_at_call 61; refine (ref_step _ _ hrl hx _).mono ?_; rintro e w2 ⟨rfl, rfl⟩)
      go_roundg (gk - 1)
      case measure => have := Hj.out; omega
      case rel => exact ⟨j + 1, by have := Hj.out; omega, by go_num, by rw [Ht.out, runS_app]; rfl, rfl⟩
    · obtain rfl : n = j := by omega
      clear hj
      go_wp2
      go_ret
      refine ⟨zbM ?_, rfl⟩
      rw [u32_not _ hrl, List.take_of_length_le (by have := Hl.out; omega)]
      rfl
set_option maxHeartbeats 400000 in
theorem ref_sum (A : Option Addr) (n c : Nat) (l : List Nat) (hl : l.length = n) (ho : Octets l) (hn : n ≤ 100000) (w : World) (hr : Has w w.heap.size A (octs l)) :
    Calls Try.prog 15 #[.slice A n c] w fun e w' => e = .returned (.int .u32 ((moreS 0 l : Nat) : Int)) ∧ w = w' := by
  have h0 : (0 : Nat) < 4294967296 := by omega
  have Hl := zb hl
  clear hl
  go_enter Try.func15, Try.ntmps15
  go_wp2_with (go_at_call 42; refine (ref_more 0 h0 A n c l Hl.out ho hn _ hr).mono ?_; rintro e w2 ⟨rfl, rfl⟩)
  go_ret
  exact ⟨rfl, rfl⟩
set_option maxHeartbeats 400000 in
theorem crc_sum (A : Option Addr) (n c : Nat) (l : List Nat) (hl : l.length = n) (ho : Octets l) (hn : n ≤ 100000) (w : World) (hr : Has w w.heap.size A (octs l)) :
    Calls Try.prog 31 #[.slice A n c] w fun e w' => e = .returned (.int .u32 ((moreS 0 l : Nat) : Int)) ∧ Below w.heap.size w w' := by
  have h0 : (0 : Nat) < 4294967296 := by omega
  have Hl := zb hl
  clear hl
  go_enter Try.func31, Try.ntmps31
  go_wp2_with (go_at_call 29; refine (crc_more 0 h0 A n c l Hl.out ho hn _ hr).mono ?_; rintro e w2 ⟨rfl, hb⟩)
  go_ret
  exact ⟨rfl, hb⟩
end Go.Proofs.Ytmjjjdikpnhpiaa
