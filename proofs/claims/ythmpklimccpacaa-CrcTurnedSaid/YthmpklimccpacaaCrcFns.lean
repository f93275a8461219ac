/- What the functions of layer 2 come to, of the program and of the document. -/
import Derived.Test.YthmpklimccpacaaRows
import Derived.Test.YthmpklimccpacaaCrcTab
import Derived.Deep.LoopGhost
namespace Go.Proofs.Ythmpklimccpacaa
open Go.RowKit
set_option linter.unusedVariables false

set_option maxHeartbeats 400000 in
theorem crc_shift (r : Nat) (h : r < 4294967296) (w : World) : Calls Try.prog 19 #[.int .u32 (r : Int)] w fun e w' => e = .returned (.int .u32 ((bitS r : Nat) : Int)) ∧ w = w' := by
  go_enter Try.func19, Try.ntmps19
  go_wp2
  · go_ret
    exact ⟨ret_int (bit_odd r h (by assumption)), rfl⟩
  · go_ret
    exact ⟨ret_int (bit_even r h (by assumption)), rfl⟩

theorem odd_ne (B m j : Nat) (hB : 0 < B) : m * (2 * B) ≠ j * (2 * B) + B := by
  intro e
  have e2 : B * (2 * m) = B * (2 * j + 1) := by rw [Nat.mul_add, Nat.mul_one, ← Nat.mul_assoc, ← Nat.mul_assoc, Nat.mul_comm B 2, Nat.mul_comm _ m, Nat.mul_comm _ j]; exact e
  have := Nat.eq_of_mul_eq_mul_left hB e2
  omega
def zeroTbl : Array Value := Array.replicate 256 (.int .u32 0)
theorem zero_tbl : ∀ w : World, (zeroValue 36).run Try.prog w = .ok (.agg zeroTbl) w := fun w => by kernel_rfl
theorem zeroTbl_size : zeroTbl.size = 256 := by simp [zeroTbl]

theorem tbl_info : (Try.prog.info? 36).map (·.size) = some tbl.size := by rw [tbl_size]; kernel_rfl
theorem below_setRow {B g : Nat} {a w : World} (h : Below B a w) (hg : B ≤ g) (cs : Array Value) : Below B a (w.setRow g cs) :=
  h.trans ⟨rfl, rfl, rfl, by simp [World.setRow], fun k hk => by simp only [World.setRow, Array.getElem?_modify]; rw [if_neg (by omega)]⟩
set_option maxRecDepth 100000 in
set_option maxHeartbeats 800000 in
theorem crc_steps (w : World) : Calls Try.prog 16 #[] w fun e w' => e = .returned (.agg tbl) ∧ Below w.heap.size w w' := by
  have hz := zero_tbl
  go_enter Try.func16, Try.ntmps16
  go_wp2_with fail
  clear hz
  go_loopg [2, 3] 8 (fun g r b wr => ∃ k : Nat, k + g = 8 ∧ r = .int .u32 ((bitsS k 1 : Nat) : Int) ∧ b = .int .i64 ((2 ^ (8 - k) / 2 : Nat) : Int) ∧ (∃ cs : Array Value, Arr wr (w.heap.size + 1) 36 cs ∧ cs.size = 256 ∧ ∀ j, j < 2 ^ k → cs[j * 2 ^ (8 - k)]? = some (tabV (j * 2 ^ (8 - k)))) ∧ Arr wr w.heap.size 36 zeroTbl ∧ Below w.heap.size w wr)
  case atStart =>
    refine ⟨0, rfl, rfl, rfl, ⟨zeroTbl, by simpa using Arr.new (w.alloc (.cells zeroTbl 36)) zeroTbl 36, zeroTbl_size, fun j hj => ?_⟩, (Arr.new w _ _).alloc _, ((Below.refl _ _).alloc (Nat.le_refl _) _).alloc (by simp) _⟩
    obtain rfl : j = 0 := by simp at hj; exact hj
    simp [zeroTbl, tabV, bitsS_0]
  case round =>
    obtain ⟨k, hk, rfl, rfl, ⟨cs, ha, hs, ht⟩, h0, hb⟩ := hrel
    have Hk := keep hk
    by_cases hk8 : k < 8
    · have Hh := keep (tab_half k)
      have hD : Hid (2 ^ (8 - k) = 2 * 2 ^ (7 - k)) := keep (by rw [show 8 - k = (7 - k) + 1 from by omega, Nat.pow_succ, Nat.mul_comm])
      have hN : Hid (2 ^ k * 2 ^ (8 - k) = 256) := keep (by rw [← Nat.pow_add, show k + (8 - k) = 8 from by omega])
      have hB : Hid (1 ≤ 2 ^ (7 - k)) := keep (Nat.one_le_two_pow)
      have hN1 : Hid (2 ^ (8 - k) ≤ 2 ^ k * 2 ^ (8 - k)) := keep (Nat.le_mul_of_pos_left _ (Nat.two_pow_pos k))
      have hN2 : Hid (2 ^ (k + 1) = 2 * 2 ^ k) := keep (by rw [Nat.pow_succ, Nat.mul_comm])
      have hE : Hid (2 ^ (8 - (k + 1)) = 2 ^ (7 - k)) := keep (by rw [show 8 - (k + 1) = 7 - k from by omega])
      rw [show 2 ^ (8 - k) / 2 = 2 ^ (7 - k) from by have := hD.out; omega]
      generalize 2 ^ (7 - k) = B at *
      generalize 2 ^ (8 - k) = D at *
      generalize 2 ^ k = N at *
      have hB1 : 1 ≤ B := hB.out
      have hB2 : B ≤ 128 := by have := hN.out; have := hD.out; have := hN1.out; omega
      clear hN1 hB
      have hs2 := keep hs
      have Ht := keep ht
      clear hk hs ht
      have hr1 : bitsS k 1 < 4294967296 := bitsS_lt k (by omega)
      go_wp2_with (go_at_call 19; refine (crc_shift _ hr1 _).mono ?_; rintro e w' ⟨rfl, rfl⟩)
      go_loopg [4] N (fun g i wq => ∃ j : Nat, j + g = N ∧ i = .int .i64 ((j * D : Nat) : Int) ∧ (∃ cs : Array Value, Arr wq (w.heap.size + 1) 36 cs ∧ cs.size = 256 ∧ (∀ m, m < N → cs[m * D]? = some (tabV (m * D))) ∧ ∀ m, m < j → cs[m * D + B]? = some (tabV (m * D + B))) ∧ Arr wq w.heap.size 36 zeroTbl ∧ Below w.heap.size w wq)
      case atStart => exact ⟨0, by omega, by simp, ⟨cs, ha, hs2.out, Ht.out, fun m hm => absurd hm (by omega)⟩, h0, hb⟩
      case round =>
        clear ha h0 hb hs2 Ht cs
        obtain ⟨j, hj, rfl, ⟨cs, ha, hs, ht1, ht2⟩, h0, hb⟩ := hrel
        have Hj := keep hj
        by_cases hlt : j < N
        · have hm : j * D + D ≤ 256 := by have := hN.out; rw [← Nat.succ_mul, ← this]; exact Nat.mul_le_mul_right D hlt
          have hx : j * D < 256 := by have := hD.out; omega
          have hx2 : j * D + B < 256 := by have := hD.out; omega
          have hc1 : wr.cell? ⟨w.heap.size + 1, j * D, none⟩ = some (tabV (j * D)) := by rw [ha.cell, ht1 j hlt]
          obtain ⟨v, hc2⟩ : ∃ v, wr.cell? ⟨w.heap.size + 1, j * D + B, none⟩ = some v := ⟨cs[j * D + B]'(by omega), by rw [ha.cell]; simp⟩
          have hf := ha.free (j * D + B)
          have Hs := keep hs
          have Ht1 := keep ht1
          have Ht2 := keep ht2
          clear hj hs ht1 ht2
          unfold tabV at hc1
          go_wp2_with fail
          have hxor : bits .xor .u32 ((bitsS 8 (j * D) : Nat) : Int) ((bitS (bitsS k 1) : Nat) : Int) = ((bitsS 8 (j * D + B) : Nat) : Int) := by
            rw [u32_xor _ _ (bitsS_lt 8 (by omega)) (bitS_lt hr1), Hh.out j hk8 hlt]
            rw [show bitS (bitsS k 1) = bitsS (k + 1) 1 from by rw [bitsS_add k 1]; rfl]
          rw [hxor]
          go_roundg (gk - 1)
          case measure => have := Hj.out; omega
          case rel =>
            refine ⟨j + 1, by have := Hj.out; omega, ?_, ⟨_, ha.set _ _, by have := Hs.out; simpa using this, fun m hm => ?_, fun m hm => ?_⟩, h0.other _ (by simp) _, hb.setCell (by simp) _⟩
            · rw [Nat.succ_mul, hD.out]; go_num
            · rw [Array.getElem?_setIfInBounds_ne, Ht1.out m hm]
              intro e
              have := hD.out
              subst this
              exact odd_ne B m j (by omega) (by rw [e])
            · by_cases e : m = j
              · subst e
                rw [Array.getElem?_setIfInBounds_self_of_lt (by have := Hs.out; omega)]
                rfl
              · rw [Array.getElem?_setIfInBounds_ne, Ht2.out m (by omega)]
                intro e2
                exact e (Nat.eq_of_mul_eq_mul_right (show 0 < D by have := hD.out; omega) (by omega)).symm
        · obtain rfl : j = N := by omega
          have hend : 256 ≤ j * D := by have := hN.out; omega
          have Hs := keep hs
          have Ht1 := keep ht1
          have Ht2 := keep ht2
          clear hj hs ht1 ht2
          go_wp2_with fail
          go_roundg (8 - (k + 1))
          case measure => have := Hk.out; omega
          case rel =>
            refine ⟨k + 1, by omega, ?_, ?_, ⟨cs, ha, Hs.out, fun m hm => ?_⟩, h0, hb⟩
            · rw [show bitS (bitsS k 1) = bitsS (k + 1) 1 from by rw [bitsS_add k 1]; rfl]
            · rw [hE.out]; simp
            · rw [hE.out]
              rw [hN2.out] at hm
              rcases (show m % 2 = 0 ∨ m % 2 = 1 from by omega) with h2 | h2
              · have := Ht1.out (m / 2) (by omega)
                rw [hD.out, ← Nat.mul_assoc, show m / 2 * 2 = m from by omega] at this
                exact this
              · have := Ht2.out (m / 2) (by omega)
                rw [hD.out, ← Nat.mul_assoc, show m / 2 * 2 * B + B = m * B from by rw [← Nat.succ_mul]; congr 1; omega] at this
                exact this
    · obtain rfl : k = 8 := by omega
      have hcs : cs = tbl := tbl_of cs hs fun i hi => by simpa using ht i (by simpa using hi)
      subst hcs
      clear hk hs ht
      go_wp2_with (first
        | (refine wpList_load_row rfl 36 (.tmp 1) rfl (w.heap.size + 1) rfl 36 tbl (0, 0) _ ha Try.underlying36 rfl tbl_info ?_)
        | (refine wpList_store_row rfl 36 (.tmp 0) (.tmp 26) rfl w.heap.size tbl rfl rfl 36 zeroTbl h0 tbl_info zeroTbl_size tbl_one ?_))
      exact bodyPost_ret (results_cell_row rfl _ _ w.heap.size 36 tbl (0, 0) _ rfl (setRow_heap _ _ _ _ _ _ h0) Try.underlying36 rfl tbl_info) rfl ⟨rfl, below_setRow hb (Nat.le_refl _) _⟩
set_option maxRecDepth 100000 in
set_option maxHeartbeats 400000 in
theorem crc_take (g r b : Nat) (hr : r < 4294967296) (hb : b < 256) (w : World) (ha : Arr w g 36 tbl) : Calls Try.prog 17 #[.pointer (some ⟨g, 0, none⟩), .int .u32 (r : Int), .int .u8 (b : Int)] w fun e w' => e = .returned (.int .u32 ((stepS r b : Nat) : Int)) ∧ w = w' := by
  have hi : r % 256 ^^^ b < 256 := Nat.xor_lt_two_pow (n := 8) (by omega) hb
  have hx : bits .xor .u8 ((r : Int) % 256) (b : Int) = ((r % 256 ^^^ b : Nat) : Int) := u8_xor (r % 256) b (by omega) hb
  have hc := (ha.cell (r % 256 ^^^ b)).trans (tbl_get _ hi)
  unfold tabV at hc
  go_enter Try.func17, Try.ntmps17
  go_wp2
  go_ret
  refine ⟨ret_int ?_, rfl⟩
  rw [← step_tab r b hr hb, ← u32_xor _ _ (by omega) (bitsS_lt 8 (by omega))]
  rfl
set_option maxHeartbeats 400000 in
theorem ref_step (r b : Nat) (hr : r < 4294967296) (hb : b < 256) (w : World) : Calls Try.prog 18 #[.int .u32 (r : Int), .int .u8 (b : Int)] w fun e w' => e = .returned (.int .u32 ((stepS r b : Nat) : Int)) ∧ w = w' := by
  go_enter Try.func18, Try.ntmps18
  go_wp2
  rw [u32_xor r b hr (by omega)]
  go_loop [0, 5] (fun v i => ∃ k : Nat, k ≤ 8 ∧ i = .int .i64 k ∧ v = .int .u32 ((bitsS k (r ^^^ b) : Nat) : Int)) (fun _ i => 8 - (intOf i).toNat)
  case atStart => exact ⟨0, by omega, rfl, rfl⟩
  case round =>
    obtain ⟨k, hk, rfl, rfl⟩ := hrel
    have hl := bitsS_lt k (xor_lt hr (show b < 4294967296 by omega))
    have hn := bitsS_add k 1 (r ^^^ b)
    have Hn := keep hn
    clear hn
    by_cases hlt : k < 8
    · cases h1 : (bits .and .u32 ((bitsS k (r ^^^ b) : Nat) : Int) 1 == 1)
      · have hs := keep (bit_even _ hl h1)
        go_wp2
        go_round
        case rel => exact ⟨k + 1, by omega, by go_num, by rw [hs.out, Hn.out]; rfl⟩
        case measure => simp [intOf]; omega
      · have hs := keep (bit_odd _ hl h1)
        go_wp2
        go_round
        case rel => exact ⟨k + 1, by omega, by go_num, by rw [hs.out, Hn.out]; rfl⟩
        case measure => simp [intOf]; omega
    · obtain rfl : k = 8 := by omega
      go_wp2
      go_ret
      exact ⟨rfl, rfl⟩
end Go.Proofs.Ythmpklimccpacaa
