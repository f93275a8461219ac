/- What the sums of layer 2 come to, of the program and of the document. -/
import Derived.Test.YthmpklimccpacaaCrcFns
import Derived.Test.YthmpklimccpacaaMem
namespace Go.Proofs.Ythmpklimccpacaa
open Go.RowKit
set_option linter.unusedVariables false

abbrev octs (l : List Nat) : List Value := l.map fun b : Nat => Value.int .u8 (b : Int)
theorem u32_not (r : Nat) (h : r < 4294967296) : bits .xor .u32 IntKind.u32.max (r : Int) = ((r ^^^ 4294967295 : Nat) : Int) := by
  rw [Nat.xor_comm, ← u32_xor 4294967295 r (by omega) h]
  rfl
theorem u32_sig : IntKind.u32.signed = false := rfl
/-- The next byte of a row. -/
theorem oct_at {l : List Nat} {n j : Nat} {w : World} {B : Nat} {A : Option Addr} (hl : l.length = n) (ho : Octets l) (hr : Has w B A (octs l)) (hj : j < n) :
    ∃ x b off, A = some ⟨b, off, none⟩ ∧ b < B ∧ w.cell? ⟨b, off + j, none⟩ = some (.int .u8 ((x : Nat) : Int)) ∧ x < 256 ∧ l.take (j + 1) = l.take j ++ [x] := by
  have hi : j < l.length := by omega
  obtain ⟨b, off, hA, hb, hc⟩ := hr j (.int .u8 (l[j] : Int)) (by simp [hi])
  exact ⟨l[j], b, off, hA, hb, hc, ho _ (List.getElem_mem hi), List.take_succ_eq_append_getElem hi⟩
theorem octets_take {l : List Nat} (h : Octets l) (j : Nat) : Octets (l.take j) := fun b hb => h b (List.mem_of_mem_take hb)
set_option maxRecDepth 100000 in
set_option maxHeartbeats 400000 in
theorem crc_more (s : Nat) (hs : s < 4294967296) (A : Option Addr) (n c : Nat) (l : List Nat) (hl : l.length = n) (ho : Octets l) (hn : n ≤ 100000) (w : World) (hr : Has w w.heap.size A (octs l)) :
    Calls Try.prog 12 #[.int .u32 (s : Int), .slice A n c] w fun e w' => e = .returned (.int .u32 ((moreS s l : Nat) : Int)) ∧ Below w.heap.size w w' := by
  have hz := zero_tbl
  have hsig := u32_sig
  have hc0 := u32_not s hs
  have Hl := keep hl
  clear hl
  go_enter Try.func12, Try.ntmps12
  go_wp2_with (first
    | (go_at_call 16; refine (crc_steps _).mono ?_; rintro e w1 ⟨rfl, hb1⟩)
    | (refine wpList_store_row rfl 36 (.tmp 5) (.tmp 9) rfl w1.heap.size tbl rfl rfl 36 zeroTbl (heap_alloc_new _ _) tbl_info zeroTbl_size tbl_one ?_))
  have hb2 : Below w.heap.size w ((w1.alloc (.cells zeroTbl 36)).setRow w1.heap.size tbl) := below_setRow (hb1.alloc hb1.size _) hb1.size _
  have ha : Arr ((w1.alloc (.cells zeroTbl 36)).setRow w1.heap.size tbl) w1.heap.size 36 tbl := setRow_heap _ _ _ _ _ _ (heap_alloc_new _ _)
  obtain ⟨W, hW⟩ : ∃ W, (w1.alloc (.cells zeroTbl 36)).setRow w1.heap.size tbl = W := ⟨_, rfl⟩
  rw [hW] at hb2 ha ⊢
  clear hW hz hc0
  have hs' := xor_lt hs (show 4294967295 < 4294967296 by omega)
  go_loopg [6, 14] n (fun g v i wq => ∃ j : Nat, j + g = n ∧ i = .int .i64 j ∧ v = .int .u32 ((runS (s ^^^ 4294967295) (l.take j) : Nat) : Int) ∧ W = wq)
  case atStart => exact ⟨0, by omega, rfl, rfl, rfl⟩
  case round =>
    obtain ⟨j, hj, rfl, rfl, rfl⟩ := hrel
    have Hj := keep hj
    have hrl := runS_lt _ hs' (octets_take ho j)
    by_cases hlt : j < n
    · obtain ⟨x, b, off, rfl, hb, hc, hx, ht⟩ := oct_at Hl.out ho hr hlt
      have hc2 := (hb2.cell (p := ⟨b, off + j, none⟩) hb).trans hc
      have Ht := keep ht
      clear hj hc ht
      go_wp2_with (go_at_call 17; refine (crc_take _ _ _ hrl hx _ ha).mono ?_; rintro e w2 ⟨rfl, rfl⟩)
      go_roundg (gk - 1)
      case measure => have := Hj.out; omega
      case rel => exact ⟨j + 1, by have := Hj.out; omega, by go_num, by rw [Ht.out, runS_app]; rfl, rfl⟩
    · obtain rfl : n = j := by omega
      clear hj
      go_wp2
      go_ret
      refine ⟨ret_int ?_, hb2⟩
      rw [u32_not _ hrl, List.take_of_length_le (by have := Hl.out; omega)]
      rfl

theorem runS_zeros (k r : Nat) : runS r (List.replicate (k + 1) 0) = stepS (runS r (List.replicate k 0)) 0 := by
  rw [List.replicate_succ', runS_app]; rfl
theorem octets_drop' {l : List Nat} (h : Octets l) (j : Nat) : Octets (l.drop j) := fun b hb => h b (List.mem_of_mem_drop hb)
theorem octets_zeros (k : Nat) : Octets (List.replicate k 0) := fun b hb => by
  rw [(List.mem_replicate.1 hb).2]; omega
/-- How many bytes 0 a count comes to. -/
def cntZ (n : Int) : Nat := (min (max n 0) 65536).toNat

set_option maxRecDepth 100000 in
set_option maxHeartbeats 400000 in
theorem crc_zeros_in (s : Nat) (hs : s < 4294967296) (n : Nat) (hn : n ≤ 65536) (w : World) :
    Calls Try.prog 14 #[.int .u32 (s : Int), .int .i64 (n : Int)] w fun e w' => e = .returned (.int .u32 ((moreS s (List.replicate n 0) : Nat) : Int)) ∧ Below w.heap.size w w' := by
  have hz := zero_tbl
  have hsig := u32_sig
  have hc0 := u32_not s hs
  go_enter Try.func14, Try.ntmps14
  go_wp2_with (first
    | (go_at_call 16; refine (crc_steps _).mono ?_; rintro e w1 ⟨rfl, hb1⟩)
    | (refine wpList_store_row rfl 36 (.tmp 5) (.tmp 7) rfl w1.heap.size tbl rfl rfl 36 zeroTbl (heap_alloc_new _ _) tbl_info zeroTbl_size tbl_one ?_))
  have hb2 : Below w.heap.size w ((w1.alloc (.cells zeroTbl 36)).setRow w1.heap.size tbl) := below_setRow (hb1.alloc hb1.size _) hb1.size _
  have ha : Arr ((w1.alloc (.cells zeroTbl 36)).setRow w1.heap.size tbl) w1.heap.size 36 tbl := setRow_heap _ _ _ _ _ _ (heap_alloc_new _ _)
  obtain ⟨W, hW⟩ : ∃ W, (w1.alloc (.cells zeroTbl 36)).setRow w1.heap.size tbl = W := ⟨_, rfl⟩
  rw [hW] at hb2 ha ⊢
  clear hW hz hc0
  have hs' := xor_lt hs (show 4294967295 < 4294967296 by omega)
  go_loopg [6, 13] n (fun g v i wq => ∃ j : Nat, j + g = n ∧ i = .int .i64 j ∧ v = .int .u32 ((runS (s ^^^ 4294967295) (List.replicate j 0) : Nat) : Int) ∧ W = wq)
  case atStart => exact ⟨0, by omega, rfl, rfl, rfl⟩
  case round =>
    obtain ⟨j, hj, rfl, rfl, rfl⟩ := hrel
    have Hj := keep hj
    have hrl := runS_lt _ hs' (octets_zeros j)
    have ht := keep (runS_zeros j (s ^^^ 4294967295))
    have h0 : (0 : Nat) < 256 := by omega
    by_cases hlt : j < n
    · clear hj
      go_wp2_with (go_at_call 17; refine (crc_take _ _ 0 hrl h0 _ ha).mono ?_; rintro e w2 ⟨rfl, rfl⟩)
      go_roundg (gk - 1)
      case measure => have := Hj.out; omega
      case rel => exact ⟨j + 1, by have := Hj.out; omega, by go_num, by rw [ht.out], rfl⟩
    · obtain rfl : j = n := by omega
      clear hj
      go_wp2
      go_ret
      exact ⟨ret_int (u32_not _ hrl), hb2⟩

set_option maxRecDepth 100000 in
set_option maxHeartbeats 400000 in
theorem crc_zeros_low (s : Nat) (hs : s < 4294967296) (n : Int) (hn : n < 0) (w : World) :
    Calls Try.prog 14 #[.int .u32 (s : Int), .int .i64 n] w fun e w' => e = .returned (.int .u32 ((moreS s (List.replicate 0 0) : Nat) : Int)) ∧ Below w.heap.size w w' := by
  have hz := zero_tbl
  have hsig := u32_sig
  have hc0 := u32_not s hs
  go_enter Try.func14, Try.ntmps14
  go_wp2_with (first
    | (go_at_call 16; refine (crc_steps _).mono ?_; rintro e w1 ⟨rfl, hb1⟩)
    | (refine wpList_store_row rfl 36 (.tmp 5) (.tmp 7) rfl w1.heap.size tbl rfl rfl 36 zeroTbl (heap_alloc_new _ _) tbl_info zeroTbl_size tbl_one ?_))
  have hb2 : Below w.heap.size w ((w1.alloc (.cells zeroTbl 36)).setRow w1.heap.size tbl) := below_setRow (hb1.alloc hb1.size _) hb1.size _
  have ha : Arr ((w1.alloc (.cells zeroTbl 36)).setRow w1.heap.size tbl) w1.heap.size 36 tbl := setRow_heap _ _ _ _ _ _ (heap_alloc_new _ _)
  obtain ⟨W, hW⟩ : ∃ W, (w1.alloc (.cells zeroTbl 36)).setRow w1.heap.size tbl = W := ⟨_, rfl⟩
  rw [hW] at hb2 ha ⊢
  clear hW hz hc0
  have hs' := xor_lt hs (show 4294967295 < 4294967296 by omega)
  go_loopg [6, 13] 0 (fun g v i wq => ∃ j : Nat, j + g = 0 ∧ i = .int .i64 j ∧ v = .int .u32 ((runS (s ^^^ 4294967295) (List.replicate j 0) : Nat) : Int) ∧ W = wq)
  case atStart => exact ⟨0, by omega, rfl, rfl, rfl⟩
  case round =>
    obtain ⟨j, hj, rfl, rfl, rfl⟩ := hrel
    have Hj := keep hj
    have hrl := runS_lt _ hs' (octets_zeros j)
    have ht := keep (runS_zeros j (s ^^^ 4294967295))
    have h0 : (0 : Nat) < 256 := by omega
    by_cases hlt : j < 0
    · exact absurd hlt (by omega)
    · obtain rfl : j = 0 := by omega
      clear hj
      go_wp2
      go_ret
      exact ⟨ret_int (u32_not _ hrl), hb2⟩

set_option maxRecDepth 100000 in
set_option maxHeartbeats 400000 in
theorem crc_zeros_high (s : Nat) (hs : s < 4294967296) (n : Int) (hn : 65536 < n) (w : World) :
    Calls Try.prog 14 #[.int .u32 (s : Int), .int .i64 n] w fun e w' => e = .returned (.int .u32 ((moreS s (List.replicate 65536 0) : Nat) : Int)) ∧ Below w.heap.size w w' := by
  obtain ⟨M, hM⟩ : ∃ M : Nat, M = 65536 := ⟨_, rfl⟩
  have HM := keep hM
  rw [← hM]
  clear hM
  have hz := zero_tbl
  have hsig := u32_sig
  have hc0 := u32_not s hs
  go_enter Try.func14, Try.ntmps14
  go_wp2_with (first
    | (go_at_call 16; refine (crc_steps _).mono ?_; rintro e w1 ⟨rfl, hb1⟩)
    | (refine wpList_store_row rfl 36 (.tmp 5) (.tmp 7) rfl w1.heap.size tbl rfl rfl 36 zeroTbl (heap_alloc_new _ _) tbl_info zeroTbl_size tbl_one ?_))
  have hb2 : Below w.heap.size w ((w1.alloc (.cells zeroTbl 36)).setRow w1.heap.size tbl) := below_setRow (hb1.alloc hb1.size _) hb1.size _
  have ha : Arr ((w1.alloc (.cells zeroTbl 36)).setRow w1.heap.size tbl) w1.heap.size 36 tbl := setRow_heap _ _ _ _ _ _ (heap_alloc_new _ _)
  obtain ⟨W, hW⟩ : ∃ W, (w1.alloc (.cells zeroTbl 36)).setRow w1.heap.size tbl = W := ⟨_, rfl⟩
  rw [hW] at hb2 ha ⊢
  clear hW hz hc0
  have hs' := xor_lt hs (show 4294967295 < 4294967296 by omega)
  go_loopg [6, 13] M (fun g v i wq => ∃ j : Nat, j + g = M ∧ i = .int .i64 j ∧ v = .int .u32 ((runS (s ^^^ 4294967295) (List.replicate j 0) : Nat) : Int) ∧ W = wq)
  case atStart => exact ⟨0, by omega, rfl, rfl, rfl⟩
  case round =>
    obtain ⟨j, hj, rfl, rfl, rfl⟩ := hrel
    have Hj := keep hj
    have hrl := runS_lt _ hs' (octets_zeros j)
    have ht := keep (runS_zeros j (s ^^^ 4294967295))
    have h0 : (0 : Nat) < 256 := by omega
    by_cases hlt : j < M
    · have hlt3 : (j : Int) < 65536 := by have := HM.out; omega
      clear hj
      go_wp2_with (go_at_call 17; refine (crc_take _ _ 0 hrl h0 _ ha).mono ?_; rintro e w2 ⟨rfl, rfl⟩)
      go_roundg (gk - 1)
      case measure => have := Hj.out; omega
      case rel => exact ⟨j + 1, by have := Hj.out; omega, by go_num, by rw [ht.out], rfl⟩
    · obtain rfl : j = M := by omega
      have hge : decide ((j : Int) < 65536) = false := by have := HM.out; simp only [decide_eq_false_iff_not]; omega
      clear hj
      go_wp2
      go_ret
      exact ⟨ret_int (u32_not _ hrl), hb2⟩

set_option maxRecDepth 100000 in
set_option maxHeartbeats 400000 in
theorem ref_zeros_in (s : Nat) (hs : s < 4294967296) (n : Nat) (hn : n ≤ 65536) (w : World) :
    Calls Try.prog 15 #[.int .u32 (s : Int), .int .i64 (n : Int)] w fun e w' => e = .returned (.int .u32 ((moreS s (List.replicate n 0) : Nat) : Int)) ∧ w = w' := by
  have hsig := u32_sig
  have Hn := keep hn
  clear hn
  have hc0 := u32_not s hs
  have hs' := xor_lt hs (show 4294967295 < 4294967296 by omega)
  go_enter Try.func15, Try.ntmps15
  go_wp2_with fail
  clear hc0
  go_loopg [5, 6] n (fun g v i wq => ∃ j : Nat, j + g = n ∧ i = .int .i64 j ∧ v = .int .u32 ((runS (s ^^^ 4294967295) (List.replicate j 0) : Nat) : Int) ∧ w = wq)
  case atStart => exact ⟨0, by omega, rfl, rfl, rfl⟩
  case round =>
    obtain ⟨j, hj, rfl, rfl, rfl⟩ := hrel
    have Hj := keep hj
    have hrl := runS_lt _ hs' (octets_zeros j)
    have ht := keep (runS_zeros j (s ^^^ 4294967295))
    have h0 : (0 : Nat) < 256 := by omega
    by_cases hlt : j < n
    · have hlt3 : (j : Int) < 65536 := by have := Hn.out; omega
      clear hj
      go_wp2_with (go_at_call 18; refine (ref_step _ 0 hrl h0 _).mono ?_; rintro e w2 ⟨rfl, rfl⟩)
      go_roundg (gk - 1)
      case measure => have := Hj.out; omega
      case rel => exact ⟨j + 1, by have := Hj.out; omega, by go_num, by rw [ht.out], rfl⟩
    · obtain rfl : j = n := by omega
      clear hj
      go_wp2
      go_ret
      exact ⟨ret_int (u32_not _ hrl), rfl⟩

set_option maxRecDepth 100000 in
set_option maxHeartbeats 400000 in
theorem ref_zeros_low (s : Nat) (hs : s < 4294967296) (n : Int) (hn : n < 0) (w : World) :
    Calls Try.prog 15 #[.int .u32 (s : Int), .int .i64 n] w fun e w' => e = .returned (.int .u32 ((moreS s (List.replicate 0 0) : Nat) : Int)) ∧ w = w' := by
  have hsig := u32_sig
  have hc0 := u32_not s hs
  have hs' := xor_lt hs (show 4294967295 < 4294967296 by omega)
  go_enter Try.func15, Try.ntmps15
  go_wp2_with fail
  clear hc0
  go_loopg [5, 6] 0 (fun g v i wq => ∃ j : Nat, j + g = 0 ∧ i = .int .i64 j ∧ v = .int .u32 ((runS (s ^^^ 4294967295) (List.replicate j 0) : Nat) : Int) ∧ w = wq)
  case atStart => exact ⟨0, by omega, rfl, rfl, rfl⟩
  case round =>
    obtain ⟨j, hj, rfl, rfl, rfl⟩ := hrel
    have Hj := keep hj
    have hrl := runS_lt _ hs' (octets_zeros j)
    have ht := keep (runS_zeros j (s ^^^ 4294967295))
    have h0 : (0 : Nat) < 256 := by omega
    by_cases hlt : j < 0
    · exact absurd hlt (by omega)
    · obtain rfl : j = 0 := by omega
      clear hj
      go_wp2
      go_ret
      exact ⟨ret_int (u32_not _ hrl), rfl⟩

set_option maxRecDepth 100000 in
set_option maxHeartbeats 400000 in
theorem ref_zeros_high (s : Nat) (hs : s < 4294967296) (n : Int) (hn : 65536 < n) (w : World) :
    Calls Try.prog 15 #[.int .u32 (s : Int), .int .i64 n] w fun e w' => e = .returned (.int .u32 ((moreS s (List.replicate 65536 0) : Nat) : Int)) ∧ w = w' := by
  obtain ⟨M, hM⟩ : ∃ M : Nat, M = 65536 := ⟨_, rfl⟩
  have HM := keep hM
  rw [← hM]
  clear hM
  have hsig := u32_sig
  have Hn := keep hn
  clear hn
  have hc0 := u32_not s hs
  have hs' := xor_lt hs (show 4294967295 < 4294967296 by omega)
  go_enter Try.func15, Try.ntmps15
  go_wp2_with fail
  clear hc0
  go_loopg [5, 6] M (fun g v i wq => ∃ j : Nat, j + g = M ∧ i = .int .i64 j ∧ v = .int .u32 ((runS (s ^^^ 4294967295) (List.replicate j 0) : Nat) : Int) ∧ w = wq)
  case atStart => exact ⟨0, by omega, rfl, rfl, rfl⟩
  case round =>
    obtain ⟨j, hj, rfl, rfl, rfl⟩ := hrel
    have Hj := keep hj
    have hrl := runS_lt _ hs' (octets_zeros j)
    have ht := keep (runS_zeros j (s ^^^ 4294967295))
    have h0 : (0 : Nat) < 256 := by omega
    by_cases hlt : j < M
    · have hlt3 : (j : Int) < 65536 := by have := HM.out; omega
      clear hj
      have hlt2 : (j : Int) < n := by have := HM.out; have := Hn.out; omega
      go_wp2_with (go_at_call 18; refine (ref_step _ 0 hrl h0 _).mono ?_; rintro e w2 ⟨rfl, rfl⟩)
      go_roundg (gk - 1)
      case measure => have := Hj.out; omega
      case rel => exact ⟨j + 1, by have := Hj.out; omega, by go_num, by rw [ht.out], rfl⟩
    · obtain rfl : j = M := by omega
      have hlt2 : decide ((j : Int) < n) = true := by have := HM.out; have := Hn.out; simp only [decide_eq_true_eq]; omega
      have hge : decide ((j : Int) < 65536) = false := by have := HM.out; simp only [decide_eq_false_iff_not]; omega
      clear hj
      go_wp2
      go_ret
      exact ⟨ret_int (u32_not _ hrl), rfl⟩


theorem cntZ_in (n : Nat) (h : n ≤ 65536) : cntZ (n : Int) = n := by unfold cntZ; omega
theorem cntZ_low (n : Int) (h : n < 0) : cntZ n = 0 := by unfold cntZ; omega
theorem cntZ_high (n : Int) (h : 65536 < n) : cntZ n = 65536 := by unfold cntZ; omega
theorem crc_zeros (s : Nat) (hs : s < 4294967296) (n : Int) (w : World) :
    Calls Try.prog 14 #[.int .u32 (s : Int), .int .i64 n] w fun e w' => e = .returned (.int .u32 ((moreS s (List.replicate (cntZ n) 0) : Nat) : Int)) ∧ Below w.heap.size w w' := by
  by_cases h1 : n < 0
  · rw [cntZ_low n h1]; exact crc_zeros_low s hs n h1 w
  · obtain ⟨N, rfl⟩ := Int.eq_ofNat_of_zero_le (show 0 ≤ n by omega)
    by_cases h2 : N ≤ 65536
    · rw [cntZ_in N h2]; exact crc_zeros_in s hs N h2 w
    · rw [cntZ_high _ (by omega)]; exact crc_zeros_high s hs _ (by omega) w
theorem ref_zeros (s : Nat) (hs : s < 4294967296) (n : Int) (w : World) :
    Calls Try.prog 15 #[.int .u32 (s : Int), .int .i64 n] w fun e w' => e = .returned (.int .u32 ((moreS s (List.replicate (cntZ n) 0) : Nat) : Int)) ∧ w = w' := by
  by_cases h1 : n < 0
  · rw [cntZ_low n h1]; exact ref_zeros_low s hs n h1 w
  · obtain ⟨N, rfl⟩ := Int.eq_ofNat_of_zero_le (show 0 ≤ n by omega)
    by_cases h2 : N ≤ 65536
    · rw [cntZ_in N h2]; exact ref_zeros_in s hs N h2 w
    · rw [cntZ_high _ (by omega)]; exact ref_zeros_high s hs _ (by omega) w

set_option maxHeartbeats 400000 in
theorem ref_more (s : Nat) (hs : s < 4294967296) (A : Option Addr) (n c : Nat) (l : List Nat) (hl : l.length = n) (ho : Octets l) (hn : n ≤ 100000) (w : World) (hr : Has w w.heap.size A (octs l)) :
    Calls Try.prog 13 #[.int .u32 (s : Int), .slice A n c] w fun e w' => e = .returned (.int .u32 ((moreS s l : Nat) : Int)) ∧ w = w' := by
  have hsig := u32_sig
  have hc0 := u32_not s hs
  have Hl := keep hl
  clear hl
  have hs' := xor_lt hs (show 4294967295 < 4294967296 by omega)
  go_enter Try.func13, Try.ntmps13
  go_wp2_with fail
  clear hc0
  go_loopg [5, 6] n (fun g v i wq => ∃ j : Nat, j + g = n ∧ i = .int .i64 j ∧ v = .int .u32 ((runS (s ^^^ 4294967295) (l.take j) : Nat) : Int) ∧ w = wq)
  case atStart => exact ⟨0, by omega, rfl, rfl, rfl⟩
  case round =>
    obtain ⟨j, hj, rfl, rfl, rfl⟩ := hrel
    have Hj := keep hj
    have hrl := runS_lt _ hs' (octets_take ho j)
    by_cases hlt : j < n
    · obtain ⟨x, b, off, rfl, hb, hc, hx, ht⟩ := oct_at Hl.out ho hr hlt
      have Ht := keep ht
      clear hj ht
      go_wp2_with (go_at_call 18; refine (ref_step _ _ hrl hx _).mono ?_; rintro e w2 ⟨rfl, rfl⟩)
      go_roundg (gk - 1)
      case measure => have := Hj.out; omega
      case rel => exact ⟨j + 1, by have := Hj.out; omega, by go_num, by rw [Ht.out, runS_app]; rfl, rfl⟩
    · obtain rfl : n = j := by omega
      clear hj
      go_wp2
      go_ret
      refine ⟨ret_int ?_, rfl⟩
      rw [u32_not _ hrl, List.take_of_length_le (by have := Hl.out; omega)]
      rfl
set_option maxHeartbeats 400000 in
theorem ref_sum (A : Option Addr) (n c : Nat) (l : List Nat) (hl : l.length = n) (ho : Octets l) (hn : n ≤ 100000) (w : World) (hr : Has w w.heap.size A (octs l)) :
    Calls Try.prog 11 #[.slice A n c] w fun e w' => e = .returned (.int .u32 ((moreS 0 l : Nat) : Int)) ∧ w = w' := by
  have h0 : (0 : Nat) < 4294967296 := by omega
  have Hl := keep hl
  clear hl
  go_enter Try.func11, Try.ntmps11
  go_wp2_with (go_at_call 13; refine (ref_more 0 h0 A n c l Hl.out ho hn _ hr).mono ?_; rintro e w2 ⟨rfl, rfl⟩)
  go_ret
  exact ⟨rfl, rfl⟩
set_option maxHeartbeats 400000 in
theorem crc_sum (A : Option Addr) (n c : Nat) (l : List Nat) (hl : l.length = n) (ho : Octets l) (hn : n ≤ 100000) (w : World) (hr : Has w w.heap.size A (octs l)) :
    Calls Try.prog 10 #[.slice A n c] w fun e w' => e = .returned (.int .u32 ((moreS 0 l : Nat) : Int)) ∧ Below w.heap.size w w' := by
  have h0 : (0 : Nat) < 4294967296 := by omega
  have Hl := keep hl
  clear hl
  go_enter Try.func10, Try.ntmps10
  go_wp2_with (go_at_call 12; refine (crc_more 0 h0 A n c l Hl.out ho hn _ hr).mono ?_; rintro e w2 ⟨rfl, hb⟩)
  go_ret
  exact ⟨rfl, hb⟩
end Go.Proofs.Ythmpklimccpacaa
