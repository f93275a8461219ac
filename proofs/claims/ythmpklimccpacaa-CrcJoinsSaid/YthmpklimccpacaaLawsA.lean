/- The laws of layer 2, walked: the chapter's examples; CrcAll; CrcJoins; CrcZeros. -/
import Derived.Test.YthmpklimccpacaaCrcMore
import Derived.Deep.RegionWith
import Derived.Lib.SlBytesConst
namespace Go.Proofs.Ythmpklimccpacaa
open Go.RowKit
set_option linter.unusedVariables false

section
variable {w0 W : World} {A : Option Addr} {n c : Nat} {l : List Nat}
theorem crc_sum_at (hr : Has w0 w0.heap.size A (octs l)) (hl : l.length = n) (ho : Octets l) (hn : n ≤ 100000) (hb : Below w0.heap.size w0 W) :
    Calls Try.prog 10 #[.slice A n c] W fun e w' => e = .returned (.int .u32 ((moreS 0 l : Nat) : Int)) ∧ Below w0.heap.size w0 w' :=
  (crc_sum A n c l hl ho hn W ((hr.below hb).mono hb.size)).mono fun _ _ ⟨he, hw⟩ => ⟨he, hb.trans (hw.mono hb.size)⟩
theorem crc_more_at (s : Nat) (hs : s < 4294967296) (hr : Has w0 w0.heap.size A (octs l)) (hl : l.length = n) (ho : Octets l) (hn : n ≤ 100000) (hb : Below w0.heap.size w0 W) :
    Calls Try.prog 12 #[.int .u32 (s : Int), .slice A n c] W fun e w' => e = .returned (.int .u32 ((moreS s l : Nat) : Int)) ∧ Below w0.heap.size w0 w' :=
  (crc_more s hs A n c l hl ho hn W ((hr.below hb).mono hb.size)).mono fun _ _ ⟨he, hw⟩ => ⟨he, hb.trans (hw.mono hb.size)⟩
theorem ref_sum_at (hr : Has w0 w0.heap.size A (octs l)) (hl : l.length = n) (ho : Octets l) (hn : n ≤ 100000) (hb : Below w0.heap.size w0 W) :
    Calls Try.prog 11 #[.slice A n c] W fun e w' => e = .returned (.int .u32 ((moreS 0 l : Nat) : Int)) ∧ W = w' := ref_sum A n c l hl ho hn W ((hr.below hb).mono hb.size)
theorem ref_more_at (s : Nat) (hs : s < 4294967296) (hr : Has w0 w0.heap.size A (octs l)) (hl : l.length = n) (ho : Octets l) (hn : n ≤ 100000) (hb : Below w0.heap.size w0 W) :
    Calls Try.prog 13 #[.int .u32 (s : Int), .slice A n c] W fun e w' => e = .returned (.int .u32 ((moreS s l : Nat) : Int)) ∧ W = w' := ref_more s hs A n c l hl ho hn W ((hr.below hb).mono hb.size)
theorem crc_zeros_at (s : Nat) (hs : s < 4294967296) (z : Int) (hb : Below w0.heap.size w0 W) :
    Calls Try.prog 14 #[.int .u32 (s : Int), .int .i64 z] W fun e w' => e = .returned (.int .u32 ((moreS s (List.replicate (cntZ z) 0) : Nat) : Int)) ∧ Below w0.heap.size w0 w' :=
  (crc_zeros s hs z W).mono fun _ _ ⟨he, hw⟩ => ⟨he, hb.trans (hw.mono hb.size)⟩
end

def nine : List Nat := [49, 50, 51, 52, 53, 54, 55, 56, 57]
theorem nine_sum : moreS 0 nine = 3421780262 := by decide +kernel
theorem nine_one : (moreS 3421780262 (List.replicate (cntZ 1) 0) == 3421780262) = false := by decide +kernel
theorem nine_oct : Octets nine := by intro b hb; simp [nine] at hb; omega
theorem has_lit (w : World) (cs : Array Value) (e : TypeId) (fr : Nat × Nat) : Has (w.alloc (.cells cs e fr)) (w.alloc (.cells cs e fr)).heap.size (some ⟨w.heap.size, 0, none⟩) cs.toList := by
  intro j u hu
  refine ⟨_, _, rfl, by simp, ?_⟩
  rw [Nat.zero_add, cell_of_row _ _ j cs e fr (heap_alloc_new w _)]
  simpa using hu
theorem nine_has (w : World) (fr : Nat × Nat) : Has (w.alloc (.cells (octs nine).toArray 5 fr)) (w.alloc (.cells (octs nine).toArray 5 fr)).heap.size (some ⟨w.heap.size, 0, none⟩) (octs nine) := has_lit w _ _ _
set_option maxHeartbeats 1000000 in
theorem awake (w : World) : Calls Try.prog 9 #[] w fun e w' => e = .returned (.bool true) ∧ Below w.heap.size w w' := by
  have n1 := keep nine_sum
  have n2 := nine_one
  have n3 : ((3421780262 : Nat) : Int) = 3421780262 := rfl
  have kc := fun (w : World) (C : Array Value) (n c : Nat) => Lib.run_convert_bytes_const (P := Try.prog) w 22 5 C n c Try.underlying22 Try.underlying5
  go_enter Try.func9, Try.ntmps9
  go_wp2_with fail
  refine (crc_sum _ 9 _ nine rfl nine_oct (by omega) _ (nine_has _ _)).mono ?_
  rintro e w1 ⟨rfl, hb1⟩
  rw [n1.out]
  go_wp2_with fail
  refine (crc_sum _ 0 _ [] rfl (fun _ h => by cases h) (by omega) _ Has.nil).mono ?_
  rintro e w2 ⟨rfl, hb2⟩
  rw [moreS_nil]
  go_wp2_with fail
  refine (crc_more 0 (by omega) _ 9 _ nine rfl nine_oct (by omega) _ (nine_has _ _)).mono ?_
  rintro e w3 ⟨rfl, hb3⟩
  rw [n1.out]
  go_wp2_with fail
  refine (crc_zeros 3421780262 (by omega) 1 _).mono ?_
  rintro e w4 ⟨rfl, hb4⟩
  go_wp2_with fail
  go_ret
  exact ⟨ret_bool (by have h := n2; simp at h ⊢; omega), fr_step (fr_step (fr_new (fr_step (fr_step (fr_new (fr_refl w) _) hb1) hb2) _) hb3) hb4⟩

/-- The examples again, in the midst of a law. -/
theorem awake_at {w0 W : World} (hb : Fr w0 W) : Calls Try.prog 9 #[] W fun e w' => e = .returned (.bool true) ∧ Fr w0 w' :=
  (awake W).mono fun _ _ ⟨he, hw⟩ => ⟨he, fr_step hb hw⟩
theorem sum_lt {s : Nat} {l : List Nat} (hs : s < 4294967296) (ho : Octets l) : moreS s l < 4294967296 := moreS_lt hs ho

set_option maxHeartbeats 1000000 in
theorem crcAll_core (A : Option Addr) (n c : Nat) (l : List Nat) (s : Nat) (z : Int) (w : World) (hl : l.length = n) (ho : Octets l) (hs : s < 4294967296) (hr : Has w w.heap.size A (octs l)) :
    Calls Try.prog 3 #[.slice A n c, .int .u32 (s : Int), .int .i64 z] w fun e w' => e = .returned (.bool true) ∧ Below w.heap.size w w' := by
  have Hl := keep hl
  clear hl
  have b0 := fr_refl w
  by_cases hn : n ≤ 2000
  · have hn' : n ≤ 100000 := by omega
    rcases (show z ≤ 3000 ∨ (3000 < z ∧ z < 65530) ∨ 65530 ≤ z from by omega) with h | ⟨h, h'⟩ | h
    all_goals
      go_enter Try.func3, Try.ntmps3
      go_wp2_with (first
        | (go_at_call 10; refine (crc_sum_at hr Hl.out ho hn' (by assumption)).mono ?_; rintro e w1 ⟨rfl, hb1⟩)
        | (go_at_call 11; refine (ref_sum_at hr Hl.out ho hn' (by assumption)).mono ?_; rintro e w1 ⟨rfl, rfl⟩)
        | (go_at_call 12; refine (crc_more_at s hs hr Hl.out ho hn' (by assumption)).mono ?_; rintro e w2 ⟨rfl, hb2⟩)
        | (go_at_call 13; refine (ref_more_at s hs hr Hl.out ho hn' (by assumption)).mono ?_; rintro e w1 ⟨rfl, rfl⟩)
        | (go_at_call 14; refine (crc_zeros_at s hs z (by assumption)).mono ?_; rintro e w3 ⟨rfl, hb3⟩)
        | (go_at_call 15; refine (ref_zeros s hs z _).mono ?_; rintro e w1 ⟨rfl, rfl⟩)
        | (go_at_call 9; refine (awake_at (by assumption)).mono ?_; rintro e w4 ⟨rfl, hb4⟩))
      go_ret
      exact ⟨rfl, by assumption⟩
  · go_enter Try.func3, Try.ntmps3
    go_wp2_with (go_at_call 9; refine (awake_at b0).mono ?_; rintro e w4 ⟨rfl, hb4⟩)
    go_ret
    exact ⟨rfl, by assumption⟩
end Go.Proofs.Ythmpklimccpacaa
