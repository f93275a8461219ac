/- BitsRows, walked. -/
import Derived.Test.YtipckiabipklpaaLawsA
namespace Go.Proofs.Ytipckiabipklpaa
open Go.RowKit

/-- The bytes of numbers, one behind the other. -/
def leL (l : List Int) (K : Nat) : List Int := l.flatMap fun x => leB x K
theorem leL_len (l : List Int) (K : Nat) : (leL l K).length = l.length * K := by
  induction l with
  | nil => simp [leL]
  | cons x l ih => rw [leL, List.flatMap_cons, List.length_append, leB_len, List.length_cons, Nat.succ_mul, Nat.add_comm]; exact congrArg (· + K) ih
theorem leL_snoc (l : List Int) (x : Int) (K : Nat) : leL (l ++ [x]) K = leL l K ++ leB x K := by simp [leL]
theorem leL_app (l r : List Int) (K : Nat) : leL (l ++ r) K = leL l K ++ leL r K := by simp [leL]
theorem bytes_leL (l : List Int) (K : Nat) : Bytes (leL l K) := fun z hz => by
  obtain ⟨x, _, h⟩ := List.mem_flatMap.1 hz
  exact bytes_leB K x z h
/-- The j-th number's bytes in the row. -/
theorem leL_at (l : List Int) (K j : Nat) (hj : j < l.length) : ((leL l K).drop (j * K)).take K = leB l[j] K := by
  have e : leL l K = leL (l.take j) K ++ (leB l[j] K ++ leL (l.drop (j + 1)) K) := by
    conv => lhs; rw [← List.take_append_drop j l, leL_app, List.drop_eq_getElem_cons hj]
    rw [leL, leL, List.flatMap_cons]
    rfl
  have hl : (leL (l.take j) K).length = j * K := by rw [leL_len, List.length_take, Nat.min_eq_left (by omega)]
  rw [e, ← hl, List.drop_left, List.take_append_of_le_length (by rw [leB_len]; omega), List.take_of_length_le (by rw [leB_len]; omega)]

/-- 64-bit numbers as cells. -/
abbrev u64s (zs : List Int) : List Value := zs.map (Value.int .u64)

theorem rows_small {n K j : Nat} (hn : n ≤ 40) (hj : j < n) (hk : (K : Int) ≤ 8) : j * K ≤ 90000 :=
  Nat.le_trans (Nat.mul_le_mul (show j ≤ 40 by omega) (show K ≤ 8 by omega)) (by omega)
theorem mul_bd {n K : Nat} (hn : n ≤ 40) (hk : (K : Int) ≤ 8) : 0 ≤ (n : Int) * (K : Int) ∧ (n : Int) * (K : Int) ≤ 320 := by
  have h : n * K ≤ 40 * 8 := Nat.mul_le_mul hn (by omega)
  rw [← Int.natCast_mul]
  omega
theorem mul_lt {n K j : Nat} (h : j < n) : j * K + K ≤ n * K := by
  rw [← Nat.succ_mul]
  exact Nat.mul_le_mul_right K h
theorem rows_small' {n K : Nat} (hn : n ≤ 40) (hk : (K : Int) ≤ 8) : n * K ≤ 100000 :=
  Nat.le_trans (Nat.mul_le_mul hn (show K ≤ 8 by omega)) (by omega)
theorem past_end {n K : Nat} (hk : 1 ≤ (K : Int)) : ¬ (1 ≤ (K : Int) ∧ (K : Int) ≤ 8 ∧ 0 ≤ (n : Int) * (K : Int) ∧ (n : Int) * (K : Int) ≤ ((n * K : Nat) : Int) - (K : Int)) := by
  rw [Int.natCast_mul]
  omega
/-- The next number of the row. -/
theorem row_step {zs : List Int} {n j : Nat} {w : World} {A : Option Addr} (hl : zs.length = n) (hz : ∀ z ∈ zs, 0 ≤ z ∧ z ≤ 18446744073709551615) (hr : Has w w.heap.size A (u64s zs)) (hj : j < n) (K : Nat) :
    ∃ z b off, A = some ⟨b, off, none⟩ ∧ b < w.heap.size ∧ w.cell? ⟨b, off + j, none⟩ = some (.int .u64 z) ∧ 0 ≤ z ∧ z < 18446744073709551616 ∧ leL (zs.take (j + 1)) K = leL (zs.take j) K ++ leB z K ∧ leB z K = ((leL zs K).drop (j * K)).take K := by
  have hi : j < zs.length := by omega
  obtain ⟨b, off, hA, hb, hc⟩ := hr j (.int .u64 zs[j]) (by simp [hi])
  have hbd := hz _ (List.getElem_mem hi)
  refine ⟨zs[j], b, off, hA, hb, hc, hbd.1, by omega, ?_, (leL_at zs K j hi).symm⟩
  rw [List.take_succ_eq_append_getElem hi, leL_snoc]

set_option maxHeartbeats 1000000 in
theorem bitsRows_core (A : Option Addr) (n c : Nat) (zs : List Int) (k : Int) (w : World) (hl : zs.length = n) (hc : n ≤ c) (hz : ∀ z ∈ zs, 0 ≤ z ∧ z ≤ 18446744073709551615) (hr : Has w w.heap.size A (u64s zs)) :
    Calls Try.prog 5 #[.slice A n c, .int .i64 k] w fun e w' => e = .returned (.bool true) ∧ Below w.heap.size w w' := by
  by_cases hn : n ≤ 40 ∧ 1 ≤ k ∧ k ≤ 8
  · obtain ⟨hn, hk1, hk2⟩ := hn
    obtain ⟨K, rfl⟩ := Int.eq_ofNat_of_zero_le (show 0 ≤ k by omega)
    go_enter Try.func5, Try.ntmps5
    go_wp2_with fail
    go_loopg [5, 6] n (fun g v i wr => ∃ (j : Nat) (A' : Option Addr) (c' : Nat), j + g = n ∧ i = .int .i64 j ∧ v = .slice A' (j * K) c' ∧ (∃ B, Own wr B 5 1 A' (j * K) c' (u8s (leL (zs.take j) K))) ∧ Below w.heap.size w wr)
    case atStart => exact ⟨0, none, 0, by omega, rfl, by simp, ⟨w.heap.size, by simpa [leL] using Own.nil w w.heap.size _ _⟩, Below.refl _ _⟩
    case round =>
      obtain ⟨j, A', c', hj, rfl, rfl, ⟨B, ho⟩, hb⟩ := hrel
      have Hj := keep hj
      have hcap := ho.cap
      have hz1 := keep hb.size
      by_cases hlt : j < n
      · obtain ⟨z, b, off, rfl, hbw, hc0, hz0, hz9, hset, _⟩ := row_step hl hz hr hlt K
        have hc1 := (hb.cell (p := ⟨b, off + j, none⟩) hbw).trans hc0
        have Hset := keep hset
        have Hz9 := keep hz9
        clear hj hc0 hset hz9
        go_wp2_with (go_at_call 16; refine (put_ok _ (j * K) _ (leL (zs.take j) K) (len_one ho) (rows_small hn hlt hk2) z K hz0 hk1 hk2 _ ho.has).mono ?_; rintro e w2 ⟨A2, c2, rfl, ho2, hb2⟩)
        rw [Int.toNat_natCast] at ho2
        go_roundg (gk - 1)
        case measure => have := Hj.out; omega
        case rel => exact ⟨j + 1, A2, c2, by have := Hj.out; omega, by go_num, by simp [Nat.succ_mul], ⟨_, by rw [Nat.succ_mul, Hset.out]; exact ho2⟩, hb.trans (hb2.mono hb.size)⟩
      · obtain rfl : n = j := by omega
        rw [List.take_of_length_le (by omega)] at ho
        have hnk := keep (mul_bd hn hk2)
        have hnk1 := hnk.out.1
        have hnk2 := hnk.out.2
        clear hj
        go_wp2_with fail
        go_loopg [7, 8, 9] n (fun g i _ _ wq => ∃ j : Nat, j + g = n ∧ i = .int .i64 j ∧ wr = wq)
        case atStart => exact ⟨0, by omega, rfl, rfl⟩
        case round =>
          obtain ⟨j, hj, rfl, rfl⟩ := hrel
          have Hj := keep hj
          by_cases hlt : j < n
          · obtain ⟨z, b, off, rfl, hbw, hc0, hz0, hz9, _, hset⟩ := row_step hl hz hr hlt K
            have hc1 := (hb.cell (p := ⟨b, off + j, none⟩) hbw).trans hc0
            have Hset := keep hset
            have Hz9 := keep hz9
            have Hm := keep (mul_lt (K := K) hlt)
            have hjk := mul_bd (n := j) (by omega) hk2
            have hjk1 := hjk.1
            have hjk2 := hjk.2
            clear hj hc0 hset hz9 hjk
            go_wp2_with (first
              | (go_at_call 11; rw [← Int.natCast_mul]; refine (num_ok _ (n * K) _ (leL zs K) (len_one ho) (rows_small' hn hk2) hcap (bytes_leL zs K) (j * K) K (by omega) (by omega) Hm.out _ ho.has).mono ?_; rintro e w2 ⟨rfl, rfl⟩; rw [← Hset.out, low_leB z K hz0])
              | (go_at_call 24; refine (ref_low z K hz0 Hz9.out hk1 hk2 _).mono ?_; rintro e w2 ⟨rfl, rfl⟩))
            go_roundg (gk - 1)
            case measure => have := Hj.out; omega
            case rel => exact ⟨j + 1, by have := Hj.out; omega, by go_num, rfl⟩
          · obtain rfl : n = j := by omega
            clear hj
            go_wp2_with (first
              | (go_at_call 11; refine (num_bad _ (n * K) _ _ K (rows_small' hn hk2) (past_end hk1) _).mono ?_; rintro e w2 ⟨rfl, rfl⟩)
              | (go_at_call 10; refine (awake _).mono ?_; rintro e w3 ⟨rfl, hb3⟩))
            go_ret
            exact ⟨rfl, hb.trans (hb3.mono hb.size)⟩
  · go_enter Try.func5, Try.ntmps5
    go_wp2_with (go_at_call 10; refine (awake _).mono ?_; rintro e w' ⟨rfl, hb⟩)
    all_goals (go_ret; exact ⟨rfl, hb⟩)

end Go.Proofs.Ytipckiabipklpaa
