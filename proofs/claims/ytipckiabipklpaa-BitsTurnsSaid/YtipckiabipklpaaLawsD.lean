/- BitsTurns, walked. -/
import Derived.Test.YtipckiabipklpaaLawsA
import Derived.Test.YtipckiabipklpaaRot
namespace Go.Proofs.Ytipckiabipklpaa
open Go.RowKit

set_option maxHeartbeats 1000000 in
theorem bitsTurns_core (n a b : Int) (w : World) (hn : 0 ≤ n ∧ n ≤ 18446744073709551615) (ha : -9223372036854775808 ≤ a ∧ a ≤ 9223372036854775807) (hb : -9223372036854775808 ≤ b ∧ b ≤ 9223372036854775807) :
    Calls Try.prog 7 #[.int .u64 n, .int .i64 a, .int .i64 b] w fun e w' => e = .returned (.bool true) ∧ Below w.heap.size w w' := by
  have Hn : Hid (0 ≤ n ∧ n < 18446744073709551616) := keep (by omega)
  have hn0 := hn.1
  clear hn
  have Ha := keep ha
  have Hb := keep hb
  clear ha hb
  have qa := rem64 a
  have qb := rem64 b
  have a1 : -63 ≤ a.tmod 64 := by rw [qa]; split <;> omega
  have a2 : a.tmod 64 ≤ 63 := by rw [qa]; split <;> omega
  have b1 : -63 ≤ b.tmod 64 := by rw [qb]; split <;> omega
  have b2 : b.tmod 64 ≤ 63 := by rw [qb]; split <;> omega
  have ea : Hid (a.tmod 64 % 64 = a % 64) := keep (by rw [qa]; split <;> omega)
  have eb : Hid (b.tmod 64 % 64 = b % 64) := keep (by rw [qb]; split <;> omega)
  clear qa qb
  have Ht := keep (rotS_bd n a Hn.out.1 Hn.out.2)
  have c1 := keep (rotS_add n a b (a.tmod 64 + b.tmod 64) Hn.out.1 Hn.out.2 (by have := ea.out; have := eb.out; omega))
  have c2 : Hid (rotS (rotS n (a % 64)) (-a.tmod 64 % 64) = n) := keep (by
    rw [rotS_add n a (-a.tmod 64) (a + -a.tmod 64) Hn.out.1 Hn.out.2 rfl]
    exact rotS_zero n _ Hn.out.1 Hn.out.2 (by have := ea.out; omega))
  have c3 : Hid (rotS n ((a.tmod 64 + 64) % 64) = rotS n (a % 64)) := keep (by rw [show (a.tmod 64 + 64) % 64 = a % 64 from by have := ea.out; omega])
  have hpop := keep (pop_rotS n a Hn.out.1 Hn.out.2)
  have ht0 := Ht.out.1
  go_enter Try.func7, Try.ntmps7
  go_wp2_with fail
  refine (turn n a Hn.out.1 Hn.out.2 Ha.out.1 Ha.out.2 _).mono ?_
  rintro e w1 ⟨rfl, rfl⟩
  go_wp2_with fail
  refine (turn _ b Ht.out.1 Ht.out.2 Hb.out.1 Hb.out.2 _).mono ?_
  rintro e w1 ⟨rfl, rfl⟩
  rw [c1.out]
  go_wp2_with fail
  refine (turn n _ Hn.out.1 Hn.out.2 (by omega) (by omega) _).mono ?_
  rintro e w1 ⟨rfl, rfl⟩
  go_wp2_with fail
  refine (turn _ _ Ht.out.1 Ht.out.2 (by omega) (by omega) _).mono ?_
  rintro e w1 ⟨rfl, rfl⟩
  rw [c2.out]
  go_wp2_with fail
  refine (turn n _ Hn.out.1 Hn.out.2 (by omega) (by omega) _).mono ?_
  rintro e w1 ⟨rfl, rfl⟩
  rw [c3.out]
  go_wp2_with fail
  generalize rotS n (a % 64) = t at *
  go_loopg [10, 11] 64 (fun g o i wr => ∃ j : Nat, j + g = 64 ∧ i = .int .i64 j ∧ o = .int .i64 (pop n j - pop t j) ∧ w = wr)
  case atStart => exact ⟨0, by omega, rfl, rfl, rfl⟩
  case round =>
    obtain ⟨j, hj, rfl, rfl, rfl⟩ := hrel
    have Hj := keep hj
    by_cases hlt : j < 64
    · have d1 := pop_bd n j
      have d2 := pop_bd t j
      have d11 := d1.1
      have d12 := d1.2
      have d21 := d2.1
      have d22 := d2.2
      have e1 := bit_and n j hn0 Hn.out.2
      have e2 := bit_and t j ht0 Ht.out.2
      have f1 : 0 ≤ n / 2 ^ j % 2 := by omega
      have f2 : n / 2 ^ j % 2 ≤ 1 := by omega
      have f3 : 0 ≤ t / 2 ^ j % 2 := by omega
      have f4 : t / 2 ^ j % 2 ≤ 1 := by omega
      clear hj d1 d2
      go_wp2
      go_roundg (gk - 1)
      case measure => have := Hj.out; omega
      case rel => exact ⟨j + 1, by have := Hj.out; omega, by go_num, congrArg (Value.int .i64) (by simp only [pop]; omega), rfl⟩
    · obtain rfl : j = 64 := by omega
      have hz : pop n 64 - pop t 64 = 0 := by rw [hpop.out]; omega
      rw [hz]
      clear hj hz
      go_wp2_with (go_at_call 10; refine (awake _).mono ?_; rintro e w3 ⟨rfl, hb3⟩)
      go_ret
      exact ⟨rfl, hb3⟩

end Go.Proofs.Ytipckiabipklpaa
