/- A place by a number: what the laws' package 00 makes of it. -/
import Derived.Test.YtbnphkiipjgfaaaRows
import Derived.Test.YtbnphkiipjgfaaaObj
namespace Go.Proofs.Ytbnphkiipjgfaaa
set_option linter.unusedVariables false
set_option linter.unusedSimpArgs false
set_option maxRecDepth 100000
open Go.RowKit
/-- A number of 64 bits. -/
def Is64 (z : Int) : Prop := -9223372036854775808 ≤ z ∧ z ≤ 9223372036854775807
theorem u8_of (n : Int) : IntKind.u8.wrap n = n % 256 := by
  simp [IntKind.wrap, IntKind.signed, IntKind.bits]
theorem emod_of_tmod (v : Int) (n : Nat) : v % (n : Int) = (v.tmod n) % n := by
  conv => lhs; rw [← Int.mul_tdiv_add_tmod v n]
  exact Int.mul_add_emod_self_left _ _ _
set_option maxRecDepth 100000 in
set_option maxHeartbeats 1000000 in
theorem law_place (v : Int) (n : Nat) (hv : Is64 v) (hn : 0 < n) (hn2 : (n : Int) ≤ 1099511627776) (w : World) : Calls Try.prog 13 #[.int .i64 v, .int .i64 n] w fun e w' => e = .returned (.int .i64 (v % n)) ∧ Fr w w' := by
  have he := emod_of_tmod v n
  unfold Is64 at hv
  have hn0 : ((n : Int) == 0) = false := by simp; omega
  rcases tmod_cases v n (by omega) with ⟨k, e, h1, h2⟩ | ⟨k, e, h2⟩
  · rw [e] at he
    have hr : v % (n : Int) = -(k : Int) + n := by
      rw [he, ← Int.add_emod_right, Int.emod_eq_of_lt (by omega) (by omega)]
    rw [hr]
    clear he hr
    go_enter Try.func13, Try.ntmps13
    go_wp2_with fail
    go_ret
    exact ⟨rfl, fr_refl w⟩
  · rw [e, Int.emod_eq_of_lt (a := (k : Int)) (by omega) (by omega)] at he
    rw [he]
    clear he
    go_enter Try.func13, Try.ntmps13
    go_wp2_with fail
    go_ret
    exact ⟨rfl, fr_refl w⟩
end Go.Proofs.Ytbnphkiipjgfaaa
