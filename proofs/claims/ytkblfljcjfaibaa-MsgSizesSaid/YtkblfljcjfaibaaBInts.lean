/- What the functions of layer 1 on numbers alone come to, of the program and of the document. -/
import Derived.Test.YtkblfljcjfaibaaRows
import Derived.Test.YtkblfljcjfaibaaBMath
import Derived.WalkSpells
import Derived.WalkLawsBesides
namespace Go.Proofs.Ytkblfljcjfaibaa
open Go.RowKit
set_option linter.unusedVariables false

set_option maxHeartbeats 400000 in
theorem shiftU (n c : Int) (hl : -9223372036854775808 ≤ c) (hu : c ≤ 9223372036854775807) (w : World) :
    Calls Try.prog 40 #[.int .u64 n, .int .i64 c] w fun e w' => e = .returned (.int .u64 (shU n c)) ∧ w = w' := by
  by_cases h : c < 0
  · go_enter Try.func40, Try.ntmps40
    go_wp2
    go_ret
    exact ⟨ret_int (shU_neg n c h hl), rfl⟩
  · go_enter Try.func40, Try.ntmps40
    go_wp2
    go_ret
    exact ⟨ret_int (shU_pos n c (by omega)), rfl⟩

set_option maxHeartbeats 400000 in
theorem allowed (c : Int) (w : World) :
    Calls Try.prog 39 #[.int .i64 c] w fun e w' => e = .returned (.bool (okW c)) ∧ w = w' := by
  by_cases h : 1 ≤ c
  · go_enter Try.func39, Try.ntmps39
    go_wp2
    go_ret
    exact ⟨ret_bool (by simp [okW, h]), rfl⟩
  · go_enter Try.func39, Try.ntmps39
    go_wp2
    go_ret
    exact ⟨ret_bool (by simp [okW]; omega), rfl⟩
end Go.Proofs.Ytkblfljcjfaibaa
