/- What the functions of layer 5 come to, five: 'Apply' of both. -/
import Derived.Test.YtnfoebcfhldemaaMsgD
namespace Go.Proofs.Ytnfoebcfhldemaa
set_option maxRecDepth 100000
open Go.RowKit
set_option linter.unusedVariables false
attribute [local go_sem ↓] val_ld key_ld msg_ld
/-- What a message makes of a value, or of none. -/
def appV (v : RV) (there : Bool) (m : RM) : RV := if m.kind = 1 then m.val else if m.kind = 2 then zeroV else if there = true then plusV v m.inc else fromV m.inc
def appB (m : RM) : Bool := decide (m.kind ≠ 2)
/-- A value and a message that were boxed, and a third block. -/
theorem app_boxed (w : World) (v : RV) (m : RM) (hm : m.val.bs.length = 16) : ∃ Z, ((w.alloc (.cells (vc v).toArray 34)).alloc (.cells (mc m).toArray 36)).alloc (.cells #[.int .i64 0, .int .u8 0, .int .u8 0, .int .u8 0, .int .u8 0, .int .u8 0, .int .u8 0, .int .u8 0, .int .u8 0, .int .u8 0, .int .u8 0, .int .u8 0, .int .u8 0, .int .u8 0, .int .u8 0, .int .u8 0, .int .u8 0] 34) = Z ∧ Fr w Z ∧ Fr Z Z ∧
    Arr Z w.heap.size 34 (vc v).toArray ∧ Arr Z (w.heap.size + 1) 36 (mc m).toArray ∧ Arr Z (w.heap.size + 1 + 1) 34 (vc zeroV).toArray ∧ Z.heap.size = w.heap.size + 1 + 1 + 1 := by
  refine ⟨_, rfl, fr_new (fr_new (fr_new (fr_refl w) _) _) _, fr_refl _, Arr.alloc (Arr.alloc (Arr.new w _ _) _) _, Arr.alloc (arr_at _ _ _ _ (by simp)) _, arr_at _ _ _ _ (by simp), by simp⟩
end Go.Proofs.Ytnfoebcfhldemaa
