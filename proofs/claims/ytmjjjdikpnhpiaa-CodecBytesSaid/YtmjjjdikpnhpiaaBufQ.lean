/- Buffers in memory, sixteen: 'append' of one message; the document's 'Batch', 'Less'. -/
import Derived.Test.YtmjjjdikpnhpiaaBufL
import Derived.Deep.Draws
import Derived.Test.YtmjjjdikpnhpiaaShort
namespace Go.Proofs.Ytmjjjdikpnhpiaa
set_option linter.unusedVariables false
set_option linter.unusedSimpArgs false
set_option maxRecDepth 100000
open Go.RowKit
section
attribute [local go_sem ↓] zt zw zaX
theorem zdO {m : RM} (wm : m.wf) : List.foldl (fun (cs : Array Value) (x : Value × Nat) => cs.setIfInBounds x.snd x.fst) #[.int .i64 0, .int .u64 0, .int .i64 0, .int .u8 0, .int .u8 0, .int .u8 0, .int .u8 0, .int .u8 0, .int .u8 0, .int .u8 0, .int .u8 0, .int .i64 0, .int .u8 0, .int .u8 0, .int .u8 0, .int .u8 0, .int .u8 0, .int .u8 0, .int .u8 0, .int .u8 0, .int .u8 0, .int .u8 0, .int .u8 0, .int .u8 0, .int .u8 0, .int .u8 0, .int .u8 0, .int .u8 0, .int .u64 0] (mc m).zipIdx = (mc m).toArray := by
 have h := zlw (zP wm.val.hl);rw [zdM] at h;exact h
end
section
attribute [local go_sem ↓] zt zw zaX
end
section
attribute [local go_sem ↓] zt zw zaX
def zhk (l : List RM) (m : RM) (j : Nat) (p : Bool) (q : List RM) : Prop :=
 if p = true then q = zaK (l.take j) m ∧ ∃ y ∈ l.take j, cd m ≤ cd y else q = l.take j ∧ ∀ y ∈ l.take j, cd y < cd m
end
end Go.Proofs.Ytmjjjdikpnhpiaa
