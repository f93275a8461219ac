/-
  No cell of these rows narrows 'for every input' (looked for: loops, veiled, ifaces, maps, wideKeys, modest, calm, conditions, laid).
  DERIVED. THE GIVEN ROWS OF THIS SEAT. 7 by the template 'for every input the law returns true; each argument reads behind the call as it read before'; 0 by the template 'total and deterministic' (their statements: YtbnphkiipjgfaaaTotals.lean).
  GIVEN WITH THE SEED: the statements are not yours to turn. If you find one false, say at which input.
  Laid BY PROGRAM, IN A SANDBOX (cutbox-rows.mjs): the forced cells as the released guide's own fill.sh prints them over the translation e5f4f4e81c950e40… (all of the seat's roots in one cut). By AI agents, Wed Nov 11 2026. No macro, syntax, notation, axiom, sorry.
-/
import Derived.Test.YtbnphkiipjgfaaaChecked
import GoSem.Claim
import GoSem.ClaimJoined
import GoSem.ClaimMapViews
import Derived.JoinedTies
import Derived.KernelRfl
namespace Go.Proofs.Ytbnphkiipjgfaaa
/- THE CELL 'sum', in the pinned program and in every row, IS THE sha256 OF THE DUMP (.gsa) THAT YtbnphkiipjgfaaaProg.lean LOADS. Nothing in Lean hashes anything: it is a label: what it is worth is what the hold of that sum in a sandbox is worth. -/
noncomputable def Try.pinned : Pinned := { name := "ytbnphkiipjgfaaa", sum := "e5f4f4e81c950e401e752f1e59a35f213d4d43419649258208c405ab39fc17ef", checked := Try.checked }
namespace Rows
def none {H : Type} : Left H := { results := [], args := [] }

/-- 'orangerylaw14.LatchPlays': WHATEVER THE INPUT: true; the input reads as it did. -/
def latchPlaysSpec : ChangeSpec := { name := "latchPlays", fn := fun _ => fun
  | [d] => { results := [.lit (.bool true)], args := [d] }
  | _ => none }
def latchPlaysRow : OpenClaim := { program := "ytbnphkiipjgfaaa", sum := "e5f4f4e81c950e401e752f1e59a35f213d4d43419649258208c405ab39fc17ef", func := "orangery/orangerylaw14.LatchPlays", spec := "latchPlays", inPlace := ["slices.overlaps[int]"], unfollowed := true, recurses := true, apart := false }
def LatchPlaysSaid : Prop := latchPlaysRow.holds Try.pinned (OpenSpec.ofChange latchPlaysSpec)

/-- ITS FALSE NEIGHBOUR: 'it returns false'. Refute it at one input. -/
def latchPlaysWrong : ChangeSpec := { name := "latchPlays", fn := fun _ => fun
  | [d] => { results := [.lit (.bool false)], args := [d] }
  | _ => none }
def LatchPlaysWrongFalsely : Prop := latchPlaysRow.holds Try.pinned (OpenSpec.ofChange latchPlaysWrong)

/-- 'orangerylaw14.LatchAlone': WHATEVER THE INPUT: true; the input reads as it did. -/
def latchAloneSpec : ChangeSpec := { name := "latchAlone", fn := fun _ => fun
  | [d] => { results := [.lit (.bool true)], args := [d] }
  | _ => none }
def latchAloneRow : OpenClaim := { program := "ytbnphkiipjgfaaa", sum := "e5f4f4e81c950e401e752f1e59a35f213d4d43419649258208c405ab39fc17ef", func := "orangery/orangerylaw14.LatchAlone", spec := "latchAlone", inPlace := ["slices.overlaps[int]"], unfollowed := true, recurses := true, apart := false }
def LatchAloneSaid : Prop := latchAloneRow.holds Try.pinned (OpenSpec.ofChange latchAloneSpec)

/-- ITS FALSE NEIGHBOUR: 'it returns false'. Refute it at one input. -/
def latchAloneWrong : ChangeSpec := { name := "latchAlone", fn := fun _ => fun
  | [d] => { results := [.lit (.bool false)], args := [d] }
  | _ => none }
def LatchAloneWrongFalsely : Prop := latchAloneRow.holds Try.pinned (OpenSpec.ofChange latchAloneWrong)

/-- 'orangerylaw14.LatchRow': WHATEVER THE INPUT: true; the input reads as it did. -/
def latchRowSpec : ChangeSpec := { name := "latchRow", fn := fun _ => fun
  | [d] => { results := [.lit (.bool true)], args := [d] }
  | _ => none }
def latchRowRow : OpenClaim := { program := "ytbnphkiipjgfaaa", sum := "e5f4f4e81c950e401e752f1e59a35f213d4d43419649258208c405ab39fc17ef", func := "orangery/orangerylaw14.LatchRow", spec := "latchRow", inPlace := ["slices.overlaps[int]"], unfollowed := true, recurses := true, apart := false }
def LatchRowSaid : Prop := latchRowRow.holds Try.pinned (OpenSpec.ofChange latchRowSpec)

/-- ITS FALSE NEIGHBOUR: 'it returns false'. Refute it at one input. -/
def latchRowWrong : ChangeSpec := { name := "latchRow", fn := fun _ => fun
  | [d] => { results := [.lit (.bool false)], args := [d] }
  | _ => none }
def LatchRowWrongFalsely : Prop := latchRowRow.holds Try.pinned (OpenSpec.ofChange latchRowWrong)

/-- 'orangerylaw14.LatchTries': WHATEVER THE INPUT: true; the input reads as it did. -/
def latchTriesSpec : ChangeSpec := { name := "latchTries", fn := fun _ => fun
  | [d1, d2, d3, d4] => { results := [.lit (.bool true)], args := [d1, d2, d3, d4] }
  | _ => none }
def latchTriesRow : OpenClaim := { program := "ytbnphkiipjgfaaa", sum := "e5f4f4e81c950e401e752f1e59a35f213d4d43419649258208c405ab39fc17ef", func := "orangery/orangerylaw14.LatchTries", spec := "latchTries", inPlace := ["slices.overlaps[int]"], unfollowed := true, recurses := true, apart := false }
def LatchTriesSaid : Prop := latchTriesRow.holds Try.pinned (OpenSpec.ofChange latchTriesSpec)

/-- ITS FALSE NEIGHBOUR: 'it returns false'. Refute it at one input. -/
def latchTriesWrong : ChangeSpec := { name := "latchTries", fn := fun _ => fun
  | [d1, d2, d3, d4] => { results := [.lit (.bool false)], args := [d1, d2, d3, d4] }
  | _ => none }
def LatchTriesWrongFalsely : Prop := latchTriesRow.holds Try.pinned (OpenSpec.ofChange latchTriesWrong)

/-- 'orangerylaw14.LatchDowns': WHATEVER THE INPUT: true; the input reads as it did. -/
def latchDownsSpec : ChangeSpec := { name := "latchDowns", fn := fun _ => fun
  | [d] => { results := [.lit (.bool true)], args := [d] }
  | _ => none }
def latchDownsRow : OpenClaim := { program := "ytbnphkiipjgfaaa", sum := "e5f4f4e81c950e401e752f1e59a35f213d4d43419649258208c405ab39fc17ef", func := "orangery/orangerylaw14.LatchDowns", spec := "latchDowns", inPlace := ["slices.overlaps[int]"], unfollowed := true, recurses := true, apart := false }
def LatchDownsSaid : Prop := latchDownsRow.holds Try.pinned (OpenSpec.ofChange latchDownsSpec)

/-- ITS FALSE NEIGHBOUR: 'it returns false'. Refute it at one input. -/
def latchDownsWrong : ChangeSpec := { name := "latchDowns", fn := fun _ => fun
  | [d] => { results := [.lit (.bool false)], args := [d] }
  | _ => none }
def LatchDownsWrongFalsely : Prop := latchDownsRow.holds Try.pinned (OpenSpec.ofChange latchDownsWrong)

/-- 'orangerylaw14.LatchLeaves': WHATEVER THE INPUT: true; the input reads as it did. -/
def latchLeavesSpec : ChangeSpec := { name := "latchLeaves", fn := fun _ => fun
  | [d1, d2] => { results := [.lit (.bool true)], args := [d1, d2] }
  | _ => none }
def latchLeavesRow : OpenClaim := { program := "ytbnphkiipjgfaaa", sum := "e5f4f4e81c950e401e752f1e59a35f213d4d43419649258208c405ab39fc17ef", func := "orangery/orangerylaw14.LatchLeaves", spec := "latchLeaves", inPlace := ["slices.overlaps[int]"], unfollowed := true, recurses := true, apart := false }
def LatchLeavesSaid : Prop := latchLeavesRow.holds Try.pinned (OpenSpec.ofChange latchLeavesSpec)

/-- ITS FALSE NEIGHBOUR: 'it returns false'. Refute it at one input. -/
def latchLeavesWrong : ChangeSpec := { name := "latchLeaves", fn := fun _ => fun
  | [d1, d2] => { results := [.lit (.bool false)], args := [d1, d2] }
  | _ => none }
def LatchLeavesWrongFalsely : Prop := latchLeavesRow.holds Try.pinned (OpenSpec.ofChange latchLeavesWrong)

/-- 'orangerylaw14.LatchQueue': WHATEVER THE INPUT: true; the input reads as it did. -/
def latchQueueSpec : ChangeSpec := { name := "latchQueue", fn := fun _ => fun
  | [d] => { results := [.lit (.bool true)], args := [d] }
  | _ => none }
def latchQueueRow : OpenClaim := { program := "ytbnphkiipjgfaaa", sum := "e5f4f4e81c950e401e752f1e59a35f213d4d43419649258208c405ab39fc17ef", func := "orangery/orangerylaw14.LatchQueue", spec := "latchQueue", inPlace := ["slices.overlaps[int]"], unfollowed := true, recurses := true, apart := false }
def LatchQueueSaid : Prop := latchQueueRow.holds Try.pinned (OpenSpec.ofChange latchQueueSpec)

/-- ITS FALSE NEIGHBOUR: 'it returns false'. Refute it at one input. -/
def latchQueueWrong : ChangeSpec := { name := "latchQueue", fn := fun _ => fun
  | [d] => { results := [.lit (.bool false)], args := [d] }
  | _ => none }
def LatchQueueWrongFalsely : Prop := latchQueueRow.holds Try.pinned (OpenSpec.ofChange latchQueueWrong)

/- THE SECOND FORM. 'bulk': how many values and letters a reading holds, each counted each time it is reached (what is shared counts as often as it is met; a slice's spare places count too). A statement '..UptoSaid' is the law's where the arguments, and the package variables that the reading takes, are together of bulk at most 1048576: NARROWER than '..Said'. Prove '..Said' where nothing that the law and all that it calls make is longer than what came in: it says more and counts as full. Else prove '..UptoSaid'. A law counts once. -/
mutual
def uptoBulk {H : Type} : DataW H → Nat
  | .lit (.string bytes) => bytes.length + 1
  | .lit _ => 1
  | .nil => 1
  | .ptr d => uptoBulk d + 1
  | .slice elems spare => uptoBulkAll elems + uptoBulkAll spare + 1
  | .agg parts => uptoBulkAll parts + 1
  | .iface _ d => uptoBulk d + 1
  | .map entries => uptoBulkEntries entries + 1
  | .held _ => 1
def uptoBulkAll {H : Type} : List (DataW H) → Nat
  | [] => 0
  | d :: r => uptoBulk d + uptoBulkAll r
def uptoBulkEntries {H : Type} : List (Lit × DataW H) → Nat
  | [] => 0
  | x :: r => uptoBulkEntry x + uptoBulkEntries r
def uptoBulkEntry {H : Type} : Lit × DataW H → Nat
  | (.string bytes, d) => bytes.length + uptoBulk d + 1
  | (_, d) => uptoBulk d + 1
 end
def uptoSmall : (H : Type) → List (DataW H) → Bool := fun _ ds => decide (uptoBulkAll ds ≤ 1048576)
def OpenSpec.upto (s : _root_.Go.ChangeSpec) : _root_.Go.OpenSpec := { _root_.Go.OpenSpec.ofChange s with cond := some uptoSmall }

/-- 'orangerylaw14.LatchPlays', WHERE WHAT IT READS IS OF BULK AT MOST 1048576: true; the input reads as it did. -/
def latchPlaysUptoRow : OpenClaim := { program := "ytbnphkiipjgfaaa", sum := "e5f4f4e81c950e401e752f1e59a35f213d4d43419649258208c405ab39fc17ef", func := "orangery/orangerylaw14.LatchPlays", spec := "latchPlays", inPlace := ["slices.overlaps[int]"], unfollowed := true, recurses := true, apart := false, narrowed := true }
def LatchPlaysUptoSaid : Prop := latchPlaysUptoRow.holds Try.pinned (OpenSpec.upto latchPlaysSpec)

/-- 'orangerylaw14.LatchAlone', WHERE WHAT IT READS IS OF BULK AT MOST 1048576: true; the input reads as it did. -/
def latchAloneUptoRow : OpenClaim := { program := "ytbnphkiipjgfaaa", sum := "e5f4f4e81c950e401e752f1e59a35f213d4d43419649258208c405ab39fc17ef", func := "orangery/orangerylaw14.LatchAlone", spec := "latchAlone", inPlace := ["slices.overlaps[int]"], unfollowed := true, recurses := true, apart := false, narrowed := true }
def LatchAloneUptoSaid : Prop := latchAloneUptoRow.holds Try.pinned (OpenSpec.upto latchAloneSpec)

/-- 'orangerylaw14.LatchRow', WHERE WHAT IT READS IS OF BULK AT MOST 1048576: true; the input reads as it did. -/
def latchRowUptoRow : OpenClaim := { program := "ytbnphkiipjgfaaa", sum := "e5f4f4e81c950e401e752f1e59a35f213d4d43419649258208c405ab39fc17ef", func := "orangery/orangerylaw14.LatchRow", spec := "latchRow", inPlace := ["slices.overlaps[int]"], unfollowed := true, recurses := true, apart := false, narrowed := true }
def LatchRowUptoSaid : Prop := latchRowUptoRow.holds Try.pinned (OpenSpec.upto latchRowSpec)

/-- 'orangerylaw14.LatchTries', WHERE WHAT IT READS IS OF BULK AT MOST 1048576: true; the input reads as it did. -/
def latchTriesUptoRow : OpenClaim := { program := "ytbnphkiipjgfaaa", sum := "e5f4f4e81c950e401e752f1e59a35f213d4d43419649258208c405ab39fc17ef", func := "orangery/orangerylaw14.LatchTries", spec := "latchTries", inPlace := ["slices.overlaps[int]"], unfollowed := true, recurses := true, apart := false, narrowed := true }
def LatchTriesUptoSaid : Prop := latchTriesUptoRow.holds Try.pinned (OpenSpec.upto latchTriesSpec)

/-- 'orangerylaw14.LatchDowns', WHERE WHAT IT READS IS OF BULK AT MOST 1048576: true; the input reads as it did. -/
def latchDownsUptoRow : OpenClaim := { program := "ytbnphkiipjgfaaa", sum := "e5f4f4e81c950e401e752f1e59a35f213d4d43419649258208c405ab39fc17ef", func := "orangery/orangerylaw14.LatchDowns", spec := "latchDowns", inPlace := ["slices.overlaps[int]"], unfollowed := true, recurses := true, apart := false, narrowed := true }
def LatchDownsUptoSaid : Prop := latchDownsUptoRow.holds Try.pinned (OpenSpec.upto latchDownsSpec)

/-- 'orangerylaw14.LatchLeaves', WHERE WHAT IT READS IS OF BULK AT MOST 1048576: true; the input reads as it did. -/
def latchLeavesUptoRow : OpenClaim := { program := "ytbnphkiipjgfaaa", sum := "e5f4f4e81c950e401e752f1e59a35f213d4d43419649258208c405ab39fc17ef", func := "orangery/orangerylaw14.LatchLeaves", spec := "latchLeaves", inPlace := ["slices.overlaps[int]"], unfollowed := true, recurses := true, apart := false, narrowed := true }
def LatchLeavesUptoSaid : Prop := latchLeavesUptoRow.holds Try.pinned (OpenSpec.upto latchLeavesSpec)

/-- 'orangerylaw14.LatchQueue', WHERE WHAT IT READS IS OF BULK AT MOST 1048576: true; the input reads as it did. -/
def latchQueueUptoRow : OpenClaim := { program := "ytbnphkiipjgfaaa", sum := "e5f4f4e81c950e401e752f1e59a35f213d4d43419649258208c405ab39fc17ef", func := "orangery/orangerylaw14.LatchQueue", spec := "latchQueue", inPlace := ["slices.overlaps[int]"], unfollowed := true, recurses := true, apart := false, narrowed := true }
def LatchQueueUptoSaid : Prop := latchQueueUptoRow.holds Try.pinned (OpenSpec.upto latchQueueSpec)

end Rows
end Go.Proofs.Ytbnphkiipjgfaaa
