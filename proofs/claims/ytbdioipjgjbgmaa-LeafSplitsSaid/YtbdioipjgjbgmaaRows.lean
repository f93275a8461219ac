/-
  No cell of these rows narrows 'for every input' (looked for: loops, veiled, ifaces, maps, wideKeys, modest, calm, conditions, laid).
  DERIVED. THE GIVEN ROWS OF THIS SEAT. 10 by the template 'for every input the law returns true; each argument reads behind the call as it read before'; 0 by the template 'total and deterministic' (their statements: YtbdioipjgjbgmaaTotals.lean).
  GIVEN WITH THE SEED: the statements are not yours to turn. If you find one false, say at which input.
  Laid BY PROGRAM, IN A SANDBOX (cutbox-rows.mjs): the forced cells as the released guide's own fill.sh prints them over the translation 1d74a30dbac8fa23… (all of the seat's roots in one cut). By AI agents, Wed Nov 11 2026. No macro, syntax, notation, axiom, sorry.
-/
import Derived.Test.YtbdioipjgjbgmaaChecked
import GoSem.Claim
import GoSem.ClaimJoined
import GoSem.ClaimMapViews
import Derived.JoinedTies
import Derived.KernelRfl
namespace Go.Proofs.Ytbdioipjgjbgmaa
/- THE CELL 'sum', in the pinned program and in every row, IS THE sha256 OF THE DUMP (.gsa) THAT YtbdioipjgjbgmaaProg.lean LOADS. Nothing in Lean hashes anything: it is a label: what it is worth is what the hold of that sum in a sandbox is worth. -/
noncomputable def Try.pinned : Pinned := { name := "ytbdioipjgjbgmaa", sum := "1d74a30dbac8fa23e43a36b6ae367688823fb276a01dee46692e68a26a2aa48e", checked := Try.checked }
namespace Rows
def none {H : Type} : Left H := { results := [], args := [] }

/-- 'orangerylaw06.BufAll': WHATEVER THE INPUT: true; the input reads as it did. -/
def bufAllSpec : ChangeSpec := { name := "bufAll", fn := fun _ => fun
  | [d1, d2, d3, d4, d5] => { results := [.lit (.bool true)], args := [d1, d2, d3, d4, d5] }
  | _ => none }
def bufAllRow : OpenClaim := { program := "ytbdioipjgjbgmaa", sum := "1d74a30dbac8fa23e43a36b6ae367688823fb276a01dee46692e68a26a2aa48e", func := "orangery/orangerylaw06.BufAll", spec := "bufAll", inPlace := ["internal/bytealg.Compare", "slices.overlaps[orangery/api.Msg]"], unfollowed := true, recurses := true, apart := false }
def BufAllSaid : Prop := bufAllRow.holds Try.pinned (OpenSpec.ofChange bufAllSpec)

/-- ITS FALSE NEIGHBOUR: 'it returns false'. Refute it at one input. -/
def bufAllWrong : ChangeSpec := { name := "bufAll", fn := fun _ => fun
  | [d1, d2, d3, d4, d5] => { results := [.lit (.bool false)], args := [d1, d2, d3, d4, d5] }
  | _ => none }
def BufAllWrongFalsely : Prop := bufAllRow.holds Try.pinned (OpenSpec.ofChange bufAllWrong)

/-- 'orangerylaw06.BufAdds': WHATEVER THE INPUT: true; the input reads as it did. -/
def bufAddsSpec : ChangeSpec := { name := "bufAdds", fn := fun _ => fun
  | [d1, d2, d3] => { results := [.lit (.bool true)], args := [d1, d2, d3] }
  | _ => none }
def bufAddsRow : OpenClaim := { program := "ytbdioipjgjbgmaa", sum := "1d74a30dbac8fa23e43a36b6ae367688823fb276a01dee46692e68a26a2aa48e", func := "orangery/orangerylaw06.BufAdds", spec := "bufAdds", inPlace := ["internal/bytealg.Compare", "slices.overlaps[orangery/api.Msg]"], unfollowed := true, recurses := true, apart := false }
def BufAddsSaid : Prop := bufAddsRow.holds Try.pinned (OpenSpec.ofChange bufAddsSpec)

/-- ITS FALSE NEIGHBOUR: 'it returns false'. Refute it at one input. -/
def bufAddsWrong : ChangeSpec := { name := "bufAdds", fn := fun _ => fun
  | [d1, d2, d3] => { results := [.lit (.bool false)], args := [d1, d2, d3] }
  | _ => none }
def BufAddsWrongFalsely : Prop := bufAddsRow.holds Try.pinned (OpenSpec.ofChange bufAddsWrong)

/-- 'orangerylaw06.BufParts': WHATEVER THE INPUT: true; the input reads as it did. -/
def bufPartsSpec : ChangeSpec := { name := "bufParts", fn := fun _ => fun
  | [d1, d2] => { results := [.lit (.bool true)], args := [d1, d2] }
  | _ => none }
def bufPartsRow : OpenClaim := { program := "ytbdioipjgjbgmaa", sum := "1d74a30dbac8fa23e43a36b6ae367688823fb276a01dee46692e68a26a2aa48e", func := "orangery/orangerylaw06.BufParts", spec := "bufParts", inPlace := ["internal/bytealg.Compare", "slices.overlaps[orangery/api.Msg]"], unfollowed := true, recurses := true, apart := false }
def BufPartsSaid : Prop := bufPartsRow.holds Try.pinned (OpenSpec.ofChange bufPartsSpec)

/-- ITS FALSE NEIGHBOUR: 'it returns false'. Refute it at one input. -/
def bufPartsWrong : ChangeSpec := { name := "bufParts", fn := fun _ => fun
  | [d1, d2] => { results := [.lit (.bool false)], args := [d1, d2] }
  | _ => none }
def BufPartsWrongFalsely : Prop := bufPartsRow.holds Try.pinned (OpenSpec.ofChange bufPartsWrong)

/-- 'orangerylaw06.BufFolds': WHATEVER THE INPUT: true; the input reads as it did. -/
def bufFoldsSpec : ChangeSpec := { name := "bufFolds", fn := fun _ => fun
  | [d1, d2, d3] => { results := [.lit (.bool true)], args := [d1, d2, d3] }
  | _ => none }
def bufFoldsRow : OpenClaim := { program := "ytbdioipjgjbgmaa", sum := "1d74a30dbac8fa23e43a36b6ae367688823fb276a01dee46692e68a26a2aa48e", func := "orangery/orangerylaw06.BufFolds", spec := "bufFolds", inPlace := ["internal/bytealg.Compare", "slices.overlaps[orangery/api.Msg]"], unfollowed := true, recurses := true, apart := false }
def BufFoldsSaid : Prop := bufFoldsRow.holds Try.pinned (OpenSpec.ofChange bufFoldsSpec)

/-- ITS FALSE NEIGHBOUR: 'it returns false'. Refute it at one input. -/
def bufFoldsWrong : ChangeSpec := { name := "bufFolds", fn := fun _ => fun
  | [d1, d2, d3] => { results := [.lit (.bool false)], args := [d1, d2, d3] }
  | _ => none }
def BufFoldsWrongFalsely : Prop := bufFoldsRow.holds Try.pinned (OpenSpec.ofChange bufFoldsWrong)

/-- 'orangerylaw07.LeafAll': WHATEVER THE INPUT: true; the input reads as it did. -/
def leafAllSpec : ChangeSpec := { name := "leafAll", fn := fun _ => fun
  | [d1, d2, d3] => { results := [.lit (.bool true)], args := [d1, d2, d3] }
  | _ => none }
def leafAllRow : OpenClaim := { program := "ytbdioipjgjbgmaa", sum := "1d74a30dbac8fa23e43a36b6ae367688823fb276a01dee46692e68a26a2aa48e", func := "orangery/orangerylaw07.LeafAll", spec := "leafAll", inPlace := ["internal/bytealg.Compare", "slices.overlaps[orangery/api.Entry]"], apart := false }
def LeafAllSaid : Prop := leafAllRow.holds Try.pinned (OpenSpec.ofChange leafAllSpec)

/-- ITS FALSE NEIGHBOUR: 'it returns false'. Refute it at one input. -/
def leafAllWrong : ChangeSpec := { name := "leafAll", fn := fun _ => fun
  | [d1, d2, d3] => { results := [.lit (.bool false)], args := [d1, d2, d3] }
  | _ => none }
def LeafAllWrongFalsely : Prop := leafAllRow.holds Try.pinned (OpenSpec.ofChange leafAllWrong)

/-- 'orangerylaw07.LeafRaw': WHATEVER THE INPUT: true; the input reads as it did. -/
def leafRawSpec : ChangeSpec := { name := "leafRaw", fn := fun _ => fun
  | [d] => { results := [.lit (.bool true)], args := [d] }
  | _ => none }
def leafRawRow : OpenClaim := { program := "ytbdioipjgjbgmaa", sum := "1d74a30dbac8fa23e43a36b6ae367688823fb276a01dee46692e68a26a2aa48e", func := "orangery/orangerylaw07.LeafRaw", spec := "leafRaw", inPlace := ["internal/bytealg.Compare", "slices.overlaps[orangery/api.Entry]"], apart := false }
def LeafRawSaid : Prop := leafRawRow.holds Try.pinned (OpenSpec.ofChange leafRawSpec)

/-- ITS FALSE NEIGHBOUR: 'it returns false'. Refute it at one input. -/
def leafRawWrong : ChangeSpec := { name := "leafRaw", fn := fun _ => fun
  | [d] => { results := [.lit (.bool false)], args := [d] }
  | _ => none }
def LeafRawWrongFalsely : Prop := leafRawRow.holds Try.pinned (OpenSpec.ofChange leafRawWrong)

/-- 'orangerylaw07.LeafPuts': WHATEVER THE INPUT: true; the input reads as it did. -/
def leafPutsSpec : ChangeSpec := { name := "leafPuts", fn := fun _ => fun
  | [d1, d2, d3] => { results := [.lit (.bool true)], args := [d1, d2, d3] }
  | _ => none }
def leafPutsRow : OpenClaim := { program := "ytbdioipjgjbgmaa", sum := "1d74a30dbac8fa23e43a36b6ae367688823fb276a01dee46692e68a26a2aa48e", func := "orangery/orangerylaw07.LeafPuts", spec := "leafPuts", inPlace := ["internal/bytealg.Compare", "slices.overlaps[orangery/api.Entry]"], apart := false }
def LeafPutsSaid : Prop := leafPutsRow.holds Try.pinned (OpenSpec.ofChange leafPutsSpec)

/-- ITS FALSE NEIGHBOUR: 'it returns false'. Refute it at one input. -/
def leafPutsWrong : ChangeSpec := { name := "leafPuts", fn := fun _ => fun
  | [d1, d2, d3] => { results := [.lit (.bool false)], args := [d1, d2, d3] }
  | _ => none }
def LeafPutsWrongFalsely : Prop := leafPutsRow.holds Try.pinned (OpenSpec.ofChange leafPutsWrong)

/-- 'orangerylaw07.LeafRuns': WHATEVER THE INPUT: true; the input reads as it did. -/
def leafRunsSpec : ChangeSpec := { name := "leafRuns", fn := fun _ => fun
  | [d1, d2, d3] => { results := [.lit (.bool true)], args := [d1, d2, d3] }
  | _ => none }
def leafRunsRow : OpenClaim := { program := "ytbdioipjgjbgmaa", sum := "1d74a30dbac8fa23e43a36b6ae367688823fb276a01dee46692e68a26a2aa48e", func := "orangery/orangerylaw07.LeafRuns", spec := "leafRuns", inPlace := ["internal/bytealg.Compare", "slices.overlaps[orangery/api.Entry]"], apart := false }
def LeafRunsSaid : Prop := leafRunsRow.holds Try.pinned (OpenSpec.ofChange leafRunsSpec)

/-- ITS FALSE NEIGHBOUR: 'it returns false'. Refute it at one input. -/
def leafRunsWrong : ChangeSpec := { name := "leafRuns", fn := fun _ => fun
  | [d1, d2, d3] => { results := [.lit (.bool false)], args := [d1, d2, d3] }
  | _ => none }
def LeafRunsWrongFalsely : Prop := leafRunsRow.holds Try.pinned (OpenSpec.ofChange leafRunsWrong)

/-- 'orangerylaw07.LeafSplits': WHATEVER THE INPUT: true; the input reads as it did. -/
def leafSplitsSpec : ChangeSpec := { name := "leafSplits", fn := fun _ => fun
  | [d1, d2] => { results := [.lit (.bool true)], args := [d1, d2] }
  | _ => none }
def leafSplitsRow : OpenClaim := { program := "ytbdioipjgjbgmaa", sum := "1d74a30dbac8fa23e43a36b6ae367688823fb276a01dee46692e68a26a2aa48e", func := "orangery/orangerylaw07.LeafSplits", spec := "leafSplits", inPlace := ["internal/bytealg.Compare", "slices.overlaps[orangery/api.Entry]"], apart := false }
def LeafSplitsSaid : Prop := leafSplitsRow.holds Try.pinned (OpenSpec.ofChange leafSplitsSpec)

/-- ITS FALSE NEIGHBOUR: 'it returns false'. Refute it at one input. -/
def leafSplitsWrong : ChangeSpec := { name := "leafSplits", fn := fun _ => fun
  | [d1, d2] => { results := [.lit (.bool false)], args := [d1, d2] }
  | _ => none }
def LeafSplitsWrongFalsely : Prop := leafSplitsRow.holds Try.pinned (OpenSpec.ofChange leafSplitsWrong)

/-- 'orangerylaw07.LeafGone': WHATEVER THE INPUT: true; the input reads as it did. -/
def leafGoneSpec : ChangeSpec := { name := "leafGone", fn := fun _ => fun
  | [d] => { results := [.lit (.bool true)], args := [d] }
  | _ => none }
def leafGoneRow : OpenClaim := { program := "ytbdioipjgjbgmaa", sum := "1d74a30dbac8fa23e43a36b6ae367688823fb276a01dee46692e68a26a2aa48e", func := "orangery/orangerylaw07.LeafGone", spec := "leafGone", inPlace := ["internal/bytealg.Compare", "slices.overlaps[orangery/api.Entry]"], apart := false }
def LeafGoneSaid : Prop := leafGoneRow.holds Try.pinned (OpenSpec.ofChange leafGoneSpec)

/-- ITS FALSE NEIGHBOUR: 'it returns false'. Refute it at one input. -/
def leafGoneWrong : ChangeSpec := { name := "leafGone", fn := fun _ => fun
  | [d] => { results := [.lit (.bool false)], args := [d] }
  | _ => none }
def LeafGoneWrongFalsely : Prop := leafGoneRow.holds Try.pinned (OpenSpec.ofChange leafGoneWrong)

/- THE SECOND FORM. 'bulk': how many values and letters a reading holds, each counted each time it is reached (what is shared counts as often as it is met; a slice's spare places count too). A statement '..UptoSaid' is the law's where the arguments, and the package variables that the reading takes, are together of bulk at most 1048576: NARROWER than '..Said'. Prove '..Said' where nothing that the law and all that it calls make is longer than what came in: it says more and counts as full. Else prove '..UptoSaid'. A law counts once. -/
mutual
def uptoBulk {H : Type} : DataW H → Nat
  | .lit (.string bytes) => bytes.length + 1
  | .lit _ => 1
  | .nil => 1
  | .ptr d => uptoBulk d + 1
  | .slice elems spare => uptoBulkAll elems + uptoBulkAll spare + 1
  | .agg parts => uptoBulkAll parts + 1
  | .iface _ d => uptoBulk d + 1
  | .map entries => uptoBulkEntries entries + 1
  | .held _ => 1
def uptoBulkAll {H : Type} : List (DataW H) → Nat
  | [] => 0
  | d :: r => uptoBulk d + uptoBulkAll r
def uptoBulkEntries {H : Type} : List (Lit × DataW H) → Nat
  | [] => 0
  | x :: r => uptoBulkEntry x + uptoBulkEntries r
def uptoBulkEntry {H : Type} : Lit × DataW H → Nat
  | (.string bytes, d) => bytes.length + uptoBulk d + 1
  | (_, d) => uptoBulk d + 1
 end
def uptoSmall : (H : Type) → List (DataW H) → Bool := fun _ ds => decide (uptoBulkAll ds ≤ 1048576)
def OpenSpec.upto (s : _root_.Go.ChangeSpec) : _root_.Go.OpenSpec := { _root_.Go.OpenSpec.ofChange s with cond := some uptoSmall }

/-- 'orangerylaw06.BufAll', WHERE WHAT IT READS IS OF BULK AT MOST 1048576: true; the input reads as it did. -/
def bufAllUptoRow : OpenClaim := { program := "ytbdioipjgjbgmaa", sum := "1d74a30dbac8fa23e43a36b6ae367688823fb276a01dee46692e68a26a2aa48e", func := "orangery/orangerylaw06.BufAll", spec := "bufAll", inPlace := ["internal/bytealg.Compare", "slices.overlaps[orangery/api.Msg]"], unfollowed := true, recurses := true, apart := false, narrowed := true }
def BufAllUptoSaid : Prop := bufAllUptoRow.holds Try.pinned (OpenSpec.upto bufAllSpec)

/-- 'orangerylaw06.BufAdds', WHERE WHAT IT READS IS OF BULK AT MOST 1048576: true; the input reads as it did. -/
def bufAddsUptoRow : OpenClaim := { program := "ytbdioipjgjbgmaa", sum := "1d74a30dbac8fa23e43a36b6ae367688823fb276a01dee46692e68a26a2aa48e", func := "orangery/orangerylaw06.BufAdds", spec := "bufAdds", inPlace := ["internal/bytealg.Compare", "slices.overlaps[orangery/api.Msg]"], unfollowed := true, recurses := true, apart := false, narrowed := true }
def BufAddsUptoSaid : Prop := bufAddsUptoRow.holds Try.pinned (OpenSpec.upto bufAddsSpec)

/-- 'orangerylaw06.BufParts', WHERE WHAT IT READS IS OF BULK AT MOST 1048576: true; the input reads as it did. -/
def bufPartsUptoRow : OpenClaim := { program := "ytbdioipjgjbgmaa", sum := "1d74a30dbac8fa23e43a36b6ae367688823fb276a01dee46692e68a26a2aa48e", func := "orangery/orangerylaw06.BufParts", spec := "bufParts", inPlace := ["internal/bytealg.Compare", "slices.overlaps[orangery/api.Msg]"], unfollowed := true, recurses := true, apart := false, narrowed := true }
def BufPartsUptoSaid : Prop := bufPartsUptoRow.holds Try.pinned (OpenSpec.upto bufPartsSpec)

/-- 'orangerylaw06.BufFolds', WHERE WHAT IT READS IS OF BULK AT MOST 1048576: true; the input reads as it did. -/
def bufFoldsUptoRow : OpenClaim := { program := "ytbdioipjgjbgmaa", sum := "1d74a30dbac8fa23e43a36b6ae367688823fb276a01dee46692e68a26a2aa48e", func := "orangery/orangerylaw06.BufFolds", spec := "bufFolds", inPlace := ["internal/bytealg.Compare", "slices.overlaps[orangery/api.Msg]"], unfollowed := true, recurses := true, apart := false, narrowed := true }
def BufFoldsUptoSaid : Prop := bufFoldsUptoRow.holds Try.pinned (OpenSpec.upto bufFoldsSpec)

/-- 'orangerylaw07.LeafAll', WHERE WHAT IT READS IS OF BULK AT MOST 1048576: true; the input reads as it did. -/
def leafAllUptoRow : OpenClaim := { program := "ytbdioipjgjbgmaa", sum := "1d74a30dbac8fa23e43a36b6ae367688823fb276a01dee46692e68a26a2aa48e", func := "orangery/orangerylaw07.LeafAll", spec := "leafAll", inPlace := ["internal/bytealg.Compare", "slices.overlaps[orangery/api.Entry]"], apart := false, narrowed := true }
def LeafAllUptoSaid : Prop := leafAllUptoRow.holds Try.pinned (OpenSpec.upto leafAllSpec)

/-- 'orangerylaw07.LeafRaw', WHERE WHAT IT READS IS OF BULK AT MOST 1048576: true; the input reads as it did. -/
def leafRawUptoRow : OpenClaim := { program := "ytbdioipjgjbgmaa", sum := "1d74a30dbac8fa23e43a36b6ae367688823fb276a01dee46692e68a26a2aa48e", func := "orangery/orangerylaw07.LeafRaw", spec := "leafRaw", inPlace := ["internal/bytealg.Compare", "slices.overlaps[orangery/api.Entry]"], apart := false, narrowed := true }
def LeafRawUptoSaid : Prop := leafRawUptoRow.holds Try.pinned (OpenSpec.upto leafRawSpec)

/-- 'orangerylaw07.LeafPuts', WHERE WHAT IT READS IS OF BULK AT MOST 1048576: true; the input reads as it did. -/
def leafPutsUptoRow : OpenClaim := { program := "ytbdioipjgjbgmaa", sum := "1d74a30dbac8fa23e43a36b6ae367688823fb276a01dee46692e68a26a2aa48e", func := "orangery/orangerylaw07.LeafPuts", spec := "leafPuts", inPlace := ["internal/bytealg.Compare", "slices.overlaps[orangery/api.Entry]"], apart := false, narrowed := true }
def LeafPutsUptoSaid : Prop := leafPutsUptoRow.holds Try.pinned (OpenSpec.upto leafPutsSpec)

/-- 'orangerylaw07.LeafRuns', WHERE WHAT IT READS IS OF BULK AT MOST 1048576: true; the input reads as it did. -/
def leafRunsUptoRow : OpenClaim := { program := "ytbdioipjgjbgmaa", sum := "1d74a30dbac8fa23e43a36b6ae367688823fb276a01dee46692e68a26a2aa48e", func := "orangery/orangerylaw07.LeafRuns", spec := "leafRuns", inPlace := ["internal/bytealg.Compare", "slices.overlaps[orangery/api.Entry]"], apart := false, narrowed := true }
def LeafRunsUptoSaid : Prop := leafRunsUptoRow.holds Try.pinned (OpenSpec.upto leafRunsSpec)

/-- 'orangerylaw07.LeafSplits', WHERE WHAT IT READS IS OF BULK AT MOST 1048576: true; the input reads as it did. -/
def leafSplitsUptoRow : OpenClaim := { program := "ytbdioipjgjbgmaa", sum := "1d74a30dbac8fa23e43a36b6ae367688823fb276a01dee46692e68a26a2aa48e", func := "orangery/orangerylaw07.LeafSplits", spec := "leafSplits", inPlace := ["internal/bytealg.Compare", "slices.overlaps[orangery/api.Entry]"], apart := false, narrowed := true }
def LeafSplitsUptoSaid : Prop := leafSplitsUptoRow.holds Try.pinned (OpenSpec.upto leafSplitsSpec)

/-- 'orangerylaw07.LeafGone', WHERE WHAT IT READS IS OF BULK AT MOST 1048576: true; the input reads as it did. -/
def leafGoneUptoRow : OpenClaim := { program := "ytbdioipjgjbgmaa", sum := "1d74a30dbac8fa23e43a36b6ae367688823fb276a01dee46692e68a26a2aa48e", func := "orangery/orangerylaw07.LeafGone", spec := "leafGone", inPlace := ["internal/bytealg.Compare", "slices.overlaps[orangery/api.Entry]"], apart := false, narrowed := true }
def LeafGoneUptoSaid : Prop := leafGoneUptoRow.holds Try.pinned (OpenSpec.upto leafGoneSpec)

end Rows
end Go.Proofs.Ytbdioipjgjbgmaa
