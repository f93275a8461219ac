/-
  No cell of these rows narrows 'for every input' (looked for: loops, veiled, ifaces, maps, wideKeys, modest, calm, conditions, laid).
  DERIVED. THE GIVEN ROWS OF THIS SEAT. 7 by the template 'for every input the law returns true; each argument reads behind the call as it read before'; 0 by the template 'total and deterministic' (their statements: YtnfoebcfhldemaaTotals.lean).
  GIVEN WITH THE SEED: the statements are not yours to turn. If you find one false, say at which input.
  Laid BY PROGRAM, IN A SANDBOX (cutbox-rows.mjs): the forced cells as the released guide's own fill.sh prints them over the translation ecaa7b3e0c77f11a… (all of the seat's roots in one cut). By AI agents, Wed Nov 11 2026. No macro, syntax, notation, axiom, sorry.
-/
import Derived.Test.YtnfoebcfhldemaaChecked
import GoSem.Claim
import GoSem.ClaimJoined
import GoSem.ClaimMapViews
import Derived.JoinedTies
import Derived.KernelRfl
namespace Go.Proofs.Ytnfoebcfhldemaa
/- THE CELL 'sum', in the pinned program and in every row, IS THE sha256 OF THE DUMP (.gsa) THAT YtnfoebcfhldemaaProg.lean LOADS. Nothing in Lean hashes anything: it is a label: what it is worth is what the hold of that sum in a sandbox is worth. -/
noncomputable def Try.pinned : Pinned := { name := "ytnfoebcfhldemaa", sum := "ecaa7b3e0c77f11a4a747c5a9a3fe9e4e6df2a4b0aaa2e40d86310eb597042e8", checked := Try.checked }
namespace Rows
def none {H : Type} : Left H := { results := [], args := [] }

/-- 'orangerylaw06.BufAll': WHATEVER THE INPUT: true; the input reads as it did. -/
def bufAllSpec : ChangeSpec := { name := "bufAll", fn := fun _ => fun
  | [d1, d2, d3, d4, d5] => { results := [.lit (.bool true)], args := [d1, d2, d3, d4, d5] }
  | _ => none }
def bufAllRow : OpenClaim := { program := "ytnfoebcfhldemaa", sum := "ecaa7b3e0c77f11a4a747c5a9a3fe9e4e6df2a4b0aaa2e40d86310eb597042e8", func := "orangery/orangerylaw06.BufAll", spec := "bufAll", inPlace := ["internal/bytealg.Compare", "slices.overlaps[orangery/api.Msg]"], unfollowed := true, recurses := true, apart := false }
def BufAllSaid : Prop := bufAllRow.holds Try.pinned (OpenSpec.ofChange bufAllSpec)

/-- ITS FALSE NEIGHBOUR: 'it returns false'. Refute it at one input. -/
def bufAllWrong : ChangeSpec := { name := "bufAll", fn := fun _ => fun
  | [d1, d2, d3, d4, d5] => { results := [.lit (.bool false)], args := [d1, d2, d3, d4, d5] }
  | _ => none }
def BufAllWrongFalsely : Prop := bufAllRow.holds Try.pinned (OpenSpec.ofChange bufAllWrong)

/-- 'orangerylaw06.BufParts': WHATEVER THE INPUT: true; the input reads as it did. -/
def bufPartsSpec : ChangeSpec := { name := "bufParts", fn := fun _ => fun
  | [d1, d2] => { results := [.lit (.bool true)], args := [d1, d2] }
  | _ => none }
def bufPartsRow : OpenClaim := { program := "ytnfoebcfhldemaa", sum := "ecaa7b3e0c77f11a4a747c5a9a3fe9e4e6df2a4b0aaa2e40d86310eb597042e8", func := "orangery/orangerylaw06.BufParts", spec := "bufParts", inPlace := ["internal/bytealg.Compare", "slices.overlaps[orangery/api.Msg]"], unfollowed := true, recurses := true, apart := false }
def BufPartsSaid : Prop := bufPartsRow.holds Try.pinned (OpenSpec.ofChange bufPartsSpec)

/-- ITS FALSE NEIGHBOUR: 'it returns false'. Refute it at one input. -/
def bufPartsWrong : ChangeSpec := { name := "bufParts", fn := fun _ => fun
  | [d1, d2] => { results := [.lit (.bool false)], args := [d1, d2] }
  | _ => none }
def BufPartsWrongFalsely : Prop := bufPartsRow.holds Try.pinned (OpenSpec.ofChange bufPartsWrong)

/-- 'orangerylaw08.FanAll': WHATEVER THE INPUT: true; the input reads as it did. -/
def fanAllSpec : ChangeSpec := { name := "fanAll", fn := fun _ => fun
  | [d1, d2, d3, d4, d5, d6] => { results := [.lit (.bool true)], args := [d1, d2, d3, d4, d5, d6] }
  | _ => none }
def fanAllRow : OpenClaim := { program := "ytnfoebcfhldemaa", sum := "ecaa7b3e0c77f11a4a747c5a9a3fe9e4e6df2a4b0aaa2e40d86310eb597042e8", func := "orangery/orangerylaw08.FanAll", spec := "fanAll", inPlace := ["internal/bytealg.Compare"], apart := false }
def FanAllSaid : Prop := fanAllRow.holds Try.pinned (OpenSpec.ofChange fanAllSpec)

/-- ITS FALSE NEIGHBOUR: 'it returns false'. Refute it at one input. -/
def fanAllWrong : ChangeSpec := { name := "fanAll", fn := fun _ => fun
  | [d1, d2, d3, d4, d5, d6] => { results := [.lit (.bool false)], args := [d1, d2, d3, d4, d5, d6] }
  | _ => none }
def FanAllWrongFalsely : Prop := fanAllRow.holds Try.pinned (OpenSpec.ofChange fanAllWrong)

/-- 'orangerylaw08.FanRaw': WHATEVER THE INPUT: true; the input reads as it did. -/
def fanRawSpec : ChangeSpec := { name := "fanRaw", fn := fun _ => fun
  | [d1, d2, d3] => { results := [.lit (.bool true)], args := [d1, d2, d3] }
  | _ => none }
def fanRawRow : OpenClaim := { program := "ytnfoebcfhldemaa", sum := "ecaa7b3e0c77f11a4a747c5a9a3fe9e4e6df2a4b0aaa2e40d86310eb597042e8", func := "orangery/orangerylaw08.FanRaw", spec := "fanRaw", inPlace := ["internal/bytealg.Compare"], apart := false }
def FanRawSaid : Prop := fanRawRow.holds Try.pinned (OpenSpec.ofChange fanRawSpec)

/-- ITS FALSE NEIGHBOUR: 'it returns false'. Refute it at one input. -/
def fanRawWrong : ChangeSpec := { name := "fanRaw", fn := fun _ => fun
  | [d1, d2, d3] => { results := [.lit (.bool false)], args := [d1, d2, d3] }
  | _ => none }
def FanRawWrongFalsely : Prop := fanRawRow.holds Try.pinned (OpenSpec.ofChange fanRawWrong)

/-- 'orangerylaw08.FanKids': WHATEVER THE INPUT: true; the input reads as it did. -/
def fanKidsSpec : ChangeSpec := { name := "fanKids", fn := fun _ => fun
  | [d1, d2] => { results := [.lit (.bool true)], args := [d1, d2] }
  | _ => none }
def fanKidsRow : OpenClaim := { program := "ytnfoebcfhldemaa", sum := "ecaa7b3e0c77f11a4a747c5a9a3fe9e4e6df2a4b0aaa2e40d86310eb597042e8", func := "orangery/orangerylaw08.FanKids", spec := "fanKids", inPlace := ["internal/bytealg.Compare"], apart := false }
def FanKidsSaid : Prop := fanKidsRow.holds Try.pinned (OpenSpec.ofChange fanKidsSpec)

/-- ITS FALSE NEIGHBOUR: 'it returns false'. Refute it at one input. -/
def fanKidsWrong : ChangeSpec := { name := "fanKids", fn := fun _ => fun
  | [d1, d2] => { results := [.lit (.bool false)], args := [d1, d2] }
  | _ => none }
def FanKidsWrongFalsely : Prop := fanKidsRow.holds Try.pinned (OpenSpec.ofChange fanKidsWrong)

/-- 'orangerylaw08.FanInserts': WHATEVER THE INPUT: true; the input reads as it did. -/
def fanInsertsSpec : ChangeSpec := { name := "fanInserts", fn := fun _ => fun
  | [d1, d2, d3, d4, d5] => { results := [.lit (.bool true)], args := [d1, d2, d3, d4, d5] }
  | _ => none }
def fanInsertsRow : OpenClaim := { program := "ytnfoebcfhldemaa", sum := "ecaa7b3e0c77f11a4a747c5a9a3fe9e4e6df2a4b0aaa2e40d86310eb597042e8", func := "orangery/orangerylaw08.FanInserts", spec := "fanInserts", inPlace := ["internal/bytealg.Compare"], apart := false }
def FanInsertsSaid : Prop := fanInsertsRow.holds Try.pinned (OpenSpec.ofChange fanInsertsSpec)

/-- ITS FALSE NEIGHBOUR: 'it returns false'. Refute it at one input. -/
def fanInsertsWrong : ChangeSpec := { name := "fanInserts", fn := fun _ => fun
  | [d1, d2, d3, d4, d5] => { results := [.lit (.bool false)], args := [d1, d2, d3, d4, d5] }
  | _ => none }
def FanInsertsWrongFalsely : Prop := fanInsertsRow.holds Try.pinned (OpenSpec.ofChange fanInsertsWrong)

/-- 'orangerylaw08.FanHalves': WHATEVER THE INPUT: true; the input reads as it did. -/
def fanHalvesSpec : ChangeSpec := { name := "fanHalves", fn := fun _ => fun
  | [d1, d2, d3] => { results := [.lit (.bool true)], args := [d1, d2, d3] }
  | _ => none }
def fanHalvesRow : OpenClaim := { program := "ytnfoebcfhldemaa", sum := "ecaa7b3e0c77f11a4a747c5a9a3fe9e4e6df2a4b0aaa2e40d86310eb597042e8", func := "orangery/orangerylaw08.FanHalves", spec := "fanHalves", inPlace := ["internal/bytealg.Compare"], apart := false }
def FanHalvesSaid : Prop := fanHalvesRow.holds Try.pinned (OpenSpec.ofChange fanHalvesSpec)

/-- ITS FALSE NEIGHBOUR: 'it returns false'. Refute it at one input. -/
def fanHalvesWrong : ChangeSpec := { name := "fanHalves", fn := fun _ => fun
  | [d1, d2, d3] => { results := [.lit (.bool false)], args := [d1, d2, d3] }
  | _ => none }
def FanHalvesWrongFalsely : Prop := fanHalvesRow.holds Try.pinned (OpenSpec.ofChange fanHalvesWrong)

/- THE SECOND FORM. 'bulk': how many values and letters a reading holds, each counted each time it is reached (what is shared counts as often as it is met; a slice's spare places count too). A statement '..UptoSaid' is the law's where the arguments, and the package variables that the reading takes, are together of bulk at most 1048576: NARROWER than '..Said'. Prove '..Said' where nothing that the law and all that it calls make is longer than what came in: it says more and counts as full. Else prove '..UptoSaid'. A law counts once. -/
mutual
def uptoBulk {H : Type} : DataW H → Nat
  | .lit (.string bytes) => bytes.length + 1
  | .lit _ => 1
  | .nil => 1
  | .ptr d => uptoBulk d + 1
  | .slice elems spare => uptoBulkAll elems + uptoBulkAll spare + 1
  | .agg parts => uptoBulkAll parts + 1
  | .iface _ d => uptoBulk d + 1
  | .map entries => uptoBulkEntries entries + 1
  | .held _ => 1
def uptoBulkAll {H : Type} : List (DataW H) → Nat
  | [] => 0
  | d :: r => uptoBulk d + uptoBulkAll r
def uptoBulkEntries {H : Type} : List (Lit × DataW H) → Nat
  | [] => 0
  | x :: r => uptoBulkEntry x + uptoBulkEntries r
def uptoBulkEntry {H : Type} : Lit × DataW H → Nat
  | (.string bytes, d) => bytes.length + uptoBulk d + 1
  | (_, d) => uptoBulk d + 1
 end
def uptoSmall : (H : Type) → List (DataW H) → Bool := fun _ ds => decide (uptoBulkAll ds ≤ 1048576)
def OpenSpec.upto (s : _root_.Go.ChangeSpec) : _root_.Go.OpenSpec := { _root_.Go.OpenSpec.ofChange s with cond := some uptoSmall }

/-- 'orangerylaw06.BufAll', WHERE WHAT IT READS IS OF BULK AT MOST 1048576: true; the input reads as it did. -/
def bufAllUptoRow : OpenClaim := { program := "ytnfoebcfhldemaa", sum := "ecaa7b3e0c77f11a4a747c5a9a3fe9e4e6df2a4b0aaa2e40d86310eb597042e8", func := "orangery/orangerylaw06.BufAll", spec := "bufAll", inPlace := ["internal/bytealg.Compare", "slices.overlaps[orangery/api.Msg]"], unfollowed := true, recurses := true, apart := false, narrowed := true }
def BufAllUptoSaid : Prop := bufAllUptoRow.holds Try.pinned (OpenSpec.upto bufAllSpec)

/-- 'orangerylaw06.BufParts', WHERE WHAT IT READS IS OF BULK AT MOST 1048576: true; the input reads as it did. -/
def bufPartsUptoRow : OpenClaim := { program := "ytnfoebcfhldemaa", sum := "ecaa7b3e0c77f11a4a747c5a9a3fe9e4e6df2a4b0aaa2e40d86310eb597042e8", func := "orangery/orangerylaw06.BufParts", spec := "bufParts", inPlace := ["internal/bytealg.Compare", "slices.overlaps[orangery/api.Msg]"], unfollowed := true, recurses := true, apart := false, narrowed := true }
def BufPartsUptoSaid : Prop := bufPartsUptoRow.holds Try.pinned (OpenSpec.upto bufPartsSpec)

/-- 'orangerylaw08.FanAll', WHERE WHAT IT READS IS OF BULK AT MOST 1048576: true; the input reads as it did. -/
def fanAllUptoRow : OpenClaim := { program := "ytnfoebcfhldemaa", sum := "ecaa7b3e0c77f11a4a747c5a9a3fe9e4e6df2a4b0aaa2e40d86310eb597042e8", func := "orangery/orangerylaw08.FanAll", spec := "fanAll", inPlace := ["internal/bytealg.Compare"], apart := false, narrowed := true }
def FanAllUptoSaid : Prop := fanAllUptoRow.holds Try.pinned (OpenSpec.upto fanAllSpec)

/-- 'orangerylaw08.FanRaw', WHERE WHAT IT READS IS OF BULK AT MOST 1048576: true; the input reads as it did. -/
def fanRawUptoRow : OpenClaim := { program := "ytnfoebcfhldemaa", sum := "ecaa7b3e0c77f11a4a747c5a9a3fe9e4e6df2a4b0aaa2e40d86310eb597042e8", func := "orangery/orangerylaw08.FanRaw", spec := "fanRaw", inPlace := ["internal/bytealg.Compare"], apart := false, narrowed := true }
def FanRawUptoSaid : Prop := fanRawUptoRow.holds Try.pinned (OpenSpec.upto fanRawSpec)

/-- 'orangerylaw08.FanKids', WHERE WHAT IT READS IS OF BULK AT MOST 1048576: true; the input reads as it did. -/
def fanKidsUptoRow : OpenClaim := { program := "ytnfoebcfhldemaa", sum := "ecaa7b3e0c77f11a4a747c5a9a3fe9e4e6df2a4b0aaa2e40d86310eb597042e8", func := "orangery/orangerylaw08.FanKids", spec := "fanKids", inPlace := ["internal/bytealg.Compare"], apart := false, narrowed := true }
def FanKidsUptoSaid : Prop := fanKidsUptoRow.holds Try.pinned (OpenSpec.upto fanKidsSpec)

/-- 'orangerylaw08.FanInserts', WHERE WHAT IT READS IS OF BULK AT MOST 1048576: true; the input reads as it did. -/
def fanInsertsUptoRow : OpenClaim := { program := "ytnfoebcfhldemaa", sum := "ecaa7b3e0c77f11a4a747c5a9a3fe9e4e6df2a4b0aaa2e40d86310eb597042e8", func := "orangery/orangerylaw08.FanInserts", spec := "fanInserts", inPlace := ["internal/bytealg.Compare"], apart := false, narrowed := true }
def FanInsertsUptoSaid : Prop := fanInsertsUptoRow.holds Try.pinned (OpenSpec.upto fanInsertsSpec)

/-- 'orangerylaw08.FanHalves', WHERE WHAT IT READS IS OF BULK AT MOST 1048576: true; the input reads as it did. -/
def fanHalvesUptoRow : OpenClaim := { program := "ytnfoebcfhldemaa", sum := "ecaa7b3e0c77f11a4a747c5a9a3fe9e4e6df2a4b0aaa2e40d86310eb597042e8", func := "orangery/orangerylaw08.FanHalves", spec := "fanHalves", inPlace := ["internal/bytealg.Compare"], apart := false, narrowed := true }
def FanHalvesUptoSaid : Prop := fanHalvesUptoRow.holds Try.pinned (OpenSpec.upto fanHalvesSpec)

end Rows
end Go.Proofs.Ytnfoebcfhldemaa
