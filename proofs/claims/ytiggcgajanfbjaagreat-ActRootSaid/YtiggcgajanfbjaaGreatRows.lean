/-
  No cell of these rows narrows 'for every input' (looked for: loops, veiled, ifaces, maps, wideKeys, modest, calm, conditions, laid).
  DERIVED. THE GIVEN ROWS OF THIS SEAT. 6 by the template 'for every input the law returns true; each argument reads behind the call as it read before'; 0 by the template 'total and deterministic' (their statements: YtiggcgajanfbjaaGreatTotals.lean).
  GIVEN WITH THE SEED: the statements are not yours to turn. If you find one false, say at which input.
  Laid BY PROGRAM, IN A SANDBOX (cutbox-rows.mjs): the forced cells as the released guide's own fill.sh prints them over the translation 04d0a381db997164… (all of the seat's roots in one cut). By AI agents, Wed Nov 11 2026. No macro, syntax, notation, axiom, sorry.
-/
import Derived.Test.YtiggcgajanfbjaaGreatChecked
import GoSem.Claim
import GoSem.ClaimJoined
import GoSem.ClaimMapViews
import Derived.JoinedTies
import Derived.KernelRfl
namespace Go.Proofs.YtiggcgajanfbjaaGreat
/- THE CELL 'sum', in the pinned program and in every row, IS THE sha256 OF THE DUMP (.gsa) THAT YtiggcgajanfbjaaGreatProg.lean LOADS. Nothing in Lean hashes anything: it is a label: what it is worth is what the hold of that sum in a sandbox is worth. -/
noncomputable def Tryz.pinned : Pinned := { name := "ytiggcgajanfbjaagreat", sum := "04d0a381db997164d1742d099b273a584312b8bedc132918ea3d9360886b68d9", checked := Tryz.checked }
namespace Rows
def none {H : Type} : Left H := { results := [], args := [] }

/-- 'orangerylaw10.ActInsert': WHATEVER THE INPUT: true; the input reads as it did. -/
def actInsertSpec : ChangeSpec := { name := "actInsert", fn := fun _ => fun
  | [d1, d2, d3, d4, d5] => { results := [.lit (.bool true)], args := [d1, d2, d3, d4, d5] }
  | _ => none }
def actInsertRow : OpenClaim := { program := "ytiggcgajanfbjaagreat", sum := "04d0a381db997164d1742d099b273a584312b8bedc132918ea3d9360886b68d9", func := "orangery/orangerylaw10.ActInsert", spec := "actInsert", inPlace := ["internal/bytealg.Compare", "slices.overlaps[orangery/api.Entry]", "slices.overlaps[orangery/api.Msg]"], unfollowed := true, recurses := true, apart := false }
def ActInsertSaid : Prop := actInsertRow.holds Tryz.pinned (OpenSpec.ofChange actInsertSpec)

/-- ITS FALSE NEIGHBOUR: 'it returns false'. Refute it at one input. -/
def actInsertWrong : ChangeSpec := { name := "actInsert", fn := fun _ => fun
  | [d1, d2, d3, d4, d5] => { results := [.lit (.bool false)], args := [d1, d2, d3, d4, d5] }
  | _ => none }
def ActInsertWrongFalsely : Prop := actInsertRow.holds Tryz.pinned (OpenSpec.ofChange actInsertWrong)

/-- 'orangerylaw10.ActPush': WHATEVER THE INPUT: true; the input reads as it did. -/
def actPushSpec : ChangeSpec := { name := "actPush", fn := fun _ => fun
  | [d1, d2, d3, d4, d5, d6, d7] => { results := [.lit (.bool true)], args := [d1, d2, d3, d4, d5, d6, d7] }
  | _ => none }
def actPushRow : OpenClaim := { program := "ytiggcgajanfbjaagreat", sum := "04d0a381db997164d1742d099b273a584312b8bedc132918ea3d9360886b68d9", func := "orangery/orangerylaw10.ActPush", spec := "actPush", inPlace := ["internal/bytealg.Compare", "slices.overlaps[orangery/api.Entry]", "slices.overlaps[orangery/api.Msg]"], unfollowed := true, recurses := true, apart := false }
def ActPushSaid : Prop := actPushRow.holds Tryz.pinned (OpenSpec.ofChange actPushSpec)

/-- ITS FALSE NEIGHBOUR: 'it returns false'. Refute it at one input. -/
def actPushWrong : ChangeSpec := { name := "actPush", fn := fun _ => fun
  | [d1, d2, d3, d4, d5, d6, d7] => { results := [.lit (.bool false)], args := [d1, d2, d3, d4, d5, d6, d7] }
  | _ => none }
def ActPushWrongFalsely : Prop := actPushRow.holds Tryz.pinned (OpenSpec.ofChange actPushWrong)

/-- 'orangerylaw10.ActSplits': WHATEVER THE INPUT: true; the input reads as it did. -/
def actSplitsSpec : ChangeSpec := { name := "actSplits", fn := fun _ => fun
  | [d1, d2, d3, d4, d5, d6, d7, d8] => { results := [.lit (.bool true)], args := [d1, d2, d3, d4, d5, d6, d7, d8] }
  | _ => none }
def actSplitsRow : OpenClaim := { program := "ytiggcgajanfbjaagreat", sum := "04d0a381db997164d1742d099b273a584312b8bedc132918ea3d9360886b68d9", func := "orangery/orangerylaw10.ActSplits", spec := "actSplits", inPlace := ["internal/bytealg.Compare", "slices.overlaps[orangery/api.Entry]", "slices.overlaps[orangery/api.Msg]"], unfollowed := true, recurses := true, apart := false }
def ActSplitsSaid : Prop := actSplitsRow.holds Tryz.pinned (OpenSpec.ofChange actSplitsSpec)

/-- ITS FALSE NEIGHBOUR: 'it returns false'. Refute it at one input. -/
def actSplitsWrong : ChangeSpec := { name := "actSplits", fn := fun _ => fun
  | [d1, d2, d3, d4, d5, d6, d7, d8] => { results := [.lit (.bool false)], args := [d1, d2, d3, d4, d5, d6, d7, d8] }
  | _ => none }
def ActSplitsWrongFalsely : Prop := actSplitsRow.holds Tryz.pinned (OpenSpec.ofChange actSplitsWrong)

/-- 'orangerylaw10.ActKeeps': WHATEVER THE INPUT: true; the input reads as it did. -/
def actKeepsSpec : ChangeSpec := { name := "actKeeps", fn := fun _ => fun
  | [d1, d2, d3, d4, d5] => { results := [.lit (.bool true)], args := [d1, d2, d3, d4, d5] }
  | _ => none }
def actKeepsRow : OpenClaim := { program := "ytiggcgajanfbjaagreat", sum := "04d0a381db997164d1742d099b273a584312b8bedc132918ea3d9360886b68d9", func := "orangery/orangerylaw10.ActKeeps", spec := "actKeeps", inPlace := ["internal/bytealg.Compare", "slices.overlaps[orangery/api.Entry]", "slices.overlaps[orangery/api.Msg]"], unfollowed := true, recurses := true, apart := false }
def ActKeepsSaid : Prop := actKeepsRow.holds Tryz.pinned (OpenSpec.ofChange actKeepsSpec)

/-- ITS FALSE NEIGHBOUR: 'it returns false'. Refute it at one input. -/
def actKeepsWrong : ChangeSpec := { name := "actKeeps", fn := fun _ => fun
  | [d1, d2, d3, d4, d5] => { results := [.lit (.bool false)], args := [d1, d2, d3, d4, d5] }
  | _ => none }
def ActKeepsWrongFalsely : Prop := actKeepsRow.holds Tryz.pinned (OpenSpec.ofChange actKeepsWrong)

/-- 'orangerylaw10.ActInner': WHATEVER THE INPUT: true; the input reads as it did. -/
def actInnerSpec : ChangeSpec := { name := "actInner", fn := fun _ => fun
  | [d1, d2, d3, d4, d5, d6, d7] => { results := [.lit (.bool true)], args := [d1, d2, d3, d4, d5, d6, d7] }
  | _ => none }
def actInnerRow : OpenClaim := { program := "ytiggcgajanfbjaagreat", sum := "04d0a381db997164d1742d099b273a584312b8bedc132918ea3d9360886b68d9", func := "orangery/orangerylaw10.ActInner", spec := "actInner", inPlace := ["internal/bytealg.Compare", "slices.overlaps[orangery/api.Entry]", "slices.overlaps[orangery/api.Msg]"], unfollowed := true, recurses := true, apart := false }
def ActInnerSaid : Prop := actInnerRow.holds Tryz.pinned (OpenSpec.ofChange actInnerSpec)

/-- ITS FALSE NEIGHBOUR: 'it returns false'. Refute it at one input. -/
def actInnerWrong : ChangeSpec := { name := "actInner", fn := fun _ => fun
  | [d1, d2, d3, d4, d5, d6, d7] => { results := [.lit (.bool false)], args := [d1, d2, d3, d4, d5, d6, d7] }
  | _ => none }
def ActInnerWrongFalsely : Prop := actInnerRow.holds Tryz.pinned (OpenSpec.ofChange actInnerWrong)

/-- 'orangerylaw10.ActRoot': WHATEVER THE INPUT: true; the input reads as it did. -/
def actRootSpec : ChangeSpec := { name := "actRoot", fn := fun _ => fun
  | [d1, d2, d3, d4, d5, d6] => { results := [.lit (.bool true)], args := [d1, d2, d3, d4, d5, d6] }
  | _ => none }
def actRootRow : OpenClaim := { program := "ytiggcgajanfbjaagreat", sum := "04d0a381db997164d1742d099b273a584312b8bedc132918ea3d9360886b68d9", func := "orangery/orangerylaw10.ActRoot", spec := "actRoot", inPlace := ["internal/bytealg.Compare", "slices.overlaps[orangery/api.Entry]", "slices.overlaps[orangery/api.Msg]"], unfollowed := true, recurses := true, apart := false }
def ActRootSaid : Prop := actRootRow.holds Tryz.pinned (OpenSpec.ofChange actRootSpec)

/-- ITS FALSE NEIGHBOUR: 'it returns false'. Refute it at one input. -/
def actRootWrong : ChangeSpec := { name := "actRoot", fn := fun _ => fun
  | [d1, d2, d3, d4, d5, d6] => { results := [.lit (.bool false)], args := [d1, d2, d3, d4, d5, d6] }
  | _ => none }
def ActRootWrongFalsely : Prop := actRootRow.holds Tryz.pinned (OpenSpec.ofChange actRootWrong)

/- THE SECOND FORM. 'bulk': how many values and letters a reading holds, each counted each time it is reached (what is shared counts as often as it is met; a slice's spare places count too). A statement '..UptoSaid' is the law's where the arguments, and the package variables that the reading takes, are together of bulk at most 1048576: NARROWER than '..Said'. Prove '..Said' where nothing that the law and all that it calls make is longer than what came in: it says more and counts as full. Else prove '..UptoSaid'. A law counts once. -/
mutual
def uptoBulk {H : Type} : DataW H → Nat
  | .lit (.string bytes) => bytes.length + 1
  | .lit _ => 1
  | .nil => 1
  | .ptr d => uptoBulk d + 1
  | .slice elems spare => uptoBulkAll elems + uptoBulkAll spare + 1
  | .agg parts => uptoBulkAll parts + 1
  | .iface _ d => uptoBulk d + 1
  | .map entries => uptoBulkEntries entries + 1
  | .held _ => 1
def uptoBulkAll {H : Type} : List (DataW H) → Nat
  | [] => 0
  | d :: r => uptoBulk d + uptoBulkAll r
def uptoBulkEntries {H : Type} : List (Lit × DataW H) → Nat
  | [] => 0
  | x :: r => uptoBulkEntry x + uptoBulkEntries r
def uptoBulkEntry {H : Type} : Lit × DataW H → Nat
  | (.string bytes, d) => bytes.length + uptoBulk d + 1
  | (_, d) => uptoBulk d + 1
 end
def uptoSmall : (H : Type) → List (DataW H) → Bool := fun _ ds => decide (uptoBulkAll ds ≤ 1048576)
def OpenSpec.upto (s : _root_.Go.ChangeSpec) : _root_.Go.OpenSpec := { _root_.Go.OpenSpec.ofChange s with cond := some uptoSmall }

/-- 'orangerylaw10.ActInsert', WHERE WHAT IT READS IS OF BULK AT MOST 1048576: true; the input reads as it did. -/
def actInsertUptoRow : OpenClaim := { program := "ytiggcgajanfbjaagreat", sum := "04d0a381db997164d1742d099b273a584312b8bedc132918ea3d9360886b68d9", func := "orangery/orangerylaw10.ActInsert", spec := "actInsert", inPlace := ["internal/bytealg.Compare", "slices.overlaps[orangery/api.Entry]", "slices.overlaps[orangery/api.Msg]"], unfollowed := true, recurses := true, apart := false, narrowed := true }
def ActInsertUptoSaid : Prop := actInsertUptoRow.holds Tryz.pinned (OpenSpec.upto actInsertSpec)

/-- 'orangerylaw10.ActPush', WHERE WHAT IT READS IS OF BULK AT MOST 1048576: true; the input reads as it did. -/
def actPushUptoRow : OpenClaim := { program := "ytiggcgajanfbjaagreat", sum := "04d0a381db997164d1742d099b273a584312b8bedc132918ea3d9360886b68d9", func := "orangery/orangerylaw10.ActPush", spec := "actPush", inPlace := ["internal/bytealg.Compare", "slices.overlaps[orangery/api.Entry]", "slices.overlaps[orangery/api.Msg]"], unfollowed := true, recurses := true, apart := false, narrowed := true }
def ActPushUptoSaid : Prop := actPushUptoRow.holds Tryz.pinned (OpenSpec.upto actPushSpec)

/-- 'orangerylaw10.ActSplits', WHERE WHAT IT READS IS OF BULK AT MOST 1048576: true; the input reads as it did. -/
def actSplitsUptoRow : OpenClaim := { program := "ytiggcgajanfbjaagreat", sum := "04d0a381db997164d1742d099b273a584312b8bedc132918ea3d9360886b68d9", func := "orangery/orangerylaw10.ActSplits", spec := "actSplits", inPlace := ["internal/bytealg.Compare", "slices.overlaps[orangery/api.Entry]", "slices.overlaps[orangery/api.Msg]"], unfollowed := true, recurses := true, apart := false, narrowed := true }
def ActSplitsUptoSaid : Prop := actSplitsUptoRow.holds Tryz.pinned (OpenSpec.upto actSplitsSpec)

/-- 'orangerylaw10.ActKeeps', WHERE WHAT IT READS IS OF BULK AT MOST 1048576: true; the input reads as it did. -/
def actKeepsUptoRow : OpenClaim := { program := "ytiggcgajanfbjaagreat", sum := "04d0a381db997164d1742d099b273a584312b8bedc132918ea3d9360886b68d9", func := "orangery/orangerylaw10.ActKeeps", spec := "actKeeps", inPlace := ["internal/bytealg.Compare", "slices.overlaps[orangery/api.Entry]", "slices.overlaps[orangery/api.Msg]"], unfollowed := true, recurses := true, apart := false, narrowed := true }
def ActKeepsUptoSaid : Prop := actKeepsUptoRow.holds Tryz.pinned (OpenSpec.upto actKeepsSpec)

/-- 'orangerylaw10.ActInner', WHERE WHAT IT READS IS OF BULK AT MOST 1048576: true; the input reads as it did. -/
def actInnerUptoRow : OpenClaim := { program := "ytiggcgajanfbjaagreat", sum := "04d0a381db997164d1742d099b273a584312b8bedc132918ea3d9360886b68d9", func := "orangery/orangerylaw10.ActInner", spec := "actInner", inPlace := ["internal/bytealg.Compare", "slices.overlaps[orangery/api.Entry]", "slices.overlaps[orangery/api.Msg]"], unfollowed := true, recurses := true, apart := false, narrowed := true }
def ActInnerUptoSaid : Prop := actInnerUptoRow.holds Tryz.pinned (OpenSpec.upto actInnerSpec)

/-- 'orangerylaw10.ActRoot', WHERE WHAT IT READS IS OF BULK AT MOST 1048576: true; the input reads as it did. -/
def actRootUptoRow : OpenClaim := { program := "ytiggcgajanfbjaagreat", sum := "04d0a381db997164d1742d099b273a584312b8bedc132918ea3d9360886b68d9", func := "orangery/orangerylaw10.ActRoot", spec := "actRoot", inPlace := ["internal/bytealg.Compare", "slices.overlaps[orangery/api.Entry]", "slices.overlaps[orangery/api.Msg]"], unfollowed := true, recurses := true, apart := false, narrowed := true }
def ActRootUptoSaid : Prop := actRootUptoRow.holds Tryz.pinned (OpenSpec.upto actRootSpec)

end Rows
end Go.Proofs.YtiggcgajanfbjaaGreat
