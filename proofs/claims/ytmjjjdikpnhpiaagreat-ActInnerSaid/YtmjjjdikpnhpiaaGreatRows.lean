/-
  No cell of these rows narrows 'for every input' (looked for: loops, veiled, ifaces, maps, wideKeys, modest, calm, conditions, laid).
  DERIVED. THE GIVEN ROWS OF THIS SEAT. 2 by the template 'for every input the law returns true; each argument reads behind the call as it read before'; 0 by the template 'total and deterministic' (their statements: YtmjjjdikpnhpiaaGreatTotals.lean).
  GIVEN WITH THE SEED: the statements are not yours to turn. If you find one false, say at which input.
  Laid BY PROGRAM, IN A SANDBOX (cutbox-rows.mjs): the forced cells as the released guide's own fill.sh prints them over the translation 1c4c729fb7ec1e16… (all of the seat's roots in one cut). By AI agents, Wed Nov 11 2026. No macro, syntax, notation, axiom, sorry.
-/
import Derived.Test.YtmjjjdikpnhpiaaGreatChecked
import GoSem.Claim
import GoSem.ClaimJoined
import GoSem.ClaimMapViews
import Derived.JoinedTies
import Derived.KernelRfl
namespace Go.Proofs.YtmjjjdikpnhpiaaGreat
/- THE CELL 'sum', in the pinned program and in every row, IS THE sha256 OF THE DUMP (.gsa) THAT YtmjjjdikpnhpiaaGreatProg.lean LOADS. Nothing in Lean hashes anything: it is a label: what it is worth is what the hold of that sum in a sandbox is worth. -/
noncomputable def Tryz.pinned : Pinned := { name := "ytmjjjdikpnhpiaagreat", sum := "1c4c729fb7ec1e16d1e3ae898d80c788d84c60ad76014638a1602b753de395cc", checked := Tryz.checked }
namespace Rows
def none {H : Type} : Left H := { results := [], args := [] }

/-- 'orangerylaw10.ActKeeps': WHATEVER THE INPUT: true; the input reads as it did. -/
def actKeepsSpec : ChangeSpec := { name := "actKeeps", fn := fun _ => fun
  | [d1, d2, d3, d4, d5] => { results := [.lit (.bool true)], args := [d1, d2, d3, d4, d5] }
  | _ => none }
def actKeepsRow : OpenClaim := { program := "ytmjjjdikpnhpiaagreat", sum := "1c4c729fb7ec1e16d1e3ae898d80c788d84c60ad76014638a1602b753de395cc", func := "orangery/orangerylaw10.ActKeeps", spec := "actKeeps", inPlace := ["internal/bytealg.Compare", "slices.overlaps[orangery/api.Entry]", "slices.overlaps[orangery/api.Msg]"], unfollowed := true, recurses := true, apart := false }
def ActKeepsSaid : Prop := actKeepsRow.holds Tryz.pinned (OpenSpec.ofChange actKeepsSpec)

/-- ITS FALSE NEIGHBOUR: 'it returns false'. Refute it at one input. -/
def actKeepsWrong : ChangeSpec := { name := "actKeeps", fn := fun _ => fun
  | [d1, d2, d3, d4, d5] => { results := [.lit (.bool false)], args := [d1, d2, d3, d4, d5] }
  | _ => none }
def ActKeepsWrongFalsely : Prop := actKeepsRow.holds Tryz.pinned (OpenSpec.ofChange actKeepsWrong)

/-- 'orangerylaw10.ActInner': WHATEVER THE INPUT: true; the input reads as it did. -/
def actInnerSpec : ChangeSpec := { name := "actInner", fn := fun _ => fun
  | [d1, d2, d3, d4, d5, d6, d7] => { results := [.lit (.bool true)], args := [d1, d2, d3, d4, d5, d6, d7] }
  | _ => none }
def actInnerRow : OpenClaim := { program := "ytmjjjdikpnhpiaagreat", sum := "1c4c729fb7ec1e16d1e3ae898d80c788d84c60ad76014638a1602b753de395cc", func := "orangery/orangerylaw10.ActInner", spec := "actInner", inPlace := ["internal/bytealg.Compare", "slices.overlaps[orangery/api.Entry]", "slices.overlaps[orangery/api.Msg]"], unfollowed := true, recurses := true, apart := false }
def ActInnerSaid : Prop := actInnerRow.holds Tryz.pinned (OpenSpec.ofChange actInnerSpec)

/-- ITS FALSE NEIGHBOUR: 'it returns false'. Refute it at one input. -/
def actInnerWrong : ChangeSpec := { name := "actInner", fn := fun _ => fun
  | [d1, d2, d3, d4, d5, d6, d7] => { results := [.lit (.bool false)], args := [d1, d2, d3, d4, d5, d6, d7] }
  | _ => none }
def ActInnerWrongFalsely : Prop := actInnerRow.holds Tryz.pinned (OpenSpec.ofChange actInnerWrong)

/- THE SECOND FORM. 'bulk': how many values and letters a reading holds, each counted each time it is reached (what is shared counts as often as it is met; a slice's spare places count too). A statement '..UptoSaid' is the law's where the arguments, and the package variables that the reading takes, are together of bulk at most 1048576: NARROWER than '..Said'. Prove '..Said' where nothing that the law and all that it calls make is longer than what came in: it says more and counts as full. Else prove '..UptoSaid'. A law counts once. -/
mutual
def uptoBulk {H : Type} : DataW H → Nat
  | .lit (.string bytes) => bytes.length + 1
  | .lit _ => 1
  | .nil => 1
  | .ptr d => uptoBulk d + 1
  | .slice elems spare => uptoBulkAll elems + uptoBulkAll spare + 1
  | .agg parts => uptoBulkAll parts + 1
  | .iface _ d => uptoBulk d + 1
  | .map entries => uptoBulkEntries entries + 1
  | .held _ => 1
def uptoBulkAll {H : Type} : List (DataW H) → Nat
  | [] => 0
  | d :: r => uptoBulk d + uptoBulkAll r
def uptoBulkEntries {H : Type} : List (Lit × DataW H) → Nat
  | [] => 0
  | x :: r => uptoBulkEntry x + uptoBulkEntries r
def uptoBulkEntry {H : Type} : Lit × DataW H → Nat
  | (.string bytes, d) => bytes.length + uptoBulk d + 1
  | (_, d) => uptoBulk d + 1
 end
def uptoSmall : (H : Type) → List (DataW H) → Bool := fun _ ds => decide (uptoBulkAll ds ≤ 1048576)
def OpenSpec.upto (s : _root_.Go.ChangeSpec) : _root_.Go.OpenSpec := { _root_.Go.OpenSpec.ofChange s with cond := some uptoSmall }

/-- 'orangerylaw10.ActKeeps', WHERE WHAT IT READS IS OF BULK AT MOST 1048576: true; the input reads as it did. -/
def actKeepsUptoRow : OpenClaim := { program := "ytmjjjdikpnhpiaagreat", sum := "1c4c729fb7ec1e16d1e3ae898d80c788d84c60ad76014638a1602b753de395cc", func := "orangery/orangerylaw10.ActKeeps", spec := "actKeeps", inPlace := ["internal/bytealg.Compare", "slices.overlaps[orangery/api.Entry]", "slices.overlaps[orangery/api.Msg]"], unfollowed := true, recurses := true, apart := false, narrowed := true }
def ActKeepsUptoSaid : Prop := actKeepsUptoRow.holds Tryz.pinned (OpenSpec.upto actKeepsSpec)

/-- 'orangerylaw10.ActInner', WHERE WHAT IT READS IS OF BULK AT MOST 1048576: true; the input reads as it did. -/
def actInnerUptoRow : OpenClaim := { program := "ytmjjjdikpnhpiaagreat", sum := "1c4c729fb7ec1e16d1e3ae898d80c788d84c60ad76014638a1602b753de395cc", func := "orangery/orangerylaw10.ActInner", spec := "actInner", inPlace := ["internal/bytealg.Compare", "slices.overlaps[orangery/api.Entry]", "slices.overlaps[orangery/api.Msg]"], unfollowed := true, recurses := true, apart := false, narrowed := true }
def ActInnerUptoSaid : Prop := actInnerUptoRow.holds Tryz.pinned (OpenSpec.upto actInnerSpec)

end Rows
end Go.Proofs.YtmjjjdikpnhpiaaGreat
