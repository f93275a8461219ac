/-
  No cell of these rows narrows 'for every input' (looked for: loops, veiled, ifaces, maps, wideKeys, modest, calm, conditions, laid).
  DERIVED. THE GIVEN ROWS OF THIS SEAT. 5 by the template 'for every input the law returns true; each argument reads behind the call as it read before'; 0 by the template 'total and deterministic' (their statements: YtifmldlbhcpaiaaTotals.lean).
  GIVEN WITH THE SEED: the statements are not yours to turn. If you find one false, say at which input.
  Laid BY PROGRAM, IN A SANDBOX (cutbox-rows.mjs): the forced cells as the released guide's own fill.sh prints them over the translation d26d268ae49a16bd… (all of the seat's roots in one cut). By AI agents, Wed Nov 11 2026. No macro, syntax, notation, axiom, sorry.
-/
import Derived.Test.YtifmldlbhcpaiaaChecked
import GoSem.Claim
import GoSem.ClaimJoined
import GoSem.ClaimMapViews
import Derived.JoinedTies
import Derived.KernelRfl
namespace Go.Proofs.Ytifmldlbhcpaiaa
/- THE CELL 'sum', in the pinned program and in every row, IS THE sha256 OF THE DUMP (.gsa) THAT YtifmldlbhcpaiaaProg.lean LOADS. Nothing in Lean hashes anything: it is a label: what it is worth is what the hold of that sum in a sandbox is worth. -/
noncomputable def Try.pinned : Pinned := { name := "ytifmldlbhcpaiaa", sum := "d26d268ae49a16bd773892bebad40332acdb4c1a0de8f56cc9541a53ec7aabc8", checked := Try.checked }
namespace Rows
def none {H : Type} : Left H := { results := [], args := [] }

/-- 'orangerylaw15.ClockAll': WHATEVER THE INPUT: true; the input reads as it did. -/
def clockAllSpec : ChangeSpec := { name := "clockAll", fn := fun _ => fun
  | [d1, d2, d3] => { results := [.lit (.bool true)], args := [d1, d2, d3] }
  | _ => none }
def clockAllRow : OpenClaim := { program := "ytifmldlbhcpaiaa", sum := "d26d268ae49a16bd773892bebad40332acdb4c1a0de8f56cc9541a53ec7aabc8", func := "orangery/orangerylaw15.ClockAll", spec := "clockAll", unfollowed := true, recurses := true, apart := false }
def ClockAllSaid : Prop := clockAllRow.holds Try.pinned (OpenSpec.ofChange clockAllSpec)

/-- ITS FALSE NEIGHBOUR: 'it returns false'. Refute it at one input. -/
def clockAllWrong : ChangeSpec := { name := "clockAll", fn := fun _ => fun
  | [d1, d2, d3] => { results := [.lit (.bool false)], args := [d1, d2, d3] }
  | _ => none }
def ClockAllWrongFalsely : Prop := clockAllRow.holds Try.pinned (OpenSpec.ofChange clockAllWrong)

/-- 'orangerylaw15.ClockGoes': WHATEVER THE INPUT: true; the input reads as it did. -/
def clockGoesSpec : ChangeSpec := { name := "clockGoes", fn := fun _ => fun
  | [d1, d2, d3] => { results := [.lit (.bool true)], args := [d1, d2, d3] }
  | _ => none }
def clockGoesRow : OpenClaim := { program := "ytifmldlbhcpaiaa", sum := "d26d268ae49a16bd773892bebad40332acdb4c1a0de8f56cc9541a53ec7aabc8", func := "orangery/orangerylaw15.ClockGoes", spec := "clockGoes", unfollowed := true, recurses := true, apart := false }
def ClockGoesSaid : Prop := clockGoesRow.holds Try.pinned (OpenSpec.ofChange clockGoesSpec)

/-- ITS FALSE NEIGHBOUR: 'it returns false'. Refute it at one input. -/
def clockGoesWrong : ChangeSpec := { name := "clockGoes", fn := fun _ => fun
  | [d1, d2, d3] => { results := [.lit (.bool false)], args := [d1, d2, d3] }
  | _ => none }
def ClockGoesWrongFalsely : Prop := clockGoesRow.holds Try.pinned (OpenSpec.ofChange clockGoesWrong)

/-- 'orangerylaw15.ClockAllGo': WHATEVER THE INPUT: true; the input reads as it did. -/
def clockAllGoSpec : ChangeSpec := { name := "clockAllGo", fn := fun _ => fun
  | [d1, d2, d3] => { results := [.lit (.bool true)], args := [d1, d2, d3] }
  | _ => none }
def clockAllGoRow : OpenClaim := { program := "ytifmldlbhcpaiaa", sum := "d26d268ae49a16bd773892bebad40332acdb4c1a0de8f56cc9541a53ec7aabc8", func := "orangery/orangerylaw15.ClockAllGo", spec := "clockAllGo", unfollowed := true, recurses := true, apart := false }
def ClockAllGoSaid : Prop := clockAllGoRow.holds Try.pinned (OpenSpec.ofChange clockAllGoSpec)

/-- ITS FALSE NEIGHBOUR: 'it returns false'. Refute it at one input. -/
def clockAllGoWrong : ChangeSpec := { name := "clockAllGo", fn := fun _ => fun
  | [d1, d2, d3] => { results := [.lit (.bool false)], args := [d1, d2, d3] }
  | _ => none }
def ClockAllGoWrongFalsely : Prop := clockAllGoRow.holds Try.pinned (OpenSpec.ofChange clockAllGoWrong)

/-- 'orangerylaw15.ClockTurns': WHATEVER THE INPUT: true; the input reads as it did. -/
def clockTurnsSpec : ChangeSpec := { name := "clockTurns", fn := fun _ => fun
  | [d1, d2, d3, d4] => { results := [.lit (.bool true)], args := [d1, d2, d3, d4] }
  | _ => none }
def clockTurnsRow : OpenClaim := { program := "ytifmldlbhcpaiaa", sum := "d26d268ae49a16bd773892bebad40332acdb4c1a0de8f56cc9541a53ec7aabc8", func := "orangery/orangerylaw15.ClockTurns", spec := "clockTurns", unfollowed := true, recurses := true, apart := false }
def ClockTurnsSaid : Prop := clockTurnsRow.holds Try.pinned (OpenSpec.ofChange clockTurnsSpec)

/-- ITS FALSE NEIGHBOUR: 'it returns false'. Refute it at one input. -/
def clockTurnsWrong : ChangeSpec := { name := "clockTurns", fn := fun _ => fun
  | [d1, d2, d3, d4] => { results := [.lit (.bool false)], args := [d1, d2, d3, d4] }
  | _ => none }
def ClockTurnsWrongFalsely : Prop := clockTurnsRow.holds Try.pinned (OpenSpec.ofChange clockTurnsWrong)

/-- 'orangerylaw15.ClockSecond': WHATEVER THE INPUT: true; the input reads as it did. -/
def clockSecondSpec : ChangeSpec := { name := "clockSecond", fn := fun _ => fun
  | [d1, d2, d3] => { results := [.lit (.bool true)], args := [d1, d2, d3] }
  | _ => none }
def clockSecondRow : OpenClaim := { program := "ytifmldlbhcpaiaa", sum := "d26d268ae49a16bd773892bebad40332acdb4c1a0de8f56cc9541a53ec7aabc8", func := "orangery/orangerylaw15.ClockSecond", spec := "clockSecond", unfollowed := true, recurses := true, apart := false }
def ClockSecondSaid : Prop := clockSecondRow.holds Try.pinned (OpenSpec.ofChange clockSecondSpec)

/-- ITS FALSE NEIGHBOUR: 'it returns false'. Refute it at one input. -/
def clockSecondWrong : ChangeSpec := { name := "clockSecond", fn := fun _ => fun
  | [d1, d2, d3] => { results := [.lit (.bool false)], args := [d1, d2, d3] }
  | _ => none }
def ClockSecondWrongFalsely : Prop := clockSecondRow.holds Try.pinned (OpenSpec.ofChange clockSecondWrong)

/- THE SECOND FORM. 'bulk': how many values and letters a reading holds, each counted each time it is reached (what is shared counts as often as it is met; a slice's spare places count too). A statement '..UptoSaid' is the law's where the arguments, and the package variables that the reading takes, are together of bulk at most 1048576: NARROWER than '..Said'. Prove '..Said' where nothing that the law and all that it calls make is longer than what came in: it says more and counts as full. Else prove '..UptoSaid'. A law counts once. -/
mutual
def uptoBulk {H : Type} : DataW H → Nat
  | .lit (.string bytes) => bytes.length + 1
  | .lit _ => 1
  | .nil => 1
  | .ptr d => uptoBulk d + 1
  | .slice elems spare => uptoBulkAll elems + uptoBulkAll spare + 1
  | .agg parts => uptoBulkAll parts + 1
  | .iface _ d => uptoBulk d + 1
  | .map entries => uptoBulkEntries entries + 1
  | .held _ => 1
def uptoBulkAll {H : Type} : List (DataW H) → Nat
  | [] => 0
  | d :: r => uptoBulk d + uptoBulkAll r
def uptoBulkEntries {H : Type} : List (Lit × DataW H) → Nat
  | [] => 0
  | x :: r => uptoBulkEntry x + uptoBulkEntries r
def uptoBulkEntry {H : Type} : Lit × DataW H → Nat
  | (.string bytes, d) => bytes.length + uptoBulk d + 1
  | (_, d) => uptoBulk d + 1
 end
def uptoSmall : (H : Type) → List (DataW H) → Bool := fun _ ds => decide (uptoBulkAll ds ≤ 1048576)
def OpenSpec.upto (s : _root_.Go.ChangeSpec) : _root_.Go.OpenSpec := { _root_.Go.OpenSpec.ofChange s with cond := some uptoSmall }

/-- 'orangerylaw15.ClockAll', WHERE WHAT IT READS IS OF BULK AT MOST 1048576: true; the input reads as it did. -/
def clockAllUptoRow : OpenClaim := { program := "ytifmldlbhcpaiaa", sum := "d26d268ae49a16bd773892bebad40332acdb4c1a0de8f56cc9541a53ec7aabc8", func := "orangery/orangerylaw15.ClockAll", spec := "clockAll", unfollowed := true, recurses := true, apart := false, narrowed := true }
def ClockAllUptoSaid : Prop := clockAllUptoRow.holds Try.pinned (OpenSpec.upto clockAllSpec)

/-- 'orangerylaw15.ClockGoes', WHERE WHAT IT READS IS OF BULK AT MOST 1048576: true; the input reads as it did. -/
def clockGoesUptoRow : OpenClaim := { program := "ytifmldlbhcpaiaa", sum := "d26d268ae49a16bd773892bebad40332acdb4c1a0de8f56cc9541a53ec7aabc8", func := "orangery/orangerylaw15.ClockGoes", spec := "clockGoes", unfollowed := true, recurses := true, apart := false, narrowed := true }
def ClockGoesUptoSaid : Prop := clockGoesUptoRow.holds Try.pinned (OpenSpec.upto clockGoesSpec)

/-- 'orangerylaw15.ClockAllGo', WHERE WHAT IT READS IS OF BULK AT MOST 1048576: true; the input reads as it did. -/
def clockAllGoUptoRow : OpenClaim := { program := "ytifmldlbhcpaiaa", sum := "d26d268ae49a16bd773892bebad40332acdb4c1a0de8f56cc9541a53ec7aabc8", func := "orangery/orangerylaw15.ClockAllGo", spec := "clockAllGo", unfollowed := true, recurses := true, apart := false, narrowed := true }
def ClockAllGoUptoSaid : Prop := clockAllGoUptoRow.holds Try.pinned (OpenSpec.upto clockAllGoSpec)

/-- 'orangerylaw15.ClockTurns', WHERE WHAT IT READS IS OF BULK AT MOST 1048576: true; the input reads as it did. -/
def clockTurnsUptoRow : OpenClaim := { program := "ytifmldlbhcpaiaa", sum := "d26d268ae49a16bd773892bebad40332acdb4c1a0de8f56cc9541a53ec7aabc8", func := "orangery/orangerylaw15.ClockTurns", spec := "clockTurns", unfollowed := true, recurses := true, apart := false, narrowed := true }
def ClockTurnsUptoSaid : Prop := clockTurnsUptoRow.holds Try.pinned (OpenSpec.upto clockTurnsSpec)

/-- 'orangerylaw15.ClockSecond', WHERE WHAT IT READS IS OF BULK AT MOST 1048576: true; the input reads as it did. -/
def clockSecondUptoRow : OpenClaim := { program := "ytifmldlbhcpaiaa", sum := "d26d268ae49a16bd773892bebad40332acdb4c1a0de8f56cc9541a53ec7aabc8", func := "orangery/orangerylaw15.ClockSecond", spec := "clockSecond", unfollowed := true, recurses := true, apart := false, narrowed := true }
def ClockSecondUptoSaid : Prop := clockSecondUptoRow.holds Try.pinned (OpenSpec.upto clockSecondSpec)

end Rows
end Go.Proofs.Ytifmldlbhcpaiaa
