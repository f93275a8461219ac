/-
  No cell of these rows narrows 'for every input' (looked for: loops, veiled, ifaces, maps, wideKeys, modest, calm, conditions, laid).
  DERIVED. THE GIVEN ROWS OF THIS SEAT. 5 by the template 'for every input the law returns true; each argument reads behind the call as it read before'; 0 by the template 'total and deterministic' (their statements: YtmfnekobepdhkaaTotals.lean).
  GIVEN WITH THE SEED: the statements are not yours to turn. If you find one false, say at which input.
  Laid BY PROGRAM, IN A SANDBOX (cutbox-rows.mjs): the forced cells as the released guide's own fill.sh prints them over the translation d2de4fc28ee1dd5e… (all of the seat's roots in one cut). By AI agents, Wed Nov 11 2026. No macro, syntax, notation, axiom, sorry.
-/
import Derived.Test.YtmfnekobepdhkaaChecked
import GoSem.Claim
import GoSem.ClaimJoined
import GoSem.ClaimMapViews
import Derived.JoinedTies
import Derived.KernelRfl
namespace Go.Proofs.Ytmfnekobepdhkaa
/- THE CELL 'sum', in the pinned program and in every row, IS THE sha256 OF THE DUMP (.gsa) THAT YtmfnekobepdhkaaProg.lean LOADS. Nothing in Lean hashes anything: it is a label: what it is worth is what the hold of that sum in a sandbox is worth. -/
noncomputable def Try.pinned : Pinned := { name := "ytmfnekobepdhkaa", sum := "d2de4fc28ee1dd5e81cc17db263e5786ee15575699862e9418398818a1f65f83", checked := Try.checked }
namespace Rows
def none {H : Type} : Left H := { results := [], args := [] }

/-- 'orangerylaw13.SchedPlays': WHATEVER THE INPUT: true; the input reads as it did. -/
def schedPlaysSpec : ChangeSpec := { name := "schedPlays", fn := fun _ => fun
  | [d1, d2] => { results := [.lit (.bool true)], args := [d1, d2] }
  | _ => none }
def schedPlaysRow : OpenClaim := { program := "ytmfnekobepdhkaa", sum := "d2de4fc28ee1dd5e81cc17db263e5786ee15575699862e9418398818a1f65f83", func := "orangery/orangerylaw13.SchedPlays", spec := "schedPlays", apart := false }
def SchedPlaysSaid : Prop := schedPlaysRow.holds Try.pinned (OpenSpec.ofChange schedPlaysSpec)

/-- ITS FALSE NEIGHBOUR: 'it returns false'. Refute it at one input. -/
def schedPlaysWrong : ChangeSpec := { name := "schedPlays", fn := fun _ => fun
  | [d1, d2] => { results := [.lit (.bool false)], args := [d1, d2] }
  | _ => none }
def SchedPlaysWrongFalsely : Prop := schedPlaysRow.holds Try.pinned (OpenSpec.ofChange schedPlaysWrong)

/-- 'orangerylaw13.SchedTurns': WHATEVER THE INPUT: true; the input reads as it did. -/
def schedTurnsSpec : ChangeSpec := { name := "schedTurns", fn := fun _ => fun
  | [d1, d2, d3] => { results := [.lit (.bool true)], args := [d1, d2, d3] }
  | _ => none }
def schedTurnsRow : OpenClaim := { program := "ytmfnekobepdhkaa", sum := "d2de4fc28ee1dd5e81cc17db263e5786ee15575699862e9418398818a1f65f83", func := "orangery/orangerylaw13.SchedTurns", spec := "schedTurns", apart := false }
def SchedTurnsSaid : Prop := schedTurnsRow.holds Try.pinned (OpenSpec.ofChange schedTurnsSpec)

/-- ITS FALSE NEIGHBOUR: 'it returns false'. Refute it at one input. -/
def schedTurnsWrong : ChangeSpec := { name := "schedTurns", fn := fun _ => fun
  | [d1, d2, d3] => { results := [.lit (.bool false)], args := [d1, d2, d3] }
  | _ => none }
def SchedTurnsWrongFalsely : Prop := schedTurnsRow.holds Try.pinned (OpenSpec.ofChange schedTurnsWrong)

/-- 'orangerylaw13.SchedStarves': WHATEVER THE INPUT: true; the input reads as it did. -/
def schedStarvesSpec : ChangeSpec := { name := "schedStarves", fn := fun _ => fun
  | [d1, d2] => { results := [.lit (.bool true)], args := [d1, d2] }
  | _ => none }
def schedStarvesRow : OpenClaim := { program := "ytmfnekobepdhkaa", sum := "d2de4fc28ee1dd5e81cc17db263e5786ee15575699862e9418398818a1f65f83", func := "orangery/orangerylaw13.SchedStarves", spec := "schedStarves", apart := false }
def SchedStarvesSaid : Prop := schedStarvesRow.holds Try.pinned (OpenSpec.ofChange schedStarvesSpec)

/-- ITS FALSE NEIGHBOUR: 'it returns false'. Refute it at one input. -/
def schedStarvesWrong : ChangeSpec := { name := "schedStarves", fn := fun _ => fun
  | [d1, d2] => { results := [.lit (.bool false)], args := [d1, d2] }
  | _ => none }
def SchedStarvesWrongFalsely : Prop := schedStarvesRow.holds Try.pinned (OpenSpec.ofChange schedStarvesWrong)

/-- 'orangerylaw13.SchedEnds': WHATEVER THE INPUT: true; the input reads as it did. -/
def schedEndsSpec : ChangeSpec := { name := "schedEnds", fn := fun _ => fun
  | [d1, d2] => { results := [.lit (.bool true)], args := [d1, d2] }
  | _ => none }
def schedEndsRow : OpenClaim := { program := "ytmfnekobepdhkaa", sum := "d2de4fc28ee1dd5e81cc17db263e5786ee15575699862e9418398818a1f65f83", func := "orangery/orangerylaw13.SchedEnds", spec := "schedEnds", apart := false }
def SchedEndsSaid : Prop := schedEndsRow.holds Try.pinned (OpenSpec.ofChange schedEndsSpec)

/-- ITS FALSE NEIGHBOUR: 'it returns false'. Refute it at one input. -/
def schedEndsWrong : ChangeSpec := { name := "schedEnds", fn := fun _ => fun
  | [d1, d2] => { results := [.lit (.bool false)], args := [d1, d2] }
  | _ => none }
def SchedEndsWrongFalsely : Prop := schedEndsRow.holds Try.pinned (OpenSpec.ofChange schedEndsWrong)

/-- 'orangerylaw13.SchedOldest': WHATEVER THE INPUT: true; the input reads as it did. -/
def schedOldestSpec : ChangeSpec := { name := "schedOldest", fn := fun _ => fun
  | [d1, d2] => { results := [.lit (.bool true)], args := [d1, d2] }
  | _ => none }
def schedOldestRow : OpenClaim := { program := "ytmfnekobepdhkaa", sum := "d2de4fc28ee1dd5e81cc17db263e5786ee15575699862e9418398818a1f65f83", func := "orangery/orangerylaw13.SchedOldest", spec := "schedOldest", apart := false }
def SchedOldestSaid : Prop := schedOldestRow.holds Try.pinned (OpenSpec.ofChange schedOldestSpec)

/-- ITS FALSE NEIGHBOUR: 'it returns false'. Refute it at one input. -/
def schedOldestWrong : ChangeSpec := { name := "schedOldest", fn := fun _ => fun
  | [d1, d2] => { results := [.lit (.bool false)], args := [d1, d2] }
  | _ => none }
def SchedOldestWrongFalsely : Prop := schedOldestRow.holds Try.pinned (OpenSpec.ofChange schedOldestWrong)

/- THE SECOND FORM. 'bulk': how many values and letters a reading holds, each counted each time it is reached (what is shared counts as often as it is met; a slice's spare places count too). A statement '..UptoSaid' is the law's where the arguments, and the package variables that the reading takes, are together of bulk at most 1048576: NARROWER than '..Said'. Prove '..Said' where nothing that the law and all that it calls make is longer than what came in: it says more and counts as full. Else prove '..UptoSaid'. A law counts once. -/
mutual
def uptoBulk {H : Type} : DataW H → Nat
  | .lit (.string bytes) => bytes.length + 1
  | .lit _ => 1
  | .nil => 1
  | .ptr d => uptoBulk d + 1
  | .slice elems spare => uptoBulkAll elems + uptoBulkAll spare + 1
  | .agg parts => uptoBulkAll parts + 1
  | .iface _ d => uptoBulk d + 1
  | .map entries => uptoBulkEntries entries + 1
  | .held _ => 1
def uptoBulkAll {H : Type} : List (DataW H) → Nat
  | [] => 0
  | d :: r => uptoBulk d + uptoBulkAll r
def uptoBulkEntries {H : Type} : List (Lit × DataW H) → Nat
  | [] => 0
  | x :: r => uptoBulkEntry x + uptoBulkEntries r
def uptoBulkEntry {H : Type} : Lit × DataW H → Nat
  | (.string bytes, d) => bytes.length + uptoBulk d + 1
  | (_, d) => uptoBulk d + 1
 end
def uptoSmall : (H : Type) → List (DataW H) → Bool := fun _ ds => decide (uptoBulkAll ds ≤ 1048576)
def OpenSpec.upto (s : _root_.Go.ChangeSpec) : _root_.Go.OpenSpec := { _root_.Go.OpenSpec.ofChange s with cond := some uptoSmall }

/-- 'orangerylaw13.SchedPlays', WHERE WHAT IT READS IS OF BULK AT MOST 1048576: true; the input reads as it did. -/
def schedPlaysUptoRow : OpenClaim := { program := "ytmfnekobepdhkaa", sum := "d2de4fc28ee1dd5e81cc17db263e5786ee15575699862e9418398818a1f65f83", func := "orangery/orangerylaw13.SchedPlays", spec := "schedPlays", apart := false, narrowed := true }
def SchedPlaysUptoSaid : Prop := schedPlaysUptoRow.holds Try.pinned (OpenSpec.upto schedPlaysSpec)

/-- 'orangerylaw13.SchedTurns', WHERE WHAT IT READS IS OF BULK AT MOST 1048576: true; the input reads as it did. -/
def schedTurnsUptoRow : OpenClaim := { program := "ytmfnekobepdhkaa", sum := "d2de4fc28ee1dd5e81cc17db263e5786ee15575699862e9418398818a1f65f83", func := "orangery/orangerylaw13.SchedTurns", spec := "schedTurns", apart := false, narrowed := true }
def SchedTurnsUptoSaid : Prop := schedTurnsUptoRow.holds Try.pinned (OpenSpec.upto schedTurnsSpec)

/-- 'orangerylaw13.SchedStarves', WHERE WHAT IT READS IS OF BULK AT MOST 1048576: true; the input reads as it did. -/
def schedStarvesUptoRow : OpenClaim := { program := "ytmfnekobepdhkaa", sum := "d2de4fc28ee1dd5e81cc17db263e5786ee15575699862e9418398818a1f65f83", func := "orangery/orangerylaw13.SchedStarves", spec := "schedStarves", apart := false, narrowed := true }
def SchedStarvesUptoSaid : Prop := schedStarvesUptoRow.holds Try.pinned (OpenSpec.upto schedStarvesSpec)

/-- 'orangerylaw13.SchedEnds', WHERE WHAT IT READS IS OF BULK AT MOST 1048576: true; the input reads as it did. -/
def schedEndsUptoRow : OpenClaim := { program := "ytmfnekobepdhkaa", sum := "d2de4fc28ee1dd5e81cc17db263e5786ee15575699862e9418398818a1f65f83", func := "orangery/orangerylaw13.SchedEnds", spec := "schedEnds", apart := false, narrowed := true }
def SchedEndsUptoSaid : Prop := schedEndsUptoRow.holds Try.pinned (OpenSpec.upto schedEndsSpec)

/-- 'orangerylaw13.SchedOldest', WHERE WHAT IT READS IS OF BULK AT MOST 1048576: true; the input reads as it did. -/
def schedOldestUptoRow : OpenClaim := { program := "ytmfnekobepdhkaa", sum := "d2de4fc28ee1dd5e81cc17db263e5786ee15575699862e9418398818a1f65f83", func := "orangery/orangerylaw13.SchedOldest", spec := "schedOldest", apart := false, narrowed := true }
def SchedOldestUptoSaid : Prop := schedOldestUptoRow.holds Try.pinned (OpenSpec.upto schedOldestSpec)

end Rows
end Go.Proofs.Ytmfnekobepdhkaa
