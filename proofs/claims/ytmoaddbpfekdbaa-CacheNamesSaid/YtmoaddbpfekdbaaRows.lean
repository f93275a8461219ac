/-
  No cell of these rows narrows 'for every input' (looked for: loops, veiled, ifaces, maps, wideKeys, modest, calm, conditions, laid).
  DERIVED. THE GIVEN ROWS OF THIS SEAT. 5 by the template 'for every input the law returns true; each argument reads behind the call as it read before'; 0 by the template 'total and deterministic' (their statements: YtmoaddbpfekdbaaTotals.lean).
  GIVEN WITH THE SEED: the statements are not yours to turn. If you find one false, say at which input.
  Laid BY PROGRAM, IN A SANDBOX (cutbox-rows.mjs): the forced cells as the released guide's own fill.sh prints them over the translation c09ec4f90380fa5f… (all of the seat's roots in one cut). By AI agents, Wed Nov 11 2026. No macro, syntax, notation, axiom, sorry.
-/
import Derived.Test.YtmoaddbpfekdbaaChecked
import GoSem.Claim
import GoSem.ClaimJoined
import GoSem.ClaimMapViews
import Derived.JoinedTies
import Derived.KernelRfl
namespace Go.Proofs.Ytmoaddbpfekdbaa
/- THE CELL 'sum', in the pinned program and in every row, IS THE sha256 OF THE DUMP (.gsa) THAT YtmoaddbpfekdbaaProg.lean LOADS. Nothing in Lean hashes anything: it is a label: what it is worth is what the hold of that sum in a sandbox is worth. -/
noncomputable def Try.pinned : Pinned := { name := "ytmoaddbpfekdbaa", sum := "c09ec4f90380fa5fb09c8e2ded5fc1570a14f6e4a34e3c00cb4e528d71074661", checked := Try.checked }
namespace Rows
def none {H : Type} : Left H := { results := [], args := [] }

/-- 'orangerylaw16.CacheOnce': WHATEVER THE INPUT: true; the input reads as it did. -/
def cacheOnceSpec : ChangeSpec := { name := "cacheOnce", fn := fun _ => fun
  | [d] => { results := [.lit (.bool true)], args := [d] }
  | _ => none }
def cacheOnceRow : OpenClaim := { program := "ytmoaddbpfekdbaa", sum := "c09ec4f90380fa5fb09c8e2ded5fc1570a14f6e4a34e3c00cb4e528d71074661", func := "orangery/orangerylaw16.CacheOnce", spec := "cacheOnce", unfollowed := true, recurses := true, apart := false }
def CacheOnceSaid : Prop := cacheOnceRow.holds Try.pinned (OpenSpec.ofChange cacheOnceSpec)

/-- ITS FALSE NEIGHBOUR: 'it returns false'. Refute it at one input. -/
def cacheOnceWrong : ChangeSpec := { name := "cacheOnce", fn := fun _ => fun
  | [d] => { results := [.lit (.bool false)], args := [d] }
  | _ => none }
def CacheOnceWrongFalsely : Prop := cacheOnceRow.holds Try.pinned (OpenSpec.ofChange cacheOnceWrong)

/-- 'orangerylaw16.CacheLoads': WHATEVER THE INPUT: true; the input reads as it did. -/
def cacheLoadsSpec : ChangeSpec := { name := "cacheLoads", fn := fun _ => fun
  | [d1, d2] => { results := [.lit (.bool true)], args := [d1, d2] }
  | _ => none }
def cacheLoadsRow : OpenClaim := { program := "ytmoaddbpfekdbaa", sum := "c09ec4f90380fa5fb09c8e2ded5fc1570a14f6e4a34e3c00cb4e528d71074661", func := "orangery/orangerylaw16.CacheLoads", spec := "cacheLoads", unfollowed := true, recurses := true, apart := false }
def CacheLoadsSaid : Prop := cacheLoadsRow.holds Try.pinned (OpenSpec.ofChange cacheLoadsSpec)

/-- ITS FALSE NEIGHBOUR: 'it returns false'. Refute it at one input. -/
def cacheLoadsWrong : ChangeSpec := { name := "cacheLoads", fn := fun _ => fun
  | [d1, d2] => { results := [.lit (.bool false)], args := [d1, d2] }
  | _ => none }
def CacheLoadsWrongFalsely : Prop := cacheLoadsRow.holds Try.pinned (OpenSpec.ofChange cacheLoadsWrong)

/-- 'orangerylaw16.CacheLine': WHATEVER THE INPUT: true; the input reads as it did. -/
def cacheLineSpec : ChangeSpec := { name := "cacheLine", fn := fun _ => fun
  | [d1, d2] => { results := [.lit (.bool true)], args := [d1, d2] }
  | _ => none }
def cacheLineRow : OpenClaim := { program := "ytmoaddbpfekdbaa", sum := "c09ec4f90380fa5fb09c8e2ded5fc1570a14f6e4a34e3c00cb4e528d71074661", func := "orangery/orangerylaw16.CacheLine", spec := "cacheLine", unfollowed := true, recurses := true, apart := false }
def CacheLineSaid : Prop := cacheLineRow.holds Try.pinned (OpenSpec.ofChange cacheLineSpec)

/-- ITS FALSE NEIGHBOUR: 'it returns false'. Refute it at one input. -/
def cacheLineWrong : ChangeSpec := { name := "cacheLine", fn := fun _ => fun
  | [d1, d2] => { results := [.lit (.bool false)], args := [d1, d2] }
  | _ => none }
def CacheLineWrongFalsely : Prop := cacheLineRow.holds Try.pinned (OpenSpec.ofChange cacheLineWrong)

/-- 'orangerylaw16.CacheClock': WHATEVER THE INPUT: true; the input reads as it did. -/
def cacheClockSpec : ChangeSpec := { name := "cacheClock", fn := fun _ => fun
  | [d1, d2] => { results := [.lit (.bool true)], args := [d1, d2] }
  | _ => none }
def cacheClockRow : OpenClaim := { program := "ytmoaddbpfekdbaa", sum := "c09ec4f90380fa5fb09c8e2ded5fc1570a14f6e4a34e3c00cb4e528d71074661", func := "orangery/orangerylaw16.CacheClock", spec := "cacheClock", unfollowed := true, recurses := true, apart := false }
def CacheClockSaid : Prop := cacheClockRow.holds Try.pinned (OpenSpec.ofChange cacheClockSpec)

/-- ITS FALSE NEIGHBOUR: 'it returns false'. Refute it at one input. -/
def cacheClockWrong : ChangeSpec := { name := "cacheClock", fn := fun _ => fun
  | [d1, d2] => { results := [.lit (.bool false)], args := [d1, d2] }
  | _ => none }
def CacheClockWrongFalsely : Prop := cacheClockRow.holds Try.pinned (OpenSpec.ofChange cacheClockWrong)

/-- 'orangerylaw16.CacheNames': WHATEVER THE INPUT: true; the input reads as it did. -/
def cacheNamesSpec : ChangeSpec := { name := "cacheNames", fn := fun _ => fun
  | [d1, d2, d3] => { results := [.lit (.bool true)], args := [d1, d2, d3] }
  | _ => none }
def cacheNamesRow : OpenClaim := { program := "ytmoaddbpfekdbaa", sum := "c09ec4f90380fa5fb09c8e2ded5fc1570a14f6e4a34e3c00cb4e528d71074661", func := "orangery/orangerylaw16.CacheNames", spec := "cacheNames", unfollowed := true, recurses := true, apart := false }
def CacheNamesSaid : Prop := cacheNamesRow.holds Try.pinned (OpenSpec.ofChange cacheNamesSpec)

/-- ITS FALSE NEIGHBOUR: 'it returns false'. Refute it at one input. -/
def cacheNamesWrong : ChangeSpec := { name := "cacheNames", fn := fun _ => fun
  | [d1, d2, d3] => { results := [.lit (.bool false)], args := [d1, d2, d3] }
  | _ => none }
def CacheNamesWrongFalsely : Prop := cacheNamesRow.holds Try.pinned (OpenSpec.ofChange cacheNamesWrong)

/- THE SECOND FORM. 'bulk': how many values and letters a reading holds, each counted each time it is reached (what is shared counts as often as it is met; a slice's spare places count too). A statement '..UptoSaid' is the law's where the arguments, and the package variables that the reading takes, are together of bulk at most 1048576: NARROWER than '..Said'. Prove '..Said' where nothing that the law and all that it calls make is longer than what came in: it says more and counts as full. Else prove '..UptoSaid'. A law counts once. -/
mutual
def uptoBulk {H : Type} : DataW H → Nat
  | .lit (.string bytes) => bytes.length + 1
  | .lit _ => 1
  | .nil => 1
  | .ptr d => uptoBulk d + 1
  | .slice elems spare => uptoBulkAll elems + uptoBulkAll spare + 1
  | .agg parts => uptoBulkAll parts + 1
  | .iface _ d => uptoBulk d + 1
  | .map entries => uptoBulkEntries entries + 1
  | .held _ => 1
def uptoBulkAll {H : Type} : List (DataW H) → Nat
  | [] => 0
  | d :: r => uptoBulk d + uptoBulkAll r
def uptoBulkEntries {H : Type} : List (Lit × DataW H) → Nat
  | [] => 0
  | x :: r => uptoBulkEntry x + uptoBulkEntries r
def uptoBulkEntry {H : Type} : Lit × DataW H → Nat
  | (.string bytes, d) => bytes.length + uptoBulk d + 1
  | (_, d) => uptoBulk d + 1
 end
def uptoSmall : (H : Type) → List (DataW H) → Bool := fun _ ds => decide (uptoBulkAll ds ≤ 1048576)
def OpenSpec.upto (s : _root_.Go.ChangeSpec) : _root_.Go.OpenSpec := { _root_.Go.OpenSpec.ofChange s with cond := some uptoSmall }

/-- 'orangerylaw16.CacheOnce', WHERE WHAT IT READS IS OF BULK AT MOST 1048576: true; the input reads as it did. -/
def cacheOnceUptoRow : OpenClaim := { program := "ytmoaddbpfekdbaa", sum := "c09ec4f90380fa5fb09c8e2ded5fc1570a14f6e4a34e3c00cb4e528d71074661", func := "orangery/orangerylaw16.CacheOnce", spec := "cacheOnce", unfollowed := true, recurses := true, apart := false, narrowed := true }
def CacheOnceUptoSaid : Prop := cacheOnceUptoRow.holds Try.pinned (OpenSpec.upto cacheOnceSpec)

/-- 'orangerylaw16.CacheLoads', WHERE WHAT IT READS IS OF BULK AT MOST 1048576: true; the input reads as it did. -/
def cacheLoadsUptoRow : OpenClaim := { program := "ytmoaddbpfekdbaa", sum := "c09ec4f90380fa5fb09c8e2ded5fc1570a14f6e4a34e3c00cb4e528d71074661", func := "orangery/orangerylaw16.CacheLoads", spec := "cacheLoads", unfollowed := true, recurses := true, apart := false, narrowed := true }
def CacheLoadsUptoSaid : Prop := cacheLoadsUptoRow.holds Try.pinned (OpenSpec.upto cacheLoadsSpec)

/-- 'orangerylaw16.CacheLine', WHERE WHAT IT READS IS OF BULK AT MOST 1048576: true; the input reads as it did. -/
def cacheLineUptoRow : OpenClaim := { program := "ytmoaddbpfekdbaa", sum := "c09ec4f90380fa5fb09c8e2ded5fc1570a14f6e4a34e3c00cb4e528d71074661", func := "orangery/orangerylaw16.CacheLine", spec := "cacheLine", unfollowed := true, recurses := true, apart := false, narrowed := true }
def CacheLineUptoSaid : Prop := cacheLineUptoRow.holds Try.pinned (OpenSpec.upto cacheLineSpec)

/-- 'orangerylaw16.CacheClock', WHERE WHAT IT READS IS OF BULK AT MOST 1048576: true; the input reads as it did. -/
def cacheClockUptoRow : OpenClaim := { program := "ytmoaddbpfekdbaa", sum := "c09ec4f90380fa5fb09c8e2ded5fc1570a14f6e4a34e3c00cb4e528d71074661", func := "orangery/orangerylaw16.CacheClock", spec := "cacheClock", unfollowed := true, recurses := true, apart := false, narrowed := true }
def CacheClockUptoSaid : Prop := cacheClockUptoRow.holds Try.pinned (OpenSpec.upto cacheClockSpec)

/-- 'orangerylaw16.CacheNames', WHERE WHAT IT READS IS OF BULK AT MOST 1048576: true; the input reads as it did. -/
def cacheNamesUptoRow : OpenClaim := { program := "ytmoaddbpfekdbaa", sum := "c09ec4f90380fa5fb09c8e2ded5fc1570a14f6e4a34e3c00cb4e528d71074661", func := "orangery/orangerylaw16.CacheNames", spec := "cacheNames", unfollowed := true, recurses := true, apart := false, narrowed := true }
def CacheNamesUptoSaid : Prop := cacheNamesUptoRow.holds Try.pinned (OpenSpec.upto cacheNamesSpec)

end Rows
end Go.Proofs.Ytmoaddbpfekdbaa
