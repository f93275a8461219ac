/- Package 03's Order at this seat. -/
import Derived.Test.YtmjjjdikpnhpiaaLfF
import Derived.Test.YtmjjjdikpnhpiaaShort
import Derived.Test.YtmjjjdikpnhpiaaBufT
import Derived.Test.YtmjjjdikpnhpiaaKeyA
import Derived.Deep.Slices
import Derived.ProofKit
import Derived.OpenShut
import Derived.SliceStrings
import Derived.Test.YtmjjjdikpnhpiaaValA
import Derived.Test.YtmjjjdikpnhpiaaMsg0
import Derived.Test.YtmjjjdikpnhpiaaValC
import Derived.ChangeSlices
import Derived.ChangeArms
import Derived.Test.YtmjjjdikpnhpiaaBufL
import Derived.Test.YtmjjjdikpnhpiaaLfA
import Derived.Maps.RangeWalk
import Derived.Deep.RegionLaw
import Derived.Deep.RegionWith
import Derived.Lib.AppendZeros
import Derived.Deep.RegionHeld3
namespace Go.Proofs.Ytmjjjdikpnhpiaa
set_option linter.unusedVariables false
set_option linter.unusedSimpArgs false
set_option maxRecDepth 100000
open Go.RowKit
section
open Go.Maps
def zbv (ks : List RK) : List Value := ks.flatMap kc
def zeN (w : World) (b off : Nat) (k : RK) : Prop := ∀ j v, (kc k)[j]? = some v → w.cell? ⟨b, off + j, none⟩ = some v
theorem zeN.lift {w w' : World} {b off : Nat} {k : RK} (h : zeN w b off k) (hc : ∀ p : Addr, p.block = b → w'.cell? p = w.cell? p) : zeN w' b off k := fun j v hj => (hc _ rfl).trans (h j v hj)
theorem zeN.below {w w' : World} {b off B : Nat} {k : RK} (h : zeN w b off k) (hb : Below B w w') (hl : b < B) : zeN w' b off k := h.lift fun p hp => hb.cell (by rw [hp]; exact hl)
theorem zeN.cells {w : World} {b off : Nat} {k : RK} (h : zeN w b off k) : w.cell? ⟨b, off, none⟩ = some (.int .i64 k.n) ∧ w.cell? ⟨b, off + 1, none⟩ = some (.int .u8 k.b0) ∧ w.cell? ⟨b, off + 2, none⟩ = some (.int .u8 k.b1) ∧ w.cell? ⟨b, off + 3, none⟩ = some (.int .u8 k.b2) ∧ w.cell? ⟨b, off + 4, none⟩ = some (.int .u8 k.b3) ∧ w.cell? ⟨b, off + 5, none⟩ = some (.int .u8 k.b4) ∧ w.cell? ⟨b, off + 6, none⟩ = some (.int .u8 k.b5) ∧ w.cell? ⟨b, off + 7, none⟩ = some (.int .u8 k.b6) ∧ w.cell? ⟨b, off + 8, none⟩ = some (.int .u8 k.b7) :=
 ⟨h 0 _ rfl, h 1 _ rfl, h 2 _ rfl, h 3 _ rfl, h 4 _ rfl, h 5 _ rfl, h 6 _ rfl, h 7 _ rfl, h 8 _ rfl⟩
def WfAll (ks : List RK) : Prop := ∀ k ∈ ks, k.wf
def ze5 (ks os : List RK) : Prop := os.Pairwise (fun a b => zu a < zu b) ∧ ∀ k, k ∈ os ↔ k ∈ ks ∧ okB k = true
def OrdOut (w : World) (ks : List RK) (e : Ending) (w' : World) : Prop := ∃ A c os, e = .returned (.slice A os.length c) ∧ ze5 ks os ∧ Own w' w.heap.size 69 9 A os.length c (zbv os) ∧ Fr w w'
def zfs (os : List RK) (t : Nat) (k : RK) : List RK := os.take t ++ [k] ++ os.drop t
def zac (A : Option Addr) (cap t : Nat) : Option Addr := if cap = t then A else A.map (·.add (t * 9))
theorem zlj (A : Option Addr) : A.map (·.add 0) = A := by cases A <;> simp [Addr.add]
end
section
attribute [local go_sem ↓] zt zw
abbrev OwnPv (w : World) (B : Nat) (A : Option Addr) (c : Nat) (l : List RK) : Prop := Own w B 69 9 A l.length c (zm kc l)
end
end Go.Proofs.Ytmjjjdikpnhpiaa
