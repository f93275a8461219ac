/- Keys as values: a number and eight bytes. -/
import Derived.Test.YtnfoebcfhldemaaRows
import Derived.Test.YtnfoebcfhldemaaBase
import Derived.DeepKeys5
import Derived.Maps.OwnSet
import Derived.Laws.CopyOwn
import Derived.Laws.Rows
import Derived.WalkLawsBesides
namespace Go.Proofs.Ytnfoebcfhldemaa
set_option maxRecDepth 100000
open Go.RowKit
set_option linter.unusedVariables false

/-- A key, valid or not. -/
structure RK where
  n : Int
  b0 : Int
  b1 : Int
  b2 : Int
  b3 : Int
  b4 : Int
  b5 : Int
  b6 : Int
  b7 : Int
  deriving DecidableEq, Inhabited
/-- Its cells. -/
abbrev kc (k : RK) : List Value := [.int .i64 k.n, .int .u8 k.b0, .int .u8 k.b1, .int .u8 k.b2, .int .u8 k.b3, .int .u8 k.b4, .int .u8 k.b5, .int .u8 k.b6, .int .u8 k.b7]
abbrev kv (k : RK) : Value := .agg #[.int .i64 k.n, .int .u8 k.b0, .int .u8 k.b1, .int .u8 k.b2, .int .u8 k.b3, .int .u8 k.b4, .int .u8 k.b5, .int .u8 k.b6, .int .u8 k.b7]
def Byt (z : Int) : Prop := 0 ≤ z ∧ z ≤ 255
/-- What every key that comes in is. -/
structure RK.wf (k : RK) : Prop where
  hn : -9223372036854775808 ≤ k.n ∧ k.n ≤ 9223372036854775807
  h0 : Byt k.b0
  h1 : Byt k.b1
  h2 : Byt k.b2
  h3 : Byt k.b3
  h4 : Byt k.b4
  h5 : Byt k.b5
  h6 : Byt k.b6
  h7 : Byt k.b7
def RK.at (k : RK) : Nat → Int
  | 0 => k.b0 | 1 => k.b1 | 2 => k.b2 | 3 => k.b3 | 4 => k.b4 | 5 => k.b5 | 6 => k.b6 | 7 => k.b7 | _ => 0
/-- The first m bytes of k, as a key. -/
def firstK (k : RK) (m : Nat) : RK := ⟨m, if 0 < m then k.b0 else 0, if 1 < m then k.b1 else 0, if 2 < m then k.b2 else 0, if 3 < m then k.b3 else 0, if 4 < m then k.b4 else 0, if 5 < m then k.b5 else 0, if 6 < m then k.b6 else 0, if 7 < m then k.b7 else 0⟩
def zeroK : RK := ⟨0, 0, 0, 0, 0, 0, 0, 0, 0⟩
theorem key_info : (Try.prog.info? 27).map (·.size) = some 9 := by kernel_rfl
theorem u8_size : (Try.prog.info? 5).map (·.size) = some 1 := by kernel_rfl
theorem bytes_one : ∀ (l : List Int), ∀ v ∈ l.map (Value.int .u8), v.oneCell' = true := by
  intro l v hv
  obtain ⟨z, _, rfl⟩ := List.mem_map.1 hv
  rfl
theorem arr_new_at (w : World) (cs : Array Value) (T g : Nat) (hg : w.heap.size = g) : Arr (w.alloc (.cells cs T)) g T cs := hg ▸ Arr.new w cs T
def kbs (k : RK) : List Int := [k.b0, k.b1, k.b2, k.b3, k.b4, k.b5, k.b6, k.b7]
theorem below_setRow {B g : Nat} {a w : World} (h : Below B a w) (hg : B ≤ g) (cs : Array Value) : Below B a (w.setRow g cs) :=
  h.trans ⟨rfl, rfl, rfl, by simp [World.setRow], fun k hk => by simp only [World.setRow, Array.getElem?_modify]; rw [if_neg (by omega)]⟩
theorem splice_first (k : RK) (m : Nat) (hm : m ≤ 8) : splice [.int .i64 (m : Int), .int .u8 0, .int .u8 0, .int .u8 0, .int .u8 0, .int .u8 0, .int .u8 0, .int .u8 0, .int .u8 0] 1 (((kbs k).take m).map (Value.int .u8)) = kc (firstK k m) := by
  rcases m with _|_|_|_|_|_|_|_|_|m
  all_goals first | (simp [splice, kbs, firstK]; done) | omega
theorem kc_one (k : RK) : ∀ v ∈ kc k, v.oneCell' = true := by
  intro v hv
  simp at hv
  rcases hv with rfl | rfl | rfl | rfl | rfl | rfl | rfl | rfl | rfl <;> rfl
theorem kc_all (k : RK) : (kc k).toArray.all (·.oneCell') = true := by simp [Value.oneCell']
theorem kc_byte (k : RK) (m j : Nat) (v : Value) (h : (((kbs k).take m).map (Value.int .u8))[j]? = some v) : (kc k)[1 + j]? = some v := by
  rw [List.getElem?_map] at h
  have h' : (((kbs k).map (Value.int .u8)))[j]? = some v := by
    rw [List.getElem?_map]
    have hj : j < m := by
      rcases Nat.lt_or_ge j m with h1 | h1
      · exact h1
      · rw [List.getElem?_eq_none (by simp; omega)] at h
        simp at h
    rw [List.getElem?_take_of_lt hj] at h
    exact h
  rw [← h', Nat.add_comm]
  rfl
/-- 'B[:m]' of an array of eight bytes. -/
theorem slice8 (m : Nat) (hm : m ≤ 8) (g : Nat) (W : World) : (Instr.sliceAt 25 (.pointer (some ⟨g, 1, none⟩)) none (some (.int .i64 (m : Int))) none).run Try.prog W = .ok (.slice (some ⟨g, 1, none⟩) m 8) W := by
  have hA : (Try.prog.arrayLen 25) = 8 := by kernel_rfl
  have h := run_sliceAt_array_h (P := Try.prog) (w := W) (t := 25) (a := ⟨g, 1, none⟩) (ht := by kernel_rfl) .i64 (m : Int) (by omega) (by rw [hA]; omega)
  rw [hA] at h
  rw [h]
  have hs : (sizeOf (Try.prog.elem 25)).run Try.prog W = .ok 1 W := by kernel_rfl
  rw [hs]
  simp [Result.andThen, slicedAt, Addr.add]
theorem results_cell_tmp {P : Program} {fn : Func} {p t : Tmp} {ty : TypeId} (h : fn.results = #[.cell p ty, .tmp t]) (tmps : Array Value) (w : World) (g : Nat) (T : TypeId) (cs : Array Value) (fr : Nat × Nat) (d : TypeDesc)
    (hp : tmps.getD p undef = .pointer (some ⟨g, 0, none⟩)) (hg : w.heap[g]? = some (.cells cs T fr))
    (hu : P.underlying ty = some d) (hd : (match d with | .struct _ | .array _ _ => true | _ => false) = true) (hi : (P.info? ty).map (·.size) = some cs.size) :
    (results fn tmps).run P w = .ok (.tuple #[.agg cs, tmps.getD t undef]) w := by
  have hp' : tmps[p]?.getD undef = .pointer (some ⟨g, 0, none⟩) := by simpa using hp
  simp [results, h, hp', asAddr, run_loadVar_row w g T ty cs fr d hg hu hd hi]
end Go.Proofs.Ytnfoebcfhldemaa
