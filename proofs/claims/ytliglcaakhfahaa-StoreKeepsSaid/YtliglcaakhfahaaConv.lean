/- Bytes as strings. -/
import Derived.Test.YtliglcaakhfahaaRows
import Derived.Test.YtliglcaakhfahaaObj
import Derived.Laws.BytesArg
import Derived.Laws.BytesString
import Derived.Lib.Strings
namespace Go.Proofs.Ytliglcaakhfahaa
set_option linter.unusedVariables false
set_option linter.unusedSimpArgs false
set_option maxRecDepth 100000
open Go.RowKit
def nums (s : ByteArray) : List Int := s.data.toList.map fun u => (u.toNat : Int)
theorem nums_len (s : ByteArray) : (nums s).length = s.size := by rw [nums, List.length_map, ← Lib.size_eq]
theorem nums_bytes (s : ByteArray) : Bytes (nums s) := fun z hz => by
  obtain ⟨u, _, rfl⟩ := List.mem_map.1 hz
  have := u.toNat_lt
  omega
theorem nums_str {l : List Int} (h : Bytes l) : nums (strOfNums l) = l := by
  show (l.map fun n => UInt8.ofNat n.toNat).map (fun u => (u.toNat : Int)) = l
  rw [List.map_map]
  conv => rhs; rw [← List.map_id l]
  apply List.map_congr_left
  intro z hz
  have hb := h z hz
  show ((UInt8.ofNat z.toNat).toNat : Int) = z
  rw [UInt8.toNat_ofNat_of_lt' (by show z.toNat < 256; omega)]
  omega
theorem str_size (l : List Int) : (strOfNums l).size = l.length := by
  show ((l.map fun n => UInt8.ofNat n.toNat).toArray).size = l.length
  simp
theorem cstr_eq {s t : ByteArray} : (s.toList == t.toList) = decide (s = t) := by
  rw [Bool.eq_iff_iff, beq_iff_eq, decide_eq_true_iff]
  constructor
  · intro h
    rw [Lib.toList_data, Lib.toList_data] at h
    exact ByteArray.ext (Array.ext' h)
  · intro h; rw [h]
theorem strN_inj {xs ys : List Int} (hx : Bytes xs) (hy : Bytes ys) : strOfNums xs = strOfNums ys ↔ xs = ys := ⟨fun h => by rw [← nums_str hx, h, nums_str hy], fun h => by rw [h]⟩
theorem conv_str {w : World} {B : Nat} {A : Option Addr} {n c : Nat} {xs : List Int} (h : Has w B A (u8s xs)) (hn : xs.length = n) : (convert 40 9 (.slice A n c)).run Try.prog w = .ok (.string (strOfNums xs)) w := by
  cases A with
  | none =>
    have h0 := h.none_nil
    obtain rfl : xs = [] := by simpa [u8s] using h0
    exact run_convert_bytes_nil w 40 5 Try.underlying40 Try.underlying5 n c 9 Try.underlying9
  | some a =>
    by_cases h0 : xs = []
    · subst h0
      obtain rfl : n = 0 := by simpa using hn.symm
      rw [run_convert_bytes_string w 40 9 5 _ 0 c Try.underlying40 Try.underlying5 Try.underlying9]
      simp [Conv.bytesToString, loadCells, loadCellsFrom]
      rfl
    · obtain ⟨b, o, e, -, hc⟩ := h.form (by simpa [u8s] using h0)
      rw [e]
      exact run_convert_bytes_arg w 40 5 Try.underlying40 Try.underlying5 b o n c xs hn (fun i hi => by
        rw [hc i (.int .u8 (xs.getD i 0))]
        simp [u8s, List.getD, hn ▸ hi]) 9 Try.underlying9
end Go.Proofs.Ytliglcaakhfahaa
