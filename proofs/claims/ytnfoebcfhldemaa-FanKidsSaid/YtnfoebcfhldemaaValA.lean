/- What the functions of layer 4 come to, one: 'Of', 'Check', 'Text', of the program and of the document. -/
import Derived.Test.YtnfoebcfhldemaaVal0
import Derived.Test.YtnfoebcfhldemaaBase
import Derived.Lib.BufferWrite
import Derived.Lib.SlBuf
import Derived.Laws.BytesArg
import Derived.Deep.LoopGhost
import Derived.BigQuiet
import Derived.Deep.QuietTactic
import Derived.Outline
namespace Go.Proofs.Ytnfoebcfhldemaa
set_option maxRecDepth 100000
open Go.RowKit
set_option linter.unusedVariables false

def nums (s : ByteArray) : List Int := s.data.toList.map fun u => (u.toNat : Int)
theorem nums_len (s : ByteArray) : (nums s).length = s.size := by rw [nums, List.length_map, ← Lib.size_eq]
theorem nums_cells (s : ByteArray) : Lib.byteCells s.data.toList = u8s (nums s) := by simp [Lib.byteCells, nums, u8s]
theorem nums_bytes (s : ByteArray) : Bytes (nums s) := fun z hz => by
  obtain ⟨u, _, rfl⟩ := List.mem_map.1 hz
  have := u.toNat_lt
  omega
theorem nums_str {l : List Int} (h : Bytes l) : nums (strOfNums l) = l := by
  show (l.map fun n => UInt8.ofNat n.toNat).map (fun u => (u.toNat : Int)) = l
  rw [List.map_map]
  conv => rhs; rw [← List.map_id l]
  apply List.map_congr_left
  intro z hz
  have hb := h z hz
  show ((UInt8.ofNat z.toNat).toNat : Int) = z
  rw [UInt8.toNat_ofNat_of_lt' (by show z.toNat < 256; omega)]
  omega
theorem str_nums (s : ByteArray) : strOfNums (nums s) = s := by
  apply ByteArray.ext
  apply Array.ext'
  show ((nums s).map fun n => UInt8.ofNat n.toNat) = s.data.toList
  rw [nums, List.map_map]
  conv => rhs; rw [← List.map_id s.data.toList]
  apply List.map_congr_left
  intro u _
  simp
theorem str_size (l : List Int) : (strOfNums l).size = l.length := by
  show ((l.map fun n => UInt8.ofNat n.toNat).toArray).size = l.length
  simp
theorem nums_at (s : ByteArray) (j : Nat) (h : j < s.size) : (nums s).getD j 0 = ((s[j]).toNat : Int) := by
  have h' : j < s.data.toList.length := by rw [← Lib.size_eq]; exact h
  rw [nums, List.getD, List.getElem?_map, List.getElem?_eq_getElem h']
  rfl
/-- The value of the bytes of s, where they are not too many. -/
def ofV (s : ByteArray) : RV := ⟨s.size, nums s ++ List.replicate (16 - s.size) 0⟩
theorem ofV_wf {s : ByteArray} (h : s.size ≤ 16) : (ofV s).wf := ⟨by simp [ofV]; omega, by simp [ofV, nums_len]; omega, fun z hz => by
  rcases List.mem_append.1 hz with hz | hz
  · exact nums_bytes s z hz
  · exact bytes_zeros _ z hz⟩
/-- The value of bytes. -/
def mkV (l : List Int) : RV := ⟨l.length, l ++ List.replicate (16 - l.length) 0⟩
theorem ofV_mk (s : ByteArray) : ofV s = mkV (nums s) := by simp [ofV, mkV, nums_len]
/-- N is from 0 to 16, and what lies behind is 0. -/
def okV (v : RV) : Bool := decide (0 ≤ v.n) && (decide (v.n ≤ 16) && decide (v = mkV (v.bs.take v.n.toNat)))
theorem okV_lo {v : RV} (h : v.n < 0) : okV v = false := by simp [okV]; omega
theorem okV_hi {v : RV} (h : 16 < v.n) : okV v = false := by simp [okV]; omega
theorem okV_in {v : RV} {m : Nat} (hm : m ≤ 16) (hn : v.n = m) : okV v = decide (v = mkV (v.bs.take m)) := by
  have h1 : 0 ≤ v.n := by omega
  have h2 : v.n ≤ 16 := by omega
  rw [okV, decide_eq_true h1, decide_eq_true h2, Bool.true_and, Bool.true_and, hn, Int.toNat_natCast]
theorem okV_n {v : RV} (h : okV v = true) : ∃ m : Nat, m ≤ 16 ∧ v.n = m ∧ v = mkV (v.bs.take m) := by
  simp only [okV, Bool.and_eq_true, decide_eq_true_iff] at h
  exact ⟨v.n.toNat, by omega, by omega, h.2.2⟩
theorem ofV_ok {s : ByteArray} (h : s.size ≤ 16) : okV (ofV s) = true := by
  rw [okV_in (m := s.size) h rfl, decide_eq_true_iff]
  have : (ofV s).bs.take s.size = nums s := by
    show (nums s ++ _).take s.size = _
    rw [← nums_len s, List.take_left]
  rw [this, ofV_mk]
theorem mk_iff {v : RV} {m : Nat} (hm : m ≤ 16) (hn : v.n = m) (hl : v.bs.length = 16) : v = mkV (v.bs.take m) ↔ ∀ t, m ≤ t → t < 16 → v.bs.getD t 0 = 0 := by
  have hlen : (v.bs.take m).length = m := by simp [hl]; omega
  constructor
  · intro e t h1 h2
    rw [e]
    show (v.bs.take m ++ List.replicate (16 - (v.bs.take m).length) 0).getD t 0 = 0
    rw [List.getD, List.getElem?_append_right (by omega), hlen]
    simp [List.getElem?_replicate]
    split <;> rfl
  · intro h
    obtain ⟨n, bs⟩ := v
    simp only at hn hl h hlen
    subst hn
    simp only [mkV, RV.mk.injEq, hlen, true_and]
    apply List.ext_getElem (by simp [hl]; omega)
    intro i h1 h2
    by_cases hi : i < m
    · rw [List.getElem_append_left (by omega)]
      simp
    · rw [List.getElem_append_right (by omega)]
      have := h i (by omega) (by omega)
      simp [h1] at this
      simp [this]
theorem zero_cells : (vc zeroV).toArray = #[.int .i64 0, .int .u8 0, .int .u8 0, .int .u8 0, .int .u8 0, .int .u8 0, .int .u8 0, .int .u8 0, .int .u8 0, .int .u8 0, .int .u8 0, .int .u8 0, .int .u8 0, .int .u8 0, .int .u8 0, .int .u8 0, .int .u8 0] := rfl
theorem valS : Sty Try.prog 34 17 := ⟨val_info, _, Try.underlying34, rfl⟩
theorem val_ld (p : Value) : Instr.loadAt 34 p = ldS 34 p := rfl
/-- The cells of a value of so many bytes, all 0. -/
def lit0 (n : Int) : List Value := .int .i64 n :: List.replicate 16 (.int .u8 0)
theorem lit0_one (n : Int) : One (lit0 n) := One.cons rfl fun v hv => by rw [List.eq_of_mem_replicate hv]; rfl
theorem lit0_len (n : Int) : (lit0 n).length = 17 := by simp [lit0]
theorem zeroV_len : (vc zeroV).length = 17 := rfl
theorem of_cells (s : ByteArray) (h : s.size ≤ 16) : (lit0 s.size).take 1 ++ Lib.byteCells s.data.toList ++ (lit0 s.size).drop (1 + s.size) = vc (ofV s) := by
  rw [nums_cells, Nat.add_comm 1, lit0, List.drop_succ_cons, List.drop_replicate]
  simp [vc, ofV, u8s]
theorem of_copy {w : World} {g : Nat} (s : ByteArray) (h : s.size ≤ 16) (ha : Arr w g 34 (lit0 s.size).toArray) :
    (Builtin.copy_ #[66, 9] 3 #[.slice (some ⟨g, 1, none⟩) 16 16, .string s]).run Try.prog w = .ok (goInt s.size) (w.setRow g (vc (ofV s)).toArray) := by
  rw [Lib.run_copy_row_string w 66 9 3 5 g 1 16 16 s _ 34 Try.underlying66 u8_size ha h (by simp [lit0]; omega)]
  rw [show ∀ l : List Value, l.toArray.toList = l from fun _ => rfl, of_cells s h]
set_option maxRecDepth 100000 in
set_option maxHeartbeats 4000000 in
theorem val_of_fits (s : ByteArray) (h : s.size ≤ 16) (w : World) : Calls Try.prog 87 #[.string s] w fun e w' => e = .returned (.tuple #[vv (ofV s), .int .i64 0]) ∧ Fr w w' := by
  have h1 : decide ((16 : Int) < (s.size : Int)) = false := by simp; omega
  have hl := vc_len (ofV_wf h).hl
  go_enter Try.func87, Try.ntmps87
  go_wp2_with (first
    | (refine wpList_store_new valS rfl (.tmp 4) (.tmp 11) rfl (w.heap.size + 1) (lit0 s.size) rfl rfl (lit0_len _) (lit0_one _) rfl (by simp) ?_
       generalize hX : World.alloc (World.alloc w _) _ = W
       have h3 : Arr W (w.heap.size + 1) 34 (lit0 s.size).toArray := by rw [← hX]; exact arr_at _ _ _ _ (by simp)
       have h4 : Arr W w.heap.size 34 (vc zeroV).toArray := by rw [← hX]; exact Arr.alloc (arr_at _ _ _ _ rfl) _
       have hF : Fr w W := by rw [← hX]; exact fr_new (fr_new (fr_refl w) _) _
       clear hX)
    | (refine Lib.wpList_copy_run _ rfl (.tmp 13) (.tmp 14) 66 9 rfl _ _ rfl rfl (of_copy s h h3) ?_
       generalize hX : World.setRow _ _ _ = W2
       have h5 : Arr W2 (w.heap.size + 1) 34 (vc (ofV s)).toArray := by rw [← hX]; exact h3.setRow _
       have h6 : Arr W2 w.heap.size 34 (vc zeroV).toArray := by rw [← hX]; exact h4.setRowOther _ (by omega)
       have hF2 : Fr w W2 := by rw [← hX]; exact fr_setRow hF (by omega) _
       clear hX h3 h4 hF)
    | (refine wpList_load_sty valS rfl (.tmp 4) rfl (w.heap.size + 1) rfl hl h5 ?_)
    | (refine wpList_store_sty valS rfl (.tmp 2) (.tmp 16) rfl w.heap.size (vc (ofV s)) rfl rfl hl (vc_one _) zeroV_len h6 ?_)
    | fail)
  exact bodyPost_ret (valS.result2 rfl _ w.heap.size rfl hl (h6.setRow _)) rfl ⟨rfl, fr_setRow hF2 (Nat.le_refl _) _⟩
/-- The first j bytes laid. -/
def ofVj (s : ByteArray) (j : Nat) : RV := ⟨s.size, (nums s).take j ++ List.replicate (16 - j) 0⟩
theorem ofVj_zero (s : ByteArray) : vc (ofVj s 0) = lit0 s.size := by simp [ofVj, lit0, vc, u8s]
theorem ofVj_end (s : ByteArray) : ofVj s s.size = ofV s := by
  rw [ofVj, ofV, List.take_of_length_le (by rw [nums_len]; exact Nat.le_refl _)]
theorem ofVj_len (s : ByteArray) (j : Nat) (h : j ≤ s.size) (h2 : s.size ≤ 16) : (vc (ofVj s j)).length = 17 := by simp [vc, ofVj, nums_len]; omega
theorem ofVj_set (s : ByteArray) (j : Nat) (h : j < s.size) (h2 : s.size ≤ 16) : (vc (ofVj s j)).toArray.setIfInBounds (1 + j) (.int .u8 (nums s)[j]!) = (vc (ofVj s (j + 1))).toArray := by
  have hlen := nums_len s
  apply Array.ext'
  rw [Array.toList_setIfInBounds]
  show (vc (ofVj s j)).set (1 + j) _ = vc (ofVj s (j + 1))
  apply List.ext_getElem?
  intro i
  rw [List.getElem?_set]
  rcases i with _ | i
  · rw [if_neg (by omega)]; rfl
  · have e : ∀ k, (vc (ofVj s k))[i + 1]? = (((nums s).take k ++ List.replicate (16 - k) 0).map (Value.int .u8))[i]? := fun k => by simp [vc, ofVj, u8s]
    rw [e, e]
    have hl : (vc (ofVj s j)).length = 17 := ofVj_len s j (by omega) h2
    by_cases hi : i = j
    · subst hi
      rw [if_pos (by omega), if_pos (by omega), List.getElem?_map, List.getElem?_append_left (by simp; omega), List.getElem?_take_of_lt (by omega)]
      have : i < (nums s).length := by omega
      simp [this]
    · rw [if_neg (by omega), List.getElem?_map, List.getElem?_map]
      congr 1
      by_cases hij : i < j
      · rw [List.getElem?_append_left (by simp; omega), List.getElem?_append_left (by simp; omega), List.getElem?_take_of_lt hij, List.getElem?_take_of_lt (by omega)]
      · rw [List.getElem?_append_right (by simp; omega), List.getElem?_append_right (by simp; omega), List.getElem?_replicate, List.getElem?_replicate]
        simp only [List.length_take]
        split <;> split <;> first | rfl | omega
theorem nums_get (s : ByteArray) (j : Nat) (h : j < s.size) : (nums s)[j]! = ((s[j]).toNat : Int) := by
  have h' : j < (nums s).length := by rw [nums_len]; exact h
  rw [getElem!_pos (nums s) j h', ← nums_at s j h, List.getD, List.getElem?_eq_getElem h']
  rfl
set_option maxRecDepth 100000 in
set_option maxHeartbeats 1000000 in
theorem val_of_big (s : ByteArray) (h : 16 < s.size) (hm : s.size ≤ 9223372036854775807) (w : World) : Calls Try.prog 87 #[.string s] w fun e w' => e = .returned (.tuple #[vv zeroV, .int .i64 2]) ∧ Fr w w' := by
  go_enter Try.func87, Try.ntmps87
  go_wp2_with (refine wpList_store_new valS rfl (.tmp 2) (.tmp 8) rfl w.heap.size (vc zeroV) rfl rfl rfl (vc_one _) rfl rfl ?_
               generalize hX : World.alloc w _ = W
               have h3 : Arr W w.heap.size 34 (vc zeroV).toArray := by rw [← hX]; exact arr_at _ _ _ _ rfl
               have hF : Fr w W := by rw [← hX]; exact fr_new (fr_refl w) _
               clear hX)
  exact bodyPost_ret (valS.result2 rfl _ w.heap.size rfl zeroV_len h3) rfl ⟨rfl, hF⟩
set_option maxRecDepth 100000 in
set_option maxHeartbeats 1000000 in
theorem ref_vof_big (s : ByteArray) (h : 16 < s.size) (hm : s.size ≤ 9223372036854775807) (w : World) : Calls Try.prog 72 #[.string s] w fun e w' => e = .returned (.tuple #[vv zeroV, .int .i64 2]) ∧ Fr w w' := by
  go_enter Try.func72, Try.ntmps72
  go_wp2_with (first
    | (refine wpList_store_new valS rfl (.tmp 4) (.tmp 6) rfl (w.heap.size + 1) (vc zeroV) rfl rfl rfl (vc_one _) rfl (by simp) ?_
       generalize hX : World.alloc (World.alloc w _) _ = W
       have h3 : Arr W w.heap.size 34 (vc zeroV).toArray := by rw [← hX]; exact Arr.alloc (arr_at _ _ _ _ rfl) _
       have h4 : Arr W (w.heap.size + 1) 34 (vc zeroV).toArray := by rw [← hX]; exact arr_at _ _ _ _ (by simp)
       have hF : Fr w W := by rw [← hX]; exact fr_new (fr_new (fr_refl w) _) _
       clear hX)
    | (refine wpList_load_sty valS rfl (.tmp 4) rfl (w.heap.size + 1) rfl zeroV_len h4 ?_)
    | (refine wpList_store_sty valS rfl (.tmp 2) (.tmp 10) rfl w.heap.size (vc zeroV) rfl rfl rfl (vc_one _) zeroV_len h3 ?_)
    | fail)
  exact bodyPost_ret (valS.result2 rfl _ w.heap.size rfl zeroV_len (h3.setRow _)) rfl ⟨rfl, fr_setRow hF (Nat.le_refl _) _⟩
set_option maxRecDepth 100000 in
set_option maxHeartbeats 1000000 in
theorem ref_vof_fits (s : ByteArray) (h : s.size ≤ 16) (w : World) : Calls Try.prog 72 #[.string s] w fun e w' => e = .returned (.tuple #[vv (ofV s), .int .i64 0]) ∧ Fr w w' := by
  have h1 : decide ((16 : Int) < (s.size : Int)) = false := by simp; omega
  have hl := vc_len (ofV_wf h).hl
  go_enter Try.func72, Try.ntmps72
  go_wp2_with (first
    | (refine wpList_store_new valS rfl (.tmp 4) (.tmp 6) rfl (w.heap.size + 1) (vc zeroV) rfl rfl rfl (vc_one _) rfl (by simp) ?_
       generalize hX : World.alloc (World.alloc w _) _ = W
       have h3 : Arr W w.heap.size 34 (vc zeroV).toArray := by rw [← hX]; exact Arr.alloc (arr_at _ _ _ _ rfl) _
       have h4 : Arr W (w.heap.size + 1) 34 (vc zeroV).toArray := by rw [← hX]; exact arr_at _ _ _ _ (by simp)
       have hF : Fr w W := by rw [← hX]; exact fr_new (fr_new (fr_refl w) _) _
       have hc4 : W.cell? ⟨w.heap.size + 1, 0, none⟩ = some (.int .i64 0) := h4.cell 0
       have hf4 := h4.free 0
       clear hX)
    | fail)
  have h5 : Arr (W.setCell ⟨w.heap.size + 1, 0, none⟩ (.int .i64 (s.size : Int))) (w.heap.size + 1) 34 (vc (ofVj s 0)).toArray := by rw [ofVj_zero]; exact h4.set 0 _
  have h6 : Arr (W.setCell ⟨w.heap.size + 1, 0, none⟩ (.int .i64 (s.size : Int))) w.heap.size 34 (vc zeroV).toArray := h3.other _ (by simp) _
  have hF2 : Fr w (W.setCell ⟨w.heap.size + 1, 0, none⟩ (.int .i64 (s.size : Int))) := hF.setCell (by simp) _
  generalize W.setCell ⟨w.heap.size + 1, 0, none⟩ (.int .i64 (s.size : Int)) = W1 at *
  clear h3 h4 hF hc4 hf4
  go_loopg [5] s.size (fun g i wr => ∃ j : Nat, j + g = s.size ∧ i = .int .i64 j ∧ Arr wr (w.heap.size + 1) 34 (vc (ofVj s j)).toArray ∧ Arr wr w.heap.size 34 (vc zeroV).toArray ∧ Fr w wr)
  case atStart => exact ⟨0, by omega, rfl, h5, h6, hF2⟩
  case round =>
    obtain ⟨j, hj, rfl, h3, h4, hF⟩ := hrel
    have Hj := keep hj
    by_cases hlt : j < s.size
    · have hc := (h3.cell (1 + j)).trans ((by simp : (vc (ofVj s j)).toArray[1 + j]? = (vc (ofVj s j))[1 + j]?).trans (vc_at _ j (by simp [ofVj, nums_len]; omega)))
      have hf := h3.free (1 + j)
      have Hx := keep (nums_get s j hlt)
      clear hj h5 h6 hF2
      go_wp2_with fail
      go_roundg (gk - 1)
      case measure => have := Hj.out; omega
      case rel => exact ⟨j + 1, by have := Hj.out; omega, by go_num, by rw [← ofVj_set s j hlt h, Hx.out]; exact h3.set _ _, h4.other _ (by simp) _, hF.setCell (by simp) _⟩
    · obtain rfl : j = s.size := by omega
      rw [ofVj_end] at h3
      clear hj h5 h6 hF2
      go_wp2_with (first
        | (refine wpList_load_sty valS rfl (.tmp 4) rfl (w.heap.size + 1) rfl hl h3 ?_)
        | (refine wpList_store_sty valS rfl (.tmp 2) (.tmp 26) rfl w.heap.size (vc (ofV s)) rfl rfl hl (vc_one _) zeroV_len h4 ?_)
        | fail)
      exact bodyPost_ret (valS.result2 rfl _ w.heap.size rfl hl (h4.setRow _)) rfl ⟨rfl, fr_setRow hF (Nat.le_refl _) _⟩
end Go.Proofs.Ytnfoebcfhldemaa
