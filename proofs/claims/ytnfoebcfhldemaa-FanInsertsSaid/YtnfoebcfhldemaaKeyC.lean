/- What the functions of layer 3 come to, three: 'Of' and 'Text', of the program and of the document. -/
import Derived.Test.YtnfoebcfhldemaaKeyB
import Derived.Lib.BufferWrite
import Derived.Lib.SlBuf
import Derived.Laws.BytesArg
import Derived.Deep.LoopGhost
namespace Go.Proofs.Ytnfoebcfhldemaa
set_option maxRecDepth 100000
open Go.RowKit
set_option linter.unusedVariables false

/-- The byte of s at place i; 0 behind its end. -/
def sb (s : ByteArray) (i : Nat) : Int := if h : i < s.size then ((s[i]).toNat : Int) else 0
/-- The key of the bytes of s, where they are not too many. -/
def ofS (s : ByteArray) : RK := ⟨s.size, sb s 0, sb s 1, sb s 2, sb s 3, sb s 4, sb s 5, sb s 6, sb s 7⟩
theorem sb_byt (s : ByteArray) (i : Nat) : Byt (sb s i) := by
  unfold sb Byt
  split
  · have := (s[i]).toNat_lt; omega
  · omega
theorem sb_in (s : ByteArray) (i : Nat) (h : i < s.size) : sb s i = ((s[i]).toNat : Int) := by simp [sb, h]
theorem sb_out (s : ByteArray) (i : Nat) (h : s.size ≤ i) : sb s i = 0 := by simp [sb, Nat.not_lt.2 h]
theorem ofS_wf (s : ByteArray) (h : s.size ≤ 8) : (ofS s).wf := by
  constructor
  · simp [ofS]; omega
  all_goals exact sb_byt s _
theorem ofS_at (s : ByteArray) (i : Nat) (h : i < 8) : (ofS s).at i = sb s i := by
  rcases i with _|_|_|_|_|_|_|_|i
  all_goals first | rfl | omega
theorem ofS_ok (s : ByteArray) (h : s.size ≤ 8) : okB (ofS s) = true := by
  rw [okB_in (m := s.size) h rfl, decide_eq_true_iff]
  exact (first_iff _ _ h rfl).2 fun t a b => by rw [ofS_at s t b, sb_out s t a]
theorem data_get (s : ByteArray) (i : Nat) : s.data.toList[i]? = if h : i < s.size then some s[i] else none := by
  by_cases h : i < s.size
  · rw [dif_pos h]; exact List.getElem?_eq_getElem (by rw [← Lib.size_eq]; exact h)
  · rw [dif_neg h]; exact List.getElem?_eq_none (by rw [← Lib.size_eq]; omega)
theorem sb_list (s : ByteArray) (i : Nat) : sb s i = ((s.data.toList[i]?).map fun u => (u.toNat : Int)).getD 0 := by
  rw [data_get]
  unfold sb
  by_cases h : i < s.size <;> simp [h]
theorem ofS_cells (s : ByteArray) (h : s.size ≤ 8) (l : List UInt8) (hl : s.data.toList = l) :
    (([Value.int .i64 (s.size : Int), .int .u8 0, .int .u8 0, .int .u8 0, .int .u8 0, .int .u8 0, .int .u8 0, .int .u8 0, .int .u8 0].take 1 ++ Lib.byteCells l ++ [Value.int .i64 (s.size : Int), .int .u8 0, .int .u8 0, .int .u8 0, .int .u8 0, .int .u8 0, .int .u8 0, .int .u8 0, .int .u8 0].drop (1 + s.size)) : List Value) = kc (ofS s) := by
  have hs : s.size = l.length := by rw [Lib.size_eq, hl]
  unfold ofS
  simp only [sb_list, hl, hs]
  rw [hs] at h
  rcases l with _|⟨_, _|⟨_, _|⟨_, _|⟨_, _|⟨_, _|⟨_, _|⟨_, _|⟨_, _|⟨_, l⟩⟩⟩⟩⟩⟩⟩⟩⟩
  all_goals first | (simp [Lib.byteCells]; done) | (simp at h)
/-- The first j bytes laid. -/
def ofSj (s : ByteArray) (j : Nat) : RK := ⟨s.size, if 0 < j then sb s 0 else 0, if 1 < j then sb s 1 else 0, if 2 < j then sb s 2 else 0, if 3 < j then sb s 3 else 0, if 4 < j then sb s 4 else 0, if 5 < j then sb s 5 else 0, if 6 < j then sb s 6 else 0, if 7 < j then sb s 7 else 0⟩
theorem ofSj_end (s : ByteArray) : ofSj s s.size = ofS s := by
  have h : ∀ i, (if i < s.size then sb s i else 0) = sb s i := fun i => by
    split
    · rfl
    · rw [sb_out s i (by omega)]
  simp only [ofSj, ofS, h]
theorem ofSj_set (s : ByteArray) (j : Nat) (h : j < 8) : (kc (ofSj s j)).toArray.setIfInBounds (1 + j) (.int .u8 (sb s j)) = (kc (ofSj s (j + 1))).toArray := by
  rcases j with _|_|_|_|_|_|_|_|j
  all_goals first | omega | simp [ofSj]
set_option maxRecDepth 100000 in
set_option maxHeartbeats 1000000 in
theorem ref_of_big (s : ByteArray) (h : 8 < s.size) (hm : s.size ≤ 9223372036854775807) (w : World) : Calls Try.prog 48 #[.string s] w fun e w' => e = .returned (.tuple #[kv zeroK, .int .i64 2]) ∧ Below w.heap.size w w' := by
  go_enter Try.func48, Try.ntmps48
  go_wp2
  exact bodyPost_ret (v := .tuple #[kv zeroK, .int .i64 2]) (by simp [results, Try.results48, go_sem, zeroK]) rfl ⟨rfl, by first | exact fr_new (fr_new (fr_refl w) _) _ | skip⟩
set_option maxRecDepth 100000 in
set_option maxHeartbeats 1000000 in
theorem ref_of_fits (s : ByteArray) (h : s.size ≤ 8) (w : World) : Calls Try.prog 48 #[.string s] w fun e w' => e = .returned (.tuple #[kv (ofS s), .int .i64 0]) ∧ Below w.heap.size w w' := by
  have h1 : decide ((8 : Int) < (s.size : Int)) = false := by simp; omega
  go_enter Try.func48, Try.ntmps48
  go_wp2_with fail
  go_loopg [5] s.size (fun g i wr => ∃ j : Nat, j + g = s.size ∧ i = .int .i64 j ∧ Arr wr (w.heap.size + 1) 27 (kc (ofSj s j)).toArray ∧ Arr wr w.heap.size 27 (kc zeroK).toArray ∧ Fr w wr)
  case atStart => exact ⟨0, by omega, rfl, arr_new_at _ _ _ _ (by simp), Arr.alloc (arr_new_at _ (kc zeroK).toArray _ _ rfl) _, fr_new (fr_new (fr_refl w) _) _⟩
  case round =>
    obtain ⟨j, hj, rfl, h3, h4, hF⟩ := hrel
    have Hj := keep hj
    by_cases hlt : j < s.size
    · have hc := (h3.cell (1 + j)).trans (kc_at _ j (by omega))
      have hf := h3.free (1 + j)
      have hx := sb_in s j hlt
      have Hx := keep hx
      clear hj hx
      go_wp2_with fail
      go_roundg (gk - 1)
      case measure => have := Hj.out; omega
      case rel => exact ⟨j + 1, by have := Hj.out; omega, by go_num, by rw [← ofSj_set s j (by omega), Hx.out]; exact h3.set _ _, h4.other _ (by simp) _, hF.setCell (by simp) _⟩
    · obtain rfl : j = s.size := by omega
      rw [ofSj_end] at h3
      clear hj
      go_wp2_with (first
        | (refine wpList_load_row rfl 27 (.tmp 4) rfl (w.heap.size + 1) rfl 27 (kc (ofS s)).toArray (0, 0) _ h3 Try.underlying27 rfl key_info ?_)
        | (refine wpList_store_row rfl 27 (.tmp 2) (.tmp 26) rfl w.heap.size (kc (ofS s)).toArray rfl rfl 27 (kc zeroK).toArray h4 key_info rfl (kc_all _) ?_)
        | fail)
      exact bodyPost_ret (results_cell_tmp rfl _ _ w.heap.size 27 (kc (ofS s)).toArray (0, 0) _ rfl (setRow_heap _ _ _ _ _ _ h4) Try.underlying27 rfl key_info) rfl ⟨rfl, below_setRow hF (Nat.le_refl _) _⟩
/-- The bytes of a key, as a text. -/
def txt (k : RK) : ByteArray := strOfNums ((kbs k).take k.n.toNat)
theorem kbs_get (k : RK) (m i : Nat) (hm : m ≤ 8) (hi : i < m) : ((kbs k).take m).getD i 0 = k.at i := by
  have h : ((kbs k).take m)[i]? = (kbs k)[i]? := List.getElem?_take_of_lt hi
  rw [List.getD, h]
  rcases i with _|_|_|_|_|_|_|_|i
  all_goals first | rfl | omega
theorem kbs_len (k : RK) (m : Nat) (hm : m ≤ 8) : ((kbs k).take m).length = m := by
  rcases m with _|_|_|_|_|_|_|_|_|m
  all_goals first | rfl | omega
theorem key_string (k : RK) (m : Nat) (hm : m ≤ 8) (g : Nat) (W : World) (ha : Arr W g 27 (kc k).toArray) : (convert 66 9 (.slice (some ⟨g, 1, none⟩) m 8)).run Try.prog W = .ok (.string (strOfNums ((kbs k).take m))) W :=
  run_convert_bytes_arg W 66 5 Try.underlying66 Try.underlying5 g 1 m 8 _ (kbs_len k m hm) (fun i hi => by rw [kbs_get k m i hm hi]; exact (ha.cell (1 + i)).trans (kc_at k i (by omega))) 9 Try.underlying9
theorem okB_n {k : RK} (h : okB k = true) : ∃ m : Nat, m ≤ 8 ∧ k.n = m ∧ k = firstK k m := by
  simp only [okB, Bool.and_eq_true, decide_eq_true_iff] at h
  refine ⟨k.n.toNat, by omega, by omega, h.2⟩
end Go.Proofs.Ytnfoebcfhldemaa
