/- What the functions of layer 3 come to, three: 'Of' and 'Text', of the program and of the document. -/
import Derived.Test.YtignnjflodkihaaKeyB
import Derived.Lib.BufferWrite
import Derived.Lib.SlBuf
import Derived.Laws.BytesArg
import Derived.Deep.LoopGhost
namespace Go.Proofs.Ytignnjflodkihaa
open Go.RowKit
set_option linter.unusedVariables false

/-- The byte of s at place i; 0 behind its end. -/
def sb (s : ByteArray) (i : Nat) : Int := if h : i < s.size then ((s[i]).toNat : Int) else 0
/-- The key of the bytes of s, where they are not too many. -/
def ofS (s : ByteArray) : RK := ⟨s.size, sb s 0, sb s 1, sb s 2, sb s 3, sb s 4, sb s 5, sb s 6, sb s 7⟩
theorem sb_byt (s : ByteArray) (i : Nat) : Byt (sb s i) := by
  unfold sb Byt
  split
  · have := (s[i]).toNat_lt; omega
  · omega
theorem sb_in (s : ByteArray) (i : Nat) (h : i < s.size) : sb s i = ((s[i]).toNat : Int) := by simp [sb, h]
theorem sb_out (s : ByteArray) (i : Nat) (h : s.size ≤ i) : sb s i = 0 := by simp [sb, Nat.not_lt.2 h]
theorem ofS_wf (s : ByteArray) (h : s.size ≤ 8) : (ofS s).wf := by
  constructor
  · simp [ofS]; omega
  all_goals exact sb_byt s _
theorem ofS_at (s : ByteArray) (i : Nat) (h : i < 8) : (ofS s).at i = sb s i := by
  rcases i with _|_|_|_|_|_|_|_|i
  all_goals first | rfl | omega
theorem ofS_ok (s : ByteArray) (h : s.size ≤ 8) : okB (ofS s) = true := by
  rw [okB_in (m := s.size) h rfl, decide_eq_true_iff]
  exact (first_iff _ _ h rfl).2 fun t a b => by rw [ofS_at s t b, sb_out s t a]
theorem data_get (s : ByteArray) (i : Nat) : s.data.toList[i]? = if h : i < s.size then some s[i] else none := by
  by_cases h : i < s.size
  · rw [dif_pos h]; exact List.getElem?_eq_getElem (by rw [← Lib.size_eq]; exact h)
  · rw [dif_neg h]; exact List.getElem?_eq_none (by rw [← Lib.size_eq]; omega)
theorem sb_list (s : ByteArray) (i : Nat) : sb s i = ((s.data.toList[i]?).map fun u => (u.toNat : Int)).getD 0 := by
  rw [data_get]
  unfold sb
  by_cases h : i < s.size <;> simp [h]
theorem ofS_cells (s : ByteArray) (h : s.size ≤ 8) (l : List UInt8) (hl : s.data.toList = l) :
    (([Value.int .i64 (s.size : Int), .int .u8 0, .int .u8 0, .int .u8 0, .int .u8 0, .int .u8 0, .int .u8 0, .int .u8 0, .int .u8 0].take 1 ++ Lib.byteCells l ++ [Value.int .i64 (s.size : Int), .int .u8 0, .int .u8 0, .int .u8 0, .int .u8 0, .int .u8 0, .int .u8 0, .int .u8 0, .int .u8 0].drop (1 + s.size)) : List Value) = kc (ofS s) := by
  have hs : s.size = l.length := by rw [Lib.size_eq, hl]
  unfold ofS
  simp only [sb_list, hl, hs]
  rw [hs] at h
  rcases l with _|⟨_, _|⟨_, _|⟨_, _|⟨_, _|⟨_, _|⟨_, _|⟨_, _|⟨_, _|⟨_, l⟩⟩⟩⟩⟩⟩⟩⟩⟩
  all_goals first | (simp [Lib.byteCells]; done) | (simp at h)
set_option maxRecDepth 100000 in
set_option maxHeartbeats 1000000 in
theorem key_of_big (s : ByteArray) (h : 8 < s.size) (hm : s.size ≤ 9223372036854775807) (w : World) : Calls Try.prog 10 #[.string s] w fun e w' => e = .returned (.tuple #[kv zeroK, .int .i64 2]) ∧ Below w.heap.size w w' := by
  go_enter Try.func10, Try.ntmps10
  go_wp2
  exact bodyPost_ret (v := .tuple #[kv zeroK, .int .i64 2]) (by simp [results, Try.results10, go_sem, zeroK]) rfl ⟨rfl, fr_new (fr_refl w) _⟩
set_option maxRecDepth 100000 in
set_option maxHeartbeats 1000000 in
theorem key_of_fits (s : ByteArray) (h : s.size ≤ 8) (w : World) : Calls Try.prog 10 #[.string s] w fun e w' => e = .returned (.tuple #[kv (ofS s), .int .i64 0]) ∧ Below w.heap.size w w' := by
  have HC := keep (ofS_cells s h _ rfl)
  have h1 : decide ((8 : Int) < (s.size : Int)) = false := by simp; omega
  go_enter Try.func10, Try.ntmps10
  go_wp2_with (first
    | (refine Lib.wpList_copy_run _ rfl (.tmp 13) (.tmp 14) 36 9 rfl _ _ rfl rfl (Lib.run_copy_row_string _ 36 9 _ 5 (w.heap.size + 1) 1 8 8 s _ 30 Try.underlying36 u8_size (arr_new_at _ _ _ _ (by simp)) h (by simp; omega)) ?_
       rw [HC.out]
       generalize hX : World.setRow _ _ _ = W
       have h3 : Arr W (w.heap.size + 1) 30 (kc (ofS s)).toArray := by rw [← hX]; exact setRow_heap _ _ _ _ _ _ (arr_new_at _ _ _ _ (by simp))
       have h4 : Arr W w.heap.size 30 (kc zeroK).toArray := by
         rw [← hX]
         exact Arr.below (Arr.alloc (arr_new_at _ _ _ _ rfl) _) (below_setRow (Below.refl (w.heap.size + 1) _) (Nat.le_refl _) _) (by omega)
       have hF : Fr w W := by rw [← hX]; exact below_setRow (fr_new (fr_new (fr_refl w) _) _) (by omega) _
       clear hX)
    | (refine wpList_load_row rfl 30 (.tmp 4) rfl (w.heap.size + 1) rfl 30 (kc (ofS s)).toArray (0, 0) _ h3 Try.underlying30 rfl key_info ?_)
    | (refine wpList_store_row rfl 30 (.tmp 2) (.tmp 16) rfl w.heap.size (kc (ofS s)).toArray rfl rfl 30 (kc zeroK).toArray h4 key_info rfl (kc_all _) ?_)
    | fail)
  exact bodyPost_ret (results_cell_tmp rfl _ _ w.heap.size 30 (kc (ofS s)).toArray (0, 0) _ rfl (setRow_heap _ _ _ _ _ _ h4) Try.underlying30 rfl key_info) rfl ⟨rfl, below_setRow hF (Nat.le_refl _) _⟩
/-- The first j bytes laid. -/
def ofSj (s : ByteArray) (j : Nat) : RK := ⟨s.size, if 0 < j then sb s 0 else 0, if 1 < j then sb s 1 else 0, if 2 < j then sb s 2 else 0, if 3 < j then sb s 3 else 0, if 4 < j then sb s 4 else 0, if 5 < j then sb s 5 else 0, if 6 < j then sb s 6 else 0, if 7 < j then sb s 7 else 0⟩
theorem ofSj_end (s : ByteArray) : ofSj s s.size = ofS s := by
  have h : ∀ i, (if i < s.size then sb s i else 0) = sb s i := fun i => by
    split
    · rfl
    · rw [sb_out s i (by omega)]
  simp only [ofSj, ofS, h]
theorem ofSj_set (s : ByteArray) (j : Nat) (h : j < 8) : (kc (ofSj s j)).toArray.setIfInBounds (1 + j) (.int .u8 (sb s j)) = (kc (ofSj s (j + 1))).toArray := by
  rcases j with _|_|_|_|_|_|_|_|j
  all_goals first | omega | simp [ofSj]
/-- The bytes of a key, as a text. -/
def txt (k : RK) : ByteArray := strOfNums ((kbs k).take k.n.toNat)
theorem kbs_get (k : RK) (m i : Nat) (hm : m ≤ 8) (hi : i < m) : ((kbs k).take m).getD i 0 = k.at i := by
  have h : ((kbs k).take m)[i]? = (kbs k)[i]? := List.getElem?_take_of_lt hi
  rw [List.getD, h]
  rcases i with _|_|_|_|_|_|_|_|i
  all_goals first | rfl | omega
theorem kbs_len (k : RK) (m : Nat) (hm : m ≤ 8) : ((kbs k).take m).length = m := by
  rcases m with _|_|_|_|_|_|_|_|_|m
  all_goals first | rfl | omega
theorem key_string (k : RK) (m : Nat) (hm : m ≤ 8) (g : Nat) (W : World) (ha : Arr W g 30 (kc k).toArray) : (convert 36 9 (.slice (some ⟨g, 1, none⟩) m 8)).run Try.prog W = .ok (.string (strOfNums ((kbs k).take m))) W :=
  run_convert_bytes_arg W 36 5 Try.underlying36 Try.underlying5 g 1 m 8 _ (kbs_len k m hm) (fun i hi => by rw [kbs_get k m i hm hi]; exact (ha.cell (1 + i)).trans (kc_at k i (by omega))) 9 Try.underlying9
theorem okB_n {k : RK} (h : okB k = true) : ∃ m : Nat, m ≤ 8 ∧ k.n = m ∧ k = firstK k m := by
  simp only [okB, Bool.and_eq_true, decide_eq_true_iff] at h
  refine ⟨k.n.toNat, by omega, by omega, h.2⟩
set_option maxRecDepth 100000 in
set_option maxHeartbeats 1000000 in
theorem key_text_no (k : RK) (hw : k.wf) (hk : okB k = false) (w : World) : Calls Try.prog 26 #[kv k] w fun e w' => e = .returned (.string ⟨#[]⟩) ∧ Below w.heap.size w w' := by
  go_enter Try.func26, Try.ntmps26
  go_wp2_with (go_at_call 28; refine (key_check k hw _).mono ?_; rw [hk]; rintro e w' ⟨rfl, hb⟩; have hF := fr_step (fr_new (fr_refl w) _) hb; clear hb)
  go_ret
  exact ⟨rfl, hF⟩

set_option maxRecDepth 100000 in
set_option maxHeartbeats 1000000 in
theorem key_text_yes (k : RK) (hw : k.wf) (hk : okB k = true) (w : World) : Calls Try.prog 26 #[kv k] w fun e w' => e = .returned (.string (txt k)) ∧ Below w.heap.size w w' := by
  obtain ⟨m, hm, hn, -⟩ := okB_n hk
  have Ht : Hid (txt k = strOfNums ((kbs k).take m)) := keep (by unfold txt; rw [hn, Int.toNat_natCast])
  have Hn := keep hn
  have hsl := slice8 m hm
  clear hn
  go_enter Try.func26, Try.ntmps26
  go_wp2_with (go_at_call 28; refine (key_check k hw _).mono ?_; rw [hk]; rintro e w' ⟨rfl, hb⟩; have hF := fr_step (fr_new (fr_refl w) _) hb; have ha := (Arr.new w (kc k).toArray 30).below hb (by simp); have hc : w'.cell? ⟨w.heap.size, 0, none⟩ = some (.int .i64 (m : Int)) := (ha.cell 0).trans (by rw [← Hn.out]; rfl); have hcv := key_string k m hm _ _ ha; generalize strOfNums ((kbs k).take m) = T at hcv Ht; clear hb ha)
  go_ret
  exact ⟨by rw [Ht.out]; rfl, hF⟩
end Go.Proofs.Ytignnjflodkihaa
