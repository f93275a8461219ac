/- Values as values: a number and sixteen bytes. -/
import Derived.Test.YtcdcaanmmbopbaaKeyA
import Derived.Test.YtcdcaanmmbopbaaBInts
import Derived.Test.YtcdcaanmmbopbaaBase
import Derived.Lib.BufferWrite
import Derived.Lib.SlBuf
import Derived.Laws.BytesArg
import Derived.Deep.LoopGhost
import Derived.BigQuiet
import Derived.Deep.QuietTactic
import Derived.Outline
namespace Go.Proofs.Ytcdcaanmmbopbaa
set_option maxRecDepth 100000
open Go.RowKit
set_option linter.unusedVariables false

/-- A value, valid or not. -/
structure RV where
  n : Int
  bs : List Int
  deriving DecidableEq, Inhabited
/-- Its cells. -/
def vc (v : RV) : List Value := .int .i64 v.n :: u8s v.bs
abbrev vv (v : RV) : Value := .agg (vc v).toArray
/-- What every value that comes in is. -/
structure RV.wf (v : RV) : Prop where
  hn : -9223372036854775808 ≤ v.n ∧ v.n ≤ 9223372036854775807
  hl : v.bs.length = 16
  hb : Bytes v.bs
def zeroV : RV := ⟨0, List.replicate 16 0⟩
theorem bytes_zeros (n : Nat) : Bytes (List.replicate n 0) := fun z hz => by
  rw [List.eq_of_mem_replicate hz]; omega
theorem zeroV_wf : zeroV.wf := ⟨by simp [zeroV], by simp [zeroV], bytes_zeros 16⟩
theorem vc_len {v : RV} (h : v.bs.length = 16) : (vc v).length = 17 := by simp [vc, h]
theorem vc_one (v : RV) : ∀ x ∈ vc v, x.oneCell' = true := by
  intro x hx
  rcases List.mem_cons.1 hx with rfl | hx
  · rfl
  · exact bytes_one _ _ hx
theorem vc_all (v : RV) : (vc v).toArray.all (·.oneCell') = true := by
  rw [List.all_toArray, List.all_eq_true]; exact vc_one v
theorem vc_at (v : RV) (j : Nat) (hj : j < v.bs.length) : (vc v)[1 + j]? = some (.int .u8 (v.bs.getD j 0)) := by
  rw [Nat.add_comm]
  simp [vc, hj]
theorem byte_at {l : List Int} (h : Bytes l) (j : Nat) : 0 ≤ l.getD j 0 ∧ l.getD j 0 ≤ 255 := by
  by_cases hj : j < l.length
  · simpa [hj] using h _ (List.getElem_mem hj)
  · simp [Nat.not_lt.1 hj]
theorem val_info : (Try.prog.info? 43).map (·.size) = some 17 := by kernel_rfl
theorem val_info' {v : RV} (h : v.bs.length = 16) : (Try.prog.info? 43).map (·.size) = some (vc v).toArray.size := by
  rw [val_info]; simp [vc_len h]
theorem val_type : Try.prog.keyType 43 = true := by kernel_rfl
theorem val_typeAt : Try.prog.keyTypeAt (Try.prog.types.size + 1) 43 = true := by kernel_rfl
theorem val_wide : (match Try.prog.underlying 43 with | some (.array _ _) | some (.struct _) => true | _ => false) = true := by kernel_rfl
theorem val_row : (43 : TypeId) < Try.prog.types.size := of_decide_eq_true (by kernel_rfl)
theorem val_law : WideMaps.KeyLaw Try.prog 43 := deep_law_gate laid_out (of_decide_eq_true types_small) val_row val_type val_wide
theorem val_keyed : Go.Maps.Keyed Try.prog 43 := .of_law val_law
theorem val_cells : Try.prog.cellsOf 43 = 17 := by kernel_rfl
theorem arr16_cells : Try.prog.cellsOf 41 = 16 := by kernel_rfl
def vlits (v : RV) : List Lit := .int .i64 v.n :: v.bs.map (Lit.int .u8)
def vlit (v : RV) : Lit := .string (keyBytes (vlits v))
theorem val_lits (v : RV) (h : v.wf) : Try.prog.keyLits (Try.prog.types.size + 1) 43 (vc v) = some (vlits v) := by
  obtain ⟨D, hD⟩ : ∃ D, Try.prog.types.size + 1 = D + 1 + 1 + 1 := ⟨Try.prog.types.size - 2, by have h : 43 < Try.prog.types.size := val_row; omega⟩
  rw [hD]
  obtain ⟨hn, hl, hb⟩ := h
  obtain ⟨n, bs⟩ := v
  simp only at hn hl hb
  match bs, hl with
  | [b0, b1, b2, b3, b4, b5, b6, b7, b8, b9, b10, b11, b12, b13, b14, b15], _ =>
    have q : ∀ z ∈ [b0, b1, b2, b3, b4, b5, b6, b7, b8, b9, b10, b11, b12, b13, b14, b15], (Lit.int .u8 z).wf = true := fun z hz => byt_wf (hb z hz)
    simp only [List.forall_mem_cons, List.not_mem_nil, false_implies, implies_true, and_true] at q
    obtain ⟨q0, q1, q2, q3, q4, q5, q6, q7, q8, q9, q10, q11, q12, q13, q14, q15⟩ := q
    simp [Program.keyLits, Try.underlying43, Try.underlying3, Try.underlying41, Try.underlying5, val_cells, arr16_cells, int_cells, u8_cells, vc, i64_wf hn, q0, q1, q2, q3, q4, q5, q6, q7, q8, q9, q10, q11, q12, q13, q14, q15, vlits, List.range, List.range.loop]
theorem val_of (v : RV) (h : v.wf) : keyOf Try.prog 43 (vv v) = some (vlit v) := by
  have hf : (vv v).formed Try.prog 43 = true := by simp [Value.formed, Try.underlying43, val_cells, vc_len h.hl]
  have hl := val_lits v h
  simp only [keyOf, Try.underlying43, val_type, hf, Bool.and_self, if_true, Value.cells]
  rw [hl]
  rfl
theorem u8s_inj {a b : List Int} (h : u8s a = u8s b) : a = b := by
  induction a generalizing b with
  | nil => cases b with | nil => rfl | cons _ _ => simp [u8s] at h
  | cons x a ih => cases b with
    | nil => simp [u8s] at h
    | cons y b =>
      simp only [u8s, List.map_cons, List.cons.injEq, Value.int.injEq, true_and] at h
      rw [h.1, ih h.2]
theorem vc_inj {a b : RV} (h : vc a = vc b) : a = b := by
  obtain ⟨n, bs⟩ := a
  obtain ⟨m, cs⟩ := b
  simp only [vc, List.cons.injEq, Value.int.injEq, true_and] at h
  rw [h.1, u8s_inj h.2]
theorem vv_inj {a b : RV} (h : vv a = vv b) : a = b := by
  injection h with h
  exact vc_inj (by simpa using congrArg Array.toList h)
theorem vlit_inj {a b : RV} (ha : a.wf) (hb : b.wf) (h : vlit a = vlit b) : a = b := vv_inj (val_keyed.inj (val_of a ha) (h ▸ val_of b hb))
theorem val_eqr {a b : RV} (ha : a.wf) (hb : b.wf) (W : World) : (Op.equal 43 (vv a) (vv b)).run Try.prog W = .ok (decide (a = b)) W := by
  obtain ⟨r, h1, h2⟩ := run_equal_deep W (m := Try.prog.types.size + 1) types_le val_typeAt val_wide (val_of a ha) (val_of b hb)
  have : r = decide (a = b) := by
    rw [Bool.eq_iff_iff, h2, decide_eq_true_iff]
    exact ⟨vlit_inj ha hb, fun e => by rw [e]⟩
  rw [h1, this]
theorem val_eql {a b : RV} (ha : a.wf) (hb : b.wf) (W : World) : (binOp .eql 43 (vv a) (vv b)).run Try.prog W = .ok (.bool (decide (a = b))) W := by
  simp only [binOp, Sem.run_bind, val_eqr ha hb, Result.andThen_ok, Sem.run_pure]
theorem val_neq {a b : RV} (ha : a.wf) (hb : b.wf) (W : World) : (binOp .neq 43 (vv a) (vv b)).run Try.prog W = .ok (.bool (!decide (a = b))) W := by
  simp only [binOp, Sem.run_bind, val_eqr ha hb, Result.andThen_ok, Sem.run_pure]
/-- 'B[:m]' of an array of sixteen bytes. -/
theorem slice16 (m : Nat) (hm : m ≤ 16) (g : Nat) (W : World) : (Instr.sliceAt 41 (.pointer (some ⟨g, 1, none⟩)) none (some (.int .i64 (m : Int))) none).run Try.prog W = .ok (.slice (some ⟨g, 1, none⟩) m 16) W := by
  have hA : (Try.prog.arrayLen 41) = 16 := by kernel_rfl
  have h := run_sliceAt_array_h (P := Try.prog) (w := W) (t := 41) (a := ⟨g, 1, none⟩) (ht := by kernel_rfl) .i64 (m : Int) (by omega) (by rw [hA]; omega)
  rw [hA] at h
  rw [h]
  have hs : (sizeOf (Try.prog.elem 41)).run Try.prog W = .ok 1 W := by kernel_rfl
  rw [hs]
  simp [Result.andThen, slicedAt, Addr.add]
/-- The bytes of a value lie behind its number. -/
theorem has_bytes {w : World} {g : Nat} {v : RV} (ha : Arr w g 43 (vc v).toArray) : Has w w.heap.size (some ⟨g, 1, none⟩) (u8s v.bs) := fun j u hu => by
  refine ⟨g, 1, rfl, ha.lt, ?_⟩
  rw [ha.cell, ← hu, Nat.add_comm]
  simp [vc]
theorem val_string {w : World} {g m : Nat} {v : RV} (ha : Arr w g 43 (vc v).toArray) (hl : v.bs.length = 16) (hm : m ≤ 16) : (convert 74 9 (.slice (some ⟨g, 1, none⟩) m 16)).run Try.prog w = .ok (.string (strOfNums (v.bs.take m))) w :=
  run_convert_bytes_arg w 74 5 Try.underlying74 Try.underlying5 g 1 m 16 _ (by simp [hl]; omega) (fun i hi => by
    rw [ha.cell]
    have : (vc v).toArray[1 + i]? = (vc v)[1 + i]? := by simp
    rw [this, vc_at v i (by omega), List.getD, List.getD, List.getElem?_take_of_lt hi]) 9 Try.underlying9
theorem run_load_val {w : World} {g : Nat} {v : RV} (ha : Arr w g 43 (vc v).toArray) (hl : v.bs.length = 16) : (loadVar 43 ⟨g, 0, none⟩).run Try.prog w = .ok (vv v) w :=
  run_loadVar_row w g 43 43 _ (0, 0) _ ha Try.underlying43 rfl (val_info' hl)
end Go.Proofs.Ytcdcaanmmbopbaa
/- What the functions of layer 4 come to, one: 'Of', 'Check', 'Text', of the program and of the document. -/
namespace Go.Proofs.Ytcdcaanmmbopbaa
set_option maxRecDepth 100000
open Go.RowKit
set_option linter.unusedVariables false

def nums (s : ByteArray) : List Int := s.data.toList.map fun u => (u.toNat : Int)
theorem nums_len (s : ByteArray) : (nums s).length = s.size := by rw [nums, List.length_map, ← Lib.size_eq]
theorem nums_cells (s : ByteArray) : Lib.byteCells s.data.toList = u8s (nums s) := by simp [Lib.byteCells, nums, u8s]
theorem nums_bytes (s : ByteArray) : Bytes (nums s) := fun z hz => by
  obtain ⟨u, _, rfl⟩ := List.mem_map.1 hz
  have := u.toNat_lt
  omega
theorem nums_str {l : List Int} (h : Bytes l) : nums (strOfNums l) = l := by
  show (l.map fun n => UInt8.ofNat n.toNat).map (fun u => (u.toNat : Int)) = l
  rw [List.map_map]
  conv => rhs; rw [← List.map_id l]
  apply List.map_congr_left
  intro z hz
  have hb := h z hz
  show ((UInt8.ofNat z.toNat).toNat : Int) = z
  rw [UInt8.toNat_ofNat_of_lt' (by show z.toNat < 256; omega)]
  omega
theorem str_nums (s : ByteArray) : strOfNums (nums s) = s := by
  apply ByteArray.ext
  apply Array.ext'
  show ((nums s).map fun n => UInt8.ofNat n.toNat) = s.data.toList
  rw [nums, List.map_map]
  conv => rhs; rw [← List.map_id s.data.toList]
  apply List.map_congr_left
  intro u _
  simp
theorem str_size (l : List Int) : (strOfNums l).size = l.length := by
  show ((l.map fun n => UInt8.ofNat n.toNat).toArray).size = l.length
  simp
theorem nums_at (s : ByteArray) (j : Nat) (h : j < s.size) : (nums s).getD j 0 = ((s[j]).toNat : Int) := by
  have h' : j < s.data.toList.length := by rw [← Lib.size_eq]; exact h
  rw [nums, List.getD, List.getElem?_map, List.getElem?_eq_getElem h']
  rfl
/-- The value of the bytes of s, where they are not too many. -/
def ofV (s : ByteArray) : RV := ⟨s.size, nums s ++ List.replicate (16 - s.size) 0⟩
theorem ofV_wf {s : ByteArray} (h : s.size ≤ 16) : (ofV s).wf := ⟨by simp [ofV]; omega, by simp [ofV, nums_len]; omega, fun z hz => by
  rcases List.mem_append.1 hz with hz | hz
  · exact nums_bytes s z hz
  · exact bytes_zeros _ z hz⟩
/-- The value of bytes. -/
def mkV (l : List Int) : RV := ⟨l.length, l ++ List.replicate (16 - l.length) 0⟩
theorem ofV_mk (s : ByteArray) : ofV s = mkV (nums s) := by simp [ofV, mkV, nums_len]
/-- N is from 0 to 16, and what lies behind is 0. -/
def okV (v : RV) : Bool := decide (0 ≤ v.n) && (decide (v.n ≤ 16) && decide (v = mkV (v.bs.take v.n.toNat)))
theorem okV_lo {v : RV} (h : v.n < 0) : okV v = false := by simp [okV]; omega
theorem okV_hi {v : RV} (h : 16 < v.n) : okV v = false := by simp [okV]; omega
theorem okV_in {v : RV} {m : Nat} (hm : m ≤ 16) (hn : v.n = m) : okV v = decide (v = mkV (v.bs.take m)) := by
  have h1 : 0 ≤ v.n := by omega
  have h2 : v.n ≤ 16 := by omega
  rw [okV, decide_eq_true h1, decide_eq_true h2, Bool.true_and, Bool.true_and, hn, Int.toNat_natCast]
theorem okV_n {v : RV} (h : okV v = true) : ∃ m : Nat, m ≤ 16 ∧ v.n = m ∧ v = mkV (v.bs.take m) := by
  simp only [okV, Bool.and_eq_true, decide_eq_true_iff] at h
  exact ⟨v.n.toNat, by omega, by omega, h.2.2⟩
theorem ofV_ok {s : ByteArray} (h : s.size ≤ 16) : okV (ofV s) = true := by
  rw [okV_in (m := s.size) h rfl, decide_eq_true_iff]
  have : (ofV s).bs.take s.size = nums s := by
    show (nums s ++ _).take s.size = _
    rw [← nums_len s, List.take_left]
  rw [this, ofV_mk]
theorem mk_iff {v : RV} {m : Nat} (hm : m ≤ 16) (hn : v.n = m) (hl : v.bs.length = 16) : v = mkV (v.bs.take m) ↔ ∀ t, m ≤ t → t < 16 → v.bs.getD t 0 = 0 := by
  have hlen : (v.bs.take m).length = m := by simp [hl]; omega
  constructor
  · intro e t h1 h2
    rw [e]
    show (v.bs.take m ++ List.replicate (16 - (v.bs.take m).length) 0).getD t 0 = 0
    rw [List.getD, List.getElem?_append_right (by omega), hlen]
    simp [List.getElem?_replicate]
    split <;> rfl
  · intro h
    obtain ⟨n, bs⟩ := v
    simp only at hn hl h hlen
    subst hn
    simp only [mkV, RV.mk.injEq, hlen, true_and]
    apply List.ext_getElem (by simp [hl]; omega)
    intro i h1 h2
    by_cases hi : i < m
    · rw [List.getElem_append_left (by omega)]
      simp
    · rw [List.getElem_append_right (by omega)]
      have := h i (by omega) (by omega)
      simp [h1] at this
      simp [this]
theorem zero_cells : (vc zeroV).toArray = #[.int .i64 0, .int .u8 0, .int .u8 0, .int .u8 0, .int .u8 0, .int .u8 0, .int .u8 0, .int .u8 0, .int .u8 0, .int .u8 0, .int .u8 0, .int .u8 0, .int .u8 0, .int .u8 0, .int .u8 0, .int .u8 0, .int .u8 0] := rfl
theorem valS : Sty Try.prog 43 17 := ⟨val_info, _, Try.underlying43, rfl⟩
theorem val_ld (p : Value) : Instr.loadAt 43 p = ldS 43 p := rfl
/-- The cells of a value of so many bytes, all 0. -/
def lit0 (n : Int) : List Value := .int .i64 n :: List.replicate 16 (.int .u8 0)
theorem lit0_one (n : Int) : One (lit0 n) := One.cons rfl fun v hv => by rw [List.eq_of_mem_replicate hv]; rfl
theorem lit0_len (n : Int) : (lit0 n).length = 17 := by simp [lit0]
theorem zeroV_len : (vc zeroV).length = 17 := rfl
theorem of_cells (s : ByteArray) (h : s.size ≤ 16) : (lit0 s.size).take 1 ++ Lib.byteCells s.data.toList ++ (lit0 s.size).drop (1 + s.size) = vc (ofV s) := by
  rw [nums_cells, Nat.add_comm 1, lit0, List.drop_succ_cons, List.drop_replicate]
  simp [vc, ofV, u8s]
theorem of_copy {w : World} {g : Nat} (s : ByteArray) (h : s.size ≤ 16) (ha : Arr w g 43 (lit0 s.size).toArray) :
    (Builtin.copy_ #[74, 9] 3 #[.slice (some ⟨g, 1, none⟩) 16 16, .string s]).run Try.prog w = .ok (goInt s.size) (w.setRow g (vc (ofV s)).toArray) := by
  rw [Lib.run_copy_row_string w 74 9 3 5 g 1 16 16 s _ 43 Try.underlying74 u8_size ha h (by simp [lit0]; omega)]
  rw [show ∀ l : List Value, l.toArray.toList = l from fun _ => rfl, of_cells s h]
set_option maxRecDepth 100000 in
set_option maxHeartbeats 4000000 in
theorem val_of_fits (s : ByteArray) (h : s.size ≤ 16) (w : World) : Calls Try.prog 84 #[.string s] w fun e w' => e = .returned (.tuple #[vv (ofV s), .int .i64 0]) ∧ Fr w w' := by
  have h1 : decide ((16 : Int) < (s.size : Int)) = false := by simp; omega
  have hl := vc_len (ofV_wf h).hl
  go_enter Try.func84, Try.ntmps84
  go_wp2_with (first
    | (refine wpList_store_new valS rfl (.tmp 4) (.tmp 11) rfl (w.heap.size + 1) (lit0 s.size) rfl rfl (lit0_len _) (lit0_one _) rfl (by simp) ?_
       generalize hX : World.alloc (World.alloc w _) _ = W
       have h3 : Arr W (w.heap.size + 1) 43 (lit0 s.size).toArray := by rw [← hX]; exact arr_at _ _ _ _ (by simp)
       have h4 : Arr W w.heap.size 43 (vc zeroV).toArray := by rw [← hX]; exact Arr.alloc (arr_at _ _ _ _ rfl) _
       have hF : Fr w W := by rw [← hX]; exact fr_new (fr_new (fr_refl w) _) _
       clear hX)
    | (refine Lib.wpList_copy_run _ rfl (.tmp 13) (.tmp 14) 74 9 rfl _ _ rfl rfl (of_copy s h h3) ?_
       generalize hX : World.setRow _ _ _ = W2
       have h5 : Arr W2 (w.heap.size + 1) 43 (vc (ofV s)).toArray := by rw [← hX]; exact h3.setRow _
       have h6 : Arr W2 w.heap.size 43 (vc zeroV).toArray := by rw [← hX]; exact h4.setRowOther _ (by omega)
       have hF2 : Fr w W2 := by rw [← hX]; exact fr_setRow hF (by omega) _
       clear hX h3 h4 hF)
    | (refine wpList_load_sty valS rfl (.tmp 4) rfl (w.heap.size + 1) rfl hl h5 ?_)
    | (refine wpList_store_sty valS rfl (.tmp 2) (.tmp 16) rfl w.heap.size (vc (ofV s)) rfl rfl hl (vc_one _) zeroV_len h6 ?_)
    | fail)
  exact bodyPost_ret (valS.result2 rfl _ w.heap.size rfl hl (h6.setRow _)) rfl ⟨rfl, fr_setRow hF2 (Nat.le_refl _) _⟩
/-- The first j bytes laid. -/
def ofVj (s : ByteArray) (j : Nat) : RV := ⟨s.size, (nums s).take j ++ List.replicate (16 - j) 0⟩
theorem ofVj_zero (s : ByteArray) : vc (ofVj s 0) = lit0 s.size := by simp [ofVj, lit0, vc, u8s]
theorem ofVj_end (s : ByteArray) : ofVj s s.size = ofV s := by
  rw [ofVj, ofV, List.take_of_length_le (by rw [nums_len]; exact Nat.le_refl _)]
theorem ofVj_len (s : ByteArray) (j : Nat) (h : j ≤ s.size) (h2 : s.size ≤ 16) : (vc (ofVj s j)).length = 17 := by simp [vc, ofVj, nums_len]; omega
theorem ofVj_set (s : ByteArray) (j : Nat) (h : j < s.size) (h2 : s.size ≤ 16) : (vc (ofVj s j)).toArray.setIfInBounds (1 + j) (.int .u8 (nums s)[j]!) = (vc (ofVj s (j + 1))).toArray := by
  have hlen := nums_len s
  apply Array.ext'
  rw [Array.toList_setIfInBounds]
  show (vc (ofVj s j)).set (1 + j) _ = vc (ofVj s (j + 1))
  apply List.ext_getElem?
  intro i
  rw [List.getElem?_set]
  rcases i with _ | i
  · rw [if_neg (by omega)]; rfl
  · have e : ∀ k, (vc (ofVj s k))[i + 1]? = (((nums s).take k ++ List.replicate (16 - k) 0).map (Value.int .u8))[i]? := fun k => by simp [vc, ofVj, u8s]
    rw [e, e]
    have hl : (vc (ofVj s j)).length = 17 := ofVj_len s j (by omega) h2
    by_cases hi : i = j
    · subst hi
      rw [if_pos (by omega), if_pos (by omega), List.getElem?_map, List.getElem?_append_left (by simp; omega), List.getElem?_take_of_lt (by omega)]
      have : i < (nums s).length := by omega
      simp [this]
    · rw [if_neg (by omega), List.getElem?_map, List.getElem?_map]
      congr 1
      by_cases hij : i < j
      · rw [List.getElem?_append_left (by simp; omega), List.getElem?_append_left (by simp; omega), List.getElem?_take_of_lt hij, List.getElem?_take_of_lt (by omega)]
      · rw [List.getElem?_append_right (by simp; omega), List.getElem?_append_right (by simp; omega), List.getElem?_replicate, List.getElem?_replicate]
        simp only [List.length_take]
        split <;> split <;> first | rfl | omega
theorem nums_get (s : ByteArray) (j : Nat) (h : j < s.size) : (nums s)[j]! = ((s[j]).toNat : Int) := by
  have h' : j < (nums s).length := by rw [nums_len]; exact h
  rw [getElem!_pos (nums s) j h', ← nums_at s j h, List.getD, List.getElem?_eq_getElem h']
  rfl
set_option maxRecDepth 100000 in
set_option maxHeartbeats 1000000 in
theorem val_of_big (s : ByteArray) (h : 16 < s.size) (hm : s.size ≤ 9223372036854775807) (w : World) : Calls Try.prog 84 #[.string s] w fun e w' => e = .returned (.tuple #[vv zeroV, .int .i64 2]) ∧ Fr w w' := by
  go_enter Try.func84, Try.ntmps84
  go_wp2_with (refine wpList_store_new valS rfl (.tmp 2) (.tmp 8) rfl w.heap.size (vc zeroV) rfl rfl rfl (vc_one _) rfl rfl ?_
               generalize hX : World.alloc w _ = W
               have h3 : Arr W w.heap.size 43 (vc zeroV).toArray := by rw [← hX]; exact arr_at _ _ _ _ rfl
               have hF : Fr w W := by rw [← hX]; exact fr_new (fr_refl w) _
               clear hX)
  exact bodyPost_ret (valS.result2 rfl _ w.heap.size rfl zeroV_len h3) rfl ⟨rfl, hF⟩
set_option maxRecDepth 100000 in
set_option maxHeartbeats 1000000 in
theorem ref_vof_big (s : ByteArray) (h : 16 < s.size) (hm : s.size ≤ 9223372036854775807) (w : World) : Calls Try.prog 79 #[.string s] w fun e w' => e = .returned (.tuple #[vv zeroV, .int .i64 2]) ∧ Fr w w' := by
  go_enter Try.func79, Try.ntmps79
  go_wp2_with (first
    | (refine wpList_store_new valS rfl (.tmp 4) (.tmp 6) rfl (w.heap.size + 1) (vc zeroV) rfl rfl rfl (vc_one _) rfl (by simp) ?_
       generalize hX : World.alloc (World.alloc w _) _ = W
       have h3 : Arr W w.heap.size 43 (vc zeroV).toArray := by rw [← hX]; exact Arr.alloc (arr_at _ _ _ _ rfl) _
       have h4 : Arr W (w.heap.size + 1) 43 (vc zeroV).toArray := by rw [← hX]; exact arr_at _ _ _ _ (by simp)
       have hF : Fr w W := by rw [← hX]; exact fr_new (fr_new (fr_refl w) _) _
       clear hX)
    | (refine wpList_load_sty valS rfl (.tmp 4) rfl (w.heap.size + 1) rfl zeroV_len h4 ?_)
    | (refine wpList_store_sty valS rfl (.tmp 2) (.tmp 10) rfl w.heap.size (vc zeroV) rfl rfl rfl (vc_one _) zeroV_len h3 ?_)
    | fail)
  exact bodyPost_ret (valS.result2 rfl _ w.heap.size rfl zeroV_len (h3.setRow _)) rfl ⟨rfl, fr_setRow hF (Nat.le_refl _) _⟩
set_option maxRecDepth 100000 in
set_option maxHeartbeats 1000000 in
theorem ref_vof_fits (s : ByteArray) (h : s.size ≤ 16) (w : World) : Calls Try.prog 79 #[.string s] w fun e w' => e = .returned (.tuple #[vv (ofV s), .int .i64 0]) ∧ Fr w w' := by
  have h1 : decide ((16 : Int) < (s.size : Int)) = false := by simp; omega
  have hl := vc_len (ofV_wf h).hl
  go_enter Try.func79, Try.ntmps79
  go_wp2_with (first
    | (refine wpList_store_new valS rfl (.tmp 4) (.tmp 6) rfl (w.heap.size + 1) (vc zeroV) rfl rfl rfl (vc_one _) rfl (by simp) ?_
       generalize hX : World.alloc (World.alloc w _) _ = W
       have h3 : Arr W w.heap.size 43 (vc zeroV).toArray := by rw [← hX]; exact Arr.alloc (arr_at _ _ _ _ rfl) _
       have h4 : Arr W (w.heap.size + 1) 43 (vc zeroV).toArray := by rw [← hX]; exact arr_at _ _ _ _ (by simp)
       have hF : Fr w W := by rw [← hX]; exact fr_new (fr_new (fr_refl w) _) _
       have hc4 : W.cell? ⟨w.heap.size + 1, 0, none⟩ = some (.int .i64 0) := h4.cell 0
       have hf4 := h4.free 0
       clear hX)
    | fail)
  have h5 : Arr (W.setCell ⟨w.heap.size + 1, 0, none⟩ (.int .i64 (s.size : Int))) (w.heap.size + 1) 43 (vc (ofVj s 0)).toArray := by rw [ofVj_zero]; exact h4.set 0 _
  have h6 : Arr (W.setCell ⟨w.heap.size + 1, 0, none⟩ (.int .i64 (s.size : Int))) w.heap.size 43 (vc zeroV).toArray := h3.other _ (by simp) _
  have hF2 : Fr w (W.setCell ⟨w.heap.size + 1, 0, none⟩ (.int .i64 (s.size : Int))) := hF.setCell (by simp) _
  generalize W.setCell ⟨w.heap.size + 1, 0, none⟩ (.int .i64 (s.size : Int)) = W1 at *
  clear h3 h4 hF hc4 hf4
  go_loopg [5] s.size (fun g i wr => ∃ j : Nat, j + g = s.size ∧ i = .int .i64 j ∧ Arr wr (w.heap.size + 1) 43 (vc (ofVj s j)).toArray ∧ Arr wr w.heap.size 43 (vc zeroV).toArray ∧ Fr w wr)
  case atStart => exact ⟨0, by omega, rfl, h5, h6, hF2⟩
  case round =>
    obtain ⟨j, hj, rfl, h3, h4, hF⟩ := hrel
    have Hj := keep hj
    by_cases hlt : j < s.size
    · have hc := (h3.cell (1 + j)).trans ((by simp : (vc (ofVj s j)).toArray[1 + j]? = (vc (ofVj s j))[1 + j]?).trans (vc_at _ j (by simp [ofVj, nums_len]; omega)))
      have hf := h3.free (1 + j)
      have Hx := keep (nums_get s j hlt)
      clear hj h5 h6 hF2
      go_wp2_with fail
      go_roundg (gk - 1)
      case measure => have := Hj.out; omega
      case rel => exact ⟨j + 1, by have := Hj.out; omega, by go_num, by rw [← ofVj_set s j hlt h, Hx.out]; exact h3.set _ _, h4.other _ (by simp) _, hF.setCell (by simp) _⟩
    · obtain rfl : j = s.size := by omega
      rw [ofVj_end] at h3
      clear hj h5 h6 hF2
      go_wp2_with (first
        | (refine wpList_load_sty valS rfl (.tmp 4) rfl (w.heap.size + 1) rfl hl h3 ?_)
        | (refine wpList_store_sty valS rfl (.tmp 2) (.tmp 26) rfl w.heap.size (vc (ofV s)) rfl rfl hl (vc_one _) zeroV_len h4 ?_)
        | fail)
      exact bodyPost_ret (valS.result2 rfl _ w.heap.size rfl hl (h4.setRow _)) rfl ⟨rfl, fr_setRow hF (Nat.le_refl _) _⟩
end Go.Proofs.Ytcdcaanmmbopbaa
/- What the functions of layer 4 come to, two: 'Check', 'Text', of the program and of the document. -/
namespace Go.Proofs.Ytcdcaanmmbopbaa
set_option maxRecDepth 100000
open Go.RowKit
set_option linter.unusedVariables false

theorem take_bytes {l : List Int} (h : Bytes l) (m : Nat) : Bytes (l.take m) := fun z hz => h z (List.mem_of_mem_take hz)
set_option maxRecDepth 100000 in
set_option maxHeartbeats 1000000 in
theorem val_check_out (v : RV) (hn : v.n < 0 ∨ 16 < v.n) (w : World) : Calls Try.prog 68 #[vv v] w fun e w' => e = .returned (.bool false) ∧ Fr w w' := by
  have hv0 : (vc v)[0]? = some (.int .i64 v.n) := rfl
  rcases hn with hn | hn
  · have h1 : decide (v.n < 0) = true := by simpa using hn
    go_enter Try.func68, Try.ntmps68
    go_wp2_with fail
    go_ret
    exact ⟨rfl, fr_new (fr_refl w) _⟩
  · have h1 : decide (v.n < 0) = false := by simp; omega
    have h2 : decide (16 < v.n) = true := by simpa using hn
    go_enter Try.func68, Try.ntmps68
    go_wp2_with fail
    go_ret
    exact ⟨rfl, fr_new (fr_refl w) _⟩
theorem mk_str {l : List Int} (h : Bytes l) : ofV (strOfNums l) = mkV l := by rw [ofV_mk, nums_str h]
set_option maxRecDepth 100000 in
set_option maxHeartbeats 4000000 in
theorem val_check_in (v : RV) (wv : v.wf) (m : Nat) (hm : m ≤ 16) (hn : v.n = m) (w : World) : Calls Try.prog 68 #[vv v] w fun e w' => e = .returned (.bool (decide (v = mkV (v.bs.take m)))) ∧ Fr w w' := by
  have Hlv := keep (vc_len wv.hl)
  have hsz : (strOfNums (v.bs.take m)).size ≤ 16 := by rw [str_size]; simp; omega
  have wx := ofV_wf hsz
  have hlx := vc_len wx.hl
  have heq := fun W => val_eql wv wx W
  rw [mk_str (take_bytes wv.hb m)] at heq
  have cO := fun W => val_of_fits _ hsz W
  have hv0 : (vc v)[0]? = some (.int .i64 (m : Int)) := by rw [← hn]; rfl
  have hcv := val_string (Arr.new w (vc v).toArray 43) wv.hl hm
  generalize decide (v = mkV (v.bs.take m)) = d at heq ⊢
  rw [← mk_str (take_bytes wv.hb m)] at heq
  generalize strOfNums (v.bs.take m) = T at *
  generalize ofV T = x at *
  have hsl := slice16 m hm
  have hm2 : (m : Int) ≤ 16 := by omega
  clear hn wv wx
  go_enter Try.func68, Try.ntmps68
  go_wp2_with (first
    | (go_at_call 84; refine (cO _).mono ?_; rintro e w1 ⟨rfl, hF1⟩; have hA := (Arr.new w (vc v).toArray 43).below hF1 (by simp); have hF := fr_step (fr_new (fr_refl w) _) hF1; clear hF1 hcv cO)
    | (refine wpList_store_new valS rfl (.tmp 3) (.tmp 20) rfl w1.heap.size (vc x) rfl rfl hlx (vc_one x) rfl rfl ?_
       generalize hX : World.alloc w1 _ = W
       have h3 : Arr W w1.heap.size 43 (vc x).toArray := by rw [← hX]; exact Arr.new w1 _ _
       have h4 : Arr W w.heap.size 43 (vc v).toArray := by rw [← hX]; exact hA.alloc _
       have hF2 : Fr w W := by rw [← hX]; exact fr_new hF _
       clear hX hA hF)
    | (refine wpList_load_sty valS rfl (.tmp 1) rfl w.heap.size rfl Hlv.out h4 ?_)
    | (refine wpList_load_sty valS rfl (.tmp 3) rfl w1.heap.size rfl hlx h3 ?_)
    | fail)
  go_ret
  exact ⟨rfl, hF2⟩
theorem val_check (v : RV) (wv : v.wf) (w : World) : Calls Try.prog 68 #[vv v] w fun e w' => e = .returned (.bool (okV v)) ∧ Fr w w' := by
  by_cases h1 : v.n < 0
  · rw [okV_lo h1]; exact val_check_out v (.inl h1) w
  · by_cases h2 : 16 < v.n
    · rw [okV_hi h2]; exact val_check_out v (.inr h2) w
    · obtain ⟨m, hm⟩ : ∃ m : Nat, v.n = m := ⟨v.n.toNat, by omega⟩
      rw [okV_in (by omega) hm]; exact val_check_in v wv m (by omega) hm w
set_option maxRecDepth 100000 in
set_option maxHeartbeats 1000000 in
theorem ref_vcheck_out (v : RV) (hn : v.n < 0 ∨ 16 < v.n) (w : World) : Calls Try.prog 74 #[vv v] w fun e w' => e = .returned (.bool false) ∧ Fr w w' := by
  have hv0 : (vc v)[0]? = some (.int .i64 v.n) := rfl
  rcases hn with hn | hn
  · have h1 : decide (v.n < 0) = true := by simpa using hn
    go_enter Try.func74, Try.ntmps74
    go_wp2_with fail
    go_ret
    exact ⟨rfl, fr_new (fr_refl w) _⟩
  · have h1 : decide (v.n < 0) = false := by simp; omega
    have h2 : decide (16 < v.n) = true := by simpa using hn
    go_enter Try.func74, Try.ntmps74
    go_wp2_with fail
    go_ret
    exact ⟨rfl, fr_new (fr_refl w) _⟩
set_option maxRecDepth 100000 in
set_option maxHeartbeats 2000000 in
theorem ref_vcheck_in (v : RV) (wv : v.wf) (m : Nat) (hm : m ≤ 16) (hn : v.n = m) (w : World) : Calls Try.prog 74 #[vv v] w fun e w' => e = .returned (.bool (decide (v = mkV (v.bs.take m)))) ∧ Fr w w' := by
  have Hi := keep (mk_iff hm hn wv.hl)
  have Hl := keep wv.hl
  have hv0 : (vc v)[0]? = some (.int .i64 (m : Int)) := by rw [← hn]; rfl
  have hm2 : (m : Int) ≤ 16 := by omega
  clear hn
  go_enter Try.func74, Try.ntmps74
  go_wp2_with fail
  generalize hW : World.alloc w _ = W
  have ha : Arr W w.heap.size 43 (vc v).toArray := by rw [← hW]; exact Arr.new w _ _
  have hF : Fr w W := by rw [← hW]; exact fr_new (fr_refl w) _
  clear hW hv0
  go_loop [3] (fun i => ∃ j : Nat, m ≤ j ∧ j ≤ 16 ∧ i = .int .i64 j ∧ Hid (∀ t, m ≤ t → t < j → v.bs.getD t 0 = 0)) (fun i => 16 - (intOf i).toNat)
  case atStart => exact ⟨m, Nat.le_refl _, hm, rfl, keep fun t a b => by omega⟩
  case round =>
    obtain ⟨j, hj1, hj, rfl, Ht⟩ := hrel
    by_cases hlt : j < 16
    · have hc := (ha.cell (1 + j)).trans ((by simp : (vc v).toArray[1 + j]? = (vc v)[1 + j]?).trans (vc_at v j (by rw [Hl.out]; omega)))
      by_cases h0 : v.bs.getD j 0 = 0
      · have H0 := keep h0
        rw [h0] at hc
        clear h0
        go_wp2
        go_round
        case rel => exact ⟨j + 1, by omega, by omega, by go_num, keep fun t a b => by
          by_cases e : t = j
          · rw [e, H0.out]
          · exact Ht.out t a (by omega)⟩
        case measure => simp [intOf]; omega
      · have hd : decide (v = mkV (v.bs.take m)) = false := by
          simp only [decide_eq_false_iff_not]
          intro e
          exact h0 (Hi.out.1 e j hj1 hlt)
        generalize v.bs.getD j 0 = z at hc h0
        have h3 : (z != 0) = true := by simpa using h0
        have Hd := keep hd
        clear hd h0
        go_wp2
        go_ret
        exact ⟨ret_bool Hd.out.symm, hF⟩
    · obtain rfl : j = 16 := by omega
      have hd : decide (v = mkV (v.bs.take m)) = true := by
        simp only [decide_eq_true_iff]
        exact Hi.out.2 fun t a b => Ht.out t a b
      have Hd := keep hd
      clear hd
      go_wp2
      go_ret
      exact ⟨ret_bool Hd.out.symm, hF⟩
theorem ref_vcheck (v : RV) (wv : v.wf) (w : World) : Calls Try.prog 74 #[vv v] w fun e w' => e = .returned (.bool (okV v)) ∧ Fr w w' := by
  by_cases h1 : v.n < 0
  · rw [okV_lo h1]; exact ref_vcheck_out v (.inl h1) w
  · by_cases h2 : 16 < v.n
    · rw [okV_hi h2]; exact ref_vcheck_out v (.inr h2) w
    · obtain ⟨m, hm⟩ : ∃ m : Nat, v.n = m := ⟨v.n.toNat, by omega⟩
      rw [okV_in (by omega) hm]; exact ref_vcheck_in v wv m (by omega) hm w
/-- The text of a value; none, if it is not valid. -/
def txtV (v : RV) : ByteArray := if okV v = true then strOfNums (v.bs.take v.n.toNat) else ⟨#[]⟩
end Go.Proofs.Ytcdcaanmmbopbaa
