/- Values as values: a number and sixteen bytes. -/
import Derived.Test.YtnfoebcfhldemaaKey1
import Derived.Test.YtnfoebcfhldemaaBBytes
namespace Go.Proofs.Ytnfoebcfhldemaa
set_option maxRecDepth 100000
open Go.RowKit
set_option linter.unusedVariables false

/-- A value, valid or not. -/
structure RV where
  n : Int
  bs : List Int
  deriving DecidableEq, Inhabited
/-- Its cells. -/
def vc (v : RV) : List Value := .int .i64 v.n :: u8s v.bs
abbrev vv (v : RV) : Value := .agg (vc v).toArray
/-- What every value that comes in is. -/
structure RV.wf (v : RV) : Prop where
  hn : -9223372036854775808 ≤ v.n ∧ v.n ≤ 9223372036854775807
  hl : v.bs.length = 16
  hb : Bytes v.bs
def zeroV : RV := ⟨0, List.replicate 16 0⟩
theorem bytes_zeros (n : Nat) : Bytes (List.replicate n 0) := fun z hz => by
  rw [List.eq_of_mem_replicate hz]; omega
theorem zeroV_wf : zeroV.wf := ⟨by simp [zeroV], by simp [zeroV], bytes_zeros 16⟩
theorem vc_len {v : RV} (h : v.bs.length = 16) : (vc v).length = 17 := by simp [vc, h]
theorem vc_one (v : RV) : ∀ x ∈ vc v, x.oneCell' = true := by
  intro x hx
  rcases List.mem_cons.1 hx with rfl | hx
  · rfl
  · exact bytes_one _ _ hx
theorem vc_all (v : RV) : (vc v).toArray.all (·.oneCell') = true := by
  rw [List.all_toArray, List.all_eq_true]; exact vc_one v
theorem vc_at (v : RV) (j : Nat) (hj : j < v.bs.length) : (vc v)[1 + j]? = some (.int .u8 (v.bs.getD j 0)) := by
  rw [Nat.add_comm]
  simp [vc, hj]
theorem byte_at {l : List Int} (h : Bytes l) (j : Nat) : 0 ≤ l.getD j 0 ∧ l.getD j 0 ≤ 255 := by
  by_cases hj : j < l.length
  · simpa [hj] using h _ (List.getElem_mem hj)
  · simp [Nat.not_lt.1 hj]
theorem val_info : (Try.prog.info? 34).map (·.size) = some 17 := by kernel_rfl
theorem val_info' {v : RV} (h : v.bs.length = 16) : (Try.prog.info? 34).map (·.size) = some (vc v).toArray.size := by
  rw [val_info]; simp [vc_len h]
theorem val_type : Try.prog.keyType 34 = true := by kernel_rfl
theorem val_typeAt : Try.prog.keyTypeAt (Try.prog.types.size + 1) 34 = true := by kernel_rfl
theorem val_wide : (match Try.prog.underlying 34 with | some (.array _ _) | some (.struct _) => true | _ => false) = true := by kernel_rfl
theorem val_row : (34 : TypeId) < Try.prog.types.size := of_decide_eq_true (by kernel_rfl)
theorem val_law : WideMaps.KeyLaw Try.prog 34 := deep_law_gate laid_out (of_decide_eq_true types_small) val_row val_type val_wide
theorem val_keyed : Go.Maps.Keyed Try.prog 34 := .of_law val_law
theorem val_cells : Try.prog.cellsOf 34 = 17 := by kernel_rfl
theorem arr16_cells : Try.prog.cellsOf 32 = 16 := by kernel_rfl
def vlits (v : RV) : List Lit := .int .i64 v.n :: v.bs.map (Lit.int .u8)
def vlit (v : RV) : Lit := .string (keyBytes (vlits v))
theorem val_lits (v : RV) (h : v.wf) : Try.prog.keyLits (Try.prog.types.size + 1) 34 (vc v) = some (vlits v) := by
  obtain ⟨D, hD⟩ : ∃ D, Try.prog.types.size + 1 = D + 1 + 1 + 1 := ⟨Try.prog.types.size - 2, by have h : 34 < Try.prog.types.size := val_row; omega⟩
  rw [hD]
  obtain ⟨hn, hl, hb⟩ := h
  obtain ⟨n, bs⟩ := v
  simp only at hn hl hb
  match bs, hl with
  | [b0, b1, b2, b3, b4, b5, b6, b7, b8, b9, b10, b11, b12, b13, b14, b15], _ =>
    have q : ∀ z ∈ [b0, b1, b2, b3, b4, b5, b6, b7, b8, b9, b10, b11, b12, b13, b14, b15], (Lit.int .u8 z).wf = true := fun z hz => byt_wf (hb z hz)
    simp only [List.forall_mem_cons, List.not_mem_nil, false_implies, implies_true, and_true] at q
    obtain ⟨q0, q1, q2, q3, q4, q5, q6, q7, q8, q9, q10, q11, q12, q13, q14, q15⟩ := q
    simp [Program.keyLits, Try.underlying34, Try.underlying3, Try.underlying32, Try.underlying5, val_cells, arr16_cells, int_cells, u8_cells, vc, i64_wf hn, q0, q1, q2, q3, q4, q5, q6, q7, q8, q9, q10, q11, q12, q13, q14, q15, vlits, List.range, List.range.loop]
theorem val_of (v : RV) (h : v.wf) : keyOf Try.prog 34 (vv v) = some (vlit v) := by
  have hf : (vv v).formed Try.prog 34 = true := by simp [Value.formed, Try.underlying34, val_cells, vc_len h.hl]
  have hl := val_lits v h
  simp only [keyOf, Try.underlying34, val_type, hf, Bool.and_self, if_true, Value.cells]
  rw [hl]
  rfl
theorem u8s_inj {a b : List Int} (h : u8s a = u8s b) : a = b := by
  induction a generalizing b with
  | nil => cases b with | nil => rfl | cons _ _ => simp [u8s] at h
  | cons x a ih => cases b with
    | nil => simp [u8s] at h
    | cons y b =>
      simp only [u8s, List.map_cons, List.cons.injEq, Value.int.injEq, true_and] at h
      rw [h.1, ih h.2]
theorem vc_inj {a b : RV} (h : vc a = vc b) : a = b := by
  obtain ⟨n, bs⟩ := a
  obtain ⟨m, cs⟩ := b
  simp only [vc, List.cons.injEq, Value.int.injEq, true_and] at h
  rw [h.1, u8s_inj h.2]
theorem vv_inj {a b : RV} (h : vv a = vv b) : a = b := by
  injection h with h
  exact vc_inj (by simpa using congrArg Array.toList h)
theorem vlit_inj {a b : RV} (ha : a.wf) (hb : b.wf) (h : vlit a = vlit b) : a = b := vv_inj (val_keyed.inj (val_of a ha) (h ▸ val_of b hb))
theorem val_eqr {a b : RV} (ha : a.wf) (hb : b.wf) (W : World) : (Op.equal 34 (vv a) (vv b)).run Try.prog W = .ok (decide (a = b)) W := by
  obtain ⟨r, h1, h2⟩ := run_equal_deep W (m := Try.prog.types.size + 1) types_le val_typeAt val_wide (val_of a ha) (val_of b hb)
  have : r = decide (a = b) := by
    rw [Bool.eq_iff_iff, h2, decide_eq_true_iff]
    exact ⟨vlit_inj ha hb, fun e => by rw [e]⟩
  rw [h1, this]
theorem val_eql {a b : RV} (ha : a.wf) (hb : b.wf) (W : World) : (binOp .eql 34 (vv a) (vv b)).run Try.prog W = .ok (.bool (decide (a = b))) W := by
  simp only [binOp, Sem.run_bind, val_eqr ha hb, Result.andThen_ok, Sem.run_pure]
theorem val_neq {a b : RV} (ha : a.wf) (hb : b.wf) (W : World) : (binOp .neq 34 (vv a) (vv b)).run Try.prog W = .ok (.bool (!decide (a = b))) W := by
  simp only [binOp, Sem.run_bind, val_eqr ha hb, Result.andThen_ok, Sem.run_pure]
/-- 'B[:m]' of an array of sixteen bytes. -/
theorem slice16 (m : Nat) (hm : m ≤ 16) (g : Nat) (W : World) : (Instr.sliceAt 32 (.pointer (some ⟨g, 1, none⟩)) none (some (.int .i64 (m : Int))) none).run Try.prog W = .ok (.slice (some ⟨g, 1, none⟩) m 16) W := by
  have hA : (Try.prog.arrayLen 32) = 16 := by kernel_rfl
  have h := run_sliceAt_array_h (P := Try.prog) (w := W) (t := 32) (a := ⟨g, 1, none⟩) (ht := by kernel_rfl) .i64 (m : Int) (by omega) (by rw [hA]; omega)
  rw [hA] at h
  rw [h]
  have hs : (sizeOf (Try.prog.elem 32)).run Try.prog W = .ok 1 W := by kernel_rfl
  rw [hs]
  simp [Result.andThen, slicedAt, Addr.add]
/-- The bytes of a value lie behind its number. -/
theorem has_bytes {w : World} {g : Nat} {v : RV} (ha : Arr w g 34 (vc v).toArray) : Has w w.heap.size (some ⟨g, 1, none⟩) (u8s v.bs) := fun j u hu => by
  refine ⟨g, 1, rfl, ha.lt, ?_⟩
  rw [ha.cell, ← hu, Nat.add_comm]
  simp [vc]
theorem val_string {w : World} {g m : Nat} {v : RV} (ha : Arr w g 34 (vc v).toArray) (hl : v.bs.length = 16) (hm : m ≤ 16) : (convert 66 9 (.slice (some ⟨g, 1, none⟩) m 16)).run Try.prog w = .ok (.string (strOfNums (v.bs.take m))) w :=
  run_convert_bytes_arg w 66 5 Try.underlying66 Try.underlying5 g 1 m 16 _ (by simp [hl]; omega) (fun i hi => by
    rw [ha.cell]
    have : (vc v).toArray[1 + i]? = (vc v)[1 + i]? := by simp
    rw [this, vc_at v i (by omega), List.getD, List.getD, List.getElem?_take_of_lt hi]) 9 Try.underlying9
theorem run_load_val {w : World} {g : Nat} {v : RV} (ha : Arr w g 34 (vc v).toArray) (hl : v.bs.length = 16) : (loadVar 34 ⟨g, 0, none⟩).run Try.prog w = .ok (vv v) w :=
  run_loadVar_row w g 34 34 _ (0, 0) _ ha Try.underlying34 rfl (val_info' hl)
end Go.Proofs.Ytnfoebcfhldemaa
