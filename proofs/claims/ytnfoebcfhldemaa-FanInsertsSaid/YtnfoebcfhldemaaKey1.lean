/- Keys compared by '==', and as a map's keys. -/
import Derived.Test.YtnfoebcfhldemaaKey0
namespace Go.Proofs.Ytnfoebcfhldemaa
set_option maxRecDepth 100000
open Go.RowKit
set_option linter.unusedVariables false
theorem key_type : Try.prog.keyType 27 = true := by kernel_rfl
theorem key_typeAt : Try.prog.keyTypeAt (Try.prog.types.size + 1) 27 = true := by kernel_rfl
theorem key_wide : (match Try.prog.underlying 27 with | some (.array _ _) | some (.struct _) => true | _ => false) = true := by kernel_rfl
theorem key_row : (27 : TypeId) < Try.prog.types.size := of_decide_eq_true (by kernel_rfl)
theorem laid_out : laidOutB Try.prog = true := by kernel_rfl
theorem types_small : decide (Try.prog.types.size + 2 ≤ 10000) = true := by kernel_rfl
theorem key_law : WideMaps.KeyLaw Try.prog 27 := deep_law_gate laid_out (of_decide_eq_true types_small) key_row key_type key_wide
theorem key_keyed : Go.Maps.Keyed Try.prog 27 := .of_law key_law
theorem key_cells : Try.prog.cellsOf 27 = 9 := by kernel_rfl
theorem arr_cells : Try.prog.cellsOf 25 = 8 := by kernel_rfl
theorem int_cells : Try.prog.cellsOf 3 = 1 := by kernel_rfl
theorem u8_cells : Try.prog.cellsOf 5 = 1 := by kernel_rfl
theorem byt_wf {z : Int} (h : Byt z) : (Lit.int .u8 z).wf = true := by
  unfold Byt at h
  simp [Lit.wf, IntKind.min, IntKind.max, IntKind.signed, IntKind.bits]; omega
theorem i64_wf {z : Int} (h : -9223372036854775808 ≤ z ∧ z ≤ 9223372036854775807) : (Lit.int .i64 z).wf = true := by
  simp [Lit.wf, IntKind.min, IntKind.max, IntKind.signed, IntKind.bits]; omega
def klits (k : RK) : List Lit := [.int .i64 k.n, .int .u8 k.b0, .int .u8 k.b1, .int .u8 k.b2, .int .u8 k.b3, .int .u8 k.b4, .int .u8 k.b5, .int .u8 k.b6, .int .u8 k.b7]
/-- What a key reads as, as a map's key. -/
def klit (k : RK) : Lit := .string (keyBytes (klits k))
theorem types_le : Try.prog.types.size + 1 ≤ 10000 := by have := of_decide_eq_true types_small; omega
theorem key_lits (k : RK) (h : k.wf) : Try.prog.keyLits (Try.prog.types.size + 1) 27 (kc k) = some (klits k) := by
  obtain ⟨D, hD⟩ : ∃ D, Try.prog.types.size + 1 = D + 1 + 1 + 1 := ⟨Try.prog.types.size - 2, by have h : 27 < Try.prog.types.size := key_row; omega⟩
  rw [hD]
  simp [Program.keyLits, Try.underlying27, Try.underlying3, Try.underlying25, Try.underlying5, key_cells, arr_cells, int_cells, u8_cells, i64_wf h.hn, byt_wf h.h0, byt_wf h.h1, byt_wf h.h2, byt_wf h.h3, byt_wf h.h4, byt_wf h.h5, byt_wf h.h6, byt_wf h.h7, klits, List.range, List.range.loop]
theorem key_of (k : RK) (h : k.wf) : keyOf Try.prog 27 (kv k) = some (klit k) := by
  have hf : (kv k).formed Try.prog 27 = true := by simp [Value.formed, Try.underlying27, key_cells]
  have hl := key_lits k h
  simp only [keyOf, Try.underlying27, key_type, hf, Bool.and_self, if_true, Value.cells]
  rw [hl]
  rfl
theorem kv_inj {a b : RK} (h : kv a = kv b) : a = b := by
  cases a; cases b; simp at h; simp [h]
theorem klit_inj {a b : RK} (ha : a.wf) (hb : b.wf) (h : klit a = klit b) : a = b := kv_inj (key_keyed.inj (key_of a ha) (h ▸ key_of b hb))
theorem key_eql {a b : RK} (ha : a.wf) (hb : b.wf) (W : World) : (binOp .eql 27 (kv a) (kv b)).run Try.prog W = .ok (.bool (decide (a = b))) W := by
  obtain ⟨r, h1, h2⟩ := run_equal_deep W (m := Try.prog.types.size + 1) types_le key_typeAt key_wide (key_of a ha) (key_of b hb)
  have : r = decide (a = b) := by
    rw [Bool.eq_iff_iff, h2, decide_eq_true_iff]
    exact ⟨klit_inj ha hb, fun e => by rw [e]⟩
  simp only [binOp, Sem.run_bind, h1, Result.andThen_ok, Sem.run_pure, this]
theorem key_neq {a b : RK} (ha : a.wf) (hb : b.wf) (W : World) : (binOp .neq 27 (kv a) (kv b)).run Try.prog W = .ok (.bool (!decide (a = b))) W := by
  obtain ⟨r, h1, h2⟩ := run_equal_deep W (m := Try.prog.types.size + 1) types_le key_typeAt key_wide (key_of a ha) (key_of b hb)
  have : r = decide (a = b) := by
    rw [Bool.eq_iff_iff, h2, decide_eq_true_iff]
    exact ⟨klit_inj ha hb, fun e => by rw [e]⟩
  simp only [binOp, Sem.run_bind, h1, Result.andThen_ok, Sem.run_pure, this]
end Go.Proofs.Ytnfoebcfhldemaa
