/- Pairs of keys, as a map's keys. -/
import Derived.Test.YtignnjflodkihaaKey1
namespace Go.Proofs.Ytignnjflodkihaa
open Go.RowKit
set_option linter.unusedVariables false
/-- A pair of keys, as a value. -/
abbrev pv (a b : RK) : Value := .agg #[.int .i64 a.n, .int .u8 a.b0, .int .u8 a.b1, .int .u8 a.b2, .int .u8 a.b3, .int .u8 a.b4, .int .u8 a.b5, .int .u8 a.b6, .int .u8 a.b7, .int .i64 b.n, .int .u8 b.b0, .int .u8 b.b1, .int .u8 b.b2, .int .u8 b.b3, .int .u8 b.b4, .int .u8 b.b5, .int .u8 b.b6, .int .u8 b.b7]
theorem pair_type : Try.prog.keyType 35 = true := by kernel_rfl
theorem pair_wide : (match Try.prog.underlying 35 with | some (.array _ _) | some (.struct _) => true | _ => false) = true := by kernel_rfl
theorem pair_row : (35 : TypeId) < Try.prog.types.size := of_decide_eq_true (by kernel_rfl)
theorem pair_law : WideMaps.KeyLaw Try.prog 35 := deep_law_gate laid_out (of_decide_eq_true types_small) pair_row pair_type pair_wide
theorem pair_keyed : Go.Maps.Keyed Try.prog 35 := .of_law pair_law
theorem pair_cells : Try.prog.cellsOf 35 = 18 := by kernel_rfl
/-- What a pair reads as, as a map's key. -/
def plit (a b : RK) : Lit := .string (keyBytes (klits a ++ klits b))
theorem pair_of (a b : RK) (ha : a.wf) (hb : b.wf) : keyOf Try.prog 35 (pv a b) = some (plit a b) := by
  have hf : (pv a b).formed Try.prog 35 = true := by simp [Value.formed, Try.underlying35, pair_cells]
  have hl : Try.prog.keyLits (Try.prog.types.size + 1) 35 [.int .i64 a.n, .int .u8 a.b0, .int .u8 a.b1, .int .u8 a.b2, .int .u8 a.b3, .int .u8 a.b4, .int .u8 a.b5, .int .u8 a.b6, .int .u8 a.b7, .int .i64 b.n, .int .u8 b.b0, .int .u8 b.b1, .int .u8 b.b2, .int .u8 b.b3, .int .u8 b.b4, .int .u8 b.b5, .int .u8 b.b6, .int .u8 b.b7] = some (klits a ++ klits b) := by
    obtain ⟨D, hD⟩ : ∃ D, Try.prog.types.size + 1 = D + 1 + 1 + 1 + 1 := ⟨Try.prog.types.size - 3, by have h : 35 < Try.prog.types.size := pair_row; omega⟩
    rw [hD]
    simp [Program.keyLits, Try.underlying35, Try.underlying30, Try.underlying3, Try.underlying28, Try.underlying5, pair_cells, key_cells, arr_cells, int_cells, u8_cells, i64_wf ha.hn, byt_wf ha.h0, byt_wf ha.h1, byt_wf ha.h2, byt_wf ha.h3, byt_wf ha.h4, byt_wf ha.h5, byt_wf ha.h6, byt_wf ha.h7, i64_wf hb.hn, byt_wf hb.h0, byt_wf hb.h1, byt_wf hb.h2, byt_wf hb.h3, byt_wf hb.h4, byt_wf hb.h5, byt_wf hb.h6, byt_wf hb.h7, klits, List.range, List.range.loop]
    rw [if_pos (by intro i hi; match i, hi with | 0, _ => simp | 1, _ => simp), if_pos (by intro i hi; match i, hi with | 0, _ => simp | 1, _ => simp)]
    rfl
  simp only [keyOf, Try.underlying35, pair_type, hf, Bool.and_self, if_true, Value.cells]
  rw [hl]
  rfl
theorem pv_inj {a b c d : RK} (h : pv a b = pv c d) : a = c ∧ b = d := by
  cases a; cases b; cases c; cases d; simp at h; simp [h]
theorem plit_inj {a b c d : RK} (ha : a.wf) (hb : b.wf) (hc : c.wf) (hd : d.wf) (h : plit a b = plit c d) : a = c ∧ b = d := pv_inj (pair_keyed.inj (pair_of a b ha hb) (h ▸ pair_of c d hc hd))
end Go.Proofs.Ytignnjflodkihaa
