/- Two rows, put one after the other into a new one. -/
import Derived.Test.YtbdioipjgjbgmaaLfQ
namespace Go.Proofs.Ytbdioipjgjbgmaa
set_option maxRecDepth 100000
open Go.RowKit
set_option linter.unusedVariables false
theorem two_app {Y : World} {A1 A2 : Option Addr} {c1 c2 sp r n : Nat} {a b l : List RE} (h1 : Has Y Y.heap.size A1 (rows ec a)) (h2 : Has Y Y.heap.size A2 (rows ec b)) (l1 : a.length = sp) (l2 : b.length = r) (s1 : sp ≤ 100000) (s2 : r ≤ 100000) (hn : sp + r = n) (wa : WfE a) (wb : WfE b) (hl : a ++ b = l) (ty ty2 : TypeId) :
    ∃ A3 c3 Z1 A4 c4 Z2, (Builtin.append_ #[53, 53] ty #[.slice (some ⟨Y.heap.size, 0, none⟩) 0 0, .slice A1 sp c1]).run Try.prog (Y.alloc (.cells #[] 69)) = .ok (.slice A3 sp c3) Z1 ∧ (Builtin.append_ #[53, 53] ty2 #[.slice A3 sp c3, .slice A2 r c2]).run Try.prog Z1 = .ok (.slice A4 n c4) Z2 ∧ Hid (OwnE Z2 0 A4 c4 l) ∧ Fr Y Z1 ∧ Fr Y Z2 := by
  obtain ⟨i, z, hi, hz, hsize, hby, hzs⟩ := ent_elem.row
  have ho := Own.lit Y Y.heap.size 69 #[] 0 26 (Nat.le_refl _) (by unfold maxLen; omega) rfl
  have f0 : Fr Y (Y.alloc (.cells #[] 69)) := fr_new (fr_refl Y) _
  obtain ⟨A3, c3, Z1, hr1, o1, g1, _⟩ := run_append_has (P := Try.prog) (Y.alloc (.cells #[] 69)) Y.heap.size 53 ty 69 i z 26 40 ents_under hi hz hsize hby hzs (by decide) _ 0 0 _ ho Y.heap.size A1 sp c1 (rows ec a) (by rw [rows_len wa.wid, l1]) (h1.fr (Nat.le_refl _) f0) (rows_ec_one a) (by unfold maxLen; omega) (by omega) f0.size
  have f1 : Fr Y Z1 := below_grown f0 ho g1 f0.size (Nat.le_refl _)
  rw [Nat.zero_add] at hr1 o1
  obtain ⟨A4, c4, Z2, hr2, o2, g2, _⟩ := run_append_has (P := Try.prog) Z1 Y.heap.size 53 ty2 69 i z 26 40 ents_under hi hz hsize hby hzs (by decide) A3 sp c3 _ o1 Y.heap.size A2 r c2 (rows ec b) (by rw [rows_len wb.wid, l2]) (h2.fr (Nat.le_refl _) f1) (rows_ec_one b) (by unfold maxLen; omega) (by omega) f1.size
  have f2 : Fr Y Z2 := below_grown f1 o1 g2 f1.size (Nat.le_refl _)
  rw [hn] at hr2 o2
  refine ⟨A3, c3, Z1, A4, c4, Z2, hr1, hr2, keep ?_, f1, f2⟩
  unfold OwnE
  have hlen : l.length = n := by rw [← hl, List.length_append, l1, l2, hn]
  rw [hlen, ← hl, rows_append]
  exact Own.mono (by simpa using o2) (Nat.zero_le _)
end Go.Proofs.Ytbdioipjgjbgmaa
