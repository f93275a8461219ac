/- The laws of layer 4, walked: what they have in common. -/
import Derived.Test.YtnfoebcfhldemaaValC
import Derived.Test.YtnfoebcfhldemaaOpen
import Derived.Deep.RegionWith
namespace Go.Proofs.Ytnfoebcfhldemaa
set_option maxRecDepth 100000
open Go.RowKit
set_option linter.unusedVariables false
attribute [local go_sem ↓] val_ld

theorem txt_of {s : ByteArray} (h : s.size ≤ 16) : txtV (ofV s) = s := by
  rw [txtV, if_pos (ofV_ok h)]
  show strOfNums ((nums s ++ _).take (Int.toNat (s.size : Int))) = s
  rw [Int.toNat_natCast, ← nums_len s, List.take_left, str_nums]
section
variable {W0 W : World}
theorem of_at {s : ByteArray} (h : s.size ≤ 16) (hb : Fr W0 W) : Calls Try.prog 87 #[.string s] W fun e w' => e = .returned (.tuple #[vv (ofV s), .int .i64 0]) ∧ Fr W0 w' := (val_of_fits s h W).mono fun _ _ ⟨he, hw⟩ => ⟨he, fr_step hb hw⟩
theorem check_at {v : RV} (wv : v.wf) (hb : Fr W0 W) : Calls Try.prog 76 #[vv v] W fun e w' => e = .returned (.bool (okV v)) ∧ Fr W0 w' := (val_check v wv W).mono fun _ _ ⟨he, hw⟩ => ⟨he, fr_step hb hw⟩
theorem text_at {v : RV} (wv : v.wf) (hb : Fr W0 W) : Calls Try.prog 104 #[vv v] W fun e w' => e = .returned (.string (txtV v)) ∧ Fr W0 w' := (val_text v wv W).mono fun _ _ ⟨he, hw⟩ => ⟨he, fr_step hb hw⟩
theorem number_at {v : RV} (wv : v.wf) (ok : okV v = true) (hb : Fr W0 W) : Calls Try.prog 98 #[vv v] W fun e w' => e = .returned (.int .u64 (numV v)) ∧ Fr W0 w' := (val_number v wv ok W).mono fun _ _ ⟨he, hw⟩ => ⟨he, fr_step hb hw⟩
theorem from_at {n : Int} (hn : 0 ≤ n) (hb : Fr W0 W) : Calls Try.prog 92 #[.int .u64 n] W fun e w' => e = .returned (vv (fromV n)) ∧ Fr W0 w' := (val_from n hn W).mono fun _ _ ⟨he, hw⟩ => ⟨he, fr_step hb hw⟩
theorem plus_at {v : RV} (wv : v.wf) (ok : okV v = true) (k : Int) (hb : Fr W0 W) : Calls Try.prog 93 #[vv v, .int .u64 k] W fun e w' => e = .returned (vv (plusV v k)) ∧ Fr W0 w' := (val_plus v wv ok k W).mono fun _ _ ⟨he, hw⟩ => ⟨he, fr_step hb hw⟩
end
/-- A load of a value, from one world on. -/
theorem ld_fr {W0 : World} {g : Nat} {v : RV} (ha : Arr W0 g 34 (vc v).toArray) (hl : (vc v).length = 17) : ∀ W, Fr W0 W → (ldS 34 (.pointer (some ⟨g, 0, none⟩))).run Try.prog W = .ok (.agg (vc v).toArray) W := fun W h => valS.ld hl (ha.below h ha.lt)
theorem cell_fr {W0 : World} {g T : Nat} {cs : List Value} (ha : Arr W0 g T cs.toArray) (j : Nat) (u : Value) (hu : cs[j]? = some u) : ∀ W, Fr W0 W → W.cell? ⟨g, j, none⟩ = some u := fun W h => by
  rw [(ha.below h ha.lt).cell, ← hu]; simp
def one1 : ByteArray := ⟨#[1]⟩
theorem num_one : numV (ofV one1) = 1 := by decide
theorem plus_one : plusV (ofV one1) 255 = fromV 256 := by decide
end Go.Proofs.Ytnfoebcfhldemaa
/- ValueNumbers, ValuePluses, walked. -/
namespace Go.Proofs.Ytnfoebcfhldemaa
set_option maxRecDepth 100000
open Go.RowKit
set_option linter.unusedVariables false
attribute [local go_sem ↓] val_ld
theorem plus_from {n k : Int} (h0 : 0 ≤ n) (h1 : n < 18446744073709551616) : plusV (fromV n) k = fromV (IntKind.u64.wrap (n + k)) := by rw [plusV, num_from h0 h1]
theorem plus_back {n k : Int} (h0 : 0 ≤ n) (h1 : n < 18446744073709551616) : plusV (fromV (IntKind.u64.wrap (n + k))) (IntKind.u64.wrap (-k)) = fromV n := by
  rw [plus_from (wrap_u64 _).1 (wrap_u64 _).2]
  congr 1
  rw [u64_of, u64_of, u64_of]
  omega
theorem plus_plus (v : RV) (a b : Int) : plusV (plusV v a) b = plusV v (IntKind.u64.wrap (a + b)) := by
  rw [plusV.eq_1 v a, plus_from (wrap_u64 _).1 (wrap_u64 _).2, plusV]
  congr 1
  rw [u64_of, u64_of, u64_of, u64_of]
  omega
theorem plus_zero {v : RV} (wv : v.wf) : plusV v 0 = fromV (numV v) := by
  rw [plusV, u64_of]
  congr 1
  have := numV_bd wv
  omega
theorem eql_self {v : RV} (wv : v.wf) (W : World) : (binOp .eql 34 (.agg (vc v).toArray) (.agg (vc v).toArray)).run Try.prog W = .ok (.bool true) W := by
  have h := val_eql wv wv W
  rwa [decide_eq_true rfl] at h
end Go.Proofs.Ytnfoebcfhldemaa
/- ValueAll, walked. -/
namespace Go.Proofs.Ytnfoebcfhldemaa
set_option maxRecDepth 100000
open Go.RowKit
set_option linter.unusedVariables false
attribute [local go_sem ↓] val_ld
theorem rcheck_at {W0 W : World} {v : RV} (wv : v.wf) (hb : Fr W0 W) : Calls Try.prog 80 #[vv v] W fun e w' => e = .returned (.bool (okV v)) ∧ Fr W0 w' := (ref_vcheck v wv W).mono fun _ _ ⟨he, hw⟩ => ⟨he, fr_step hb hw⟩
theorem rfrom_at {W0 W : World} {n : Int} (hn : 0 ≤ n) (hn2 : n < 18446744073709551616) (hb : Fr W0 W) : Calls Try.prog 84 #[.int .u64 n] W fun e w' => e = .returned (vv (fromV n)) ∧ Fr W0 w' := (ref_from n hn hn2 W).mono fun _ _ ⟨he, hw⟩ => ⟨he, fr_step hb hw⟩
theorem rnumber_at {W0 W : World} {v : RV} (wv : v.wf) (hb : Fr W0 W) : Calls Try.prog 94 #[vv v] W fun e w' => e = .returned (.int .u64 (numV v)) ∧ Fr W0 w' := (ref_number v wv W).mono fun _ _ ⟨he, hw⟩ => ⟨he, fr_step hb hw⟩
theorem rplus_at {W0 W : World} {v : RV} (wv : v.wf) (k : Int) (hb : Fr W0 W) : Calls Try.prog 83 #[vv v, .int .u64 k] W fun e w' => e = .returned (vv (plusV v k)) ∧ Fr W0 w' := (ref_plus v wv k W).mono fun _ _ ⟨he, hw⟩ => ⟨he, fr_step hb hw⟩
theorem neq_self {v : RV} (wv : v.wf) (W : World) : (binOp .neq 34 (.agg (vc v).toArray) (.agg (vc v).toArray)).run Try.prog W = .ok (.bool false) W := by
  have h := val_neq wv wv W
  rwa [decide_eq_true rfl] at h
/-- A guard that hangs on an operation that was passed over. -/
theorem ite_no {c : Prop} [Decidable c] {A B : Prop} (hc : ¬ c) (h : B) : if c then A else B := by rw [if_neg hc]; exact h
end Go.Proofs.Ytnfoebcfhldemaa
