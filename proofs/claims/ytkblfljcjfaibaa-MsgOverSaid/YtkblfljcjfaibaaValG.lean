/- ValueAll, walked. -/
import Derived.Test.YtkblfljcjfaibaaValE
import Derived.Deep.RegionWith
namespace Go.Proofs.Ytkblfljcjfaibaa
open Go.RowKit
set_option linter.unusedVariables false
attribute [local go_sem ↓] val_ld
theorem rcheck_at {W0 W : World} {v : RV} (wv : v.wf) (hb : Fr W0 W) : Calls Try.prog 13 #[vv v] W fun e w' => e = .returned (.bool (okV v)) ∧ Fr W0 w' := (ref_vcheck v wv W).mono fun _ _ ⟨he, hw⟩ => ⟨he, fr_step hb hw⟩
theorem rfrom_at {W0 W : World} {n : Int} (hn : 0 ≤ n) (hn2 : n < 18446744073709551616) (hb : Fr W0 W) : Calls Try.prog 22 #[.int .u64 n] W fun e w' => e = .returned (vv (fromV n)) ∧ Fr W0 w' := (ref_from n hn hn2 W).mono fun _ _ ⟨he, hw⟩ => ⟨he, fr_step hb hw⟩
theorem rnumber_at {W0 W : World} {v : RV} (wv : v.wf) (hb : Fr W0 W) : Calls Try.prog 37 #[vv v] W fun e w' => e = .returned (.int .u64 (numV v)) ∧ Fr W0 w' := (ref_number v wv W).mono fun _ _ ⟨he, hw⟩ => ⟨he, fr_step hb hw⟩
theorem rplus_at {W0 W : World} {v : RV} (wv : v.wf) (k : Int) (hb : Fr W0 W) : Calls Try.prog 28 #[vv v, .int .u64 k] W fun e w' => e = .returned (vv (plusV v k)) ∧ Fr W0 w' := (ref_plus v wv k W).mono fun _ _ ⟨he, hw⟩ => ⟨he, fr_step hb hw⟩
theorem neq_self {v : RV} (wv : v.wf) (W : World) : (binOp .neq 28 (.agg (vc v).toArray) (.agg (vc v).toArray)).run Try.prog W = .ok (.bool false) W := by
  have h := val_neq wv wv W
  rwa [decide_eq_true rfl] at h
/-- A guard that hangs on an operation that was passed over. -/
theorem ite_no {c : Prop} [Decidable c] {A B : Prop} (hc : ¬ c) (h : B) : if c then A else B := by rw [if_neg hc]; exact h
end Go.Proofs.Ytkblfljcjfaibaa
