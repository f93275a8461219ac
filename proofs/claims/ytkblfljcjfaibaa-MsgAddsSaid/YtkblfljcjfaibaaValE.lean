/- ValueNumbers, ValuePluses, walked. -/
import Derived.Test.YtkblfljcjfaibaaValD
namespace Go.Proofs.Ytkblfljcjfaibaa
open Go.RowKit
set_option linter.unusedVariables false
attribute [local go_sem ↓] val_ld
theorem plus_from {n k : Int} (h0 : 0 ≤ n) (h1 : n < 18446744073709551616) : plusV (fromV n) k = fromV (IntKind.u64.wrap (n + k)) := by rw [plusV, num_from h0 h1]
theorem plus_back {n k : Int} (h0 : 0 ≤ n) (h1 : n < 18446744073709551616) : plusV (fromV (IntKind.u64.wrap (n + k))) (IntKind.u64.wrap (-k)) = fromV n := by
  rw [plus_from (wrap_u64 _).1 (wrap_u64 _).2]
  congr 1
  rw [u64_of, u64_of, u64_of]
  omega
theorem plus_plus (v : RV) (a b : Int) : plusV (plusV v a) b = plusV v (IntKind.u64.wrap (a + b)) := by
  rw [plusV.eq_1 v a, plus_from (wrap_u64 _).1 (wrap_u64 _).2, plusV]
  congr 1
  rw [u64_of, u64_of, u64_of, u64_of]
  omega
theorem plus_zero {v : RV} (wv : v.wf) : plusV v 0 = fromV (numV v) := by
  rw [plusV, u64_of]
  congr 1
  have := numV_bd wv
  omega
theorem eql_self {v : RV} (wv : v.wf) (W : World) : (binOp .eql 28 (.agg (vc v).toArray) (.agg (vc v).toArray)).run Try.prog W = .ok (.bool true) W := by
  have h := val_eql wv wv W
  rwa [decide_eq_true rfl] at h
end Go.Proofs.Ytkblfljcjfaibaa
