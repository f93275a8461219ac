/- ValueNumbers, ValuePluses, walked. -/
import Derived.Test.YtignnjflodkihaaValD
namespace Go.Proofs.Ytignnjflodkihaa
open Go.RowKit
set_option linter.unusedVariables false
attribute [local go_sem ↓] val_ld
theorem plus_from {n k : Int} (h0 : 0 ≤ n) (h1 : n < 18446744073709551616) : plusV (fromV n) k = fromV (IntKind.u64.wrap (n + k)) := by rw [plusV, num_from h0 h1]
theorem plus_back {n k : Int} (h0 : 0 ≤ n) (h1 : n < 18446744073709551616) : plusV (fromV (IntKind.u64.wrap (n + k))) (IntKind.u64.wrap (-k)) = fromV n := by
  rw [plus_from (wrap_u64 _).1 (wrap_u64 _).2]
  congr 1
  rw [u64_of, u64_of, u64_of]
  omega
theorem plus_plus (v : RV) (a b : Int) : plusV (plusV v a) b = plusV v (IntKind.u64.wrap (a + b)) := by
  rw [plusV.eq_1 v a, plus_from (wrap_u64 _).1 (wrap_u64 _).2, plusV]
  congr 1
  rw [u64_of, u64_of, u64_of, u64_of]
  omega
theorem plus_zero {v : RV} (wv : v.wf) : plusV v 0 = fromV (numV v) := by
  rw [plusV, u64_of]
  congr 1
  have := numV_bd wv
  omega
theorem eql_self {v : RV} (wv : v.wf) (W : World) : (binOp .eql 41 (.agg (vc v).toArray) (.agg (vc v).toArray)).run Try.prog W = .ok (.bool true) W := by
  have h := val_eql wv wv W
  rwa [decide_eq_true rfl] at h
set_option maxRecDepth 100000 in
set_option maxHeartbeats 4000000 in
theorem valueNumbers_core (n k : Int) (hn : 0 ≤ n ∧ n ≤ 18446744073709551615) (hk : 0 ≤ k ∧ k ≤ 18446744073709551615) (w : World) : Calls Try.prog 6 #[.int .u64 n, .int .u64 k] w fun e w' => e = .returned (.bool true) ∧ Below w.heap.size w w' := by
  have wx := fromV_wf n
  have wy := fromV_wf (IntKind.u64.wrap (n + k))
  have ox := fromV_ok n
  have oy := fromV_ok (IntKind.u64.wrap (n + k))
  have e1 : plusV (fromV n) k = fromV (IntKind.u64.wrap (n + k)) := plus_from hn.1 (by omega)
  have e2 := plus_back (n := n) (k := k) hn.1 (by omega)
  have e3 := num_from (n := n) hn.1 (by omega)
  have hx := eql_self wx
  have hy := eql_self wy
  have Hx := keep (vc_len wx.hl)
  have H0 := keep (show (vc (fromV n))[0]? = some (.int .i64 8) from rfl)
  have cF := fun W => val_from n hn.1 W
  have cF2 : ∀ Z W, Fr Z W → Calls Try.prog 19 #[.int .u64 (IntKind.u64.wrap (n + k))] W fun e w' => e = .returned (vv (fromV (IntKind.u64.wrap (n + k)))) ∧ Fr Z w' := fun Z W h => from_at (wrap_u64 _).1 h
  have cC : ∀ Z W, Fr Z W → Calls Try.prog 15 #[vv (fromV n)] W fun e w' => e = .returned (.bool true) ∧ Fr Z w' := fun Z W h => by have := check_at wx h; rwa [ox] at this
  have cN : ∀ Z W, Fr Z W → Calls Try.prog 21 #[vv (fromV n)] W fun e w' => e = .returned (.int .u64 n) ∧ Fr Z w' := fun Z W h => by have := number_at wx ox h; rwa [e3] at this
  have cP : ∀ Z W, Fr Z W → Calls Try.prog 23 #[vv (fromV n), .int .u64 k] W fun e w' => e = .returned (vv (fromV (IntKind.u64.wrap (n + k)))) ∧ Fr Z w' := fun Z W h => by have := plus_at wx ox k h; rwa [e1] at this
  have cQ : ∀ Z W, Fr Z W → Calls Try.prog 23 #[vv (fromV (IntKind.u64.wrap (n + k))), .int .u64 (IntKind.u64.wrap (-k))] W fun e w' => e = .returned (vv (fromV n)) ∧ Fr Z w' := fun Z W h => by have := plus_at wy oy (IntKind.u64.wrap (-k)) h; rwa [e2] at this
  clear wx wy ox oy e1 e2 e3 hn hk
  generalize fromV n = x at *
  generalize fromV (IntKind.u64.wrap (n + k)) = y at *
  go_enter Try.func6, Try.ntmps6
  go_wp2_with fail
  refine (cF _).mono ?_
  rintro e w1 ⟨rfl, hf1⟩
  go_wp2_with (refine wpList_store_new valS rfl (.tmp 5) (.tmp 7) rfl w1.heap.size (vc x) rfl rfl Hx.out (vc_one _) rfl rfl ?_
               generalize hX : World.alloc w1 _ = Z
               have hA : Arr Z w1.heap.size 41 (vc x).toArray := by rw [← hX]; exact Arr.new w1 _ _
               have hF : Fr w Z := by rw [← hX]; exact fr_new hf1 _
               clear hX hf1
               have l1 := ld_fr hA Hx.out
               have e0 := cell_fr hA 0 _ H0.out)
  have hfz := fr_drew (fr_refl Z)
  go_region_held3 (fun w' => Fr Z w')
    (first | exact hfz | assumption)
    (first
      | (go_at_call 15; refine (cC Z _ (by assumption)).mono ?_; rintro e w9 ⟨rfl, hz⟩)
      | (go_at_call 21; refine (cN Z _ (by assumption)).mono ?_; rintro e w9 ⟨rfl, hz⟩)
      | (go_at_call 19; refine (cF2 Z _ (by assumption)).mono ?_; rintro e w9 ⟨rfl, hz⟩)
      | (go_at_call 23; (with_reducible refine (cP Z _ (by assumption)).mono ?_); rintro e w9 ⟨rfl, hz⟩)
      | (go_at_call 23; (with_reducible refine (cQ Z _ (by assumption)).mono ?_); rintro e w9 ⟨rfl, hz⟩)
      | (go_at_call 12; refine (awake4_at (W0 := Z) (by assumption)).mono ?_; rintro e w9 ⟨rfl, hz⟩))
  rename_i hH
  go_wp2
  go_ret
  exact ⟨rfl, fr_step hF hH⟩
end Go.Proofs.Ytignnjflodkihaa
