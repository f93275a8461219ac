/- ValuePluses, walked. -/
import Derived.Test.YtignnjflodkihaaValE
namespace Go.Proofs.Ytignnjflodkihaa
open Go.RowKit
set_option linter.unusedVariables false
attribute [local go_sem ↓] val_ld
set_option maxRecDepth 100000 in
set_option maxHeartbeats 4000000 in
theorem valuePluses_core (v : RV) (a b : Int) (wv : v.wf) (w : World) : Calls Try.prog 7 #[vv v, .int .u64 a, .int .u64 b] w fun e w' => e = .returned (.bool true) ∧ Below w.heap.size w w' := by
  have Hlv := keep (vc_len wv.hl)
  have cC := fun W => ref_vcheck v wv W
  by_cases ok : okV v = true
  · have wp := fromV_wf (IntKind.u64.wrap (numV v + a))
    have op := fromV_ok (IntKind.u64.wrap (numV v + a))
    have e1 : plusV (plusV v a) b = plusV v (IntKind.u64.wrap (a + b)) := plus_plus v a b
    have e2 := plus_zero wv
    have hq := eql_self (show (plusV v (IntKind.u64.wrap (a + b))).wf from fromV_wf _)
    have hr := eql_self (fromV_wf (numV v))
    have Hp := keep (vc_len wp.hl)
    have H0 := keep (show (vc (fromV (IntKind.u64.wrap (numV v + a))))[0]? = some (.int .i64 8) from rfl)
    have cP : ∀ W, Calls Try.prog 23 #[vv v, .int .u64 a] W fun e w' => e = .returned (vv (plusV v a)) ∧ Fr W w' := fun W => val_plus v wv ok a W
    have cQ : ∀ Z W, Fr Z W → Calls Try.prog 23 #[vv (plusV v a), .int .u64 b] W fun e w' => e = .returned (vv (plusV v (IntKind.u64.wrap (a + b)))) ∧ Fr Z w' := fun Z W h => by have := plus_at wp op b h; rwa [show plusV (fromV (IntKind.u64.wrap (numV v + a))) b = _ from e1] at this
    have cR : ∀ Z W, Fr Z W → Calls Try.prog 23 #[vv v, .int .u64 (IntKind.u64.wrap (a + b))] W fun e w' => e = .returned (vv (plusV v (IntKind.u64.wrap (a + b)))) ∧ Fr Z w' := fun Z W h => plus_at wv ok _ h
    have cZ : ∀ Z W, Fr Z W → Calls Try.prog 23 #[vv v, .int .u64 0] W fun e w' => e = .returned (vv (fromV (numV v))) ∧ Fr Z w' := fun Z W h => by have := plus_at wv ok 0 h; rwa [e2] at this
    have cN : ∀ Z W, Fr Z W → Calls Try.prog 21 #[vv v] W fun e w' => e = .returned (.int .u64 (numV v)) ∧ Fr Z w' := fun Z W h => number_at wv ok h
    have cF : ∀ Z W, Fr Z W → Calls Try.prog 19 #[.int .u64 (numV v)] W fun e w' => e = .returned (vv (fromV (numV v))) ∧ Fr Z w' := fun Z W h => from_at (numV_bd wv).1 h
    rw [ok] at cC
    replace Hp : Hid ((vc (plusV v a)).length = 17) := Hp
    replace H0 : Hid ((vc (plusV v a))[0]? = some (.int .i64 8)) := H0
    clear wp op e1 e2 wv ok
    generalize plusV v (IntKind.u64.wrap (a + b)) = q at *
    generalize plusV v a = p at *
    generalize hr' : fromV (numV v) = r at *
    generalize numV v = z at *
    clear hr'
    go_enter Try.func7, Try.ntmps7
    go_wp2_with (refine wpList_load_sty valS rfl (.tmp 3) rfl w.heap.size rfl Hlv.out (Arr.new w _ _) ?_)
    refine (cC _).mono ?_
    rintro e w1 ⟨rfl, hf1⟩
    have hA1 := (Arr.new w (vc v).toArray 41).below hf1 (by simp)
    have hF1 := fr_step (fr_new (fr_refl w) _) hf1
    go_wp2_with (refine wpList_load_sty valS rfl (.tmp 3) rfl w.heap.size rfl Hlv.out hA1 ?_)
    refine (cP _).mono ?_
    rintro e w2 ⟨rfl, hf2⟩
    have hA2 := hA1.below hf2 hA1.lt
    have hF2 := fr_step hF1 hf2
    clear cC cP hf1 hf2 hA1 hF1
    go_wp2_with (refine wpList_store_new valS rfl (.tmp 7) (.tmp 14) rfl w2.heap.size (vc p) rfl rfl Hp.out (vc_one _) rfl rfl ?_
                 generalize hX : World.alloc w2 _ = Z
                 have hA : Arr Z w2.heap.size 41 (vc p).toArray := by rw [← hX]; exact Arr.new w2 _ _
                 have hB : Arr Z w.heap.size 41 (vc v).toArray := by rw [← hX]; exact hA2.alloc _
                 have hF : Fr w Z := by rw [← hX]; exact fr_new hF2 _
                 clear hX hA2 hF2
                 have l1 := ld_fr hA Hp.out
                 have l2 := ld_fr hB Hlv.out
                 have e0 := cell_fr hA 0 _ H0.out)
    have hfz := fr_drew (fr_refl Z)
    go_region_held3 (fun w' => Fr Z w')
      (first | exact hfz | assumption)
      (first
        | (go_at_call 21; refine (cN Z _ (by assumption)).mono ?_; rintro e w9 ⟨rfl, hz⟩)
        | (go_at_call 19; refine (cF Z _ (by assumption)).mono ?_; rintro e w9 ⟨rfl, hz⟩)
        | (go_at_call 23; (with_reducible refine (cQ Z _ (by assumption)).mono ?_); rintro e w9 ⟨rfl, hz⟩)
        | (go_at_call 23; (with_reducible refine (cR Z _ (by assumption)).mono ?_); rintro e w9 ⟨rfl, hz⟩)
        | (go_at_call 23; (with_reducible refine (cZ Z _ (by assumption)).mono ?_); rintro e w9 ⟨rfl, hz⟩)
        | (go_at_call 12; refine (awake4_at (W0 := Z) (by assumption)).mono ?_; rintro e w9 ⟨rfl, hz⟩))
    rename_i hH
    go_wp2
    go_ret
    exact ⟨rfl, fr_step hF hH⟩
  · have ok' : okV v = false := by simpa using ok
    rw [ok'] at cC
    clear ok ok' wv
    go_enter Try.func7, Try.ntmps7
    go_wp2_with (refine wpList_load_sty valS rfl (.tmp 3) rfl w.heap.size rfl Hlv.out (Arr.new w _ _) ?_)
    refine (cC _).mono ?_
    rintro e w1 ⟨rfl, hf1⟩
    go_wp2_with fail
    refine (awake4_at (fr_step (fr_new (fr_refl w) _) hf1)).mono ?_
    rintro e w2 ⟨rfl, hf2⟩
    go_wp2_with fail
    go_ret
    exact ⟨rfl, hf2⟩
end Go.Proofs.Ytignnjflodkihaa
