/- ValueAll, walked. -/
import Derived.Test.YtignnjflodkihaaValE
import Derived.Deep.RegionWith
namespace Go.Proofs.Ytignnjflodkihaa
open Go.RowKit
set_option linter.unusedVariables false
attribute [local go_sem ↓] val_ld
theorem rcheck_at {W0 W : World} {v : RV} (wv : v.wf) (hb : Fr W0 W) : Calls Try.prog 16 #[vv v] W fun e w' => e = .returned (.bool (okV v)) ∧ Fr W0 w' := (ref_vcheck v wv W).mono fun _ _ ⟨he, hw⟩ => ⟨he, fr_step hb hw⟩
theorem rtext_at {W0 W : World} {v : RV} (wv : v.wf) (hb : Fr W0 W) : Calls Try.prog 18 #[vv v] W fun e w' => e = .returned (.string (txtV v)) ∧ Fr W0 w' := (ref_vtext v wv W).mono fun _ _ ⟨he, hw⟩ => ⟨he, fr_step hb hw⟩
theorem rfrom_at {W0 W : World} {n : Int} (hn : 0 ≤ n) (hn2 : n < 18446744073709551616) (hb : Fr W0 W) : Calls Try.prog 20 #[.int .u64 n] W fun e w' => e = .returned (vv (fromV n)) ∧ Fr W0 w' := (ref_from n hn hn2 W).mono fun _ _ ⟨he, hw⟩ => ⟨he, fr_step hb hw⟩
theorem rnumber_at {W0 W : World} {v : RV} (wv : v.wf) (hb : Fr W0 W) : Calls Try.prog 22 #[vv v] W fun e w' => e = .returned (.int .u64 (numV v)) ∧ Fr W0 w' := (ref_number v wv W).mono fun _ _ ⟨he, hw⟩ => ⟨he, fr_step hb hw⟩
theorem rplus_at {W0 W : World} {v : RV} (wv : v.wf) (k : Int) (hb : Fr W0 W) : Calls Try.prog 24 #[vv v, .int .u64 k] W fun e w' => e = .returned (vv (plusV v k)) ∧ Fr W0 w' := (ref_plus v wv k W).mono fun _ _ ⟨he, hw⟩ => ⟨he, fr_step hb hw⟩
theorem neq_self {v : RV} (wv : v.wf) (W : World) : (binOp .neq 41 (.agg (vc v).toArray) (.agg (vc v).toArray)).run Try.prog W = .ok (.bool false) W := by
  have h := val_neq wv wv W
  rwa [decide_eq_true rfl] at h
/-- A guard that hangs on an operation that was passed over. -/
theorem ite_no {c : Prop} [Decidable c] {A B : Prop} (hc : ¬ c) (h : B) : if c then A else B := by rw [if_neg hc]; exact h
set_option maxRecDepth 100000 in
set_option maxHeartbeats 8000000 in
theorem valueAll_core (s : ByteArray) (v : RV) (n : Int) (ws : s.size ≤ maxLen) (wv : v.wf) (hn : 0 ≤ n ∧ n ≤ 18446744073709551615) (w : World) : Calls Try.prog 4 #[.string s, vv v, .int .u64 n] w fun e w' => e = .returned (.bool true) ∧ Below w.heap.size w w' := by
  unfold maxLen at ws
  by_cases hs : s.size ≤ 100
  · have d1 : decide ((100 : Int) < (s.size : Int)) = false := by simp; omega
    obtain ⟨x, ec, wx, cO, cR⟩ : ∃ (x : RV) (ec : Int), x.wf ∧ (∀ W, Calls Try.prog 13 #[.string s] W fun e w' => e = .returned (.tuple #[vv x, .int .i64 ec]) ∧ Fr W w') ∧ (∀ W, Calls Try.prog 14 #[.string s] W fun e w' => e = .returned (.tuple #[vv x, .int .i64 ec]) ∧ Fr W w') := by
      by_cases h8 : s.size ≤ 16
      · exact ⟨ofV s, 0, ofV_wf h8, fun W => val_of_fits s h8 W, fun W => ref_of_fits s h8 W⟩
      · exact ⟨zeroV, 2, zeroV_wf, fun W => val_of_big s (by omega) (by omega) W, fun W => ref_of_big s (by omega) (by omega) W⟩
    have Hlv := keep (vc_len wv.hl)
    have Hlx := keep (vc_len wx.hl)
    have nx := neq_self wx
    have nF := neq_self (fromV_wf n)
    have cK : ∀ Z W, Fr Z W → Calls Try.prog 15 #[vv v] W fun e w' => e = .returned (.bool (okV v)) ∧ Fr Z w' := fun Z W h => check_at wv h
    have cC : ∀ Z W, Fr Z W → Calls Try.prog 16 #[vv v] W fun e w' => e = .returned (.bool (okV v)) ∧ Fr Z w' := fun Z W h => rcheck_at wv h
    have cT : ∀ Z W, Fr Z W → Calls Try.prog 17 #[vv v] W fun e w' => e = .returned (.string (txtV v)) ∧ Fr Z w' := fun Z W h => text_at wv h
    have cU : ∀ Z W, Fr Z W → Calls Try.prog 18 #[vv v] W fun e w' => e = .returned (.string (txtV v)) ∧ Fr Z w' := fun Z W h => rtext_at wv h
    have cF : ∀ Z W, Fr Z W → Calls Try.prog 19 #[.int .u64 n] W fun e w' => e = .returned (vv (fromV n)) ∧ Fr Z w' := fun Z W h => from_at hn.1 h
    have cG : ∀ Z W, Fr Z W → Calls Try.prog 20 #[.int .u64 n] W fun e w' => e = .returned (vv (fromV n)) ∧ Fr Z w' := fun Z W h => rfrom_at hn.1 (by omega) h
    have Hrest : Hid (okV v = true → (∀ Z W, Fr Z W → Calls Try.prog 21 #[vv v] W fun e w' => e = .returned (.int .u64 (numV v)) ∧ Fr Z w') ∧ (∀ Z W, Fr Z W → Calls Try.prog 22 #[vv v] W fun e w' => e = .returned (.int .u64 (numV v)) ∧ Fr Z w') ∧ (∀ Z W, Fr Z W → Calls Try.prog 23 #[vv v, .int .u64 n] W fun e w' => e = .returned (vv (plusV v n)) ∧ Fr Z w') ∧ (∀ Z W, Fr Z W → Calls Try.prog 24 #[vv v, .int .u64 n] W fun e w' => e = .returned (vv (plusV v n)) ∧ Fr Z w') ∧ (∀ W, (binOp .eql 41 (.agg (vc (plusV v n)).toArray) (.agg (vc (plusV v n)).toArray)).run Try.prog W = .ok (.bool true) W)) :=
      keep fun ok => ⟨fun Z W h => number_at wv ok h, fun Z W h => rnumber_at wv h, fun Z W h => plus_at wv ok n h, fun Z W h => rplus_at wv n h, eql_self (fromV_wf _)⟩
    clear wv wx hn ws
    generalize okV v = d at *
    generalize txtV v = T at *
    generalize fromV n = y at *
    generalize numV v = z at *
    generalize plusV v n = q at *
    go_enter Try.func4, Try.ntmps4
    go_wp2_with fail
    refine (cO _).mono ?_
    rintro e w1 ⟨rfl, hf1⟩
    have hA1 := (Arr.new w (vc v).toArray 41).below hf1 (by simp)
    have hF1 := fr_step (fr_new (fr_refl w) _) hf1
    go_wp2_with (refine wpList_store_new valS rfl (.tmp 7) (.tmp 18) rfl w1.heap.size (vc x) rfl rfl Hlx.out (vc_one _) rfl rfl ?_)
    refine (cR _).mono ?_
    rintro e w2 ⟨rfl, hf2⟩
    have hA2 := (hA1.alloc (.cells (vc x).toArray 41)).below hf2 (hA1.alloc _).lt
    have hB2 := (Arr.new w1 (vc x).toArray 41).below hf2 (by simp)
    have hF2 := fr_step (fr_new hF1 _) hf2
    clear hf1 hf2 hA1 hF1 cO cR
    go_wp2_with (refine wpList_store_new valS rfl (.tmp 9) (.tmp 23) rfl w2.heap.size (vc x) rfl rfl Hlx.out (vc_one _) rfl rfl ?_
                 generalize hX : World.alloc w2 _ = Z
                 have hAZ : Arr Z w.heap.size 41 (vc v).toArray := by rw [← hX]; exact hA2.alloc _
                 have hBZ : Arr Z w1.heap.size 41 (vc x).toArray := by rw [← hX]; exact hB2.alloc _
                 have hCZ : Arr Z w2.heap.size 41 (vc x).toArray := by rw [← hX]; exact Arr.new w2 _ _
                 have hF : Fr w Z := by rw [← hX]; exact fr_new hF2 _
                 clear hX hA2 hB2 hF2
                 have l1 := ld_fr hAZ Hlv.out
                 have l2 := ld_fr hBZ Hlx.out
                 have l3 := ld_fr hCZ Hlx.out)
    have hfz := fr_drew (fr_refl Z)
    go_region_held3 (fun w' => Fr Z w')
      (first | exact hfz | assumption)
      (first
        | (go_at_call 15; refine (cK Z _ (by assumption)).mono ?_; rintro e w9 ⟨rfl, hz⟩)
        | (go_at_call 16; refine (cC Z _ (by assumption)).mono ?_; rintro e w9 ⟨rfl, hz⟩)
        | (go_at_call 17; refine (cT Z _ (by assumption)).mono ?_; rintro e w9 ⟨rfl, hz⟩)
        | (go_at_call 18; refine (cU Z _ (by assumption)).mono ?_; rintro e w9 ⟨rfl, hz⟩)
        | (go_at_call 19; refine (cF Z _ (by assumption)).mono ?_; rintro e w9 ⟨rfl, hz⟩)
        | (go_at_call 20; refine (cG Z _ (by assumption)).mono ?_; rintro e w9 ⟨rfl, hz⟩))
    rename_i hH
    clear hfz nx nF cK cT cU cF cG l2 l3
    go_wp2_with fail
    clear hz hBZ hCZ
    have hf9 := fr_drew hH
    cases d
    · clear Hrest
      refine wp_region_any (by kernel_rfl) ?_
      change wpAny _ _ _ _ _ _ _ (World.drew _)
      refine wpAny_ready (rs := [0]) (by kernel_rfl) (by simp) ?_
      refine AllReady.cons rfl (fun K hK => ?_) AllReady.nil
      refine step_load_sty valS (wanted_plain rfl _) (.tmp 4) rfl w.heap.size rfl Hlv.out (hAZ.below hf9 hAZ.lt) ?_
      refine hK _ _ ?_
      clear hK K
      try simp only [List.getElem_toArray, List.getElem_cons_succ, List.getElem_cons_zero, Act.put, List.setIfInBounds_toArray, List.set_cons_zero, List.set_cons_succ]
      refine wpAny_ready (rs := [1]) (by kernel_rfl) (by simp) ?_
      refine AllReady.cons rfl (fun K hK => ?_) AllReady.nil
      go_simp
      refine (cC Z _ hf9).mono ?_
      rintro e w8 ⟨rfl, hz8⟩
      go_simp
      refine hK _ _ ?_
      clear hK K
      try simp only [List.getElem_toArray, List.getElem_cons_succ, List.getElem_cons_zero, Act.put, List.setIfInBounds_toArray, List.set_cons_zero, List.set_cons_succ]
      refine wpAny_take (i := 2) (v := ?_) rfl (by kernel_rfl) (by kernel_rfl) (by kernel_rfl) (fun _ _ _ h => h) (Or.inl ⟨by rfl, ?_⟩) ?_
      rotate_left
      · intro w; go_simp; try with_reducible rfl
      simp only [List.getElem_toArray, List.getElem_cons_succ, List.getElem_cons_zero, Act.put, List.setIfInBounds_toArray, List.set_cons_zero, List.set_cons_succ]
      refine wpAny_take (i := 3) (v := ?_) rfl (by kernel_rfl) (by kernel_rfl) (by kernel_rfl) (fun _ _ _ h => h) (Or.inl ⟨by rfl, ?_⟩) ?_
      rotate_left
      · intro w; go_simp; try with_reducible rfl
      simp only [List.getElem_toArray, List.getElem_cons_succ, List.getElem_cons_zero, Act.put, List.setIfInBounds_toArray, List.set_cons_zero, List.set_cons_succ]
      refine wpAny_take (i := 4) (v := undef) rfl (by kernel_rfl) (by kernel_rfl) (by kernel_rfl) (fun _ _ _ h => h) (Or.inr ⟨by rfl, rfl⟩) ?_
      simp only [List.getElem_toArray, List.getElem_cons_succ, List.getElem_cons_zero, Act.put, List.setIfInBounds_toArray, List.set_cons_zero, List.set_cons_succ]
      refine wpAny_take (i := 5) (v := undef) rfl (by kernel_rfl) (by kernel_rfl) (by kernel_rfl) (fun _ _ _ h => h) (Or.inr ⟨by rfl, rfl⟩) ?_
      simp only [List.getElem_toArray, List.getElem_cons_succ, List.getElem_cons_zero, Act.put, List.setIfInBounds_toArray, List.set_cons_zero, List.set_cons_succ]
      refine wpAny_take (i := 6) (v := undef) rfl (by kernel_rfl) (by kernel_rfl) (by kernel_rfl) (fun _ _ _ h => h) (Or.inr ⟨by rfl, rfl⟩) ?_
      simp only [List.getElem_toArray, List.getElem_cons_succ, List.getElem_cons_zero, Act.put, List.setIfInBounds_toArray, List.set_cons_zero, List.set_cons_succ]
      refine wpAny_take (i := 7) (v := undef) rfl (by kernel_rfl) (by kernel_rfl) (by kernel_rfl) (fun _ _ _ h => h) (Or.inr ⟨by rfl, rfl⟩) ?_
      simp only [List.getElem_toArray, List.getElem_cons_succ, List.getElem_cons_zero, Act.put, List.setIfInBounds_toArray, List.set_cons_zero, List.set_cons_succ]
      refine wpAny_take (i := 8) (v := undef) rfl (by kernel_rfl) (by kernel_rfl) (by kernel_rfl) (fun _ _ _ h => h) (Or.inr ⟨by rfl, rfl⟩) ?_
      simp only [List.getElem_toArray, List.getElem_cons_succ, List.getElem_cons_zero, Act.put, List.setIfInBounds_toArray, List.set_cons_zero, List.set_cons_succ]
      refine wpAny_take (i := 9) (v := undef) rfl (by kernel_rfl) (by kernel_rfl) (by kernel_rfl) (fun _ _ _ h => h) (Or.inr ⟨by rfl, rfl⟩) ?_
      simp only [List.getElem_toArray, List.getElem_cons_succ, List.getElem_cons_zero, Act.put, List.setIfInBounds_toArray, List.set_cons_zero, List.set_cons_succ]
      refine wpAny_take (i := 10) (v := undef) rfl (by kernel_rfl) (by kernel_rfl) (by kernel_rfl) (fun _ _ _ h => h) (Or.inr ⟨by rfl, rfl⟩) ?_
      simp only [List.getElem_toArray, List.getElem_cons_succ, List.getElem_cons_zero, Act.put, List.setIfInBounds_toArray, List.set_cons_zero, List.set_cons_succ]
      refine wpAny_take (i := 11) (v := undef) rfl (by kernel_rfl) (by kernel_rfl) (by kernel_rfl) (fun _ _ _ h => h) (Or.inr ⟨by rfl, rfl⟩) ?_
      simp only [List.getElem_toArray, List.getElem_cons_succ, List.getElem_cons_zero, Act.put, List.setIfInBounds_toArray, List.set_cons_zero, List.set_cons_succ]
      refine wpAny_take (i := 12) (v := undef) rfl (by kernel_rfl) (by kernel_rfl) (by kernel_rfl) (fun _ _ _ h => h) (Or.inr ⟨by rfl, rfl⟩) ?_
      simp only [List.getElem_toArray, List.getElem_cons_succ, List.getElem_cons_zero, Act.put, List.setIfInBounds_toArray, List.set_cons_zero, List.set_cons_succ]
      refine wpAny_take (i := 13) (v := undef) rfl (by kernel_rfl) (by kernel_rfl) (by kernel_rfl) (fun _ _ _ h => h) (Or.inr ⟨by rfl, rfl⟩) ?_
      simp only [List.getElem_toArray, List.getElem_cons_succ, List.getElem_cons_zero, Act.put, List.setIfInBounds_toArray, List.set_cons_zero, List.set_cons_succ]
      refine wpAny_take (i := 14) (v := undef) rfl (by kernel_rfl) (by kernel_rfl) (by kernel_rfl) (fun _ _ _ h => h) (Or.inr ⟨by rfl, rfl⟩) ?_
      simp only [List.getElem_toArray, List.getElem_cons_succ, List.getElem_cons_zero, Act.put, List.setIfInBounds_toArray, List.set_cons_zero, List.set_cons_succ]
      refine wpAny_take (i := 15) (v := undef) rfl (by kernel_rfl) (by kernel_rfl) (by kernel_rfl) (fun _ _ _ h => h) (Or.inr ⟨by rfl, rfl⟩) ?_
      simp only [List.getElem_toArray, List.getElem_cons_succ, List.getElem_cons_zero, Act.put, List.setIfInBounds_toArray, List.set_cons_zero, List.set_cons_succ]
      refine wpAny_take (i := 16) (v := undef) rfl (by kernel_rfl) (by kernel_rfl) (by kernel_rfl) (fun _ _ _ h => h) (Or.inr ⟨by rfl, rfl⟩) ?_
      simp only [List.getElem_toArray, List.getElem_cons_succ, List.getElem_cons_zero, Act.put, List.setIfInBounds_toArray, List.set_cons_zero, List.set_cons_succ]
      refine wpAny_take (i := 17) (v := undef) rfl (by kernel_rfl) (by kernel_rfl) (by kernel_rfl) (fun _ _ _ h => h) (Or.inr ⟨by rfl, rfl⟩) ?_
      simp only [List.getElem_toArray, List.getElem_cons_succ, List.getElem_cons_zero, Act.put, List.setIfInBounds_toArray, List.set_cons_zero, List.set_cons_succ]
      refine wpAny_take (i := 18) (v := undef) rfl (by kernel_rfl) (by kernel_rfl) (by kernel_rfl) (fun _ _ _ h => h) (Or.inr ⟨by rfl, rfl⟩) ?_
      simp only [List.getElem_toArray, List.getElem_cons_succ, List.getElem_cons_zero, Act.put, List.setIfInBounds_toArray, List.set_cons_zero, List.set_cons_succ]
      refine wpAny_take (i := 19) (v := undef) rfl (by kernel_rfl) (by kernel_rfl) (by kernel_rfl) (fun _ _ _ h => h) (Or.inr ⟨by rfl, rfl⟩) ?_
      simp only [List.getElem_toArray, List.getElem_cons_succ, List.getElem_cons_zero, Act.put, List.setIfInBounds_toArray, List.set_cons_zero, List.set_cons_succ]
      refine wpAny_take (i := 20) (v := undef) rfl (by kernel_rfl) (by kernel_rfl) (by kernel_rfl) (fun _ _ _ h => h) (Or.inr ⟨by rfl, rfl⟩) ?_
      simp only [List.getElem_toArray, List.getElem_cons_succ, List.getElem_cons_zero, Act.put, List.setIfInBounds_toArray, List.set_cons_zero, List.set_cons_succ]
      refine wpAny_take (i := 21) (v := ?_) rfl (by kernel_rfl) (by kernel_rfl) (by kernel_rfl) (fun _ _ _ h => h) (Or.inl ⟨by rfl, ?_⟩) ?_
      rotate_left
      · intro w; go_simp; try with_reducible rfl
      simp only [List.getElem_toArray, List.getElem_cons_succ, List.getElem_cons_zero, Act.put, List.setIfInBounds_toArray, List.set_cons_zero, List.set_cons_succ]
      refine wpAny_take (i := 22) (v := ?_) rfl (by kernel_rfl) (by kernel_rfl) (by kernel_rfl) (fun _ _ _ h => h) (Or.inl ⟨by rfl, ?_⟩) ?_
      rotate_left
      · intro w; go_simp; try with_reducible rfl
      simp only [List.getElem_toArray, List.getElem_cons_succ, List.getElem_cons_zero, Act.put, List.setIfInBounds_toArray, List.set_cons_zero, List.set_cons_succ]
      refine wpAny_done (by kernel_rfl) ?_ _
      go_wp2
      go_ret
      exact ⟨rfl, fr_step hF hz8⟩
    · obtain ⟨cN, cM, cP, cQ, nq⟩ := Hrest.out rfl
      clear Hrest
      go_region_held3 (fun w' => Fr Z w')
        (first | exact hf9 | assumption)
        (first
          | (go_at_call 16; refine (cC Z _ (by assumption)).mono ?_; rintro e w8 ⟨rfl, hz8⟩)
          | (go_at_call 21; refine (cN Z _ (by assumption)).mono ?_; rintro e w8 ⟨rfl, hz8⟩)
          | (go_at_call 22; refine (cM Z _ (by assumption)).mono ?_; rintro e w8 ⟨rfl, hz8⟩)
          | (go_at_call 23; refine (cP Z _ (by assumption)).mono ?_; rintro e w8 ⟨rfl, hz8⟩)
          | (go_at_call 24; refine (cQ Z _ (by assumption)).mono ?_; rintro e w8 ⟨rfl, hz8⟩)
          | (go_at_call 12; refine (awake4_at (W0 := Z) (by assumption)).mono ?_; rintro e w8 ⟨rfl, hz8⟩))
      rename_i hH2
      go_wp2
      go_ret
      exact ⟨rfl, fr_step hF hH2⟩
  · have d1 : decide ((100 : Int) < (s.size : Int)) = true := by simp; omega
    go_enter Try.func4, Try.ntmps4
    go_wp2_with fail
    refine (awake4_at (W0 := w) (fr_new (fr_refl w) _)).mono ?_
    rintro e w1 ⟨rfl, hf1⟩
    go_wp2_with fail
    go_ret
    exact ⟨rfl, hf1⟩
end Go.Proofs.Ytignnjflodkihaa
