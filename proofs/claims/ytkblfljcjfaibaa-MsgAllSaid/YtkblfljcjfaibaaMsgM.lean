/- MsgAll, walked. -/
import Derived.Test.YtkblfljcjfaibaaMsgI
namespace Go.Proofs.Ytkblfljcjfaibaa
open Go.RowKit
set_option linter.unusedVariables false
attribute [local go_sem ↓] val_ld key_ld msg_ld
theorem int_nself (n : Int) : (n != n) = false := by simp
theorem all_boxed (w : World) (a b : RM) (v : RV) : ∃ Z, ((w.alloc (.cells (mc a).toArray 30)).alloc (.cells (mc b).toArray 30)).alloc (.cells (vc v).toArray 28) = Z ∧ Fr w Z ∧
    Arr Z w.heap.size 30 (mc a).toArray ∧ Arr Z (w.heap.size + 1) 30 (mc b).toArray ∧ Arr Z (w.heap.size + 1 + 1) 28 (vc v).toArray := by
  refine ⟨_, rfl, fr_new (fr_new (fr_new (fr_refl w) _) _) _, Arr.alloc (Arr.alloc (Arr.new w _ _) _) _, Arr.alloc (arr_at _ _ _ _ (by simp)) _, arr_at _ _ _ _ (by simp)⟩
set_option maxRecDepth 100000 in
set_option maxHeartbeats 4000000 in
theorem msgAll_core (a b : RM) (v : RV) (there : Bool) (wa : a.wf) (wb : b.wf) (wv : v.wf) (w : World) : Calls Try.prog 3 #[mm a, mm b, vv v, .bool there] w fun e w' => e = .returned (.bool true) ∧ Below w.heap.size w w' := by
  obtain ⟨Z, hZ, hF, hA, hB, hV⟩ := all_boxed w a b v
  have la := msg_all hA wa.val.hl
  have lb := msg_all hB wb.val.hl
  have lv := ld_fr hV (vc_len wv.hl)
  have hZD := fr_drew (fr_refl Z)
  have cK := fun W0 W h => mcheck_at (W0 := W0) (W := W) wa h
  have cL := fun W0 W h => rmcheck_at (W0 := W0) (W := W) wa h
  have cM := fun W0 W h => rmcheck_at (W0 := W0) (W := W) wb h
  have cN := fun W0 W h => rcheck_at (W0 := W0) (W := W) wv h
  have cB := fun W0 W h => mbytes_at (W0 := W0) (W := W) wa h
  have cD := fun W0 W h => rmbytes_at (W0 := W0) (W := W) wa h
  have Hrest : Hid (okM a = true → okM b = true → okV v = true →
      (∀ W0 W, Fr W0 W → Calls Try.prog 15 #[vv v, .bool there, mm a] W fun e w' => e = .returned (.tuple #[vv (appV v there a), .bool (appB a)]) ∧ Fr W0 w') ∧
      (∀ W0 W, Fr W0 W → Calls Try.prog 16 #[vv v, .bool there, mm a] W fun e w' => e = .returned (.tuple #[vv (appV v there a), .bool (appB a)]) ∧ Fr W0 w') ∧
      (∀ W0 W, Fr W0 W → Calls Try.prog 17 #[mm a, mm b] W fun e w' => e = .returned (mm (compM a b)) ∧ Fr W0 w') ∧
      (∀ W0 W, Fr W0 W → Calls Try.prog 18 #[mm a, mm b] W fun e w' => e = .returned (mm (compM a b)) ∧ Fr W0 w')) :=
    keep fun oa ob ov => ⟨fun W0 W h => mapply_at wv (fun _ => ov) wa oa h, fun W0 W h => rmapply_at wv (fun _ => ov) wa oa h, fun W0 W h => mcompose_at wa wb oa ob h, fun W0 W h => rmcompose_at wa wb oa ob h⟩
  have qc := msg_self (comp_wf wa wb)
  have wp := appV_wf (t := there) wv wa
  have qp := eql_self wp
  have Hp := keep (vc_len wp.hl)
  have hn := int_nself (bytM a)
  clear wa wb wv hA hB hV wp
  generalize bytM a = n at *
  generalize appV v there a = p at *
  generalize appB a = bp at *
  generalize compM a b = c at *
  have hbp := bool_self bp
  generalize okM b = db at *
  generalize okV v = dv at *
  generalize okM a = da at *
  have hda : (da != da) = false := by simp
  go_enter Try.func3, Try.ntmps3
  go_wp2_with fail
  go_region_held3 (fun w' => Fr Z w')
    (first | exact hZD | assumption)
    (first
      | (go_at_call 9; (with_reducible refine (cK Z _ (by assumption)).mono ?_); rintro e w9 ⟨rfl, hz⟩)
      | (go_at_call 10; (with_reducible refine (cL Z _ (by assumption)).mono ?_); rintro e w9 ⟨rfl, hz⟩)
      | (go_at_call 11; (with_reducible refine (cB Z _ (by assumption)).mono ?_); rintro e w9 ⟨rfl, hz⟩)
      | (go_at_call 12; (with_reducible refine (cD Z _ (by assumption)).mono ?_); rintro e w9 ⟨rfl, hz⟩))
  rename_i w9 hz hH
  clear hz cK cB cD hn hda
  cases da
  · go_wp2_with (first
      | (go_at_call 10; (with_reducible refine (cL Z _ hH).mono ?_); rintro e w8 ⟨rfl, hz8⟩)
      | (go_at_call 14; refine (awake5_at (W0 := Z) (by assumption)).mono ?_; rintro e w7 ⟨rfl, hz7⟩)
      | fail)
    go_ret
    exact ⟨rfl, fr_step hF (by assumption)⟩
  · cases db
    · go_wp2_with (first
        | (go_at_call 10; (with_reducible refine (cL Z _ hH).mono ?_); rintro e w8 ⟨rfl, hz8⟩)
        | (go_at_call 10; (with_reducible refine (cM Z _ hz8).mono ?_); rintro e w6 ⟨rfl, hz6⟩)
        | (go_at_call 14; refine (awake5_at (W0 := Z) (by assumption)).mono ?_; rintro e w7 ⟨rfl, hz7⟩)
        | fail)
      go_ret
      exact ⟨rfl, fr_step hF (by assumption)⟩
    · cases dv
      · go_wp2_with (first
          | (go_at_call 10; (with_reducible refine (cL Z _ hH).mono ?_); rintro e w8 ⟨rfl, hz8⟩)
          | (go_at_call 10; (with_reducible refine (cM Z _ hz8).mono ?_); rintro e w6 ⟨rfl, hz6⟩)
          | (go_at_call 13; (with_reducible refine (cN Z _ hz6).mono ?_); rintro e w5 ⟨rfl, hz5⟩)
          | (go_at_call 14; refine (awake5_at (W0 := Z) (by assumption)).mono ?_; rintro e w7 ⟨rfl, hz7⟩)
          | fail)
        go_ret
        exact ⟨rfl, fr_step hF (by assumption)⟩
      · obtain ⟨cA, cE, cC, cG⟩ := Hrest.out rfl rfl rfl
        clear Hrest
        go_wp2_with (first
          | (go_at_call 10; (with_reducible refine (cL Z _ hH).mono ?_); rintro e w8 ⟨rfl, hz8⟩)
          | (go_at_call 10; (with_reducible refine (cM Z _ hz8).mono ?_); rintro e w6 ⟨rfl, hz6⟩)
          | (go_at_call 13; (with_reducible refine (cN Z _ hz6).mono ?_); rintro e w5 ⟨rfl, hz5⟩; clear hZ)
          | (go_at_call 15; (with_reducible refine (cA Z _ hz5).mono ?_); rintro e w4 ⟨rfl, hz4⟩; have hs4 := hz4.size)
          | (refine wpList_store_at (ds := vc p) val_info rfl (.tmp 9) (.tmp 44) rfl w4.heap.size 0 rfl rfl Hp.out (vc_one _) (Arr.new w4 (vc zeroV).toArray 28) (by decide) (splice_all _ _ (by rw [Hp.out]; decide)) ?_; intro Y3 hp hk3
             have hF3 := hk3.fr (fr_new hz4 _) hs4
             have hY3 := fr_refl Y3
             clear hk3)
          | (go_at_call 16; (with_reducible refine (cE Y3 _ hY3).mono ?_); rintro e w2 ⟨rfl, hz2⟩
             replace hp := hp.below hz2 hp.lt
             have hF2 := fr_step hF3 hz2
             clear hF3 hY3)
          | (refine wpList_store_at (ds := vc p) val_info rfl (.tmp 11) (.tmp 51) rfl w2.heap.size 0 rfl rfl Hp.out (vc_one _) (Arr.new w2 (vc zeroV).toArray 28) (by decide) (splice_all _ _ (by rw [Hp.out]; decide)) ?_; intro X hq hk1
             replace hp := hk1.other (hp.alloc _) (by have := hp.lt; omega)
             have hX := hk1.fr (fr_new hF2 _) hF2.size
             have lp := ld_fr hp Hp.out
             have lq := ld_fr hq Hp.out
             have la9 : ∀ W, Fr X W → _ := fun W h => la W (fr_step hX h)
             have lb9 : ∀ W, Fr X W → _ := fun W h => lb W (fr_step hX h)
             have hXD := fr_drew (fr_refl X)
             clear hk1 hp hq hF2)
          | fail)
        clear la lb lv cL cM cN cA cE
        go_region_held3 (fun w' => Fr X w')
          (first | exact hXD | assumption)
          (first
            | (go_at_call 17; (with_reducible refine (cC X _ (by assumption)).mono ?_); rintro e w9 ⟨rfl, hz⟩)
            | (go_at_call 18; (with_reducible refine (cG X _ (by assumption)).mono ?_); rintro e w9 ⟨rfl, hz⟩)
            | (go_at_call 14; refine (awake5_at (W0 := X) (by assumption)).mono ?_; rintro e w9 ⟨rfl, hz⟩))
        rename_i hHH
        go_wp2
        go_ret
        exact ⟨rfl, fr_step (fr_step hF hX) hHH⟩
end Go.Proofs.Ytkblfljcjfaibaa
