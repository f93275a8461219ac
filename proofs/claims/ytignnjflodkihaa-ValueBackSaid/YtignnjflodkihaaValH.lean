/- ValueBack, walked. -/
import Derived.Test.YtignnjflodkihaaValE
namespace Go.Proofs.Ytignnjflodkihaa
open Go.RowKit
set_option linter.unusedVariables false
attribute [local go_sem ↓] val_ld
theorem ofV_inj {s t : ByteArray} (hs : s.size ≤ 16) (ht : t.size ≤ 16) : ofV s = ofV t ↔ s = t := by
  constructor
  · intro e
    have := congrArg txtV e
    rwa [txt_of hs, txt_of ht] at this
  · intro e; rw [e]
theorem str_eq {s t : ByteArray} : (s.toList == t.toList) = decide (s = t) := by
  rw [Bool.eq_iff_iff, beq_iff_eq, decide_eq_true_iff]
  constructor
  · intro h
    rw [Lib.toList_data, Lib.toList_data] at h
    exact ByteArray.ext (Array.ext' h)
  · intro h; rw [h]
/-- What Of answers: the value, or that it is too large. -/
def ofX (s : ByteArray) : RV := if s.size ≤ 16 then ofV s else zeroV
def ofE (s : ByteArray) : Int := if s.size ≤ 16 then 0 else 2
theorem of_any (s : ByteArray) (hm : s.size ≤ 9223372036854775807) (W : World) : Calls Try.prog 13 #[.string s] W fun e w' => e = .returned (.tuple #[vv (ofX s), .int .i64 (ofE s)]) ∧ Fr W w' := by
  unfold ofX ofE
  by_cases h : s.size ≤ 16
  · rw [if_pos h, if_pos h]; exact val_of_fits s h W
  · rw [if_neg h, if_neg h]; exact val_of_big s (by omega) hm W
theorem ofX_wf (s : ByteArray) : (ofX s).wf := by
  unfold ofX
  by_cases h : s.size ≤ 16
  · rw [if_pos h]; exact ofV_wf h
  · rw [if_neg h]; exact zeroV_wf
set_option maxRecDepth 100000 in
set_option maxHeartbeats 8000000 in
theorem valueBack_core (s t : ByteArray) (ws : s.size ≤ maxLen) (wt : t.size ≤ maxLen) (w : World) : Calls Try.prog 5 #[.string s, .string t] w fun e w' => e = .returned (.bool true) ∧ Below w.heap.size w w' := by
  unfold maxLen at ws wt
  by_cases hs : s.size ≤ 100
  · have d1 : decide ((100 : Int) < (s.size : Int)) = false := by simp; omega
    by_cases ht : t.size ≤ 100
    · have d2 : decide ((100 : Int) < (t.size : Int)) = false := by simp; omega
      have cO := fun W => of_any s ws W
      have cP := fun W => of_any t wt W
      have Hx := keep (vc_len (ofX_wf s).hl)
      have Hy := keep (vc_len (ofX_wf t).hl)
      by_cases h16 : s.size ≤ 16
      · have hE : ofE s = 0 := if_pos h16
        have hX : ofX s = ofV s := if_pos h16
        have d3 : decide ((s.size : Int) ≤ 16) = true := by simp; omega
        have wx := ofV_wf h16
        have cC : ∀ Z W, Fr Z W → Calls Try.prog 15 #[vv (ofV s)] W fun e w' => e = .returned (.bool true) ∧ Fr Z w' := fun Z W h => by have := check_at wx h; rwa [ofV_ok h16] at this
        have cT : ∀ Z W, Fr Z W → Calls Try.prog 17 #[vv (ofV s)] W fun e w' => e = .returned (.string s) ∧ Fr Z w' := fun Z W h => by have := text_at wx h; rwa [txt_of h16] at this
        have hq : (s.toList == s.toList) = true := by simp
        rw [hE, hX] at cO
        rw [hX] at Hx
        by_cases g16 : t.size ≤ 16
        · have gE : ofE t = 0 := if_pos g16
          have gX : ofX t = ofV t := if_pos g16
          have heq : ∀ W, (binOp .eql 41 (.agg (vc (ofV s)).toArray) (.agg (vc (ofV t)).toArray)).run Try.prog W = .ok (.bool (s.toList == t.toList)) W := fun W => by
            have h := val_eql wx (ofV_wf g16) W
            rwa [show decide (ofV s = ofV t) = (s.toList == t.toList) from by rw [str_eq]; exact decide_eq_decide.2 (ofV_inj h16 g16)] at h
          rw [gE, gX] at cP
          rw [gX] at Hy
          clear hE hX gE gX wx
          generalize ofV s = x at *
          generalize ofV t = y at *
          go_enter Try.func5, Try.ntmps5
          go_wp2_with fail
          refine (cO _).mono ?_
          rintro e w1 ⟨rfl, hf1⟩
          go_wp2_with (refine wpList_store_new valS rfl (.tmp 5) (.tmp 21) rfl w1.heap.size (vc x) rfl rfl Hx.out (vc_one _) rfl rfl ?_)
          refine (cP _).mono ?_
          rintro e w2 ⟨rfl, hf2⟩
          have hA2 := (Arr.new w1 (vc x).toArray 41).below hf2 (by simp)
          have hF2 := fr_step (fr_new hf1 _) hf2
          clear hf1 hf2 cO cP
          have tok : Hid (0 < 1) := keep Nat.one_pos
          go_wp2_with (first
            | (clear tok
               refine wpList_store_new valS rfl (.tmp 7) (.tmp 26) rfl w2.heap.size (vc y) rfl rfl Hy.out (vc_one _) rfl rfl ?_
               generalize hX : World.alloc w2 _ = Z
               have hA : Arr Z w1.heap.size 41 (vc x).toArray := by rw [← hX]; exact hA2.alloc _
               have hB : Arr Z w2.heap.size 41 (vc y).toArray := by rw [← hX]; exact Arr.new w2 _ _
               have hF : Fr w Z := by rw [← hX]; exact fr_new hF2 _
               clear hX hA2 hF2
               have l1 := ld_fr hA Hx.out
               have l2 := ld_fr hB Hy.out
               have hZ := fr_refl Z)
            | fail)
          go_wp2_with (first
            | (go_at_call 15; refine (cC Z _ (by assumption)).mono ?_; rintro e w4 ⟨rfl, hf4⟩)
            | (go_at_call 17; refine (cT Z _ (by assumption)).mono ?_; rintro e w4 ⟨rfl, hf4⟩)
            | (go_at_call 12; refine (awake4_at (W0 := Z) (by assumption)).mono ?_; rintro e w4 ⟨rfl, hf4⟩)
            | fail)
          go_ret
          exact ⟨rfl, fr_step hF (by assumption)⟩
        · have gE : ofE t = 2 := if_neg g16
          rw [gE] at cP
          clear hE hX gE wx
          generalize ofV s = x at *
          generalize ofX t = y at *
          go_enter Try.func5, Try.ntmps5
          go_wp2_with fail
          refine (cO _).mono ?_
          rintro e w1 ⟨rfl, hf1⟩
          go_wp2_with (refine wpList_store_new valS rfl (.tmp 5) (.tmp 21) rfl w1.heap.size (vc x) rfl rfl Hx.out (vc_one _) rfl rfl ?_)
          refine (cP _).mono ?_
          rintro e w2 ⟨rfl, hf2⟩
          have hA2 := (Arr.new w1 (vc x).toArray 41).below hf2 (by simp)
          have hF2 := fr_step (fr_new hf1 _) hf2
          clear hf1 hf2 cO cP
          have tok : Hid (0 < 1) := keep Nat.one_pos
          go_wp2_with (first
            | (clear tok
               refine wpList_store_new valS rfl (.tmp 7) (.tmp 26) rfl w2.heap.size (vc y) rfl rfl Hy.out (vc_one _) rfl rfl ?_
               generalize hX : World.alloc w2 _ = Z
               have hA : Arr Z w1.heap.size 41 (vc x).toArray := by rw [← hX]; exact hA2.alloc _
               have hB : Arr Z w2.heap.size 41 (vc y).toArray := by rw [← hX]; exact Arr.new w2 _ _
               have hF : Fr w Z := by rw [← hX]; exact fr_new hF2 _
               clear hX hA2 hF2
               have l1 := ld_fr hA Hx.out
               have l2 := ld_fr hB Hy.out
               have hZ := fr_refl Z)
            | fail)
          go_wp2_with (first
            | (go_at_call 15; refine (cC Z _ (by assumption)).mono ?_; rintro e w4 ⟨rfl, hf4⟩)
            | (go_at_call 17; refine (cT Z _ (by assumption)).mono ?_; rintro e w4 ⟨rfl, hf4⟩)
            | (go_at_call 12; refine (awake4_at (W0 := Z) (by assumption)).mono ?_; rintro e w4 ⟨rfl, hf4⟩)
            | fail)
          go_ret
          exact ⟨rfl, fr_step hF (by assumption)⟩
      · have hE : ofE s = 2 := if_neg h16
        have hX : ofX s = zeroV := if_neg h16
        have d3 : decide ((s.size : Int) ≤ 16) = false := by simp; omega
        have hz : ∀ W, (binOp .neq 41 (.agg (vc zeroV).toArray) (.agg #[.int .i64 0, .int .u8 0, .int .u8 0, .int .u8 0, .int .u8 0, .int .u8 0, .int .u8 0, .int .u8 0, .int .u8 0, .int .u8 0, .int .u8 0, .int .u8 0, .int .u8 0, .int .u8 0, .int .u8 0, .int .u8 0, .int .u8 0])).run Try.prog W = .ok (.bool false) W := fun W => by
          have h := val_neq zeroV_wf zeroV_wf W
          rwa [show (!decide (zeroV = zeroV)) = false from by rw [decide_eq_true rfl]; rfl] at h
        rw [hE, hX] at cO
        clear hE hX
        generalize ofX t = y at *
        generalize ofE t = q at *
        go_enter Try.func5, Try.ntmps5
        go_wp2_with fail
        refine (cO _).mono ?_
        rintro e w1 ⟨rfl, hf1⟩
        go_wp2_with (refine wpList_store_new valS rfl (.tmp 5) (.tmp 21) rfl w1.heap.size (vc zeroV) rfl rfl zeroV_len (vc_one _) rfl rfl ?_)
        refine (cP _).mono ?_
        rintro e w2 ⟨rfl, hf2⟩
        have hA2 := (Arr.new w1 (vc zeroV).toArray 41).below hf2 (by simp)
        have hF2 := fr_step (fr_new hf1 _) hf2
        clear hf1 hf2 cO cP
        have tok : Hid (0 < 1) := keep Nat.one_pos
        go_wp2_with (first
          | (clear tok
             refine wpList_store_new valS rfl (.tmp 7) (.tmp 26) rfl w2.heap.size (vc y) rfl rfl Hy.out (vc_one _) rfl rfl ?_
             generalize hX : World.alloc w2 _ = Z
             have hA : Arr Z w1.heap.size 41 (vc zeroV).toArray := by rw [← hX]; exact hA2.alloc _
             have hB : Arr Z w2.heap.size 41 (vc y).toArray := by rw [← hX]; exact Arr.new w2 _ _
             have hF : Fr w Z := by rw [← hX]; exact fr_new hF2 _
             clear hX hA2 hF2
             have l1 := ld_fr hA zeroV_len
             have l2 := ld_fr hB Hy.out
             have hZ := fr_refl Z)
          | fail)
        go_wp2_with (first
          | (go_at_call 12; refine (awake4_at (W0 := Z) (by assumption)).mono ?_; rintro e w4 ⟨rfl, hf4⟩)
          | fail)
        go_ret
        exact ⟨rfl, fr_step hF (by assumption)⟩
    · have d2 : decide ((100 : Int) < (t.size : Int)) = true := by simp; omega
      go_enter Try.func5, Try.ntmps5
      go_wp2_with fail
      refine (awake4_at (W0 := w) (fr_refl w)).mono ?_
      rintro e w1 ⟨rfl, hf1⟩
      go_wp2_with fail
      go_ret
      exact ⟨rfl, hf1⟩
  · have d1 : decide ((100 : Int) < (s.size : Int)) = true := by simp; omega
    go_enter Try.func5, Try.ntmps5
    go_wp2_with fail
    refine (awake4_at (W0 := w) (fr_refl w)).mono ?_
    rintro e w1 ⟨rfl, hf1⟩
    go_wp2_with fail
    go_ret
    exact ⟨rfl, hf1⟩
end Go.Proofs.Ytignnjflodkihaa
