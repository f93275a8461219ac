/- The laws of layer 4, walked: what they have in common. -/
import Derived.Test.YtignnjflodkihaaValC
import Derived.Test.YtignnjflodkihaaOpen
namespace Go.Proofs.Ytignnjflodkihaa
open Go.RowKit
set_option linter.unusedVariables false
attribute [local go_sem ↓] val_ld

theorem txt_of {s : ByteArray} (h : s.size ≤ 16) : txtV (ofV s) = s := by
  rw [txtV, if_pos (ofV_ok h)]
  show strOfNums ((nums s ++ _).take (Int.toNat (s.size : Int))) = s
  rw [Int.toNat_natCast, ← nums_len s, List.take_left, str_nums]
section
variable {W0 W : World}
theorem of_at {s : ByteArray} (h : s.size ≤ 16) (hb : Fr W0 W) : Calls Try.prog 13 #[.string s] W fun e w' => e = .returned (.tuple #[vv (ofV s), .int .i64 0]) ∧ Fr W0 w' := (val_of_fits s h W).mono fun _ _ ⟨he, hw⟩ => ⟨he, fr_step hb hw⟩
theorem check_at {v : RV} (wv : v.wf) (hb : Fr W0 W) : Calls Try.prog 15 #[vv v] W fun e w' => e = .returned (.bool (okV v)) ∧ Fr W0 w' := (val_check v wv W).mono fun _ _ ⟨he, hw⟩ => ⟨he, fr_step hb hw⟩
theorem text_at {v : RV} (wv : v.wf) (hb : Fr W0 W) : Calls Try.prog 17 #[vv v] W fun e w' => e = .returned (.string (txtV v)) ∧ Fr W0 w' := (val_text v wv W).mono fun _ _ ⟨he, hw⟩ => ⟨he, fr_step hb hw⟩
theorem number_at {v : RV} (wv : v.wf) (ok : okV v = true) (hb : Fr W0 W) : Calls Try.prog 21 #[vv v] W fun e w' => e = .returned (.int .u64 (numV v)) ∧ Fr W0 w' := (val_number v wv ok W).mono fun _ _ ⟨he, hw⟩ => ⟨he, fr_step hb hw⟩
theorem from_at {n : Int} (hn : 0 ≤ n) (hb : Fr W0 W) : Calls Try.prog 19 #[.int .u64 n] W fun e w' => e = .returned (vv (fromV n)) ∧ Fr W0 w' := (val_from n hn W).mono fun _ _ ⟨he, hw⟩ => ⟨he, fr_step hb hw⟩
theorem plus_at {v : RV} (wv : v.wf) (ok : okV v = true) (k : Int) (hb : Fr W0 W) : Calls Try.prog 23 #[vv v, .int .u64 k] W fun e w' => e = .returned (vv (plusV v k)) ∧ Fr W0 w' := (val_plus v wv ok k W).mono fun _ _ ⟨he, hw⟩ => ⟨he, fr_step hb hw⟩
end
/-- A load of a value, from one world on. -/
theorem ld_fr {W0 : World} {g : Nat} {v : RV} (ha : Arr W0 g 41 (vc v).toArray) (hl : (vc v).length = 17) : ∀ W, Fr W0 W → (ldS 41 (.pointer (some ⟨g, 0, none⟩))).run Try.prog W = .ok (.agg (vc v).toArray) W := fun W h => valS.ld hl (ha.below h ha.lt)
theorem cell_fr {W0 : World} {g T : Nat} {cs : List Value} (ha : Arr W0 g T cs.toArray) (j : Nat) (u : Value) (hu : cs[j]? = some u) : ∀ W, Fr W0 W → W.cell? ⟨g, j, none⟩ = some u := fun W h => by
  rw [(ha.below h ha.lt).cell, ← hu]; simp
def one1 : ByteArray := ⟨#[1]⟩
theorem num_one : numV (ofV one1) = 1 := by decide
theorem plus_one : plusV (ofV one1) 255 = fromV 256 := by decide
set_option maxRecDepth 100000 in
set_option maxHeartbeats 4000000 in
theorem awake4 (w : World) : Calls Try.prog 12 #[] w fun e w' => e = .returned (.bool true) ∧ Fr w w' := by
  have h1 : one1.size ≤ 16 := by decide
  have w1f := ofV_wf h1
  have o1 := ofV_ok h1
  have Hl1 := keep (vc_len w1f.hl)
  have HlP := keep (vc_len (fromV_wf 256).hl)
  have cO1 := fun (W : World) => val_of_fits one1 h1 W
  have cO2 := fun (W : World) => val_of_big ⟨#[115, 101, 118, 101, 110, 116, 101, 101, 110, 32, 98, 121, 116, 101, 115, 32, 33]⟩ (by decide) (by decide) W
  have cP := fun (W : World) => val_plus (ofV one1) w1f o1 255 W
  rw [plus_one] at cP
  have cN : ∀ W0 W, Fr W0 W → Calls Try.prog 21 #[vv (ofV one1)] W fun e w' => e = .returned (.int .u64 1) ∧ Fr W0 w' := fun W0 W h => by have := number_at w1f o1 h; rwa [num_one] at this
  have cT : ∀ W0 W, Fr W0 W → Calls Try.prog 17 #[vv (ofV one1)] W fun e w' => e = .returned (.string ⟨#[1]⟩) ∧ Fr W0 w' := fun W0 W h => by have := text_at w1f h; rwa [txt_of h1] at this
  have cK : ∀ W0 W, Fr W0 W → Calls Try.prog 15 #[vv (fromV 256)] W fun e w' => e = .returned (.bool true) ∧ Fr W0 w' := fun W0 W h => by have := check_at (fromV_wf 256) h; rwa [fromV_ok] at this
  have cM : ∀ W0 W, Fr W0 W → Calls Try.prog 15 #[.agg #[.int .i64 (-1), .int .u8 0, .int .u8 0, .int .u8 0, .int .u8 0, .int .u8 0, .int .u8 0, .int .u8 0, .int .u8 0, .int .u8 0, .int .u8 0, .int .u8 0, .int .u8 0, .int .u8 0, .int .u8 0, .int .u8 0, .int .u8 0]] W fun e w' => e = .returned (.bool false) ∧ Fr W0 w' := fun W0 W h => (val_check_out ⟨-1, List.replicate 16 0⟩ (.inl (by decide)) W).mono fun _ _ ⟨he, hw⟩ => ⟨he, fr_step h hw⟩
  have cZ : ∀ W0 W, Fr W0 W → Calls Try.prog 21 #[.agg #[.int .i64 0, .int .u8 0, .int .u8 0, .int .u8 0, .int .u8 0, .int .u8 0, .int .u8 0, .int .u8 0, .int .u8 0, .int .u8 0, .int .u8 0, .int .u8 0, .int .u8 0, .int .u8 0, .int .u8 0, .int .u8 0, .int .u8 0]] W fun e w' => e = .returned (.int .u64 0) ∧ Fr W0 w' := fun W0 W h => number_at (v := zeroV) zeroV_wf (by decide) h
  have c7 : ∀ W0 W, Fr W0 W → Calls Try.prog 19 #[.int .u64 7] W fun e w' => e = .returned (.agg #[.int .i64 8, .int .u8 7, .int .u8 0, .int .u8 0, .int .u8 0, .int .u8 0, .int .u8 0, .int .u8 0, .int .u8 0, .int .u8 0, .int .u8 0, .int .u8 0, .int .u8 0, .int .u8 0, .int .u8 0, .int .u8 0, .int .u8 0]) ∧ Fr W0 w' := fun W0 W h => from_at (n := 7) (by decide) h
  have hz : ∀ W, (binOp .eql 41 (.agg (vc zeroV).toArray) (.agg #[.int .i64 0, .int .u8 0, .int .u8 0, .int .u8 0, .int .u8 0, .int .u8 0, .int .u8 0, .int .u8 0, .int .u8 0, .int .u8 0, .int .u8 0, .int .u8 0, .int .u8 0, .int .u8 0, .int .u8 0, .int .u8 0, .int .u8 0])).run Try.prog W = .ok (.bool true) W := fun W => by
    have h := val_eql zeroV_wf zeroV_wf W
    rwa [show decide (zeroV = zeroV) = true from decide_eq_true rfl] at h
  have i1 : ∀ W, (Instr.field 41 (.agg #[.int .i64 8, .int .u8 7, .int .u8 0, .int .u8 0, .int .u8 0, .int .u8 0, .int .u8 0, .int .u8 0, .int .u8 0, .int .u8 0, .int .u8 0, .int .u8 0, .int .u8 0, .int .u8 0, .int .u8 0, .int .u8 0, .int .u8 0]) 1).run Try.prog W = .ok (.agg #[.int .u8 7, .int .u8 0, .int .u8 0, .int .u8 0, .int .u8 0, .int .u8 0, .int .u8 0, .int .u8 0, .int .u8 0, .int .u8 0, .int .u8 0, .int .u8 0, .int .u8 0, .int .u8 0, .int .u8 0, .int .u8 0]) W := fun _ => by kernel_rfl
  have i2 : ∀ W, (Instr.index 39 (.agg #[.int .u8 7, .int .u8 0, .int .u8 0, .int .u8 0, .int .u8 0, .int .u8 0, .int .u8 0, .int .u8 0, .int .u8 0, .int .u8 0, .int .u8 0, .int .u8 0, .int .u8 0, .int .u8 0, .int .u8 0, .int .u8 0]) (.int .i64 0)).run Try.prog W = .ok (.int .u8 7) W := fun _ => by kernel_rfl
  have p0 : (vc (fromV 256))[0]? = some (.int .i64 8) := rfl
  have p1 : (vc (fromV 256))[1]? = some (.int .u8 0) := rfl
  have p2 : (vc (fromV 256))[2]? = some (.int .u8 1) := rfl
  have P0 := keep p0
  have P1 := keep p1
  have P2 := keep p2
  clear w1f o1 h1 p0 p1 p2
  generalize ofV one1 = a at *
  generalize fromV 256 = p at *
  go_enter Try.func12, Try.ntmps12
  go_wp2_with fail
  refine (cO1 _).mono ?_
  rintro e w1 ⟨rfl, hf1⟩
  go_wp2_with (refine wpList_store_new valS rfl (.tmp 1) (.tmp 8) rfl w1.heap.size (vc a) rfl rfl Hl1.out (vc_one _) rfl rfl ?_)
  refine (cO2 _).mono ?_
  rintro e w2 ⟨rfl, hf2⟩
  have hA2 := (Arr.new w1 (vc a).toArray 41).below hf2 (by simp)
  have hF2 := fr_step (fr_new hf1 _) hf2
  go_wp2_with (first
    | (refine wpList_store_new valS rfl (.tmp 3) (.tmp 12) rfl w2.heap.size (vc zeroV) rfl rfl zeroV_len (vc_one _) rfl rfl ?_)
    | (refine wpList_load_sty valS rfl (.tmp 1) rfl w1.heap.size rfl Hl1.out (hA2.alloc _) ?_)
    | fail)
  refine (cP _).mono ?_
  rintro e w3 ⟨rfl, hf3⟩
  have hA3 := (hA2.alloc (.cells (vc zeroV).toArray 41)).below hf3 (hA2.alloc _).lt
  have hB3 := (Arr.new w2 (vc zeroV).toArray 41).below hf3 (by simp)
  have hF3 := fr_step (fr_new hF2 _) hf3
  clear hf1 hf2 hf3 hA2 hF2 cO1 cO2 cP
  go_wp2_with (refine wpList_store_new valS rfl (.tmp 5) (.tmp 15) rfl w3.heap.size (vc p) rfl rfl HlP.out (vc_one _) rfl rfl ?_
               generalize hX : World.alloc w3 _ = Z
               have hAZ : Arr Z w1.heap.size 41 (vc a).toArray := by rw [← hX]; exact hA3.alloc _
               have hBZ : Arr Z w2.heap.size 41 (vc zeroV).toArray := by rw [← hX]; exact hB3.alloc _
               have hCZ : Arr Z w3.heap.size 41 (vc p).toArray := by rw [← hX]; exact Arr.new w3 _ _
               have hFZ : Fr w Z := by rw [← hX]; exact fr_new hF3 _
               clear hX
               have l1 := ld_fr hAZ Hl1.out
               have l2 := ld_fr hBZ zeroV_len
               have l3 := ld_fr hCZ HlP.out
               have e0 := cell_fr hCZ 0 _ P0.out
               have e1 := cell_fr hCZ 1 _ P1.out
               have e2 := cell_fr hCZ 2 _ P2.out
               have hZ := fr_refl Z)
  go_wp2_with (first
    | (go_at_call 21; (with_reducible refine (cN Z _ (by assumption)).mono ?_); rintro e w4 ⟨rfl, hf4⟩)
    | (go_at_call 21; refine (cZ Z _ (by assumption)).mono ?_; rintro e w4 ⟨rfl, hf4⟩)
    | (go_at_call 17; refine (cT Z _ (by assumption)).mono ?_; rintro e w4 ⟨rfl, hf4⟩)
    | (go_at_call 15; (with_reducible refine (cK Z _ (by assumption)).mono ?_); rintro e w4 ⟨rfl, hf4⟩)
    | (go_at_call 15; refine (cM Z _ (by assumption)).mono ?_; rintro e w4 ⟨rfl, hf4⟩)
    | (go_at_call 19; refine (c7 Z _ (by assumption)).mono ?_; rintro e w4 ⟨rfl, hf4⟩)
    | fail)
  go_ret
  exact ⟨rfl, fr_step hFZ (by assumption)⟩
theorem awake4_at {W0 W : World} (hb : Fr W0 W) : Calls Try.prog 12 #[] W fun e w' => e = .returned (.bool true) ∧ Fr W0 w' := (awake4 W).mono fun _ _ ⟨he, hw⟩ => ⟨he, fr_step hb hw⟩
end Go.Proofs.Ytignnjflodkihaa
