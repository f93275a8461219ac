/- Messages as values: a kind, a number, a key, a value, a number: 29 cells. -/
import Derived.Test.YtcdcaanmmbopbaaKeyA
import Derived.Test.YtcdcaanmmbopbaaValC
import Derived.Test.YtcdcaanmmbopbaaBase
namespace Go.Proofs.Ytcdcaanmmbopbaa
set_option maxRecDepth 100000
open Go.RowKit
set_option linter.unusedVariables false

/-- A message, valid or not. -/
structure RM where
  kind : Int
  seq : Int
  key : RK
  val : RV
  inc : Int
  deriving DecidableEq, Inhabited
/-- Its cells. -/
def mc (m : RM) : List Value := .int .i64 m.kind :: .int .u64 m.seq :: (kc m.key ++ (vc m.val ++ [.int .u64 m.inc]))
abbrev mm (m : RM) : Value := .agg (mc m).toArray
def Is64 (z : Int) : Prop := -9223372036854775808 ≤ z ∧ z ≤ 9223372036854775807
def Us64 (z : Int) : Prop := 0 ≤ z ∧ z < 18446744073709551616
/-- What every message that comes in is. -/
structure RM.wf (m : RM) : Prop where
  hk : Is64 m.kind
  hs : Us64 m.seq
  key : m.key.wf
  val : m.val.wf
  hi : Us64 m.inc
theorem zeroK_wf : zeroK.wf := ⟨by simp [zeroK], by simp [zeroK, Byt], by simp [zeroK, Byt], by simp [zeroK, Byt], by simp [zeroK, Byt], by simp [zeroK, Byt], by simp [zeroK, Byt], by simp [zeroK, Byt], by simp [zeroK, Byt]⟩
def zeroM : RM := ⟨0, 0, zeroK, zeroV, 0⟩
theorem zeroM_wf : zeroM.wf := ⟨by simp [zeroM, Is64], by simp [zeroM, Us64], zeroK_wf, zeroV_wf, by simp [zeroM, Us64]⟩
theorem kc_len (k : RK) : (kc k).length = 9 := rfl
theorem mc_len {m : RM} (h : m.val.bs.length = 16) : (mc m).length = 29 := by simp [mc, vc_len h]
theorem mc_one (m : RM) : One (mc m) := .cons rfl (.cons rfl (.app (kc_one _) (.app (vc_one _) (.cons rfl .nil))))
theorem mc_0 (m : RM) : (mc m)[0]? = some (.int .i64 m.kind) := rfl
theorem mc_1 (m : RM) : (mc m)[1]? = some (.int .u64 m.seq) := rfl
theorem mc_2 (m : RM) : (mc m)[2]? = some (.int .i64 m.key.n) := rfl
theorem mc_11 (m : RM) : (mc m)[11]? = some (.int .i64 m.val.n) := rfl
theorem mc_28 {m : RM} (h : m.val.bs.length = 16) : (mc m)[28]? = some (.int .u64 m.inc) := by
  have h17 := vc_len h
  have e : mc m = (.int .i64 m.kind :: .int .u64 m.seq :: (kc m.key ++ vc m.val)) ++ [.int .u64 m.inc] := by simp [mc]
  rw [e, List.getElem?_append_right (by simp [h17])]
  simp [h17]
theorem mc_key (m : RM) : ((mc m).drop 2).take 9 = kc m.key := by
  rw [mc, List.drop_succ_cons, List.drop_succ_cons, List.drop_zero]
  exact List.take_left' (kc_len _)
theorem mc_val {m : RM} (h : m.val.bs.length = 16) : ((mc m).drop 11).take 17 = vc m.val := by
  have e : (mc m).drop 11 = vc m.val ++ [.int .u64 m.inc] := by
    rw [mc, List.drop_succ_cons, List.drop_succ_cons]
    exact List.drop_left' (kc_len _)
  rw [e]
  exact List.take_left' (vc_len h)
theorem mc_set0 (m : RM) (z : Int) : (mc m).set 0 (.int .i64 z) = mc { m with kind := z } := rfl
theorem mc_set1 (m : RM) (z : Int) : (mc m).set 1 (.int .u64 z) = mc { m with seq := z } := rfl
theorem mc_set2 (m : RM) (z : Int) : (mc m).set 2 (.int .i64 z) = mc { m with key := { m.key with n := z } } := rfl
theorem mc_set28 {m : RM} (h : m.val.bs.length = 16) (z : Int) : (mc m).set 28 (.int .u64 z) = mc { m with inc := z } := by
  have h17 := vc_len h
  have e : ∀ x : RM, mc x = (.int .i64 x.kind :: .int .u64 x.seq :: (kc x.key ++ vc x.val)) ++ [.int .u64 x.inc] := fun x => by simp [mc]
  rw [e, e, List.set_append_right _ _ (by simp [h17])]
  simp [h17]
theorem mc_spliceV {m : RM} (h : m.val.bs.length = 16) {v : RV} (hv : v.bs.length = 16) : splice (mc m) 11 (vc v) = mc { m with val := v } := by
  have e : ∀ x : RM, mc x = (.int .i64 x.kind :: .int .u64 x.seq :: kc x.key) ++ (vc x.val ++ [.int .u64 x.inc]) := fun x => by simp [mc]
  have h11 : ∀ x : RM, (Value.int .i64 x.kind :: .int .u64 x.seq :: kc x.key).length = 11 := fun x => rfl
  rw [splice, vc_len hv, e m, e { m with val := v }, List.take_left' (h11 m), List.drop_append, List.drop_eq_nil_of_le (by simp), h11, List.nil_append]
  rw [show 11 + 17 - 11 = 17 from rfl, List.drop_left' (vc_len h)]
theorem mc_spliceK (m : RM) (k : RK) : splice (mc m) 2 (kc k) = mc { m with key := k } := by
  simp [splice, mc]
theorem msg_info : (Try.prog.info? 48).map (·.size) = some 29 := by kernel_rfl
theorem msgS : Sty Try.prog 48 29 := ⟨msg_info, _, Try.underlying48, rfl⟩
theorem keyS : Sty Try.prog 40 9 := ⟨key_info, _, Try.underlying40, rfl⟩
theorem msg_ld (p : Value) : Instr.loadAt 48 p = ldS 48 p := rfl
theorem key_ld (p : Value) : Instr.loadAt 40 p = ldS 40 p := rfl
theorem msg_type : Try.prog.keyType 48 = true := by kernel_rfl
theorem msg_typeAt : Try.prog.keyTypeAt (Try.prog.types.size + 1) 48 = true := by kernel_rfl
theorem msg_wide : (match Try.prog.underlying 48 with | some (.array _ _) | some (.struct _) => true | _ => false) = true := by kernel_rfl
theorem msg_row : (48 : TypeId) < Try.prog.types.size := of_decide_eq_true (by kernel_rfl)
theorem msg_law : WideMaps.KeyLaw Try.prog 48 := deep_law_gate laid_out (of_decide_eq_true types_small) msg_row msg_type msg_wide
theorem msg_keyed : Go.Maps.Keyed Try.prog 48 := .of_law msg_law
theorem msg_cells : Try.prog.cellsOf 48 = 29 := by kernel_rfl
theorem u64_cells : Try.prog.cellsOf 46 = 1 := by kernel_rfl
theorem u64_wf {z : Int} (h : Us64 z) : (Lit.int .u64 z).wf = true := by
  unfold Us64 at h
  simp [Lit.wf, IntKind.min, IntKind.max, IntKind.signed, IntKind.bits]; omega
theorem key_lits_at (k : RK) (h : k.wf) (D : Nat) : Try.prog.keyLits (D + 3) 40 (kc k) = some (klits k) := by
  simp [Program.keyLits, Try.underlying40, Try.underlying3, Try.underlying38, Try.underlying5, key_cells, arr_cells, int_cells, u8_cells, i64_wf h.hn, byt_wf h.h0, byt_wf h.h1, byt_wf h.h2, byt_wf h.h3, byt_wf h.h4, byt_wf h.h5, byt_wf h.h6, byt_wf h.h7, klits, List.range, List.range.loop]
theorem val_lits_at (v : RV) (h : v.wf) (D : Nat) : Try.prog.keyLits (D + 3) 43 (vc v) = some (vlits v) := by
  obtain ⟨hn, hl, hb⟩ := h
  obtain ⟨n, bs⟩ := v
  simp only at hn hl hb
  match bs, hl with
  | [b0, b1, b2, b3, b4, b5, b6, b7, b8, b9, b10, b11, b12, b13, b14, b15], _ =>
    have q : ∀ z ∈ [b0, b1, b2, b3, b4, b5, b6, b7, b8, b9, b10, b11, b12, b13, b14, b15], (Lit.int .u8 z).wf = true := fun z hz => byt_wf (hb z hz)
    simp only [List.forall_mem_cons, List.not_mem_nil, false_implies, implies_true, and_true] at q
    obtain ⟨q0, q1, q2, q3, q4, q5, q6, q7, q8, q9, q10, q11, q12, q13, q14, q15⟩ := q
    simp [Program.keyLits, Try.underlying43, Try.underlying3, Try.underlying41, Try.underlying5, val_cells, arr16_cells, int_cells, u8_cells, vc, i64_wf hn, q0, q1, q2, q3, q4, q5, q6, q7, q8, q9, q10, q11, q12, q13, q14, q15, vlits, List.range, List.range.loop]
def mlits (m : RM) : List Lit := .int .i64 m.kind :: .int .u64 m.seq :: (klits m.key ++ (vlits m.val ++ [.int .u64 m.inc]))
def mlit (m : RM) : Lit := .string (keyBytes (mlits m))
theorem int_lits_at (z : Int) (h : Is64 z) (D : Nat) : Try.prog.keyLits (D + 1) 3 [.int .i64 z] = some [.int .i64 z] := by
  simp [Program.keyLits, Try.underlying3, i64_wf h]
theorem u64_lits_at (z : Int) (h : Us64 z) (D : Nat) : Try.prog.keyLits (D + 1) 46 [.int .u64 z] = some [.int .u64 z] := by
  simp [Program.keyLits, Try.underlying46, u64_wf h]
theorem mc_p0 (m : RM) : ((mc m).drop 0).take 1 = [.int .i64 m.kind] := rfl
theorem mc_p1 (m : RM) : ((mc m).drop 1).take 1 = [.int .u64 m.seq] := rfl
theorem mc_p28 {m : RM} (h : m.val.bs.length = 16) : ((mc m).drop 28).take 1 = [.int .u64 m.inc] := by
  have hl := mc_len h
  have h28 : 28 < (mc m).length := by omega
  rw [List.drop_eq_getElem_cons h28]
  have e := mc_28 h
  rw [List.getElem?_eq_getElem h28] at e
  injection e with e
  rw [e, List.take_succ_cons, List.take_zero]
theorem msg_lits (m : RM) (h : m.wf) (D : Nat) : Try.prog.keyLits (D + 4) 48 (mc m) = some (mlits m) := by
  have hl := mc_len h.val.hl
  have e0 := int_lits_at m.kind h.hk (D + 2)
  have e1 := u64_lits_at m.seq h.hs (D + 2)
  have e2 := key_lits_at m.key h.key D
  have e3 := val_lits_at m.val h.val D
  have e4 := u64_lits_at m.inc h.hi (D + 2)
  unfold Program.keyLits
  simp only [Try.underlying48]
  rw [if_pos ⟨by rw [hl]; exact msg_cells.symm, by kernel_rfl⟩]
  simp only [List.mapM_cons, List.mapM_nil, int_cells, u64_cells, key_cells, val_cells, mc_p0, mc_p1, mc_key, mc_val h.val.hl, mc_p28 h.val.hl, e0, e1, e2, e3, e4]
  simp [mlits]
theorem msg_of (m : RM) (h : m.wf) : keyOf Try.prog 48 (mm m) = some (mlit m) := by
  have hf : (mm m).formed Try.prog 48 = true := by simp [Value.formed, Try.underlying48, msg_cells, mc_len h.val.hl]
  obtain ⟨D, hD⟩ : ∃ D, Try.prog.types.size + 1 = D + 4 := ⟨Try.prog.types.size - 3, by have h : 48 < Try.prog.types.size := msg_row; omega⟩
  have hl := msg_lits m h D
  simp only [keyOf, Try.underlying48, msg_type, hf, Bool.and_self, if_true, Value.cells]
  rw [hD, hl]
  rfl
theorem kc_inj {a b : RK} (h : kc a = kc b) : a = b := kv_inj (congrArg (fun l : List Value => Value.agg l.toArray) h)
theorem mc_inj {a b : RM} (ha : a.val.bs.length = 16) (hb : b.val.bs.length = 16) (h : mc a = mc b) : a = b := by
  have h0 : some (Value.int .i64 a.kind) = some (.int .i64 b.kind) := by rw [← mc_0 a, ← mc_0 b, h]
  have h1 : some (Value.int .u64 a.seq) = some (.int .u64 b.seq) := by rw [← mc_1 a, ← mc_1 b, h]
  have h2 : kc a.key = kc b.key := by rw [← mc_key a, ← mc_key b, h]
  have h3 : vc a.val = vc b.val := by rw [← mc_val ha, ← mc_val hb, h]
  have h4 : some (Value.int .u64 a.inc) = some (.int .u64 b.inc) := by rw [← mc_28 ha, ← mc_28 hb, h]
  obtain ⟨k1, s1, e1, v1, i1⟩ := a
  obtain ⟨k2, s2, e2, v2, i2⟩ := b
  have e2 := kc_inj h2
  have e3 := vc_inj h3
  clear h2 h3
  simp only [Option.some.injEq, Value.int.injEq, true_and] at h0 h1 h4
  simp only at e2 e3
  subst h0 h1 e2 e3 h4
  rfl
theorem mm_inj {a b : RM} (ha : a.wf) (hb : b.wf) (h : mm a = mm b) : a = b := by
  injection h with h
  exact mc_inj ha.val.hl hb.val.hl (by simpa using congrArg Array.toList h)
theorem mlit_inj {a b : RM} (ha : a.wf) (hb : b.wf) (h : mlit a = mlit b) : a = b := mm_inj ha hb (msg_keyed.inj (msg_of a ha) (h ▸ msg_of b hb))
theorem msg_eqr {a b : RM} (ha : a.wf) (hb : b.wf) (W : World) : (Op.equal 48 (mm a) (mm b)).run Try.prog W = .ok (decide (a = b)) W := by
  obtain ⟨r, h1, h2⟩ := run_equal_deep W (m := Try.prog.types.size + 1) types_le msg_typeAt msg_wide (msg_of a ha) (msg_of b hb)
  have : r = decide (a = b) := by
    rw [Bool.eq_iff_iff, h2, decide_eq_true_iff]
    exact ⟨mlit_inj ha hb, fun e => by rw [e]⟩
  rw [h1, this]
theorem msg_eql {a b : RM} (ha : a.wf) (hb : b.wf) (W : World) : (binOp .eql 48 (mm a) (mm b)).run Try.prog W = .ok (.bool (decide (a = b))) W := by
  simp only [binOp, Sem.run_bind, msg_eqr ha hb, Result.andThen_ok, Sem.run_pure]
theorem msg_self {a : RM} (ha : a.wf) (W : World) : (binOp .eql 48 (.agg (mc a).toArray) (.agg (mc a).toArray)).run Try.prog W = .ok (.bool true) W := by
  have h := msg_eql ha ha W
  rwa [decide_eq_true rfl] at h
/-! What is read of a message's block, from one world on. -/
section
variable {Z : World} {g T : Nat} {m : RM}
theorem msg_all (ha : Arr Z g T (mc m).toArray) (hl : m.val.bs.length = 16) : ∀ W, Fr Z W → (ldS 48 (.pointer (some ⟨g, 0, none⟩))).run Try.prog W = .ok (.agg (mc m).toArray) W := fun W h => msgS.ld (mc_len hl) (ha.below h ha.lt)
theorem msg_keyAt (ha : Arr Z g T (mc m).toArray) : ∀ W, Fr Z W → (ldS 40 (.pointer (some ⟨g, 2, none⟩))).run Try.prog W = .ok (.agg (kc m.key).toArray) W := fun W h => keyS.ldMid (kc_len _) (range_of_arr (ha.below h ha.lt) (by rw [kc_len]; exact mc_key m))
theorem msg_valAt (ha : Arr Z g T (mc m).toArray) (hl : m.val.bs.length = 16) : ∀ W, Fr Z W → (ldS 43 (.pointer (some ⟨g, 11, none⟩))).run Try.prog W = .ok (.agg (vc m.val).toArray) W := fun W h => valS.ldMid (vc_len hl) (range_of_arr (ha.below h ha.lt) (by rw [vc_len hl]; exact mc_val hl))
theorem cellZ {cs : List Value} (ha : Arr Z g T cs.toArray) (j : Nat) {u : Value} (hu : cs[j]? = some u) : ∀ W, Fr Z W → W.cell? ⟨g, j, none⟩ = some u := cell_fr ha j u hu
/-- A message that was boxed: the world from there on, by a name. -/
theorem msg_boxed (w : World) (m : RM) (hl : m.val.bs.length = 16) : ∃ Z, w.alloc (.cells (mc m).toArray 48) = Z ∧ Fr w Z ∧ Fr Z Z ∧ Arr Z w.heap.size 48 (mc m).toArray ∧
    (∀ W, Fr Z W → W.cell? ⟨w.heap.size, 0, none⟩ = some (.int .i64 m.kind)) ∧ (∀ W, Fr Z W → W.cell? ⟨w.heap.size, 1, none⟩ = some (.int .u64 m.seq)) ∧ (∀ W, Fr Z W → W.cell? ⟨w.heap.size, 28, none⟩ = some (.int .u64 m.inc)) ∧
    (∀ W, Fr Z W → (ldS 48 (.pointer (some ⟨w.heap.size, 0, none⟩))).run Try.prog W = .ok (.agg (mc m).toArray) W) ∧
    (∀ W, Fr Z W → (ldS 40 (.pointer (some ⟨w.heap.size, 2, none⟩))).run Try.prog W = .ok (.agg (kc m.key).toArray) W) ∧
    (∀ W, Fr Z W → (ldS 43 (.pointer (some ⟨w.heap.size, 11, none⟩))).run Try.prog W = .ok (.agg (vc m.val).toArray) W) := by
  refine ⟨_, rfl, fr_new (fr_refl w) _, fr_refl _, Arr.new w _ _, ?_⟩
  generalize hX : World.alloc w _ = Z
  have ha : Arr Z w.heap.size 48 (mc m).toArray := by rw [← hX]; exact Arr.new w _ _
  exact ⟨cellZ ha 0 (mc_0 m), cellZ ha 1 (mc_1 m), cellZ ha 28 (mc_28 hl), msg_all ha hl, msg_keyAt ha, msg_valAt ha hl⟩
end
end Go.Proofs.Ytcdcaanmmbopbaa
/- What the functions of layer 5 come to, one: 'Check', 'Bytes'. -/
namespace Go.Proofs.Ytcdcaanmmbopbaa
set_option maxRecDepth 100000
open Go.RowKit
set_option linter.unusedVariables false
attribute [local go_sem ↓] val_ld key_ld msg_ld

def okM (m : RM) : Bool :=
  if m.kind = 1 then decide (m.inc = 0) && (okB m.key && okV m.val)
  else if m.kind = 2 then decide (m.inc = 0) && (okB m.key && decide (m.val = zeroV))
  else if m.kind = 3 then okB m.key && decide (m.val = zeroV)
  else false
theorem kcheck_at {W0 W : World} {k : RK} (wk : k.wf) (hb : Fr W0 W) : Calls Try.prog 67 #[kv k] W fun e w' => e = .returned (.bool (okB k)) ∧ Fr W0 w' := (key_check k wk W).mono fun _ _ ⟨he, hw⟩ => ⟨he, fr_step hb hw⟩
theorem rkcheck_at {W0 W : World} {k : RK} (wk : k.wf) (hb : Fr W0 W) : Calls Try.prog 73 #[kv k] W fun e w' => e = .returned (.bool (okB k)) ∧ Fr W0 w' := (ref_check k wk W).mono fun _ _ ⟨he, hw⟩ => ⟨he, fr_step hb hw⟩
/-- Compared to the zero value. -/
theorem val_zero {v : RV} (wv : v.wf) (W : World) : (binOp .eql 43 (.agg (vc v).toArray) (.agg #[.int .i64 0, .int .u8 0, .int .u8 0, .int .u8 0, .int .u8 0, .int .u8 0, .int .u8 0, .int .u8 0, .int .u8 0, .int .u8 0, .int .u8 0, .int .u8 0, .int .u8 0, .int .u8 0, .int .u8 0, .int .u8 0, .int .u8 0])).run Try.prog W = .ok (.bool (decide (v = zeroV))) W := val_eql wv zeroV_wf W
theorem val_nzero {v : RV} (wv : v.wf) (W : World) : (binOp .neq 43 (.agg (vc v).toArray) (.agg #[.int .i64 0, .int .u8 0, .int .u8 0, .int .u8 0, .int .u8 0, .int .u8 0, .int .u8 0, .int .u8 0, .int .u8 0, .int .u8 0, .int .u8 0, .int .u8 0, .int .u8 0, .int .u8 0, .int .u8 0, .int .u8 0, .int .u8 0])).run Try.prog W = .ok (.bool (!decide (v = zeroV))) W := val_neq wv zeroV_wf W
set_option maxRecDepth 100000 in
set_option maxHeartbeats 4000000 in
theorem msg_check (m : RM) (wm : m.wf) (w : World) : Calls Try.prog 72 #[mm m] w fun e w' => e = .returned (.bool (okM m)) ∧ Fr w w' := by
  have cK : ∀ Z W, Fr Z W → Calls Try.prog 67 #[kv m.key] W fun e w' => e = .returned (.bool (okB m.key)) ∧ Fr Z w' := fun Z W h => kcheck_at wm.key h
  have cV : ∀ Z W, Fr Z W → Calls Try.prog 68 #[vv m.val] W fun e w' => e = .returned (.bool (okV m.val)) ∧ Fr Z w' := fun Z W h => check_at wm.val h
  have hz := val_zero wm.val
  have hi0 : (m.inc == 0) = decide (m.inc = 0) := rfl
  have hi1 : (m.inc != 0) = !decide (m.inc = 0) := rfl
  obtain ⟨Z, hZ, hF, hZZ, -, c0, -, c28, -, lK, lV⟩ := msg_boxed w m wm.val.hl
  unfold okM
  clear wm
  by_cases h1 : m.kind = 1
  · simp only [h1, if_true] at c0 ⊢
    clear h1
    cases hi : decide (m.inc = 0) <;> cases hb : okB m.key <;> cases hv : okV m.val
    all_goals
      rw [hi] at hi0 hi1
      rw [hb] at cK
      rw [hv] at cV
      clear hi hb hv
      simp only [Bool.true_and, Bool.false_and, Bool.not_true, Bool.not_false] at hi1 ⊢
      go_enter Try.func72, Try.ntmps72
      go_wp2_with (first
        | (go_at_call 67; refine (cK Z _ (by assumption)).mono ?_; rintro e w1 ⟨rfl, hz1⟩)
        | (go_at_call 68; refine (cV Z _ (by assumption)).mono ?_; rintro e w2 ⟨rfl, hz2⟩)
        | fail)
      go_ret
      exact ⟨rfl, fr_step hF (by assumption)⟩
  · by_cases h2 : m.kind = 2
    · simp only [h2, if_true, if_neg (show ¬ (2 : Int) = 1 by decide)] at c0 ⊢
      clear h1 h2
      cases hi : decide (m.inc = 0) <;> cases hb : okB m.key <;> cases hv : decide (m.val = zeroV)
      all_goals
        rw [hi] at hi0 hi1
        rw [hb] at cK
        rw [hv] at hz
        clear hi hb hv
        simp only [Bool.true_and, Bool.false_and, Bool.not_true, Bool.not_false] at hi1 hz ⊢
        go_enter Try.func72, Try.ntmps72
        go_wp2_with (first
          | (go_at_call 67; refine (cK Z _ (by assumption)).mono ?_; rintro e w1 ⟨rfl, hz1⟩)
          | (go_at_call 68; refine (cV Z _ (by assumption)).mono ?_; rintro e w2 ⟨rfl, hz2⟩)
          | fail)
        go_ret
        exact ⟨rfl, fr_step hF (by assumption)⟩
    · by_cases h3 : m.kind = 3
      · simp only [h3, if_true, if_neg (show ¬ (3 : Int) = 1 by decide), if_neg (show ¬ (3 : Int) = 2 by decide)] at c0 ⊢
        clear h1 h2 h3
        cases hb : okB m.key <;> cases hv : decide (m.val = zeroV)
        all_goals
          rw [hb] at cK
          rw [hv] at hz
          clear hb hv
          simp only [Bool.true_and, Bool.false_and] at hz ⊢
          go_enter Try.func72, Try.ntmps72
          go_wp2_with (first
            | (go_at_call 67; refine (cK Z _ (by assumption)).mono ?_; rintro e w1 ⟨rfl, hz1⟩)
            | (go_at_call 68; refine (cV Z _ (by assumption)).mono ?_; rintro e w2 ⟨rfl, hz2⟩)
            | fail)
          go_ret
          exact ⟨rfl, fr_step hF (by assumption)⟩
      · rw [if_neg h1, if_neg h2, if_neg h3]
        have e1 : (m.kind == 1) = false := by simpa using h1
        have e2 : (m.kind == 2) = false := by simpa using h2
        have e3 : (m.kind == 3) = false := by simpa using h3
        rcases Int.lt_or_le m.kind 1 with h | h
        · have d1 : decide (m.kind < 1) = true := by simpa using h
          clear h1 h2 h3 h
          go_enter Try.func72, Try.ntmps72
          go_wp2_with (first
            | (go_at_call 67; refine (cK Z _ (by assumption)).mono ?_; rintro e w1 ⟨rfl, hz1⟩)
            | (go_at_call 68; refine (cV Z _ (by assumption)).mono ?_; rintro e w2 ⟨rfl, hz2⟩)
            | fail)
          go_ret
          exact ⟨rfl, fr_step hF (by assumption)⟩
        · have d1 : decide (m.kind < 1) = false := by simp; omega
          have d2 : decide (3 < m.kind) = true := by simp; omega
          clear h1 h2 h3 h
          go_enter Try.func72, Try.ntmps72
          go_wp2_with (first
            | (go_at_call 67; refine (cK Z _ (by assumption)).mono ?_; rintro e w1 ⟨rfl, hz1⟩)
            | (go_at_call 68; refine (cV Z _ (by assumption)).mono ?_; rintro e w2 ⟨rfl, hz2⟩)
            | fail)
          go_ret
          exact ⟨rfl, fr_step hF (by assumption)⟩
set_option maxRecDepth 100000 in
set_option maxHeartbeats 4000000 in
theorem ref_mcheck (m : RM) (wm : m.wf) (w : World) : Calls Try.prog 76 #[mm m] w fun e w' => e = .returned (.bool (okM m)) ∧ Fr w w' := by
  have cK : ∀ Z W, Fr Z W → Calls Try.prog 73 #[kv m.key] W fun e w' => e = .returned (.bool (okB m.key)) ∧ Fr Z w' := fun Z W h => rkcheck_at wm.key h
  have cV : ∀ Z W, Fr Z W → Calls Try.prog 74 #[vv m.val] W fun e w' => e = .returned (.bool (okV m.val)) ∧ Fr Z w' := fun Z W h => rcheck_at wm.val h
  have hz := val_nzero wm.val
  have hi0 : (m.inc == 0) = decide (m.inc = 0) := rfl
  have hi1 : (m.inc != 0) = !decide (m.inc = 0) := rfl
  obtain ⟨Z, hZ, hF, hZZ, -, c0, -, c28, -, lK, lV⟩ := msg_boxed w m wm.val.hl
  unfold okM
  clear wm
  by_cases h1 : m.kind = 1
  · simp only [h1, if_true] at c0 ⊢
    clear h1
    cases hi : decide (m.inc = 0) <;> cases hb : okB m.key <;> cases hv : okV m.val
    all_goals
      rw [hi] at hi0 hi1
      rw [hb] at cK
      rw [hv] at cV
      clear hi hb hv
      simp only [Bool.true_and, Bool.false_and, Bool.not_true, Bool.not_false] at hi1 ⊢
      go_enter Try.func76, Try.ntmps76
      go_wp2_with (first
        | (go_at_call 73; refine (cK Z _ (by assumption)).mono ?_; rintro e w1 ⟨rfl, hz1⟩)
        | (go_at_call 74; refine (cV Z _ (by assumption)).mono ?_; rintro e w2 ⟨rfl, hz2⟩)
        | fail)
      go_ret
      exact ⟨rfl, fr_step hF (by assumption)⟩
  · by_cases h2 : m.kind = 2
    · simp only [h2, if_true, if_neg (show ¬ (2 : Int) = 1 by decide)] at c0 ⊢
      clear h1 h2
      cases hi : decide (m.inc = 0) <;> cases hb : okB m.key <;> cases hv : decide (m.val = zeroV)
      all_goals
        rw [hi] at hi0 hi1
        rw [hb] at cK
        rw [hv] at hz
        clear hi hb hv
        simp only [Bool.true_and, Bool.false_and, Bool.not_true, Bool.not_false] at hi1 hz ⊢
        go_enter Try.func76, Try.ntmps76
        go_wp2_with (first
          | (go_at_call 73; refine (cK Z _ (by assumption)).mono ?_; rintro e w1 ⟨rfl, hz1⟩)
          | (go_at_call 74; refine (cV Z _ (by assumption)).mono ?_; rintro e w2 ⟨rfl, hz2⟩)
          | fail)
        go_ret
        exact ⟨rfl, fr_step hF (by assumption)⟩
    · by_cases h3 : m.kind = 3
      · simp only [h3, if_true, if_neg (show ¬ (3 : Int) = 1 by decide), if_neg (show ¬ (3 : Int) = 2 by decide)] at c0 ⊢
        clear h1 h2 h3
        cases hb : okB m.key <;> cases hv : decide (m.val = zeroV)
        all_goals
          rw [hb] at cK
          rw [hv] at hz
          clear hb hv
          simp only [Bool.true_and, Bool.false_and, Bool.not_true, Bool.not_false] at hz ⊢
          go_enter Try.func76, Try.ntmps76
          go_wp2_with (first
            | (go_at_call 73; refine (cK Z _ (by assumption)).mono ?_; rintro e w1 ⟨rfl, hz1⟩)
            | (go_at_call 74; refine (cV Z _ (by assumption)).mono ?_; rintro e w2 ⟨rfl, hz2⟩)
            | fail)
          go_ret
          exact ⟨rfl, fr_step hF (by assumption)⟩
      · rw [if_neg h1, if_neg h2, if_neg h3]
        have e1 : (m.kind == 1) = false := by simpa using h1
        have e2 : (m.kind == 2) = false := by simpa using h2
        have e3 : (m.kind == 3) = false := by simpa using h3
        rcases Int.lt_or_le m.kind 1 with h | h
        · have d1 : decide (m.kind < 1) = true := by simpa using h
          clear h1 h2 h3 h
          go_enter Try.func76, Try.ntmps76
          go_wp2_with (first
            | (go_at_call 73; refine (cK Z _ (by assumption)).mono ?_; rintro e w1 ⟨rfl, hz1⟩)
            | (go_at_call 74; refine (cV Z _ (by assumption)).mono ?_; rintro e w2 ⟨rfl, hz2⟩)
            | fail)
          go_ret
          exact ⟨rfl, fr_step hF (by assumption)⟩
        · have d1 : decide (m.kind < 1) = false := by simp; omega
          have d2 : decide (3 < m.kind) = true := by simp; omega
          clear h1 h2 h3 h
          go_enter Try.func76, Try.ntmps76
          go_wp2_with (first
            | (go_at_call 73; refine (cK Z _ (by assumption)).mono ?_; rintro e w1 ⟨rfl, hz1⟩)
            | (go_at_call 74; refine (cV Z _ (by assumption)).mono ?_; rintro e w2 ⟨rfl, hz2⟩)
            | fail)
          go_ret
          exact ⟨rfl, fr_step hF (by assumption)⟩
end Go.Proofs.Ytcdcaanmmbopbaa
