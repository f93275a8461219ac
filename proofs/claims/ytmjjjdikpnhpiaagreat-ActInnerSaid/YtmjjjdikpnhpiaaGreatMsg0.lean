/- Messages as values: a kind, a number, a key, a value, a number: 29 cells. -/
import Derived.Test.YtmjjjdikpnhpiaaGreatKeyA
import Derived.Test.YtmjjjdikpnhpiaaGreatValC
import Derived.Test.YtmjjjdikpnhpiaaGreatBase
namespace Go.Proofs.YtmjjjdikpnhpiaaGreat
set_option linter.unusedVariables false
set_option linter.unusedSimpArgs false
set_option maxRecDepth 100000
open Go.RowKit
section
structure RM where
 kind : Int
 seq : Int
 key : RK
 val : RV
 inc : Int
 deriving DecidableEq, Inhabited
def mc (m : RM) : List Value := .int .i64 m.kind :: .int .u64 m.seq :: (kc m.key ++ (vc m.val ++ [.int .u64 m.inc]))
abbrev mm (m : RM) : Value := .agg (mc m).toArray
def zal (z : Int) : Prop := -9223372036854775808 ≤ z ∧ z ≤ 9223372036854775807
def zeb (z : Int) : Prop := 0 ≤ z ∧ z < 18446744073709551616
structure RM.wf (m : RM) : Prop where
 hk : zal m.kind
 hs : zeb m.seq
 key : m.key.wf
 val : m.val.wf
 hi : zeb m.inc
def za0 : RM := ⟨0, 0, zr, zE, 0⟩
theorem zl (k : RK) : (kc k).length = 9 := rfl
theorem zP {m : RM} (h : m.val.bs.length = 16) : (mc m).length = 29 := by simp [mc, zD h]
theorem zay (m : RM) : One (mc m) := .cons rfl (.cons rfl (.app (zU _) (.app (zar _) (.cons rfl .nil))))
theorem zhl (m : RM) : (mc m)[0]? = some (.int .i64 m.kind) := rfl
theorem mc_1 (m : RM) : (mc m)[1]? = some (.int .u64 m.seq) := rfl
theorem mc_2 (m : RM) : (mc m)[2]? = some (.int .i64 m.key.n) := rfl
theorem mc_11 (m : RM) : (mc m)[11]? = some (.int .i64 m.val.n) := rfl
theorem zdT {m : RM} (h : m.val.bs.length = 16) : (mc m)[28]? = some (.int .u64 m.inc) := by
 have h17 := zD h;have e : mc m = (.int .i64 m.kind :: .int .u64 m.seq :: (kc m.key ++ vc m.val)) ++ [.int .u64 m.inc] := by simp [mc]
 rw [e, List.getElem?_append_right (by simp [h17])];simp [h17]
theorem zcO (m : RM) : ((mc m).drop 2).take 9 = kc m.key := by
 rw [mc, List.drop_succ_cons, List.drop_succ_cons, List.drop_zero];exact List.take_left' (zl _)
theorem zjD {m : RM} (h : m.val.bs.length = 16) : ((mc m).drop 11).take 17 = vc m.val := by
 have e : (mc m).drop 11 = vc m.val ++ [.int .u64 m.inc] := by
  rw [mc, List.drop_succ_cons, List.drop_succ_cons];exact List.drop_left' (zl _)
 rw [e];exact List.take_left' (zD h)
theorem zkg (m : RM) (z : Int) : (mc m).set 0 (.int .i64 z) = mc { m with kind := z } := rfl
theorem zeQ {m : RM} (h : m.val.bs.length = 16) (z : Int) : (mc m).set 28 (.int .u64 z) = mc { m with inc := z } := by
 have h17 := zD h;have e : ∀ x : RM, mc x = (.int .i64 x.kind :: .int .u64 x.seq :: (kc x.key ++ vc x.val)) ++ [.int .u64 x.inc] := fun x => by simp [mc]
 rw [e, e, List.set_append_right _ _ (by simp [h17])];simp [h17]
theorem zcb {m : RM} (h : m.val.bs.length = 16) {v : RV} (hv : v.bs.length = 16) : splice (mc m) 11 (vc v) = mc { m with val := v } := by
 have e : ∀ x : RM, mc x = (.int .i64 x.kind :: .int .u64 x.seq :: kc x.key) ++ (vc x.val ++ [.int .u64 x.inc]) := fun x => by simp [mc]
 have h11 : ∀ x : RM, (Value.int .i64 x.kind :: .int .u64 x.seq :: kc x.key).length = 11 := fun x => rfl;rw [splice, zD hv, e m, e { m with val := v }, List.take_left' (h11 m), List.drop_append, List.drop_eq_nil_of_le (by simp), h11, List.nil_append];rw [show 11 + 17 - 11 = 17 from rfl, List.drop_left' (zD h)]
theorem zX : (Tryz.prog.info? 64).map (·.size) = some 29 := by kernel_rfl
theorem za4 : Sty Tryz.prog 64 29 := ⟨zX, _, Tryz.underlying64, rfl⟩
theorem zaf : Sty Tryz.prog 33 9 := ⟨zC, _, Tryz.underlying33, rfl⟩
theorem zw (p : Value) : Instr.loadAt 64 p = ldS 64 p := rfl
theorem zt (p : Value) : Instr.loadAt 33 p = ldS 33 p := rfl
theorem zld : Tryz.prog.keyType 64 = true := by kernel_rfl
theorem zmb : Tryz.prog.keyTypeAt (Tryz.prog.types.size + 1) 64 = true := by kernel_rfl
theorem zlL : (match Tryz.prog.underlying 64 with | some (.array _ _) | some (.struct _) => true | _ => false) = true := by kernel_rfl
theorem zjK : (64 : TypeId) < Tryz.prog.types.size := of_decide_eq_true (by kernel_rfl)
theorem msg_law : WideMaps.KeyLaw Tryz.prog 64 := deep_law_gate zgp (of_decide_eq_true zdd) zjK zld zlL
theorem zoL : Go.Maps.Keyed Tryz.prog 64 := .of_law msg_law
theorem ziQ : Tryz.prog.cellsOf 64 = 29 := by kernel_rfl
theorem zoE : Tryz.prog.cellsOf 62 = 1 := by kernel_rfl
theorem u64_wf {z : Int} (h : zeb z) : (Lit.int .u64 z).wf = true := by
 unfold zeb at h;simp [Lit.wf, IntKind.min, IntKind.max, IntKind.signed, IntKind.bits]; omega
theorem zhb (k : RK) (h : k.wf) (D : Nat) : Tryz.prog.keyLits (D + 3) 33 (kc k) = some (zik k) := by
 simp [Program.keyLits, Tryz.underlying33, Tryz.underlying3, Tryz.underlying31, Tryz.underlying5, zei, zjl, zcT, zgs, zh0 h.hn, zbS h.h0, zbS h.h1, zbS h.h2, zbS h.h3, zbS h.h4, zbS h.h5, zbS h.h6, zbS h.h7, zik, List.range, List.range.loop]
theorem zhj (v : RV) (h : v.wf) (D : Nat) : Tryz.prog.keyLits (D + 3) 37 (vc v) = some (zhN v) := by
 obtain ⟨hn, hl, hb⟩ := h;obtain ⟨n, bs⟩ := v;simp only at hn hl hb
 match bs, hl with
 | [b0, b1, b2, b3, b4, b5, b6, b7, b8, b9, b10, b11, b12, b13, b14, b15], _ =>
  have q : ∀ z ∈ [b0, b1, b2, b3, b4, b5, b6, b7, b8, b9, b10, b11, b12, b13, b14, b15], (Lit.int .u8 z).wf = true := fun z hz => zbS (hb z hz);simp only [List.forall_mem_cons, List.not_mem_nil, false_implies, implies_true, and_true] at q;obtain ⟨q0, q1, q2, q3, q4, q5, q6, q7, q8, q9, q10, q11, q12, q13, q14, q15⟩ := q;simp [Program.keyLits, Tryz.underlying37, Tryz.underlying3, Tryz.underlying35, Tryz.underlying5, zej, zhc, zcT, zgs, vc, zh0 hn, q0, q1, q2, q3, q4, q5, q6, q7, q8, q9, q10, q11, q12, q13, q14, q15, zhN, List.range, List.range.loop]
def mlits (m : RM) : List Lit := .int .i64 m.kind :: .int .u64 m.seq :: (zik m.key ++ (zhN m.val ++ [.int .u64 m.inc]))
def mlit (m : RM) : Lit := .string (keyBytes (mlits m))
theorem zlV (z : Int) (h : zal z) (D : Nat) : Tryz.prog.keyLits (D + 1) 3 [.int .i64 z] = some [.int .i64 z] := by
 simp [Program.keyLits, Tryz.underlying3, zh0 h]
theorem zhh (z : Int) (h : zeb z) (D : Nat) : Tryz.prog.keyLits (D + 1) 62 [.int .u64 z] = some [.int .u64 z] := by
 simp [Program.keyLits, Tryz.underlying62, u64_wf h]
theorem mc_p0 (m : RM) : ((mc m).drop 0).take 1 = [.int .i64 m.kind] := rfl
theorem mc_p1 (m : RM) : ((mc m).drop 1).take 1 = [.int .u64 m.seq] := rfl
theorem mc_p28 {m : RM} (h : m.val.bs.length = 16) : ((mc m).drop 28).take 1 = [.int .u64 m.inc] := by
 have hl := zP h;have h28 : 28 < (mc m).length := by omega
 rw [List.drop_eq_getElem_cons h28];have e := zdT h;rw [List.getElem?_eq_getElem h28] at e
 injection e with e
 rw [e, List.take_succ_cons, List.take_zero]
theorem msg_lits (m : RM) (h : m.wf) (D : Nat) : Tryz.prog.keyLits (D + 4) 64 (mc m) = some (mlits m) := by
 have hl := zP h.val.hl;have e0 := zlV m.kind h.hk (D + 2);have e1 := zhh m.seq h.hs (D + 2);have e2 := zhb m.key h.key D;have e3 := zhj m.val h.val D;have e4 := zhh m.inc h.hi (D + 2);unfold Program.keyLits;simp only [Tryz.underlying64];rw [if_pos ⟨by rw [hl]; exact ziQ.symm, by kernel_rfl⟩];simp only [List.mapM_cons, List.mapM_nil, zcT, zoE, zei, zej, mc_p0, mc_p1, zcO, zjD h.val.hl, mc_p28 h.val.hl, e0, e1, e2, e3, e4];simp [mlits]
theorem zjO (m : RM) (h : m.wf) : keyOf Tryz.prog 64 (mm m) = some (mlit m) := by
 have hf : (mm m).formed Tryz.prog 64 = true := by simp [Value.formed, Tryz.underlying64, ziQ, zP h.val.hl]
 obtain ⟨D, hD⟩ : ∃ D, Tryz.prog.types.size + 1 = D + 4 := ⟨Tryz.prog.types.size - 3, by have h : 64 < Tryz.prog.types.size := zjK; omega⟩;have hl := msg_lits m h D;simp only [keyOf, Tryz.underlying64, zld, hf, Bool.and_self, if_true, Value.cells];rw [hD, hl];rfl
theorem kc_inj {a b : RK} (h : kc a = kc b) : a = b := kv_inj (congrArg (fun l : List Value => Value.agg l.toArray) h)
theorem mc_inj {a b : RM} (ha : a.val.bs.length = 16) (hb : b.val.bs.length = 16) (h : mc a = mc b) : a = b := by
 have h0 : some (Value.int .i64 a.kind) = some (.int .i64 b.kind) := by rw [← zhl a, ← zhl b, h]
 have h1 : some (Value.int .u64 a.seq) = some (.int .u64 b.seq) := by rw [← mc_1 a, ← mc_1 b, h]
 have h2 : kc a.key = kc b.key := by rw [← zcO a, ← zcO b, h]
 have h3 : vc a.val = vc b.val := by rw [← zjD ha, ← zjD hb, h]
 have h4 : some (Value.int .u64 a.inc) = some (.int .u64 b.inc) := by rw [← zdT ha, ← zdT hb, h]
 obtain ⟨k1, s1, e1, v1, i1⟩ := a;obtain ⟨k2, s2, e2, v2, i2⟩ := b;have e2 := kc_inj h2;have e3 := zms h3;clear h2 h3;simp only [Option.some.injEq, Value.int.injEq, true_and] at h0 h1 h4;simp only at e2 e3;subst h0 h1 e2 e3 h4;rfl
theorem mm_inj {a b : RM} (ha : a.wf) (hb : b.wf) (h : mm a = mm b) : a = b := by
 injection h with h
 exact mc_inj ha.val.hl hb.val.hl (by simpa using congrArg Array.toList h)
theorem mlit_inj {a b : RM} (ha : a.wf) (hb : b.wf) (h : mlit a = mlit b) : a = b := mm_inj ha hb (zoL.inj (zjO a ha) (h ▸ zjO b hb))
theorem msg_eqr {a b : RM} (ha : a.wf) (hb : b.wf) (W : World) : (Op.equal 64 (mm a) (mm b)).run Tryz.prog W = .ok (decide (a = b)) W := by
 obtain ⟨r, h1, h2⟩ := run_equal_deep W (m := Tryz.prog.types.size + 1) zeS zmb zlL (zjO a ha) (zjO b hb)
 have : r = decide (a = b) := by
  rw [Bool.eq_iff_iff, h2, decide_eq_true_iff];exact ⟨mlit_inj ha hb, fun e => by rw [e]⟩
 rw [h1, this]
section
variable {Z : World} {g T : Nat} {m : RM}
theorem zbg (ha : Arr Z g T (mc m).toArray) (hl : m.val.bs.length = 16) : ∀ W, Fr Z W → (ldS 64 (.pointer (some ⟨g, 0, none⟩))).run Tryz.prog W = .ok (.agg (mc m).toArray) W := fun W h => za4.ld (zP hl) (ha.below h ha.lt)
theorem zaN (ha : Arr Z g T (mc m).toArray) : ∀ W, Fr Z W → (ldS 33 (.pointer (some ⟨g, 2, none⟩))).run Tryz.prog W = .ok (.agg (kc m.key).toArray) W := fun W h => zaf.ldMid (zl _) (zdm (ha.below h ha.lt) (by rw [zl]; exact zcO m))
theorem zcG (ha : Arr Z g T (mc m).toArray) (hl : m.val.bs.length = 16) : ∀ W, Fr Z W → (ldS 37 (.pointer (some ⟨g, 11, none⟩))).run Tryz.prog W = .ok (.agg (vc m.val).toArray) W := fun W h => zbs.ldMid (zD hl) (zdm (ha.below h ha.lt) (by rw [zD hl]; exact zjD hl))
theorem zbt {cs : List Value} (ha : Arr Z g T cs.toArray) (j : Nat) {u : Value} (hu : cs[j]? = some u) : ∀ W, Fr Z W → W.cell? ⟨g, j, none⟩ = some u := cell_fr ha j u hu
theorem zff (w : World) (m : RM) (hl : m.val.bs.length = 16) : ∃ Z, w.alloc (.cells (mc m).toArray 64) = Z ∧ Fr w Z ∧ Fr Z Z ∧ Arr Z w.heap.size 64 (mc m).toArray ∧
 (∀ W, Fr Z W → W.cell? ⟨w.heap.size, 0, none⟩ = some (.int .i64 m.kind)) ∧ (∀ W, Fr Z W → W.cell? ⟨w.heap.size, 1, none⟩ = some (.int .u64 m.seq)) ∧ (∀ W, Fr Z W → W.cell? ⟨w.heap.size, 28, none⟩ = some (.int .u64 m.inc)) ∧
 (∀ W, Fr Z W → (ldS 64 (.pointer (some ⟨w.heap.size, 0, none⟩))).run Tryz.prog W = .ok (.agg (mc m).toArray) W) ∧
 (∀ W, Fr Z W → (ldS 33 (.pointer (some ⟨w.heap.size, 2, none⟩))).run Tryz.prog W = .ok (.agg (kc m.key).toArray) W) ∧
 (∀ W, Fr Z W → (ldS 37 (.pointer (some ⟨w.heap.size, 11, none⟩))).run Tryz.prog W = .ok (.agg (vc m.val).toArray) W) := by
 refine ⟨_, rfl, zf (ze w) _, ze _, Arr.new w _ _, ?_⟩;generalize hX : World.alloc w _ = Z;have ha : Arr Z w.heap.size 64 (mc m).toArray := by rw [← hX]; exact Arr.new w _ _
 exact ⟨zbt ha 0 (zhl m), zbt ha 1 (mc_1 m), zbt ha 28 (zdT hl), zbg ha hl, zaN ha, zcG ha hl⟩
end
end
section
attribute [local go_sem ↓] zae zt zw
def okM (m : RM) : Bool :=
 if m.kind = 1 then decide (m.inc = 0) && (okB m.key && okV m.val)
 else if m.kind = 2 then decide (m.inc = 0) && (okB m.key && decide (m.val = zE))
 else if m.kind = 3 then okB m.key && decide (m.val = zE)
 else false
theorem zgT {W0 W : World} {k : RK} (wk : k.wf) (hb : Fr W0 W) : Calls Tryz.prog 103 #[kv k] W fun e w' => e = .returned (.bool (okB k)) ∧ Fr W0 w' := (zoh k wk W).mono fun _ _ ⟨he, hw⟩ => ⟨he, za hb hw⟩
theorem zfC {W0 W : World} {k : RK} (wk : k.wf) (hb : Fr W0 W) : Calls Tryz.prog 68 #[kv k] W fun e w' => e = .returned (.bool (okB k)) ∧ Fr W0 w' := (zgO k wk W).mono fun _ _ ⟨he, hw⟩ => ⟨he, za hb hw⟩
theorem val_zero {v : RV} (wv : v.wf) (W : World) : (binOp .eql 37 (.agg (vc v).toArray) (.agg #[.int .i64 0, .int .u8 0, .int .u8 0, .int .u8 0, .int .u8 0, .int .u8 0, .int .u8 0, .int .u8 0, .int .u8 0, .int .u8 0, .int .u8 0, .int .u8 0, .int .u8 0, .int .u8 0, .int .u8 0, .int .u8 0, .int .u8 0])).run Tryz.prog W = .ok (.bool (decide (v = zE))) W := znq wv zcA W
theorem zoQ {v : RV} (wv : v.wf) (W : World) : (binOp .neq 37 (.agg (vc v).toArray) (.agg #[.int .i64 0, .int .u8 0, .int .u8 0, .int .u8 0, .int .u8 0, .int .u8 0, .int .u8 0, .int .u8 0, .int .u8 0, .int .u8 0, .int .u8 0, .int .u8 0, .int .u8 0, .int .u8 0, .int .u8 0, .int .u8 0, .int .u8 0])).run Tryz.prog W = .ok (.bool (!decide (v = zE))) W := val_neq wv zcA W
set_option maxRecDepth 100000 in
set_option maxHeartbeats 4000000 in
theorem ziY (m : RM) (wm : m.wf) (w : World) : Calls Tryz.prog 98 #[mm m] w fun e w' => e = .returned (.bool (okM m)) ∧ Fr w w' := by
 have cK : ∀ Z W, Fr Z W → Calls Tryz.prog 103 #[kv m.key] W fun e w' => e = .returned (.bool (okB m.key)) ∧ Fr Z w' := fun Z W h => zgT wm.key h;have cV : ∀ Z W, Fr Z W → Calls Tryz.prog 104 #[vv m.val] W fun e w' => e = .returned (.bool (okV m.val)) ∧ Fr Z w' := fun Z W h => zlC wm.val h;have hz := val_zero wm.val;have hi0 : (m.inc == 0) = decide (m.inc = 0) := rfl;have hi1 : (m.inc != 0) = !decide (m.inc = 0) := rfl;obtain ⟨Z, hZ, hF, hZZ, -, c0, -, c28, -, lK, lV⟩ := zff w m wm.val.hl;unfold okM;clear wm
 by_cases h1 : m.kind = 1
 ·simp only [h1, if_true] at c0 ⊢
  clear h1
  cases hi : decide (m.inc = 0) <;> cases hb : okB m.key <;> cases hv : okV m.val
  all_goals
   rw [hi] at hi0 hi1;rw [hb] at cK;rw [hv] at cV;clear hi hb hv;simp only [Bool.true_and, Bool.false_and, Bool.not_true, Bool.not_false] at hi1 ⊢;go_enter Tryz.func98, Tryz.ntmps98
   go_wp2_with (first
    | (go_at_call 103; refine (cK Z _ (by assumption)).mono ?_; rintro e w1 ⟨rfl, hz1⟩)
    | (go_at_call 104; refine (cV Z _ (by assumption)).mono ?_; rintro e w2 ⟨rfl, hz2⟩)
    | fail)
   go_ret;exact ⟨rfl, za hF (by assumption)⟩
 ·by_cases h2 : m.kind = 2
  ·simp only [h2, if_true, if_neg (show ¬ (2 : Int) = 1 by decide)] at c0 ⊢
   clear h1 h2
   cases hi : decide (m.inc = 0) <;> cases hb : okB m.key <;> cases hv : decide (m.val = zE)
   all_goals
    rw [hi] at hi0 hi1;rw [hb] at cK;rw [hv] at hz;clear hi hb hv;simp only [Bool.true_and, Bool.false_and, Bool.not_true, Bool.not_false] at hi1 hz ⊢;go_enter Tryz.func98, Tryz.ntmps98
    go_wp2_with (first
     | (go_at_call 103; refine (cK Z _ (by assumption)).mono ?_; rintro e w1 ⟨rfl, hz1⟩)
     | (go_at_call 104; refine (cV Z _ (by assumption)).mono ?_; rintro e w2 ⟨rfl, hz2⟩)
     | fail)
    go_ret;exact ⟨rfl, za hF (by assumption)⟩
  ·by_cases h3 : m.kind = 3
   ·simp only [h3, if_true, if_neg (show ¬ (3 : Int) = 1 by decide), if_neg (show ¬ (3 : Int) = 2 by decide)] at c0 ⊢
    clear h1 h2 h3
    cases hb : okB m.key <;> cases hv : decide (m.val = zE)
    all_goals
     rw [hb] at cK;rw [hv] at hz;clear hb hv;simp only [Bool.true_and, Bool.false_and] at hz ⊢;go_enter Tryz.func98, Tryz.ntmps98
     go_wp2_with (first
      | (go_at_call 103; refine (cK Z _ (by assumption)).mono ?_; rintro e w1 ⟨rfl, hz1⟩)
      | (go_at_call 104; refine (cV Z _ (by assumption)).mono ?_; rintro e w2 ⟨rfl, hz2⟩)
      | fail)
     go_ret;exact ⟨rfl, za hF (by assumption)⟩
   ·rw [if_neg h1, if_neg h2, if_neg h3]
    have e1 : (m.kind == 1) = false := by simpa using h1
    have e2 : (m.kind == 2) = false := by simpa using h2
    have e3 : (m.kind == 3) = false := by simpa using h3
    rcases Int.lt_or_le m.kind 1 with h | h
    ·have d1 : decide (m.kind < 1) = true := by simpa using h
     clear h1 h2 h3 h;go_enter Tryz.func98, Tryz.ntmps98
     go_wp2_with (first
      | (go_at_call 103; refine (cK Z _ (by assumption)).mono ?_; rintro e w1 ⟨rfl, hz1⟩)
      | (go_at_call 104; refine (cV Z _ (by assumption)).mono ?_; rintro e w2 ⟨rfl, hz2⟩)
      | fail)
     go_ret;exact ⟨rfl, za hF (by assumption)⟩
    ·have d1 : decide (m.kind < 1) = false := by simp; omega
     have d2 : decide (3 < m.kind) = true := by simp; omega
     clear h1 h2 h3 h;go_enter Tryz.func98, Tryz.ntmps98
     go_wp2_with (first
      | (go_at_call 103; refine (cK Z _ (by assumption)).mono ?_; rintro e w1 ⟨rfl, hz1⟩)
      | (go_at_call 104; refine (cV Z _ (by assumption)).mono ?_; rintro e w2 ⟨rfl, hz2⟩)
      | fail)
     go_ret;exact ⟨rfl, za hF (by assumption)⟩
set_option maxRecDepth 100000 in
set_option maxHeartbeats 4000000 in
theorem zhM (m : RM) (wm : m.wf) (w : World) : Calls Tryz.prog 88 #[mm m] w fun e w' => e = .returned (.bool (okM m)) ∧ Fr w w' := by
 have cK : ∀ Z W, Fr Z W → Calls Tryz.prog 68 #[kv m.key] W fun e w' => e = .returned (.bool (okB m.key)) ∧ Fr Z w' := fun Z W h => zfC wm.key h;have cV : ∀ Z W, Fr Z W → Calls Tryz.prog 86 #[vv m.val] W fun e w' => e = .returned (.bool (okV m.val)) ∧ Fr Z w' := fun Z W h => zju wm.val h;have hz := zoQ wm.val;have hi0 : (m.inc == 0) = decide (m.inc = 0) := rfl;have hi1 : (m.inc != 0) = !decide (m.inc = 0) := rfl;obtain ⟨Z, hZ, hF, hZZ, -, c0, -, c28, -, lK, lV⟩ := zff w m wm.val.hl;unfold okM;clear wm
 by_cases h1 : m.kind = 1
 ·simp only [h1, if_true] at c0 ⊢
  clear h1
  cases hi : decide (m.inc = 0) <;> cases hb : okB m.key <;> cases hv : okV m.val
  all_goals
   rw [hi] at hi0 hi1;rw [hb] at cK;rw [hv] at cV;clear hi hb hv;simp only [Bool.true_and, Bool.false_and, Bool.not_true, Bool.not_false] at hi1 ⊢;go_enter Tryz.func88, Tryz.ntmps88
   go_wp2_with (first
    | (go_at_call 68; refine (cK Z _ (by assumption)).mono ?_; rintro e w1 ⟨rfl, hz1⟩)
    | (go_at_call 86; refine (cV Z _ (by assumption)).mono ?_; rintro e w2 ⟨rfl, hz2⟩)
    | fail)
   go_ret;exact ⟨rfl, za hF (by assumption)⟩
 ·by_cases h2 : m.kind = 2
  ·simp only [h2, if_true, if_neg (show ¬ (2 : Int) = 1 by decide)] at c0 ⊢
   clear h1 h2
   cases hi : decide (m.inc = 0) <;> cases hb : okB m.key <;> cases hv : decide (m.val = zE)
   all_goals
    rw [hi] at hi0 hi1;rw [hb] at cK;rw [hv] at hz;clear hi hb hv;simp only [Bool.true_and, Bool.false_and, Bool.not_true, Bool.not_false] at hi1 hz ⊢;go_enter Tryz.func88, Tryz.ntmps88
    go_wp2_with (first
     | (go_at_call 68; refine (cK Z _ (by assumption)).mono ?_; rintro e w1 ⟨rfl, hz1⟩)
     | (go_at_call 86; refine (cV Z _ (by assumption)).mono ?_; rintro e w2 ⟨rfl, hz2⟩)
     | fail)
    go_ret;exact ⟨rfl, za hF (by assumption)⟩
  ·by_cases h3 : m.kind = 3
   ·simp only [h3, if_true, if_neg (show ¬ (3 : Int) = 1 by decide), if_neg (show ¬ (3 : Int) = 2 by decide)] at c0 ⊢
    clear h1 h2 h3
    cases hb : okB m.key <;> cases hv : decide (m.val = zE)
    all_goals
     rw [hb] at cK;rw [hv] at hz;clear hb hv;simp only [Bool.true_and, Bool.false_and, Bool.not_true, Bool.not_false] at hz ⊢;go_enter Tryz.func88, Tryz.ntmps88
     go_wp2_with (first
      | (go_at_call 68; refine (cK Z _ (by assumption)).mono ?_; rintro e w1 ⟨rfl, hz1⟩)
      | (go_at_call 86; refine (cV Z _ (by assumption)).mono ?_; rintro e w2 ⟨rfl, hz2⟩)
      | fail)
     go_ret;exact ⟨rfl, za hF (by assumption)⟩
   ·rw [if_neg h1, if_neg h2, if_neg h3]
    have e1 : (m.kind == 1) = false := by simpa using h1
    have e2 : (m.kind == 2) = false := by simpa using h2
    have e3 : (m.kind == 3) = false := by simpa using h3
    rcases Int.lt_or_le m.kind 1 with h | h
    ·have d1 : decide (m.kind < 1) = true := by simpa using h
     clear h1 h2 h3 h;go_enter Tryz.func88, Tryz.ntmps88
     go_wp2_with (first
      | (go_at_call 68; refine (cK Z _ (by assumption)).mono ?_; rintro e w1 ⟨rfl, hz1⟩)
      | (go_at_call 86; refine (cV Z _ (by assumption)).mono ?_; rintro e w2 ⟨rfl, hz2⟩)
      | fail)
     go_ret;exact ⟨rfl, za hF (by assumption)⟩
    ·have d1 : decide (m.kind < 1) = false := by simp; omega
     have d2 : decide (3 < m.kind) = true := by simp; omega
     clear h1 h2 h3 h;go_enter Tryz.func88, Tryz.ntmps88
     go_wp2_with (first
      | (go_at_call 68; refine (cK Z _ (by assumption)).mono ?_; rintro e w1 ⟨rfl, hz1⟩)
      | (go_at_call 86; refine (cV Z _ (by assumption)).mono ?_; rintro e w2 ⟨rfl, hz2⟩)
      | fail)
     go_ret;exact ⟨rfl, za hF (by assumption)⟩
end
end Go.Proofs.YtmjjjdikpnhpiaaGreat
