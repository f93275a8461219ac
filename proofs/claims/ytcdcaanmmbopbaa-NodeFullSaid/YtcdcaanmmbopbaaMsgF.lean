/- 'awake' of layer 5. -/
import Derived.Test.YtcdcaanmmbopbaaLawA
import Derived.Deep.RegionWith
import Derived.Deep.Cut
import Derived.Deep.CutRange
import Derived.Test.YtcdcaanmmbopbaaOwn
import Derived.Deep.RegionHeld3
namespace Go.Proofs.Ytcdcaanmmbopbaa
set_option maxRecDepth 100000
open Go.RowKit
set_option linter.unusedVariables false
theorem msg_st (p v : Value) : Instr.storeAt 48 p v = stS 48 p v := rfl
attribute [local go_sem ↓] val_ld key_ld msg_ld
section
variable {W0 W : World} {a b m : RM} {v : RV}
theorem mcheck_at (wm : m.wf) (hb : Fr W0 W) : Calls Try.prog 72 #[mm m] W fun e w' => e = .returned (.bool (okM m)) ∧ Fr W0 w' := (msg_check m wm W).mono fun _ _ ⟨he, hw⟩ => ⟨he, fr_step hb hw⟩
theorem mbytes_at (wm : m.wf) (hb : Fr W0 W) : Calls Try.prog 64 #[mm m] W fun e w' => e = .returned (.int .i64 (bytM m)) ∧ Fr W0 w' := (msg_bytes m wm W).mono fun _ _ ⟨he, hw⟩ => ⟨he, fr_step hb hw⟩
theorem rmcheck_at (wm : m.wf) (hb : Fr W0 W) : Calls Try.prog 76 #[mm m] W fun e w' => e = .returned (.bool (okM m)) ∧ Fr W0 w' := (ref_mcheck m wm W).mono fun _ _ ⟨he, hw⟩ => ⟨he, fr_step hb hw⟩
theorem rmbytes_at (wm : m.wf) (hb : Fr W0 W) : Calls Try.prog 56 #[mm m] W fun e w' => e = .returned (.int .i64 (bytM m)) ∧ Fr W0 w' := (ref_mbytes m wm W).mono fun _ _ ⟨he, hw⟩ => ⟨he, fr_step hb hw⟩
theorem rmcompose_at (wa : a.wf) (wb : b.wf) (oa : okM a = true) (ob : okM b = true) (hb : Fr W0 W) : Calls Try.prog 80 #[mm a, mm b] W fun e w' => e = .returned (mm (compM a b)) ∧ Fr W0 w' := (ref_compose a b wa wb oa ob W).mono fun _ _ ⟨he, hw⟩ => ⟨he, fr_step hb hw⟩
theorem rmapply_at {there : Bool} (wv : v.wf) (ov : there = true → okV v = true) (wm : m.wf) (om : okM m = true) (hb : Fr W0 W) : Calls Try.prog 59 #[vv v, .bool there, mm m] W fun e w' => e = .returned (.tuple #[vv (appV v there m), .bool (appB m)]) ∧ Fr W0 w' := (ref_apply v there m wv ov wm om W).mono fun _ _ ⟨he, hw⟩ => ⟨he, fr_step hb hw⟩
end
theorem add_wf {k : RK} (wk : k.wf) {s i : Int} (hs : Us64 s) (hi : Us64 i) : RM.wf ⟨3, s, k, zeroV, i⟩ := ⟨by simp [Is64], hs, wk, zeroV_wf, hi⟩
theorem add_ok {k : RK} (ok : okB k = true) {s i : Int} : okM ⟨3, s, k, zeroV, i⟩ = true := by simp [okM, ok]
theorem del_wf {k : RK} (wk : k.wf) {s : Int} (hs : Us64 s) : RM.wf ⟨2, s, k, zeroV, 0⟩ := ⟨by simp [Is64], hs, wk, zeroV_wf, by simp [Us64]⟩
theorem del_ok {k : RK} (ok : okB k = true) {s : Int} : okM ⟨2, s, k, zeroV, 0⟩ = true := by simp [okM, ok]
theorem putM_wf {k : RK} (wk : k.wf) {v : RV} (wv : v.wf) {s : Int} (hs : Us64 s) : RM.wf ⟨1, s, k, v, 0⟩ := ⟨by simp [Is64], hs, wk, wv, by simp [Us64]⟩
theorem putM_ok {k : RK} (ok : okB k = true) {v : RV} (ov : okV v = true) {s : Int} : okM ⟨1, s, k, v, 0⟩ = true := by simp [okM, ok, ov]
theorem lawK_0n : (lawK 0).n = 1 := by rw [lawK_n]; rfl
section
attribute [local go_sem ↓] msg_st
end
end Go.Proofs.Ytcdcaanmmbopbaa
/- What two and three messages of one key come to. -/
namespace Go.Proofs.Ytcdcaanmmbopbaa
set_option maxRecDepth 100000
open Go.RowKit
set_option linter.unusedVariables false
section
variable {a b c : RM}
theorem comp_wf (wa : a.wf) (wb : b.wf) : (compM a b).wf := by
  unfold compM
  split
  · exact wb
  · split
    · exact ⟨by simp [Is64], wb.hs, wb.key, fromV_wf _, by simp [Us64]⟩
    · split
      · exact ⟨by simp [Is64], wb.hs, wb.key, fromV_wf _, by simp [Us64]⟩
      · exact ⟨wb.hk, wb.hs, wb.key, wb.val, wrap_u64 _⟩
theorem comp_ok (ob : okM b = true) : okM (compM a b) = true := by
  obtain ⟨_, hk, _, _, hz⟩ := okM_parts ob
  unfold compM
  split
  · exact ob
  · rename_i h
    have h3 : b.kind = 3 := by
      rcases Decidable.em (b.kind = 3) with h3 | h3
      · exact h3
      · exact absurd (.inl h3) h
    split
    · exact putM_ok hk (fromV_ok _)
    · split
      · exact putM_ok hk (fromV_ok _)
      · have hv := hz (by omega)
        simp [okM, h3, hk, hv]
theorem comp_seq : (compM a b).seq = b.seq := by
  unfold compM
  split
  · rfl
  · split
    · rfl
    · split <;> rfl
theorem comp_key : (compM a b).key = b.key := by
  unfold compM
  split
  · rfl
  · split
    · rfl
    · split <;> rfl
theorem comp_not3 (h : b.kind ≠ 3) : compM a b = b := by unfold compM; rw [if_pos (.inl h)]
theorem comp_31 (h : b.kind = 3) (hk : a.key = b.key) (h1 : a.kind = 1) : compM a b = { b with kind := 1, val := plusV a.val b.inc, inc := 0 } := by
  unfold compM; rw [if_neg (by simp [h, hk]), if_pos h1]
theorem comp_32 (h : b.kind = 3) (hk : a.key = b.key) (h1 : a.kind = 2) : compM a b = { b with kind := 1, val := fromV b.inc, inc := 0 } := by
  unfold compM; rw [if_neg (by simp [h, hk]), if_neg (by omega), if_pos h1]
theorem comp_33 (h : b.kind = 3) (hk : a.key = b.key) (h1 : a.kind = 3) : compM a b = { b with inc := IntKind.u64.wrap (a.inc + b.inc) } := by
  unfold compM; rw [if_neg (by simp [h, hk]), if_neg (by omega), if_neg (by omega)]
theorem wrap_sum (x y z : Int) : IntKind.u64.wrap (IntKind.u64.wrap (x + y) + z) = IntKind.u64.wrap (x + IntKind.u64.wrap (y + z)) := by
  simp only [u64_of]; omega
theorem plus_of (n k : Int) (h : Us64 n) : plusV (fromV n) k = fromV (IntKind.u64.wrap (n + k)) := plus_from h.1 h.2
/-- Composed it does what both do. -/
theorem app_app (oa : okM a = true) (ob : okM b = true) (hk : a.key = b.key) (wa : a.wf) (v : RV) (t : Bool) :
    appV (appV v t a) (appB a) b = appV v t (compM a b) ∧ appB b = appB (compM a b) := by
  obtain ⟨ka, -, -, -, -⟩ := okM_parts oa
  obtain ⟨kb, -, -, -, -⟩ := okM_parts ob
  rcases kb with kb | kb | kb
  · rw [comp_not3 (by omega)]
    simp [appV, kb]
  · rw [comp_not3 (by omega)]
    simp [appV, kb]
  · rcases ka with ka | ka | ka
    · rw [comp_31 kb hk ka]
      simp [appV, appB, ka, kb]
    · rw [comp_32 kb hk ka]
      simp [appV, appB, ka, kb]
    · rw [comp_33 kb hk ka]
      have e : appB a = true := by simp [appB, ka]
      rw [e]
      simp only [appV, appB, ka, kb]
      cases t
      · simp [plus_of _ _ wa.hi]
      · simp [plus_plus]
theorem comp_comp (oa : okM a = true) (ob : okM b = true) (hb : a.key = b.key) (hc : a.key = c.key) (wb : b.wf) : compM (compM a b) c = compM a (compM b c) := by
  obtain ⟨ka, -, -, -, -⟩ := okM_parts oa
  obtain ⟨kb, -, -, -, -⟩ := okM_parts ob
  have hbc : b.key = c.key := hb.symm.trans hc
  rcases Decidable.em (c.kind = 3) with kc | kc
  · have hk1 : (compM a b).key = c.key := comp_key.trans hbc
    rcases kb with kb | kb | kb
    · rw [comp_not3 (b := b) (by omega), comp_31 kc hbc kb]
      rw [comp_not3 (a := a)]
      simp
    · rw [comp_not3 (b := b) (by omega), comp_32 kc hbc kb]
      rw [comp_not3 (a := a)]
      simp
    · rw [comp_33 kc hbc kb]
      rcases ka with ka | ka | ka
      · rw [comp_31 kb hb ka, comp_31 (a := { b with kind := 1, val := plusV a.val b.inc, inc := 0 }) kc hbc rfl, comp_31 (b := { c with inc := IntKind.u64.wrap (b.inc + c.inc) }) kc hc ka]
        simp [plus_plus]
      · rw [comp_32 kb hb ka, comp_31 (a := { b with kind := 1, val := fromV b.inc, inc := 0 }) kc hbc rfl, comp_32 (b := { c with inc := IntKind.u64.wrap (b.inc + c.inc) }) kc hc ka]
        simp [plus_of _ _ wb.hi]
      · rw [comp_33 kb hb ka, comp_33 (a := { b with inc := IntKind.u64.wrap (a.inc + b.inc) }) kc hbc kb, comp_33 (b := { c with inc := IntKind.u64.wrap (b.inc + c.inc) }) kc hc ka]
        simp [wrap_sum]
  · rw [comp_not3 kc, comp_not3 kc, comp_not3 kc]
end
/-- With another key of its own. -/
def withK (m : RM) (k : RK) : RM := { m with key := k }
theorem withK_wf {m : RM} {k : RK} (wm : m.wf) (wk : k.wf) : (withK m k).wf := ⟨wm.hk, wm.hs, wk, wm.val, wm.hi⟩
theorem withK_ok {m : RM} {k : RK} (om : okM m = true) (ok : okB k = true) : okM (withK m k) = true := by
  obtain ⟨kk, hk, h1, h2, h3⟩ := okM_parts om
  rcases kk with kk | kk | kk
  · have := h1 kk; simp [okM, withK, kk, ok, this]
  · have := h2 kk; have := h3 (by omega); simp [okM, withK, *]
  · have := h3 (by omega); simp [okM, withK, *]
theorem okM_key {m : RM} (om : okM m = true) : okB m.key = true := (okM_parts om).2.1
end Go.Proofs.Ytcdcaanmmbopbaa
/- MsgTwice, walked. -/
namespace Go.Proofs.Ytcdcaanmmbopbaa
set_option maxRecDepth 100000
open Go.RowKit
set_option linter.unusedVariables false
attribute [local go_sem ↓] val_ld key_ld msg_ld
theorem val_st (p v : Value) : Instr.storeAt 43 p v = stS 43 p v := rfl
theorem appV_wf {v : RV} {t : Bool} {m : RM} (wv : v.wf) (wm : m.wf) : (appV v t m).wf := by
  unfold appV
  split
  · exact wm.val
  · split
    · exact zeroV_wf
    · split
      · exact fromV_wf _
      · exact fromV_wf _
theorem appV_ok {v : RV} {t : Bool} {m : RM} (om : okM m = true) : okV (appV v t m) = true := by
  obtain ⟨_, _, h1, _, _⟩ := okM_parts om
  unfold appV
  split
  · rename_i h
    exact (h1 h).2
  · split
    · decide
    · split
      · exact fromV_ok _
      · exact fromV_ok _
theorem bool_self (b : Bool) : (b == b) = true := by simp
section
attribute [local go_sem ↓] val_st
end
end Go.Proofs.Ytcdcaanmmbopbaa
/- MsgThree, walked. -/
namespace Go.Proofs.Ytcdcaanmmbopbaa
set_option maxRecDepth 100000
open Go.RowKit
set_option linter.unusedVariables false
attribute [local go_sem ↓] val_ld key_ld msg_ld
theorem key_st (p v : Value) : Instr.storeAt 40 p v = stS 40 p v := rfl
theorem st_sub {P : Program} {T n g off T' : Nat} {w : World} (hi : (P.info? T).map (·.size) = some n) {ds : List Value} (hl : ds.length = n) (h1 : One ds) {cs cs' : List Value} (ha : Arr w g T' cs.toArray) (hf : off + n ≤ cs.length) (hc : splice cs off ds = cs') : (stS T (.pointer (some ⟨g, off, none⟩)) (.agg ds.toArray)).run P w = .ok () (w.setRow g cs'.toArray) := by
  simp only [stS, Instr.storeAt, Instr.sureAddr, Sem.run_bind, Sem.run_pure, Result.andThen_ok]
  rw [run_store_at (v := .agg ds.toArray) (ds := ds) hi rfl hl h1 ha hf, hc]
theorem key_self {k : RK} (wk : k.wf) (W : World) : (binOp .eql 40 (.agg (kc k).toArray) (.agg (kc k).toArray)).run Try.prog W = .ok (.bool true) W := by
  have h := key_eql wk wk W
  rwa [decide_eq_true rfl] at h
theorem lawM_seq (v s : Int) : (lawM v s).seq = ((pl s : Nat) : Int) := rfl
section
attribute [local go_sem ↓] msg_st key_st
end
end Go.Proofs.Ytcdcaanmmbopbaa
/- MsgOver, walked. -/
namespace Go.Proofs.Ytcdcaanmmbopbaa
set_option maxRecDepth 100000
open Go.RowKit
set_option linter.unusedVariables false
attribute [local go_sem ↓] val_ld key_ld msg_ld
theorem comp_kind3 {a b : RM} (h : b.kind = 3) (hk : a.key = b.key) (h1 : a.kind = 3) : (compM a b).kind = 3 := by rw [comp_33 h hk h1]; exact h
theorem comp_kind1 {a b : RM} (oa : okM a = true) (h : b.kind = 3) (hk : a.key = b.key) (h1 : a.kind ≠ 3) : (compM a b).kind = 1 := by
  rcases (okM_parts oa).1 with h2 | h2 | h2
  · rw [comp_31 h hk h2]
  · rw [comp_32 h hk h2]
  · exact absurd h2 h1
theorem comp_other {a b : RM} (hk : a.key ≠ b.key) : compM a b = b := by unfold compM; rw [if_pos (.inr hk)]
theorem key_nself {k : RK} (wk : k.wf) (W : World) : (binOp .neq 40 (.agg (kc k).toArray) (.agg (kc k).toArray)).run Try.prog W = .ok (.bool false) W := by
  have h := key_neq wk wk W
  rwa [decide_eq_true rfl] at h
theorem key_ndiff {a b : RK} (wa : a.wf) (wb : b.wf) (h : a ≠ b) (W : World) : (binOp .neq 40 (.agg (kc a).toArray) (.agg (kc b).toArray)).run Try.prog W = .ok (.bool true) W := by
  have h' := key_neq wa wb W
  rwa [decide_eq_false h] at h'
end Go.Proofs.Ytcdcaanmmbopbaa
/- MsgSizes, walked. -/
namespace Go.Proofs.Ytcdcaanmmbopbaa
set_option maxRecDepth 100000
open Go.RowKit
set_option linter.unusedVariables false
attribute [local go_sem ↓] val_ld key_ld msg_ld
theorem max_three {P : Program} (n m k : Int) : ∃ M, (∀ (ts : Array TypeId) (t : TypeId) (w : World), (Builtin.max_ ts t #[.int .i64 n, .int .i64 m, .int .i64 k]).run P w = .ok (.int .i64 M) w) ∧ n ≤ M ∧ m ≤ M ∧ k ≤ M := by
  refine ⟨max (max n m) k, fun ts t w => ?_, by omega, by omega, by omega⟩
  simp only [Builtin.max_, Builtin.max2, List.foldlM, Sem.run_bind, Sem.run_pure, Result.andThen_ok]
  congr 2
  split <;> split <;> omega
/-- One byte more, where there is room: a 0. -/
def moreK (k : RK) : RK := { k with n := k.n + 1 }
theorem moreK_at (k : RK) (t : Nat) : (moreK k).at t = k.at t := by
  rcases t with _|_|_|_|_|_|_|_|t <;> rfl
theorem moreK_ok {k : RK} {a : Nat} (ok : okB k = true) (hn : k.n = a) (ha : a < 8) : okB (moreK k) = true := by
  have hm : (moreK k).n = ((a + 1 : Nat) : Int) := by show k.n + 1 = _; omega
  rw [okB_in (m := a + 1) (by omega) hm, decide_eq_true_iff]
  rw [okB_in (m := a) (by omega) hn, decide_eq_true_iff] at ok
  refine (first_iff _ _ (by omega) hm).2 fun t h1 h2 => ?_
  rw [moreK_at]
  exact (first_iff _ _ (by omega) hn).1 ok t (by omega) h2
theorem moreK_wf {k : RK} (wk : k.wf) (h : k.n < 8) : (moreK k).wf := by
  have := wk.hn
  exact ⟨by show _ ∧ _; unfold moreK; simp only; omega, wk.h0, wk.h1, wk.h2, wk.h3, wk.h4, wk.h5, wk.h6, wk.h7⟩
theorem bytM_of {m : RM} (om : okM m = true) : bytM m = if m.kind = 1 then 11 + m.key.n + m.val.n else if m.kind = 3 then 18 + m.key.n else 10 + m.key.n := by rw [bytM, if_pos om]
theorem key_bd {k : RK} (ok : okB k = true) : 0 ≤ k.n ∧ k.n ≤ 8 := by
  obtain ⟨a, h1, h2, _⟩ := okB_n ok
  omega
theorem bytM_bd {m : RM} (om : okM m = true) : 10 ≤ bytM m ∧ bytM m ≤ 35 := by
  have hk := key_bd (okM_key om)
  rw [bytM_of om]
  split
  · rename_i h
    obtain ⟨l, h1, h2, _⟩ := okV_n ((okM_parts om).2.2.1 h).2
    omega
  · split <;> omega
theorem bytM_more {m : RM} (om : okM m = true) (h : m.key.n < 8) : bytM (withK m (moreK m.key)) = bytM m + 1 := by
  obtain ⟨a, h1, h2, _⟩ := okB_n (okM_key om)
  have o2 := withK_ok om (moreK_ok (okM_key om) h2 (by omega))
  rw [bytM_of om, bytM_of o2]
  show (if m.kind = 1 then 11 + (m.key.n + 1) + m.val.n else if m.kind = 3 then 18 + (m.key.n + 1) else 10 + (m.key.n + 1)) = _
  split
  · omega
  · split <;> omega
theorem bytM_comp {a b : RM} (oa : okM a = true) (ob : okM b = true) (hk : a.key = b.key) : bytM (compM a b) ≤ bytM b ∨ bytM (compM a b) ≤ 19 + a.key.n := by
  have oc := comp_ok (a := a) ob
  rcases Decidable.em (b.kind = 3) with h3 | h3
  · rcases (okM_parts oa).1 with ka | ka | ka
    · refine .inr ?_
      rw [bytM_of oc, if_pos (comp_kind1 oa h3 hk (by omega)), comp_key, comp_31 h3 hk ka, hk]
      show 11 + b.key.n + (plusV a.val b.inc).n ≤ _
      have : (plusV a.val b.inc).n = 8 := rfl
      omega
    · refine .inr ?_
      rw [bytM_of oc, if_pos (comp_kind1 oa h3 hk (by omega)), comp_key, comp_32 h3 hk ka, hk]
      show 11 + b.key.n + (fromV b.inc).n ≤ _
      have : (fromV b.inc).n = 8 := rfl
      omega
    · refine .inl ?_
      rw [bytM_of oc, bytM_of ob, if_neg (by rw [comp_kind3 h3 hk ka]; omega), if_pos (comp_kind3 h3 hk ka), comp_key, if_neg (by omega), if_pos h3]
      omega
  · rw [comp_not3 h3]
    exact .inl (by omega)
section
attribute [local go_sem ↓] msg_st
end
end Go.Proofs.Ytcdcaanmmbopbaa
