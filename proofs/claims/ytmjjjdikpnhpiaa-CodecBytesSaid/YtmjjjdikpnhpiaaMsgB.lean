/- What the functions of layer 5 come to, two: 'Bytes'. -/
import Derived.Test.YtmjjjdikpnhpiaaMsg0
import Derived.Test.YtmjjjdikpnhpiaaOwn
namespace Go.Proofs.Ytmjjjdikpnhpiaa
set_option linter.unusedVariables false
set_option linter.unusedSimpArgs false
set_option maxRecDepth 100000
open Go.RowKit
section
attribute [local go_sem ↓] zae zt zw
theorem zbp {m : RM} (h : okM m = true) : (m.kind = 1 ∨ m.kind = 2 ∨ m.kind = 3) ∧ okB m.key = true ∧ (m.kind = 1 → m.inc = 0 ∧ okV m.val = true) ∧ (m.kind = 2 → m.inc = 0) ∧ (m.kind ≠ 1 → m.val = zE) := by
 unfold okM at h
 split at h
 ·rename_i e
  simp only [Bool.and_eq_true, decide_eq_true_iff] at h;exact ⟨.inl e, h.2.1, fun _ => ⟨h.1, h.2.2⟩, fun k => by omega, fun k => absurd e k⟩
 ·split at h
  ·rename_i e
   simp only [Bool.and_eq_true, decide_eq_true_iff] at h;exact ⟨.inr (.inl e), h.2.1, fun k => by omega, fun _ => h.1, fun _ => h.2.2⟩
  ·split at h
   ·rename_i e
    simp only [Bool.and_eq_true, decide_eq_true_iff] at h;exact ⟨.inr (.inr e), h.1, fun k => by omega, fun k => by omega, fun _ => h.2⟩
   ·cases h
def zc9 (m : RM) : Int := if okM m = true then (if m.kind = 1 then 11 + m.key.n + m.val.n else if m.kind = 3 then 18 + m.key.n else 10 + m.key.n) else 0
set_option maxRecDepth 100000 in
set_option maxHeartbeats 4000000 in
theorem zou (m : RM) (wm : m.wf) (w : World) : Calls Try.prog 84 #[mm m] w fun e w' => e = .returned (.int .i64 (zc9 m)) ∧ Fr w w' := by
 have cC : ∀ Z W, Fr Z W → Calls Try.prog 82 #[mm m] W fun e w' => e = .returned (.bool (okM m)) ∧ Fr Z w' := fun Z W h => (ziY m wm W).mono fun _ _ ⟨he, hw⟩ => ⟨he, za h hw⟩;obtain ⟨Z, hZ, hF, hZZ, hA, c0, -, -, lM, -, -⟩ := zff w m wm.val.hl;have c2 := zbt hA 2 (mc_2 m);have c11 := zbt hA 11 (mc_11 m);unfold zc9
 cases ho : okM m
 ·rw [ho] at cC
  clear ho hA;rw [if_neg (by decide)];go_enter Try.func84, Try.ntmps84
  go_wp2_with (first
   | (go_at_call 82; refine (cC Z _ (by assumption)).mono ?_; rintro e w1 ⟨rfl, hz1⟩)
   | fail)
  go_ret;exact ⟨rfl, za hF (by assumption)⟩
 ·obtain ⟨hk, hkey, hp⟩ := zbp ho
  obtain ⟨n, hn, en, -⟩ := zi4 hkey;rw [ho] at cC;rw [if_pos rfl, en];rw [en] at c2;clear ho hA hkey
  rcases hk with hk | hk | hk
  ·obtain ⟨l, hl, el, -⟩ := ziC (hp.1 hk).2
   rw [hk] at c0;rw [if_pos hk, el];rw [el] at c11;clear hk hp en el;go_enter Try.func84, Try.ntmps84
   go_wp2_with (first
    | (go_at_call 82; refine (cC Z _ (by assumption)).mono ?_; rintro e w1 ⟨rfl, hz1⟩)
    | fail)
   go_ret;exact ⟨zbM (by go_num), za hF (by assumption)⟩
  ·rw [hk] at c0
   rw [if_neg (by omega), if_neg (by omega)];clear hk hp en;go_enter Try.func84, Try.ntmps84
   go_wp2_with (first
    | (go_at_call 82; refine (cC Z _ (by assumption)).mono ?_; rintro e w1 ⟨rfl, hz1⟩)
    | fail)
   go_ret;exact ⟨zbM (by go_num), za hF (by assumption)⟩
  ·rw [hk] at c0
   rw [if_neg (by omega), if_pos hk];clear hk hp en;go_enter Try.func84, Try.ntmps84
   go_wp2_with (first
    | (go_at_call 82; refine (cC Z _ (by assumption)).mono ?_; rintro e w1 ⟨rfl, hz1⟩)
    | fail)
   go_ret;exact ⟨zbM (by go_num), za hF (by assumption)⟩
set_option maxRecDepth 100000 in
set_option maxHeartbeats 4000000 in
theorem zmf (m : RM) (wm : m.wf) (w : World) : Calls Try.prog 90 #[mm m] w fun e w' => e = .returned (.int .i64 (zc9 m)) ∧ Fr w w' := by
 have cC : ∀ Z W, Fr Z W → Calls Try.prog 89 #[mm m] W fun e w' => e = .returned (.bool (okM m)) ∧ Fr Z w' := fun Z W h => (zhM m wm W).mono fun _ _ ⟨he, hw⟩ => ⟨he, za h hw⟩;obtain ⟨Z, hZ, hF, hZZ, hA, c0, -, -, lM, -, -⟩ := zff w m wm.val.hl;have c2 := zbt hA 2 (mc_2 m);have c11 := zbt hA 11 (mc_11 m);unfold zc9
 cases ho : okM m
 ·rw [ho] at cC
  clear ho hA;rw [if_neg (by decide)];go_enter Try.func90, Try.ntmps90
  go_wp2_with (first
   | (go_at_call 89; refine (cC Z _ (by assumption)).mono ?_; rintro e w1 ⟨rfl, hz1⟩)
   | fail)
  go_ret;exact ⟨rfl, za hF (by assumption)⟩
 ·obtain ⟨hk, hkey, hp⟩ := zbp ho
  obtain ⟨n, hn, en, -⟩ := zi4 hkey;rw [ho] at cC;rw [if_pos rfl, en];rw [en] at c2;clear ho hA hkey
  rcases hk with hk | hk | hk
  ·obtain ⟨l, hl, el, -⟩ := ziC (hp.1 hk).2
   rw [hk] at c0;rw [if_pos hk, el];rw [el] at c11;clear hk hp en el;go_enter Try.func90, Try.ntmps90
   go_wp2_with (first
    | (go_at_call 89; refine (cC Z _ (by assumption)).mono ?_; rintro e w1 ⟨rfl, hz1⟩)
    | fail)
   go_ret;exact ⟨zbM (by go_num), za hF (by assumption)⟩
  ·rw [hk] at c0
   rw [if_neg (by omega), if_neg (by omega)];clear hk hp en;go_enter Try.func90, Try.ntmps90
   go_wp2_with (first
    | (go_at_call 89; refine (cC Z _ (by assumption)).mono ?_; rintro e w1 ⟨rfl, hz1⟩)
    | fail)
   go_ret;exact ⟨zbM (by go_num), za hF (by assumption)⟩
  ·rw [hk] at c0
   rw [if_neg (by omega), if_pos hk];clear hk hp en;go_enter Try.func90, Try.ntmps90
   go_wp2_with (first
    | (go_at_call 89; refine (cC Z _ (by assumption)).mono ?_; rintro e w1 ⟨rfl, hz1⟩)
    | fail)
   go_ret;exact ⟨zbM (by go_num), za hF (by assumption)⟩
end
section
attribute [local go_sem ↓] zae zt zw
def za7 (a b : RM) : RM :=
 if b.kind ≠ 3 ∨ a.key ≠ b.key then b
 else if a.kind = 1 then { b with kind := 1, val := zbJ a.val b.inc, inc := 0 }
 else if a.kind = 2 then { b with kind := 1, val := zaO b.inc, inc := 0 }
 else { b with inc := IntKind.u64.wrap (a.inc + b.inc) }
theorem zdM : (mc za0).toArray = #[.int .i64 0, .int .u64 0, .int .i64 0, .int .u8 0, .int .u8 0, .int .u8 0, .int .u8 0, .int .u8 0, .int .u8 0, .int .u8 0, .int .u8 0, .int .i64 0, .int .u8 0, .int .u8 0, .int .u8 0, .int .u8 0, .int .u8 0, .int .u8 0, .int .u8 0, .int .u8 0, .int .u8 0, .int .u8 0, .int .u8 0, .int .u8 0, .int .u8 0, .int .u8 0, .int .u8 0, .int .u8 0, .int .u64 0] := rfl
end
section
attribute [local go_sem ↓] zae zt zw
end
section
attribute [local go_sem ↓] zae zt zw
def zbx (v : RV) (there : Bool) (m : RM) : RV := if m.kind = 1 then m.val else if m.kind = 2 then zE else if there = true then zbJ v m.inc else zaO m.inc
def zcy (m : RM) : Bool := decide (m.kind ≠ 2)
end
end Go.Proofs.Ytmjjjdikpnhpiaa
