/- What the functions of layer 5 come to, two: 'Bytes'. -/
import Derived.Test.YtnfoebcfhldemaaMsgA
import Derived.Test.YtnfoebcfhldemaaOwn
namespace Go.Proofs.Ytnfoebcfhldemaa
set_option maxRecDepth 100000
open Go.RowKit
set_option linter.unusedVariables false
attribute [local go_sem ↓] val_ld key_ld msg_ld
theorem okM_parts {m : RM} (h : okM m = true) : (m.kind = 1 ∨ m.kind = 2 ∨ m.kind = 3) ∧ okB m.key = true ∧ (m.kind = 1 → m.inc = 0 ∧ okV m.val = true) ∧ (m.kind = 2 → m.inc = 0) ∧ (m.kind ≠ 1 → m.val = zeroV) := by
  unfold okM at h
  split at h
  · rename_i e
    simp only [Bool.and_eq_true, decide_eq_true_iff] at h
    exact ⟨.inl e, h.2.1, fun _ => ⟨h.1, h.2.2⟩, fun k => by omega, fun k => absurd e k⟩
  · split at h
    · rename_i e
      simp only [Bool.and_eq_true, decide_eq_true_iff] at h
      exact ⟨.inr (.inl e), h.2.1, fun k => by omega, fun _ => h.1, fun _ => h.2.2⟩
    · split at h
      · rename_i e
        simp only [Bool.and_eq_true, decide_eq_true_iff] at h
        exact ⟨.inr (.inr e), h.1, fun k => by omega, fun k => by omega, fun _ => h.2⟩
      · cases h
/-- The bytes of a message. -/
def bytM (m : RM) : Int := if okM m = true then (if m.kind = 1 then 11 + m.key.n + m.val.n else if m.kind = 3 then 18 + m.key.n else 10 + m.key.n) else 0
set_option maxRecDepth 100000 in
set_option maxHeartbeats 4000000 in
theorem msg_bytes (m : RM) (wm : m.wf) (w : World) : Calls Try.prog 55 #[mm m] w fun e w' => e = .returned (.int .i64 (bytM m)) ∧ Fr w w' := by
  have cC : ∀ Z W, Fr Z W → Calls Try.prog 52 #[mm m] W fun e w' => e = .returned (.bool (okM m)) ∧ Fr Z w' := fun Z W h => (msg_check m wm W).mono fun _ _ ⟨he, hw⟩ => ⟨he, fr_step h hw⟩
  obtain ⟨Z, hZ, hF, hZZ, hA, c0, -, -, lM, -, -⟩ := msg_boxed w m wm.val.hl
  have c2 := cellZ hA 2 (mc_2 m)
  have c11 := cellZ hA 11 (mc_11 m)
  unfold bytM
  cases ho : okM m
  · rw [ho] at cC
    clear ho hA
    rw [if_neg (by decide)]
    go_enter Try.func55, Try.ntmps55
    go_wp2_with (first
      | (go_at_call 52; refine (cC Z _ (by assumption)).mono ?_; rintro e w1 ⟨rfl, hz1⟩)
      | fail)
    go_ret
    exact ⟨rfl, fr_step hF (by assumption)⟩
  · obtain ⟨hk, hkey, hp⟩ := okM_parts ho
    obtain ⟨n, hn, en, -⟩ := okB_n hkey
    rw [ho] at cC
    rw [if_pos rfl, en]
    rw [en] at c2
    clear ho hA hkey
    rcases hk with hk | hk | hk
    · obtain ⟨l, hl, el, -⟩ := okV_n (hp.1 hk).2
      rw [hk] at c0
      rw [if_pos hk, el]
      rw [el] at c11
      clear hk hp en el
      go_enter Try.func55, Try.ntmps55
      go_wp2_with (first
        | (go_at_call 52; refine (cC Z _ (by assumption)).mono ?_; rintro e w1 ⟨rfl, hz1⟩)
        | fail)
      go_ret
      exact ⟨ret_int (by go_num), fr_step hF (by assumption)⟩
    · rw [hk] at c0
      rw [if_neg (by omega), if_neg (by omega)]
      clear hk hp en
      go_enter Try.func55, Try.ntmps55
      go_wp2_with (first
        | (go_at_call 52; refine (cC Z _ (by assumption)).mono ?_; rintro e w1 ⟨rfl, hz1⟩)
        | fail)
      go_ret
      exact ⟨ret_int (by go_num), fr_step hF (by assumption)⟩
    · rw [hk] at c0
      rw [if_neg (by omega), if_pos hk]
      clear hk hp en
      go_enter Try.func55, Try.ntmps55
      go_wp2_with (first
        | (go_at_call 52; refine (cC Z _ (by assumption)).mono ?_; rintro e w1 ⟨rfl, hz1⟩)
        | fail)
      go_ret
      exact ⟨ret_int (by go_num), fr_step hF (by assumption)⟩
set_option maxRecDepth 100000 in
set_option maxHeartbeats 4000000 in
theorem ref_mbytes (m : RM) (wm : m.wf) (w : World) : Calls Try.prog 56 #[mm m] w fun e w' => e = .returned (.int .i64 (bytM m)) ∧ Fr w w' := by
  have cC : ∀ Z W, Fr Z W → Calls Try.prog 54 #[mm m] W fun e w' => e = .returned (.bool (okM m)) ∧ Fr Z w' := fun Z W h => (ref_mcheck m wm W).mono fun _ _ ⟨he, hw⟩ => ⟨he, fr_step h hw⟩
  obtain ⟨Z, hZ, hF, hZZ, hA, c0, -, -, lM, -, -⟩ := msg_boxed w m wm.val.hl
  have c2 := cellZ hA 2 (mc_2 m)
  have c11 := cellZ hA 11 (mc_11 m)
  unfold bytM
  cases ho : okM m
  · rw [ho] at cC
    clear ho hA
    rw [if_neg (by decide)]
    go_enter Try.func56, Try.ntmps56
    go_wp2_with (first
      | (go_at_call 54; refine (cC Z _ (by assumption)).mono ?_; rintro e w1 ⟨rfl, hz1⟩)
      | fail)
    go_ret
    exact ⟨rfl, fr_step hF (by assumption)⟩
  · obtain ⟨hk, hkey, hp⟩ := okM_parts ho
    obtain ⟨n, hn, en, -⟩ := okB_n hkey
    rw [ho] at cC
    rw [if_pos rfl, en]
    rw [en] at c2
    clear ho hA hkey
    rcases hk with hk | hk | hk
    · obtain ⟨l, hl, el, -⟩ := okV_n (hp.1 hk).2
      rw [hk] at c0
      rw [if_pos hk, el]
      rw [el] at c11
      clear hk hp en el
      go_enter Try.func56, Try.ntmps56
      go_wp2_with (first
        | (go_at_call 54; refine (cC Z _ (by assumption)).mono ?_; rintro e w1 ⟨rfl, hz1⟩)
        | fail)
      go_ret
      exact ⟨ret_int (by go_num), fr_step hF (by assumption)⟩
    · rw [hk] at c0
      rw [if_neg (by omega), if_neg (by omega)]
      clear hk hp en
      go_enter Try.func56, Try.ntmps56
      go_wp2_with (first
        | (go_at_call 54; refine (cC Z _ (by assumption)).mono ?_; rintro e w1 ⟨rfl, hz1⟩)
        | fail)
      go_ret
      exact ⟨ret_int (by go_num), fr_step hF (by assumption)⟩
    · rw [hk] at c0
      rw [if_neg (by omega), if_pos hk]
      clear hk hp en
      go_enter Try.func56, Try.ntmps56
      go_wp2_with (first
        | (go_at_call 54; refine (cC Z _ (by assumption)).mono ?_; rintro e w1 ⟨rfl, hz1⟩)
        | fail)
      go_ret
      exact ⟨ret_int (by go_num), fr_step hF (by assumption)⟩
end Go.Proofs.Ytnfoebcfhldemaa
