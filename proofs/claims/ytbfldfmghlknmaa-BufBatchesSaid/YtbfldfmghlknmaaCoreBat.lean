/- 'same' of layer 6; BufBatches, walked. -/
import Derived.Test.YtbfldfmghlknmaaBufT
namespace Go.Proofs.Ytbfldfmghlknmaa
set_option maxRecDepth 100000
open Go.RowKit
set_option linter.unusedVariables false
attribute [local go_sem ↓] key_ld msg_ld msg_st
theorem same_at {W0 w : World} {A A2 : Option Addr} {n c B n2 c2 B2 : Nat} {l l2 : List RM} (hl : Has w B A (rows mc l)) (hB : B ≤ w.heap.size) (hn : l.length = n) (hsm : n ≤ 100000) (wl : WfM l) (hl2 : Has w B2 A2 (rows mc l2)) (hB2 : B2 ≤ w.heap.size) (hn2 : l2.length = n2) (hsm2 : n2 ≤ 100000) (wl2 : WfM l2) (h0 : Fr W0 w) :
    Calls Try.prog 20 #[.slice A n c, .slice A2 n2 c2] w fun e w' => e = .returned (.bool (decide (l = l2))) ∧ Fr W0 w' := by
  have cS := ref_same (c := c) (c2 := c2) hl hB hn hsm wl hl2 hB2 hn2 hsm2 wl2
  generalize decide (l = l2) = q at *
  clear hl hl2 hn hn2
  go_enter Try.func20, Try.ntmps20
  go_wp2_with (first
    | (go_at_call 47; refine cS.mono ?_; rintro e w1 ⟨rfl, hz⟩)
    | fail)
  go_ret
  exact ⟨rfl, fr_step h0 hz⟩
theorem min_two {P : Program} (n m : Int) : ∃ M, (∀ (ts : Array TypeId) (t : TypeId) (w : World), (Builtin.min_ ts t #[.int .i64 n, .int .i64 m]).run P w = .ok (.int .i64 M) w) ∧ M = min n m := by
  refine ⟨min n m, fun ts t w => ?_, rfl⟩
  simp only [Builtin.min_, Builtin.min2, List.foldlM, Sem.run_bind, Sem.run_pure, Result.andThen_ok]
  congr 2
  split <;> omega
set_option maxHeartbeats 2000000 in
theorem bufBatches_core {w : World} {A0 : Option Addr} {n0 c0 : Nat} {ns : List Int} (hl0 : Has w w.heap.size A0 (ns.map (Value.int .i64))) (hn0 : ns.length = n0) (hns : ∀ z ∈ ns, Is64 z) (hnm : n0 ≤ maxLen) :
    Calls Try.prog 7 #[.slice A0 n0 c0] w fun e w' => e = .returned (.bool true) ∧ Below w.heap.size w w' := by
  have cM := law_msgs (c := c0) (most := 2000) hl0 (Nat.le_refl _) hn0 hns (by omega) hnm
  have ol := msgsL_ok ns 2000
  have hlen := msgsL_len ns 2000
  generalize msgsL ns 2000 = l at *
  clear hl0 hn0 hns
  obtain ⟨n, hn⟩ : ∃ n, l.length = n := ⟨_, rfl⟩
  rw [hn] at cM hlen
  have Hol := keep ol
  have Hn := keep hn
  clear ol hn
  go_enter Try.func7, Try.ntmps7
  go_wp2_with (first
    | (go_at_call 10; refine cM.mono ?_; rintro e w1 ⟨A, c, rfl, ho, hz1⟩
       have Ho := keep ho
       clear ho cM)
    | fail)
  have ho := Ho.out
  have ol := Hol.out
  have hn := Hn.out
  have wl := ol.good.wfm
  have hnc : n ≤ c := by have := ho.cap; rwa [hn] at this
  have hH := ho.has
  have hk := batC_le 0 l
  rw [hn] at hk
  have h96 := batC_sum 0 l (by omega)
  have hmore := batC_more 0 l
  have htwo := batC_two ol.good
  rw [hn] at hmore htwo
  have hless := less_take ol (batC 0 l)
  have cB := batch_at (c := c) hH (Nat.le_refl _) hn hnc (by omega) wl
  generalize batC 0 l = k at *
  have q1 := msgs_slice_hi A n c k (by omega)
  have q2 := msgs_slice_lo A n c k hk
  have tk : ∀ j, (l.take j).length = min j n := fun j => by rw [List.length_take, hn]
  have wt : ∀ j, WfM (l.take j) := fun j m hm => wl m (List.mem_of_mem_take hm)
  have wd : WfM (l.drop k) := fun m hm => wl m (List.mem_of_mem_drop hm)
  have hHt : ∀ j, Has w1 w1.heap.size A (rows mc (l.take j)) := fun j => has_rows_take hH wl.wid j
  have hHd : Has w1 w1.heap.size (lowM A c k) (rows mc (l.drop k)) := by
    by_cases he : l.drop k = []
    · rw [he, rows_nil]; exact Has.nil
    · have hkn : k < n := by
        rcases Nat.lt_or_ge k n with h | h
        · exact h
        · exact absurd (List.drop_eq_nil_of_le (by omega)) he
      obtain ⟨b, off, e, hb, hr⟩ := has_rows hH wl.wid (by decide) (by intro e; rw [e] at hn; simp at hn; omega)
      subst e
      rw [lowM_some (by omega)]
      exact has_rows_drop hH wl.wid k
  have cS1 : ∀ W, Fr w1 W → Calls Try.prog 20 #[.slice A k k, .slice A k c] W fun e w' => e = .returned (.bool true) ∧ Fr w1 w' := fun W hW => by
    have := same_at (W0 := w1) (c := k) (c2 := c) (n := k) (n2 := k) ((hHt k).fr (Nat.le_refl _) hW) hW.size (by rw [tk]; omega) (by omega) (wt k) ((hHt k).fr (Nat.le_refl _) hW) hW.size (by rw [tk]; omega) (by omega) (wt k) hW
    rwa [decide_eq_true rfl] at this
  have cY1 : ∀ W, Fr w1 W → Calls Try.prog 19 #[.slice A k k] W fun e w' => e = .returned (.int .i64 (bytL (l.take k))) ∧ Fr w1 w' := fun W hW =>
    (ref_bytes (c := k) ((hHt k).fr (Nat.le_refl _) hW) hW.size (by rw [tk]; omega) (by omega) (wt k)).mono fun e w' ⟨h1, h2⟩ => ⟨h1, fr_step hW h2⟩
  have cL : ∀ W, Fr w1 W → Calls Try.prog 29 #[.slice A n c, .slice A k k] W fun e w' => ∃ A' c', e = .returned (.slice A' (n - k) c') ∧ Hid (OwnM w' w1.heap.size A' c' (l.drop k)) ∧ Fr w1 w' := fun W hW =>
    (less_at (c := c) (c2 := k) (hH.fr (Nat.le_refl _) hW) hW.size hn (by omega) wl ((hHt k).fr (Nat.le_refl _) hW) hW.size (by rw [tk]; omega) (by omega) (wt k)).mono fun e w' h => by
      obtain ⟨A', c', e1, h1, h2⟩ := h
      rw [hless, List.length_drop, hn] at e1
      rw [hless] at h1
      exact ⟨A', c', e1, keep (h1.mono hW.size), fr_step hW h2⟩
  have cS2 : ∀ W A' c', Hid (OwnM W w1.heap.size A' c' (l.drop k)) → Fr w1 W → Calls Try.prog 20 #[.slice A' (n - k) c', .slice (lowM A c k) (n - k) (c - k)] W fun e w' => e = .returned (.bool true) ∧ Fr w1 w' := fun W A' c' ho hW => by
    have hd : (l.drop k).length = n - k := by rw [List.length_drop, hn]
    have := same_at (W0 := w1) (c := c') (c2 := c - k) ho.out.has (Nat.le_refl _) hd (by omega) wd (hHd.fr (Nat.le_refl _) hW) hW.size hd (by omega) wd hW
    rwa [decide_eq_true rfl] at this
  have cW := fun W h => awake6_at (W0 := w1) (W := W) h
  obtain ⟨M, hmin, hM⟩ := min_two (P := Try.prog) 2 (n : Int)
  have d1 : ¬ (n : Int) < (k : Int) := by omega
  have d2 : ¬ (96 : Int) < bytL (l.take k) := by omega
  have d3 : ¬ (k : Int) < M := by omega
  have h11 := fr_refl w1
  by_cases hkn : k < n
  · have d4 : (k : Int) < (n : Int) := by omega
    have q3 := msgs_slice_hi A n c (k + 1) (by omega)
    rw [Int.natCast_succ] at q3
    have h97 := hmore hkn
    rw [Int.zero_add] at h97
    have cY2 : ∀ W, Fr w1 W → Calls Try.prog 19 #[.slice A (k + 1) c] W fun e w' => e = .returned (.int .i64 (bytL (l.take (k + 1)))) ∧ Fr w1 w' := fun W hW =>
      (ref_bytes (c := c) ((hHt (k + 1)).fr (Nat.le_refl _) hW) hW.size (by rw [tk]; omega) (by omega) (wt (k + 1))).mono fun e w' ⟨h1, h2⟩ => ⟨h1, fr_step hW h2⟩
    generalize bytL (l.take k) = y1 at *
    generalize bytL (l.take (k + 1)) = y2 at *
    have d5 : ¬ y2 ≤ 96 := by omega
    clear ho ol hn wl hH h96 hmore htwo hless tk wt wd hHt hHd hM h97
    generalize lowM A c k = A3 at *
    go_wp2_with (first
      | (go_at_call 27; (with_reducible refine cB.mono ?_); rintro e v1 ⟨rfl, hv1⟩)
      | (go_at_call 20; (with_reducible refine (cS1 _ (by assumption)).mono ?_); rintro e v2 ⟨rfl, hv2⟩)
      | (go_at_call 19; (with_reducible refine (cY1 _ (by assumption)).mono ?_); rintro e v3 ⟨rfl, hv3⟩)
      | (go_at_call 19; (with_reducible refine (cY2 _ (by assumption)).mono ?_); rintro e v4 ⟨rfl, hv4⟩; have hv4d := fr_drew hv4)
      | fail)
    go_region_with (first
      | (go_at_call 29; (with_reducible refine (cL _ (by assumption)).mono ?_); rintro e v5 ⟨A5, c5, rfl, ho5, hv5⟩)
      | (go_at_call 20; (with_reducible refine (cS2 _ _ _ (by assumption) (by assumption)).mono ?_); rintro e v6 ⟨rfl, hv6⟩)
      | (go_at_call 31; (with_reducible refine (cW _ (by assumption)).mono ?_); rintro e v7 ⟨rfl, hv7⟩))
    all_goals
      go_wp2_with fail
      go_ret
      exact ⟨rfl, fr_step hz1 hv7⟩
  · have d4 : ¬ (k : Int) < (n : Int) := by omega
    generalize bytL (l.take k) = y1 at *
    clear ho ol hn wl hH h96 hmore htwo hless tk wt wd hHt hHd hM
    generalize lowM A c k = A3 at *
    go_wp2_with (first
      | (go_at_call 27; (with_reducible refine cB.mono ?_); rintro e v1 ⟨rfl, hv1⟩)
      | (go_at_call 20; (with_reducible refine (cS1 _ (by assumption)).mono ?_); rintro e v2 ⟨rfl, hv2⟩)
      | (go_at_call 19; (with_reducible refine (cY1 _ (by assumption)).mono ?_); rintro e v3 ⟨rfl, hv3⟩; have hv3d := fr_drew hv3)
      | fail)
    go_region_with (first
      | (go_at_call 29; (with_reducible refine (cL _ (by assumption)).mono ?_); rintro e v5 ⟨A5, c5, rfl, ho5, hv5⟩)
      | (go_at_call 20; (with_reducible refine (cS2 _ _ _ (by assumption) (by assumption)).mono ?_); rintro e v6 ⟨rfl, hv6⟩)
      | (go_at_call 31; (with_reducible refine (cW _ (by assumption)).mono ?_); rintro e v7 ⟨rfl, hv7⟩))
    all_goals
      go_wp2_with fail
      go_ret
      exact ⟨rfl, fr_step hz1 hv7⟩
end Go.Proofs.Ytbfldfmghlknmaa
