/- Buffers in memory, twelve: 'Check', of both. -/
import Derived.Test.YtcdcaanmmbopbaaBufG
namespace Go.Proofs.Ytcdcaanmmbopbaa
set_option maxRecDepth 100000
open Go.RowKit
set_option linter.unusedVariables false
attribute [local go_sem ↓] key_ld msg_ld msg_st
theorem okL_step {l : List RM} {j : Nat} {m : RM} (h : OkL (l.take j)) (hm : l[j]? = some m) (wm : m.wf) (om : okM m = true) (hp : j = 0 ∨ ∃ p, l[j - 1]? = some p ∧ cd p < cd m) : OkL (l.take (j + 1)) := by
  rw [take_one hm]
  refine ⟨fun x hx => ?_, List.pairwise_append.2 ⟨h.asc, List.pairwise_singleton _ _, fun x hx y hy => ?_⟩⟩
  · rcases List.mem_append.1 hx with hx | hx
    · exact h.good x hx
    · simp at hx; subst hx; exact ⟨wm, om⟩
  · simp at hy
    subst hy
    rcases hp with rfl | ⟨p, hp, hlt⟩
    · simp at hx
    · obtain ⟨t, ht, e⟩ := List.mem_iff_getElem.1 hx
      have hj := (List.getElem?_eq_some_iff.1 hm).1
      have htl : t < j := by rw [List.length_take] at ht; omega
      have hp' : (l.take j)[j - 1]? = some p := by rw [List.getElem?_take, if_pos (by omega)]; exact hp
      obtain ⟨hj1, e1⟩ := List.getElem?_eq_some_iff.1 hp'
      rcases Nat.lt_or_ge t (j - 1) with h1 | h1
      · have := List.pairwise_iff_getElem.1 h.asc t (j - 1) ht hj1 h1
        rw [e, e1] at this
        omega
      · have : t = j - 1 := by omega
        subst this
        rw [e1] at e
        subst e
        exact hlt
theorem okL_bad1 {l : List RM} {j : Nat} {m : RM} (hm : l[j]? = some m) (om : okM m = false) : ¬ OkL l := fun h => by
  have := (h.good m (mem_at hm)).2
  rw [om] at this
  cases this
theorem okL_bad2 {l : List RM} {j : Nat} {m p : RM} (hj : 0 < j) (hm : l[j]? = some m) (hp : l[j - 1]? = some p) (hn : ¬ cd p < cd m) : ¬ OkL l := fun h => by
  obtain ⟨h1, e1⟩ := List.getElem?_eq_some_iff.1 hm
  obtain ⟨h2, e2⟩ := List.getElem?_eq_some_iff.1 hp
  have := List.pairwise_iff_getElem.1 h.asc (j - 1) j h2 h1 (by omega)
  rw [e1, e2] at this
  exact hn this
set_option maxHeartbeats 4000000 in
theorem bcheck_at {w : World} {A : Option Addr} {n c B : Nat} {l : List RM} (hl : Has w B A (rows mc l)) (hB : B ≤ w.heap.size) (hn : l.length = n) (hsm : n ≤ 100000) (wl : WfM l) :
    Calls Try.prog 44 #[.slice A n c] w fun e w' => (∃ b, e = .returned (.bool b) ∧ (b = true ↔ OkL l)) ∧ Fr w w' := by
  have Hl := keep hl
  have Hn := keep hn
  have Hwl := keep wl
  clear hl hn wl
  go_enter Try.func44, Try.ntmps44
  go_wp2_with fail
  go_loopg [7] n (fun g s7 wr => ∃ j : Nat, j + g = n ∧ s7 = .int .i64 j ∧ Hid (Fr w wr) ∧ Hid (OkL (l.take j)))
  case atStart => exact ⟨0, by omega, rfl, keep (fr_refl w), keep OkL.nil⟩
  case round =>
    obtain ⟨j, hj, rfl, hF, hok⟩ := hrel
    by_cases hlt : j < n
    · have hm : l[j]? = some (l[j]'(by rw [Hn.out]; exact hlt)) := List.getElem?_eq_getElem _
      generalize l[j]'(by rw [Hn.out]; exact hlt) = m at hm
      obtain ⟨b, off, rfl, hb1, hr⟩ := has_rows Hl.out Hwl.out.wid (by decide) (by intro e; rw [e] at hm; simp at hm)
      have lX := elem_ld msgS hr Hwl.out.wid (by omega) hm
      have lXk := elem_part keyS hr Hwl.out.wid (by omega) hm (mc_key m) (kc_len _)
      have wm := Hwl.out m (mem_at hm)
      have Hm := keep hm
      have Hlm := keep (mc_len wm.val.hl)
      have hF1 := hF.out
      have hwD := fr_drew hF1
      have hjz : (j : Int) < (n : Int) := by omega
      have cK := fun W0 W h => mcheck_at (W0 := W0) (W := W) wm h
      cases om : okM m with
      | false =>
        rw [om] at cK
        have Hbad := keep (okL_bad1 hm om)
        clear hm hr hlt om
        go_wp2_with (first
          | (refine wpList_store_at (ds := mc m) msg_info rfl (.tmp 4) (.tmp 11) rfl wr.heap.size 0 rfl rfl Hlm.out (mc_one _) (Arr.new wr (mc zeroM).toArray 48) (by decide) (splice_all _ _ (by rw [Hlm.out]; decide)) ?_; intro W5 hM5 hk5; have hF5 := hk5.fr (fr_new hF1 _) hF1.size; clear hk5; have lM := msg_all hM5 wm.val.hl; have lMk := msg_keyAt hM5; have h55 := fr_refl W5; have h5D := fr_drew h55; have hwD := fr_drew hF5; have Hfr := keep hF5)
          | fail)
        refine wp_region_any (by kernel_rfl) ?_
        change wpAny _ _ _ _ _ _ _ (World.drew _)
        refine wpAny_ready (rs := [0]) (by kernel_rfl) (by simp) ?_
        refine AllReady.cons rfl (fun K hK => ?_) AllReady.nil
        go_simp
        refine hK _ _ ?_
        clear hK K
        try simp only [List.getElem_toArray, List.getElem_cons_succ, List.getElem_cons_zero, Act.put, List.setIfInBounds_toArray, List.set_cons_zero, List.set_cons_succ]
        refine wpAny_ready (rs := [1]) (by kernel_rfl) (by simp) ?_
        refine AllReady.cons rfl (fun K hK => ?_) AllReady.nil
        go_simp
        refine (cK W5 _ h5D).mono ?_
        rintro e w8 ⟨rfl, hz8⟩
        go_simp
        refine hK _ _ ?_
        clear hK K
        try simp only [List.getElem_toArray, List.getElem_cons_succ, List.getElem_cons_zero, Act.put, List.setIfInBounds_toArray, List.set_cons_zero, List.set_cons_succ]
        refine wpAny_take (i := 2) (v := ?_) rfl (by kernel_rfl) (by kernel_rfl) (by kernel_rfl) (fun _ _ _ h => h) (Or.inl ⟨by rfl, ?_⟩) ?_
        rotate_left
        · intro w; go_simp; try with_reducible rfl
        simp only [List.getElem_toArray, List.getElem_cons_succ, List.getElem_cons_zero, Act.put, List.setIfInBounds_toArray, List.set_cons_zero, List.set_cons_succ]
        refine wpAny_take (i := 3) (v := ?_) rfl (by kernel_rfl) (by kernel_rfl) (by kernel_rfl) (fun _ _ _ h => h) (Or.inl ⟨by rfl, ?_⟩) ?_
        rotate_left
        · intro w; go_simp; try with_reducible rfl
        simp only [List.getElem_toArray, List.getElem_cons_succ, List.getElem_cons_zero, Act.put, List.setIfInBounds_toArray, List.set_cons_zero, List.set_cons_succ]
        refine wpAny_take (i := 4) (v := undef) rfl (by kernel_rfl) (by kernel_rfl) (by kernel_rfl) (fun _ _ _ h => h) (Or.inr ⟨by rfl, rfl⟩) ?_
        simp only [List.getElem_toArray, List.getElem_cons_succ, List.getElem_cons_zero, Act.put, List.setIfInBounds_toArray, List.set_cons_zero, List.set_cons_succ]
        refine wpAny_take (i := 5) (v := undef) rfl (by kernel_rfl) (by kernel_rfl) (by kernel_rfl) (fun _ _ _ h => h) (Or.inr ⟨by rfl, rfl⟩) ?_
        simp only [List.getElem_toArray, List.getElem_cons_succ, List.getElem_cons_zero, Act.put, List.setIfInBounds_toArray, List.set_cons_zero, List.set_cons_succ]
        refine wpAny_take (i := 6) (v := undef) rfl (by kernel_rfl) (by kernel_rfl) (by kernel_rfl) (fun _ _ _ h => h) (Or.inr ⟨by rfl, rfl⟩) ?_
        simp only [List.getElem_toArray, List.getElem_cons_succ, List.getElem_cons_zero, Act.put, List.setIfInBounds_toArray, List.set_cons_zero, List.set_cons_succ]
        refine wpAny_take (i := 7) (v := undef) rfl (by kernel_rfl) (by kernel_rfl) (by kernel_rfl) (fun _ _ _ h => h) (Or.inr ⟨by rfl, rfl⟩) ?_
        simp only [List.getElem_toArray, List.getElem_cons_succ, List.getElem_cons_zero, Act.put, List.setIfInBounds_toArray, List.set_cons_zero, List.set_cons_succ]
        refine wpAny_take (i := 8) (v := undef) rfl (by kernel_rfl) (by kernel_rfl) (by kernel_rfl) (fun _ _ _ h => h) (Or.inr ⟨by rfl, rfl⟩) ?_
        simp only [List.getElem_toArray, List.getElem_cons_succ, List.getElem_cons_zero, Act.put, List.setIfInBounds_toArray, List.set_cons_zero, List.set_cons_succ]
        refine wpAny_take (i := 9) (v := undef) rfl (by kernel_rfl) (by kernel_rfl) (by kernel_rfl) (fun _ _ _ h => h) (Or.inr ⟨by rfl, rfl⟩) ?_
        simp only [List.getElem_toArray, List.getElem_cons_succ, List.getElem_cons_zero, Act.put, List.setIfInBounds_toArray, List.set_cons_zero, List.set_cons_succ]
        refine wpAny_take (i := 10) (v := undef) rfl (by kernel_rfl) (by kernel_rfl) (by kernel_rfl) (fun _ _ _ h => h) (Or.inr ⟨by rfl, rfl⟩) ?_
        simp only [List.getElem_toArray, List.getElem_cons_succ, List.getElem_cons_zero, Act.put, List.setIfInBounds_toArray, List.set_cons_zero, List.set_cons_succ]
        refine wpAny_take (i := 11) (v := undef) rfl (by kernel_rfl) (by kernel_rfl) (by kernel_rfl) (fun _ _ _ h => h) (Or.inr ⟨by rfl, rfl⟩) ?_
        simp only [List.getElem_toArray, List.getElem_cons_succ, List.getElem_cons_zero, Act.put, List.setIfInBounds_toArray, List.set_cons_zero, List.set_cons_succ]
        refine wpAny_take (i := 12) (v := undef) rfl (by kernel_rfl) (by kernel_rfl) (by kernel_rfl) (fun _ _ _ h => h) (Or.inr ⟨by rfl, rfl⟩) ?_
        simp only [List.getElem_toArray, List.getElem_cons_succ, List.getElem_cons_zero, Act.put, List.setIfInBounds_toArray, List.set_cons_zero, List.set_cons_succ]
        refine wpAny_take (i := 13) (v := undef) rfl (by kernel_rfl) (by kernel_rfl) (by kernel_rfl) (fun _ _ _ h => h) (Or.inr ⟨by rfl, rfl⟩) ?_
        simp only [List.getElem_toArray, List.getElem_cons_succ, List.getElem_cons_zero, Act.put, List.setIfInBounds_toArray, List.set_cons_zero, List.set_cons_succ]
        refine wpAny_take (i := 14) (v := undef) rfl (by kernel_rfl) (by kernel_rfl) (by kernel_rfl) (fun _ _ _ h => h) (Or.inr ⟨by rfl, rfl⟩) ?_
        simp only [List.getElem_toArray, List.getElem_cons_succ, List.getElem_cons_zero, Act.put, List.setIfInBounds_toArray, List.set_cons_zero, List.set_cons_succ]
        refine wpAny_take (i := 15) (v := undef) rfl (by kernel_rfl) (by kernel_rfl) (by kernel_rfl) (fun _ _ _ h => h) (Or.inr ⟨by rfl, rfl⟩) ?_
        simp only [List.getElem_toArray, List.getElem_cons_succ, List.getElem_cons_zero, Act.put, List.setIfInBounds_toArray, List.set_cons_zero, List.set_cons_succ]
        refine wpAny_take (i := 16) (v := undef) rfl (by kernel_rfl) (by kernel_rfl) (by kernel_rfl) (fun _ _ _ h => h) (Or.inr ⟨by rfl, rfl⟩) ?_
        simp only [List.getElem_toArray, List.getElem_cons_succ, List.getElem_cons_zero, Act.put, List.setIfInBounds_toArray, List.set_cons_zero, List.set_cons_succ]
        refine wpAny_take (i := 17) (v := undef) rfl (by kernel_rfl) (by kernel_rfl) (by kernel_rfl) (fun _ _ _ h => h) (Or.inr ⟨by rfl, rfl⟩) ?_
        simp only [List.getElem_toArray, List.getElem_cons_succ, List.getElem_cons_zero, Act.put, List.setIfInBounds_toArray, List.set_cons_zero, List.set_cons_succ]
        refine wpAny_take (i := 18) (v := ?_) rfl (by kernel_rfl) (by kernel_rfl) (by kernel_rfl) (fun _ _ _ h => h) (Or.inl ⟨by rfl, ?_⟩) ?_
        rotate_left
        · intro w; go_simp; try with_reducible rfl
        simp only [List.getElem_toArray, List.getElem_cons_succ, List.getElem_cons_zero, Act.put, List.setIfInBounds_toArray, List.set_cons_zero, List.set_cons_succ]
        refine wpAny_done (by kernel_rfl) ?_ _
        go_wp2_with fail
        go_ret
        exact ⟨⟨false, rfl, ⟨fun h => (Bool.false_ne_true h).elim, fun h => absurd h Hbad.out⟩⟩, fr_step hF5 hz8⟩
      | true =>
        rw [om] at cK
        have Hom := keep om
        by_cases h0 : j = 0
        · subst h0
          have Hok := keep (okL_step hok.out hm wm om (.inl rfl))
          simp only [Nat.zero_mul, Nat.add_zero] at lX lXk
          rw [show ((0 : Nat) : Int) = 0 from rfl] at hjz ⊢
          clear hm hr hlt om
          go_wp2_with (first
          | (refine wpList_store_at (ds := mc m) msg_info rfl (.tmp 4) (.tmp 11) rfl wr.heap.size 0 rfl rfl Hlm.out (mc_one _) (Arr.new wr (mc zeroM).toArray 48) (by decide) (splice_all _ _ (by rw [Hlm.out]; decide)) ?_; intro W5 hM5 hk5; have hF5 := hk5.fr (fr_new hF1 _) hF1.size; clear hk5; have lM := msg_all hM5 wm.val.hl; have lMk := msg_keyAt hM5; have h55 := fr_refl W5; have h5D := fr_drew h55; have hwD := fr_drew hF5; have Hfr := keep hF5)
          | fail)
          refine wp_region_any (by kernel_rfl) ?_
          change wpAny _ _ _ _ _ _ _ (World.drew _)
          refine wpAny_ready (rs := [0]) (by kernel_rfl) (by simp) ?_
          refine AllReady.cons rfl (fun K hK => ?_) AllReady.nil
          go_simp
          refine hK _ _ ?_
          clear hK K
          try simp only [List.getElem_toArray, List.getElem_cons_succ, List.getElem_cons_zero, Act.put, List.setIfInBounds_toArray, List.set_cons_zero, List.set_cons_succ]
          refine wpAny_ready (rs := [1]) (by kernel_rfl) (by simp) ?_
          refine AllReady.cons rfl (fun K hK => ?_) AllReady.nil
          go_simp
          refine (cK W5 _ h5D).mono ?_
          rintro e w8 ⟨rfl, hz8⟩
          go_simp
          refine hK _ _ ?_
          clear hK K
          try simp only [List.getElem_toArray, List.getElem_cons_succ, List.getElem_cons_zero, Act.put, List.setIfInBounds_toArray, List.set_cons_zero, List.set_cons_succ]
          refine wpAny_take (i := 2) (v := ?_) rfl (by kernel_rfl) (by kernel_rfl) (by kernel_rfl) (fun _ _ _ h => h) (Or.inl ⟨by rfl, ?_⟩) ?_
          rotate_left
          · intro w; go_simp; try with_reducible rfl
          simp only [List.getElem_toArray, List.getElem_cons_succ, List.getElem_cons_zero, Act.put, List.setIfInBounds_toArray, List.set_cons_zero, List.set_cons_succ]
          refine wpAny_take (i := 3) (v := ?_) rfl (by kernel_rfl) (by kernel_rfl) (by kernel_rfl) (fun _ _ _ h => h) (Or.inl ⟨by rfl, ?_⟩) ?_
          rotate_left
          · intro w; go_simp; try with_reducible rfl
          simp only [List.getElem_toArray, List.getElem_cons_succ, List.getElem_cons_zero, Act.put, List.setIfInBounds_toArray, List.set_cons_zero, List.set_cons_succ]
          refine wpAny_take (i := 4) (v := ?_) rfl (by kernel_rfl) (by kernel_rfl) (by kernel_rfl) (fun _ _ _ h => h) (Or.inl ⟨by rfl, ?_⟩) ?_
          rotate_left
          · intro w; go_simp; try with_reducible rfl
          simp only [List.getElem_toArray, List.getElem_cons_succ, List.getElem_cons_zero, Act.put, List.setIfInBounds_toArray, List.set_cons_zero, List.set_cons_succ]
          refine wpAny_take (i := 5) (v := ?_) rfl (by kernel_rfl) (by kernel_rfl) (by kernel_rfl) (fun _ _ _ h => h) (Or.inl ⟨by rfl, ?_⟩) ?_
          rotate_left
          · intro w; go_simp; try with_reducible rfl
          simp only [List.getElem_toArray, List.getElem_cons_succ, List.getElem_cons_zero, Act.put, List.setIfInBounds_toArray, List.set_cons_zero, List.set_cons_succ]
          refine wpAny_take (i := 6) (v := ?_) rfl (by kernel_rfl) (by kernel_rfl) (by kernel_rfl) (fun _ _ _ h => h) (Or.inl ⟨by rfl, ?_⟩) ?_
          rotate_left
          · intro w; go_simp; try with_reducible rfl
          simp only [List.getElem_toArray, List.getElem_cons_succ, List.getElem_cons_zero, Act.put, List.setIfInBounds_toArray, List.set_cons_zero, List.set_cons_succ]
          refine wpAny_take (i := 7) (v := undef) rfl (by kernel_rfl) (by kernel_rfl) (by kernel_rfl) (fun _ _ _ h => h) (Or.inr ⟨by rfl, rfl⟩) ?_
          simp only [List.getElem_toArray, List.getElem_cons_succ, List.getElem_cons_zero, Act.put, List.setIfInBounds_toArray, List.set_cons_zero, List.set_cons_succ]
          refine wpAny_take (i := 8) (v := undef) rfl (by kernel_rfl) (by kernel_rfl) (by kernel_rfl) (fun _ _ _ h => h) (Or.inr ⟨by rfl, rfl⟩) ?_
          simp only [List.getElem_toArray, List.getElem_cons_succ, List.getElem_cons_zero, Act.put, List.setIfInBounds_toArray, List.set_cons_zero, List.set_cons_succ]
          refine wpAny_take (i := 9) (v := undef) rfl (by kernel_rfl) (by kernel_rfl) (by kernel_rfl) (fun _ _ _ h => h) (Or.inr ⟨by rfl, rfl⟩) ?_
          simp only [List.getElem_toArray, List.getElem_cons_succ, List.getElem_cons_zero, Act.put, List.setIfInBounds_toArray, List.set_cons_zero, List.set_cons_succ]
          refine wpAny_take (i := 10) (v := undef) rfl (by kernel_rfl) (by kernel_rfl) (by kernel_rfl) (fun _ _ _ h => h) (Or.inr ⟨by rfl, rfl⟩) ?_
          simp only [List.getElem_toArray, List.getElem_cons_succ, List.getElem_cons_zero, Act.put, List.setIfInBounds_toArray, List.set_cons_zero, List.set_cons_succ]
          refine wpAny_take (i := 11) (v := undef) rfl (by kernel_rfl) (by kernel_rfl) (by kernel_rfl) (fun _ _ _ h => h) (Or.inr ⟨by rfl, rfl⟩) ?_
          simp only [List.getElem_toArray, List.getElem_cons_succ, List.getElem_cons_zero, Act.put, List.setIfInBounds_toArray, List.set_cons_zero, List.set_cons_succ]
          refine wpAny_take (i := 12) (v := undef) rfl (by kernel_rfl) (by kernel_rfl) (by kernel_rfl) (fun _ _ _ h => h) (Or.inr ⟨by rfl, rfl⟩) ?_
          simp only [List.getElem_toArray, List.getElem_cons_succ, List.getElem_cons_zero, Act.put, List.setIfInBounds_toArray, List.set_cons_zero, List.set_cons_succ]
          refine wpAny_take (i := 13) (v := undef) rfl (by kernel_rfl) (by kernel_rfl) (by kernel_rfl) (fun _ _ _ h => h) (Or.inr ⟨by rfl, rfl⟩) ?_
          simp only [List.getElem_toArray, List.getElem_cons_succ, List.getElem_cons_zero, Act.put, List.setIfInBounds_toArray, List.set_cons_zero, List.set_cons_succ]
          refine wpAny_take (i := 14) (v := undef) rfl (by kernel_rfl) (by kernel_rfl) (by kernel_rfl) (fun _ _ _ h => h) (Or.inr ⟨by rfl, rfl⟩) ?_
          simp only [List.getElem_toArray, List.getElem_cons_succ, List.getElem_cons_zero, Act.put, List.setIfInBounds_toArray, List.set_cons_zero, List.set_cons_succ]
          refine wpAny_take (i := 15) (v := undef) rfl (by kernel_rfl) (by kernel_rfl) (by kernel_rfl) (fun _ _ _ h => h) (Or.inr ⟨by rfl, rfl⟩) ?_
          simp only [List.getElem_toArray, List.getElem_cons_succ, List.getElem_cons_zero, Act.put, List.setIfInBounds_toArray, List.set_cons_zero, List.set_cons_succ]
          refine wpAny_take (i := 16) (v := undef) rfl (by kernel_rfl) (by kernel_rfl) (by kernel_rfl) (fun _ _ _ h => h) (Or.inr ⟨by rfl, rfl⟩) ?_
          simp only [List.getElem_toArray, List.getElem_cons_succ, List.getElem_cons_zero, Act.put, List.setIfInBounds_toArray, List.set_cons_zero, List.set_cons_succ]
          refine wpAny_take (i := 17) (v := ?_) rfl (by kernel_rfl) (by kernel_rfl) (by kernel_rfl) (fun _ _ _ h => h) (Or.inl ⟨by rfl, ?_⟩) ?_
          rotate_left
          · intro w; go_simp; try with_reducible rfl
          simp only [List.getElem_toArray, List.getElem_cons_succ, List.getElem_cons_zero, Act.put, List.setIfInBounds_toArray, List.set_cons_zero, List.set_cons_succ]
          refine wpAny_take (i := 18) (v := ?_) rfl (by kernel_rfl) (by kernel_rfl) (by kernel_rfl) (fun _ _ _ h => h) (Or.inl ⟨by rfl, ?_⟩) ?_
          rotate_left
          · intro w; go_simp; try with_reducible rfl
          simp only [List.getElem_toArray, List.getElem_cons_succ, List.getElem_cons_zero, Act.put, List.setIfInBounds_toArray, List.set_cons_zero, List.set_cons_succ]
          refine wpAny_done (by kernel_rfl) ?_ _
          go_wp2_with fail
          go_roundg (gk - 1)
          case measure => omega
          case rel => exact ⟨1, by omega, rfl, keep (fr_step hF5 hz8), Hok⟩
        · have hp : l[j - 1]? = some (l[j - 1]'(by rw [Hn.out]; omega)) := List.getElem?_eq_getElem _
          generalize l[j - 1]'(by rw [Hn.out]; omega) = p at hp
          have lP := elem_part keyS hr Hwl.out.wid (by omega) hp (mc_key p) (kc_len _)
          have gp : p.wf ∧ okM p = true := hok.out.good p (by
            have : (l.take j)[j - 1]? = some p := by rw [List.getElem?_take, if_pos (by omega)]; exact hp
            exact mem_at this)
          have cC := fun W0 W h => kcomp_at (W0 := W0) (W := W) gp.1.key wm.key (okM_key gp.2) (okM_key om) h
          have d0 : (0 : Int) < (j : Int) := by omega
          have d9 : 0 < j := by omega
          have d1 : decide (0 < j) = true := by simpa using d9
          have e5 : IntKind.i64.wrap ((j : Int) - 1) = ((j - 1 : Nat) : Int) := by rw [IntKind.wrap_i64]; omega
          have e4 : ((j - 1 : Nat) : Int) < (n : Int) := by omega
          have e3 : (0 : Int) ≤ ((j - 1 : Nat) : Int) := by omega
          have hge : 0 ≤ cmpK p.key m.key ↔ ¬ cd p < cd m := by rw [cmpK_ge]; unfold cd; omega
          by_cases hc : 0 ≤ cmpK p.key m.key
          · have Hbad := keep (okL_bad2 (by omega) hm hp (hge.1 hc))
            generalize cmpK p.key m.key = r at *
            clear hm hr hlt om hp gp hge
            go_wp2_with (first
          | (refine wpList_store_at (ds := mc m) msg_info rfl (.tmp 4) (.tmp 11) rfl wr.heap.size 0 rfl rfl Hlm.out (mc_one _) (Arr.new wr (mc zeroM).toArray 48) (by decide) (splice_all _ _ (by rw [Hlm.out]; decide)) ?_; intro W5 hM5 hk5; have hF5 := hk5.fr (fr_new hF1 _) hF1.size; clear hk5; have lM := msg_all hM5 wm.val.hl; have lMk := msg_keyAt hM5; have h55 := fr_refl W5; have h5D := fr_drew h55; have hwD := fr_drew hF5; have Hfr := keep hF5)
          | fail)
            go_region_held3 (fun w' => Fr W5 w' ∧ Fr w w') (first | (go_split_ands; exact ⟨h5D, hwD⟩) | (go_split_ands; exact ⟨by assumption, by assumption⟩))
              (first
                | (go_at_call 72; (with_reducible refine (cK W5 _ (by assumption)).mono ?_); rintro e w8 ⟨rfl, hz8⟩; have hw8 := fr_step Hfr.out hz8)
                | (go_at_call 69; (with_reducible refine (cC W5 _ (by assumption)).mono ?_); rintro e w9 ⟨rfl, hz9⟩; have hw9 := fr_step Hfr.out hz9))
            rename_i hH
            obtain ⟨hH5, hHw⟩ := hH
            go_wp2_with fail
            go_ret
            exact ⟨⟨false, rfl, ⟨fun h => (Bool.false_ne_true h).elim, fun h => absurd h Hbad.out⟩⟩, hHw⟩
          · have Hok := keep (okL_step hok.out hm wm om (.inr ⟨p, hp, by
              rcases Int.lt_or_le (cd p) (cd m) with h | h
              · exact h
              · exact absurd (hge.2 (by omega)) hc⟩))
            generalize cmpK p.key m.key = r at *
            clear hm hr hlt om hp gp hge
            go_wp2_with (first
          | (refine wpList_store_at (ds := mc m) msg_info rfl (.tmp 4) (.tmp 11) rfl wr.heap.size 0 rfl rfl Hlm.out (mc_one _) (Arr.new wr (mc zeroM).toArray 48) (by decide) (splice_all _ _ (by rw [Hlm.out]; decide)) ?_; intro W5 hM5 hk5; have hF5 := hk5.fr (fr_new hF1 _) hF1.size; clear hk5; have lM := msg_all hM5 wm.val.hl; have lMk := msg_keyAt hM5; have h55 := fr_refl W5; have h5D := fr_drew h55; have hwD := fr_drew hF5; have Hfr := keep hF5)
          | fail)
            go_region_held3 (fun w' => Fr W5 w' ∧ Fr w w') (first | (go_split_ands; exact ⟨h5D, hwD⟩) | (go_split_ands; exact ⟨by assumption, by assumption⟩))
              (first
                | (go_at_call 72; (with_reducible refine (cK W5 _ (by assumption)).mono ?_); rintro e w8 ⟨rfl, hz8⟩; have hw8 := fr_step Hfr.out hz8)
                | (go_at_call 69; (with_reducible refine (cC W5 _ (by assumption)).mono ?_); rintro e w9 ⟨rfl, hz9⟩; have hw9 := fr_step Hfr.out hz9))
            rename_i hH
            obtain ⟨hH5, hHw⟩ := hH
            go_wp2_with fail
            go_roundg (gk - 1)
            case measure => omega
            case rel => exact ⟨j + 1, by omega, rfl, keep (hHw), Hok⟩
    · have hjn : j = n := by omega
      have hjz : ¬ (j : Int) < (n : Int) := by omega
      have hall : OkL l := by
        have := hok.out
        rwa [List.take_of_length_le (by rw [Hn.out]; omega)] at this
      have Hall := keep hall
      clear hlt hjn hall hok
      go_wp2_with fail
      go_ret
      first
        | exact ⟨⟨true, rfl, ⟨fun _ => Hall.out, fun _ => rfl⟩⟩, hF.out⟩
        | exact ⟨.inr ⟨rfl, Hall.out⟩, hF.out⟩
end Go.Proofs.Ytcdcaanmmbopbaa
