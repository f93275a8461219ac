/- Buffers in memory, thirteen: 'Check' of the document. -/
import Derived.Test.YtcdcaanmmbopbaaBufL
import Derived.Test.YtcdcaanmmbopbaaBuf0
import Derived.Test.YtcdcaanmmbopbaaLawA
import Derived.Deep.CutRange
namespace Go.Proofs.Ytcdcaanmmbopbaa
set_option maxRecDepth 100000
open Go.RowKit
set_option linter.unusedVariables false
attribute [local go_sem ↓] key_ld msg_ld msg_st
set_option maxHeartbeats 4000000 in
theorem ref_check6 {w : World} {A : Option Addr} {n c B : Nat} {l : List RM} (hl : Has w B A (rows mc l)) (hB : B ≤ w.heap.size) (hn : l.length = n) (hsm : n ≤ 100000) (wl : WfM l) :
    Calls Try.prog 55 #[.slice A n c] w fun e w' => (∃ b, e = .returned (.bool b) ∧ (b = true ↔ OkL l)) ∧ Fr w w' := by
  have Hl := keep hl
  have Hn := keep hn
  have Hwl := keep wl
  clear hl hn wl
  go_enter Try.func55, Try.ntmps55
  go_wp2_with fail
  go_loopg [3] n (fun g s7 wr => ∃ j : Nat, j + g = n ∧ s7 = .int .i64 j ∧ Hid (Fr w wr) ∧ Hid (OkL (l.take j)))
  case atStart => exact ⟨0, by omega, rfl, keep (fr_refl w), keep OkL.nil⟩
  case round =>
    obtain ⟨j, hj, rfl, hF, hok⟩ := hrel
    by_cases hlt : j < n
    · have hm : l[j]? = some (l[j]'(by rw [Hn.out]; exact hlt)) := List.getElem?_eq_getElem _
      generalize l[j]'(by rw [Hn.out]; exact hlt) = m at hm
      obtain ⟨b, off, rfl, hb1, hr⟩ := has_rows Hl.out Hwl.out.wid (by decide) (by intro e; rw [e] at hm; simp at hm)
      have lX := elem_ld msgS hr Hwl.out.wid (by omega) hm
      have lXk := elem_part keyS hr Hwl.out.wid (by omega) hm (mc_key m) (kc_len _)
      have wm := Hwl.out m (mem_at hm)
      have Hm := keep hm
      have Hlm := keep (mc_len wm.val.hl)
      have hF1 := hF.out
      have hwD := fr_drew hF1
      have hjz : (j : Int) < (n : Int) := by omega
      have cK := fun W0 W h => rmcheck_at (W0 := W0) (W := W) wm h
      cases om : okM m with
      | false =>
        rw [om] at cK
        have Hbad := keep (okL_bad1 hm om)
        clear hm hr hlt om
        go_wp2_with fail
        refine wp_region_any (by kernel_rfl) ?_
        change wpAny _ _ _ _ _ _ _ (World.drew _)
        refine wpAny_take (i := 0) (v := ?_) rfl (by kernel_rfl) (by kernel_rfl) (by kernel_rfl) (fun _ _ _ h => h) (Or.inl ⟨by rfl, ?_⟩) ?_
        rotate_left
        · intro w; go_simp; try with_reducible rfl
        simp only [List.getElem_toArray, List.getElem_cons_zero, Act.put, List.setIfInBounds_toArray, List.set_cons_zero, List.set_cons_succ]
        refine wpAny_take (i := 1) (v := ?_) rfl (by kernel_rfl) (by kernel_rfl) (by kernel_rfl) (fun _ _ _ h => h) (Or.inl ⟨by rfl, ?_⟩) ?_
        rotate_left
        · intro w; go_simp; try with_reducible rfl
        simp only [List.getElem_toArray, List.getElem_cons_succ, List.getElem_cons_zero, Act.put, List.setIfInBounds_toArray, List.set_cons_zero, List.set_cons_succ]
        refine wpAny_take (i := 2) (v := ?_) rfl (by kernel_rfl) (by kernel_rfl) (by kernel_rfl) (fun _ _ _ h => h) (Or.inl ⟨by rfl, ?_⟩) ?_
        rotate_left
        · intro w; go_simp; try with_reducible rfl
        simp only [List.getElem_toArray, List.getElem_cons_succ, List.getElem_cons_zero, Act.put, List.setIfInBounds_toArray, List.set_cons_zero, List.set_cons_succ]
        refine wpAny_ready (rs := [3]) (by kernel_rfl) (by simp) ?_
        refine AllReady.cons rfl (fun K hK => ?_) AllReady.nil
        go_simp
        refine hK _ _ ?_
        clear hK K
        try simp only [List.getElem_toArray, List.getElem_cons_succ, List.getElem_cons_zero, Act.put, List.setIfInBounds_toArray, List.set_cons_zero, List.set_cons_succ]
        refine wpAny_ready (rs := [4]) (by kernel_rfl) (by simp) ?_
        refine AllReady.cons rfl (fun K hK => ?_) AllReady.nil
        go_simp
        refine (cK w _ hwD).mono ?_
        rintro e w8 ⟨rfl, hz8⟩
        go_simp
        refine hK _ _ ?_
        clear hK K
        try simp only [List.getElem_toArray, List.getElem_cons_succ, List.getElem_cons_zero, Act.put, List.setIfInBounds_toArray, List.set_cons_zero, List.set_cons_succ]
        refine wpAny_take (i := 5) (v := ?_) rfl (by kernel_rfl) (by kernel_rfl) (by kernel_rfl) (fun _ _ _ h => h) (Or.inl ⟨by rfl, ?_⟩) ?_
        rotate_left
        · intro w; go_simp; try with_reducible rfl
        simp only [List.getElem_toArray, List.getElem_cons_succ, List.getElem_cons_zero, Act.put, List.setIfInBounds_toArray, List.set_cons_zero, List.set_cons_succ]
        refine wpAny_take (i := 6) (v := ?_) rfl (by kernel_rfl) (by kernel_rfl) (by kernel_rfl) (fun _ _ _ h => h) (Or.inl ⟨by rfl, ?_⟩) ?_
        rotate_left
        · intro w; go_simp; try with_reducible rfl
        simp only [List.getElem_toArray, List.getElem_cons_succ, List.getElem_cons_zero, Act.put, List.setIfInBounds_toArray, List.set_cons_zero, List.set_cons_succ]
        refine wpAny_take (i := 7) (v := undef) rfl (by kernel_rfl) (by kernel_rfl) (by kernel_rfl) (fun _ _ _ h => h) (Or.inr ⟨by rfl, rfl⟩) ?_
        simp only [List.getElem_toArray, List.getElem_cons_succ, List.getElem_cons_zero, Act.put, List.setIfInBounds_toArray, List.set_cons_zero, List.set_cons_succ]
        refine wpAny_take (i := 8) (v := undef) rfl (by kernel_rfl) (by kernel_rfl) (by kernel_rfl) (fun _ _ _ h => h) (Or.inr ⟨by rfl, rfl⟩) ?_
        simp only [List.getElem_toArray, List.getElem_cons_succ, List.getElem_cons_zero, Act.put, List.setIfInBounds_toArray, List.set_cons_zero, List.set_cons_succ]
        refine wpAny_take (i := 9) (v := undef) rfl (by kernel_rfl) (by kernel_rfl) (by kernel_rfl) (fun _ _ _ h => h) (Or.inr ⟨by rfl, rfl⟩) ?_
        simp only [List.getElem_toArray, List.getElem_cons_succ, List.getElem_cons_zero, Act.put, List.setIfInBounds_toArray, List.set_cons_zero, List.set_cons_succ]
        refine wpAny_take (i := 10) (v := undef) rfl (by kernel_rfl) (by kernel_rfl) (by kernel_rfl) (fun _ _ _ h => h) (Or.inr ⟨by rfl, rfl⟩) ?_
        simp only [List.getElem_toArray, List.getElem_cons_succ, List.getElem_cons_zero, Act.put, List.setIfInBounds_toArray, List.set_cons_zero, List.set_cons_succ]
        refine wpAny_take (i := 11) (v := undef) rfl (by kernel_rfl) (by kernel_rfl) (by kernel_rfl) (fun _ _ _ h => h) (Or.inr ⟨by rfl, rfl⟩) ?_
        simp only [List.getElem_toArray, List.getElem_cons_succ, List.getElem_cons_zero, Act.put, List.setIfInBounds_toArray, List.set_cons_zero, List.set_cons_succ]
        refine wpAny_take (i := 12) (v := undef) rfl (by kernel_rfl) (by kernel_rfl) (by kernel_rfl) (fun _ _ _ h => h) (Or.inr ⟨by rfl, rfl⟩) ?_
        simp only [List.getElem_toArray, List.getElem_cons_succ, List.getElem_cons_zero, Act.put, List.setIfInBounds_toArray, List.set_cons_zero, List.set_cons_succ]
        refine wpAny_take (i := 13) (v := undef) rfl (by kernel_rfl) (by kernel_rfl) (by kernel_rfl) (fun _ _ _ h => h) (Or.inr ⟨by rfl, rfl⟩) ?_
        simp only [List.getElem_toArray, List.getElem_cons_succ, List.getElem_cons_zero, Act.put, List.setIfInBounds_toArray, List.set_cons_zero, List.set_cons_succ]
        refine wpAny_take (i := 14) (v := undef) rfl (by kernel_rfl) (by kernel_rfl) (by kernel_rfl) (fun _ _ _ h => h) (Or.inr ⟨by rfl, rfl⟩) ?_
        simp only [List.getElem_toArray, List.getElem_cons_succ, List.getElem_cons_zero, Act.put, List.setIfInBounds_toArray, List.set_cons_zero, List.set_cons_succ]
        refine wpAny_take (i := 15) (v := undef) rfl (by kernel_rfl) (by kernel_rfl) (by kernel_rfl) (fun _ _ _ h => h) (Or.inr ⟨by rfl, rfl⟩) ?_
        simp only [List.getElem_toArray, List.getElem_cons_succ, List.getElem_cons_zero, Act.put, List.setIfInBounds_toArray, List.set_cons_zero, List.set_cons_succ]
        refine wpAny_take (i := 16) (v := undef) rfl (by kernel_rfl) (by kernel_rfl) (by kernel_rfl) (fun _ _ _ h => h) (Or.inr ⟨by rfl, rfl⟩) ?_
        simp only [List.getElem_toArray, List.getElem_cons_succ, List.getElem_cons_zero, Act.put, List.setIfInBounds_toArray, List.set_cons_zero, List.set_cons_succ]
        refine wpAny_take (i := 17) (v := undef) rfl (by kernel_rfl) (by kernel_rfl) (by kernel_rfl) (fun _ _ _ h => h) (Or.inr ⟨by rfl, rfl⟩) ?_
        simp only [List.getElem_toArray, List.getElem_cons_succ, List.getElem_cons_zero, Act.put, List.setIfInBounds_toArray, List.set_cons_zero, List.set_cons_succ]
        refine wpAny_take (i := 18) (v := undef) rfl (by kernel_rfl) (by kernel_rfl) (by kernel_rfl) (fun _ _ _ h => h) (Or.inr ⟨by rfl, rfl⟩) ?_
        simp only [List.getElem_toArray, List.getElem_cons_succ, List.getElem_cons_zero, Act.put, List.setIfInBounds_toArray, List.set_cons_zero, List.set_cons_succ]
        refine wpAny_take (i := 19) (v := undef) rfl (by kernel_rfl) (by kernel_rfl) (by kernel_rfl) (fun _ _ _ h => h) (Or.inr ⟨by rfl, rfl⟩) ?_
        simp only [List.getElem_toArray, List.getElem_cons_succ, List.getElem_cons_zero, Act.put, List.setIfInBounds_toArray, List.set_cons_zero, List.set_cons_succ]
        refine wpAny_take (i := 20) (v := undef) rfl (by kernel_rfl) (by kernel_rfl) (by kernel_rfl) (fun _ _ _ h => h) (Or.inr ⟨by rfl, rfl⟩) ?_
        simp only [List.getElem_toArray, List.getElem_cons_succ, List.getElem_cons_zero, Act.put, List.setIfInBounds_toArray, List.set_cons_zero, List.set_cons_succ]
        refine wpAny_take (i := 21) (v := undef) rfl (by kernel_rfl) (by kernel_rfl) (by kernel_rfl) (fun _ _ _ h => h) (Or.inr ⟨by rfl, rfl⟩) ?_
        simp only [List.getElem_toArray, List.getElem_cons_succ, List.getElem_cons_zero, Act.put, List.setIfInBounds_toArray, List.set_cons_zero, List.set_cons_succ]
        refine wpAny_take (i := 22) (v := undef) rfl (by kernel_rfl) (by kernel_rfl) (by kernel_rfl) (fun _ _ _ h => h) (Or.inr ⟨by rfl, rfl⟩) ?_
        simp only [List.getElem_toArray, List.getElem_cons_succ, List.getElem_cons_zero, Act.put, List.setIfInBounds_toArray, List.set_cons_zero, List.set_cons_succ]
        refine wpAny_take (i := 23) (v := undef) rfl (by kernel_rfl) (by kernel_rfl) (by kernel_rfl) (fun _ _ _ h => h) (Or.inr ⟨by rfl, rfl⟩) ?_
        simp only [List.getElem_toArray, List.getElem_cons_succ, List.getElem_cons_zero, Act.put, List.setIfInBounds_toArray, List.set_cons_zero, List.set_cons_succ]
        refine wpAny_take (i := 24) (v := ?_) rfl (by kernel_rfl) (by kernel_rfl) (by kernel_rfl) (fun _ _ _ h => h) (Or.inl ⟨by rfl, ?_⟩) ?_
        rotate_left
        · intro w; go_simp; try with_reducible rfl
        simp only [List.getElem_toArray, List.getElem_cons_succ, List.getElem_cons_zero, Act.put, List.setIfInBounds_toArray, List.set_cons_zero, List.set_cons_succ]
        refine wpAny_done (by kernel_rfl) ?_ _
        go_wp2_with fail
        go_ret
        exact ⟨⟨false, rfl, ⟨fun h => (Bool.false_ne_true h).elim, fun h => absurd h Hbad.out⟩⟩, hz8⟩
      | true =>
        rw [om] at cK
        have Hom := keep om
        by_cases h0 : j = 0
        · subst h0
          have Hok := keep (okL_step hok.out hm wm om (.inl rfl))
          simp only [Nat.zero_mul, Nat.add_zero] at lX lXk
          rw [show ((0 : Nat) : Int) = 0 from rfl] at hjz ⊢
          clear hm hr hlt om
          go_wp2_with fail
          refine wp_region_any (by kernel_rfl) ?_
          change wpAny _ _ _ _ _ _ _ (World.drew _)
          refine wpAny_take (i := 0) (v := ?_) rfl (by kernel_rfl) (by kernel_rfl) (by kernel_rfl) (fun _ _ _ h => h) (Or.inl ⟨by rfl, ?_⟩) ?_
          rotate_left
          · intro w; go_simp; try with_reducible rfl
          simp only [List.getElem_toArray, List.getElem_cons_zero, Act.put, List.setIfInBounds_toArray, List.set_cons_zero, List.set_cons_succ]
          refine wpAny_take (i := 1) (v := ?_) rfl (by kernel_rfl) (by kernel_rfl) (by kernel_rfl) (fun _ _ _ h => h) (Or.inl ⟨by rfl, ?_⟩) ?_
          rotate_left
          · intro w; go_simp; try with_reducible rfl
          simp only [List.getElem_toArray, List.getElem_cons_succ, List.getElem_cons_zero, Act.put, List.setIfInBounds_toArray, List.set_cons_zero, List.set_cons_succ]
          refine wpAny_take (i := 2) (v := ?_) rfl (by kernel_rfl) (by kernel_rfl) (by kernel_rfl) (fun _ _ _ h => h) (Or.inl ⟨by rfl, ?_⟩) ?_
          rotate_left
          · intro w; go_simp; try with_reducible rfl
          simp only [List.getElem_toArray, List.getElem_cons_succ, List.getElem_cons_zero, Act.put, List.setIfInBounds_toArray, List.set_cons_zero, List.set_cons_succ]
          refine wpAny_ready (rs := [3]) (by kernel_rfl) (by simp) ?_
          refine AllReady.cons rfl (fun K hK => ?_) AllReady.nil
          go_simp
          refine hK _ _ ?_
          clear hK K
          try simp only [List.getElem_toArray, List.getElem_cons_succ, List.getElem_cons_zero, Act.put, List.setIfInBounds_toArray, List.set_cons_zero, List.set_cons_succ]
          refine wpAny_ready (rs := [4]) (by kernel_rfl) (by simp) ?_
          refine AllReady.cons rfl (fun K hK => ?_) AllReady.nil
          go_simp
          refine (cK w _ hwD).mono ?_
          rintro e w8 ⟨rfl, hz8⟩
          go_simp
          refine hK _ _ ?_
          clear hK K
          try simp only [List.getElem_toArray, List.getElem_cons_succ, List.getElem_cons_zero, Act.put, List.setIfInBounds_toArray, List.set_cons_zero, List.set_cons_succ]
          refine wpAny_take (i := 5) (v := ?_) rfl (by kernel_rfl) (by kernel_rfl) (by kernel_rfl) (fun _ _ _ h => h) (Or.inl ⟨by rfl, ?_⟩) ?_
          rotate_left
          · intro w; go_simp; try with_reducible rfl
          simp only [List.getElem_toArray, List.getElem_cons_succ, List.getElem_cons_zero, Act.put, List.setIfInBounds_toArray, List.set_cons_zero, List.set_cons_succ]
          refine wpAny_take (i := 6) (v := ?_) rfl (by kernel_rfl) (by kernel_rfl) (by kernel_rfl) (fun _ _ _ h => h) (Or.inl ⟨by rfl, ?_⟩) ?_
          rotate_left
          · intro w; go_simp; try with_reducible rfl
          simp only [List.getElem_toArray, List.getElem_cons_succ, List.getElem_cons_zero, Act.put, List.setIfInBounds_toArray, List.set_cons_zero, List.set_cons_succ]
          refine wpAny_take (i := 7) (v := ?_) rfl (by kernel_rfl) (by kernel_rfl) (by kernel_rfl) (fun _ _ _ h => h) (Or.inl ⟨by rfl, ?_⟩) ?_
          rotate_left
          · intro w; go_simp; try with_reducible rfl
          simp only [List.getElem_toArray, List.getElem_cons_succ, List.getElem_cons_zero, Act.put, List.setIfInBounds_toArray, List.set_cons_zero, List.set_cons_succ]
          refine wpAny_take (i := 8) (v := ?_) rfl (by kernel_rfl) (by kernel_rfl) (by kernel_rfl) (fun _ _ _ h => h) (Or.inl ⟨by rfl, ?_⟩) ?_
          rotate_left
          · intro w; go_simp; try with_reducible rfl
          simp only [List.getElem_toArray, List.getElem_cons_succ, List.getElem_cons_zero, Act.put, List.setIfInBounds_toArray, List.set_cons_zero, List.set_cons_succ]
          refine wpAny_take (i := 9) (v := ?_) rfl (by kernel_rfl) (by kernel_rfl) (by kernel_rfl) (fun _ _ _ h => h) (Or.inl ⟨by rfl, ?_⟩) ?_
          rotate_left
          · intro w; go_simp; try with_reducible rfl
          simp only [List.getElem_toArray, List.getElem_cons_succ, List.getElem_cons_zero, Act.put, List.setIfInBounds_toArray, List.set_cons_zero, List.set_cons_succ]
          refine wpAny_take (i := 10) (v := undef) rfl (by kernel_rfl) (by kernel_rfl) (by kernel_rfl) (fun _ _ _ h => h) (Or.inr ⟨by rfl, rfl⟩) ?_
          simp only [List.getElem_toArray, List.getElem_cons_succ, List.getElem_cons_zero, Act.put, List.setIfInBounds_toArray, List.set_cons_zero, List.set_cons_succ]
          refine wpAny_take (i := 11) (v := undef) rfl (by kernel_rfl) (by kernel_rfl) (by kernel_rfl) (fun _ _ _ h => h) (Or.inr ⟨by rfl, rfl⟩) ?_
          simp only [List.getElem_toArray, List.getElem_cons_succ, List.getElem_cons_zero, Act.put, List.setIfInBounds_toArray, List.set_cons_zero, List.set_cons_succ]
          refine wpAny_take (i := 12) (v := undef) rfl (by kernel_rfl) (by kernel_rfl) (by kernel_rfl) (fun _ _ _ h => h) (Or.inr ⟨by rfl, rfl⟩) ?_
          simp only [List.getElem_toArray, List.getElem_cons_succ, List.getElem_cons_zero, Act.put, List.setIfInBounds_toArray, List.set_cons_zero, List.set_cons_succ]
          refine wpAny_take (i := 13) (v := undef) rfl (by kernel_rfl) (by kernel_rfl) (by kernel_rfl) (fun _ _ _ h => h) (Or.inr ⟨by rfl, rfl⟩) ?_
          simp only [List.getElem_toArray, List.getElem_cons_succ, List.getElem_cons_zero, Act.put, List.setIfInBounds_toArray, List.set_cons_zero, List.set_cons_succ]
          refine wpAny_take (i := 14) (v := undef) rfl (by kernel_rfl) (by kernel_rfl) (by kernel_rfl) (fun _ _ _ h => h) (Or.inr ⟨by rfl, rfl⟩) ?_
          simp only [List.getElem_toArray, List.getElem_cons_succ, List.getElem_cons_zero, Act.put, List.setIfInBounds_toArray, List.set_cons_zero, List.set_cons_succ]
          refine wpAny_take (i := 15) (v := undef) rfl (by kernel_rfl) (by kernel_rfl) (by kernel_rfl) (fun _ _ _ h => h) (Or.inr ⟨by rfl, rfl⟩) ?_
          simp only [List.getElem_toArray, List.getElem_cons_succ, List.getElem_cons_zero, Act.put, List.setIfInBounds_toArray, List.set_cons_zero, List.set_cons_succ]
          refine wpAny_take (i := 16) (v := undef) rfl (by kernel_rfl) (by kernel_rfl) (by kernel_rfl) (fun _ _ _ h => h) (Or.inr ⟨by rfl, rfl⟩) ?_
          simp only [List.getElem_toArray, List.getElem_cons_succ, List.getElem_cons_zero, Act.put, List.setIfInBounds_toArray, List.set_cons_zero, List.set_cons_succ]
          refine wpAny_take (i := 17) (v := undef) rfl (by kernel_rfl) (by kernel_rfl) (by kernel_rfl) (fun _ _ _ h => h) (Or.inr ⟨by rfl, rfl⟩) ?_
          simp only [List.getElem_toArray, List.getElem_cons_succ, List.getElem_cons_zero, Act.put, List.setIfInBounds_toArray, List.set_cons_zero, List.set_cons_succ]
          refine wpAny_take (i := 18) (v := undef) rfl (by kernel_rfl) (by kernel_rfl) (by kernel_rfl) (fun _ _ _ h => h) (Or.inr ⟨by rfl, rfl⟩) ?_
          simp only [List.getElem_toArray, List.getElem_cons_succ, List.getElem_cons_zero, Act.put, List.setIfInBounds_toArray, List.set_cons_zero, List.set_cons_succ]
          refine wpAny_take (i := 19) (v := undef) rfl (by kernel_rfl) (by kernel_rfl) (by kernel_rfl) (fun _ _ _ h => h) (Or.inr ⟨by rfl, rfl⟩) ?_
          simp only [List.getElem_toArray, List.getElem_cons_succ, List.getElem_cons_zero, Act.put, List.setIfInBounds_toArray, List.set_cons_zero, List.set_cons_succ]
          refine wpAny_take (i := 20) (v := undef) rfl (by kernel_rfl) (by kernel_rfl) (by kernel_rfl) (fun _ _ _ h => h) (Or.inr ⟨by rfl, rfl⟩) ?_
          simp only [List.getElem_toArray, List.getElem_cons_succ, List.getElem_cons_zero, Act.put, List.setIfInBounds_toArray, List.set_cons_zero, List.set_cons_succ]
          refine wpAny_take (i := 21) (v := undef) rfl (by kernel_rfl) (by kernel_rfl) (by kernel_rfl) (fun _ _ _ h => h) (Or.inr ⟨by rfl, rfl⟩) ?_
          simp only [List.getElem_toArray, List.getElem_cons_succ, List.getElem_cons_zero, Act.put, List.setIfInBounds_toArray, List.set_cons_zero, List.set_cons_succ]
          refine wpAny_take (i := 22) (v := undef) rfl (by kernel_rfl) (by kernel_rfl) (by kernel_rfl) (fun _ _ _ h => h) (Or.inr ⟨by rfl, rfl⟩) ?_
          simp only [List.getElem_toArray, List.getElem_cons_succ, List.getElem_cons_zero, Act.put, List.setIfInBounds_toArray, List.set_cons_zero, List.set_cons_succ]
          refine wpAny_take (i := 23) (v := ?_) rfl (by kernel_rfl) (by kernel_rfl) (by kernel_rfl) (fun _ _ _ h => h) (Or.inl ⟨by rfl, ?_⟩) ?_
          rotate_left
          · intro w; go_simp; try with_reducible rfl
          simp only [List.getElem_toArray, List.getElem_cons_succ, List.getElem_cons_zero, Act.put, List.setIfInBounds_toArray, List.set_cons_zero, List.set_cons_succ]
          refine wpAny_take (i := 24) (v := ?_) rfl (by kernel_rfl) (by kernel_rfl) (by kernel_rfl) (fun _ _ _ h => h) (Or.inl ⟨by rfl, ?_⟩) ?_
          rotate_left
          · intro w; go_simp; try with_reducible rfl
          simp only [List.getElem_toArray, List.getElem_cons_succ, List.getElem_cons_zero, Act.put, List.setIfInBounds_toArray, List.set_cons_zero, List.set_cons_succ]
          refine wpAny_done (by kernel_rfl) ?_ _
          go_wp2_with fail
          go_roundg (gk - 1)
          case measure => omega
          case rel => exact ⟨1, by omega, rfl, keep (hz8), Hok⟩
        · have hp : l[j - 1]? = some (l[j - 1]'(by rw [Hn.out]; omega)) := List.getElem?_eq_getElem _
          generalize l[j - 1]'(by rw [Hn.out]; omega) = p at hp
          have lP := elem_part keyS hr Hwl.out.wid (by omega) hp (mc_key p) (kc_len _)
          have gp : p.wf ∧ okM p = true := hok.out.good p (by
            have : (l.take j)[j - 1]? = some p := by rw [List.getElem?_take, if_pos (by omega)]; exact hp
            exact mem_at this)
          have cC := fun W0 W h => rkcomp_at (W0 := W0) (W := W) gp.1.key wm.key (okM_key gp.2) (okM_key om) h
          have d0 : (0 : Int) < (j : Int) := by omega
          have d9 : 0 < j := by omega
          have d1 : decide (0 < j) = true := by simpa using d9
          have e5 : IntKind.i64.wrap ((j : Int) - 1) = ((j - 1 : Nat) : Int) := by rw [IntKind.wrap_i64]; omega
          have e4 : ((j - 1 : Nat) : Int) < (n : Int) := by omega
          have e3 : (0 : Int) ≤ ((j - 1 : Nat) : Int) := by omega
          have hge : 0 ≤ cmpK p.key m.key ↔ ¬ cd p < cd m := by rw [cmpK_ge]; unfold cd; omega
          by_cases hc : 0 ≤ cmpK p.key m.key
          · have Hbad := keep (okL_bad2 (by omega) hm hp (hge.1 hc))
            generalize cmpK p.key m.key = r at *
            clear hm hr hlt om hp gp hge
            go_wp2_with fail
            go_region_held3 (fun w' => Fr w w') (first | exact hwD | assumption)
              (first
                | (go_at_call 76; (with_reducible refine (cK w _ (by assumption)).mono ?_); rintro e w8 ⟨rfl, hz8⟩)
                | (go_at_call 60; (with_reducible refine (cC w _ (by assumption)).mono ?_); rintro e w9 ⟨rfl, hz9⟩))
            rename_i hH
            skip
            go_wp2_with fail
            go_ret
            exact ⟨⟨false, rfl, ⟨fun h => (Bool.false_ne_true h).elim, fun h => absurd h Hbad.out⟩⟩, hH⟩
          · have Hok := keep (okL_step hok.out hm wm om (.inr ⟨p, hp, by
              rcases Int.lt_or_le (cd p) (cd m) with h | h
              · exact h
              · exact absurd (hge.2 (by omega)) hc⟩))
            generalize cmpK p.key m.key = r at *
            clear hm hr hlt om hp gp hge
            go_wp2_with fail
            go_region_held3 (fun w' => Fr w w') (first | exact hwD | assumption)
              (first
                | (go_at_call 76; (with_reducible refine (cK w _ (by assumption)).mono ?_); rintro e w8 ⟨rfl, hz8⟩)
                | (go_at_call 60; (with_reducible refine (cC w _ (by assumption)).mono ?_); rintro e w9 ⟨rfl, hz9⟩))
            rename_i hH
            skip
            go_wp2_with fail
            go_roundg (gk - 1)
            case measure => omega
            case rel => exact ⟨j + 1, by omega, rfl, keep (hH), Hok⟩
    · have hjn : j = n := by omega
      have hjz : ¬ (j : Int) < (n : Int) := by omega
      have hall : OkL l := by
        have := hok.out
        rwa [List.take_of_length_le (by rw [Hn.out]; omega)] at this
      have Hall := keep hall
      clear hlt hjn hall hok
      go_wp2_with fail
      go_ret
      first
        | exact ⟨⟨true, rfl, ⟨fun _ => Hall.out, fun _ => rfl⟩⟩, hF.out⟩
        | exact ⟨.inr ⟨rfl, Hall.out⟩, hF.out⟩
end Go.Proofs.Ytcdcaanmmbopbaa
/- Buffers in memory, fourteen: 'awake' of layer 6. -/
namespace Go.Proofs.Ytcdcaanmmbopbaa
set_option maxRecDepth 100000
open Go.RowKit
set_option linter.unusedVariables false
attribute [local go_sem ↓] key_ld msg_ld msg_st
theorem okL_one {m : RM} (wm : m.wf) (om : okM m = true) : OkL [m] := OkL.cons wm om OkL.nil (fun x hx => by simp at hx)
theorem okP_nil : OkP [] := OkP.nil
theorem own_inc {w : World} {B : Nat} {A : Option Addr} {c : Nat} {m : RM} (ho : OwnM w B A c [m]) (wm : m.wf) : ∃ g, A = some ⟨g, 0, none⟩ ∧ ∀ W, Fr w W → W.cell? ⟨g, 28, none⟩ = some (.int .u64 m.inc) := by
  obtain ⟨g, rfl⟩ := ho.addr (by simp)
  refine ⟨g, rfl, fun W h => ?_⟩
  obtain ⟨b, off, e, hbl, hx⟩ := ho.has 28 (.int .u64 m.inc) (by rw [rows_single]; exact mc_28 wm.val.hl)
  injection e with e
  injection e with e1 e2
  subst e1 e2
  rw [Nat.zero_add] at hx
  exact (h.cell hbl).trans hx
end Go.Proofs.Ytcdcaanmmbopbaa
/- Buffers in memory, fifteen: the document's 'Find', 'Same', 'Batch', 'Less'. -/
namespace Go.Proofs.Ytcdcaanmmbopbaa
set_option maxRecDepth 100000
open Go.RowKit
set_option linter.unusedVariables false
attribute [local go_sem ↓] key_ld msg_ld msg_st
theorem msg_neq {a b : RM} (ha : a.wf) (hb : b.wf) (W : World) : (binOp .neq 48 (mm a) (mm b)).run Try.prog W = .ok (.bool (!decide (a = b))) W := by
  simp only [binOp, Sem.run_bind, msg_eqr ha hb, Result.andThen_ok, Sem.run_pure]
theorem findL_at : ∀ {l : List RM} {k : RK} {j : Nat} {m : RM}, (∀ t x, t < j → l[t]? = some x → x.key ≠ k) → l[j]? = some m → m.key = k → findL l k = some m
  | [], _, _, _, _, h, _ => by simp at h
  | y :: l, k, 0, m, _, h, e => by
    simp at h
    subst h
    rw [findL_cons, if_pos e]
  | y :: l, k, j + 1, m, hno, h, e => by
    have h0 := hno 0 y (Nat.succ_pos j) rfl
    rw [findL_cons, if_neg h0]
    exact findL_at (j := j) (fun t x ht hx => hno (t + 1) x (by omega) (by simpa using hx)) (by simpa using h) e
theorem findL_no {l : List RM} {k : RK} (hno : ∀ t x, t < l.length → l[t]? = some x → x.key ≠ k) : findL l k = none := by
  rw [findL_none]
  intro m hm
  obtain ⟨t, ht, e⟩ := List.mem_iff_getElem.1 hm
  exact hno t m ht (by rw [List.getElem?_eq_getElem ht, e])
set_option maxHeartbeats 2000000 in
theorem ref_same {w : World} {A A2 : Option Addr} {n c B n2 c2 B2 : Nat} {l l2 : List RM} (hl : Has w B A (rows mc l)) (hB : B ≤ w.heap.size) (hn : l.length = n) (hsm : n ≤ 100000) (wl : WfM l) (hl2 : Has w B2 A2 (rows mc l2)) (hB2 : B2 ≤ w.heap.size) (hn2 : l2.length = n2) (hsm2 : n2 ≤ 100000) (wl2 : WfM l2) :
    Calls Try.prog 52 #[.slice A n c, .slice A2 n2 c2] w fun e w' => e = .returned (.bool (decide (l = l2))) ∧ Fr w w' := by
  have hww := fr_refl w
  by_cases hnn : n = n2
  · subst hnn
    have Hl := keep hl
    have Hn := keep hn
    have Hwl := keep wl
    have Hl2 := keep hl2
    have Hn2 := keep hn2
    have Hwl2 := keep wl2
    clear hl hn wl hl2 hn2 wl2
    go_enter Try.func52, Try.ntmps52
    go_wp2_with fail
    go_loopg [5] n (fun g s5 wr => ∃ j : Nat, j + g = n ∧ s5 = .int .i64 j ∧ Hid (Fr w wr) ∧ Hid (∀ t, t < j → l[t]? = l2[t]?))
    case atStart => exact ⟨0, by omega, rfl, keep hww, keep (fun t h => by omega)⟩
    case round =>
      obtain ⟨j, hj, rfl, hW, hno⟩ := hrel
      by_cases hlt : j < n
      · have hm : l[j]? = some (l[j]'(by rw [Hn.out]; exact hlt)) := List.getElem?_eq_getElem _
        generalize l[j]'(by rw [Hn.out]; exact hlt) = m at hm
        have hm2 : l2[j]? = some (l2[j]'(by rw [Hn2.out]; exact hlt)) := List.getElem?_eq_getElem _
        generalize l2[j]'(by rw [Hn2.out]; exact hlt) = m2 at hm2
        obtain ⟨b, off, rfl, hb1, hr⟩ := has_rows Hl.out Hwl.out.wid (by decide) (by intro e; rw [e] at hm; simp at hm)
        obtain ⟨b2, off2, rfl, hb2, hr2⟩ := has_rows Hl2.out Hwl2.out.wid (by decide) (by intro e; rw [e] at hm2; simp at hm2)
        have lX := elem_ld msgS hr Hwl.out.wid (by omega) hm
        have lX2 := elem_ld msgS hr2 Hwl2.out.wid (by omega) hm2
        have wm := Hwl.out m (mem_at hm)
        have wm2 := Hwl2.out m2 (mem_at hm2)
        have qE := fun W => msg_neq wm wm2 W
        have Hm := keep hm
        have Hm2 := keep hm2
        have hWW := hW.out
        have hWD := fr_drew hWW
        have hjz : (j : Int) < (n : Int) := by omega
        clear hm hr hm2 hr2 hlt
        by_cases hk : m = m2
        · have Hk := keep hk
          rw [decide_eq_true hk] at qE
          simp only [Bool.not_true] at qE
          clear hk wm wm2
          go_wp2_with fail
          go_region_held3 (fun w' => Fr w w') (first | exact hWD | assumption) (first | fail)
          rename_i hH
          go_wp2_with fail
          go_roundg (gk - 1)
          case measure => omega
          case rel => exact ⟨j + 1, by omega, rfl, keep hH, keep (fun t ht => by
            by_cases e : t = j
            · subst e
              rw [Hm.out, Hm2.out, Hk.out]
            · exact hno.out t (by omega))⟩
        · have Hf : Hid (decide (l = l2) = false) := keep (decide_eq_false (fun e => hk (by
            have := Hm.out
            rw [e, Hm2.out] at this
            injection this with this
            exact this.symm)))
          rw [decide_eq_false hk] at qE
          simp only [Bool.not_false] at qE
          clear hk wm wm2
          go_wp2_with fail
          go_region_held3 (fun w' => Fr w w') (first | exact hWD | assumption) (first | fail)
          rename_i hH
          go_wp2_with fail
          go_ret
          exact ⟨by rw [Hf.out]; rfl, hH⟩
      · have hjn : j = n := by omega
        have hjz : ¬ (j : Int) < (n : Int) := by omega
        have he : l = l2 := by
          apply List.ext_getElem?
          intro t
          by_cases ht : t < j
          · exact hno.out t ht
          · rw [List.getElem?_eq_none (by rw [Hn.out]; omega), List.getElem?_eq_none (by rw [Hn2.out]; omega)]
        have Hf : Hid (decide (l = l2) = true) := keep (decide_eq_true he)
        have hWW := hW.out
        clear hlt hjn hno he
        go_wp2_with fail
        go_ret
        exact ⟨by rw [Hf.out]; rfl, hWW⟩
  · have hnz : ¬ (n : Int) = (n2 : Int) := by omega
    have Hf : Hid (decide (l = l2) = false) := keep (decide_eq_false (fun e => hnn (by rw [← hn, ← hn2, e])))
    clear hl hl2 wl wl2 hn hn2
    go_enter Try.func52, Try.ntmps52
    go_wp2_with fail
    go_ret
    exact ⟨by rw [Hf.out]; rfl, hww⟩
end Go.Proofs.Ytcdcaanmmbopbaa
