/- The program's cache: Pin. -/
import Derived.Test.YtmoaddbpfekdbaaGreatM38
namespace Go.Proofs.YtmoaddbpfekdbaaGreat
set_option linter.unusedVariables false
set_option linter.unusedSimpArgs false
set_option linter.unusedSectionVars false
set_option maxRecDepth 100000
open Go.RowKit
attribute [local go_sem ↓] want_ld pfr_ld
section
variable {V : Type} [NVal V]
theorem PTurn.more {w W : World} {Y : Nat → Prop} {g K K' : Nat} {t : Ca V} (k : PTurn w W Y g K t) (hk : K ≤ K') : PTurn w W Y g K' t := by
  obtain ⟨h, h1, h2⟩ := k
  exact ⟨h, h1.more hk, h2⟩
set_option maxHeartbeats 16000000 in
theorem ppin_at {w : World} {g K : Nat} {h : PH} {t : Ca V} (x b : Int) (k : PC w g h K t) (p : PI t) (hs : t.fs.length ≤ 100000) (hl : t.line.length ≤ 100000) (hl2 : t.loads.length ≤ 100000) (hp : PinsOk t) (hK : K ≤ 100000) :
    Calls Tryz.prog 15 #[.pointer (some ⟨g, 0, none⟩), .int .i64 x, .int .i64 b] w fun e w' => e = .returned (.int .i64 (pinC t x b).1) ∧ Hid (PTurn w w' (PHX g h) g (K + 1) (pinC t x b).2) := by
  have HK := keep k
  have cT := isTask_at (x := x)
  have cB := isBlock_at (x := b)
  unfold pinC
  cases hT : okT x with
  | false =>
    rw [hT] at cT
    simp only [Bool.false_and, Bool.false_eq_true, if_false]
    clear k hs hl hl2 hT p hp
    go_enter Tryz.func15, Tryz.ntmps15
    go_wp2_with (first | (refine wpList_store_at (ds := sc (x, b)) want_info rfl (.tmp 7) (.tmp 13) rfl w.heap.size 0 rfl rfl rfl (sc_one _) (zsc_new w) (Nat.le_refl 2) (splice_all _ _ (Nat.le_refl 2)) ?_; intro W5 hM5 hk5; have hF5 := keep (hk5.fr (fr_new (fr_refl w) _) (Nat.le_refl _)); clear hk5; have lM := fun U (h : Fr W5 U) => want_ty.ld (cs := sc (x, b)) rfl (hM5.below h hM5.lt); have h55 := fr_refl W5; clear hM5) | (go_at_call 50; (with_reducible refine (cT _).mono ?_); rintro e w2 ⟨rfl, rfl⟩) | fail)
    go_ret
    exact ⟨rfl, keep (.same (HK.out.more (Nat.le_succ K)) hF5.out fun _ => id)⟩
  | true =>
    rw [hT] at cT
    cases hBl : okBl b with
    | false =>
      rw [hBl] at cB
      simp only [Bool.and_false, Bool.false_and, Bool.false_eq_true, if_false]
      clear k hs hl hl2 hT p hp hBl
      go_enter Tryz.func15, Tryz.ntmps15
      go_wp2_with (first | (refine wpList_store_at (ds := sc (x, b)) want_info rfl (.tmp 7) (.tmp 13) rfl w.heap.size 0 rfl rfl rfl (sc_one _) (zsc_new w) (Nat.le_refl 2) (splice_all _ _ (Nat.le_refl 2)) ?_; intro W5 hM5 hk5; have hF5 := keep (hk5.fr (fr_new (fr_refl w) _) (Nat.le_refl _)); clear hk5; have lM := fun U (h : Fr W5 U) => want_ty.ld (cs := sc (x, b)) rfl (hM5.below h hM5.lt); have h55 := fr_refl W5; clear hM5) | (go_at_call 50; (with_reducible refine (cT _).mono ?_); rintro e w2 ⟨rfl, rfl⟩) | (go_at_call 51; (with_reducible refine (cB _).mono ?_); rintro e w2 ⟨rfl, rfl⟩) | fail)
      go_ret
      exact ⟨rfl, keep (.same (HK.out.more (Nat.le_succ K)) hF5.out fun _ => id)⟩
    | true =>
      rw [hBl] at cB
      have hy : WOk (x, b) := ⟨tk_64 hT, bl_64 hBl⟩
      have cA : ∀ W, Fr w W → Calls Tryz.prog 52 #[.pointer (some ⟨g, 0, none⟩), .agg (sc (x, b)).toArray] W fun e w' => e = .returned (.bool (!busy t x b)) ∧ Fr W w' := fun W f => asks_at (x, b) hy p.wok (k.fr f) hl hl2
      cases nb : busy t x b with
      | true =>
        rw [nb] at cA
        replace cA := show ∀ W, Fr w W → Calls _ _ _ W fun e w' => e = .returned (.bool false) ∧ Fr W w' from cA
        simp only [Bool.not_true, Bool.and_false, Bool.false_eq_true, if_false]
        clear k hs hl hl2 hT p hp hBl nb
        go_enter Tryz.func15, Tryz.ntmps15
        go_wp2_with (first | (refine wpList_store_at (ds := sc (x, b)) want_info rfl (.tmp 7) (.tmp 13) rfl w.heap.size 0 rfl rfl rfl (sc_one _) (zsc_new w) (Nat.le_refl 2) (splice_all _ _ (Nat.le_refl 2)) ?_; intro W5 hM5 hk5; have hF5 := keep (hk5.fr (fr_new (fr_refl w) _) (Nat.le_refl _)); clear hk5; have lM := fun U (h : Fr W5 U) => want_ty.ld (cs := sc (x, b)) rfl (hM5.below h hM5.lt); have h55 := fr_refl W5; clear hM5) | (go_at_call 50; (with_reducible refine (cT _).mono ?_); rintro e w2 ⟨rfl, rfl⟩) | (go_at_call 51; (with_reducible refine (cB _).mono ?_); rintro e w2 ⟨rfl, rfl⟩) | (go_at_call 52; (with_reducible refine (cA _ hF5.out).mono ?_); rintro e W6 ⟨rfl, f6⟩; have hF6 := keep (fr_step hF5.out f6); have l6 := lM _ f6; have c1 : W6.cell? ⟨g, 1, none⟩ = some (.map (some h.m)) := (HK.out.fr hF6.out).cells.2.1; have HM6 := keep (HK.out.fr hF6.out).mp) | fail)
        go_ret
        exact ⟨rfl, keep (.same (HK.out.more (Nat.le_succ K)) hF6.out fun _ => id)⟩
      | false =>
        rw [nb] at cA
        replace cA := show ∀ W, Fr w W → Calls _ _ _ W fun e w' => e = .returned (.bool true) ∧ Fr W w' from cA
        simp only [Bool.not_false, Bool.and_self, if_true]
        have HB64 := keep (bl_64 hBl)
        cases hfb : findB t.fs b with
        | some i =>
          have HFB := keep hfb
          obtain ⟨f, hfi, hisb⟩ := idx_at hfb
          have HFI := keep hfi
          have HP := keep (hp.at hfi)
          have HL := keep hl
          have HL2 := keep hl2
          obtain ⟨a, off, hA, -, -, -⟩ := pframe_cells k.fs.has (Nat.le_refl _) hfi
          have HAD := keep hA
          have hin : i < h.n := by have := (List.getElem?_eq_some_iff.1 hfi).1; have := k.nlen.1; omega
          have hiz : (i : Int) < (h.n : Int) := by omega
          simp only [fr_of hfi]
          by_cases hst : f.st = 2
          · rw [if_pos hst]
            clear k hs hl hl2 hT p hp hBl nb hfb hfi hisb hA
            go_enter Tryz.func15, Tryz.ntmps15
            go_wp2_with (first | (refine wpList_store_at (ds := sc (x, b)) want_info rfl (.tmp 7) (.tmp 13) rfl w.heap.size 0 rfl rfl rfl (sc_one _) (zsc_new w) (Nat.le_refl 2) (splice_all _ _ (Nat.le_refl 2)) ?_; intro W5 hM5 hk5; have hF5 := keep (hk5.fr (fr_new (fr_refl w) _) (Nat.le_refl _)); clear hk5; have lM := fun U (h : Fr W5 U) => want_ty.ld (cs := sc (x, b)) rfl (hM5.below h hM5.lt); have h55 := fr_refl W5; clear hM5) | (go_at_call 50; (with_reducible refine (cT _).mono ?_); rintro e w2 ⟨rfl, rfl⟩) | (go_at_call 51; (with_reducible refine (cB _).mono ?_); rintro e w2 ⟨rfl, rfl⟩) | (go_at_call 52; (with_reducible refine (cA _ hF5.out).mono ?_); rintro e W6 ⟨rfl, f6⟩; have hF6 := keep (fr_step hF5.out f6); have l6 := lM _ f6; have c1 : W6.cell? ⟨g, 1, none⟩ = some (.map (some h.m)) := (HK.out.fr hF6.out).cells.2.1; have HM6 := keep (HK.out.fr hF6.out).mp) | (refine wpList_look_yes rfl (.tmp 32) (.tmp 33) 54 rfl int_k map_k int_k int_z rfl HM6.out b HB64.out rfl HFB.out ?_) | fail)
            have fd6 : Fr W6 W6.drew := fr_drew (fr_refl _)
            have k6 := (HK.out.fr hF6.out).fr fd6
            have c0 : W6.drew.cell? ⟨g, 0, none⟩ = some (.slice (some ⟨a, off, none⟩) h.n h.c) := by rw [← HAD.out]; exact k6.cells.1
            have lD := lM _ (fr_step f6 fd6)
            have KD := keep k6
            clear k6 fd6
            refine wp_region_noPanic ?_
            refine wp_region_held_drew (S := fun _ => True) (by kernel_rfl) trivial (fun hHeld => ?_)
            change wpAnyH _ _ _ _ _ _ _ _ _
            refine wpAnyH_take (i := 0) (v := ?_) rfl (by kernel_rfl) (by kernel_rfl) (by kernel_rfl) (fun _ _ _ h => h) (Or.inl ⟨by rfl, ?_⟩) (by assumption) ?_
            rotate_left
            · intro w' hSw
              try dsimp only at hSw
              go_simp
              try with_reducible rfl
            try simp only [List.getElem_toArray, List.getElem_cons_zero, Act.put, List.setIfInBounds_toArray, List.set_cons_zero, List.set_cons_succ]
            refine wpAnyH_take (i := 1) (v := ?_) rfl (by kernel_rfl) (by kernel_rfl) (by kernel_rfl) (fun _ _ _ h => h) (Or.inl ⟨by rfl, ?_⟩) (by assumption) ?_
            rotate_left
            · intro w' hSw
              try dsimp only at hSw
              go_simp
              try with_reducible rfl
            try simp only [List.getElem_toArray, List.getElem_cons_succ, List.getElem_cons_zero, Act.put, List.setIfInBounds_toArray, List.set_cons_zero, List.set_cons_succ]
            refine wpAnyH_take (i := 2) (v := ?_) rfl (by kernel_rfl) (by kernel_rfl) (by kernel_rfl) (fun _ _ _ h => h) (Or.inl ⟨by rfl, ?_⟩) (by assumption) ?_
            rotate_left
            · intro w' hSw
              try dsimp only at hSw
              go_simp
              try with_reducible rfl
            try simp only [List.getElem_toArray, List.getElem_cons_succ, List.getElem_cons_zero, Act.put, List.setIfInBounds_toArray, List.set_cons_zero, List.set_cons_succ]
            refine wpAnyH_take (i := 3) (v := ?_) rfl (by kernel_rfl) (by kernel_rfl) (by kernel_rfl) (fun _ _ _ h => h) (Or.inl ⟨by rfl, ?_⟩) (by assumption) ?_
            rotate_left
            · intro w' hSw
              try dsimp only at hSw
              go_simp
              try with_reducible rfl
            try simp only [List.getElem_toArray, List.getElem_cons_succ, List.getElem_cons_zero, Act.put, List.setIfInBounds_toArray, List.set_cons_zero, List.set_cons_succ]
            refine wpAnyH_take (i := 5) (v := ?_) rfl (by kernel_rfl) (by kernel_rfl) (by kernel_rfl) (fun _ _ _ h => h) (Or.inl ⟨by rfl, ?_⟩) (by assumption) ?_
            rotate_left
            · intro w' hSw
              try dsimp only at hSw
              go_simp
              try with_reducible rfl
            try simp only [List.getElem_toArray, List.getElem_cons_succ, List.getElem_cons_zero, Act.put, List.setIfInBounds_toArray, List.set_cons_zero, List.set_cons_succ]
            refine wpAnyH_ready (rs := [4, 7]) (by kernel_rfl) (by simp) ?_
            refine AllReadyH.cons rfl (fun K hK0 => ?_) (AllReadyH.cons rfl (fun K hK0 => ?_) (AllReadyH.nil))
            · go_simp
              refine hK0.out _ _ trivial (fun _ => ?_)
              clear hK0 K
              try simp only [List.getElem_toArray, List.getElem_cons_succ, List.getElem_cons_zero, Act.put, List.setIfInBounds_toArray, List.set_cons_zero, List.set_cons_succ]
              refine wpAnyH_take (i := 6) (v := ?_) rfl (by kernel_rfl) (by kernel_rfl) (by kernel_rfl) (fun _ _ _ h => h) (Or.inl ⟨by rfl, ?_⟩) (by assumption) ?_
              rotate_left
              · intro w' hSw
                try dsimp only at hSw
                go_simp
                try with_reducible rfl
              try simp only [List.getElem_toArray, List.getElem_cons_succ, List.getElem_cons_zero, Act.put, List.setIfInBounds_toArray, List.set_cons_zero, List.set_cons_succ]
              refine wpAnyH_ready (rs := [7]) (by kernel_rfl) (by simp) ?_
              refine AllReadyH.cons rfl (fun K hK0 => ?_) AllReadyH.nil
              go_simp
              refine hK0.out _ _ trivial (fun _ => ?_)
              clear hK0 K
              try simp only [List.getElem_toArray, List.getElem_cons_succ, List.getElem_cons_zero, Act.put, List.setIfInBounds_toArray, List.set_cons_zero, List.set_cons_succ]
              refine wpAnyH_ready (rs := [8]) (by kernel_rfl) (by simp) ?_
              refine AllReadyH.cons rfl (fun K hK0 => ?_) AllReadyH.nil
              go_simp
              refine (pjoin_at (x, b) KD.out HAD.out HFI.out HP.out HL.out HL2.out).mono ?_
              rintro e W8 hj8
              obtain ⟨rfl, HJ⟩ := hj8.1 hst
              clear hj8
              go_simp
              refine hK0.out _ _ trivial (fun _ => ?_)
              clear hK0 K
              try simp only [List.getElem_toArray, List.getElem_cons_succ, List.getElem_cons_zero, Act.put, List.setIfInBounds_toArray, List.set_cons_zero, List.set_cons_succ]
              refine wpAnyH_take (i := 9) (v := ?_) rfl (by kernel_rfl) (by kernel_rfl) (by kernel_rfl) (fun _ _ _ h => h) (Or.inl ⟨by rfl, ?_⟩) (by assumption) ?_
              rotate_left
              · intro w' hSw
                try dsimp only at hSw
                go_simp
                try with_reducible rfl
              try simp only [List.getElem_toArray, List.getElem_cons_succ, List.getElem_cons_zero, Act.put, List.setIfInBounds_toArray, List.set_cons_zero, List.set_cons_succ]
              refine wpAnyH_done (by kernel_rfl) ?_ _
              refine NoPanic.normal ?_
              go_wp2_with fail
              go_ret
              exact ⟨rfl, keep ((HJ.out.fr (fr_step hF6.out (fr_drew (fr_refl _)))).more (Nat.le_succ K))⟩
            · go_simp
              refine hK0.out _ _ trivial (fun _ => ?_)
              clear hK0 K
              try simp only [List.getElem_toArray, List.getElem_cons_succ, List.getElem_cons_zero, Act.put, List.setIfInBounds_toArray, List.set_cons_zero, List.set_cons_succ]
              refine wpAnyH_ready (rs := [4]) (by kernel_rfl) (by simp) ?_
              refine AllReadyH.cons rfl (fun K hK0 => ?_) AllReadyH.nil
              go_simp
              refine hK0.out _ _ trivial (fun _ => ?_)
              clear hK0 K
              try simp only [List.getElem_toArray, List.getElem_cons_succ, List.getElem_cons_zero, Act.put, List.setIfInBounds_toArray, List.set_cons_zero, List.set_cons_succ]
              refine wpAnyH_take (i := 6) (v := ?_) rfl (by kernel_rfl) (by kernel_rfl) (by kernel_rfl) (fun _ _ _ h => h) (Or.inl ⟨by rfl, ?_⟩) (by assumption) ?_
              rotate_left
              · intro w' hSw
                try dsimp only at hSw
                go_simp
                try with_reducible rfl
              try simp only [List.getElem_toArray, List.getElem_cons_succ, List.getElem_cons_zero, Act.put, List.setIfInBounds_toArray, List.set_cons_zero, List.set_cons_succ]
              refine wpAnyH_ready (rs := [8]) (by kernel_rfl) (by simp) ?_
              refine AllReadyH.cons rfl (fun K hK0 => ?_) AllReadyH.nil
              go_simp
              refine (pjoin_at (x, b) KD.out HAD.out HFI.out HP.out HL.out HL2.out).mono ?_
              rintro e W8 hj8
              obtain ⟨rfl, HJ⟩ := hj8.1 hst
              clear hj8
              go_simp
              refine hK0.out _ _ trivial (fun _ => ?_)
              clear hK0 K
              try simp only [List.getElem_toArray, List.getElem_cons_succ, List.getElem_cons_zero, Act.put, List.setIfInBounds_toArray, List.set_cons_zero, List.set_cons_succ]
              refine wpAnyH_take (i := 9) (v := ?_) rfl (by kernel_rfl) (by kernel_rfl) (by kernel_rfl) (fun _ _ _ h => h) (Or.inl ⟨by rfl, ?_⟩) (by assumption) ?_
              rotate_left
              · intro w' hSw
                try dsimp only at hSw
                go_simp
                try with_reducible rfl
              try simp only [List.getElem_toArray, List.getElem_cons_succ, List.getElem_cons_zero, Act.put, List.setIfInBounds_toArray, List.set_cons_zero, List.set_cons_succ]
              refine wpAnyH_done (by kernel_rfl) ?_ _
              refine NoPanic.normal ?_
              go_wp2_with fail
              go_ret
              exact ⟨rfl, keep ((HJ.out.fr (fr_step hF6.out (fr_drew (fr_refl _)))).more (Nat.le_succ K))⟩
          · rw [if_neg hst]
            clear k hs hl hl2 hT p hp hBl nb hfb hfi hisb hA
            go_enter Tryz.func15, Tryz.ntmps15
            go_wp2_with (first | (refine wpList_store_at (ds := sc (x, b)) want_info rfl (.tmp 7) (.tmp 13) rfl w.heap.size 0 rfl rfl rfl (sc_one _) (zsc_new w) (Nat.le_refl 2) (splice_all _ _ (Nat.le_refl 2)) ?_; intro W5 hM5 hk5; have hF5 := keep (hk5.fr (fr_new (fr_refl w) _) (Nat.le_refl _)); clear hk5; have lM := fun U (h : Fr W5 U) => want_ty.ld (cs := sc (x, b)) rfl (hM5.below h hM5.lt); have h55 := fr_refl W5; clear hM5) | (go_at_call 50; (with_reducible refine (cT _).mono ?_); rintro e w2 ⟨rfl, rfl⟩) | (go_at_call 51; (with_reducible refine (cB _).mono ?_); rintro e w2 ⟨rfl, rfl⟩) | (go_at_call 52; (with_reducible refine (cA _ hF5.out).mono ?_); rintro e W6 ⟨rfl, f6⟩; have hF6 := keep (fr_step hF5.out f6); have l6 := lM _ f6; have c1 : W6.cell? ⟨g, 1, none⟩ = some (.map (some h.m)) := (HK.out.fr hF6.out).cells.2.1; have HM6 := keep (HK.out.fr hF6.out).mp) | (refine wpList_look_yes rfl (.tmp 32) (.tmp 33) 54 rfl int_k map_k int_k int_z rfl HM6.out b HB64.out rfl HFB.out ?_) | fail)
            have fd6 : Fr W6 W6.drew := fr_drew (fr_refl _)
            have k6 := (HK.out.fr hF6.out).fr fd6
            have c0 : W6.drew.cell? ⟨g, 0, none⟩ = some (.slice (some ⟨a, off, none⟩) h.n h.c) := by rw [← HAD.out]; exact k6.cells.1
            have lD := lM _ (fr_step f6 fd6)
            have KD := keep k6
            clear k6 fd6
            refine wp_region_noPanic ?_
            refine wp_region_held_drew (S := fun _ => True) (by kernel_rfl) trivial (fun hHeld => ?_)
            change wpAnyH _ _ _ _ _ _ _ _ _
            refine wpAnyH_take (i := 0) (v := ?_) rfl (by kernel_rfl) (by kernel_rfl) (by kernel_rfl) (fun _ _ _ h => h) (Or.inl ⟨by rfl, ?_⟩) (by assumption) ?_
            rotate_left
            · intro w' hSw
              try dsimp only at hSw
              go_simp
              try with_reducible rfl
            try simp only [List.getElem_toArray, List.getElem_cons_zero, Act.put, List.setIfInBounds_toArray, List.set_cons_zero, List.set_cons_succ]
            refine wpAnyH_take (i := 1) (v := ?_) rfl (by kernel_rfl) (by kernel_rfl) (by kernel_rfl) (fun _ _ _ h => h) (Or.inl ⟨by rfl, ?_⟩) (by assumption) ?_
            rotate_left
            · intro w' hSw
              try dsimp only at hSw
              go_simp
              try with_reducible rfl
            try simp only [List.getElem_toArray, List.getElem_cons_succ, List.getElem_cons_zero, Act.put, List.setIfInBounds_toArray, List.set_cons_zero, List.set_cons_succ]
            refine wpAnyH_take (i := 2) (v := ?_) rfl (by kernel_rfl) (by kernel_rfl) (by kernel_rfl) (fun _ _ _ h => h) (Or.inl ⟨by rfl, ?_⟩) (by assumption) ?_
            rotate_left
            · intro w' hSw
              try dsimp only at hSw
              go_simp
              try with_reducible rfl
            try simp only [List.getElem_toArray, List.getElem_cons_succ, List.getElem_cons_zero, Act.put, List.setIfInBounds_toArray, List.set_cons_zero, List.set_cons_succ]
            refine wpAnyH_take (i := 3) (v := ?_) rfl (by kernel_rfl) (by kernel_rfl) (by kernel_rfl) (fun _ _ _ h => h) (Or.inl ⟨by rfl, ?_⟩) (by assumption) ?_
            rotate_left
            · intro w' hSw
              try dsimp only at hSw
              go_simp
              try with_reducible rfl
            try simp only [List.getElem_toArray, List.getElem_cons_succ, List.getElem_cons_zero, Act.put, List.setIfInBounds_toArray, List.set_cons_zero, List.set_cons_succ]
            refine wpAnyH_take (i := 5) (v := ?_) rfl (by kernel_rfl) (by kernel_rfl) (by kernel_rfl) (fun _ _ _ h => h) (Or.inl ⟨by rfl, ?_⟩) (by assumption) ?_
            rotate_left
            · intro w' hSw
              try dsimp only at hSw
              go_simp
              try with_reducible rfl
            try simp only [List.getElem_toArray, List.getElem_cons_succ, List.getElem_cons_zero, Act.put, List.setIfInBounds_toArray, List.set_cons_zero, List.set_cons_succ]
            refine wpAnyH_ready (rs := [4, 7]) (by kernel_rfl) (by simp) ?_
            refine AllReadyH.cons rfl (fun K hK0 => ?_) (AllReadyH.cons rfl (fun K hK0 => ?_) (AllReadyH.nil))
            · go_simp
              refine hK0.out _ _ trivial (fun _ => ?_)
              clear hK0 K
              try simp only [List.getElem_toArray, List.getElem_cons_succ, List.getElem_cons_zero, Act.put, List.setIfInBounds_toArray, List.set_cons_zero, List.set_cons_succ]
              refine wpAnyH_take (i := 6) (v := ?_) rfl (by kernel_rfl) (by kernel_rfl) (by kernel_rfl) (fun _ _ _ h => h) (Or.inl ⟨by rfl, ?_⟩) (by assumption) ?_
              rotate_left
              · intro w' hSw
                try dsimp only at hSw
                go_simp
                try with_reducible rfl
              try simp only [List.getElem_toArray, List.getElem_cons_succ, List.getElem_cons_zero, Act.put, List.setIfInBounds_toArray, List.set_cons_zero, List.set_cons_succ]
              refine wpAnyH_ready (rs := [7]) (by kernel_rfl) (by simp) ?_
              refine AllReadyH.cons rfl (fun K hK0 => ?_) AllReadyH.nil
              go_simp
              refine hK0.out _ _ trivial (fun _ => ?_)
              clear hK0 K
              try simp only [List.getElem_toArray, List.getElem_cons_succ, List.getElem_cons_zero, Act.put, List.setIfInBounds_toArray, List.set_cons_zero, List.set_cons_succ]
              refine wpAnyH_ready (rs := [8]) (by kernel_rfl) (by simp) ?_
              refine AllReadyH.cons rfl (fun K hK0 => ?_) AllReadyH.nil
              go_simp
              refine (pjoin_at (x, b) KD.out HAD.out HFI.out HP.out HL.out HL2.out).mono ?_
              rintro e W8 hj8
              obtain ⟨rfl, HJ⟩ := hj8.2 hst
              clear hj8
              go_simp
              refine hK0.out _ _ trivial (fun _ => ?_)
              clear hK0 K
              try simp only [List.getElem_toArray, List.getElem_cons_succ, List.getElem_cons_zero, Act.put, List.setIfInBounds_toArray, List.set_cons_zero, List.set_cons_succ]
              refine wpAnyH_take (i := 9) (v := ?_) rfl (by kernel_rfl) (by kernel_rfl) (by kernel_rfl) (fun _ _ _ h => h) (Or.inl ⟨by rfl, ?_⟩) (by assumption) ?_
              rotate_left
              · intro w' hSw
                try dsimp only at hSw
                go_simp
                try with_reducible rfl
              try simp only [List.getElem_toArray, List.getElem_cons_succ, List.getElem_cons_zero, Act.put, List.setIfInBounds_toArray, List.set_cons_zero, List.set_cons_succ]
              refine wpAnyH_done (by kernel_rfl) ?_ _
              refine NoPanic.normal ?_
              go_wp2_with fail
              go_ret
              exact ⟨rfl, keep ((HJ.out.fr (fr_step hF6.out (fr_drew (fr_refl _)))).more (Nat.le_succ K))⟩
            · go_simp
              refine hK0.out _ _ trivial (fun _ => ?_)
              clear hK0 K
              try simp only [List.getElem_toArray, List.getElem_cons_succ, List.getElem_cons_zero, Act.put, List.setIfInBounds_toArray, List.set_cons_zero, List.set_cons_succ]
              refine wpAnyH_ready (rs := [4]) (by kernel_rfl) (by simp) ?_
              refine AllReadyH.cons rfl (fun K hK0 => ?_) AllReadyH.nil
              go_simp
              refine hK0.out _ _ trivial (fun _ => ?_)
              clear hK0 K
              try simp only [List.getElem_toArray, List.getElem_cons_succ, List.getElem_cons_zero, Act.put, List.setIfInBounds_toArray, List.set_cons_zero, List.set_cons_succ]
              refine wpAnyH_take (i := 6) (v := ?_) rfl (by kernel_rfl) (by kernel_rfl) (by kernel_rfl) (fun _ _ _ h => h) (Or.inl ⟨by rfl, ?_⟩) (by assumption) ?_
              rotate_left
              · intro w' hSw
                try dsimp only at hSw
                go_simp
                try with_reducible rfl
              try simp only [List.getElem_toArray, List.getElem_cons_succ, List.getElem_cons_zero, Act.put, List.setIfInBounds_toArray, List.set_cons_zero, List.set_cons_succ]
              refine wpAnyH_ready (rs := [8]) (by kernel_rfl) (by simp) ?_
              refine AllReadyH.cons rfl (fun K hK0 => ?_) AllReadyH.nil
              go_simp
              refine (pjoin_at (x, b) KD.out HAD.out HFI.out HP.out HL.out HL2.out).mono ?_
              rintro e W8 hj8
              obtain ⟨rfl, HJ⟩ := hj8.2 hst
              clear hj8
              go_simp
              refine hK0.out _ _ trivial (fun _ => ?_)
              clear hK0 K
              try simp only [List.getElem_toArray, List.getElem_cons_succ, List.getElem_cons_zero, Act.put, List.setIfInBounds_toArray, List.set_cons_zero, List.set_cons_succ]
              refine wpAnyH_take (i := 9) (v := ?_) rfl (by kernel_rfl) (by kernel_rfl) (by kernel_rfl) (fun _ _ _ h => h) (Or.inl ⟨by rfl, ?_⟩) (by assumption) ?_
              rotate_left
              · intro w' hSw
                try dsimp only at hSw
                go_simp
                try with_reducible rfl
              try simp only [List.getElem_toArray, List.getElem_cons_succ, List.getElem_cons_zero, Act.put, List.setIfInBounds_toArray, List.set_cons_zero, List.set_cons_succ]
              refine wpAnyH_done (by kernel_rfl) ?_ _
              refine NoPanic.normal ?_
              go_wp2_with fail
              go_ret
              exact ⟨rfl, keep ((HJ.out.fr (fr_step hF6.out (fr_drew (fr_refl _)))).more (Nat.le_succ K))⟩
        | none =>
          have HFB := keep hfb
          cases ht : takeI t x with
          | none =>
            have cO : ∀ W, Fr w W → Calls Tryz.prog 54 #[.pointer (some ⟨g, 0, none⟩), .agg (sc (x, b)).toArray] W fun e w' => e = .returned (.int .i64 (-1)) ∧ Hid (PTurn W w' (PHX g h) g K { t with line := queue t.line x b }) := fun W f => pobtain_no (x, b) hy p.wok nb (k.fr f) hs hl ht
            have hz : ((-1 : Int) == -1) = true := rfl
            clear k hs hl hl2 hT p hp hBl nb hfb ht
            go_enter Tryz.func15, Tryz.ntmps15
            go_wp2_with (first | (refine wpList_store_at (ds := sc (x, b)) want_info rfl (.tmp 7) (.tmp 13) rfl w.heap.size 0 rfl rfl rfl (sc_one _) (zsc_new w) (Nat.le_refl 2) (splice_all _ _ (Nat.le_refl 2)) ?_; intro W5 hM5 hk5; have hF5 := keep (hk5.fr (fr_new (fr_refl w) _) (Nat.le_refl _)); clear hk5; have lM := fun U (h : Fr W5 U) => want_ty.ld (cs := sc (x, b)) rfl (hM5.below h hM5.lt); have h55 := fr_refl W5; clear hM5) | (go_at_call 50; (with_reducible refine (cT _).mono ?_); rintro e w2 ⟨rfl, rfl⟩) | (go_at_call 51; (with_reducible refine (cB _).mono ?_); rintro e w2 ⟨rfl, rfl⟩) | (go_at_call 52; (with_reducible refine (cA _ hF5.out).mono ?_); rintro e W6 ⟨rfl, f6⟩; have hF6 := keep (fr_step hF5.out f6); have l6 := lM _ f6; have c1 : W6.cell? ⟨g, 1, none⟩ = some (.map (some h.m)) := (HK.out.fr hF6.out).cells.2.1; have HM6 := keep (HK.out.fr hF6.out).mp) | (refine wpList_look_no rfl (.tmp 32) (.tmp 33) 54 rfl int_k map_k int_k int_z rfl HM6.out b HB64.out rfl HFB.out ?_) | (go_at_call 54; (with_reducible refine (cO _ hF6.out).mono ?_); rintro e W7 ⟨rfl, H7⟩) | fail)
            go_ret
            exact ⟨rfl, keep ((H7.out.fr hF6.out).more (Nat.le_succ K))⟩
          | some i =>
            have cO : ∀ W, Fr w W → Calls Tryz.prog 54 #[.pointer (some ⟨g, 0, none⟩), .agg (sc (x, b)).toArray] W fun e w' => e = .returned (.int .i64 (i : Int)) ∧ Hid (PTurn W w' (PHX g h) g K { t with line := leave t.line x }) := fun W f => pobtain_yes (x, b) hy p.wok nb (k.fr f) hs hl ht
            have hz : ((i : Int) == -1) = false := by first | (simp; omega) | simp
            obtain ⟨fo, hfo, hf0⟩ := free_ix (take_free ht)
            have HFI := keep (show t.fs[i]? = some fo ∧ fo.st = 0 from ⟨hfo, hf0⟩)
            have HKM : Hid (K < maxLen) := keep (by simp only [maxLen]; omega)
            have HI64 : Hid (W64 (i : Int)) := keep (by have := (List.getElem?_eq_some_iff.1 hfo).1; exact ⟨by omega, by omega⟩)
            clear k hs hl hl2 hT p hp hBl nb hfb ht hfo hf0
            go_enter Tryz.func15, Tryz.ntmps15
            go_wp2_with (first | (refine wpList_store_at (ds := sc (x, b)) want_info rfl (.tmp 7) (.tmp 13) rfl w.heap.size 0 rfl rfl rfl (sc_one _) (zsc_new w) (Nat.le_refl 2) (splice_all _ _ (Nat.le_refl 2)) ?_; intro W5 hM5 hk5; have hF5 := keep (hk5.fr (fr_new (fr_refl w) _) (Nat.le_refl _)); clear hk5; have lM := fun U (h : Fr W5 U) => want_ty.ld (cs := sc (x, b)) rfl (hM5.below h hM5.lt); have h55 := fr_refl W5; clear hM5) | (go_at_call 50; (with_reducible refine (cT _).mono ?_); rintro e w2 ⟨rfl, rfl⟩) | (go_at_call 51; (with_reducible refine (cB _).mono ?_); rintro e w2 ⟨rfl, rfl⟩) | (go_at_call 52; (with_reducible refine (cA _ hF5.out).mono ?_); rintro e W6 ⟨rfl, f6⟩; have hF6 := keep (fr_step hF5.out f6); have l6 := lM _ f6; have c1 : W6.cell? ⟨g, 1, none⟩ = some (.map (some h.m)) := (HK.out.fr hF6.out).cells.2.1; have HM6 := keep (HK.out.fr hF6.out).mp) | (refine wpList_look_no rfl (.tmp 32) (.tmp 33) 54 rfl int_k map_k int_k int_z rfl HM6.out b HB64.out rfl HFB.out ?_) | (go_at_call 54; (with_reducible refine (cO _ hF6.out).mono ?_); rintro e W7 ⟨rfl, H7⟩) | fail)
            obtain ⟨h2, k2, k3, k4⟩ := H7.out
            obtain ⟨a, off, hA, -, -, -⟩ := pframe_cells k2.fs.has (Nat.le_refl _) HFI.out.1
            have hR := k2.fs
            rw [hA] at hR
            have HRW := keep hR
            have HAW := keep hA
            have HGA : Hid (g ≠ a) := keep (fun e => k2.ng.1 (by rw [hA, e]; rfl))
            have hln := k2.nlen.1
            have HLN := keep (show t.fs.length = h2.n from hln)
            have hix : i < h2.n := by rw [← HLN.out]; exact (List.getElem?_eq_some_iff.1 HFI.out.1).1
            have HIX := keep hix
            have hiz : (i : Int) < (h2.n : Int) := by omega
            have sd : W7.drew.cell? ⟨g, 0, none⟩ = some (.slice (some ⟨a, off, none⟩) h2.n h2.c) := by rw [← hA]; exact k2.cells.1
            have HKW := keep (show PC W7 g h2 K { t with line := leave t.line x } ∧ _ ∧ _ from ⟨k2, k3, k4⟩)
            clear k2 k3 k4 hA hR hln H7
            refine wp_region_noPanic ?_
            refine wp_region_held_drew (S := fun U => U.cell? ⟨g, 0, none⟩ = some (Value.slice (some ⟨a, off, none⟩) h2.n h2.c)) (by kernel_rfl) sd (fun hHeld => ?_)
            change wpAnyH _ _ _ _ _ _ _ _ _
            refine wpAnyH_take (i := 0) (v := ?_) rfl (by kernel_rfl) (by kernel_rfl) (by kernel_rfl) (fun _ _ _ h => h) (Or.inl ⟨by rfl, ?_⟩) (by assumption) ?_
            rotate_left
            · intro w' hSw
              try dsimp only at hSw
              go_simp
              try with_reducible rfl
            try simp only [List.getElem_toArray, List.getElem_cons_zero, Act.put, List.setIfInBounds_toArray, List.set_cons_zero, List.set_cons_succ]
            refine wpAnyH_take (i := 1) (v := ?_) rfl (by kernel_rfl) (by kernel_rfl) (by kernel_rfl) (fun _ _ _ h => h) (Or.inl ⟨by rfl, ?_⟩) (by assumption) ?_
            rotate_left
            · intro w' hSw
              try dsimp only at hSw
              go_simp
              try with_reducible rfl
            try simp only [List.getElem_toArray, List.getElem_cons_succ, List.getElem_cons_zero, Act.put, List.setIfInBounds_toArray, List.set_cons_zero, List.set_cons_succ]
            refine wpAnyH_take (i := 2) (v := ?_) rfl (by kernel_rfl) (by kernel_rfl) (by kernel_rfl) (fun _ _ _ h => h) (Or.inl ⟨by rfl, ?_⟩) (by assumption) ?_
            rotate_left
            · intro w' hSw
              try dsimp only at hSw
              go_simp
              try with_reducible rfl
            try simp only [List.getElem_toArray, List.getElem_cons_succ, List.getElem_cons_zero, Act.put, List.setIfInBounds_toArray, List.set_cons_zero, List.set_cons_succ]
            refine wpAnyH_take (i := 3) (v := ?_) rfl (by kernel_rfl) (by kernel_rfl) (by kernel_rfl) (fun _ _ _ h => h) (Or.inl ⟨by rfl, ?_⟩) (by assumption) ?_
            rotate_left
            · intro w' hSw
              try dsimp only at hSw
              go_simp
              try with_reducible rfl
            try simp only [List.getElem_toArray, List.getElem_cons_succ, List.getElem_cons_zero, Act.put, List.setIfInBounds_toArray, List.set_cons_zero, List.set_cons_succ]
            refine wpAnyH_take (i := 4) (v := ?_) rfl (by kernel_rfl) (by kernel_rfl) (by kernel_rfl) (fun _ _ _ h => h) (Or.inl ⟨by rfl, ?_⟩) (by assumption) ?_
            rotate_left
            · intro w' hSw
              try dsimp only at hSw
              go_simp
              try with_reducible rfl
            try simp only [List.getElem_toArray, List.getElem_cons_succ, List.getElem_cons_zero, Act.put, List.setIfInBounds_toArray, List.set_cons_zero, List.set_cons_succ]
            refine wpAnyH_take (i := 5) (v := ?_) rfl (by kernel_rfl) (by kernel_rfl) (by kernel_rfl) (fun _ _ _ h => h) (Or.inl ⟨by rfl, ?_⟩) (by assumption) ?_
            rotate_left
            · intro w' hSw
              try dsimp only at hSw
              go_simp
              try with_reducible rfl
            try simp only [List.getElem_toArray, List.getElem_cons_succ, List.getElem_cons_zero, Act.put, List.setIfInBounds_toArray, List.set_cons_zero, List.set_cons_succ]
            refine wpAnyH_ready (rs := [6]) (by kernel_rfl) (by simp) ?_
            refine AllReadyH.cons rfl (fun K hK0 => ?_) AllReadyH.nil
            go_simp
            refine (loading_at (V := V) _ b).mono ?_
            rintro e w4 ⟨rfl, f4⟩
            go_simp
            have s4 := (f4.cell (show (⟨g, 0, none⟩ : Addr).block < _ from HKW.out.1.box.lt)).trans sd
            refine hK0.out _ _ s4 (fun _ => ?_)
            clear hK0 K
            try simp only [List.getElem_toArray, List.getElem_cons_succ, List.getElem_cons_zero, Act.put, List.setIfInBounds_toArray, List.set_cons_zero, List.set_cons_succ]
            refine wpAnyH_take (i := 7) (v := ?_) rfl (by kernel_rfl) (by kernel_rfl) (by kernel_rfl) (fun _ _ _ h => h) (Or.inl ⟨by rfl, ?_⟩) (by assumption) ?_
            rotate_left
            · intro w' hSw
              try dsimp only at hSw
              go_simp
              try with_reducible rfl
            try simp only [List.getElem_toArray, List.getElem_cons_succ, List.getElem_cons_zero, Act.put, List.setIfInBounds_toArray, List.set_cons_zero, List.set_cons_succ]
            refine wpAnyH_ready (rs := [8]) (by kernel_rfl) (by simp) ?_
            refine AllReadyH.cons rfl (fun K hK0 => ?_) AllReadyH.nil
            refine step_store_rw (cf := pc) (x := ⟨1, b, 1, true, false, default, 0⟩) (j := i) pfr_info (wanted_plain16 rfl _) (.tmp 59) (.tmp 58) rfl rfl rfl (pc_len _) (pc_one _) (HRW.out.fr (fr_step (fr_drew (fr_refl _)) f4)) (pc_wid _) HLN.out HIX.out ?_
            intro w5 h5 c5
            have s5 := (c5.cell (p := ⟨g, 0, none⟩) (by have := f4.size; have := HKW.out.1.box.lt; show g < _; exact Nat.lt_of_lt_of_le this f4.size) (fun e => HGA.out e)).trans s4
            have H5 := keep (show Rw w5 _ _ _ _ _ _ ∧ Chg _ w4 w5 ∧ Fr W7 w4 from ⟨h5, c5, fr_step (fr_drew (fr_refl _)) f4⟩)
            clear h5 c5
            refine hK0.out _ _ s5 (fun _ => ?_)
            clear hK0 K
            try simp only [List.getElem_toArray, List.getElem_cons_succ, List.getElem_cons_zero, Act.put, List.setIfInBounds_toArray, List.set_cons_zero, List.set_cons_succ]
            refine wpAnyH_done (by kernel_rfl) ?_ _
            refine NoPanic.normal ?_
            obtain ⟨h5, c5, f4⟩ := H5.out
            have k4 := HKW.out.1.fr f4
            have hA5 : Chg (At h2.A) w4 w5 := c5.weak fun j _ hj => by rw [HAW.out]; exact congrArg some hj.symm
            have c1 : w5.cell? ⟨g, 1, none⟩ = some (.map (some h2.m)) := (hA5.cell (p := ⟨g, 1, none⟩) k4.box.lt k4.ng.1).trans k4.cells.2.1
            have HMD := keep (k4.mp.chg hA5 fun ha => (k4.nA ha).2.2 rfl)
            have HE := keep (show Rw w5 52 14 h2.A h2.n h2.c (rows pc (t.fs.set i (⟨1, b, 1, true, false, default, 0⟩ : Fra V))) ∧ Chg (At h2.A) w4 w5 ∧ PC w4 g h2 K _ from ⟨by rw [HAW.out]; exact h5, hA5, k4⟩)
            have HF4 := keep f4
            clear h5 c5 f4 k4 hA5
            go_wp2_with (first
              | (refine wpList_put_pm rfl (.tmp 63) (.tmp 64) (.tmp 65) 54 rfl int_k map_k int_k rfl HMD.out HKM.out b HB64.out rfl i HI64.out rfl ?_; intro W9 m9 c9; have H9 := keep (show PMap _ _ _ W9 _ _ _ ∧ Chg _ w5 W9 from ⟨m9, c9⟩); clear m9 c9)
              | fail)
            go_ret
            refine ⟨rfl, keep ?_⟩
            obtain ⟨h5, a5, k4⟩ := HE.out
            obtain ⟨m9, c9⟩ := H9.out
            refine PTurn.fr ?_ hF6.out
            refine PTurn.step HKW.out.1 HKW.out.2.1 HKW.out.2.2 ?_
            refine PTurn.fr ?_ HF4.out
            have c59 : Chg (· = h2.m) w5 W9 := c9
            have kP := k4.placed h5 a5 m9 c59 (fun c => find_new (n := (⟨1, b, 1, true, false, default, 0⟩ : Fra V)) HFI.out.1 (.inl HFI.out.2) (.inl rfl) HFB.out c)
            exact ⟨h2, kP, (a5.weak fun j _ hj => .inr (.inl hj)).trans (c59.weak fun j _ hj => .inr (.inr (.inl hj))), fun _ hj => .inl hj⟩
end
end Go.Proofs.YtmoaddbpfekdbaaGreat
