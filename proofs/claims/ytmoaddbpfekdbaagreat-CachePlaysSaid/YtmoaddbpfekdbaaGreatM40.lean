/- The program's cache: May. -/
import Derived.Test.YtmoaddbpfekdbaaGreatM32
import Derived.Test.YtmoaddbpfekdbaaGreatM36
namespace Go.Proofs.YtmoaddbpfekdbaaGreat
set_option linter.unusedVariables false
set_option linter.unusedSimpArgs false
set_option linter.unusedSectionVars false
set_option maxRecDepth 100000
open Go.RowKit
attribute [local go_sem ↓] want_ld pfr_ld
theorem PMap.run_look {P : Program} {k e t : TypeId} {w : World} {m K : Nat} {F : Int → Option Nat} (h : PMap P k e w m K F) (hk : P.underlying k = some (.int .i64)) (ht : P.underlying t = some (.map k e)) (he : P.underlying e = some (.int .i64)) (hz : ∀ w, (zeroValue e).run P w = .ok (.int .i64 0) w) (b : Int) (hb : W64 b) :
    (Instr.lookup t (.map (some m)) (.int .i64 b) true).run P w = .ok (.tuple #[.int .i64 ((F b).getD 0 : Nat), .bool (F b).isSome]) w := by
  obtain ⟨D, h1, h2⟩ := h
  obtain ⟨h3, h4⟩ := h2 b hb
  obtain ⟨v, ps, hr, hv⟩ := h1.look_ok (Go.Maps.int_keyed hk) ht (hz w) (plainElem_int he (show (Lit.int .i64 0).wf = true from by decide)) (Go.Maps.keyOf_int_mk hk hb.wf)
  obtain ⟨c, rfl, hc, -⟩ := plainElem_int_inv he hv
  have hc := congrArg Prod.fst hc
  rw [h3] at hr
  have e9 : c = ((F b).getD 0 : Nat) := by
    cases hf : F b with
    | none =>
      rw [hf] at h3
      rw [show D.atKey (.int .i64 b) (.lit (.int .i64 0)) = _ from Go.Maps.atKey_of_not_has h3 _] at hc
      injection hc with hc
      injection hc with _ hc
      exact hc.symm
    | some i =>
      rw [show D.atKey (.int .i64 b) (.lit (.int .i64 0)) = _ from h4 i hf] at hc
      injection hc with hc
      injection hc with _ hc
      exact hc.symm
  rw [← e9]
  exact hr
section
variable {V : Type} [NVal V]
theorem free_pos (l : List (Fra V)) : decide ((0 : Int) < ((freeN l : Nat) : Int)) = (freeI l).isSome := by
  unfold freeN freeI
  cases h : l.findIdx? (fun f => f.st == 0) with
  | none =>
    have := List.findIdx?_eq_none_iff.1 h
    have e : l.countP (fun f => f.st == 0) = 0 := List.countP_eq_zero.2 fun f hf => by rw [this f hf]; simp
    rw [e]; rfl
  | some i =>
    obtain ⟨f, h1, h2⟩ := idx_at h
    have : 0 < l.countP (fun f => f.st == 0) := List.countP_pos_iff.2 ⟨f, List.mem_of_getElem? h1, h2⟩
    have h3 : (0 : Int) < ((l.countP (fun f => f.st == 0) : Nat) : Int) := by omega
    rw [decide_eq_true h3]; rfl
theorem ahead_ix {l : List (Int × Int)} {x : Int} {j : Nat} (h : atI l x = some j) : ahead l x = (j == 0) := by
  cases l with
  | nil => cases h
  | cons p r =>
    unfold atI at h
    rw [List.findIdx?_cons] at h
    unfold ahead
    cases hp : p.1 == x with
    | true => rw [hp] at h; simp at h; subst h; show (p.1 == x) = _; rw [hp]; rfl
    | false =>
      rw [hp] at h
      simp only [Bool.false_eq_true, if_false] at h
      cases hq : List.findIdx? (fun p : Int × Int => p.1 == x) r with
      | none => rw [hq] at h; cases h
      | some i => rw [hq] at h; injection h with h; subst h; show (p.1 == x) = _; rw [hp]; rfl
theorem find_m1 {t : Ca V} (p : PI t) (q : Int × Int) (hq : q ∈ t.line) : (decide (0 ≤ q.2) && (findB t.fs q.2).isSome) = (findB t.fs q.2).isSome := by
  rcases (p.ln q hq).2 with e | e
  · rw [e]
    have : findB t.fs (-1) = none := List.findIdx?_eq_none_iff.2 fun f hf => by
      cases hb : isB (-1) f with
      | false => rfl
      | true =>
        unfold isB at hb
        simp at hb
        have := (p.fr f hf).1 hb.2
        rw [hb.1] at this
        cases this
    rw [this]; rfl
  · have := (okBl_iff.1 e).1
    simp [this]
set_option maxHeartbeats 16000000 in
theorem pmay_at {w : World} {g K : Nat} {h : PH} {t : Ca V} (x : Int) (k : PC w g h K t) (p : PI t) (hs : t.fs.length ≤ 100000) (hl : t.line.length ≤ 100000) (hl2 : t.loads.length ≤ 100000) :
    Calls Tryz.prog 22 #[.pointer (some ⟨g, 0, none⟩), .int .i64 x] w fun e w' => e = .returned (.bool (mayC t x)) ∧ Fr w w' := by
  have hww := fr_refl w
  obtain ⟨-, hm, hn⟩ := k.nlen
  have cT := isTask_at (x := x)
  have cL : ∀ W, Fr w W → Calls Tryz.prog 59 #[.slice h.B h.bn h.bc, .int .i64 x] W fun e w' => e = .returned (.int .i64 (pos (atI t.line x))) ∧ Fr w w' := fun W f => by
    refine (place_at (c := h.bc) x (k.fr f).ln.has (Nat.le_refl _) hm (by omega)).mono ?_
    rintro e w' ⟨rfl, f2⟩
    exact ⟨rfl, fr_step f f2⟩
  have cD : ∀ W, Fr w W → Calls Tryz.prog 59 #[.slice h.L h.ln h.lc, .int .i64 x] W fun e w' => e = .returned (.int .i64 (pos (atI t.loads x))) ∧ Fr w w' := fun W f => by
    refine (place_at (c := h.lc) x (k.fr f).ld.has (Nat.le_refl _) hn (by omega)).mono ?_
    rintro e w' ⟨rfl, f2⟩
    exact ⟨rfl, fr_step f f2⟩
  have cN : ∀ W, Fr w W → Calls Tryz.prog 23 #[.pointer (some ⟨g, 0, none⟩)] W fun e w' => e = .returned (.int .i64 (freeN t.fs : Nat)) ∧ Fr w w' := fun W f => by
    refine (pfreen_at (k.fr f) hs).mono ?_
    rintro e w' ⟨rfl, f2⟩
    exact ⟨rfl, fr_step f f2⟩
  have gl := k.box.lt
  have c1 : ∀ W, Fr w W → W.cell? ⟨g, 1, none⟩ = some (.map (some h.m)) := fun W f => (f.cell gl).trans k.cells.2.1
  have c2 : ∀ W, Fr w W → W.cell? ⟨g, 2, none⟩ = some (.slice h.B h.bn h.bc) := fun W f => (f.cell gl).trans k.cells.2.2.1
  have c3 : ∀ W, Fr w W → W.cell? ⟨g, 3, none⟩ = some (.slice h.L h.ln h.lc) := fun W f => (f.cell gl).trans k.cells.2.2.2.1
  unfold mayC
  rw [not_stand]
  cases hT : okT x with
  | false =>
    rw [hT] at cT
    simp only [Bool.false_and]
    clear k p hs hl hl2 hm hn hT gl
    go_enter Tryz.func22, Tryz.ntmps22
    go_wp2_with (first | (go_at_call 50; (with_reducible refine (cT _).mono ?_); rintro e w2 ⟨rfl, rfl⟩) | fail)
    go_ret
    exact ⟨rfl, hww⟩
  | true =>
    rw [hT] at cT
    cases hd : atI t.loads x with
    | some j =>
      rw [hd] at cD
      replace cD := show ∀ W, Fr w W → Calls _ _ _ W fun e w' => e = .returned (.int .i64 (j : Int)) ∧ Fr w w' from cD
      have hz : ((j : Int) != -1) = true := by first | (simp; omega) | simp
      simp only [Option.isSome_some, Bool.not_true, Bool.and_false, Bool.false_and]
      clear k p hs hl hl2 hm hn hT gl hd
      go_enter Tryz.func22, Tryz.ntmps22
      go_wp2_with (first | (go_at_call 50; (with_reducible refine (cT _).mono ?_); rintro e w2 ⟨rfl, rfl⟩) | (go_at_call 59; (with_reducible refine (cD _ (by assumption)).mono ?_); rintro e W2 ⟨rfl, f2⟩) | fail)
      go_ret
      exact ⟨rfl, by assumption⟩
    | none =>
      rw [hd] at cD
      replace cD := show ∀ W, Fr w W → Calls _ _ _ W fun e w' => e = .returned (.int .i64 (-1)) ∧ Fr w w' from cD
      have hz : ((-1 : Int) != -1) = false := rfl
      simp only [Option.isSome_none, Bool.not_false, Bool.and_true, Bool.true_and]
      cases ha : atI t.line x with
      | none =>
        rw [ha] at cL
        replace cL := show ∀ W, Fr w W → Calls _ _ _ W fun e w' => e = .returned (.int .i64 (-1)) ∧ Fr w w' from cL
        rw [stand_none ha]
        have hz2 : ((-1 : Int) == -1) = true := rfl
        clear k p hs hl hl2 hm hn hT gl hd ha
        go_enter Tryz.func22, Tryz.ntmps22
        go_wp2_with (first | (go_at_call 50; (with_reducible refine (cT _).mono ?_); rintro e w2 ⟨rfl, rfl⟩) | (go_at_call 59; (with_reducible refine (cD _ (by assumption)).mono ?_); rintro e W2 ⟨rfl, f2⟩) | (go_at_call 59; (with_reducible refine (cL _ (by assumption)).mono ?_); rintro e W3 ⟨rfl, f3⟩) | fail)
        go_ret
        exact ⟨rfl, by assumption⟩
      | some j =>
        rw [ha] at cL
        replace cL := show ∀ W, Fr w W → Calls _ _ _ W fun e w' => e = .returned (.int .i64 (j : Int)) ∧ Fr w w' from cL
        obtain ⟨q, hq, hst⟩ := stand_some ha
        rw [hst]
        have hqm := List.mem_of_getElem? hq
        simp only [ahead_ix ha, ← free_pos, find_m1 p q hqm]
        have hz2 : ((j : Int) == -1) = false := by first | (simp; omega) | simp
        have hjn : (j : Int) < (h.bn : Int) := by have := (List.getElem?_eq_some_iff.1 hq).1; omega
        obtain ⟨b, off, hB, hb1, hr2⟩ := has_rows k.ln.has (sc_wid t.line) (by decide) (by intro e; rw [e] at hq; simp at hq)
        have lE := elem_cell hr2 (sc_wid t.line) hb1 (o := 1) hq (u := .int .i64 q.2) rfl
        rw [hB] at c2 cL
        have hq64 := (p.wok q hqm).2
        have lK : ∀ W, Fr w W → (Instr.lookup 54 (.map (some h.m)) (.int .i64 q.2) true).run Tryz.prog W = .ok (.tuple #[.int .i64 ((findB t.fs q.2).getD 0 : Nat), .bool (findB t.fs q.2).isSome]) W := fun W f => (k.fr f).mp.run_look int_k map_k int_k int_z q.2 hq64
        generalize (((findB t.fs q.2).getD 0 : Nat) : Int) = v0 at *
        generalize (findB t.fs q.2).isSome = r at *
        by_cases hj : j = 0
        · subst hj
          have hbn0 : 0 < h.bn := by omega
          rw [Nat.zero_mul, Nat.add_zero] at lE
          have hz3 : (((0 : Nat) : Int) == 0) = true := rfl
          cases hf : decide ((0 : Int) < ((freeN t.fs : Nat) : Int)) with
          | true =>
            simp only [beq_self_eq_true, Bool.and_self, Bool.true_or]
            have hf2 : (0 : Int) < ((freeN t.fs : Nat) : Int) := of_decide_eq_true hf
            clear k p hs hl hl2 hm hn hT gl hd ha hq hst hqm hB hb1 hr2 hq64 hf lE lK
            go_enter Tryz.func22, Tryz.ntmps22
            go_wp2_with (first | (go_at_call 50; (with_reducible refine (cT _).mono ?_); rintro e w2 ⟨rfl, rfl⟩) | (go_at_call 59; (with_reducible refine (cD _ (by assumption)).mono ?_); rintro e W2 ⟨rfl, f2⟩) | (go_at_call 59; (with_reducible refine (cL _ (by assumption)).mono ?_); rintro e W3 ⟨rfl, f3⟩) | (go_at_call 23; (with_reducible refine (cN _ (by assumption)).mono ?_); rintro e W4 ⟨rfl, f4⟩) | fail)
            go_ret
            exact ⟨rfl, by assumption⟩
          | false =>
            simp only [Bool.and_false, Bool.false_or]
            have hf2 : ¬ (0 : Int) < ((freeN t.fs : Nat) : Int) := of_decide_eq_false hf
            clear k p hs hl hl2 hm hn hT gl hd ha hq hst hqm hB hb1 hr2 hq64 hf
            go_enter Tryz.func22, Tryz.ntmps22
            go_wp2_with (first | (go_at_call 50; (with_reducible refine (cT _).mono ?_); rintro e w2 ⟨rfl, rfl⟩) | (go_at_call 59; (with_reducible refine (cD _ (by assumption)).mono ?_); rintro e W2 ⟨rfl, f2⟩) | (go_at_call 59; (with_reducible refine (cL _ (by assumption)).mono ?_); rintro e W3 ⟨rfl, f3⟩) | (go_at_call 23; (with_reducible refine (cN _ (by assumption)).mono ?_); rintro e W4 ⟨rfl, f4⟩) | fail)
            refine wp_region_noPanic ?_
            refine wp_region_held_drew (S := fun U => Fr w U) (by kernel_rfl) (fr_drew (by assumption)) (fun hHeld => ?_)
            change wpAnyH _ _ _ _ _ _ _ _ _
            refine wpAnyH_take (i := 0) (v := ?_) rfl (by kernel_rfl) (by kernel_rfl) (by kernel_rfl) (fun _ _ _ h => h) (Or.inl ⟨by rfl, ?_⟩) (by assumption) ?_
            rotate_left
            · intro w' hSw
              try dsimp only at hSw
              go_simp
              try with_reducible rfl
            try simp only [List.getElem_toArray, List.getElem_cons_zero, Act.put, List.setIfInBounds_toArray, List.set_cons_zero, List.set_cons_succ]
            refine wpAnyH_take (i := 1) (v := ?_) rfl (by kernel_rfl) (by kernel_rfl) (by kernel_rfl) (fun _ _ _ h => h) (Or.inl ⟨by rfl, ?_⟩) (by assumption) ?_
            rotate_left
            · intro w' hSw
              try dsimp only at hSw
              go_simp
              try with_reducible rfl
            try simp only [List.getElem_toArray, List.getElem_cons_succ, List.getElem_cons_zero, Act.put, List.setIfInBounds_toArray, List.set_cons_zero, List.set_cons_succ]
            refine wpAnyH_take (i := 2) (v := ?_) rfl (by kernel_rfl) (by kernel_rfl) (by kernel_rfl) (fun _ _ _ h => h) (Or.inl ⟨by rfl, ?_⟩) (by assumption) ?_
            rotate_left
            · intro w' hSw
              try dsimp only at hSw
              go_simp
              try with_reducible rfl
            try simp only [List.getElem_toArray, List.getElem_cons_succ, List.getElem_cons_zero, Act.put, List.setIfInBounds_toArray, List.set_cons_zero, List.set_cons_succ]
            refine wpAnyH_take (i := 3) (v := ?_) rfl (by kernel_rfl) (by kernel_rfl) (by kernel_rfl) (fun _ _ _ h => h) (Or.inl ⟨by rfl, ?_⟩) (by assumption) ?_
            rotate_left
            · intro w' hSw
              try dsimp only at hSw
              go_simp
              try with_reducible rfl
            try simp only [List.getElem_toArray, List.getElem_cons_succ, List.getElem_cons_zero, Act.put, List.setIfInBounds_toArray, List.set_cons_zero, List.set_cons_succ]
            refine wpAnyH_take (i := 4) (v := ?_) rfl (by kernel_rfl) (by kernel_rfl) (by kernel_rfl) (fun _ _ _ h => h) (Or.inl ⟨by rfl, ?_⟩) (by assumption) ?_
            rotate_left
            · intro w' hSw
              try dsimp only at hSw
              go_simp
              try with_reducible rfl
            try simp only [List.getElem_toArray, List.getElem_cons_succ, List.getElem_cons_zero, Act.put, List.setIfInBounds_toArray, List.set_cons_zero, List.set_cons_succ]
            refine wpAnyH_take (i := 5) (v := ?_) rfl (by kernel_rfl) (by kernel_rfl) (by kernel_rfl) (fun _ _ _ h => h) (Or.inl ⟨by rfl, ?_⟩) (by assumption) ?_
            rotate_left
            · intro w' hSw
              try dsimp only at hSw
              go_simp
              try with_reducible rfl
            try simp only [List.getElem_toArray, List.getElem_cons_succ, List.getElem_cons_zero, Act.put, List.setIfInBounds_toArray, List.set_cons_zero, List.set_cons_succ]
            refine wpAnyH_take (i := 6) (v := ?_) rfl (by kernel_rfl) (by kernel_rfl) (by kernel_rfl) (fun _ _ _ h => h) (Or.inl ⟨by rfl, ?_⟩) (by assumption) ?_
            rotate_left
            · intro w' hSw
              try dsimp only at hSw
              go_simp
              try with_reducible rfl
            try simp only [List.getElem_toArray, List.getElem_cons_succ, List.getElem_cons_zero, Act.put, List.setIfInBounds_toArray, List.set_cons_zero, List.set_cons_succ]
            refine wpAnyH_take (i := 7) (v := ?_) rfl (by kernel_rfl) (by kernel_rfl) (by kernel_rfl) (fun _ _ _ h => h) (Or.inl ⟨by rfl, ?_⟩) (by assumption) ?_
            rotate_left
            · intro w' hSw
              try dsimp only at hSw
              go_simp
              try with_reducible rfl
            try simp only [List.getElem_toArray, List.getElem_cons_succ, List.getElem_cons_zero, Act.put, List.setIfInBounds_toArray, List.set_cons_zero, List.set_cons_succ]
            refine wpAnyH_take (i := 8) (v := ?_) rfl (by kernel_rfl) (by kernel_rfl) (by kernel_rfl) (fun _ _ _ h => h) (Or.inl ⟨by rfl, ?_⟩) (by assumption) ?_
            rotate_left
            · intro w' hSw
              try dsimp only at hSw
              go_simp
              try with_reducible rfl
            try simp only [List.getElem_toArray, List.getElem_cons_succ, List.getElem_cons_zero, Act.put, List.setIfInBounds_toArray, List.set_cons_zero, List.set_cons_succ]
            refine wpAnyH_take (i := 9) (v := ?_) rfl (by kernel_rfl) (by kernel_rfl) (by kernel_rfl) (fun _ _ _ h => h) (Or.inl ⟨by rfl, ?_⟩) (by assumption) ?_
            rotate_left
            · intro w' hSw
              try dsimp only at hSw
              go_simp
              try with_reducible rfl
            try simp only [List.getElem_toArray, List.getElem_cons_succ, List.getElem_cons_zero, Act.put, List.setIfInBounds_toArray, List.set_cons_zero, List.set_cons_succ]
            refine wpAnyH_take (i := 10) (v := ?_) rfl (by kernel_rfl) (by kernel_rfl) (by kernel_rfl) (fun _ _ _ h => h) (Or.inl ⟨by rfl, ?_⟩) (by assumption) ?_
            rotate_left
            · intro w' hSw
              try dsimp only at hSw
              go_simp
              try with_reducible rfl
            try simp only [List.getElem_toArray, List.getElem_cons_succ, List.getElem_cons_zero, Act.put, List.setIfInBounds_toArray, List.set_cons_zero, List.set_cons_succ]
            refine wpAnyH_take (i := 11) (v := ?_) rfl (by kernel_rfl) (by kernel_rfl) (by kernel_rfl) (fun _ _ _ h => h) (Or.inl ⟨by rfl, ?_⟩) (by assumption) ?_
            rotate_left
            · intro w' hSw
              try dsimp only at hSw
              go_simp
              try with_reducible rfl
            try simp only [List.getElem_toArray, List.getElem_cons_succ, List.getElem_cons_zero, Act.put, List.setIfInBounds_toArray, List.set_cons_zero, List.set_cons_succ]
            refine wpAnyH_take (i := 12) (v := ?_) rfl (by kernel_rfl) (by kernel_rfl) (by kernel_rfl) (fun _ _ _ h => h) (Or.inl ⟨by rfl, ?_⟩) (by assumption) ?_
            rotate_left
            · intro w' hSw
              try dsimp only at hSw
              go_simp
              try with_reducible rfl
            try simp only [List.getElem_toArray, List.getElem_cons_succ, List.getElem_cons_zero, Act.put, List.setIfInBounds_toArray, List.set_cons_zero, List.set_cons_succ]
            refine wpAnyH_take (i := 13) (v := ?_) rfl (by kernel_rfl) (by kernel_rfl) (by kernel_rfl) (fun _ _ _ h => h) (Or.inl ⟨by rfl, ?_⟩) (by assumption) ?_
            rotate_left
            · intro w' hSw
              try dsimp only at hSw
              go_simp
              try with_reducible rfl
            try simp only [List.getElem_toArray, List.getElem_cons_succ, List.getElem_cons_zero, Act.put, List.setIfInBounds_toArray, List.set_cons_zero, List.set_cons_succ]
            refine wpAnyH_take (i := 14) (v := ?_) rfl (by kernel_rfl) (by kernel_rfl) (by kernel_rfl) (fun _ _ _ h => h) (Or.inl ⟨by rfl, ?_⟩) (by assumption) ?_
            rotate_left
            · intro w' hSw
              try dsimp only at hSw
              go_simp
              try with_reducible rfl
            try simp only [List.getElem_toArray, List.getElem_cons_succ, List.getElem_cons_zero, Act.put, List.setIfInBounds_toArray, List.set_cons_zero, List.set_cons_succ]
            refine wpAnyH_take (i := 15) (v := ?_) rfl (by kernel_rfl) (by kernel_rfl) (by kernel_rfl) (fun _ _ _ h => h) (Or.inl ⟨by rfl, ?_⟩) (by assumption) ?_
            rotate_left
            · intro w' hSw
              try dsimp only at hSw
              go_simp
              try with_reducible rfl
            try simp only [List.getElem_toArray, List.getElem_cons_succ, List.getElem_cons_zero, Act.put, List.setIfInBounds_toArray, List.set_cons_zero, List.set_cons_succ]
            refine wpAnyH_take (i := 16) (v := ?_) rfl (by kernel_rfl) (by kernel_rfl) (by kernel_rfl) (fun _ _ _ h => h) (Or.inl ⟨by rfl, ?_⟩) (by assumption) ?_
            rotate_left
            · intro w' hSw
              try dsimp only at hSw
              go_simp
              try with_reducible rfl
            try simp only [List.getElem_toArray, List.getElem_cons_succ, List.getElem_cons_zero, Act.put, List.setIfInBounds_toArray, List.set_cons_zero, List.set_cons_succ]
            refine wpAnyH_take (i := 17) (v := ?_) rfl (by kernel_rfl) (by kernel_rfl) (by kernel_rfl) (fun _ _ _ h => h) (Or.inl ⟨by rfl, ?_⟩) (by assumption) ?_
            rotate_left
            · intro w' hSw
              try dsimp only at hSw
              go_simp
              try with_reducible rfl
            try simp only [List.getElem_toArray, List.getElem_cons_succ, List.getElem_cons_zero, Act.put, List.setIfInBounds_toArray, List.set_cons_zero, List.set_cons_succ]
            refine wpAnyH_done (by kernel_rfl) ?_ _
            refine NoPanic.normal ?_
            go_wp2_with fail
            go_ret
            exact ⟨rfl, by assumption⟩
        · have hz3 : ((j : Int) == 0) = false := by simp; omega
          have hz4 : (j == 0) = false := by simpa using hj
          simp only [hz4, Bool.false_and, Bool.false_or]
          clear k p hs hl hl2 hm hn hT gl hd ha hq hst hqm hB hb1 hr2 hq64 hz4
          go_enter Tryz.func22, Tryz.ntmps22
          go_wp2_with (first | (go_at_call 50; (with_reducible refine (cT _).mono ?_); rintro e w2 ⟨rfl, rfl⟩) | (go_at_call 59; (with_reducible refine (cD _ (by assumption)).mono ?_); rintro e W2 ⟨rfl, f2⟩) | (go_at_call 59; (with_reducible refine (cL _ (by assumption)).mono ?_); rintro e W3 ⟨rfl, f3⟩) | (go_at_call 23; (with_reducible refine (cN _ (by assumption)).mono ?_); rintro e W4 ⟨rfl, f4⟩) | fail)
          refine wp_region_noPanic ?_
          refine wp_region_held_drew (S := fun U => Fr w U) (by kernel_rfl) (fr_drew (by assumption)) (fun hHeld => ?_)
          change wpAnyH _ _ _ _ _ _ _ _ _
          refine wpAnyH_take (i := 0) (v := ?_) rfl (by kernel_rfl) (by kernel_rfl) (by kernel_rfl) (fun _ _ _ h => h) (Or.inl ⟨by rfl, ?_⟩) (by assumption) ?_
          rotate_left
          · intro w' hSw
            try dsimp only at hSw
            go_simp
            try with_reducible rfl
          try simp only [List.getElem_toArray, List.getElem_cons_zero, Act.put, List.setIfInBounds_toArray, List.set_cons_zero, List.set_cons_succ]
          refine wpAnyH_take (i := 1) (v := ?_) rfl (by kernel_rfl) (by kernel_rfl) (by kernel_rfl) (fun _ _ _ h => h) (Or.inl ⟨by rfl, ?_⟩) (by assumption) ?_
          rotate_left
          · intro w' hSw
            try dsimp only at hSw
            go_simp
            try with_reducible rfl
          try simp only [List.getElem_toArray, List.getElem_cons_succ, List.getElem_cons_zero, Act.put, List.setIfInBounds_toArray, List.set_cons_zero, List.set_cons_succ]
          refine wpAnyH_take (i := 2) (v := ?_) rfl (by kernel_rfl) (by kernel_rfl) (by kernel_rfl) (fun _ _ _ h => h) (Or.inl ⟨by rfl, ?_⟩) (by assumption) ?_
          rotate_left
          · intro w' hSw
            try dsimp only at hSw
            go_simp
            try with_reducible rfl
          try simp only [List.getElem_toArray, List.getElem_cons_succ, List.getElem_cons_zero, Act.put, List.setIfInBounds_toArray, List.set_cons_zero, List.set_cons_succ]
          refine wpAnyH_take (i := 3) (v := ?_) rfl (by kernel_rfl) (by kernel_rfl) (by kernel_rfl) (fun _ _ _ h => h) (Or.inl ⟨by rfl, ?_⟩) (by assumption) ?_
          rotate_left
          · intro w' hSw
            try dsimp only at hSw
            go_simp
            try with_reducible rfl
          try simp only [List.getElem_toArray, List.getElem_cons_succ, List.getElem_cons_zero, Act.put, List.setIfInBounds_toArray, List.set_cons_zero, List.set_cons_succ]
          refine wpAnyH_take (i := 4) (v := ?_) rfl (by kernel_rfl) (by kernel_rfl) (by kernel_rfl) (fun _ _ _ h => h) (Or.inl ⟨by rfl, ?_⟩) (by assumption) ?_
          rotate_left
          · intro w' hSw
            try dsimp only at hSw
            go_simp
            try with_reducible rfl
          try simp only [List.getElem_toArray, List.getElem_cons_succ, List.getElem_cons_zero, Act.put, List.setIfInBounds_toArray, List.set_cons_zero, List.set_cons_succ]
          refine wpAnyH_take (i := 5) (v := ?_) rfl (by kernel_rfl) (by kernel_rfl) (by kernel_rfl) (fun _ _ _ h => h) (Or.inl ⟨by rfl, ?_⟩) (by assumption) ?_
          rotate_left
          · intro w' hSw
            try dsimp only at hSw
            go_simp
            try with_reducible rfl
          try simp only [List.getElem_toArray, List.getElem_cons_succ, List.getElem_cons_zero, Act.put, List.setIfInBounds_toArray, List.set_cons_zero, List.set_cons_succ]
          refine wpAnyH_take (i := 6) (v := ?_) rfl (by kernel_rfl) (by kernel_rfl) (by kernel_rfl) (fun _ _ _ h => h) (Or.inl ⟨by rfl, ?_⟩) (by assumption) ?_
          rotate_left
          · intro w' hSw
            try dsimp only at hSw
            go_simp
            try with_reducible rfl
          try simp only [List.getElem_toArray, List.getElem_cons_succ, List.getElem_cons_zero, Act.put, List.setIfInBounds_toArray, List.set_cons_zero, List.set_cons_succ]
          refine wpAnyH_take (i := 7) (v := ?_) rfl (by kernel_rfl) (by kernel_rfl) (by kernel_rfl) (fun _ _ _ h => h) (Or.inl ⟨by rfl, ?_⟩) (by assumption) ?_
          rotate_left
          · intro w' hSw
            try dsimp only at hSw
            go_simp
            try with_reducible rfl
          try simp only [List.getElem_toArray, List.getElem_cons_succ, List.getElem_cons_zero, Act.put, List.setIfInBounds_toArray, List.set_cons_zero, List.set_cons_succ]
          refine wpAnyH_take (i := 8) (v := ?_) rfl (by kernel_rfl) (by kernel_rfl) (by kernel_rfl) (fun _ _ _ h => h) (Or.inl ⟨by rfl, ?_⟩) (by assumption) ?_
          rotate_left
          · intro w' hSw
            try dsimp only at hSw
            go_simp
            try with_reducible rfl
          try simp only [List.getElem_toArray, List.getElem_cons_succ, List.getElem_cons_zero, Act.put, List.setIfInBounds_toArray, List.set_cons_zero, List.set_cons_succ]
          refine wpAnyH_take (i := 9) (v := ?_) rfl (by kernel_rfl) (by kernel_rfl) (by kernel_rfl) (fun _ _ _ h => h) (Or.inl ⟨by rfl, ?_⟩) (by assumption) ?_
          rotate_left
          · intro w' hSw
            try dsimp only at hSw
            go_simp
            try with_reducible rfl
          try simp only [List.getElem_toArray, List.getElem_cons_succ, List.getElem_cons_zero, Act.put, List.setIfInBounds_toArray, List.set_cons_zero, List.set_cons_succ]
          refine wpAnyH_take (i := 10) (v := ?_) rfl (by kernel_rfl) (by kernel_rfl) (by kernel_rfl) (fun _ _ _ h => h) (Or.inl ⟨by rfl, ?_⟩) (by assumption) ?_
          rotate_left
          · intro w' hSw
            try dsimp only at hSw
            go_simp
            try with_reducible rfl
          try simp only [List.getElem_toArray, List.getElem_cons_succ, List.getElem_cons_zero, Act.put, List.setIfInBounds_toArray, List.set_cons_zero, List.set_cons_succ]
          refine wpAnyH_take (i := 11) (v := ?_) rfl (by kernel_rfl) (by kernel_rfl) (by kernel_rfl) (fun _ _ _ h => h) (Or.inl ⟨by rfl, ?_⟩) (by assumption) ?_
          rotate_left
          · intro w' hSw
            try dsimp only at hSw
            go_simp
            try with_reducible rfl
          try simp only [List.getElem_toArray, List.getElem_cons_succ, List.getElem_cons_zero, Act.put, List.setIfInBounds_toArray, List.set_cons_zero, List.set_cons_succ]
          refine wpAnyH_take (i := 12) (v := ?_) rfl (by kernel_rfl) (by kernel_rfl) (by kernel_rfl) (fun _ _ _ h => h) (Or.inl ⟨by rfl, ?_⟩) (by assumption) ?_
          rotate_left
          · intro w' hSw
            try dsimp only at hSw
            go_simp
            try with_reducible rfl
          try simp only [List.getElem_toArray, List.getElem_cons_succ, List.getElem_cons_zero, Act.put, List.setIfInBounds_toArray, List.set_cons_zero, List.set_cons_succ]
          refine wpAnyH_take (i := 13) (v := ?_) rfl (by kernel_rfl) (by kernel_rfl) (by kernel_rfl) (fun _ _ _ h => h) (Or.inl ⟨by rfl, ?_⟩) (by assumption) ?_
          rotate_left
          · intro w' hSw
            try dsimp only at hSw
            go_simp
            try with_reducible rfl
          try simp only [List.getElem_toArray, List.getElem_cons_succ, List.getElem_cons_zero, Act.put, List.setIfInBounds_toArray, List.set_cons_zero, List.set_cons_succ]
          refine wpAnyH_take (i := 14) (v := ?_) rfl (by kernel_rfl) (by kernel_rfl) (by kernel_rfl) (fun _ _ _ h => h) (Or.inl ⟨by rfl, ?_⟩) (by assumption) ?_
          rotate_left
          · intro w' hSw
            try dsimp only at hSw
            go_simp
            try with_reducible rfl
          try simp only [List.getElem_toArray, List.getElem_cons_succ, List.getElem_cons_zero, Act.put, List.setIfInBounds_toArray, List.set_cons_zero, List.set_cons_succ]
          refine wpAnyH_take (i := 15) (v := ?_) rfl (by kernel_rfl) (by kernel_rfl) (by kernel_rfl) (fun _ _ _ h => h) (Or.inl ⟨by rfl, ?_⟩) (by assumption) ?_
          rotate_left
          · intro w' hSw
            try dsimp only at hSw
            go_simp
            try with_reducible rfl
          try simp only [List.getElem_toArray, List.getElem_cons_succ, List.getElem_cons_zero, Act.put, List.setIfInBounds_toArray, List.set_cons_zero, List.set_cons_succ]
          refine wpAnyH_take (i := 16) (v := ?_) rfl (by kernel_rfl) (by kernel_rfl) (by kernel_rfl) (fun _ _ _ h => h) (Or.inl ⟨by rfl, ?_⟩) (by assumption) ?_
          rotate_left
          · intro w' hSw
            try dsimp only at hSw
            go_simp
            try with_reducible rfl
          try simp only [List.getElem_toArray, List.getElem_cons_succ, List.getElem_cons_zero, Act.put, List.setIfInBounds_toArray, List.set_cons_zero, List.set_cons_succ]
          refine wpAnyH_take (i := 17) (v := ?_) rfl (by kernel_rfl) (by kernel_rfl) (by kernel_rfl) (fun _ _ _ h => h) (Or.inl ⟨by rfl, ?_⟩) (by assumption) ?_
          rotate_left
          · intro w' hSw
            try dsimp only at hSw
            go_simp
            try with_reducible rfl
          try simp only [List.getElem_toArray, List.getElem_cons_succ, List.getElem_cons_zero, Act.put, List.setIfInBounds_toArray, List.set_cons_zero, List.set_cons_succ]
          refine wpAnyH_done (by kernel_rfl) ?_ _
          refine NoPanic.normal ?_
          go_wp2_with fail
          go_ret
          exact ⟨rfl, by assumption⟩
end
end Go.Proofs.YtmoaddbpfekdbaaGreat
