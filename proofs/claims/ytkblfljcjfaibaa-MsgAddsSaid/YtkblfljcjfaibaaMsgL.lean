/- MsgAdds, walked. -/
import Derived.Test.YtkblfljcjfaibaaMsgI
import Derived.Deep.LoopGhost
namespace Go.Proofs.Ytkblfljcjfaibaa
open Go.RowKit
set_option linter.unusedVariables false
attribute [local go_sem ↓] val_ld key_ld msg_ld
/-- The sum of the first j numbers, modulo 2 to the 64. -/
def sumU (l : List Int) : Nat → Int
  | 0 => 0
  | j + 1 => IntKind.u64.wrap (sumU l j + l.getD j 0)
theorem sumU_bd (l : List Int) (j : Nat) : Us64 (sumU l j) := by
  cases j with
  | zero => simp [sumU, Us64]
  | succ j => exact wrap_u64 _
theorem sumU_one {l : List Int} (h : Us64 (l.getD 0 0)) : sumU l 1 = l.getD 0 0 := by
  show IntKind.u64.wrap (0 + _) = _
  unfold Us64 at h
  generalize l.getD 0 0 = z at *
  rw [u64_of]; omega
theorem comp_adds {k : RK} {s i t j : Int} : compM ⟨3, s, k, zeroV, i⟩ ⟨3, t, k, zeroV, j⟩ = ⟨3, t, k, zeroV, IntKind.u64.wrap (i + j)⟩ := comp_33 rfl rfl rfl
section
attribute [local go_sem ↓] msg_st
set_option maxRecDepth 100000 in
set_option maxHeartbeats 4000000 in
theorem msgAdds_core (A : Option Addr) (n c : Nat) (l : List Int) (a1 : Int) (w : World) (hl : l.length = n) (hnc : n ≤ c) (hm : n ≤ maxLen) (ho : ∀ z ∈ l, Us64 z) (hr : Has w w.heap.size A (l.map (Value.int .u64))) (h1 : Is64 a1) : Calls Try.prog 7 #[.slice A n c, .int .i64 a1] w fun e w' => e = .returned (.bool true) ∧ Below w.heap.size w w' := by
  have hww := fr_refl w
  unfold maxLen at hm
  by_cases hbig : 100 < n
  · have d1 : decide ((100 : Int) < (n : Int)) = true := by simp; omega
    go_enter Try.func7, Try.ntmps7
    go_wp2_with (first
      | (go_at_call 14; refine (awake5_at (W0 := w) (by assumption)).mono ?_; rintro e w7 ⟨rfl, hz7⟩)
      | fail)
    go_ret
    exact ⟨rfl, by assumption⟩
  · have d1 : decide ((100 : Int) < (n : Int)) = false := by simp; omega
    by_cases hn0 : n = 0
    · subst hn0
      go_enter Try.func7, Try.ntmps7
      go_wp2_with (first
        | (go_at_call 14; refine (awake5_at (W0 := w) (by assumption)).mono ?_; rintro e w7 ⟨rfl, hz7⟩)
        | fail)
      go_ret
      exact ⟨rfl, by assumption⟩
    · have hne : l.map (Value.int .u64) ≠ [] := by
        intro e
        rw [List.map_eq_nil_iff] at e
        rw [e] at hl
        exact hn0 hl.symm
      obtain ⟨b, off, rfl, hb, hc⟩ := hr.form hne
      have Hc := keep (show ∀ j, j < n → ∀ W, Fr w W → W.cell? ⟨b, off + j, none⟩ = some (.int .u64 (l.getD j 0)) from fun j hj W h => by
        rw [h.cell (p := ⟨b, off + j, none⟩) hb]
        refine hc j _ ?_
        have hj' : j < l.length := by omega
        simp [hj'])
      have Hu := keep (show ∀ j, j < n → Us64 (l.getD j 0) from fun j hj => by
        have hj' : j < l.length := by omega
        rw [List.getD, List.getElem?_eq_getElem hj']
        exact ho _ (List.getElem_mem hj'))
      clear hr hc ho hne hl
      have e0 : ((n : Int) == 0) = false := by simp; omega
      have wk := lawK_wf a1
      have ok := lawK_ok a1
      have cK := fun W0 W h => law_key_at (W0 := W0) (W := W) h1 h
      generalize lawK a1 = k at *
      have c00 := Hc.out 0 (by omega)
      have u00 := Hu.out 0 (by omega)
      have Hs1 := keep (sumU_one u00)
      rw [Nat.add_zero] at c00
      have hn1 : 0 < n := by omega
      clear h1 hn0
      go_enter Try.func7, Try.ntmps7
      go_wp2_with (first
        | (go_at_call 21; refine (cK w _ hww).mono ?_; rintro e w1 ⟨rfl, hz1⟩; have hs1 := hz1.size)
        | (refine wpList_store_at (ds := kc k) key_info rfl (.tmp 5) (.tmp 21) rfl w1.heap.size 0 rfl rfl (kc_len k) (kc_one _) (Arr.new w1 (kc zeroK).toArray 25) (by rw [kc_len]; decide) (splice_all _ _ (by rw [kc_len, kc_len]; decide)) ?_; intro Y hK hky
           have hF := hky.fr (fr_new hz1 _) hs1
           have hs : Y.heap.size = w1.heap.size + 1 := by rw [hky.size]; simp
           have hYD := fr_drew (fr_refl Y)
           have lK : ∀ W, Fr Y W → (ldS 25 (.pointer (some ⟨w1.heap.size, 0, none⟩))).run Try.prog W = .ok (.agg (kc k).toArray) W := fun W h => keyS.ld (kc_len k) (hK.below h hK.lt)
           have cY : ∀ W, Fr Y W → W.cell? ⟨b, off, none⟩ = some (.int .u64 (l.getD 0 0)) := fun W h => c00 W (fr_step hF h)
           clear hky)
        | fail)
      generalize l.getD 0 0 = x0 at *
      have st1 : ∀ W g, OwnB W g 30 29 → (stS 30 (.pointer (some ⟨g, 0, none⟩)) (.agg #[.int .i64 3, .int .u64 0, .int .i64 k.n, .int .u8 k.b0, .int .u8 k.b1, .int .u8 k.b2, .int .u8 k.b3, .int .u8 k.b4, .int .u8 k.b5, .int .u8 k.b6, .int .u8 k.b7, .int .i64 0, .int .u8 0, .int .u8 0, .int .u8 0, .int .u8 0, .int .u8 0, .int .u8 0, .int .u8 0, .int .u8 0, .int .u8 0, .int .u8 0, .int .u8 0, .int .u8 0, .int .u8 0, .int .u8 0, .int .u8 0, .int .u8 0, .int .u64 x0])).run Try.prog W = .ok () (W.setRow g (mc ⟨3, 0, k, zeroV, x0⟩).toArray) := fun W g h => st_run (ds := mc ⟨3, 0, k, zeroV, x0⟩) msg_info h (mc_len rfl) (mc_one _)
      have o1 : OwnB (Y.alloc (.cells #[.int .i64 0, .int .u64 0, .int .i64 0, .int .u8 0, .int .u8 0, .int .u8 0, .int .u8 0, .int .u8 0, .int .u8 0, .int .u8 0, .int .u8 0, .int .i64 0, .int .u8 0, .int .u8 0, .int .u8 0, .int .u8 0, .int .u8 0, .int .u8 0, .int .u8 0, .int .u8 0, .int .u8 0, .int .u8 0, .int .u8 0, .int .u8 0, .int .u8 0, .int .u8 0, .int .u8 0, .int .u8 0, .int .u64 0] 30)).drew (w1.heap.size + 1) 30 29 := OwnB.new hs.symm rfl
      go_region_held3 (fun w' => Fr Y w') (first | exact hYD | assumption | exact fr_new (by assumption) _ | exact fr_setRow (by assumption) (by omega) _) (first | fail)
      rename_i hYZ
      have hM := o1.put (mc ⟨3, 0, k, zeroV, x0⟩).toArray
      replace hK := hK.below hYZ hK.lt
      replace hF := fr_step hF hYZ
      clear st1 o1 lK cY hYD
      generalize hZ : World.setRow _ _ _ = Z at *
      clear hZ hYZ hz1
      have hkm : w1.heap.size ≠ w1.heap.size + 1 := by omega
      clear hs
      go_wp2_with fail
      clear c00
      go_loopg [7, 8] (n - 1) (fun g s i wr => ∃ (j : Nat) (q : Int), j + g = n ∧ Hid (1 ≤ j) ∧ Hid (q = (j : Int) - 1) ∧ s = .int .u64 (sumU l j) ∧ i = .int .i64 j ∧ Arr wr (w1.heap.size + 1) 30 (mc ⟨3, q, k, zeroV, sumU l j⟩).toArray ∧ Arr wr w1.heap.size 25 (kc k).toArray ∧ Fr w wr)
      case atStart => exact ⟨1, 0, by omega, keep (by omega), keep (by simp), by rw [Hs1.out], rfl, by rw [Hs1.out]; exact hM, hK, hF⟩
      case round =>
        clear hM hK hF Hs1 u00
        obtain ⟨j, q, hj, Hj1, Hq, rfl, rfl, hM, hK, hF⟩ := hrel
        have Hj := keep hj
        by_cases hlt : j < n
        · have cj := Hc.out j hlt
          have uj := Hu.out j hlt
          have us := sumU_bd l j
          have HS := keep (show sumU l (j + 1) = IntKind.u64.wrap (sumU l j + l.getD j 0) from rfl)
          generalize hs' : sumU l (j + 1) = s' at *
          have Hs' := keep hs'
          clear hs'
          generalize sumU l j = s0 at *
          generalize l.getD j 0 = xj at *
          have hjm : (j : Int) % 18446744073709551616 = (j : Int) := by omega
          have hjw : IntKind.u64.wrap (j : Int) = (j : Int) := by rw [u64_of]; omega
          have uj1 : Us64 (j : Int) := by unfold Us64; omega
          have uq : Us64 q := by have := Hq.out; have := Hj1.out; unfold Us64; omega
          have C := fun W => mcompose_at (W0 := W) (W := W) (add_wf wk uq us) (add_wf wk uj1 uj) (add_ok ok) (add_ok ok) (fr_refl W)
          rw [comp_adds, ← HS.out] at C
          have st2 : ∀ W g, OwnB W g 30 29 → (stS 30 (.pointer (some ⟨g, 0, none⟩)) (.agg (mc ⟨3, (j : Int), k, zeroV, s'⟩).toArray)).run Try.prog W = .ok () (W.setRow g (mc ⟨3, (j : Int), k, zeroV, s'⟩).toArray) := fun W g h => st_run msg_info h (mc_len rfl) (mc_one _)
          have lM : ∀ W, Fr wr W → _ := msg_all hM rfl
          have lK : ∀ W, Arr W w1.heap.size 25 (kc k).toArray → (ldS 25 (.pointer (some ⟨w1.heap.size, 0, none⟩))).run Try.prog W = .ok (.agg (kc k).toArray) W := fun W h => keyS.ld (kc_len k) h
          have hrr := fr_drew (fr_refl wr)
          have hFD := fr_drew hF
          have hKD : Arr wr.drew w1.heap.size 25 (kc k).toArray := hK
          have oM : OwnB wr.drew (w1.heap.size + 1) 30 29 := OwnB.of (cs := mc ⟨3, q, k, zeroV, s0⟩) hM rfl
          clear hj uj us uq uj1 hM
          go_wp2_with fail
          refine wp_region_noPanic ?_
          refine wp_region_held_drew (S := fun w' => Fr w w' ∧ Arr w' w1.heap.size 25 (kc k).toArray) (by kernel_rfl) ⟨hFD, hKD⟩ (fun hHeld => ?_)
          change wpAnyH _ _ _ _ _ _ _ _ _
          refine wpAnyH_take (i := 1) (v := ?_) rfl (by kernel_rfl) (by kernel_rfl) (by kernel_rfl) (fun _ _ _ h => h) (Or.inl ⟨by rfl, ?_⟩) (by assumption) ?_
          rotate_left
          · intro w' hSw
            try dsimp only at hSw
            go_simp
            try with_reducible rfl
          try simp only [List.getElem_toArray, List.getElem_cons_succ, List.getElem_cons_zero, Act.put, List.setIfInBounds_toArray, List.set_cons_zero, List.set_cons_succ]
          refine wpAnyH_take (i := 2) (v := ?_) rfl (by kernel_rfl) (by kernel_rfl) (by kernel_rfl) (fun _ _ _ h => h) (Or.inl ⟨by rfl, ?_⟩) (by assumption) ?_
          rotate_left
          · intro w' hSw
            try dsimp only at hSw
            go_simp
            try with_reducible rfl
          try simp only [List.getElem_toArray, List.getElem_cons_succ, List.getElem_cons_zero, Act.put, List.setIfInBounds_toArray, List.set_cons_zero, List.set_cons_succ]
          refine wpAnyH_take (i := 3) (v := ?_) rfl (by kernel_rfl) (by kernel_rfl) (by kernel_rfl) (fun _ _ _ h => h) (Or.inl ⟨by rfl, ?_⟩) (by assumption) ?_
          rotate_left
          · intro w' hSw
            try dsimp only at hSw
            go_simp
            try with_reducible rfl
          try simp only [List.getElem_toArray, List.getElem_cons_succ, List.getElem_cons_zero, Act.put, List.setIfInBounds_toArray, List.set_cons_zero, List.set_cons_succ]
          refine wpAnyH_take (i := 4) (v := ?_) rfl (by kernel_rfl) (by kernel_rfl) (by kernel_rfl) (fun _ _ _ h => h) (Or.inl ⟨by rfl, ?_⟩) (by assumption) ?_
          rotate_left
          · intro w' hSw
            try dsimp only at hSw
            go_simp
            try with_reducible rfl
          try simp only [List.getElem_toArray, List.getElem_cons_succ, List.getElem_cons_zero, Act.put, List.setIfInBounds_toArray, List.set_cons_zero, List.set_cons_succ]
          refine wpAnyH_take (i := 5) (v := ?_) rfl (by kernel_rfl) (by kernel_rfl) (by kernel_rfl) (fun _ _ _ h => h) (Or.inl ⟨by rfl, ?_⟩) (by assumption) ?_
          rotate_left
          · intro w' hSw
            try dsimp only at hSw
            go_simp
            try with_reducible rfl
          try simp only [List.getElem_toArray, List.getElem_cons_succ, List.getElem_cons_zero, Act.put, List.setIfInBounds_toArray, List.set_cons_zero, List.set_cons_succ]
          refine wpAnyH_take (i := 6) (v := ?_) rfl (by kernel_rfl) (by kernel_rfl) (by kernel_rfl) (fun _ _ _ h => h) (Or.inl ⟨by rfl, ?_⟩) (by assumption) ?_
          rotate_left
          · intro w' hSw
            try dsimp only at hSw
            go_simp
            try with_reducible rfl
          try simp only [List.getElem_toArray, List.getElem_cons_succ, List.getElem_cons_zero, Act.put, List.setIfInBounds_toArray, List.set_cons_zero, List.set_cons_succ]
          refine wpAnyH_take (i := 7) (v := ?_) rfl (by kernel_rfl) (by kernel_rfl) (by kernel_rfl) (fun _ _ _ h => h) (Or.inl ⟨by rfl, ?_⟩) (by assumption) ?_
          rotate_left
          · intro w' hSw
            try dsimp only at hSw
            go_simp
            try with_reducible rfl
          try simp only [List.getElem_toArray, List.getElem_cons_succ, List.getElem_cons_zero, Act.put, List.setIfInBounds_toArray, List.set_cons_zero, List.set_cons_succ]
          refine wpAnyH_take (i := 8) (v := ?_) rfl (by kernel_rfl) (by kernel_rfl) (by kernel_rfl) (fun _ _ _ h => h) (Or.inl ⟨by rfl, ?_⟩) (by assumption) ?_
          rotate_left
          · intro w' hSw
            try dsimp only at hSw
            go_simp
            try with_reducible rfl
          try simp only [List.getElem_toArray, List.getElem_cons_succ, List.getElem_cons_zero, Act.put, List.setIfInBounds_toArray, List.set_cons_zero, List.set_cons_succ]
          refine wpAnyH_ready (rs := [0]) (by kernel_rfl) (by simp) ?_
          refine AllReadyH.cons rfl (fun K hK0 => ?_) AllReadyH.nil
          go_simp
          refine hK0.out _ _ hHeld (fun _ => ?_)
          clear hK0 K
          try simp only [List.getElem_toArray, List.getElem_cons_succ, List.getElem_cons_zero, Act.put, List.setIfInBounds_toArray, List.set_cons_zero, List.set_cons_succ]
          refine wpAnyH_ready (rs := [9]) (by kernel_rfl) (by simp) ?_
          refine AllReadyH.cons rfl (fun K hK0 => ?_) AllReadyH.nil
          go_simp
          refine (C _).mono ?_
          rintro e w9 ⟨rfl, hz⟩
          have hob := oM.below hz
          have hF9 := fr_step hFD hz
          have hK9 := hKD.below hz hKD.lt
          have hs9 := hz.size
          go_simp
          refine hK0.out _ _ ⟨hF9, hK9⟩ (fun _ => ?_)
          clear hK0 K hHeld
          try simp only [List.getElem_toArray, List.getElem_cons_succ, List.getElem_cons_zero, Act.put, List.setIfInBounds_toArray, List.set_cons_zero, List.set_cons_succ]
          refine wpAnyH_ready (rs := [10]) (by kernel_rfl) (by simp) ?_
          refine AllReadyH.cons rfl (fun K hK0 => ?_) AllReadyH.nil
          go_simp
          have hFX := fr_setRow hF9 (g := w1.heap.size + 1) (by omega) (mc ⟨3, (j : Int), k, zeroV, s'⟩).toArray
          have hKX := hK9.setRowOther (k := w1.heap.size + 1) (mc ⟨3, (j : Int), k, zeroV, s'⟩).toArray (by omega)
          have hMX := hob.put (mc ⟨3, (j : Int), k, zeroV, s'⟩).toArray
          refine hK0.out _ _ ⟨hFX, hKX⟩ (fun _ => ?_)
          clear hK0 K hob st2 C lM lK hFD hKD oM hrr hF9 hK9 hz hs9
          try simp only [List.getElem_toArray, List.getElem_cons_succ, List.getElem_cons_zero, Act.put, List.setIfInBounds_toArray, List.set_cons_zero, List.set_cons_succ]
          refine wpAnyH_done (by kernel_rfl) ?_ _
          refine NoPanic.normal ?_
          generalize World.setRow _ _ _ = X at *
          go_wp2_with fail
          go_roundg (gk - 1)
          case measure => have := Hj.out; omega
          case rel => exact ⟨j + 1, (j : Int), by have := Hj.out; omega, keep (by omega), keep (by omega), by rw [Hs'.out, HS.out, u64_of], by go_num, by rw [Hs'.out]; exact hMX, hKX, hFX⟩
        · obtain rfl : j = n := by omega
          have uq : Us64 q := by have := Hq.out; have := Hj1.out; unfold Us64; omega
          have us := sumU_bd l j
          have hwq : RM.wf ⟨3, q, k, zeroV, sumU l j⟩ := add_wf wk uq us
          have hoq : okM ⟨3, q, k, zeroV, sumU l j⟩ = true := add_ok ok
          have eA : appV zeroV false ⟨3, q, k, zeroV, sumU l j⟩ = fromV (sumU l j) := by simp [appV]
          have eB : appB ⟨3, q, k, zeroV, sumU l j⟩ = true := by simp [appB]
          have cA : ∀ W0 W, Fr W0 W → Calls Try.prog 15 #[.agg #[.int .i64 0, .int .u8 0, .int .u8 0, .int .u8 0, .int .u8 0, .int .u8 0, .int .u8 0, .int .u8 0, .int .u8 0, .int .u8 0, .int .u8 0, .int .u8 0, .int .u8 0, .int .u8 0, .int .u8 0, .int .u8 0, .int .u8 0], .bool false, mm ⟨3, q, k, zeroV, sumU l j⟩] W fun e w' => e = .returned (.tuple #[vv (fromV (sumU l j)), .bool true]) ∧ Fr W0 w' := fun W0 W h => by have := mapply_at (v := zeroV) (there := false) zeroV_wf (fun h => by cases h) hwq hoq h; rw [eA, eB] at this; exact this
          have cF := fun W0 W h => rfrom_at' (W0 := W0) (W := W) us h
          have wf := fromV_wf (sumU l j)
          have qf := eql_self wf
          have Hf := keep (vc_len wf.hl)
          have Hq' := keep (show q = (j : Int) - 1 from Hq.out)
          have hw1 : IntKind.i64.wrap ((j : Int) - 1) = (j : Int) - 1 := by rw [IntKind.wrap_i64]; omega
          have hu1 : IntKind.u64.wrap ((j : Int) - 1) = (j : Int) - 1 := by have := Hj1.out; rw [u64_of]; omega
          have hu2 : ((j : Int) - 1) % 18446744073709551616 = (j : Int) - 1 := by have := Hj1.out; omega
          have lM := msg_all hM rfl
          have hrr := fr_refl wr
          clear hj uq us hwq hoq eA eB wf Hj hK
          generalize fromV (sumU l j) = f at *
          generalize sumU l j = s0 at *
          go_wp2_with (first
            | (go_at_call 15; (with_reducible refine (cA wr _ hrr).mono ?_); rintro e w9 ⟨rfl, hz9⟩
               replace hM := hM.below hz9 hM.lt
               have hF9 := fr_step hF hz9
               clear lM hrr hF)
            | (refine wpList_store_at (ds := vc f) val_info rfl (.tmp 9) (.tmp 56) rfl w9.heap.size 0 rfl rfl Hf.out (vc_one _) (Arr.new w9 (vc zeroV).toArray 28) (by decide) (splice_all _ _ (by rw [Hf.out]; decide)) ?_; intro X hv hk1
               replace hM := hk1.other (hM.alloc _) (by have := hM.lt; omega)
               have hFX := hk1.fr (fr_new hF9 _) hF9.size
               have lv := ld_fr hv Hf.out
               have c0 := cellZ hM 0 (mc_0 _)
               have c1 := cellZ hM 1 (mc_1 _)
               have c28 := cellZ hM 28 (mc_28 rfl)
               rw [show (RM.mk 3 q k zeroV s0).seq = (j : Int) - 1 from Hq'.out] at c1
               have hXD := fr_drew (fr_refl X)
               clear hk1 hM hv hF9)
            | fail)
          clear cA
          go_region_held3 (fun w' => Fr X w')
            (first | exact hXD | assumption)
            (first
              | (go_at_call 22; (with_reducible refine (cF X _ (by assumption)).mono ?_); rintro e w8 ⟨rfl, hz⟩)
              | (go_at_call 14; refine (awake5_at (W0 := X) (by assumption)).mono ?_; rintro e w8 ⟨rfl, hz⟩))
          rename_i hHH
          go_wp2
          go_ret
          exact ⟨rfl, fr_step hFX hHH⟩
end
end Go.Proofs.Ytkblfljcjfaibaa
