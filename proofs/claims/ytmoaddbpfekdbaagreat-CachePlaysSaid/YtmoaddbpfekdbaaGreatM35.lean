/- The program's cache: Repeat, New. -/
import Derived.Test.YtmoaddbpfekdbaaGreatM34
namespace Go.Proofs.YtmoaddbpfekdbaaGreat
set_option linter.unusedVariables false
set_option linter.unusedSimpArgs false
set_option linter.unusedSectionVars false
set_option maxRecDepth 100000
open Go.RowKit
attribute [local go_sem ↓] want_ld pfr_ld node16_ld
theorem and_mask (n : Nat) (h : n ≤ 64) : bits BinOp.and IntKind.u64 (n : Int) 4294967295 = (n : Int) := by
  have h2 : ∀ m : Fin 65, bits BinOp.and IntKind.u64 ((m : Nat) : Int) 4294967295 = ((m : Nat) : Int) := by decide
  exact h2 ⟨n, by omega⟩
set_option maxHeartbeats 2000000 in
theorem mul64_at (w : World) (n : Nat) (h : n ≤ 64) : Calls Tryz.prog 75 #[.int .u64 1, .int .u64 n] w fun e w' => e = .returned (.tuple #[.int .u64 0, .int .u64 n]) ∧ w = w' := by
  go_enter Tryz.func75, Tryz.ntmps75
  have e1 := and_mask n h
  have e0 : bits BinOp.and IntKind.u64 1 4294967295 = 1 := and_mask 1 (by decide)
  have e2 : (n : Int) / 4294967296 = 0 := by omega
  have e3 : IntKind.u64.wrap (n : Int) = n := by rw [IntKind.wrap_u64]; omega
  have e4 : IntKind.u64.wrap 0 = 0 := by decide
  have e5 : bits BinOp.and IntKind.u64 0 4294967295 = 0 := by decide
  go_wp2_with fail
  go_ret2
  refine ⟨?_, rfl⟩
  simp [e0, e1, e2, e3, e4, e5]
set_option maxHeartbeats 2000000 in
theorem mul_at (w : World) (n : Nat) (h : n ≤ 64) : Calls Tryz.prog 49 #[.int .u64 1, .int .u64 n] w fun e w' => e = .returned (.tuple #[.int .u64 0, .int .u64 n]) ∧ w = w' := by
  have cM := mul64_at w n h
  go_enter Tryz.func49, Tryz.ntmps49
  go_wp2_with (first
    | (go_at_call 75; (with_reducible refine cM.mono ?_); rintro e w2 ⟨rfl, rfl⟩)
    | fail)
  go_ret2
  exact ⟨rfl, rfl⟩
/-- n rows of cells side by side. -/
def reps (n : Nat) (xs : List Value) : List Value := (List.replicate n xs).flatten
theorem reps_len (n : Nat) {xs : List Value} (h : xs.length = 14) : (reps n xs).length = n * 14 := by
  unfold reps
  rw [List.length_flatten, List.map_replicate, h]
  simp
theorem reps_add (a b : Nat) (xs : List Value) : reps (a + b) xs = reps a xs ++ reps b xs := by
  unfold reps
  rw [← List.replicate_append_replicate, List.flatten_append]
theorem reps_one (n : Nat) {xs : List Value} (h : One xs) : One (reps n xs) := by
  unfold reps
  intro v hv
  obtain ⟨l, hl, h2⟩ := List.mem_flatten.1 hv
  rw [List.eq_of_mem_replicate hl] at h2
  exact h v h2
theorem reps_rows {V : Type} [NVal V] (n : Nat) (f : Fra V) : rows pc (List.replicate n f) = reps n (pc f) := by
  induction n with
  | zero => rfl
  | succ n ih => 
    rw [List.replicate_succ, show reps (n + 1) (pc f) = pc f ++ reps n (pc f) by unfold reps; rw [List.replicate_succ, List.flatten_cons], ← ih]
    rfl
theorem unit_rows (n : Nat) : rows (fun _ : Unit => zpc) (List.replicate n ()) = reps n zpc := by
  unfold reps
  induction n with
  | zero => rfl
  | succ n ih => rw [List.replicate_succ, List.replicate_succ, List.flatten_cons, ← ih]; rfl
theorem pfr_make (n : Nat) (hn : n ≤ 64) (w : World) : (Instr.makeSlice 46 (.int .i64 (n : Int)) (.int .i64 (n : Int))).run Tryz.prog w = .ok (.slice (some ⟨w.heap.size, 0, none⟩) n n) (w.alloc (.cells (reps n zpc).toArray 52)) := by
  obtain ⟨i, hi, hs, hb, z, hz, hc⟩ : ∃ i, Tryz.prog.info? 52 = some i ∧ i.size = 14 ∧ i.bytes = 200 ∧ ∃ z, i.zero = some z ∧ z.cells = zpc.toArray := by
    cases h : Tryz.prog.info? 52 with
    | none => exact absurd h (by decide +kernel)
    | some i =>
      have e1 : (Tryz.prog.info? 52).bind (·.zero) = some (.agg zpc.toArray) := by kernel_rfl
      have e2 : (Tryz.prog.info? 52).map (·.size) = some 14 := by kernel_rfl
      have e3 : (Tryz.prog.info? 52).map (·.bytes) = some 200 := by kernel_rfl
      rw [h] at e1 e2 e3
      exact ⟨i, rfl, by simpa using e2, by simpa using e3, _, by simpa using e1, rfl⟩
  have h := run_make (P := Tryz.prog) w 46 52 i z pfrs_und hi hz .i64 .i64 n n (by omega) (Int.le_refl _) (by rw [hb]; omega) (by omega)
  have hr := rows_made (c := fun _ : Unit => zpc) (n := 14) (by decide) () rfl n
  have e9 := unit_rows n
  rw [hs, hc, Int.toNat_natCast, hr, e9] at h
  exact h
/-- What lies in the new row when m frames are copied. -/
def half (n m : Nat) (xs : List Value) : List Value := reps m xs ++ reps (n - m) zpc
theorem half_copy {n m k : Nat} (h : m + k ≤ n) {xs : List Value} (hx : xs.length = 14) : (half n m xs).take (m * 14) ++ reps k xs ++ (half n m xs).drop ((m + k) * 14) = half n (m + k) xs := by
  have e1 : (half n m xs).take (m * 14) = reps m xs := by
    unfold half
    rw [← reps_len m hx, List.take_left]
  have e2 : (half n m xs).drop ((m + k) * 14) = reps (n - (m + k)) zpc := by
    unfold half
    rw [Nat.add_mul, ← List.drop_drop, ← reps_len m hx, List.drop_left, show n - m = k + (n - (m + k)) by omega, reps_add, ← reps_len k (show zpc.length = 14 from rfl), List.drop_left]
  rw [e1, e2]
  unfold half
  rw [reps_add]
theorem pfr_sz (w : World) : (sizeOf (Tryz.prog.elem 46)).run Tryz.prog w = .ok 14 w := by kernel_rfl
theorem pfr_el : Tryz.prog.underlying 46 = some (.slice (Tryz.prog.elem 46)) := by kernel_rfl
theorem pfr_slice_hi (A : Option Addr) (n c t : Nat) (ht : t ≤ c) (W : World) : (Instr.slice 46 (.slice A n c) none (some (.int .i64 (t : Int))) none).run Tryz.prog W = .ok (.slice A t c) W := by
  rw [run_slice_h (P := Tryz.prog) (w := W) (t := 46) (ht := pfr_el) A n c .i64 (t : Int) (by omega) (by omega), pfr_sz]
  have h0 : A.map (·.add 0) = A := by cases A <;> simp [Addr.add]
  simp only [Result.andThen, sliced, Int.toNat_natCast, Nat.zero_mul, h0, Nat.sub_zero, ite_self]
theorem pfr_slice_lo (A : Option Addr) (n c t : Nat) (ht : t ≤ n) (W : World) : (Instr.slice 46 (.slice A n c) (some (.int .i64 (t : Int))) none none).run Tryz.prog W = .ok (.slice (lowB 14 A c t) (n - t) (c - t)) W := by
  rw [run_slice_l (P := Tryz.prog) (w := W) (t := 46) (ht := pfr_el) A n c .i64 (t : Int) (by omega) (by omega), pfr_sz]
  simp only [Result.andThen, sliced, Int.toNat_natCast, lowB]
theorem pfr_elem : Elem Tryz.prog 52 14 200 := Elem.of (z := .agg zpc.toArray) (by kernel_rfl) (by kernel_rfl) (by kernel_rfl) rfl
set_option maxHeartbeats 8000000 in
theorem repeat_at {w : World} {A2 : Option Addr} {c2 n : Nat} {xs : List Value} (h1 : 1 ≤ n) (h2 : n ≤ 64) (hx : xs.length = 14) (ho : One xs) (hl : Has w w.heap.size A2 xs) :
    Calls Tryz.prog 13 #[.slice A2 1 c2, .int .i64 n] w fun e w' => ∃ O, e = .returned (.slice O n n) ∧ Hid (Rw w' 52 14 O n n (reps n xs) ∧ (∀ k, At O k → w.heap.size ≤ k) ∧ Fr w w') := by
  have hm := pfr_make n h2 w
  have hR0 : Rw (w.alloc (.cells (reps n zpc).toArray 52)) 52 14 (some ⟨w.heap.size, 0, none⟩) n n (reps n zpc) := by
    have := (Own.lit w w.heap.size 52 (reps n zpc).toArray n 14 (Nat.le_refl _) (by simp only [maxLen]; omega) (by simpa using reps_len n (show zpc.length = 14 from rfl))).rw'
    simpa using this
  have hF0 := fr_new (fr_refl w) (.cells (reps n zpc).toArray 52)
  obtain ⟨Y, hY⟩ : ∃ Y, w.alloc (.cells (reps n zpc).toArray 52) = Y := ⟨_, rfl⟩
  rw [hY] at hm hR0 hF0
  have hlY := hl.fr (Nat.le_refl _) hF0
  have ex : reps 1 xs = xs := by simp [reps]
  have e0 : reps n zpc = half n 0 xs := by simp [half, reps]
  rw [e0] at hR0
  obtain ⟨Y1, hr1, hR1, hC1⟩ := rw_copy (P := Tryz.prog) Y 46 3 pfrs_und pfr_elem hR0 0 n n w.heap.size A2 1 1 c2 (reps 1 xs) (by rw [ex, hx]) (by rw [ex]; exact hlY) (by rw [ex]; exact ho) (by show min 1 n = 1; omega) (by omega) (by decide) (by decide)
  rw [half_copy (by omega) hx, Nat.zero_add] at hR1
  have cM := mul_at w n h2
  have w1 : IntKind.u64.wrap (1 : Int) = 1 := by decide
  have w2 : IntKind.u64.wrap (n : Int) = n := by rw [IntKind.wrap_u64]; omega
  have w3 : IntKind.i64.wrap (n : Int) = n := by rw [IntKind.wrap_i64]; omega
  have t1 : ¬ (n : Int) < 0 := by omega
  have t2 : ¬ (9223372036854775807 : Int) < (n : Int) := by omega
  clear hR0 hl hlY hY
  go_enter Tryz.func13, Tryz.ntmps13
  go_wp2_with (first
    | (go_at_call 49; (with_reducible refine cM.mono ?_); rintro e w2 ⟨rfl, rfl⟩)
    | fail)
  have HR1 := keep hR1
  have HC1 := keep (show Chg (· = w.heap.size) w Y1 from (Chg.of_fr _ hF0).trans hC1)
  have HX := keep hx
  have HO := keep ho
  clear hr1 hR1 hC1 hx ho ex e0 hm hF0
  go_loopg [8] (n - 1) (fun gg s8 wr => ∃ m : Nat, n - m ≤ gg ∧ 1 ≤ m ∧ m ≤ n ∧ s8 = .int .i64 m ∧ Hid (Rw wr 52 14 (some ⟨w.heap.size, 0, none⟩) n n (half n m xs) ∧ Chg (· = w.heap.size) w wr))
  case atStart => exact ⟨1, Nat.le_refl _, Nat.le_refl _, h1, rfl, keep ⟨HR1.out, HC1.out⟩⟩
  case round =>
    obtain ⟨m, hg, hm1, hmn, rfl, HI⟩ := hrel
    by_cases hlt : m < n
    · have hjz : (m : Int) < (n : Int) := by omega
      have q1 := pfr_slice_lo (some ⟨w.heap.size, 0, none⟩) n n m hmn
      rw [lowB_some (by omega)] at q1
      have q2 := pfr_slice_hi (some ⟨w.heap.size, 0, none⟩) n n m hmn
      have hRD := HI.out.1.fr (fr_drew (fr_refl wr))
      obtain ⟨k, hk⟩ : ∃ k, k = min m (n - m) := ⟨_, rfl⟩
      have hk1 : 1 ≤ k ∧ k ≤ m ∧ m + k ≤ n := by omega
      have hsrc : Has wr.drew wr.drew.heap.size (some ⟨w.heap.size, 0, none⟩) (reps k xs) := by
        have := hRD.has.take (k * 14)
        have e : (half n m xs).take (k * 14) = reps k xs := by
          unfold half
          rw [show m = k + (m - k) by omega, reps_add, List.append_assoc, ← reps_len k HX.out, List.take_left]
        rw [e] at this
        exact this
      obtain ⟨Y2, hr2, hR2, hC2⟩ := rw_copy (P := Tryz.prog) wr.drew 46 3 pfrs_und pfr_elem hRD m (n - m) (n - m) wr.drew.heap.size (some ⟨w.heap.size, 0, none⟩) k m n (reps k xs) (reps_len k HX.out) hsrc (reps_one k HO.out) (by show min m (n - m) = k; omega) hk1.2.2 (by omega) (by decide)
      rw [half_copy hk1.2.2 HX.out] at hR2
      rw [Nat.zero_add] at hr2
      have wk : IntKind.i64.wrap ((m : Int) + (k : Int)) = ((m + k : Nat) : Int) := by rw [IntKind.wrap_i64]; omega
      have HR2 := keep hR2
      have HC2 := keep hC2
      clear hRD hsrc hR2 hC2 hlt hk
      go_wp2_with fail
      refine wp_region_noPanic ?_
      refine wp_region_held_drew (S := fun _ => True) (by kernel_rfl) trivial (fun hHeld => ?_)
      change wpAnyH _ _ _ _ _ _ _ _ _
      refine wpAnyH_take (i := 0) (v := ?_) rfl (by kernel_rfl) (by kernel_rfl) (by kernel_rfl) (fun _ _ _ h => h) (Or.inl ⟨by rfl, ?_⟩) (by assumption) ?_
      rotate_left
      · intro w' hSw
        try dsimp only at hSw
        go_simp
        try with_reducible rfl
      try simp only [List.getElem_toArray, List.getElem_cons_zero, Act.put, List.setIfInBounds_toArray, List.set_cons_zero, List.set_cons_succ]
      refine wpAnyH_take (i := 1) (v := ?_) rfl (by kernel_rfl) (by kernel_rfl) (by kernel_rfl) (fun _ _ _ h => h) (Or.inl ⟨by rfl, ?_⟩) (by assumption) ?_
      rotate_left
      · intro w' hSw
        try dsimp only at hSw
        go_simp
        try with_reducible rfl
      try simp only [List.getElem_toArray, List.getElem_cons_succ, List.getElem_cons_zero, Act.put, List.setIfInBounds_toArray, List.set_cons_zero, List.set_cons_succ]
      refine wpAnyH_take (i := 2) (v := ?_) rfl (by kernel_rfl) (by kernel_rfl) (by kernel_rfl) (fun _ _ _ h => h) (Or.inl ⟨by rfl, ?_⟩) (by assumption) ?_
      rotate_left
      · intro w' hSw
        try dsimp only at hSw
        go_simp
        try with_reducible rfl
      try simp only [List.getElem_toArray, List.getElem_cons_succ, List.getElem_cons_zero, Act.put, List.setIfInBounds_toArray, List.set_cons_zero, List.set_cons_succ]
      refine wpAnyH_take (i := 3) (v := ?_) rfl (by kernel_rfl) (by kernel_rfl) (by kernel_rfl) (fun _ _ _ h => h) (Or.inl ⟨by rfl, ?_⟩) (by assumption) ?_
      rotate_left
      · intro w' hSw
        try dsimp only at hSw
        go_simp
        try with_reducible rfl
      try simp only [List.getElem_toArray, List.getElem_cons_succ, List.getElem_cons_zero, Act.put, List.setIfInBounds_toArray, List.set_cons_zero, List.set_cons_succ]
      refine wpAnyH_take (i := 4) (v := ?_) rfl (by kernel_rfl) (by kernel_rfl) (by kernel_rfl) (fun _ _ _ h => h) (Or.inl ⟨by rfl, ?_⟩) (by assumption) ?_
      rotate_left
      · intro w' hSw
        try dsimp only at hSw
        go_simp
        try with_reducible rfl
      try simp only [List.getElem_toArray, List.getElem_cons_succ, List.getElem_cons_zero, Act.put, List.setIfInBounds_toArray, List.set_cons_zero, List.set_cons_succ]
      refine wpAnyH_take (i := 5) (v := ?_) rfl (by kernel_rfl) (by kernel_rfl) (by kernel_rfl) (fun _ _ _ h => h) (Or.inl ⟨by rfl, ?_⟩) (by assumption) ?_
      rotate_left
      · intro w' hSw
        try dsimp only at hSw
        go_simp
        try with_reducible rfl
      try simp only [List.getElem_toArray, List.getElem_cons_succ, List.getElem_cons_zero, Act.put, List.setIfInBounds_toArray, List.set_cons_zero, List.set_cons_succ]
      refine wpAnyH_take (i := 6) (v := ?_) rfl (by kernel_rfl) (by kernel_rfl) (by kernel_rfl) (fun _ _ _ h => h) (Or.inl ⟨by rfl, ?_⟩) (by assumption) ?_
      rotate_left
      · intro w' hSw
        try dsimp only at hSw
        go_simp
        try with_reducible rfl
      try simp only [List.getElem_toArray, List.getElem_cons_succ, List.getElem_cons_zero, Act.put, List.setIfInBounds_toArray, List.set_cons_zero, List.set_cons_succ]
      refine wpAnyH_ready (rs := [7]) (by kernel_rfl) (by simp) ?_
      refine AllReadyH.cons rfl (fun K hK0 => ?_) AllReadyH.nil
      go_simp
      refine hK0.out _ _ trivial (fun _ => ?_)
      clear hK0 K
      try simp only [List.getElem_toArray, List.getElem_cons_succ, List.getElem_cons_zero, Act.put, List.setIfInBounds_toArray, List.set_cons_zero, List.set_cons_succ]
      refine wpAnyH_take (i := 8) (v := ?_) rfl (by kernel_rfl) (by kernel_rfl) (by kernel_rfl) (fun _ _ _ h => h) (Or.inl ⟨by rfl, ?_⟩) (by assumption) ?_
      rotate_left
      · intro w' hSw
        try dsimp only at hSw
        go_simp
        try with_reducible rfl
      try simp only [List.getElem_toArray, List.getElem_cons_succ, List.getElem_cons_zero, Act.put, List.setIfInBounds_toArray, List.set_cons_zero, List.set_cons_succ]
      refine wpAnyH_take (i := 9) (v := ?_) rfl (by kernel_rfl) (by kernel_rfl) (by kernel_rfl) (fun _ _ _ h => h) (Or.inl ⟨by rfl, ?_⟩) (by assumption) ?_
      rotate_left
      · intro w' hSw
        try dsimp only at hSw
        go_simp
        try with_reducible rfl
      try simp only [List.getElem_toArray, List.getElem_cons_succ, List.getElem_cons_zero, Act.put, List.setIfInBounds_toArray, List.set_cons_zero, List.set_cons_succ]
      refine wpAnyH_done (by kernel_rfl) ?_ _
      refine NoPanic.normal ?_
      go_wp2_with fail
      go_roundg (gk - 1)
      case measure => omega
      case rel => exact ⟨m + k, by omega, by omega, hk1.2.2, rfl, keep ⟨HR2.out, (HI.out.2.fr (fr_drew (fr_refl wr))).trans HC2.out⟩⟩
    · have hjn : m = n := by omega
      have hjz : ¬ (m : Int) < (n : Int) := by omega
      subst hjn
      have e9 : half m m xs = reps m xs := by simp [half, reps]
      have E9 := keep e9
      clear hlt e9
      go_wp2_with fail
      go_ret
      have hR := HI.out.1
      rw [E9.out] at hR
      refine ⟨_, rfl, keep ⟨hR, fun k hk => ?_, (fr_refl w).step_chg HI.out.2 fun i e => Nat.le_of_eq e.symm⟩⟩
      exact Nat.le_of_eq (Option.some.inj hk)
set_option maxHeartbeats 2000000 in
theorem pnew_no (w : World) (n : Int) (h : n < 1 ∨ 64 < n) : Calls Tryz.prog 4 #[.int .i64 n] w fun e w' => e = .returned (.tuple #[.pointer none, .int .i64 1]) ∧ w = w' := by
  by_cases h1 : n < 1
  · go_enter Tryz.func4, Tryz.ntmps4
    go_wp2_with fail
    go_ret2
    exact ⟨rfl, rfl⟩
  · have h2 : 64 < n := by omega
    go_enter Tryz.func4, Tryz.ntmps4
    go_wp2_with fail
    go_ret2
    exact ⟨rfl, rfl⟩
theorem zf_one : One [Value.int .i64 0, .int .i64 (-1), .int .i64 0, .bool false, .bool false, .bool false, .slice none 0 0, .slice none 0 0, .slice none 0 0, .slice none 0 0, .slice none 0 0, .int .i64 (-1), .slice none 0 0, .int .i64 (-1)] := pc_one (freeF : Fra NX)
set_option maxHeartbeats 4000000 in
theorem pnew_yes (w : World) (n : Nat) (h1 : 1 ≤ n) (h2 : n ≤ 64) : Calls Tryz.prog 4 #[.int .i64 n] w fun e w' => ∃ g, e = .returned (.tuple #[.pointer (some ⟨g, 0, none⟩), .int .i64 0]) ∧ Hid ((∃ h, PC w' g h 0 (newC n : Ca NX) ∧ ∀ k, PHX g h k → w.heap.size ≤ k) ∧ Fr w w') := by
  have t1 : ¬ (n : Int) < 1 := by omega
  have t2 : ¬ (64 : Int) < (n : Int) := by omega
  have cF : ∀ W, Calls Tryz.prog 14 #[] W fun e w' => e = .returned (.agg #[.int .i64 0, .int .i64 (-1), .int .i64 0, .bool false, .bool false, .bool false, .slice none 0 0, .slice none 0 0, .slice none 0 0, .slice none 0 0, .slice none 0 0, .int .i64 (-1), .slice none 0 0, .int .i64 (-1)]) ∧ Fr W w' := fun W => freed_at (V := NX) W
  have hmm := @run_makeMap Tryz.prog
  go_enter Tryz.func4, Tryz.ntmps4
  go_wp2_with (first
    | (go_at_call 14; (with_reducible refine (cF _).mono ?_); rintro e W1 ⟨rfl, f1⟩; have hsrc := has_new W1 [Value.int .i64 0, .int .i64 (-1), .int .i64 0, .bool false, .bool false, .bool false, .slice none 0 0, .slice none 0 0, .slice none 0 0, .slice none 0 0, .slice none 0 0, .int .i64 (-1), .slice none 0 0, .int .i64 (-1)] 52; have HSR := keep (show Has (W1.alloc (.cells #[Value.int .i64 0, .int .i64 (-1), .int .i64 0, .bool false, .bool false, .bool false, .slice none 0 0, .slice none 0 0, .slice none 0 0, .slice none 0 0, .slice none 0 0, .int .i64 (-1), .slice none 0 0, .int .i64 (-1)] 52)) (W1.alloc (.cells #[Value.int .i64 0, .int .i64 (-1), .int .i64 0, .bool false, .bool false, .bool false, .slice none 0 0, .slice none 0 0, .slice none 0 0, .slice none 0 0, .slice none 0 0, .int .i64 (-1), .slice none 0 0, .int .i64 (-1)] 52)).heap.size _ [Value.int .i64 0, .int .i64 (-1), .int .i64 0, .bool false, .bool false, .bool false, .slice none 0 0, .slice none 0 0, .slice none 0 0, .slice none 0 0, .slice none 0 0, .int .i64 (-1), .slice none 0 0, .int .i64 (-1)] from by simpa using hsrc); have HF1 := keep f1; clear f1 hsrc)
    | (go_at_call 13; (with_reducible refine (repeat_at (xs := [Value.int .i64 0, .int .i64 (-1), .int .i64 0, .bool false, .bool false, .bool false, .slice none 0 0, .slice none 0 0, .slice none 0 0, .slice none 0 0, .slice none 0 0, .int .i64 (-1), .slice none 0 0, .int .i64 (-1)]) h1 h2 rfl zf_one HSR.out).mono ?_); rintro e W2 ⟨O, rfl, H2⟩; have H2' := H2)
    | fail)
  go_ret2
  obtain ⟨hR, hO, hF2⟩ := H2.out
  have hFa := fr_new (fr_refl W2) (.map #[] 0)
  have hFb := fr_new (fr_refl (W2.alloc (.map #[] 0))) (.cells #[.slice O n n, .map (some W2.heap.size), .slice none 0 0, .slice none 0 0, .int .i64 0] 57)
  have hb := Arr.new (W2.alloc (.map #[] 0)) #[.slice O n n, .map (some W2.heap.size), .slice none 0 0, .slice none 0 0, .int .i64 0] 57
  have hs1 := HF1.out.size
  have hs2 := hF2.size
  simp at hs2
  rw [show (W2.alloc (.map #[] 0)).heap.size = W2.heap.size + 1 by simp] at hb
  have hRR : Rw W2 52 14 O n n (rows pc (List.replicate n (freeF : Fra NX))) := by rw [reps_rows]; exact hR
  have hmp := ((PMap.new Tryz.prog 3 3 W2).chg (.of_fr (fun _ => False) hFb) id).eq (G := findB (List.replicate n (freeF : Fra NX))) fun b _ => List.findIdx?_eq_none_iff.2 fun f hf => by rw [List.eq_of_mem_replicate hf]; simp [isB, freeF]
  refine ⟨_, rfl, keep ⟨⟨⟨O, n, n, W2.heap.size, none, 0, 0, none, 0, 0⟩, ⟨hb, hRR.fr (fr_step hFa hFb), hmp, Rw.nil _ _ _, Rw.nil _ _ _, fun k hk => by cases hk⟩, fun k hk => ?_⟩, fr_step (fr_step (fr_new HF1.out _) hF2) (fr_step hFa hFb)⟩⟩
  rcases hk with e | e | e | e | e
  · omega
  · have := hO k e
    simp at this
    omega
  · have e : k = W2.heap.size := e
    omega
  · cases e
  · cases e
end Go.Proofs.YtmoaddbpfekdbaaGreat
