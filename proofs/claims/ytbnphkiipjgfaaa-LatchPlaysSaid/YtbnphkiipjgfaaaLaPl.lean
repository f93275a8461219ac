/- LatchPlays, walked. -/
import Derived.Test.YtbnphkiipjgfaaaLaPf
namespace Go.Proofs.Ytbnphkiipjgfaaa
set_option linter.unusedVariables false
set_option linter.unusedSimpArgs false
set_option maxRecDepth 100000
open Go.RowKit
theorem rnewg (w : World) : Calls Try.prog 11 #[] w fun e w' => ∃ r, e = .returned (.pointer (some ⟨r, 0, none⟩)) ∧ Hid (r = w.heap.size ∧ DB w' r none 0 0 none 0 0 newT ∧ Fr w w') := by
  refine (rnew_at w).mono ?_
  rintro e w' ⟨rfl, hh⟩
  exact ⟨_, rfl, keep ⟨rfl, hh.out⟩⟩
theorem step_ld (p : Value) : Instr.loadAt 29 p = ldS 29 p := rfl
theorem step_info : (Try.prog.info? 29).map (·.size) = some 3 := by kernel_rfl
theorem stepC_one (s : RStep) : One (stepC s) := .cons rfl (.cons rfl (.cons rfl .nil))
theorem bb_new {w v0 v1 : World} {g r : Nat} (h0 : LB w v0 g newT 0) (hr : r = v0.heap.size) (h1 : DB v1 r none 0 0 none 0 0 newT) (f : Fr v0 v1) : BB w v1 g r newT newT 0 v1.heap.size v1.heap.size := by
  obtain ⟨A, n, c, Q, m, d, hp, hy⟩ := h0.lat
  have hlx : ∀ i, LX r none none i → i = r := fun i hi => by
    rcases hi with h | h | h
    · exact h
    · cases h
    · cases h
  refine ⟨⟨A, n, c, Q, m, d, none, 0, 0, none, 0, 0, hp.fr f, h1, fun i hi => ⟨hy i hi, ?_, fun hx => ?_⟩, fun i hi => ?_⟩, ⟨h0.ok, h0.fb⟩, ⟨h0.ok, h0.fb⟩, fr_step h0.fr f⟩
  · have := hp.lt i hi
    have := f.size
    omega
  · have h1 := hp.lt i hi
    have h2 := hlx i hx
    omega
  · have h2 := hlx i hi
    have h3 := h1.box.lt
    have h4 := h0.fr.size
    omega
attribute [local go_sem ↓] step_ld
theorem BB.sz {w0 w : World} {g r K Np Nd : Nat} {t u : Lat} (h : BB w0 w g r t u K Np Nd) : t.rs.length + t.q.length ≤ K := h.ok.1.len
/-- Slices of numbers, of those who wait, that lie in memory. -/
def RR (W : World) (A : Option Addr) (n : Nat) (l : List Int) : Prop := l.length = n ∧ Has W W.heap.size A (ints l)
def RQ (W : World) (A : Option Addr) (n : Nat) (l : List Wt) : Prop := l.length = n ∧ Has W W.heap.size A (rows wc l)
theorem drop_sz {t : Lat} {x : Int} {K : Nat} (h : t.rs.length + t.q.length ≤ K) : (dropT t x).2.length ≤ K := by
  unfold dropT
  split
  · simp
  · have := (let_out _ (outT t x) rfl).1
    have h2 : (outT t x).q.length ≤ t.q.length := List.length_filter_le _ _
    omega
theorem down_sz {t : Lat} {x : Int} {K : Nat} (h : t.rs.length + t.q.length ≤ K) : (downT t x).2.length ≤ K := by
  unfold downT
  split
  · simp
  · have := (let_out _ (giveT { t with wr := -1 } (x, false)) rfl).1
    rw [give_q] at this
    simp only at this
    omega
set_option maxHeartbeats 16000000 in
theorem plays_core {w : World} {A : Option Addr} {m c : Nat} {l : List RStep} (hl : Has w w.heap.size A (rows stepC l)) (hm : l.length = m) (hmx : m ≤ maxLen) (hw : ∀ s ∈ l, s.wf) :
    Calls Try.prog 3 #[.slice A m c] w fun e w' => e = .returned (.bool true) ∧ Below w.heap.size w w' := by
  unfold maxLen at hmx
  by_cases h20 : 120 < m
  · have h20z : 120 < (m : Int) := by omega
    clear hl hm hw
    go_enter Try.func3, Try.ntmps3
    go_wp2_with fail
    with_reducible refine (lnewg w).mono ?_
    rintro e v0 ⟨g, rfl, h0⟩
    go_wp2_with fail
    with_reducible refine (rnewg v0).mono ?_
    rintro e v1 ⟨r, rfl, h1⟩
    go_wp2_with fail
    with_reducible refine (awake14 v1).mono ?_
    rintro e v2 ⟨rfl, f⟩
    go_wp2_with fail
    go_ret
    exact ⟨rfl, fr_step h0.out.fr (fr_step h1.out.2.2 f)⟩
  · have h20z : ¬ 120 < (m : Int) := by omega
    have HL := keep hl
    have HM := keep hm
    have HW := keep hw
    clear hl hm hw
    go_enter Try.func3, Try.ntmps3
    go_wp2_with fail
    with_reducible refine (lnewg w).mono ?_
    rintro e v0 ⟨g, rfl, h0⟩
    go_wp2_with fail
    with_reducible refine (rnewg v0).mono ?_
    rintro e v1 ⟨r, rfl, h1⟩
    have L0 : Hid (BB w v1 g r newT newT 0 v1.heap.size v1.heap.size) := keep (bb_new h0.out h1.out.1 h1.out.2.1 h1.out.2.2)
    clear h0 h1
    go_wp2_with fail
    go_loopg [5, 6, 7, 8, 9, 10, 11, 12] m (fun gg s5 _ _ _ _ _ _ _ wr => ∃ (j : Nat) (t : Lat), j + gg = m ∧ s5 = .int .i64 j ∧ Hid (BB w wr g r t t (2 * j) wr.heap.size wr.heap.size))
    case atStart => exact ⟨0, newT, by omega, rfl, L0⟩
    case round =>
      clear L0
      obtain ⟨j, t, hj, rfl, hB⟩ := hrel
      by_cases hlt : j < m
      · have hx : l[j]? = some (l[j]'(by rw [HM.out]; exact hlt)) := List.getElem?_eq_getElem _
        generalize l[j]'(by rw [HM.out]; exact hlt) = s at hx
        obtain ⟨v0, v1⟩ := HW.out s (List.mem_of_getElem? hx)
        obtain ⟨g1, o1, rfl, hg1, hr1⟩ := has_rows HL.out (stepC_wid l) (by decide) (by intro e; rw [e] at hx; simp at hx)
        have lX0 := elem_ld step_ty hr1 (stepC_wid l) hg1 hx
        have lX : ∀ W, Fr wr W → _ := fun W f => lX0 W (fr_step hB.out.fr f)
        obtain ⟨s0, s1, s2⟩ := s
        simp only at v0 v1
        unfold Is64 at v0
        have cPk : ∀ W, Calls Try.prog 13 #[.int .i64 s1, .int .i64 7] W fun e w' => e = .returned (.int .i64 (s1 % 7)) ∧ Fr W w' := fun W => law_place s1 7 v1 (by omega) (by omega) W
        have v1 : -9223372036854775808 ≤ s1 ∧ s1 ≤ 9223372036854775807 := v1
        have hjz : (j : Int) < (m : Int) := by omega
        have hrr := fr_refl wr
        obtain ⟨q8, hq8, hq8l⟩ : ∃ q : Nat, Int.tmod (j : Int) 8 = q ∧ q < 8 := ⟨j % 8, by rw [Int.tmod_eq_emod_of_nonneg (by omega)]; omega, by omega⟩
        clear hx hlt hr1 lX0
        go_upto_if 41 with (first
          | (refine wpList_store_at (ds := stepC ⟨s0, s1, s2⟩) step_info rfl (.tmp 6) (.tmp 36) rfl wr.heap.size 0 rfl rfl rfl (stepC_one _) (Arr.new wr (stepC ⟨0, 0, false⟩).toArray 29) (Nat.le_refl 3) (splice_all _ _ (Nat.le_refl 3)) ?_; intro W5 hM5 hk5; have hF5 := hk5.fr (fr_new hrr _) (Nat.le_refl _); clear hk5; have d1 : W5.cell? ⟨wr.heap.size, 1, none⟩ = some (.int .i64 s1) := (by rw [hM5.cell]; rfl))
          | fail)
        have ww := fr_refl W5
        go_cut [7] from 39 to 44 (fun s7 W => ∃ v : Int, s7 = .int .i64 v ∧ (-9223372036854775808 ≤ v ∧ v ≤ 9223372036854775807) ∧ Hid (Fr W5 W))
        case first =>
          by_cases h8 : 0 < (q8 : Int)
          · go_wp2_with fail
            with_reducible refine (cPk W5).mono ?_
            rintro e w' ⟨rfl, f⟩
            go_wp2_with fail
            go_meet
            exact ⟨_, rfl, by have := Int.emod_nonneg s1 (b := 7) (by omega); have := Int.emod_lt_of_pos s1 (b := 7) (by omega); (try rw [IntKind.wrap_i64]); omega, keep f⟩
          · go_wp2_with fail
            go_meet
            exact ⟨s1, rfl, v1, keep ww⟩
        case rest =>
          obtain ⟨v, rfl, hv, hF⟩ := hcut
          obtain ⟨wa, eW⟩ : ∃ W, W = wc := ⟨_, rfl⟩
          rw [← eW]
          rw [← eW] at hF
          have fa := hF.out
          have h6 := keep ((hB.out.go (fr_step hF5 fa)))
          have hMa := hM5.below fa hM5.lt
          have e0 : wa.cell? ⟨wr.heap.size, 0, none⟩ = some (.int .i64 s0) := (by rw [hMa.cell]; rfl)
          have hj120 : j ≤ 120 := by omega
          clear eW cPk hB hF lX d1 v1
          go_upto_block 2 with fail
          go_cut [8, 9, 10, 11, 12] from 45 to 127 (fun s8 _ _ _ _ W => s8 = .bool true ∧ ∃ t', Hid (BB w W g r t' t' (2 * (j + 1)) W.heap.size W.heap.size))
          case first =>
            by_cases k2 : s0 ≤ 2
            · have t0x : wa.drew.cell? ⟨wr.heap.size, 2, none⟩ = some (.bool s2) := by (rw [(hM5.below (fr_drew fa) hM5.lt).cell]; rfl)
              have hS5 : Fr W5 wa.drew := fr_drew fa
              have h0 := keep ((h6.out.go (fr_drew (fr_refl wa))).mono (Nat.le_refl _) (Nat.le_refl _) (Nat.le_refl _))
              go_wp2_with fail
              refine wp_region_noPanic ?_
              refine wp_region_held_drew (S := fun W => W.cell? ⟨wr.heap.size, 2, none⟩ = some (.bool s2)) (by kernel_rfl) t0x (fun hHeld => ?_)
              change wpAnyH _ _ _ _ _ _ _ _ _
              refine wpAnyH_take (i := 0) (v := ?_) rfl (by kernel_rfl) (by kernel_rfl) (by kernel_rfl) (fun _ _ _ h => h) (Or.inl ⟨by rfl, ?_⟩) (by assumption) ?_
              rotate_left
              · intro w' hSw
                try dsimp only at hSw
                go_simp
                try with_reducible rfl
              try simp only [List.getElem_toArray, List.getElem_cons_zero, Act.put, List.setIfInBounds_toArray, List.set_cons_zero, List.set_cons_succ]
              refine wpAnyH_take (i := 1) (v := ?_) rfl (by kernel_rfl) (by kernel_rfl) (by kernel_rfl) (fun _ _ _ h => h) (Or.inl ⟨by rfl, ?_⟩) (by assumption) ?_
              rotate_left
              · intro w' hSw
                try dsimp only at hSw
                go_simp
                try with_reducible rfl
              try simp only [List.getElem_toArray, List.getElem_cons_succ, List.getElem_cons_zero, Act.put, List.setIfInBounds_toArray, List.set_cons_zero, List.set_cons_succ]
              refine wpAnyH_take (i := 2) (v := ?_) rfl (by kernel_rfl) (by kernel_rfl) (by kernel_rfl) (fun _ _ _ h => h) (Or.inl ⟨by rfl, ?_⟩) (by assumption) ?_
              rotate_left
              · intro w' hSw
                try dsimp only at hSw
                go_simp
                try with_reducible rfl
              try simp only [List.getElem_toArray, List.getElem_cons_succ, List.getElem_cons_zero, Act.put, List.setIfInBounds_toArray, List.set_cons_zero, List.set_cons_succ]
              refine wpAnyH_take (i := 3) (v := ?_) rfl (by kernel_rfl) (by kernel_rfl) (by kernel_rfl) (fun _ _ _ h => h) (Or.inl ⟨by rfl, ?_⟩) (by assumption) ?_
              rotate_left
              · intro w' hSw
                try dsimp only at hSw
                go_simp
                try with_reducible rfl
              try simp only [List.getElem_toArray, List.getElem_cons_succ, List.getElem_cons_zero, Act.put, List.setIfInBounds_toArray, List.set_cons_zero, List.set_cons_succ]
              refine wpAnyH_take (i := 5) (v := ?_) rfl (by kernel_rfl) (by kernel_rfl) (by kernel_rfl) (fun _ _ _ h => h) (Or.inl ⟨by rfl, ?_⟩) (by assumption) ?_
              rotate_left
              · intro w' hSw
                try dsimp only at hSw
                go_simp
                try with_reducible rfl
              try simp only [List.getElem_toArray, List.getElem_cons_succ, List.getElem_cons_zero, Act.put, List.setIfInBounds_toArray, List.set_cons_zero, List.set_cons_succ]
              refine wpAnyH_take (i := 6) (v := ?_) rfl (by kernel_rfl) (by kernel_rfl) (by kernel_rfl) (fun _ _ _ h => h) (Or.inl ⟨by rfl, ?_⟩) (by assumption) ?_
              rotate_left
              · intro w' hSw
                try dsimp only at hSw
                go_simp
                try with_reducible rfl
              try simp only [List.getElem_toArray, List.getElem_cons_succ, List.getElem_cons_zero, Act.put, List.setIfInBounds_toArray, List.set_cons_zero, List.set_cons_succ]
              refine wpAnyH_take (i := 7) (v := ?_) rfl (by kernel_rfl) (by kernel_rfl) (by kernel_rfl) (fun _ _ _ h => h) (Or.inl ⟨by rfl, ?_⟩) (by assumption) ?_
              rotate_left
              · intro w' hSw
                try dsimp only at hSw
                go_simp
                try with_reducible rfl
              try simp only [List.getElem_toArray, List.getElem_cons_succ, List.getElem_cons_zero, Act.put, List.setIfInBounds_toArray, List.set_cons_zero, List.set_cons_succ]
              refine wpAnyH_take (i := 8) (v := ?_) rfl (by kernel_rfl) (by kernel_rfl) (by kernel_rfl) (fun _ _ _ h => h) (Or.inl ⟨by rfl, ?_⟩) (by assumption) ?_
              rotate_left
              · intro w' hSw
                try dsimp only at hSw
                go_simp
                try with_reducible rfl
              try simp only [List.getElem_toArray, List.getElem_cons_succ, List.getElem_cons_zero, Act.put, List.setIfInBounds_toArray, List.set_cons_zero, List.set_cons_succ]
              refine wpAnyH_ready (rs := [4]) (by kernel_rfl) (by simp) ?_
              refine AllReadyH.cons rfl (fun K hK0 => ?_) AllReadyH.nil
              go_simp
              with_reducible refine (btake (x := v) (b := s2) h0.out (by omega) hv).mono ?_
              rintro e w1x ⟨rfl, h1x⟩
              have s1x : Arr w1x wr.heap.size 29 (stepC ⟨s0, s1, s2⟩).toArray := (hM5.below hS5 hM5.lt).chg h1x.out.2 (by have := hS5.size; omega)
              have t1x : w1x.cell? ⟨wr.heap.size, 2, none⟩ = some (.bool s2) := by (rw [s1x.cell]; rfl)
              have c2x := dtake (x := v) (b := s2) h1x.out.1 (by omega) hv
              go_simp
              refine hK0.out _ _ t1x (fun hS1 => ?_)
              clear hK0 K
              try simp only [List.getElem_toArray, List.getElem_cons_succ, List.getElem_cons_zero, Act.put, List.setIfInBounds_toArray, List.set_cons_zero, List.set_cons_succ]
              refine wpAnyH_ready (rs := [9]) (by kernel_rfl) (by simp) ?_
              refine AllReadyH.cons rfl (fun K hK0 => ?_) AllReadyH.nil
              go_simp
              with_reducible refine c2x.mono ?_
              rintro e w2x ⟨rfl, h2x⟩
              have s2x := s1x.chg h2x.out.2 (by omega)
              have t2x : w2x.cell? ⟨wr.heap.size, 2, none⟩ = some (.bool s2) := by (rw [s2x.cell]; rfl)
              go_simp
              refine hK0.out _ _ t2x (fun hS2 => ?_)
              clear hK0 K
              try simp only [List.getElem_toArray, List.getElem_cons_succ, List.getElem_cons_zero, Act.put, List.setIfInBounds_toArray, List.set_cons_zero, List.set_cons_succ]
              refine wpAnyH_take (i := 10) (v := ?_) rfl (by kernel_rfl) (by kernel_rfl) (by kernel_rfl) (fun _ _ _ h => h) (Or.inl ⟨by rfl, ?_⟩) (by assumption) ?_
              rotate_left
              · intro w' hSw
                try dsimp only at hSw
                go_simp
                try with_reducible rfl
              try simp only [List.getElem_toArray, List.getElem_cons_succ, List.getElem_cons_zero, Act.put, List.setIfInBounds_toArray, List.set_cons_zero, List.set_cons_succ]
              refine wpAnyH_take (i := 11) (v := ?_) rfl (by kernel_rfl) (by kernel_rfl) (by kernel_rfl) (fun _ _ _ h => h) (Or.inl ⟨by rfl, ?_⟩) (by assumption) ?_
              rotate_left
              · intro w' hSw
                try dsimp only at hSw
                go_simp
                try with_reducible rfl
              try simp only [List.getElem_toArray, List.getElem_cons_succ, List.getElem_cons_zero, Act.put, List.setIfInBounds_toArray, List.set_cons_zero, List.set_cons_succ]
              refine wpAnyH_done (by kernel_rfl) ?_ _
              refine NoPanic.normal ?_
              go_wp2_with fail
              go_meet
              exact ⟨rfl, _, keep (h2x.out.1.mono (by have := h2x.out.2.size; omega) (Nat.le_refl _) (by omega))⟩
            · by_cases k3 : s0 = 3
              · subst k3
                have t0x : wa.drew.cell? ⟨wr.heap.size, 2, none⟩ = some (.bool s2) := by (rw [(hM5.below (fr_drew fa) hM5.lt).cell]; rfl)
                have hS5 : Fr W5 wa.drew := fr_drew fa
                have h0 := keep ((h6.out.go (fr_drew (fr_refl wa))).mono (Nat.le_refl _) (Nat.le_refl _) (Nat.le_refl _))
                go_wp2_with fail
                refine wp_region_noPanic ?_
                refine wp_region_held_drew (S := fun W => W.cell? ⟨wr.heap.size, 2, none⟩ = some (.bool s2)) (by kernel_rfl) t0x (fun hHeld => ?_)
                change wpAnyH _ _ _ _ _ _ _ _ _
                refine wpAnyH_take (i := 0) (v := ?_) rfl (by kernel_rfl) (by kernel_rfl) (by kernel_rfl) (fun _ _ _ h => h) (Or.inl ⟨by rfl, ?_⟩) (by assumption) ?_
                rotate_left
                · intro w' hSw
                  try dsimp only at hSw
                  go_simp
                  try with_reducible rfl
                try simp only [List.getElem_toArray, List.getElem_cons_zero, Act.put, List.setIfInBounds_toArray, List.set_cons_zero, List.set_cons_succ]
                refine wpAnyH_take (i := 1) (v := ?_) rfl (by kernel_rfl) (by kernel_rfl) (by kernel_rfl) (fun _ _ _ h => h) (Or.inl ⟨by rfl, ?_⟩) (by assumption) ?_
                rotate_left
                · intro w' hSw
                  try dsimp only at hSw
                  go_simp
                  try with_reducible rfl
                try simp only [List.getElem_toArray, List.getElem_cons_succ, List.getElem_cons_zero, Act.put, List.setIfInBounds_toArray, List.set_cons_zero, List.set_cons_succ]
                refine wpAnyH_take (i := 2) (v := ?_) rfl (by kernel_rfl) (by kernel_rfl) (by kernel_rfl) (fun _ _ _ h => h) (Or.inl ⟨by rfl, ?_⟩) (by assumption) ?_
                rotate_left
                · intro w' hSw
                  try dsimp only at hSw
                  go_simp
                  try with_reducible rfl
                try simp only [List.getElem_toArray, List.getElem_cons_succ, List.getElem_cons_zero, Act.put, List.setIfInBounds_toArray, List.set_cons_zero, List.set_cons_succ]
                refine wpAnyH_take (i := 3) (v := ?_) rfl (by kernel_rfl) (by kernel_rfl) (by kernel_rfl) (fun _ _ _ h => h) (Or.inl ⟨by rfl, ?_⟩) (by assumption) ?_
                rotate_left
                · intro w' hSw
                  try dsimp only at hSw
                  go_simp
                  try with_reducible rfl
                try simp only [List.getElem_toArray, List.getElem_cons_succ, List.getElem_cons_zero, Act.put, List.setIfInBounds_toArray, List.set_cons_zero, List.set_cons_succ]
                refine wpAnyH_take (i := 5) (v := ?_) rfl (by kernel_rfl) (by kernel_rfl) (by kernel_rfl) (fun _ _ _ h => h) (Or.inl ⟨by rfl, ?_⟩) (by assumption) ?_
                rotate_left
                · intro w' hSw
                  try dsimp only at hSw
                  go_simp
                  try with_reducible rfl
                try simp only [List.getElem_toArray, List.getElem_cons_succ, List.getElem_cons_zero, Act.put, List.setIfInBounds_toArray, List.set_cons_zero, List.set_cons_succ]
                refine wpAnyH_take (i := 6) (v := ?_) rfl (by kernel_rfl) (by kernel_rfl) (by kernel_rfl) (fun _ _ _ h => h) (Or.inl ⟨by rfl, ?_⟩) (by assumption) ?_
                rotate_left
                · intro w' hSw
                  try dsimp only at hSw
                  go_simp
                  try with_reducible rfl
                try simp only [List.getElem_toArray, List.getElem_cons_succ, List.getElem_cons_zero, Act.put, List.setIfInBounds_toArray, List.set_cons_zero, List.set_cons_succ]
                refine wpAnyH_take (i := 7) (v := ?_) rfl (by kernel_rfl) (by kernel_rfl) (by kernel_rfl) (fun _ _ _ h => h) (Or.inl ⟨by rfl, ?_⟩) (by assumption) ?_
                rotate_left
                · intro w' hSw
                  try dsimp only at hSw
                  go_simp
                  try with_reducible rfl
                try simp only [List.getElem_toArray, List.getElem_cons_succ, List.getElem_cons_zero, Act.put, List.setIfInBounds_toArray, List.set_cons_zero, List.set_cons_succ]
                refine wpAnyH_take (i := 8) (v := ?_) rfl (by kernel_rfl) (by kernel_rfl) (by kernel_rfl) (fun _ _ _ h => h) (Or.inl ⟨by rfl, ?_⟩) (by assumption) ?_
                rotate_left
                · intro w' hSw
                  try dsimp only at hSw
                  go_simp
                  try with_reducible rfl
                try simp only [List.getElem_toArray, List.getElem_cons_succ, List.getElem_cons_zero, Act.put, List.setIfInBounds_toArray, List.set_cons_zero, List.set_cons_succ]
                refine wpAnyH_ready (rs := [4]) (by kernel_rfl) (by simp) ?_
                refine AllReadyH.cons rfl (fun K hK0 => ?_) AllReadyH.nil
                go_simp
                with_reducible refine (btry (x := v) (b := s2) h0.out (by omega) hv).mono ?_
                rintro e w1x ⟨rfl, h1x⟩
                have s1x : Arr w1x wr.heap.size 29 (stepC ⟨3, s1, s2⟩).toArray := (hM5.below hS5 hM5.lt).chg h1x.out.2 (by have := hS5.size; omega)
                have t1x : w1x.cell? ⟨wr.heap.size, 2, none⟩ = some (.bool s2) := by (rw [s1x.cell]; rfl)
                have c2x := dtry (x := v) (b := s2) h1x.out.1 (by omega) hv
                go_simp
                refine hK0.out _ _ t1x (fun hS1 => ?_)
                clear hK0 K
                try simp only [List.getElem_toArray, List.getElem_cons_succ, List.getElem_cons_zero, Act.put, List.setIfInBounds_toArray, List.set_cons_zero, List.set_cons_succ]
                refine wpAnyH_ready (rs := [9]) (by kernel_rfl) (by simp) ?_
                refine AllReadyH.cons rfl (fun K hK0 => ?_) AllReadyH.nil
                go_simp
                with_reducible refine c2x.mono ?_
                rintro e w2x ⟨rfl, h2x⟩
                have s2x := s1x.chg h2x.out.2 (by omega)
                have t2x : w2x.cell? ⟨wr.heap.size, 2, none⟩ = some (.bool s2) := by (rw [s2x.cell]; rfl)
                go_simp
                refine hK0.out _ _ t2x (fun hS2 => ?_)
                clear hK0 K
                try simp only [List.getElem_toArray, List.getElem_cons_succ, List.getElem_cons_zero, Act.put, List.setIfInBounds_toArray, List.set_cons_zero, List.set_cons_succ]
                refine wpAnyH_take (i := 10) (v := ?_) rfl (by kernel_rfl) (by kernel_rfl) (by kernel_rfl) (fun _ _ _ h => h) (Or.inl ⟨by rfl, ?_⟩) (by assumption) ?_
                rotate_left
                · intro w' hSw
                  try dsimp only at hSw
                  go_simp
                  try with_reducible rfl
                try simp only [List.getElem_toArray, List.getElem_cons_succ, List.getElem_cons_zero, Act.put, List.setIfInBounds_toArray, List.set_cons_zero, List.set_cons_succ]
                refine wpAnyH_take (i := 11) (v := ?_) rfl (by kernel_rfl) (by kernel_rfl) (by kernel_rfl) (fun _ _ _ h => h) (Or.inl ⟨by rfl, ?_⟩) (by assumption) ?_
                rotate_left
                · intro w' hSw
                  try dsimp only at hSw
                  go_simp
                  try with_reducible rfl
                try simp only [List.getElem_toArray, List.getElem_cons_succ, List.getElem_cons_zero, Act.put, List.setIfInBounds_toArray, List.set_cons_zero, List.set_cons_succ]
                refine wpAnyH_done (by kernel_rfl) ?_ _
                refine NoPanic.normal ?_
                go_wp2_with fail
                go_meet
                exact ⟨rfl, _, keep (h2x.out.1.mono (by have := h2x.out.2.size; omega) (Nat.le_refl _) (by omega))⟩
              · have k3b : (s0 == 3) = false := by simpa using k3
                by_cases k6 : s0 ≤ 6
                · have cP := bdrop (x := v) h6.out (by omega)
                  go_wp2_with fail
                  with_reducible refine cP.mono ?_
                  rintro e w1 ⟨B1, k1, b1, rfl, h1⟩
                  have cD := ddrop (x := v) h1.out.1 (by omega)
                  clear cP
                  go_wp2_with fail
                  with_reducible refine cD.mono ?_
                  rintro e w2 ⟨B2, k2, b2, rfl, h2⟩
                  have R1 := h1.out.2.2.stay (by have := fa.size; have := hM5.lt; omega) h2.out.2.1
                  have hk1 := R1.1
                  have hk2 := h2.out.2.2.1
                  have hsz := h6.out.sz
                  have hlk : k1 ≤ 100000 := by rw [← hk1]; have := drop_sz (x := v) hsz; omega
                  have cS := sameints_at (W0 := w2) (c := b1) (c2 := b2) R1.ints (Nat.le_refl _) hk1 hlk h2.out.2.2.ints (Nat.le_refl _) hk2 (by omega) (fr_refl w2)
                  rw [decide_eq_true rfl] at cS
                  have H2 := keep h2.out.1
                  have Hs := keep h2.out.2.1.size
                  clear cD hk1 hk2 R1
                  go_wp2_with fail
                  with_reducible refine cS.mono ?_
                  rintro e w3 ⟨rfl, f3⟩
                  go_wp2_with fail
                  go_meet
                  exact ⟨rfl, _, keep ((H2.out.go f3).mono (by have := f3.size; have := Hs.out; omega) f3.size (by omega))⟩
                · by_cases k7 : s0 = 7
                  · subst k7
                    have cP := bdown (x := v) h6.out (by omega) hv
                    go_wp2_with fail
                    with_reducible refine cP.mono ?_
                    rintro e w1 ⟨B1, k1, b1, rfl, h1⟩
                    have cD := ddown (x := v) h1.out.1 (by omega) hv
                    clear cP
                    go_wp2_with fail
                    with_reducible refine cD.mono ?_
                    rintro e w2 ⟨B2, k2, b2, rfl, h2⟩
                    have R1 := h1.out.2.2.stay (by have := fa.size; have := hM5.lt; omega) h2.out.2.1
                    have hk1 := R1.1
                    have hk2 := h2.out.2.2.1
                    have hsz := h6.out.sz
                    have hlk : k1 ≤ 100000 := by rw [← hk1]; have := down_sz (x := v) hsz; omega
                    have cS := sameints_at (W0 := w2) (c := b1) (c2 := b2) R1.ints (Nat.le_refl _) hk1 hlk h2.out.2.2.ints (Nat.le_refl _) hk2 (by omega) (fr_refl w2)
                    rw [decide_eq_true rfl] at cS
                    have H2 := keep h2.out.1
                    have Hs := keep h2.out.2.1.size
                    clear cD hk1 hk2 R1
                    go_wp2_with fail
                    with_reducible refine cS.mono ?_
                    rintro e w3 ⟨rfl, f3⟩
                    go_wp2_with fail
                    go_meet
                    exact ⟨rfl, _, keep ((H2.out.go f3).mono (by have := f3.size; have := Hs.out; omega) f3.size (by omega))⟩
                  · have k7b : (s0 == 7) = false := by simpa using k7
                    by_cases k8 : s0 = 8
                    · subst k8
                      have cP := bpin h6.out (by omega)
                      go_wp2_with fail
                      with_reducible refine cP.mono ?_
                      rintro e w1 ⟨rfl, h1⟩
                      have cD := dpin h1.out.1 (by omega)
                      clear cP
                      go_wp2_with fail
                      with_reducible refine cD.mono ?_
                      rintro e w2 ⟨rfl, h2⟩
                      clear cD
                      go_wp2_with fail
                      go_meet
                      exact ⟨by simp, _, keep (h2.out.1.mono (by have := h2.out.2.size; omega) (Nat.le_refl _) (by omega))⟩
                    · have k8b : (s0 == 8) = false := by simpa using k8
                      have cP := bunpin h6.out (by omega)
                      go_wp2_with fail
                      with_reducible refine cP.mono ?_
                      rintro e w1 ⟨rfl, h1⟩
                      have cD := dunpin h1.out.1 (by omega)
                      clear cP
                      go_wp2_with fail
                      with_reducible refine cD.mono ?_
                      rintro e w2 ⟨rfl, h2⟩
                      clear cD
                      go_wp2_with fail
                      go_meet
                      exact ⟨by simp, _, keep (h2.out.1.mono (by have := h2.out.2.size; omega) (Nat.le_refl _) (by omega))⟩
          case rest =>
            obtain ⟨rfl, t', hB2⟩ := hcut
            obtain ⟨V, eW⟩ : ∃ W, W = wc := ⟨_, rfl⟩
            rw [← eW]
            rw [← eW] at hB2
            obtain ⟨Ap, np, cp, Qp, mp, dp, Ad, nd, cd, Qd, md, dd, pp, pd, hy, hz⟩ := hB2.out.lat
            obtain ⟨d0, d1, d2, -⟩ := pd.cells
            obtain ⟨n1, n2⟩ := pd.nlen
            have gl := pd.box.lt
            have okk := hB2.out.ok.1
            have hsz := hB2.out.sz
            have vv := fr_refl V
            have vd := fr_drew vv
            have c0 : ∀ W, Fr V W → W.cell? ⟨r, 0, none⟩ = some (.slice Ad nd cd) := fun W f => (f.cell gl).trans d0
            have c1 : ∀ W, Fr V W → W.cell? ⟨r, 1, none⟩ = some (.int .i64 t'.wr) := fun W f => (f.cell gl).trans d1
            have c2 : ∀ W, Fr V W → W.cell? ⟨r, 2, none⟩ = some (.slice Qd md dd) := fun W f => (f.cell gl).trans d2
            have cR : ∀ W, Fr V W → Calls Try.prog 27 #[.pointer (some ⟨g, 0, none⟩)] W fun e w' => ∃ B k b, e = .returned (.slice B k b) ∧ Fr V w' ∧ RR w' B k t'.rs := fun W f => by
              refine (readers_at (pp.fr f) (by omega)).mono ?_
              rintro e w' ⟨B, k, b, rfl, hh⟩
              exact ⟨B, k, b, rfl, fr_step f hh.out.2.2, hh.out.1, hh.out.2.1.has⟩
            have cS : ∀ W, Fr V W → ∀ B k b, RR W B k t'.rs → Calls Try.prog 18 #[.slice B k b, .slice Ad nd cd] W fun e w' => e = .returned (.bool true) ∧ Fr V w' := fun W f B k b hr => by
              have hh := (pd.fr f).rs.has
              rw [ic_ints] at hh
              have := sameints_at (W0 := V) (c := b) (c2 := cd) hr.2 (Nat.le_refl _) hr.1 (by rw [← hr.1]; omega) hh (Nat.le_refl _) n1 (by omega) f
              rwa [decide_eq_true rfl] at this
            have cW : ∀ W, Fr V W → Calls Try.prog 28 #[.pointer (some ⟨g, 0, none⟩)] W fun e w' => e = .returned (.int .i64 t'.wr) ∧ Fr V w' := fun W f => by
              refine (writer_at (pp.fr f)).mono ?_
              rintro e w' ⟨rfl, rfl⟩
              exact ⟨rfl, f⟩
            have cQ : ∀ W, Fr V W → Calls Try.prog 30 #[.pointer (some ⟨g, 0, none⟩)] W fun e w' => ∃ B k b, e = .returned (.slice B k b) ∧ Fr V w' ∧ RQ w' B k t'.q := fun W f => by
              refine (queue_at (pp.fr f) (by omega)).mono ?_
              rintro e w' ⟨B, k, b, rfl, hh⟩
              exact ⟨B, k, b, rfl, fr_step f hh.out.2.2, hh.out.1, hh.out.2.1.has⟩
            have cT : ∀ W, Fr V W → ∀ B k b, RQ W B k t'.q → Calls Try.prog 29 #[.slice B k b, .slice Qd md dd] W fun e w' => e = .returned (.bool true) ∧ Fr V w' := fun W f B k b hr =>
              samewants_at (W0 := V) (c := b) (c2 := dd) hr.2 (Nat.le_refl _) hr.1 (by rw [← hr.1]; omega) (pd.fr f).q.has (Nat.le_refl _) n2 (fun y hy => by have := okk.q y hy; simp only [maxI] at this; omega) f
            have cI : ∀ W, Fr V W → Calls Try.prog 31 #[.pointer (some ⟨g, 0, none⟩)] W fun e w' => e = .returned (.bool (idleB t')) ∧ Fr V w' := fun W f => by
              refine (idle_at (pp.fr f)).mono ?_
              rintro e w' ⟨rfl, rfl⟩
              exact ⟨rfl, f⟩
            have cJ : ∀ W, Fr V W → Calls Try.prog 32 #[.pointer (some ⟨r, 0, none⟩)] W fun e w' => e = .returned (.bool (idleB t')) ∧ Fr V w' := fun W f => by
              refine (ridle_at (pd.fr f) okk.wr.1).mono ?_
              rintro e w' ⟨rfl, rfl⟩
              exact ⟨rfl, f⟩
            generalize idleB t' = idl at *
            generalize t'.wr = wrt at *
            clear eW pp pd hy hz d0 d1 d2 n1 n2 okk hsz h6 e0 hM5 hMa
            go_wp2_with fail
            refine wp_region_noPanic ?_
            refine wp_region_held_drew (S := fun W => Fr V W) (by kernel_rfl) vd (fun hHeld => ?_)
            change wpAnyH _ _ _ _ _ _ _ _ _
            refine wpAnyH_take (i := 0) (v := ?_) rfl (by kernel_rfl) (by kernel_rfl) (by kernel_rfl) (fun _ _ _ h => h) (Or.inl ⟨by rfl, ?_⟩) (by assumption) ?_
            rotate_left
            · intro w' hSw
              try dsimp only at hSw
              go_simp
              try with_reducible rfl
            try simp only [List.getElem_toArray, List.getElem_cons_zero, Act.put, List.setIfInBounds_toArray, List.set_cons_zero, List.set_cons_succ]
            refine wpAnyH_take (i := 1) (v := .bool false) rfl (by kernel_rfl) (by kernel_rfl) (by kernel_rfl) (fun _ _ _ h => h) (Or.inl ⟨by rfl, ?_⟩) (by assumption) ?_
            · intro w' hSw
              try dsimp only at hSw
              try go_simp
              all_goals first | done | with_reducible rfl | omega | assumption | (simp; omega)
            try simp only [List.getElem_toArray, List.getElem_cons_succ, List.getElem_cons_zero, Act.put, List.setIfInBounds_toArray, List.set_cons_zero, List.set_cons_succ]
            refine wpAnyH_take (i := 2) (v := .bool false) rfl (by kernel_rfl) (by kernel_rfl) (by kernel_rfl) (fun _ _ _ h => h) (Or.inl ⟨by rfl, ?_⟩) (by assumption) ?_
            · intro w' hSw
              try dsimp only at hSw
              try go_simp
              all_goals first | done | with_reducible rfl | omega | assumption | (simp; omega)
            try simp only [List.getElem_toArray, List.getElem_cons_succ, List.getElem_cons_zero, Act.put, List.setIfInBounds_toArray, List.set_cons_zero, List.set_cons_succ]
            refine wpAnyH_take (i := 3) (v := ?_) rfl (by kernel_rfl) (by kernel_rfl) (by kernel_rfl) (fun _ _ _ h => h) (Or.inl ⟨by rfl, ?_⟩) (by assumption) ?_
            rotate_left
            · intro w' hSw
              try dsimp only at hSw
              go_simp
              try with_reducible rfl
            try simp only [List.getElem_toArray, List.getElem_cons_succ, List.getElem_cons_zero, Act.put, List.setIfInBounds_toArray, List.set_cons_zero, List.set_cons_succ]
            refine wpAnyH_take (i := 5) (v := ?_) rfl (by kernel_rfl) (by kernel_rfl) (by kernel_rfl) (fun _ _ _ h => h) (Or.inl ⟨by rfl, ?_⟩) (by assumption) ?_
            rotate_left
            · intro w' hSw
              try dsimp only at hSw
              go_simp
              try with_reducible rfl
            try simp only [List.getElem_toArray, List.getElem_cons_succ, List.getElem_cons_zero, Act.put, List.setIfInBounds_toArray, List.set_cons_zero, List.set_cons_succ]
            refine wpAnyH_take (i := 6) (v := ?_) rfl (by kernel_rfl) (by kernel_rfl) (by kernel_rfl) (fun _ _ _ h => h) (Or.inl ⟨by rfl, ?_⟩) (by assumption) ?_
            rotate_left
            · intro w' hSw
              try dsimp only at hSw
              go_simp
              try with_reducible rfl
            try simp only [List.getElem_toArray, List.getElem_cons_succ, List.getElem_cons_zero, Act.put, List.setIfInBounds_toArray, List.set_cons_zero, List.set_cons_succ]
            refine wpAnyH_take (i := 7) (v := ?_) rfl (by kernel_rfl) (by kernel_rfl) (by kernel_rfl) (fun _ _ _ h => h) (Or.inl ⟨by rfl, ?_⟩) (by assumption) ?_
            rotate_left
            · intro w' hSw
              try dsimp only at hSw
              go_simp
              try with_reducible rfl
            try simp only [List.getElem_toArray, List.getElem_cons_succ, List.getElem_cons_zero, Act.put, List.setIfInBounds_toArray, List.set_cons_zero, List.set_cons_succ]
            refine wpAnyH_take (i := 8) (v := ?_) rfl (by kernel_rfl) (by kernel_rfl) (by kernel_rfl) (fun _ _ _ h => h) (Or.inl ⟨by rfl, ?_⟩) (by assumption) ?_
            rotate_left
            · intro w' hSw
              try dsimp only at hSw
              go_simp
              try with_reducible rfl
            try simp only [List.getElem_toArray, List.getElem_cons_succ, List.getElem_cons_zero, Act.put, List.setIfInBounds_toArray, List.set_cons_zero, List.set_cons_succ]
            refine wpAnyH_ready (rs := [4]) (by kernel_rfl) (by simp) ?_
            refine AllReadyH.cons rfl (fun K hK0 => ?_) AllReadyH.nil
            go_simp
            refine (cR _ (by assumption)).mono ?_
            rintro e w1x ⟨A1, n1, d1, rfl, f1x, ha1⟩
            go_simp
            refine hK0.out _ _ f1x (fun hS1 => ?_)
            clear hK0 K
            try simp only [List.getElem_toArray, List.getElem_cons_succ, List.getElem_cons_zero, Act.put, List.setIfInBounds_toArray, List.set_cons_zero, List.set_cons_succ]
            refine wpAnyH_ready (rs := [9]) (by kernel_rfl) (by simp) ?_
            refine AllReadyH.cons rfl (fun K hK0 => ?_) AllReadyH.nil
            go_simp
            refine (cS _ (by assumption) A1 n1 d1 ha1).mono ?_
            rintro e w2x ⟨rfl, f2x⟩
            go_simp
            refine hK0.out _ _ f2x (fun hS2 => ?_)
            clear hK0 K
            try simp only [List.getElem_toArray, List.getElem_cons_succ, List.getElem_cons_zero, Act.put, List.setIfInBounds_toArray, List.set_cons_zero, List.set_cons_succ]
            refine wpAnyH_take (i := 10) (v := .bool false) rfl (by kernel_rfl) (by kernel_rfl) (by kernel_rfl) (fun _ _ _ h => h) (Or.inl ⟨by rfl, ?_⟩) (by assumption) ?_
            · intro w' hSw
              try dsimp only at hSw
              try go_simp
              all_goals first | done | with_reducible rfl | omega | assumption | (simp; omega)
            try simp only [List.getElem_toArray, List.getElem_cons_succ, List.getElem_cons_zero, Act.put, List.setIfInBounds_toArray, List.set_cons_zero, List.set_cons_succ]
            refine wpAnyH_take (i := 11) (v := .bool false) rfl (by kernel_rfl) (by kernel_rfl) (by kernel_rfl) (fun _ _ _ h => h) (Or.inl ⟨by rfl, ?_⟩) (by assumption) ?_
            · intro w' hSw
              try dsimp only at hSw
              try go_simp
              all_goals first | done | with_reducible rfl | omega | assumption | (simp; omega)
            try simp only [List.getElem_toArray, List.getElem_cons_succ, List.getElem_cons_zero, Act.put, List.setIfInBounds_toArray, List.set_cons_zero, List.set_cons_succ]
            refine wpAnyH_take (i := 12) (v := .bool false) rfl (by kernel_rfl) (by kernel_rfl) (by kernel_rfl) (fun _ _ _ h => h) (Or.inl ⟨by rfl, ?_⟩) (by assumption) ?_
            · intro w' hSw
              try dsimp only at hSw
              try go_simp
              all_goals first | done | with_reducible rfl | omega | assumption | (simp; omega)
            try simp only [List.getElem_toArray, List.getElem_cons_succ, List.getElem_cons_zero, Act.put, List.setIfInBounds_toArray, List.set_cons_zero, List.set_cons_succ]
            refine wpAnyH_take (i := 13) (v := ?_) rfl (by kernel_rfl) (by kernel_rfl) (by kernel_rfl) (fun _ _ _ h => h) (Or.inl ⟨by rfl, ?_⟩) (by assumption) ?_
            rotate_left
            · intro w' hSw
              try dsimp only at hSw
              go_simp
              try with_reducible rfl
            try simp only [List.getElem_toArray, List.getElem_cons_succ, List.getElem_cons_zero, Act.put, List.setIfInBounds_toArray, List.set_cons_zero, List.set_cons_succ]
            refine wpAnyH_take (i := 15) (v := ?_) rfl (by kernel_rfl) (by kernel_rfl) (by kernel_rfl) (fun _ _ _ h => h) (Or.inl ⟨by rfl, ?_⟩) (by assumption) ?_
            rotate_left
            · intro w' hSw
              try dsimp only at hSw
              go_simp
              try with_reducible rfl
            try simp only [List.getElem_toArray, List.getElem_cons_succ, List.getElem_cons_zero, Act.put, List.setIfInBounds_toArray, List.set_cons_zero, List.set_cons_succ]
            refine wpAnyH_take (i := 16) (v := ?_) rfl (by kernel_rfl) (by kernel_rfl) (by kernel_rfl) (fun _ _ _ h => h) (Or.inl ⟨by rfl, ?_⟩) (by assumption) ?_
            rotate_left
            · intro w' hSw
              try dsimp only at hSw
              go_simp
              try with_reducible rfl
            try simp only [List.getElem_toArray, List.getElem_cons_succ, List.getElem_cons_zero, Act.put, List.setIfInBounds_toArray, List.set_cons_zero, List.set_cons_succ]
            refine wpAnyH_take (i := 17) (v := ?_) rfl (by kernel_rfl) (by kernel_rfl) (by kernel_rfl) (fun _ _ _ h => h) (Or.inl ⟨by rfl, ?_⟩) (by assumption) ?_
            rotate_left
            · intro w' hSw
              try dsimp only at hSw
              go_simp
              try with_reducible rfl
            try simp only [List.getElem_toArray, List.getElem_cons_succ, List.getElem_cons_zero, Act.put, List.setIfInBounds_toArray, List.set_cons_zero, List.set_cons_succ]
            refine wpAnyH_take (i := 18) (v := ?_) rfl (by kernel_rfl) (by kernel_rfl) (by kernel_rfl) (fun _ _ _ h => h) (Or.inl ⟨by rfl, ?_⟩) (by assumption) ?_
            rotate_left
            · intro w' hSw
              try dsimp only at hSw
              go_simp
              try with_reducible rfl
            try simp only [List.getElem_toArray, List.getElem_cons_succ, List.getElem_cons_zero, Act.put, List.setIfInBounds_toArray, List.set_cons_zero, List.set_cons_succ]
            refine wpAnyH_ready (rs := [14]) (by kernel_rfl) (by simp) ?_
            refine AllReadyH.cons rfl (fun K hK0 => ?_) AllReadyH.nil
            go_simp
            refine (cW _ (by assumption)).mono ?_
            rintro e w3x ⟨rfl, f3x⟩
            go_simp
            refine hK0.out _ _ f3x (fun hS3 => ?_)
            clear hK0 K
            try simp only [List.getElem_toArray, List.getElem_cons_succ, List.getElem_cons_zero, Act.put, List.setIfInBounds_toArray, List.set_cons_zero, List.set_cons_succ]
            refine wpAnyH_take (i := 19) (v := .bool false) rfl (by kernel_rfl) (by kernel_rfl) (by kernel_rfl) (fun _ _ _ h => h) (Or.inl ⟨by rfl, ?_⟩) (by assumption) ?_
            · intro w' hSw
              try dsimp only at hSw
              try go_simp
              all_goals first | done | with_reducible rfl | omega | assumption | (simp; omega)
            try simp only [List.getElem_toArray, List.getElem_cons_succ, List.getElem_cons_zero, Act.put, List.setIfInBounds_toArray, List.set_cons_zero, List.set_cons_succ]
            refine wpAnyH_take (i := 20) (v := .bool false) rfl (by kernel_rfl) (by kernel_rfl) (by kernel_rfl) (fun _ _ _ h => h) (Or.inl ⟨by rfl, ?_⟩) (by assumption) ?_
            · intro w' hSw
              try dsimp only at hSw
              try go_simp
              all_goals first | done | with_reducible rfl | omega | assumption | (simp; omega)
            try simp only [List.getElem_toArray, List.getElem_cons_succ, List.getElem_cons_zero, Act.put, List.setIfInBounds_toArray, List.set_cons_zero, List.set_cons_succ]
            refine wpAnyH_take (i := 21) (v := .bool false) rfl (by kernel_rfl) (by kernel_rfl) (by kernel_rfl) (fun _ _ _ h => h) (Or.inl ⟨by rfl, ?_⟩) (by assumption) ?_
            · intro w' hSw
              try dsimp only at hSw
              try go_simp
              all_goals first | done | with_reducible rfl | omega | assumption | (simp; omega)
            try simp only [List.getElem_toArray, List.getElem_cons_succ, List.getElem_cons_zero, Act.put, List.setIfInBounds_toArray, List.set_cons_zero, List.set_cons_succ]
            refine wpAnyH_take (i := 22) (v := ?_) rfl (by kernel_rfl) (by kernel_rfl) (by kernel_rfl) (fun _ _ _ h => h) (Or.inl ⟨by rfl, ?_⟩) (by assumption) ?_
            rotate_left
            · intro w' hSw
              try dsimp only at hSw
              go_simp
              try with_reducible rfl
            try simp only [List.getElem_toArray, List.getElem_cons_succ, List.getElem_cons_zero, Act.put, List.setIfInBounds_toArray, List.set_cons_zero, List.set_cons_succ]
            refine wpAnyH_take (i := 24) (v := ?_) rfl (by kernel_rfl) (by kernel_rfl) (by kernel_rfl) (fun _ _ _ h => h) (Or.inl ⟨by rfl, ?_⟩) (by assumption) ?_
            rotate_left
            · intro w' hSw
              try dsimp only at hSw
              go_simp
              try with_reducible rfl
            try simp only [List.getElem_toArray, List.getElem_cons_succ, List.getElem_cons_zero, Act.put, List.setIfInBounds_toArray, List.set_cons_zero, List.set_cons_succ]
            refine wpAnyH_take (i := 25) (v := ?_) rfl (by kernel_rfl) (by kernel_rfl) (by kernel_rfl) (fun _ _ _ h => h) (Or.inl ⟨by rfl, ?_⟩) (by assumption) ?_
            rotate_left
            · intro w' hSw
              try dsimp only at hSw
              go_simp
              try with_reducible rfl
            try simp only [List.getElem_toArray, List.getElem_cons_succ, List.getElem_cons_zero, Act.put, List.setIfInBounds_toArray, List.set_cons_zero, List.set_cons_succ]
            refine wpAnyH_take (i := 26) (v := ?_) rfl (by kernel_rfl) (by kernel_rfl) (by kernel_rfl) (fun _ _ _ h => h) (Or.inl ⟨by rfl, ?_⟩) (by assumption) ?_
            rotate_left
            · intro w' hSw
              try dsimp only at hSw
              go_simp
              try with_reducible rfl
            try simp only [List.getElem_toArray, List.getElem_cons_succ, List.getElem_cons_zero, Act.put, List.setIfInBounds_toArray, List.set_cons_zero, List.set_cons_succ]
            refine wpAnyH_take (i := 27) (v := ?_) rfl (by kernel_rfl) (by kernel_rfl) (by kernel_rfl) (fun _ _ _ h => h) (Or.inl ⟨by rfl, ?_⟩) (by assumption) ?_
            rotate_left
            · intro w' hSw
              try dsimp only at hSw
              go_simp
              try with_reducible rfl
            try simp only [List.getElem_toArray, List.getElem_cons_succ, List.getElem_cons_zero, Act.put, List.setIfInBounds_toArray, List.set_cons_zero, List.set_cons_succ]
            refine wpAnyH_ready (rs := [23]) (by kernel_rfl) (by simp) ?_
            refine AllReadyH.cons rfl (fun K hK0 => ?_) AllReadyH.nil
            go_simp
            refine (cQ _ (by assumption)).mono ?_
            rintro e w4x ⟨A4, n4, d4, rfl, f4x, ha4⟩
            go_simp
            refine hK0.out _ _ f4x (fun hS4 => ?_)
            clear hK0 K
            try simp only [List.getElem_toArray, List.getElem_cons_succ, List.getElem_cons_zero, Act.put, List.setIfInBounds_toArray, List.set_cons_zero, List.set_cons_succ]
            refine wpAnyH_ready (rs := [28]) (by kernel_rfl) (by simp) ?_
            refine AllReadyH.cons rfl (fun K hK0 => ?_) AllReadyH.nil
            go_simp
            refine (cT _ (by assumption) A4 n4 d4 ha4).mono ?_
            rintro e w5x ⟨rfl, f5x⟩
            go_simp
            refine hK0.out _ _ f5x (fun hS5 => ?_)
            clear hK0 K
            try simp only [List.getElem_toArray, List.getElem_cons_succ, List.getElem_cons_zero, Act.put, List.setIfInBounds_toArray, List.set_cons_zero, List.set_cons_succ]
            refine wpAnyH_take (i := 29) (v := .bool false) rfl (by kernel_rfl) (by kernel_rfl) (by kernel_rfl) (fun _ _ _ h => h) (Or.inl ⟨by rfl, ?_⟩) (by assumption) ?_
            · intro w' hSw
              try dsimp only at hSw
              try go_simp
              all_goals first | done | with_reducible rfl | omega | assumption | (simp; omega)
            try simp only [List.getElem_toArray, List.getElem_cons_succ, List.getElem_cons_zero, Act.put, List.setIfInBounds_toArray, List.set_cons_zero, List.set_cons_succ]
            refine wpAnyH_take (i := 30) (v := .bool false) rfl (by kernel_rfl) (by kernel_rfl) (by kernel_rfl) (fun _ _ _ h => h) (Or.inl ⟨by rfl, ?_⟩) (by assumption) ?_
            · intro w' hSw
              try dsimp only at hSw
              try go_simp
              all_goals first | done | with_reducible rfl | omega | assumption | (simp; omega)
            try simp only [List.getElem_toArray, List.getElem_cons_succ, List.getElem_cons_zero, Act.put, List.setIfInBounds_toArray, List.set_cons_zero, List.set_cons_succ]
            refine wpAnyH_take (i := 31) (v := .bool false) rfl (by kernel_rfl) (by kernel_rfl) (by kernel_rfl) (fun _ _ _ h => h) (Or.inl ⟨by rfl, ?_⟩) (by assumption) ?_
            · intro w' hSw
              try dsimp only at hSw
              try go_simp
              all_goals first | done | with_reducible rfl | omega | assumption | (simp; omega)
            try simp only [List.getElem_toArray, List.getElem_cons_succ, List.getElem_cons_zero, Act.put, List.setIfInBounds_toArray, List.set_cons_zero, List.set_cons_succ]
            refine wpAnyH_take (i := 32) (v := ?_) rfl (by kernel_rfl) (by kernel_rfl) (by kernel_rfl) (fun _ _ _ h => h) (Or.inl ⟨by rfl, ?_⟩) (by assumption) ?_
            rotate_left
            · intro w' hSw
              try dsimp only at hSw
              go_simp
              try with_reducible rfl
            try simp only [List.getElem_toArray, List.getElem_cons_succ, List.getElem_cons_zero, Act.put, List.setIfInBounds_toArray, List.set_cons_zero, List.set_cons_succ]
            refine wpAnyH_take (i := 34) (v := ?_) rfl (by kernel_rfl) (by kernel_rfl) (by kernel_rfl) (fun _ _ _ h => h) (Or.inl ⟨by rfl, ?_⟩) (by assumption) ?_
            rotate_left
            · intro w' hSw
              try dsimp only at hSw
              go_simp
              try with_reducible rfl
            try simp only [List.getElem_toArray, List.getElem_cons_succ, List.getElem_cons_zero, Act.put, List.setIfInBounds_toArray, List.set_cons_zero, List.set_cons_succ]
            refine wpAnyH_ready (rs := [33]) (by kernel_rfl) (by simp) ?_
            refine AllReadyH.cons rfl (fun K hK0 => ?_) AllReadyH.nil
            go_simp
            refine (cI _ (by assumption)).mono ?_
            rintro e w6x ⟨rfl, f6x⟩
            go_simp
            refine hK0.out _ _ f6x (fun hS6 => ?_)
            clear hK0 K
            try simp only [List.getElem_toArray, List.getElem_cons_succ, List.getElem_cons_zero, Act.put, List.setIfInBounds_toArray, List.set_cons_zero, List.set_cons_succ]
            refine wpAnyH_ready (rs := [35]) (by kernel_rfl) (by simp) ?_
            refine AllReadyH.cons rfl (fun K hK0 => ?_) AllReadyH.nil
            go_simp
            refine (cJ _ (by assumption)).mono ?_
            rintro e w7x ⟨rfl, f7x⟩
            go_simp
            refine hK0.out _ _ f7x (fun hS7 => ?_)
            clear hK0 K
            try simp only [List.getElem_toArray, List.getElem_cons_succ, List.getElem_cons_zero, Act.put, List.setIfInBounds_toArray, List.set_cons_zero, List.set_cons_succ]
            refine wpAnyH_take (i := 36) (v := .bool false) rfl (by kernel_rfl) (by kernel_rfl) (by kernel_rfl) (fun _ _ _ h => h) (Or.inl ⟨by rfl, ?_⟩) (by assumption) ?_
            · intro w' hSw
              try dsimp only at hSw
              try go_simp
              all_goals first | done | with_reducible rfl | omega | assumption | (simp; omega)
            try simp only [List.getElem_toArray, List.getElem_cons_succ, List.getElem_cons_zero, Act.put, List.setIfInBounds_toArray, List.set_cons_zero, List.set_cons_succ]
            refine wpAnyH_take (i := 37) (v := .bool false) rfl (by kernel_rfl) (by kernel_rfl) (by kernel_rfl) (fun _ _ _ h => h) (Or.inl ⟨by rfl, ?_⟩) (by assumption) ?_
            · intro w' hSw
              try dsimp only at hSw
              try go_simp
              all_goals first | done | with_reducible rfl | omega | assumption | (simp; omega)
            try simp only [List.getElem_toArray, List.getElem_cons_succ, List.getElem_cons_zero, Act.put, List.setIfInBounds_toArray, List.set_cons_zero, List.set_cons_succ]
            refine wpAnyH_done (by kernel_rfl) ?_ _
            refine NoPanic.normal ?_
            go_wp2_with fail
            go_roundg (gk - 1)
            case measure => omega
            case rel => exact ⟨j + 1, t', by omega, rfl, keep ((hB2.out.go (by assumption)).mono (Below.size (by assumption)) (Below.size (by assumption)) (Nat.le_refl _))⟩
      · have hje : j = m := by omega
        subst hje
        have hiz : ¬ (j : Int) < (j : Int) := by omega
        have F := keep hB.out.fr
        clear hlt hB
        go_wp2_with fail
        with_reducible refine (awake14 wr).mono ?_
        rintro e w8 ⟨rfl, f⟩
        go_wp2_with fail
        go_ret
        exact ⟨rfl, fr_step F.out f⟩
end Go.Proofs.Ytbnphkiipjgfaaa
