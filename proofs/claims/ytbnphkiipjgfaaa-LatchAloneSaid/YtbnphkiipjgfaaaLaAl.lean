/- LatchAlone, walked. -/
import Derived.Test.YtbnphkiipjgfaaaLaQu
import Derived.Test.YtbnphkiipjgfaaaLaAm
namespace Go.Proofs.Ytbnphkiipjgfaaa
set_option linter.unusedVariables false
set_option linter.unusedSimpArgs false
set_option maxRecDepth 100000
open Go.RowKit
/-- The counts in memory. -/
def MB (W : World) (mb : Nat) (L : List Int) : Prop := Arr W mb 49 (ints (cnt L)).toArray
theorem mb_nil (V : World) : MB (V.alloc (.cells #[.int .i64 0, .int .i64 0, .int .i64 0, .int .i64 0, .int .i64 0, .int .i64 0] 49)) V.heap.size [] := Arr.new V _ _
theorem mb_cell {W : World} {mb v : Nat} {L : List Int} (h : MB W mb L) (hv : v < 6) : W.cell? ⟨mb, v, none⟩ = some (.int .i64 ((L.count ((v : Nat) : Int) : Nat) : Int)) := by
  rw [h.cell]
  simpa using ints_get (cnt_get L hv)
theorem mb_splice (L : List Int) {v : Nat} (hv : v < 6) : splice (ints (cnt L)) v [.int .i64 (((L.count ((v : Nat) : Int) : Nat) : Int) + 1)] = ints (cnt (L ++ [(v : Int)])) := by
  rw [splice_cell _ _ _ (by rw [ints_len, cnt_len]; exact hv), cnt_snoc L hv]
  simp [ints, List.map_set]
theorem ints_cnt_len (L : List Int) : (ints (cnt L)).length = 6 := by rw [ints_len, cnt_len]
set_option maxHeartbeats 16000000 in
theorem alone_core {w : World} {A : Option Addr} {m c : Nat} {l : List RStep} (hl : Has w w.heap.size A (rows stepC l)) (hm : l.length = m) (hmx : m ≤ maxLen) (hw : ∀ s ∈ l, s.wf) :
    Calls Try.prog 4 #[.slice A m c] w fun e w' => e = .returned (.bool true) ∧ Below w.heap.size w w' := by
  unfold maxLen at hmx
  by_cases h20 : 120 < m
  · have h20z : 120 < (m : Int) := by omega
    clear hl hm hw
    go_enter Try.func4, Try.ntmps4
    go_wp2_with fail
    with_reducible refine (lnewg w).mono ?_
    rintro e v0 ⟨g, rfl, h0⟩
    go_wp2_with fail
    with_reducible refine (awake14 v0).mono ?_
    rintro e v1 ⟨rfl, f⟩
    go_wp2_with fail
    go_ret
    exact ⟨rfl, fr_step h0.out.fr f⟩
  · have h20z : ¬ 120 < (m : Int) := by omega
    have HL := keep hl
    have HM := keep hm
    have HW := keep hw
    clear hl hm hw
    go_enter Try.func4, Try.ntmps4
    go_wp2_with fail
    with_reducible refine (lnewg w).mono ?_
    rintro e v0 ⟨g, rfl, h0⟩
    go_wp2_with fail
    go_loopg [4, 5, 6, 7, 8, 9, 10, 11, 12] m (fun gg s4 _ _ _ _ _ _ _ _ wr => ∃ (j : Nat) (t : Lat), j + gg = m ∧ s4 = .int .i64 j ∧ Hid (LB w wr g t j) ∧ Hid (Al t))
    case atStart => exact ⟨0, newT, by omega, rfl, h0, keep new_al⟩
    case round =>
      clear h0
      obtain ⟨j, t, hj, rfl, hB, hT⟩ := hrel
      by_cases hlt : j < m
      · have hx : l[j]? = some (l[j]'(by rw [HM.out]; exact hlt)) := List.getElem?_eq_getElem _
        generalize l[j]'(by rw [HM.out]; exact hlt) = s at hx
        obtain ⟨v0, v1⟩ := HW.out s (List.mem_of_getElem? hx)
        obtain ⟨g1, o1, rfl, x0, x1, x2⟩ := step_cell HL.out hx
        obtain ⟨s0, s1, s2⟩ := s
        simp only at v0 v1 x0 x1 x2
        have cPk : ∀ W, Calls Try.prog 13 #[.int .i64 s1, .int .i64 6] W fun e w' => e = .returned (.int .i64 (s1 % 6)) ∧ Fr W w' := fun W => law_place s1 6 v1 (by omega) (by omega) W
        obtain ⟨p, hp, hp6⟩ : ∃ p : Nat, s1 % 6 = (p : Int) ∧ p < 6 := ⟨(s1 % 6).toNat, by omega, by omega⟩
        rw [hp] at cPk
        have hjz : (j : Int) < (m : Int) := by omega
        have hj120 : j ≤ 120 := by omega
        have y1 := x1 wr hB.out.fr
        have X0 := keep x0
        have X2 := keep x2
        unfold Is64 at v0
        obtain ⟨gko, rfl⟩ : ∃ x, x = gk := ⟨_, rfl⟩
        clear hx hlt x0 x1 x2 hp v1
        go_wp2_with fail
        with_reducible refine (cPk wr).mono ?_
        rintro e w1 ⟨rfl, f1⟩
        have L1 := keep (hB.out.go f1)
        have y0 := X0.out w1 L1.out.fr
        have y2 := X2.out w1 L1.out.fr
        clear cPk y1 hB f1
        go_upto_block 2 with fail
        go_cut [] from 38 to 65 (fun W => ∃ t', Hid (LB w W g t' (j + 1)) ∧ Hid (Al t'))
        case first =>
          by_cases k3 : s0 ≤ 3
          · have ct := ltake (x := (p : Int)) (b := s2) L1.out (by omega) (by omega)
            have ha := keep (hT.out.take (x := (p : Int)) (by omega) s2)
            go_wp2_with fail
            with_reducible refine ct.mono ?_
            rintro e w2 ⟨rfl, h2⟩
            go_wp2_with fail
            go_meet
            exact ⟨_, h2, ha⟩
          · by_cases k6 : s0 ≤ 6
            · have ct := ldrop (x := (p : Int)) L1.out (by omega)
              have ha := keep (hT.out.drop (p : Int))
              go_wp2_with fail
              with_reducible refine ct.mono ?_
              rintro e w2 ⟨B2, kk, b2, rfl, h2⟩
              go_wp2_with fail
              go_meet
              exact ⟨_, keep (h2.out.1.mono (Nat.le_succ _)), ha⟩
            · have ct := ldown (x := (p : Int)) L1.out (by omega) (by omega)
              have ha := keep (hT.out.down (x := (p : Int)))
              go_wp2_with fail
              with_reducible refine ct.mono ?_
              rintro e w2 ⟨B2, kk, b2, rfl, h2⟩
              go_wp2_with fail
              go_meet
              exact ⟨_, keep h2.out.1, ha⟩
        case rest =>
          obtain ⟨t', hB2, hT2⟩ := hcut
          clear y0 y2 L1 hT
          obtain ⟨V, eW⟩ : ∃ W, W = wc := ⟨_, rfl⟩
          rw [← eW]
          rw [← eW] at hB2
          clear eW
          have cr := lreaders hB2.out (by omega)
          go_wp2_with fail
          with_reducible refine cr.mono ?_
          rintro e V2 ⟨Br, n, br, rfl, h2⟩
          have L2 := keep (hB2.out.go h2.out.2.2)
          have Rn := keep h2.out.1
          have R2 : Hid (Rw V2 3 1 Br n br (rows ic t'.rs)) := keep (by rw [ic_ints]; exact h2.out.2.1.rw')
          have cw := lwriter L2.out
          clear cr h2 hB2
          go_wp2_with fail
          with_reducible refine cw.mono ?_
          rintro e V3 ⟨rfl, rfl⟩
          have cq := lqueue L2.out (by omega)
          clear cw
          go_wp2_with fail
          with_reducible refine cq.mono ?_
          rintro e V3 ⟨Bq, k, bq, rfl, h3⟩
          have L3 := keep (L2.out.go h3.out.2.2)
          have Qn := keep h3.out.1
          have Q3 := keep h3.out.2.1.rw'
          have R3 := keep (R2.out.fr h3.out.2.2)
          have hn120 : n ≤ 121 := by have := L3.out.size; rw [Rn.out] at this; omega
          have hk120 : k ≤ 121 := by have := L3.out.size; rw [Qn.out] at this; omega
          have hwr := hT2.out.wr
          have hwr5 : t'.wr ≤ 5 := by
            by_cases h : t'.wr < 0
            · omega
            · have := (hT2.out.lo t'.wr (by simp [allT, wlT, h])).2
              exact this
          have hal : 0 ≤ t'.wr → n = 0 := fun h => by rw [← Rn.out, hT2.out.alone h]; rfl
          have hfb : 0 < k → t'.wr < 0 → 0 < n := fun hk0 hw0 => by
            cases hq : t'.q with
            | nil => have := Qn.out; rw [hq] at this; simp at this; omega
            | cons x q =>
              have h1 := L3.out.fb x q hq
              have hw1 : t'.wr = -1 := by omega
              rw [← Rn.out]
              cases hr : t'.rs with
              | nil => rw [canT, hw1, hr] at h1; simp at h1
              | cons y ys => simp
          have hcl : ∀ L : List Int, L.Sublist (allT t') → ∀ v : Nat, L.count ((v : Nat) : Int) ≤ 1 := fun L hs v => cnt_one (hs.nodup hT2.out.nd)
          have hNd := keep hT2.out.nd
          have hLo := keep hT2.out.lo
          have hSo := keep L3.out.ok.sorted
          have hCl := keep hcl
          obtain ⟨mb, hmb⟩ : ∃ mb, mb = V3.heap.size := ⟨_, rfl⟩
          have hMB0 : ∀ W, W = V3.alloc (.cells #[.int .i64 0, .int .i64 0, .int .i64 0, .int .i64 0, .int .i64 0, .int .i64 0] 49) → MB W mb [] ∧ Fr V3 W := fun W e => by rw [e, hmb]; exact ⟨mb_nil V3, fr_new (fr_refl V3) _⟩
          have HM0 := keep hMB0
          have Hmb := keep hmb
          have hw2 := hwr
          generalize hwv : t'.wr = wv at *
          have Hwv := keep hwv
          clear cq h3 R2 L2 hcl hMB0 hwv hmb
          go_wp2_with fail
          rw [← Hmb.out]
          go_loopg [10] n (fun gg s10 W => ∃ i : Nat, i + gg = n ∧ s10 = .int .i64 i ∧ Hid (Fr V3 W) ∧ Hid (MB W mb (t'.rs.take i)))
          case atStart => exact ⟨0, by omega, rfl, keep (HM0.out _ rfl).2, keep (HM0.out _ rfl).1⟩
          case round =>
            clear HM0
            obtain ⟨i, hi, rfl, hF, hM⟩ := hrel
            by_cases hin : i < n
            · have hx : t'.rs[i]? = some (t'.rs[i]'(by rw [Rn.out]; exact hin)) := List.getElem?_eq_getElem _
              generalize t'.rs[i]'(by rw [Rn.out]; exact hin) = z at hx
              have hzb := hLo.out z (by simp [allT, List.mem_of_getElem? hx])
              obtain ⟨zn, rfl⟩ := Int.eq_ofNat_of_zero_le hzb.1
              obtain ⟨gr, or, rfl, xr⟩ := rw_cell (R3.out.fr hF.out) hx
              have hgr : gr < wr.heap.size := World.block_lt_of_cell? _ _ xr
              have yr : ∀ W, Fr wr W → W.cell? ⟨gr, or + i, none⟩ = some (.int .i64 (zn : Int)) := fun W f => (f.cell hgr).trans xr
              have hz6 : zn < 6 := by omega
              have hz0 : ¬ (zn : Int) < 0 := by omega
              have hz5 : ¬ 5 < (zn : Int) := by omega
              obtain ⟨cn, hcn⟩ : ∃ cn, cn = (t'.rs.take i).count ((zn : Nat) : Int) := ⟨_, rfl⟩
              have hc1 : cn ≤ 1 := by rw [hcn]; exact hCl.out _ ((List.take_sublist _ _).trans (List.sublist_append_left _ _)) zn
              have mc := mb_cell hM.out hz6
              have ms := mb_splice (t'.rs.take i) hz6
              rw [← take_one' hx] at ms
              rw [← hcn] at mc ms
              have hmlt : mb < wr.heap.size := Arr.lt hM.out
              have ym : ∀ W, Fr wr W → W.cell? ⟨mb, zn, none⟩ = some (.int .i64 (cn : Int)) := fun W f => (f.cell hmlt).trans mc
              have MS := keep ms
              have wrr := fr_refl wr
              have wrd := fr_drew wrr
              have hiz : (i : Int) < (n : Int) := by omega
              by_cases hi0 : i = 0
              · subst hi0
                rw [Nat.add_zero] at yr
                clear hx xr mc ms hcn hin
                go_wp2_with fail
                refine wp_region_noPanic ?_
                refine wp_region_held_drew (S := fun W => Fr wr W) (by kernel_rfl) wrd (fun hHeld => ?_)
                change wpAnyH _ _ _ _ _ _ _ _ _
                refine wpAnyH_take (i := 0) (v := ?_) rfl (by kernel_rfl) (by kernel_rfl) (by kernel_rfl) (fun _ _ _ h => h) (Or.inl ⟨by rfl, ?_⟩) (by assumption) ?_
                rotate_left
                · intro w' hSw
                  try dsimp only at hSw
                  go_simp
                  try with_reducible rfl
                try simp only [List.getElem_toArray, List.getElem_cons_zero, Act.put, List.setIfInBounds_toArray, List.set_cons_zero, List.set_cons_succ]
                refine wpAnyH_take (i := 1) (v := ?_) rfl (by kernel_rfl) (by kernel_rfl) (by kernel_rfl) (fun _ _ _ h => h) (Or.inl ⟨by rfl, ?_⟩) (by assumption) ?_
                rotate_left
                · intro w' hSw
                  try dsimp only at hSw
                  go_simp
                  try with_reducible rfl
                try simp only [List.getElem_toArray, List.getElem_cons_succ, List.getElem_cons_zero, Act.put, List.setIfInBounds_toArray, List.set_cons_zero, List.set_cons_succ]
                refine wpAnyH_take (i := 2) (v := ?_) rfl (by kernel_rfl) (by kernel_rfl) (by kernel_rfl) (fun _ _ _ h => h) (Or.inl ⟨by rfl, ?_⟩) (by assumption) ?_
                rotate_left
                · intro w' hSw
                  try dsimp only at hSw
                  go_simp
                  try with_reducible rfl
                try simp only [List.getElem_toArray, List.getElem_cons_succ, List.getElem_cons_zero, Act.put, List.setIfInBounds_toArray, List.set_cons_zero, List.set_cons_succ]
                refine wpAnyH_take (i := 3) (v := ?_) rfl (by kernel_rfl) (by kernel_rfl) (by kernel_rfl) (fun _ _ _ h => h) (Or.inl ⟨by rfl, ?_⟩) (by assumption) ?_
                rotate_left
                · intro w' hSw
                  try dsimp only at hSw
                  go_simp
                  try with_reducible rfl
                try simp only [List.getElem_toArray, List.getElem_cons_succ, List.getElem_cons_zero, Act.put, List.setIfInBounds_toArray, List.set_cons_zero, List.set_cons_succ]
                refine wpAnyH_take (i := 4) (v := .bool false) rfl (by kernel_rfl) (by kernel_rfl) (by kernel_rfl) (fun _ _ _ h => h) (Or.inl ⟨by rfl, ?_⟩) (by assumption) ?_
                · intro w' hSw
                  try dsimp only at hSw
                  try go_simp
                  all_goals first | done | with_reducible rfl | omega | assumption | (simp; omega)
                try simp only [List.getElem_toArray, List.getElem_cons_succ, List.getElem_cons_zero, Act.put, List.setIfInBounds_toArray, List.set_cons_zero, List.set_cons_succ]
                refine wpAnyH_take (i := 5) (v := .bool false) rfl (by kernel_rfl) (by kernel_rfl) (by kernel_rfl) (fun _ _ _ h => h) (Or.inl ⟨by rfl, ?_⟩) (by assumption) ?_
                · intro w' hSw
                  try dsimp only at hSw
                  try go_simp
                  all_goals first | done | with_reducible rfl | omega | assumption | (simp; omega)
                try simp only [List.getElem_toArray, List.getElem_cons_succ, List.getElem_cons_zero, Act.put, List.setIfInBounds_toArray, List.set_cons_zero, List.set_cons_succ]
                refine wpAnyH_take (i := 6) (v := ?_) rfl (by kernel_rfl) (by kernel_rfl) (by kernel_rfl) (fun _ _ _ h => h) (Or.inl ⟨by rfl, ?_⟩) (by assumption) ?_
                rotate_left
                · intro w' hSw
                  try dsimp only at hSw
                  go_simp
                  try with_reducible rfl
                try simp only [List.getElem_toArray, List.getElem_cons_succ, List.getElem_cons_zero, Act.put, List.setIfInBounds_toArray, List.set_cons_zero, List.set_cons_succ]
                refine wpAnyH_take (i := 7) (v := ?_) rfl (by kernel_rfl) (by kernel_rfl) (by kernel_rfl) (fun _ _ _ h => h) (Or.inl ⟨by rfl, ?_⟩) (by assumption) ?_
                rotate_left
                · intro w' hSw
                  try dsimp only at hSw
                  go_simp
                  try with_reducible rfl
                try simp only [List.getElem_toArray, List.getElem_cons_succ, List.getElem_cons_zero, Act.put, List.setIfInBounds_toArray, List.set_cons_zero, List.set_cons_succ]
                refine wpAnyH_take (i := 8) (v := ?_) rfl (by kernel_rfl) (by kernel_rfl) (by kernel_rfl) (fun _ _ _ h => h) (Or.inl ⟨by rfl, ?_⟩) (by assumption) ?_
                rotate_left
                · intro w' hSw
                  try dsimp only at hSw
                  go_simp
                  try with_reducible rfl
                try simp only [List.getElem_toArray, List.getElem_cons_succ, List.getElem_cons_zero, Act.put, List.setIfInBounds_toArray, List.set_cons_zero, List.set_cons_succ]
                refine wpAnyH_take (i := 9) (v := ?_) rfl (by kernel_rfl) (by kernel_rfl) (by kernel_rfl) (fun _ _ _ h => h) (Or.inl ⟨by rfl, ?_⟩) (by assumption) ?_
                rotate_left
                · intro w' hSw
                  try dsimp only at hSw
                  go_simp
                  try with_reducible rfl
                try simp only [List.getElem_toArray, List.getElem_cons_succ, List.getElem_cons_zero, Act.put, List.setIfInBounds_toArray, List.set_cons_zero, List.set_cons_succ]
                refine wpAnyH_take (i := 10) (v := .bool false) rfl (by kernel_rfl) (by kernel_rfl) (by kernel_rfl) (fun _ _ _ h => h) (Or.inl ⟨by rfl, ?_⟩) (by assumption) ?_
                · intro w' hSw
                  try dsimp only at hSw
                  try go_simp
                  all_goals first | done | with_reducible rfl | omega | assumption | (simp; omega)
                try simp only [List.getElem_toArray, List.getElem_cons_succ, List.getElem_cons_zero, Act.put, List.setIfInBounds_toArray, List.set_cons_zero, List.set_cons_succ]
                refine wpAnyH_take (i := 11) (v := .bool false) rfl (by kernel_rfl) (by kernel_rfl) (by kernel_rfl) (fun _ _ _ h => h) (Or.inl ⟨by rfl, ?_⟩) (by assumption) ?_
                · intro w' hSw
                  try dsimp only at hSw
                  try go_simp
                  all_goals first | done | with_reducible rfl | omega | assumption | (simp; omega)
                try simp only [List.getElem_toArray, List.getElem_cons_succ, List.getElem_cons_zero, Act.put, List.setIfInBounds_toArray, List.set_cons_zero, List.set_cons_succ]
                refine wpAnyH_take (i := 12) (v := .bool false) rfl (by kernel_rfl) (by kernel_rfl) (by kernel_rfl) (fun _ _ _ h => h) (Or.inl ⟨by rfl, ?_⟩) (by assumption) ?_
                · intro w' hSw
                  try dsimp only at hSw
                  try go_simp
                  all_goals first | done | with_reducible rfl | omega | assumption | (simp; omega)
                try simp only [List.getElem_toArray, List.getElem_cons_succ, List.getElem_cons_zero, Act.put, List.setIfInBounds_toArray, List.set_cons_zero, List.set_cons_succ]
                refine wpAnyH_take (i := 13) (v := ?_) rfl (by kernel_rfl) (by kernel_rfl) (by kernel_rfl) (fun _ _ _ h => h) (Or.inl ⟨by rfl, ?_⟩) (by assumption) ?_
                rotate_left
                · intro w' hSw
                  try dsimp only at hSw
                  go_simp
                  try with_reducible rfl
                try simp only [List.getElem_toArray, List.getElem_cons_succ, List.getElem_cons_zero, Act.put, List.setIfInBounds_toArray, List.set_cons_zero, List.set_cons_succ]
                refine wpAnyH_take (i := 14) (v := .bool false) rfl (by kernel_rfl) (by kernel_rfl) (by kernel_rfl) (fun _ _ _ h => h) (Or.inl ⟨by rfl, ?_⟩) (by assumption) ?_
                · intro w' hSw
                  try dsimp only at hSw
                  try go_simp
                  all_goals first | done | with_reducible rfl | omega | assumption | (simp; omega)
                try simp only [List.getElem_toArray, List.getElem_cons_succ, List.getElem_cons_zero, Act.put, List.setIfInBounds_toArray, List.set_cons_zero, List.set_cons_succ]
                refine wpAnyH_take (i := 15) (v := .bool false) rfl (by kernel_rfl) (by kernel_rfl) (by kernel_rfl) (fun _ _ _ h => h) (Or.inl ⟨by rfl, ?_⟩) (by assumption) ?_
                · intro w' hSw
                  try dsimp only at hSw
                  try go_simp
                  all_goals first | done | with_reducible rfl | omega | assumption | (simp; omega)
                try simp only [List.getElem_toArray, List.getElem_cons_succ, List.getElem_cons_zero, Act.put, List.setIfInBounds_toArray, List.set_cons_zero, List.set_cons_succ]
                refine wpAnyH_take (i := 16) (v := undef) rfl (by kernel_rfl) (by kernel_rfl) (by kernel_rfl) (fun _ _ _ h => h) (Or.inr ⟨by rfl, rfl⟩) (by assumption) ?_
                try simp only [List.getElem_toArray, List.getElem_cons_succ, List.getElem_cons_zero, Act.put, List.setIfInBounds_toArray, List.set_cons_zero, List.set_cons_succ]
                refine wpAnyH_take (i := 17) (v := undef) rfl (by kernel_rfl) (by kernel_rfl) (by kernel_rfl) (fun _ _ _ h => h) (Or.inr ⟨by rfl, rfl⟩) (by assumption) ?_
                try simp only [List.getElem_toArray, List.getElem_cons_succ, List.getElem_cons_zero, Act.put, List.setIfInBounds_toArray, List.set_cons_zero, List.set_cons_succ]
                refine wpAnyH_take (i := 18) (v := undef) rfl (by kernel_rfl) (by kernel_rfl) (by kernel_rfl) (fun _ _ _ h => h) (Or.inr ⟨by rfl, rfl⟩) (by assumption) ?_
                try simp only [List.getElem_toArray, List.getElem_cons_succ, List.getElem_cons_zero, Act.put, List.setIfInBounds_toArray, List.set_cons_zero, List.set_cons_succ]
                refine wpAnyH_take (i := 19) (v := undef) rfl (by kernel_rfl) (by kernel_rfl) (by kernel_rfl) (fun _ _ _ h => h) (Or.inr ⟨by rfl, rfl⟩) (by assumption) ?_
                try simp only [List.getElem_toArray, List.getElem_cons_succ, List.getElem_cons_zero, Act.put, List.setIfInBounds_toArray, List.set_cons_zero, List.set_cons_succ]
                refine wpAnyH_take (i := 20) (v := undef) rfl (by kernel_rfl) (by kernel_rfl) (by kernel_rfl) (fun _ _ _ h => h) (Or.inr ⟨by rfl, rfl⟩) (by assumption) ?_
                try simp only [List.getElem_toArray, List.getElem_cons_succ, List.getElem_cons_zero, Act.put, List.setIfInBounds_toArray, List.set_cons_zero, List.set_cons_succ]
                refine wpAnyH_take (i := 21) (v := undef) rfl (by kernel_rfl) (by kernel_rfl) (by kernel_rfl) (fun _ _ _ h => h) (Or.inr ⟨by rfl, rfl⟩) (by assumption) ?_
                try simp only [List.getElem_toArray, List.getElem_cons_succ, List.getElem_cons_zero, Act.put, List.setIfInBounds_toArray, List.set_cons_zero, List.set_cons_succ]
                refine wpAnyH_take (i := 22) (v := undef) rfl (by kernel_rfl) (by kernel_rfl) (by kernel_rfl) (fun _ _ _ h => h) (Or.inr ⟨by rfl, rfl⟩) (by assumption) ?_
                try simp only [List.getElem_toArray, List.getElem_cons_succ, List.getElem_cons_zero, Act.put, List.setIfInBounds_toArray, List.set_cons_zero, List.set_cons_succ]
                refine wpAnyH_take (i := 23) (v := undef) rfl (by kernel_rfl) (by kernel_rfl) (by kernel_rfl) (fun _ _ _ h => h) (Or.inr ⟨by rfl, rfl⟩) (by assumption) ?_
                try simp only [List.getElem_toArray, List.getElem_cons_succ, List.getElem_cons_zero, Act.put, List.setIfInBounds_toArray, List.set_cons_zero, List.set_cons_succ]
                refine wpAnyH_take (i := 24) (v := undef) rfl (by kernel_rfl) (by kernel_rfl) (by kernel_rfl) (fun _ _ _ h => h) (Or.inr ⟨by rfl, rfl⟩) (by assumption) ?_
                try simp only [List.getElem_toArray, List.getElem_cons_succ, List.getElem_cons_zero, Act.put, List.setIfInBounds_toArray, List.set_cons_zero, List.set_cons_succ]
                refine wpAnyH_take (i := 25) (v := undef) rfl (by kernel_rfl) (by kernel_rfl) (by kernel_rfl) (fun _ _ _ h => h) (Or.inr ⟨by rfl, rfl⟩) (by assumption) ?_
                try simp only [List.getElem_toArray, List.getElem_cons_succ, List.getElem_cons_zero, Act.put, List.setIfInBounds_toArray, List.set_cons_zero, List.set_cons_succ]
                refine wpAnyH_take (i := 26) (v := .bool false) rfl (by kernel_rfl) (by kernel_rfl) (by kernel_rfl) (fun _ _ _ h => h) (Or.inl ⟨by rfl, ?_⟩) (by assumption) ?_
                · intro w' hSw
                  try dsimp only at hSw
                  try go_simp
                  all_goals first | done | with_reducible rfl | omega | assumption | (simp; omega)
                try simp only [List.getElem_toArray, List.getElem_cons_succ, List.getElem_cons_zero, Act.put, List.setIfInBounds_toArray, List.set_cons_zero, List.set_cons_succ]
                refine wpAnyH_take (i := 27) (v := .bool false) rfl (by kernel_rfl) (by kernel_rfl) (by kernel_rfl) (fun _ _ _ h => h) (Or.inl ⟨by rfl, ?_⟩) (by assumption) ?_
                · intro w' hSw
                  try dsimp only at hSw
                  try go_simp
                  all_goals first | done | with_reducible rfl | omega | assumption | (simp; omega)
                try simp only [List.getElem_toArray, List.getElem_cons_succ, List.getElem_cons_zero, Act.put, List.setIfInBounds_toArray, List.set_cons_zero, List.set_cons_succ]
                refine wpAnyH_done (by kernel_rfl) ?_ _
                refine NoPanic.normal ?_
                go_wp2_with (first
                  | (refine wpList_store_chg (cs' := ints (cnt (t'.rs.take (0 + 1)))) int_info rfl (.tmp 113) (.tmp 112) rfl mb zn rfl rfl rfl (ic_one _) (Arr.below (show Arr wr mb 49 (ints (cnt (t'.rs.take 0))).toArray from hM.out) (by assumption) hmlt) (by rw [ints_cnt_len]; omega) MS.out ?_; intro W8 hA8 hK8)
                  | fail)
                go_roundg (gk - 1)
                case measure => omega
                case rel => exact ⟨1, by omega, rfl, keep ((fr_step hF.out (by assumption)).trans (hK8.below (B := V3.heap.size) (Below.size (fr_step hF.out (by assumption))) (fun i e => by have := Hmb.out; omega))), keep hA8⟩
              · obtain ⟨i2, hi2⟩ : ∃ i2, i = i2 + 1 := ⟨i - 1, by omega⟩
                have hx2 : t'.rs[i2]? = some (t'.rs[i2]'(by rw [Rn.out]; omega)) := List.getElem?_eq_getElem _
                generalize t'.rs[i2]'(by rw [Rn.out]; omega) = z2 at hx2
                have hzz : z2 < (zn : Int) := by
                  have h1 := sorted_le hSo.out hx2 hx (by omega)
                  have h2 : z2 ≠ (zn : Int) := fun e => by
                    have hn := (List.nodup_append.1 hNd.out).1
                    have := (List.getElem?_inj (List.getElem?_eq_some_iff.1 hx2).1 hn).1 (by rw [hx2, hx, e] : t'.rs[i2]? = t'.rs[i]?)
                    omega
                  omega
                obtain ⟨gr2, or2, hA2, xr2⟩ := rw_cell (R3.out.fr hF.out) hx2
                injection hA2 with hA2
                injection hA2 with e1 e2
                subst e1 e2
                have yr2 : ∀ W, Fr wr W → W.cell? ⟨gr, or + i2, none⟩ = some (.int .i64 z2) := fun W f => (f.cell hgr).trans xr2
                have hsub : (i : Int) - 1 = (i2 : Int) := by omega
                have hi0z : 0 < (i : Int) := by omega
                have hi2k : i2 < n := by omega
                have hwi2 : IntKind.i64.wrap (i2 : Int) = (i2 : Int) := by rw [IntKind.wrap_i64]; omega
                clear hx hx2 xr xr2 mc ms hcn hin hi2
                go_wp2_with fail
                refine wp_region_noPanic ?_
                refine wp_region_held_drew (S := fun W => Fr wr W) (by kernel_rfl) wrd (fun hHeld => ?_)
                change wpAnyH _ _ _ _ _ _ _ _ _
                refine wpAnyH_take (i := 0) (v := ?_) rfl (by kernel_rfl) (by kernel_rfl) (by kernel_rfl) (fun _ _ _ h => h) (Or.inl ⟨by rfl, ?_⟩) (by assumption) ?_
                rotate_left
                · intro w' hSw
                  try dsimp only at hSw
                  go_simp
                  try with_reducible rfl
                try simp only [List.getElem_toArray, List.getElem_cons_zero, Act.put, List.setIfInBounds_toArray, List.set_cons_zero, List.set_cons_succ]
                refine wpAnyH_take (i := 1) (v := ?_) rfl (by kernel_rfl) (by kernel_rfl) (by kernel_rfl) (fun _ _ _ h => h) (Or.inl ⟨by rfl, ?_⟩) (by assumption) ?_
                rotate_left
                · intro w' hSw
                  try dsimp only at hSw
                  go_simp
                  try with_reducible rfl
                try simp only [List.getElem_toArray, List.getElem_cons_succ, List.getElem_cons_zero, Act.put, List.setIfInBounds_toArray, List.set_cons_zero, List.set_cons_succ]
                refine wpAnyH_take (i := 2) (v := ?_) rfl (by kernel_rfl) (by kernel_rfl) (by kernel_rfl) (fun _ _ _ h => h) (Or.inl ⟨by rfl, ?_⟩) (by assumption) ?_
                rotate_left
                · intro w' hSw
                  try dsimp only at hSw
                  go_simp
                  try with_reducible rfl
                try simp only [List.getElem_toArray, List.getElem_cons_succ, List.getElem_cons_zero, Act.put, List.setIfInBounds_toArray, List.set_cons_zero, List.set_cons_succ]
                refine wpAnyH_take (i := 3) (v := ?_) rfl (by kernel_rfl) (by kernel_rfl) (by kernel_rfl) (fun _ _ _ h => h) (Or.inl ⟨by rfl, ?_⟩) (by assumption) ?_
                rotate_left
                · intro w' hSw
                  try dsimp only at hSw
                  go_simp
                  try with_reducible rfl
                try simp only [List.getElem_toArray, List.getElem_cons_succ, List.getElem_cons_zero, Act.put, List.setIfInBounds_toArray, List.set_cons_zero, List.set_cons_succ]
                refine wpAnyH_take (i := 4) (v := .bool false) rfl (by kernel_rfl) (by kernel_rfl) (by kernel_rfl) (fun _ _ _ h => h) (Or.inl ⟨by rfl, ?_⟩) (by assumption) ?_
                · intro w' hSw
                  try dsimp only at hSw
                  try go_simp
                  all_goals first | done | with_reducible rfl | omega | assumption | (simp; omega)
                try simp only [List.getElem_toArray, List.getElem_cons_succ, List.getElem_cons_zero, Act.put, List.setIfInBounds_toArray, List.set_cons_zero, List.set_cons_succ]
                refine wpAnyH_take (i := 5) (v := .bool false) rfl (by kernel_rfl) (by kernel_rfl) (by kernel_rfl) (fun _ _ _ h => h) (Or.inl ⟨by rfl, ?_⟩) (by assumption) ?_
                · intro w' hSw
                  try dsimp only at hSw
                  try go_simp
                  all_goals first | done | with_reducible rfl | omega | assumption | (simp; omega)
                try simp only [List.getElem_toArray, List.getElem_cons_succ, List.getElem_cons_zero, Act.put, List.setIfInBounds_toArray, List.set_cons_zero, List.set_cons_succ]
                refine wpAnyH_take (i := 6) (v := ?_) rfl (by kernel_rfl) (by kernel_rfl) (by kernel_rfl) (fun _ _ _ h => h) (Or.inl ⟨by rfl, ?_⟩) (by assumption) ?_
                rotate_left
                · intro w' hSw
                  try dsimp only at hSw
                  go_simp
                  try with_reducible rfl
                try simp only [List.getElem_toArray, List.getElem_cons_succ, List.getElem_cons_zero, Act.put, List.setIfInBounds_toArray, List.set_cons_zero, List.set_cons_succ]
                refine wpAnyH_take (i := 7) (v := ?_) rfl (by kernel_rfl) (by kernel_rfl) (by kernel_rfl) (fun _ _ _ h => h) (Or.inl ⟨by rfl, ?_⟩) (by assumption) ?_
                rotate_left
                · intro w' hSw
                  try dsimp only at hSw
                  go_simp
                  try with_reducible rfl
                try simp only [List.getElem_toArray, List.getElem_cons_succ, List.getElem_cons_zero, Act.put, List.setIfInBounds_toArray, List.set_cons_zero, List.set_cons_succ]
                refine wpAnyH_take (i := 8) (v := ?_) rfl (by kernel_rfl) (by kernel_rfl) (by kernel_rfl) (fun _ _ _ h => h) (Or.inl ⟨by rfl, ?_⟩) (by assumption) ?_
                rotate_left
                · intro w' hSw
                  try dsimp only at hSw
                  go_simp
                  try with_reducible rfl
                try simp only [List.getElem_toArray, List.getElem_cons_succ, List.getElem_cons_zero, Act.put, List.setIfInBounds_toArray, List.set_cons_zero, List.set_cons_succ]
                refine wpAnyH_take (i := 9) (v := ?_) rfl (by kernel_rfl) (by kernel_rfl) (by kernel_rfl) (fun _ _ _ h => h) (Or.inl ⟨by rfl, ?_⟩) (by assumption) ?_
                rotate_left
                · intro w' hSw
                  try dsimp only at hSw
                  go_simp
                  try with_reducible rfl
                try simp only [List.getElem_toArray, List.getElem_cons_succ, List.getElem_cons_zero, Act.put, List.setIfInBounds_toArray, List.set_cons_zero, List.set_cons_succ]
                refine wpAnyH_take (i := 10) (v := .bool false) rfl (by kernel_rfl) (by kernel_rfl) (by kernel_rfl) (fun _ _ _ h => h) (Or.inl ⟨by rfl, ?_⟩) (by assumption) ?_
                · intro w' hSw
                  try dsimp only at hSw
                  try go_simp
                  all_goals first | done | with_reducible rfl | omega | assumption | (simp; omega)
                try simp only [List.getElem_toArray, List.getElem_cons_succ, List.getElem_cons_zero, Act.put, List.setIfInBounds_toArray, List.set_cons_zero, List.set_cons_succ]
                refine wpAnyH_take (i := 11) (v := .bool false) rfl (by kernel_rfl) (by kernel_rfl) (by kernel_rfl) (fun _ _ _ h => h) (Or.inl ⟨by rfl, ?_⟩) (by assumption) ?_
                · intro w' hSw
                  try dsimp only at hSw
                  try go_simp
                  all_goals first | done | with_reducible rfl | omega | assumption | (simp; omega)
                try simp only [List.getElem_toArray, List.getElem_cons_succ, List.getElem_cons_zero, Act.put, List.setIfInBounds_toArray, List.set_cons_zero, List.set_cons_succ]
                refine wpAnyH_take (i := 12) (v := .bool false) rfl (by kernel_rfl) (by kernel_rfl) (by kernel_rfl) (fun _ _ _ h => h) (Or.inl ⟨by rfl, ?_⟩) (by assumption) ?_
                · intro w' hSw
                  try dsimp only at hSw
                  try go_simp
                  all_goals first | done | with_reducible rfl | omega | assumption | (simp; omega)
                try simp only [List.getElem_toArray, List.getElem_cons_succ, List.getElem_cons_zero, Act.put, List.setIfInBounds_toArray, List.set_cons_zero, List.set_cons_succ]
                refine wpAnyH_take (i := 13) (v := ?_) rfl (by kernel_rfl) (by kernel_rfl) (by kernel_rfl) (fun _ _ _ h => h) (Or.inl ⟨by rfl, ?_⟩) (by assumption) ?_
                rotate_left
                · intro w' hSw
                  try dsimp only at hSw
                  go_simp
                  try with_reducible rfl
                try simp only [List.getElem_toArray, List.getElem_cons_succ, List.getElem_cons_zero, Act.put, List.setIfInBounds_toArray, List.set_cons_zero, List.set_cons_succ]
                refine wpAnyH_take (i := 14) (v := .bool true) rfl (by kernel_rfl) (by kernel_rfl) (by kernel_rfl) (fun _ _ _ h => h) (Or.inl ⟨by rfl, ?_⟩) (by assumption) ?_
                · intro w' hSw
                  try dsimp only at hSw
                  try go_simp
                  all_goals first | done | with_reducible rfl | omega | assumption | (simp; omega)
                try simp only [List.getElem_toArray, List.getElem_cons_succ, List.getElem_cons_zero, Act.put, List.setIfInBounds_toArray, List.set_cons_zero, List.set_cons_succ]
                refine wpAnyH_take (i := 15) (v := .bool true) rfl (by kernel_rfl) (by kernel_rfl) (by kernel_rfl) (fun _ _ _ h => h) (Or.inl ⟨by rfl, ?_⟩) (by assumption) ?_
                · intro w' hSw
                  try dsimp only at hSw
                  try go_simp
                  all_goals first | done | with_reducible rfl | omega | assumption | (simp; omega)
                try simp only [List.getElem_toArray, List.getElem_cons_succ, List.getElem_cons_zero, Act.put, List.setIfInBounds_toArray, List.set_cons_zero, List.set_cons_succ]
                refine wpAnyH_take (i := 16) (v := ?_) rfl (by kernel_rfl) (by kernel_rfl) (by kernel_rfl) (fun _ _ _ h => h) (Or.inl ⟨by rfl, ?_⟩) (by assumption) ?_
                rotate_left
                · intro w' hSw
                  try dsimp only at hSw
                  go_simp
                  try with_reducible rfl
                try simp only [List.getElem_toArray, List.getElem_cons_succ, List.getElem_cons_zero, Act.put, List.setIfInBounds_toArray, List.set_cons_zero, List.set_cons_succ]
                refine wpAnyH_take (i := 17) (v := ?_) rfl (by kernel_rfl) (by kernel_rfl) (by kernel_rfl) (fun _ _ _ h => h) (Or.inl ⟨by rfl, ?_⟩) (by assumption) ?_
                rotate_left
                · intro w' hSw
                  try dsimp only at hSw
                  go_simp
                  try with_reducible rfl
                try simp only [List.getElem_toArray, List.getElem_cons_succ, List.getElem_cons_zero, Act.put, List.setIfInBounds_toArray, List.set_cons_zero, List.set_cons_succ]
                refine wpAnyH_take (i := 18) (v := ?_) rfl (by kernel_rfl) (by kernel_rfl) (by kernel_rfl) (fun _ _ _ h => h) (Or.inl ⟨by rfl, ?_⟩) (by assumption) ?_
                rotate_left
                · intro w' hSw
                  try dsimp only at hSw
                  go_simp
                  try with_reducible rfl
                try simp only [List.getElem_toArray, List.getElem_cons_succ, List.getElem_cons_zero, Act.put, List.setIfInBounds_toArray, List.set_cons_zero, List.set_cons_succ]
                refine wpAnyH_take (i := 19) (v := ?_) rfl (by kernel_rfl) (by kernel_rfl) (by kernel_rfl) (fun _ _ _ h => h) (Or.inl ⟨by rfl, ?_⟩) (by assumption) ?_
                rotate_left
                · intro w' hSw
                  try dsimp only at hSw
                  go_simp
                  try with_reducible rfl
                try simp only [List.getElem_toArray, List.getElem_cons_succ, List.getElem_cons_zero, Act.put, List.setIfInBounds_toArray, List.set_cons_zero, List.set_cons_succ]
                refine wpAnyH_take (i := 20) (v := ?_) rfl (by kernel_rfl) (by kernel_rfl) (by kernel_rfl) (fun _ _ _ h => h) (Or.inl ⟨by rfl, ?_⟩) (by assumption) ?_
                rotate_left
                · intro w' hSw
                  try dsimp only at hSw
                  go_simp
                  try with_reducible rfl
                try simp only [List.getElem_toArray, List.getElem_cons_succ, List.getElem_cons_zero, Act.put, List.setIfInBounds_toArray, List.set_cons_zero, List.set_cons_succ]
                refine wpAnyH_take (i := 21) (v := ?_) rfl (by kernel_rfl) (by kernel_rfl) (by kernel_rfl) (fun _ _ _ h => h) (Or.inl ⟨by rfl, ?_⟩) (by assumption) ?_
                rotate_left
                · intro w' hSw
                  try dsimp only at hSw
                  go_simp
                  try with_reducible rfl
                try simp only [List.getElem_toArray, List.getElem_cons_succ, List.getElem_cons_zero, Act.put, List.setIfInBounds_toArray, List.set_cons_zero, List.set_cons_succ]
                refine wpAnyH_take (i := 22) (v := ?_) rfl (by kernel_rfl) (by kernel_rfl) (by kernel_rfl) (fun _ _ _ h => h) (Or.inl ⟨by rfl, ?_⟩) (by assumption) ?_
                rotate_left
                · intro w' hSw
                  try dsimp only at hSw
                  go_simp
                  try with_reducible rfl
                try simp only [List.getElem_toArray, List.getElem_cons_succ, List.getElem_cons_zero, Act.put, List.setIfInBounds_toArray, List.set_cons_zero, List.set_cons_succ]
                refine wpAnyH_take (i := 23) (v := ?_) rfl (by kernel_rfl) (by kernel_rfl) (by kernel_rfl) (fun _ _ _ h => h) (Or.inl ⟨by rfl, ?_⟩) (by assumption) ?_
                rotate_left
                · intro w' hSw
                  try dsimp only at hSw
                  go_simp
                  try with_reducible rfl
                try simp only [List.getElem_toArray, List.getElem_cons_succ, List.getElem_cons_zero, Act.put, List.setIfInBounds_toArray, List.set_cons_zero, List.set_cons_succ]
                refine wpAnyH_take (i := 24) (v := ?_) rfl (by kernel_rfl) (by kernel_rfl) (by kernel_rfl) (fun _ _ _ h => h) (Or.inl ⟨by rfl, ?_⟩) (by assumption) ?_
                rotate_left
                · intro w' hSw
                  try dsimp only at hSw
                  go_simp
                  try with_reducible rfl
                try simp only [List.getElem_toArray, List.getElem_cons_succ, List.getElem_cons_zero, Act.put, List.setIfInBounds_toArray, List.set_cons_zero, List.set_cons_succ]
                refine wpAnyH_take (i := 25) (v := .bool false) rfl (by kernel_rfl) (by kernel_rfl) (by kernel_rfl) (fun _ _ _ h => h) (Or.inl ⟨by rfl, ?_⟩) (by assumption) ?_
                · intro w' hSw
                  try dsimp only at hSw
                  try go_simp
                  all_goals first | done | with_reducible rfl | omega | assumption | (simp; omega)
                try simp only [List.getElem_toArray, List.getElem_cons_succ, List.getElem_cons_zero, Act.put, List.setIfInBounds_toArray, List.set_cons_zero, List.set_cons_succ]
                refine wpAnyH_take (i := 26) (v := .bool false) rfl (by kernel_rfl) (by kernel_rfl) (by kernel_rfl) (fun _ _ _ h => h) (Or.inl ⟨by rfl, ?_⟩) (by assumption) ?_
                · intro w' hSw
                  try dsimp only at hSw
                  try go_simp
                  all_goals first | done | with_reducible rfl | omega | assumption | (simp; omega)
                try simp only [List.getElem_toArray, List.getElem_cons_succ, List.getElem_cons_zero, Act.put, List.setIfInBounds_toArray, List.set_cons_zero, List.set_cons_succ]
                refine wpAnyH_take (i := 27) (v := .bool false) rfl (by kernel_rfl) (by kernel_rfl) (by kernel_rfl) (fun _ _ _ h => h) (Or.inl ⟨by rfl, ?_⟩) (by assumption) ?_
                · intro w' hSw
                  try dsimp only at hSw
                  try go_simp
                  all_goals first | done | with_reducible rfl | omega | assumption | (simp; omega)
                try simp only [List.getElem_toArray, List.getElem_cons_succ, List.getElem_cons_zero, Act.put, List.setIfInBounds_toArray, List.set_cons_zero, List.set_cons_succ]
                refine wpAnyH_done (by kernel_rfl) ?_ _
                refine NoPanic.normal ?_
                go_wp2_with (first
                  | (refine wpList_store_chg (cs' := ints (cnt (t'.rs.take (i + 1)))) int_info rfl (.tmp 113) (.tmp 112) rfl mb zn rfl rfl rfl (ic_one _) (Arr.below (show Arr wr mb 49 (ints (cnt (t'.rs.take i))).toArray from hM.out) (by assumption) hmlt) (by rw [ints_cnt_len]; omega) MS.out ?_; intro W8 hA8 hK8)
                  | fail)
                go_roundg (gk - 1)
                case measure => omega
                case rel => exact ⟨i + 1, by omega, rfl, keep ((fr_step hF.out (by assumption)).trans (hK8.below (B := V3.heap.size) (Below.size (fr_step hF.out (by assumption))) (fun i e => by have := Hmb.out; omega))), keep hA8⟩
            · have hie : i = n := by omega
              subst hie
              have hiz : ¬ (i : Int) < (i : Int) := by omega
              have htk : t'.rs.take i = t'.rs := List.take_of_length_le (by rw [Rn.out]; exact Nat.le_refl _)
              rw [htk] at hM
              clear htk hin
              go_upto_region 21 with fail
              go_cut [142] from 114 to 141 (fun s142 W => s142 = .bool false ∧ wr = W)
              case first =>
                have g1 : ¬ wv < -1 := by omega
                have g2 : ¬ 5 < wv := by omega
                by_cases hw0 : 0 ≤ wv
                · have hn0 := hal hw0
                  subst hn0
                  have g3 : ¬ wv < 0 := by omega
                  by_cases hk0 : 0 < (k : Int)
                  · go_wp2_with fail
                    go_meet
                    exact ⟨rfl, rfl⟩
                  · go_wp2_with fail
                    go_meet
                    exact ⟨rfl, rfl⟩
                · have g3 : wv < 0 := by omega
                  by_cases hk0 : 0 < (k : Int)
                  · have hn1 := hfb (by omega) (by omega)
                    have hnz : ((i : Int) == 0) = false := by rw [beq_eq_false_iff_ne]; omega
                    go_wp2_with fail
                    go_meet
                    exact ⟨rfl, rfl⟩
                  · go_wp2_with fail
                    go_meet
                    exact ⟨rfl, rfl⟩
              case rest =>
                obtain ⟨rfl, rfl⟩ := hcut
                go_upto_if 144 with fail
                go_cut [] from 143 to 149 (fun W => Hid (Fr V3 W) ∧ Hid (MB W mb (t'.rs ++ wlT t')))
                case first =>
                  clear hal hfb
                  by_cases hw0 : 0 ≤ wv
                  · obtain ⟨zn, rfl⟩ := Int.eq_ofNat_of_zero_le hw0
                    have hz6 : zn < 6 := by omega
                    obtain ⟨cn, hcn⟩ : ∃ cn, cn = t'.rs.count ((zn : Nat) : Int) := ⟨_, rfl⟩
                    have hc1 : cn ≤ 1 := by rw [hcn]; exact hCl.out _ (List.sublist_append_left _ _) zn
                    have mc := mb_cell hM.out hz6
                    have ms := mb_splice t'.rs hz6
                    have hwl : wlT t' = [(zn : Int)] := by rw [wlT, Hwv.out, if_neg (by omega)]
                    rw [← hwl] at ms
                    rw [← hcn] at mc ms
                    have MS := keep ms
                    clear ms hcn hwl
                    go_wp2_with (first
                      | (refine wpList_store_chg (cs' := ints (cnt (t'.rs ++ wlT t'))) int_info rfl (.tmp 149) (.tmp 148) rfl mb zn rfl rfl rfl (ic_one _) (show Arr wr mb 49 (ints (cnt t'.rs)).toArray from hM.out) (by rw [ints_cnt_len]; omega) MS.out ?_; intro W8 hA8 hK8)
                      | fail)
                    go_meet
                    exact ⟨keep (hF.out.trans (hK8.below (B := V3.heap.size) hF.out.size (fun i e => by have := Hmb.out; omega))), keep hA8⟩
                  · have hwl : wlT t' = [] := by rw [wlT, Hwv.out, if_pos (by omega)]
                    have HM2 : Hid (MB wr mb (t'.rs ++ wlT t')) := keep (by rw [hwl, List.append_nil]; exact hM.out)
                    clear hwl
                    go_wp2_with fail
                    go_meet
                    exact ⟨hF, HM2⟩
                case rest =>
                  obtain ⟨hF2, hM2⟩ := hcut
                  clear hF hM
                  have hM3 : Hid (MB wc mb (t'.rs ++ (wlT t' ++ (t'.q.take 0).map (·.1)))) := keep (by simpa using hM2.out)
                  go_wp2_with fail
                  go_loopg [11] k (fun gg s11 W => ∃ i : Nat, i + gg = k ∧ s11 = .int .i64 i ∧ Hid (Fr V3 W) ∧ Hid (MB W mb (t'.rs ++ (wlT t' ++ (t'.q.take i).map (·.1)))))
                  case atStart => exact ⟨0, by omega, rfl, hF2, hM3⟩
                  case round =>
                    clear hF2 hM2 hM3
                    obtain ⟨i3, hi3, rfl, hF, hM⟩ := hrel
                    by_cases hin : i3 < k
                    · have hx : t'.q[i3]? = some (t'.q[i3]'(by rw [Qn.out]; exact hin)) := List.getElem?_eq_getElem _
                      generalize t'.q[i3]'(by rw [Qn.out]; exact hin) = z at hx
                      have hzb := hLo.out z.1 (by simp only [allT, List.mem_append, List.mem_map]; exact .inr (.inr ⟨z, List.mem_of_getElem? hx, rfl⟩))
                      obtain ⟨zn, hzn⟩ := Int.eq_ofNat_of_zero_le hzb.1
                      obtain ⟨gr, or, rfl, hgr, hrr⟩ := has_rows (Q3.out.fr hF.out).has (wc_wid _) (by decide) (by intro e; rw [e] at hx; simp at hx)
                      have yr := elem_cell0 hrr (wc_wid _) hgr hx (u := .int .i64 z.1) rfl wr (fr_refl wr)
                      rw [hzn] at yr
                      have hz6 : zn < 6 := by omega
                      have hz0 : ¬ (zn : Int) < 0 := by omega
                      have hz5 : ¬ 5 < (zn : Int) := by omega
                      obtain ⟨cn, hcn⟩ : ∃ cn, cn = (t'.rs ++ (wlT t' ++ (t'.q.take i3).map (·.1))).count ((zn : Nat) : Int) := ⟨_, rfl⟩
                      have hc1 : cn ≤ 1 := by
                        rw [hcn]
                        exact hCl.out _ (List.Sublist.append (List.Sublist.refl _) (List.Sublist.append (List.Sublist.refl _) ((List.take_sublist _ _).map _))) zn
                      have mc := mb_cell hM.out hz6
                      have ms := mb_splice (t'.rs ++ (wlT t' ++ (t'.q.take i3).map (·.1))) hz6
                      have hsn : (t'.rs ++ (wlT t' ++ (t'.q.take i3).map (·.1))) ++ [(zn : Int)] = t'.rs ++ (wlT t' ++ (t'.q.take (i3 + 1)).map (·.1)) := by
                        rw [take_one' hx, List.map_append, List.map_cons, List.map_nil, hzn]
                        simp only [List.append_assoc]
                      rw [hsn] at ms
                      rw [← hcn] at mc ms
                      have MS := keep ms
                      have hiz : (i3 : Int) < (k : Int) := by omega
                      clear hx ms hcn hsn hrr hin hzn
                      go_wp2_with (first
                        | (refine wpList_store_chg (cs' := ints (cnt (t'.rs ++ (wlT t' ++ (t'.q.take (i3 + 1)).map (·.1))))) int_info rfl (.tmp 178) (.tmp 177) rfl mb zn rfl rfl rfl (ic_one _) (show Arr wr mb 49 (ints (cnt (t'.rs ++ (wlT t' ++ (t'.q.take i3).map (·.1))))).toArray from hM.out) (by rw [ints_cnt_len]; omega) MS.out ?_; intro W8 hA8 hK8)
                        | fail)
                      go_roundg (gk - 1)
                      case measure => omega
                      case rel => exact ⟨i3 + 1, by omega, rfl, keep (hF.out.trans (hK8.below (B := V3.heap.size) hF.out.size (fun i e => by have := Hmb.out; omega))), keep hA8⟩
                    · have hie : i3 = k := by omega
                      subst hie
                      have hiz : ¬ (i3 : Int) < (i3 : Int) := by omega
                      have htk : t'.q.take i3 = t'.q := List.take_of_length_le (by rw [Qn.out]; exact Nat.le_refl _)
                      rw [htk] at hM
                      clear htk hin
                      go_wp2_with fail
                      go_loopg [12] 6 (fun gg s12 W => ∃ i : Nat, i + gg = 6 ∧ s12 = .int .i64 i ∧ wr = W)
                      case atStart => exact ⟨0, by omega, rfl, rfl⟩
                      case round =>
                        obtain ⟨i4, hi4, rfl, rfl⟩ := hrel
                        by_cases hin : i4 < 6
                        · have mc := mb_cell hM.out hin
                          have hc1 := hCl.out _ (List.Sublist.refl (allT t')) i4
                          have e9 : allT t' = t'.rs ++ (wlT t' ++ t'.q.map (·.1)) := rfl
                          rw [e9] at hc1
                          generalize (t'.rs ++ (wlT t' ++ t'.q.map (·.1))).count ((i4 : Nat) : Int) = cn at *
                          have hcz : ¬ 1 < (cn : Int) := by omega
                          have hiz6 : (i4 : Int) < 6 := by omega
                          clear e9
                          go_wp2_with fail
                          go_roundg (gk - 1)
                          case measure => omega
                          case rel => exact ⟨i4 + 1, by omega, rfl, rfl⟩
                        · have hiz6 : ¬ (i4 : Int) < 6 := by omega
                          have LE := keep (L3.out.go hF.out)
                          clear hin
                          go_wp2_with fail
                          go_roundg (gko - 1)
                          case measure => omega
                          case rel => exact ⟨j + 1, t', by omega, rfl, LE, hT2⟩
      · have hje : j = m := by omega
        subst hje
        have hiz : ¬ (j : Int) < (j : Int) := by omega
        have F := keep hB.out.fr
        clear hlt hB
        go_wp2_with fail
        with_reducible refine (awake14 wr).mono ?_
        rintro e w8 ⟨rfl, f⟩
        go_wp2_with fail
        go_ret
        exact ⟨rfl, fr_step F.out f⟩
end Go.Proofs.Ytbnphkiipjgfaaa
