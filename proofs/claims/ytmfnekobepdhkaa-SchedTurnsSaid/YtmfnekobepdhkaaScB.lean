/- Package sched: Runnable, Ended. -/
import Derived.Test.YtmfnekobepdhkaaScA
namespace Go.Proofs.Ytmfnekobepdhkaa
set_option linter.unusedVariables false
set_option linter.unusedSimpArgs false
set_option maxRecDepth 100000
open Go.RowKit
theorem int_elem : Elem Try.prog 3 1 8 := Elem.of (z := .int .i64 0) (by kernel_rfl) (by kernel_rfl) (by kernel_rfl) rfl
theorem sts_slice (w : World) (g n : Nat) (hn : n ≤ 8) : (Instr.sliceAt 52 (.pointer (some ⟨g, 1, none⟩)) none (some (.int .i64 (n : Int))) none).run Try.prog w = .ok (.slice (some ⟨g, 1, none⟩) n 8) w := by
  have ha : Try.prog.arrayLen 52 = 8 := by kernel_rfl
  rw [run_sliceAt_array_h w 52 ⟨g, 1, none⟩ (by kernel_rfl) .i64 n (by omega) (by rw [ha]; omega), ha]
  have hs : (sizeOf (Try.prog.elem 52)).run Try.prog w = .ok 1 w := by
    have e : Try.prog.elem 52 = 51 := by kernel_rfl
    rw [e]
    have e2 : Try.prog.cellsOf 51 = 1 := by kernel_rfl
    cases hi : Try.prog.info? 51 with
    | none => exact absurd hi (by decide +kernel)
    | some i => simp [sizeOf, typeInfo, hi, Program.cellsOf] at e2 ⊢; exact e2
  rw [hs]
  simp only [Result.andThen_ok, slicedAt, Int.toNat_natCast, Nat.sub_zero, Nat.zero_mul]
  rfl
set_option maxHeartbeats 2000000 in
theorem runnable_at {w : World} {g K : Nat} {t : Tab} (h : PT w g t K) :
    Calls Try.prog 21 #[.pointer (some ⟨g, 0, none⟩)] w fun e w' => ∃ A n c, e = .returned (.slice A n c) ∧ Hid ((runL t).length = n ∧ Own w' w.heap.size 3 1 A n c (ints (runL t)) ∧ Fr w w') := by
  have H := keep h
  have c1 := h.cn
  obtain ⟨h1, h2⟩ := h.ok.n
  obtain ⟨n, hn⟩ : ∃ n, t.st.length = n := ⟨_, rfl⟩
  have HN := keep hn
  have gl := h.box.lt
  rw [hn] at c1 h1 h2
  have ww := fr_refl w
  have cs := sts_slice w.drew g n h2
  clear h hn
  go_enter Try.func21, Try.ntmps21
  go_wp2_with fail
  go_region
  all_goals
    go_wp2_with fail
    go_loopg [3, 15] n (fun g' s3 s15 wr => ∃ (j m : Nat) (A : Option Addr) (c : Nat), j + g' = n ∧ s15 = .int .i64 j ∧ s3 = .slice A m c ∧ Hid (Fr w wr) ∧ Hid ((natI (runJ t.st j)).length = m ∧ Own wr w.heap.size 3 1 A m c (ints (natI (runJ t.st j)))))
    case atStart => exact ⟨0, 0, none, 0, by omega, rfl, rfl, keep (fr_drew ww), keep ⟨rfl, Own.nil _ _ _ _⟩⟩
    case round =>
      obtain ⟨j, m, A, c, hj, rfl, rfl, hW, hO⟩ := hrel
      have hF := hW.out
      have hM := H.out.fr hF
      by_cases hlt : j < n
      · have hjz : (j : Int) < (n : Int) := by omega
        have hx : t.st[j]? = some (t.st[j]'(by rw [HN.out]; exact hlt)) := List.getElem?_eq_getElem _
        generalize t.st[j]'(by rw [HN.out]; exact hlt) = x at hx
        have c2 := hM.cell (tl_st hM.ok.toShT hx)
        have HX := keep hx
        have hml : m ≤ j := by have := runJ_len t.st j; rw [← natI_len, hO.out.1] at this; exact this
        clear hx hM
        by_cases h0 : x = 0
        · subst h0
          go_wp2_with (first
            | (refine wpList_append_vals (w0 := w) int_elem Try.underlying38 (by decide) rfl (.tmp 22) (.tmp 24) rfl (fr_new hF _) A m c (ints (natI (runJ t.st j))) rfl (hO.out.2.alloc _) (wr.heap.size + 1) (some ⟨wr.heap.size, 0, none⟩) 1 1 (ints [(j : Int)]) rfl rfl (has_one wr _ _) (ints_one _) (by unfold maxLen; omega) (by omega) ?_; intro A2 c2' w2 o2 f2)
            | fail)
          go_roundg (gk - 1)
          case measure => omega
          case rel => exact ⟨j + 1, m + 1, A2, c2', by omega, rfl, rfl, keep f2, keep (by rw [runJ_yes HX.out, natI_app, ints_app, List.length_append, hO.out.1]; exact ⟨rfl, o2⟩)⟩
        · have hx0 : (x == 0) = false := by simpa using h0
          have H0 := keep h0
          clear hF h0
          go_wp2_with fail
          go_roundg (gk - 1)
          case measure => omega
          case rel => exact ⟨j + 1, m, A, c, by omega, rfl, rfl, hW, keep (by rw [runJ_no HX.out H0.out]; exact hO.out)⟩
      · have hjn : j = n := by omega
        have hjz : ¬ (j : Int) < (n : Int) := by omega
        have Hj := keep hjn
        clear hjn hlt hM hF
        go_wp2_with fail
        go_ret
        have e : natI (runJ t.st j) = runL t := by rw [runL, runN, HN.out, Hj.out]
        rw [e] at hO
        exact ⟨A, m, c, rfl, keep ⟨hO.out.1, hO.out.2, hW.out⟩⟩
theorem endT_no {t : Tab} {j : Nat} {x : Int} (hx : t.st[j]? = some x) (h : x ≠ 2) : endT t = false := by
  rw [endT, List.all_eq_false]
  exact ⟨x, List.mem_of_getElem? hx, by simpa using h⟩
theorem endT_yes {t : Tab} (h : ∀ j, j < t.st.length → t.st[j]? = some 2) : endT t = true := by
  rw [endT, List.all_eq_true]
  intro x hx
  obtain ⟨j, hj, rfl⟩ := List.getElem_of_mem hx
  have := h j hj
  rw [List.getElem?_eq_getElem hj] at this
  injection this with this
  simp [this]
set_option maxHeartbeats 2000000 in
theorem ended_at {w : World} {g K : Nat} {t : Tab} (h : PT w g t K) :
    Calls Try.prog 23 #[.pointer (some ⟨g, 0, none⟩)] w fun e w' => e = .returned (.bool (endT t)) ∧ Fr w w' := by
  have H := keep h
  have c1 := h.cn
  obtain ⟨h1, h2⟩ := h.ok.n
  obtain ⟨n, hn⟩ : ∃ n, t.st.length = n := ⟨_, rfl⟩
  have HN := keep hn
  have gl := h.box.lt
  rw [hn] at c1 h1 h2
  have ww := fr_refl w
  have cs := sts_slice w.drew g n h2
  clear h hn
  go_enter Try.func23, Try.ntmps23
  go_wp2_with fail
  go_region
  all_goals
    go_wp2_with fail
    go_loopg [14] n (fun g' s14 wr => ∃ (j : Nat), j + g' = n ∧ s14 = .int .i64 j ∧ Hid (Fr w wr) ∧ Hid (∀ i, i < j → t.st[i]? = some 2))
    case atStart => exact ⟨0, by omega, rfl, keep (fr_drew ww), keep (fun i h => by omega)⟩
    case round =>
      obtain ⟨j, hj, rfl, hW, hO⟩ := hrel
      have hM := H.out.fr hW.out
      by_cases hlt : j < n
      · have hjz : (j : Int) < (n : Int) := by omega
        have hx : t.st[j]? = some (t.st[j]'(by rw [HN.out]; exact hlt)) := List.getElem?_eq_getElem _
        generalize t.st[j]'(by rw [HN.out]; exact hlt) = x at hx
        have c2 := hM.cell (tl_st hM.ok.toShT hx)
        have HX := keep hx
        clear hx hM
        by_cases h0 : x = 2
        · subst h0
          go_wp2_with fail
          go_roundg (gk - 1)
          case measure => omega
          case rel => exact ⟨j + 1, by omega, rfl, hW, keep (fun i hi => by
            rcases Nat.lt_or_ge i j with h | h
            · exact hO.out i h
            · obtain rfl : i = j := by omega
              exact HX.out)⟩
        · have hx0 : (x != 2) = true := by simpa using h0
          have H0 := keep h0
          clear h0
          go_wp2_with fail
          go_ret
          rw [endT_no HX.out H0.out]
          exact ⟨rfl, hW.out⟩
      · have hjn : j = n := by omega
        have hjz : ¬ (j : Int) < (n : Int) := by omega
        have Hj := keep hjn
        clear hjn hlt hM
        go_wp2_with fail
        go_ret
        rw [endT_yes (fun i hi => hO.out i (by rw [Hj.out, ← HN.out]; exact hi))]
        exact ⟨rfl, hW.out⟩
end Go.Proofs.Ytmfnekobepdhkaa
