/- The document's table: Runnable, Ended, Pick. -/
import Derived.Test.YtmfnekobepdhkaaScD
namespace Go.Proofs.Ytmfnekobepdhkaa
set_option linter.unusedVariables false
set_option linter.unusedSimpArgs false
set_option maxRecDepth 100000
open Go.RowKit
set_option maxHeartbeats 2000000 in
theorem rrunnable_at {w : World} {ok : Nat → Prop} {r gs gw gp K : Nat} {t : Tab} (h : DT w ok r gs gw gp t K) :
    Calls Try.prog 22 #[.pointer (some ⟨r, 0, none⟩)] w fun e w' => ∃ A n c, e = .returned (.slice A n c) ∧ Hid ((runL t).length = n ∧ Own w' w.heap.size 3 1 A n c (ints (runL t)) ∧ Fr w w') := by
  have H := keep h
  obtain ⟨h1, h2⟩ := h.ok.n
  obtain ⟨n, hn⟩ : ∃ n, t.st.length = n := ⟨_, rfl⟩
  have HN := keep hn
  rw [hn] at h1 h2
  have ww := fr_refl w
  clear h hn
  go_enter Try.func22, Try.ntmps22
  go_wp2_with fail
  go_loopg [3, 4] n (fun g' s3 s15 wr => ∃ (j m : Nat) (A : Option Addr) (c : Nat), j + g' = n ∧ s15 = .int .i64 j ∧ s3 = .slice A m c ∧ Hid (Fr w wr) ∧ Hid ((natI (runJ t.st j)).length = m ∧ Own wr w.heap.size 3 1 A m c (ints (natI (runJ t.st j)))))
  case atStart => exact ⟨0, 0, none, 0, by omega, rfl, rfl, keep ww, keep ⟨rfl, Own.nil _ _ _ _⟩⟩
  case round =>
    obtain ⟨j, m, A, c, hj, rfl, rfl, hW, hO⟩ := hrel
    have hF := hW.out
    have hM := H.out.fr hF
    obtain ⟨c0, -, -, -⟩ := hM.db.cells
    rw [HN.out] at c0
    by_cases hlt : j < n
    · have hjz : (j : Int) < (n : Int) := by omega
      have hx : t.st[j]? = some (t.st[j]'(by rw [HN.out]; exact hlt)) := List.getElem?_eq_getElem _
      generalize t.st[j]'(by rw [HN.out]; exact hlt) = x at hx
      have c2 := arr_int_cell hM.db.st hx
      have HX := keep hx
      have hml : m ≤ j := by have := runJ_len t.st j; rw [← natI_len, hO.out.1] at this; exact this
      clear hx hM
      by_cases h0 : x = 0
      · subst h0
        go_wp2_with (first
          | (refine wpList_append_vals (w0 := w) int_elem Try.underlying38 (by decide) rfl (.tmp 22) (.tmp 24) rfl (fr_new hF _) A m c (ints (natI (runJ t.st j))) rfl (hO.out.2.alloc _) (wr.heap.size + 1) (some ⟨wr.heap.size, 0, none⟩) 1 1 (ints [(j : Int)]) rfl rfl (has_one wr _ _) (ints_one _) (by unfold maxLen; omega) (by omega) ?_; intro A2 c2' w2 o2 f2)
          | fail)
        go_roundg (gk - 1)
        case measure => omega
        case rel => exact ⟨j + 1, m + 1, A2, c2', by omega, rfl, rfl, keep f2, keep (by rw [runJ_yes HX.out, natI_app, ints_app, List.length_append, hO.out.1]; exact ⟨rfl, o2⟩)⟩
      · have hx0 : (x == 0) = false := by simpa using h0
        have H0 := keep h0
        clear hF h0
        go_wp2_with fail
        go_roundg (gk - 1)
        case measure => omega
        case rel => exact ⟨j + 1, m, A, c, by omega, rfl, rfl, hW, keep (by rw [runJ_no HX.out H0.out]; exact hO.out)⟩
    · have hjn : j = n := by omega
      have hjz : ¬ (j : Int) < (n : Int) := by omega
      have Hj := keep hjn
      clear hjn hlt hM hF
      go_wp2_with fail
      go_ret
      have e : natI (runJ t.st j) = runL t := by rw [runL, runN, HN.out, Hj.out]
      rw [e] at hO
      exact ⟨A, m, c, rfl, keep ⟨hO.out.1, hO.out.2, hW.out⟩⟩
set_option maxHeartbeats 2000000 in
theorem rended_at {w : World} {ok : Nat → Prop} {r gs gw gp K : Nat} {t : Tab} (h : DT w ok r gs gw gp t K) :
    Calls Try.prog 24 #[.pointer (some ⟨r, 0, none⟩)] w fun e w' => e = .returned (.bool (endT t)) ∧ w = w' := by
  have H := keep h
  obtain ⟨c0, -, -, -⟩ := h.db.cells
  obtain ⟨h1, h2⟩ := h.ok.n
  obtain ⟨n, hn⟩ : ∃ n, t.st.length = n := ⟨_, rfl⟩
  have HN := keep hn
  rw [hn] at h1 h2 c0
  clear h hn
  go_enter Try.func24, Try.ntmps24
  go_wp2_with fail
  go_loopg [3] n (fun g' s14 wr => ∃ (j : Nat), j + g' = n ∧ s14 = .int .i64 j ∧ Hid (wr = w) ∧ Hid (∀ i, i < j → t.st[i]? = some 2))
  case atStart => exact ⟨0, by omega, rfl, keep rfl, keep (fun i h => by omega)⟩
  case round =>
    obtain ⟨j, hj, rfl, hW, hO⟩ := hrel
    obtain rfl : w = wr := hW.out.symm
    have hM := H.out
    by_cases hlt : j < n
    · have hjz : (j : Int) < (n : Int) := by omega
      have hx : t.st[j]? = some (t.st[j]'(by rw [HN.out]; exact hlt)) := List.getElem?_eq_getElem _
      generalize t.st[j]'(by rw [HN.out]; exact hlt) = x at hx
      have c2 := arr_int_cell hM.db.st hx
      have HX := keep hx
      clear hx hM
      by_cases h0 : x = 2
      · subst h0
        go_wp2_with fail
        go_roundg (gk - 1)
        case measure => omega
        case rel => exact ⟨j + 1, by omega, rfl, keep rfl, keep (fun i hi => by
          rcases Nat.lt_or_ge i j with h | h
          · exact hO.out i h
          · obtain rfl : i = j := by omega
            exact HX.out)⟩
      · have hx0 : (x != 2) = true := by simpa using h0
        have H0 := keep h0
        clear h0
        go_wp2_with fail
        go_ret
        rw [endT_no HX.out H0.out]
        exact ⟨rfl, rfl⟩
    · have hjn : j = n := by omega
      have hjz : ¬ (j : Int) < (n : Int) := by omega
      have Hj := keep hjn
      clear hjn hlt hM
      go_wp2_with fail
      go_ret
      rw [endT_yes (fun i hi => hO.out i (by rw [Hj.out, ← HN.out]; exact hi))]
      exact ⟨rfl, rfl⟩
end Go.Proofs.Ytmfnekobepdhkaa
