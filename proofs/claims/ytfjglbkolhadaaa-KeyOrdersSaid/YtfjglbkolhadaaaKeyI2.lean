/- 'same' of two rows of keys. -/
import Derived.Test.YtfjglbkolhadaaaKeyI
namespace Go.Proofs.Ytfjglbkolhadaaa
open Go.RowKit Go.Maps
set_option linter.unusedVariables false
theorem keys_ext {ks ls : List RK} (h : ks.length = ls.length) (ht : ∀ t, t < ks.length → ks[t]? = ls[t]?) : ks = ls := by
  apply List.ext_getElem? 
  intro t
  by_cases hl : t < ks.length
  · exact ht t hl
  · rw [List.getElem?_eq_none (by omega), List.getElem?_eq_none (by omega)]
set_option maxHeartbeats 2000000 in
theorem law_same (A B : Option Addr) (n m c d : Nat) (ks ls : List RK) (w : World) (hl : ks.length = n) (hm : ls.length = m) (hn : n ≤ 1000000) (hn2 : m ≤ 1000000) (hw : WfAll ks) (hw2 : WfAll ls) (hr : Has w w.heap.size A (flat ks)) (hr2 : Has w w.heap.size B (flat ls)) :
    Calls Try.prog 19 #[.slice A n c, .slice B m d] w fun e w' => e = .returned (.bool (decide (ks = ls))) ∧ Fr w w' := by
  have Hl := keep hl
  have Hm := keep hm
  clear hl hm
  by_cases hnm : n = m
  · subst hnm
    have d1 : ((n : Int) != (n : Int)) = false := by simp
    go_enter Try.func19, Try.ntmps19
    go_wp2_with fail
    go_loopg [5] n (fun g i wr => ∃ j : Nat, j + g = n ∧ i = .int .i64 j ∧ Hid (∀ t, t < j → ks[t]? = ls[t]?) ∧ Fr w wr)
    case atStart => exact ⟨0, by omega, rfl, keep fun t h => by omega, fr_refl w⟩
    case round =>
      obtain ⟨j, hj, rfl, Ht, hF⟩ := hrel
      have Hj := keep hj
      by_cases hlt : j < n
      · obtain ⟨x, hx⟩ : ∃ x, ks[j]? = some x := ⟨ks[j]'(by have := Hl.out; omega), List.getElem?_eq_getElem _⟩
        obtain ⟨y, hy⟩ : ∃ y, ls[j]? = some y := ⟨ls[j]'(by have := Hm.out; omega), List.getElem?_eq_getElem _⟩
        have hne : ∀ W, (binOp .neq 24 (kv x) (kv y)).run Try.prog W = .ok (.bool (!decide (x = y))) W := key_neq (hw x (List.mem_of_getElem? hx)) (hw2 y (List.mem_of_getElem? hy))
        obtain ⟨b, off, rfl, hb, hxa⟩ := hask_at hr hx
        obtain ⟨b2, off2, rfl, hb2, hya⟩ := hask_at hr2 hy
        obtain ⟨x0, x1, x2, x3, x4, x5, x6, x7, x8⟩ := (hxa.below hF hb).cells
        obtain ⟨y0, y1, y2, y3, y4, y5, y6, y7, y8⟩ := (hya.below hF hb2).cells
        have Hx := keep hx
        have Hy := keep hy
        clear hj hx hy
        by_cases e : x = y
        · rw [show decide (x = y) = true from by simpa using e] at hne
          have He := keep e
          clear e
          go_wp2_with fail
          go_quiet (fail)
          go_wp2_with fail
          go_roundg (gk - 1)
          case measure => have := Hj.out; omega
          case rel => exact ⟨j + 1, by have := Hj.out; omega, by go_num, keep (fun t ht => by
            by_cases e2 : t = j
            · rw [e2, Hx.out, Hy.out, He.out]
            · exact Ht.out t (by omega)), fr_drewN hF _⟩
        · rw [show decide (x = y) = false from by simpa using e] at hne
          have Hd : Hid (decide (ks = ls) = false) := keep (by
            simp only [decide_eq_false_iff_not]
            intro e2
            have h1 := Hx.out
            rw [e2, Hy.out] at h1
            injection h1 with h1
            exact e h1.symm)
          clear e
          go_wp2_with fail
          go_quiet (fail)
          go_wp2_with fail
          go_ret
          exact ⟨ret_bool Hd.out.symm, fr_drewN hF _⟩
      · obtain rfl : j = n := by omega
        have Hd : Hid (decide (ks = ls) = true) := keep (by
          rw [decide_eq_true_iff]
          exact keys_ext (by rw [Hl.out, Hm.out]) fun t ht => Ht.out t (by have := Hl.out; omega))
        clear hj
        go_wp2_with fail
        go_ret
        exact ⟨ret_bool Hd.out.symm, hF⟩
  · have d1 : ((n : Int) != (m : Int)) = true := by simp; omega
    have Hd : Hid (decide (ks = ls) = false) := keep (by
      simp only [decide_eq_false_iff_not]
      intro e
      have h1 := Hl.out
      rw [e, Hm.out] at h1
      exact hnm h1.symm)
    clear hnm
    go_enter Try.func19, Try.ntmps19
    go_wp2_with fail
    go_ret
    exact ⟨ret_bool Hd.out.symm, fr_refl w⟩
end Go.Proofs.Ytfjglbkolhadaaa
