/- Rows of numbers that are the same: the document's answer. -/
import Derived.Test.YtifmldlbhcpaiaaCkF
namespace Go.Proofs.Ytifmldlbhcpaiaa
set_option linter.unusedVariables false
set_option linter.unusedSimpArgs false
set_option maxRecDepth 100000
open Go.RowKit
def bls (l : List Bool) : List Value := l.map Value.bool
theorem bls_get {l : List Bool} {j : Nat} {b : Bool} (h : l[j]? = some b) : (bls l)[j]? = some (.bool b) := by simp [bls, h]
theorem bls_rows (l : List Bool) : rows bc l = bls l := rows_map _ _
set_option maxHeartbeats 2000000 in
theorem samebools_at {W0 w : World} {A A2 : Option Addr} {n c B n2 c2 B2 : Nat} {l l2 : List Bool} (hl : Has w B A (bls l)) (hB : B ≤ w.heap.size) (hn : l.length = n) (hsm : n ≤ 100000) (hl2 : Has w B2 A2 (bls l2)) (hB2 : B2 ≤ w.heap.size) (hn2 : l2.length = n2) (hsm2 : n2 ≤ 100000) (h0 : Fr W0 w) :
    Calls Try.prog 11 #[.slice A n c, .slice A2 n2 c2] w fun e w' => e = .returned (.bool (decide (l = l2))) ∧ Fr W0 w' := by
  have hww := fr_refl w
  have H0 := keep h0
  clear h0
  by_cases hnn : n = n2
  · subst hnn
    have Hl := keep hl
    have Hn := keep hn
    have Hl2 := keep hl2
    have Hn2 := keep hn2
    clear hl hn hl2 hn2
    go_enter Try.func11, Try.ntmps11
    go_wp2_with fail
    go_loopg [5] n (fun g s5 wr => ∃ j : Nat, j + g = n ∧ s5 = .int .i64 j ∧ Hid (Fr w wr) ∧ Hid (∀ t, t < j → l[t]? = l2[t]?))
    case atStart => exact ⟨0, by omega, rfl, keep hww, keep (fun t h => by omega)⟩
    case round =>
      obtain ⟨j, hj, rfl, hW, hno⟩ := hrel
      by_cases hlt : j < n
      · have hm : l[j]? = some (l[j]'(by rw [Hn.out]; exact hlt)) := List.getElem?_eq_getElem _
        generalize l[j]'(by rw [Hn.out]; exact hlt) = m at hm
        have hm2 : l2[j]? = some (l2[j]'(by rw [Hn2.out]; exact hlt)) := List.getElem?_eq_getElem _
        generalize l2[j]'(by rw [Hn2.out]; exact hlt) = m2 at hm2
        have hWW := hW.out
        have hWD := fr_drew hWW
        obtain ⟨b, off, rfl, hb1, hr⟩ := Hl.out j _ (bls_get hm)
        obtain ⟨b2, off2, rfl, hb2, hr2⟩ := Hl2.out j _ (bls_get hm2)
        have cell1 : ∀ W, Fr w W → W.cell? ⟨b, off + j, none⟩ = some (.bool m) := fun W h => (h.cell (by show b < w.heap.size; omega)).trans hr
        have cell2 : ∀ W, Fr w W → W.cell? ⟨b2, off2 + j, none⟩ = some (.bool m2) := fun W h => (h.cell (by show b2 < w.heap.size; omega)).trans hr2
        clear hr hr2
        have Hm := keep hm
        have Hm2 := keep hm2
        have hjz : (j : Int) < (n : Int) := by omega
        clear hm hm2 hlt
        by_cases hk : m = m2
        · have Hk := keep hk
          have q1 : (m != m2) = false := by simp [hk]
          have q2 : (m == m2) = true := by simp [hk]
          clear hk
          go_wp2_with fail
          go_region_held3 (fun w' => Fr w w') (first | exact hWD | assumption) (first | fail)
          rename_i hH
          go_wp2_with fail
          go_roundg (gk - 1)
          case measure => omega
          case rel => exact ⟨j + 1, by omega, rfl, keep hH, keep (fun t ht => by
            by_cases e : t = j
            · subst e
              rw [Hm.out, Hm2.out, Hk.out]
            · exact hno.out t (by omega))⟩
        · have Hf : Hid (decide (l = l2) = false) := keep (decide_eq_false (fun e => hk (by
            have := Hm.out
            rw [e, Hm2.out] at this
            injection this with this
            exact this.symm)))
          have q1 : (m != m2) = true := by simpa using hk
          have q2 : (m == m2) = false := by simpa using hk
          clear hk
          go_wp2_with fail
          go_region_held3 (fun w' => Fr w w') (first | exact hWD | assumption) (first | fail)
          rename_i hH
          go_wp2_with fail
          go_ret
          rw [Hf.out]
          exact ⟨rfl, fr_step H0.out hH⟩
      · have hjn : j = n := by omega
        have hjz : ¬ (j : Int) < (n : Int) := by omega
        have Ht : Hid (decide (l = l2) = true) := keep (decide_eq_true (List.ext_getElem? fun t => by
          rcases Nat.lt_or_ge t n with h | h
          · exact hno.out t (by omega)
          · rw [List.getElem?_eq_none (by rw [Hn.out]; exact h), List.getElem?_eq_none (by rw [Hn2.out]; exact h)]))
        clear hlt hjn
        go_wp2_with fail
        go_ret
        rw [Ht.out]
        exact ⟨rfl, fr_step H0.out hW.out⟩
  · have Hf : Hid (decide (l = l2) = false) := keep (decide_eq_false (fun e => hnn (by rw [← hn, ← hn2, e])))
    have e1 : ((n : Int) != (n2 : Int)) = true := by simp; omega
    have e2 : ((n : Int) == (n2 : Int)) = false := by simp; omega
    clear hl hn hl2 hn2 hnn
    go_enter Try.func11, Try.ntmps11
    go_wp2_with fail
    go_ret
    rw [Hf.out]
    exact ⟨rfl, fr_step H0.out hww⟩
end Go.Proofs.Ytifmldlbhcpaiaa
