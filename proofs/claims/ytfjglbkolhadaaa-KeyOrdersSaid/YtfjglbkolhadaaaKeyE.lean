/- What the functions of layer 3 come to, five: 'Compare', of the document. -/
import Derived.Test.YtfjglbkolhadaaaKeyC
import Derived.Test.YtfjglbkolhadaaaKeyD
import Derived.BigQuiet
import Derived.Deep.QuietTactic
import Derived.Deep.LoopGhost
namespace Go.Proofs.Ytfjglbkolhadaaa
open Go.RowKit
set_option linter.unusedVariables false

theorem val8_le {a b : RK} (h : ∀ t, t < 8 → a.at t ≤ b.at t) : val8 a ≤ val8 b := by
  have h0 : a.b0 ≤ b.b0 := h 0 (by omega)
  have h1 : a.b1 ≤ b.b1 := h 1 (by omega)
  have h2 : a.b2 ≤ b.b2 := h 2 (by omega)
  have h3 : a.b3 ≤ b.b3 := h 3 (by omega)
  have h4 : a.b4 ≤ b.b4 := h 4 (by omega)
  have h5 : a.b5 ≤ b.b5 := h 5 (by omega)
  have h6 : a.b6 ≤ b.b6 := h 6 (by omega)
  have h7 : a.b7 ≤ b.b7 := h 7 (by omega)
  unfold val8
  omega
theorem val8_lt {a b : RK} (ha : a.wf) (hb : b.wf) (j : Nat) (hj : j < 8) (h : ∀ t, t < j → a.at t = b.at t) (hl : a.at j < b.at j) : val8 a < val8 b := by
  obtain ⟨_, a0, a1, a2, a3, a4, a5, a6, a7⟩ := ha
  obtain ⟨_, c0, c1, c2, c3, c4, c5, c6, c7⟩ := hb
  unfold Byt at *
  unfold val8
  have h0 : 0 < j → a.b0 = b.b0 := fun q => h 0 q
  have h1 : 1 < j → a.b1 = b.b1 := fun q => h 1 q
  have h2 : 2 < j → a.b2 = b.b2 := fun q => h 2 q
  have h3 : 3 < j → a.b3 = b.b3 := fun q => h 3 q
  have h4 : 4 < j → a.b4 = b.b4 := fun q => h 4 q
  have h5 : 5 < j → a.b5 = b.b5 := fun q => h 5 q
  have h6 : 6 < j → a.b6 = b.b6 := fun q => h 6 q
  clear h
  rcases j with _|_|_|_|_|_|_|_|j
  all_goals simp only [RK.at] at hl
  all_goals omega
theorem okB_len {k : RK} (h : okB k = true) : Len k := by
  obtain ⟨m, hm, hn, _⟩ := okB_n h
  unfold Len; omega
theorem okB_zero {k : RK} (h : okB k = true) (t : Nat) (ht : t < 8) (hn : k.n ≤ t) : k.at t = 0 := by
  obtain ⟨m, hm, hn', he⟩ := okB_n h
  exact (first_iff k m hm hn').1 he t (by omega) ht
/-- Before place j the keys are alike, and both reach there. -/
def Pre (a b : RK) (j : Nat) : Prop := ∀ t, t < j → a.at t = b.at t ∧ (t : Int) < a.n ∧ (t : Int) < b.n
theorem pre_ge {a b : RK} {j : Nat} (h : Pre a b j) : (j : Int) ≤ a.n ∨ j = 0 := by
  rcases j with _|j
  · exact .inr rfl
  · have := (h j (by omega)).2.1; left; omega
theorem pre_ge' {a b : RK} {j : Nat} (h : Pre a b j) : (j : Int) ≤ b.n ∨ j = 0 := by
  rcases j with _|j
  · exact .inr rfl
  · have := (h j (by omega)).2.2; left; omega
theorem cmp_both {a b : RK} (oa : okB a = true) (ob : okB b = true) (j : Nat) (hj : j ≤ 8) (h : Pre a b j) (h1 : a.n ≤ j) (h2 : b.n ≤ j) : cmpK a b = 0 := by
  have la := okB_len oa
  have lb := okB_len ob
  unfold Len at la lb
  have g1 := pre_ge h
  have g2 := pre_ge' h
  have e : ∀ t, t < 8 → a.at t = b.at t := fun t ht => by
    by_cases hl : t < j
    · exact (h t hl).1
    · rw [okB_zero oa t ht (by omega), okB_zero ob t ht (by omega)]
  have v1 := val8_le (a := a) (b := b) fun t ht => by rw [e t ht]; exact Int.le_refl _
  have v2 := val8_le (a := b) (b := a) fun t ht => by rw [e t ht]; exact Int.le_refl _
  exact cmpI_eq (by unfold code; omega)
theorem cmp_short {a b : RK} (oa : okB a = true) (ob : okB b = true) (wb : b.wf) (j : Nat) (hj : j < 8) (h : Pre a b j) (h1 : a.n ≤ j) (h2 : (j : Int) < b.n) : cmpK a b = -1 := by
  have v1 := val8_le (a := a) (b := b) fun t ht => by
    by_cases hl : t < j
    · rw [(h t hl).1]; exact Int.le_refl _
    · rw [okB_zero oa t ht (by omega)]; exact (at_byt wb t).1
  exact cmpI_lt (by unfold code; omega)
theorem cmp_long {a b : RK} (oa : okB a = true) (ob : okB b = true) (wa : a.wf) (j : Nat) (hj : j < 8) (h : Pre a b j) (h1 : (j : Int) < a.n) (h2 : b.n ≤ j) : cmpK a b = 1 := by
  have v1 := val8_le (a := b) (b := a) fun t ht => by
    by_cases hl : t < j
    · rw [(h t hl).1]; exact Int.le_refl _
    · rw [okB_zero ob t ht (by omega)]; exact (at_byt wa t).1
  exact cmpI_gt (by unfold code; omega)
theorem cmp_at_lt {a b : RK} (oa : okB a = true) (ob : okB b = true) (wa : a.wf) (wb : b.wf) (j : Nat) (hj : j < 8) (h : Pre a b j) (hl : a.at j < b.at j) : cmpK a b = -1 := by
  have la := okB_len oa
  have lb := okB_len ob
  unfold Len at la lb
  have := val8_lt wa wb j hj (fun t ht => (h t ht).1) hl
  exact cmpI_lt (by unfold code; omega)
theorem cmp_at_gt {a b : RK} (oa : okB a = true) (ob : okB b = true) (wa : a.wf) (wb : b.wf) (j : Nat) (hj : j < 8) (h : Pre a b j) (hl : b.at j < a.at j) : cmpK a b = 1 := by
  have la := okB_len oa
  have lb := okB_len ob
  unfold Len at la lb
  have := val8_lt wb wa j hj (fun t ht => (h t ht).1.symm) hl
  exact cmpI_gt (by unfold code; omega)
set_option maxHeartbeats 2000000 in
theorem ref_compare (a b : RK) (wa : a.wf) (wb : b.wf) (oa : okB a = true) (ob : okB b = true) (w : World) : Calls Try.prog 25 #[kv a, kv b] w fun e w' => e = .returned (.int .i64 (cmpK a b)) ∧ Fr w w' := by
  have Oa := keep oa
  have Ob := keep ob
  clear oa ob
  go_enter Try.func25, Try.ntmps25
  go_wp2_with fail
  generalize hW : World.alloc (World.alloc w _) _ = W
  have hA : Arr W w.heap.size 24 (kc a).toArray := by rw [← hW]; exact (Arr.new w _ _).alloc _
  have hB : Arr W (w.heap.size + 1) 24 (kc b).toArray := by rw [← hW]; exact arr_new_at _ _ _ _ (by simp)
  have hF : Fr w W := by rw [← hW]; exact fr_new (fr_new (fr_refl w) _) _
  clear hW
  go_loopg [5] 8 (fun g i wr => ∃ j : Nat, j + g = 8 ∧ i = .int .i64 j ∧ Hid (Pre a b j) ∧ Arr wr w.heap.size 24 (kc a).toArray ∧ Arr wr (w.heap.size + 1) 24 (kc b).toArray ∧ Fr w wr)
  case atStart => exact ⟨0, rfl, rfl, keep fun t h => by omega, hA, hB, hF⟩
  case round =>
    clear hA hB hF
    obtain ⟨j, hj, rfl, Hp, hA, hB, hF⟩ := hrel
    have Hj := keep hj
    by_cases hlt : j < 8
    · have ca : wr.cell? ⟨w.heap.size, 1 + j, none⟩ = some (.int .u8 (a.at j)) := (hA.cell (1 + j)).trans (kc_at a j hlt)
      have cb : wr.cell? ⟨w.heap.size + 1, 1 + j, none⟩ = some (.int .u8 (b.at j)) := (hB.cell (1 + j)).trans (kc_at b j hlt)
      have na : wr.cell? ⟨w.heap.size, 0, none⟩ = some (.int .i64 a.n) := hA.cell 0
      have nb : wr.cell? ⟨w.heap.size + 1, 0, none⟩ = some (.int .i64 b.n) := hB.cell 0
      clear hj
      by_cases h1 : a.n ≤ j
      · have d1 : decide (a.n ≤ (j : Int)) = true := by simpa using h1
        by_cases h2 : b.n ≤ j
        · have d2 : decide (b.n ≤ (j : Int)) = true := by simpa using h2
          have Hr := keep (cmp_both Oa.out Ob.out j (by omega) Hp.out h1 h2)
          go_wp2_with fail
          go_ret
          exact ⟨ret_int Hr.out.symm, hF⟩
        · have d2 : decide (b.n ≤ (j : Int)) = false := by simpa using h2
          have Hr := keep (cmp_short Oa.out Ob.out wb j hlt Hp.out h1 (by omega))
          go_wp2_with fail
          go_ret
          exact ⟨ret_int Hr.out.symm, hF⟩
      · have d1 : decide (a.n ≤ (j : Int)) = false := by simpa using h1
        by_cases h2 : b.n ≤ j
        · have d2 : decide (b.n ≤ (j : Int)) = true := by simpa using h2
          have Hr := keep (cmp_long Oa.out Ob.out wa j hlt Hp.out (by omega) h2)
          go_wp2_with fail
          go_ret
          exact ⟨ret_int Hr.out.symm, hF⟩
        · have d2 : decide (b.n ≤ (j : Int)) = false := by simpa using h2
          by_cases h3 : a.at j < b.at j
          · have d3 : decide (a.at j < b.at j) = true := by simpa using h3
            have Hr := keep (cmp_at_lt Oa.out Ob.out wa wb j hlt Hp.out h3)
            go_wp2_with fail
            go_quiet (fail)
            go_wp2_with fail
            go_ret
            exact ⟨ret_int Hr.out.symm, by first | exact fr_drewN hF _ | exact fr_drewN (fr_drewN hF _) _⟩
          · have d3 : decide (a.at j < b.at j) = false := by simpa using h3
            by_cases h4 : b.at j < a.at j
            · have d4 : decide (b.at j < a.at j) = true := by simpa using h4
              have Hr := keep (cmp_at_gt Oa.out Ob.out wa wb j hlt Hp.out h4)
              go_wp2_with fail
              go_quiet (fail)
              go_wp2_with fail
              go_quiet (fail)
              go_wp2_with fail
              go_ret
              exact ⟨ret_int Hr.out.symm, by first | exact fr_drewN hF _ | exact fr_drewN (fr_drewN hF _) _⟩
            · have d4 : decide (b.at j < a.at j) = false := by simpa using h4
              have Hq : Hid (Pre a b (j + 1)) := keep fun t ht => by
                by_cases e : t = j
                · subst e; exact ⟨by omega, by omega, by omega⟩
                · exact Hp.out t (by omega)
              go_wp2_with fail
              go_quiet (fail)
              go_wp2_with fail
              go_quiet (fail)
              go_wp2_with fail
              go_roundg (gk - 1)
              case measure => have := Hj.out; omega
              case rel => exact ⟨j + 1, by have := Hj.out; omega, by go_num, Hq, hA, hB, by first | exact fr_drewN hF _ | exact fr_drewN (fr_drewN hF _) _⟩
    · obtain rfl : j = 8 := by omega
      have Hr := keep (cmp_both Oa.out Ob.out 8 (by omega) Hp.out (okB_len Oa.out).2 (okB_len Ob.out).2)
      clear hj
      go_wp2_with fail
      go_ret
      exact ⟨ret_int Hr.out.symm, hF⟩
end Go.Proofs.Ytfjglbkolhadaaa
