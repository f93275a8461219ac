/- ClockAll, walked. -/
import Derived.Test.YtifmldlbhcpaiaaCkP
namespace Go.Proofs.Ytifmldlbhcpaiaa
set_option linter.unusedVariables false
set_option linter.unusedSimpArgs false
set_option maxRecDepth 100000
open Go.RowKit
theorem ResB.has {w W : World} {L : Option Addr} {n c : Nat} {l : List Bool} (h : ResB w W L n c l) : Has W W.heap.size L (rows bc l) := h.row.has
theorem same_two {w0 w1 w : World} {L M : Option Addr} {n c m d : Nat} {l : List Bool} (h1 : ResB w0 w L n c l) (h2 : ResB w1 w M m d l) (hs : n ≤ 100000) :
    Calls Try.prog 11 #[.slice L n c, .slice M m d] w fun e w' => e = .returned (.bool true) ∧ Fr w w' := by
  have hm : m = n := by rw [← h1.len, ← h2.len]
  have a1 := h1.row.has
  have a2 := h2.row.has
  rw [bls_rows] at a1 a2
  have := samebools_at (W0 := w) (c := c) (c2 := d) a1 (Nat.le_refl _) h1.len hs a2 (Nat.le_refl _) h2.len (by omega) (fr_refl w)
  rw [decide_eq_true rfl] at this
  exact this
theorem same_ints {w0 w1 w : World} {L M : Option Addr} {n c m d : Nat} {l : List Int} (h1 : ResI w0 w L n c l) (h2 : ResI w1 w M m d l) (hs : n ≤ 100000) :
    Calls Try.prog 12 #[.slice L n c, .slice M m d] w fun e w' => e = .returned (.bool true) ∧ Fr w w' := by
  have hm : m = n := by rw [← h1.len, ← h2.len]
  have a1 := h1.row.has
  have a2 := h2.row.has
  rw [ic_ints] at a1 a2
  have := sameints_at (W0 := w) (c := c) (c2 := d) a1 (Nat.le_refl _) h1.len hs a2 (Nat.le_refl _) h2.len (by omega) (fr_refl w)
  rw [decide_eq_true rfl] at this
  exact this
theorem swp_len_le (c l : List Bool) (z : Int) : (swpL c l z).2.2.length ≤ l.length := by
  unfold swpL
  split
  · exact Nat.le_of_eq (sweep_len _ _ _)
  · exact Nat.zero_le _
theorem ord_len_le (c l : List Bool) (z : Int) : (ordL c l z).length ≤ c.length := by
  by_cases h : c.length = l.length ∧ 0 < c.length
  · rw [(ord_went rfl h.1.symm h.2).2.2]
    exact cnt_le c
  · unfold ordL
    rw [if_neg h]
    exact Nat.zero_le _
set_option maxHeartbeats 16000000 in
theorem all_core {w : World} {A R : Option Addr} {n cc m rc : Nat} {c r : List Bool} {z : Int} (hc : Has w w.heap.size A (bls c)) (hcn : c.length = n) (hr : Has w w.heap.size R (bls r)) (hrn : r.length = m) (hz : (Lit.int .i64 z).wf = true) :
    Calls Try.prog 3 #[.slice A n cc, .slice R m rc, .int .i64 z] w fun e w' => e = .returned (.bool true) ∧ Below w.heap.size w w' := by
  rw [← bls_rows] at hc hr
  clear hz
  by_cases h1 : 64 < n
  · have h1z : 64 < (n : Int) := by omega
    clear hc hr
    go_enter Try.func3, Try.ntmps3
    go_wp2_with (first | (go_at_call 8; with_reducible refine (awake_at (w := w)).mono ?_; rintro e w1 ⟨rfl, hf⟩) | fail)
    go_ret
    exact ⟨rfl, hf⟩
  by_cases h2 : 64 < m
  · have h1z : ¬ 64 < (n : Int) := by omega
    have h2z : 64 < (m : Int) := by omega
    clear hc hr
    go_enter Try.func3, Try.ntmps3
    go_wp2_with (first | (go_at_call 8; with_reducible refine (awake_at (w := w)).mono ?_; rintro e w1 ⟨rfl, hf⟩) | fail)
    go_ret
    exact ⟨rfl, hf⟩
  have h1z : ¬ 64 < (n : Int) := by omega
  have h2z : ¬ 64 < (m : Int) := by omega
  have hl := swp_len_le c r z
  have ho := ord_len_le c r z
  have c1 := fun W (hW : Fr w W) => sweep_at (w := W) (cc := cc) (rc := rc) (z := z) (hc.fr (Nat.le_refl _) hW |> has_all) hcn (hr.fr (Nat.le_refl _) hW |> has_all) hrn (by omega)
  have c2 := fun W (hW : Fr w W) => rsweep_at (w := W) (cc := cc) (rc := rc) (z := z) (hc.fr (Nat.le_refl _) hW |> has_all) hcn (hr.fr (Nat.le_refl _) hW |> has_all) hrn (by omega)
  have c3 := fun W (hW : Fr w W) => order_at (w := W) (cc := cc) (rc := rc) (z := z) (hc.fr (Nat.le_refl _) hW |> has_all) hcn (hr.fr (Nat.le_refl _) hW |> has_all) hrn (by omega)
  have c4 := fun W (hW : Fr w W) => rorder_at (w := W) (cc := cc) (rc := rc) (z := z) (hc.fr (Nat.le_refl _) hW |> has_all) hcn (hr.fr (Nat.le_refl _) hW |> has_all) hrn (by omega)
  rw [hrn] at hl
  rw [hcn] at ho
  have hol : (oi (ordL c r z)).length ≤ n := by rw [oi_len]; exact ho
  revert c1 c2 c3 c4 hl hol
  generalize oi (ordL c r z) = o
  generalize swpL c r z = s
  obtain ⟨p, q, l⟩ := s
  intro hl c1 c2 c3 c4 hol
  simp only at c1 c2 hl
  have C1 := keep c1
  have C2 := keep c2
  have C3 := keep c3
  have C4 := keep c4
  have hww := fr_refl w
  clear c1 c2 c3 c4 hc hr hcn hrn ho
  go_enter Try.func3, Try.ntmps3
  go_wp2_with (first
    | (go_at_call 9; with_reducible refine (C1.out w hww).mono ?_; rintro e w1 ⟨L1, k1, d1, rfl, hz1⟩; have f1 := hz1.out.2)
    | (go_at_call 10; with_reducible refine (C2.out w1 f1).mono ?_; rintro e w2 ⟨L2, k2, d2, rfl, hz2⟩; have f2 := fr_step f1 hz2.out.2; have cs := same_two (hz1.out.1.fr hz2.out.2) hz2.out.1 (by have := hz1.out.1.len; omega); have CS := keep cs; clear cs)
    | (go_at_call 11; with_reducible refine CS.out.mono ?_; rintro e w3 ⟨rfl, hf3⟩; have f3 := fr_step f2 hf3)
    | (go_at_call 13; with_reducible refine (C3.out w3 f3).mono ?_; rintro e w4 ⟨O4, k4, d4, rfl, hz4⟩; have f4 := fr_step f3 hz4.out.2)
    | (go_at_call 14; with_reducible refine (C4.out w4 f4).mono ?_; rintro e w5 ⟨O5, k5, d5, rfl, hz5⟩; have f5 := fr_step f4 hz5.out.2; have ci := same_ints (hz4.out.1.fr hz5.out.2) hz5.out.1 (by have := hz4.out.1.len; omega); have CI := keep ci; clear ci)
    | (go_at_call 12; with_reducible refine CI.out.mono ?_; rintro e w6 ⟨rfl, hf6⟩; have f6 := fr_step f5 hf6)
    | (go_at_call 8; with_reducible refine (awake_at (w := w6)).mono ?_; rintro e w7 ⟨rfl, hf7⟩)
    | fail)
  go_ret
  exact ⟨rfl, fr_step f6 hf7⟩
end Go.Proofs.Ytifmldlbhcpaiaa
