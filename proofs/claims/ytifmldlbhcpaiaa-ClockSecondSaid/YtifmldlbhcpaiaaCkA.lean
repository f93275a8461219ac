/- Package clock: proper, reduce, choose; 'slices.Clone'. -/
import Derived.Test.YtifmldlbhcpaiaaCkF
namespace Go.Proofs.Ytifmldlbhcpaiaa
set_option linter.unusedVariables false
set_option linter.unusedSimpArgs false
set_option maxRecDepth 100000
open Go.RowKit
theorem s_sz (w : World) : (sizeOf (Try.prog.elem 22)).run Try.prog w = .ok 1 w := by kernel_rfl
theorem s_el : Try.prog.underlying 22 = some (.slice (Try.prog.elem 22)) := by kernel_rfl
theorem s_nil (A : Option Addr) (n c : Nat) (w : World) : (binOp .eql 22 (.slice A n c) (.slice none 0 0)).run Try.prog w = .ok (.bool A.isNone) w := run_eql_slice_nil w _ _ A n c bools_under
set_option maxHeartbeats 2000000 in
theorem reduce_at {w : World} {z : Int} {n : Nat} (hn : 0 < n) (hs : n ≤ 100000) :
    Calls Try.prog 21 #[.int .i64 z, .int .i64 n] w fun e w' => e = .returned (.int .i64 (hd z n)) ∧ w' = w := by
  have h1 := hd_lt z hn
  have h2 := red_hd z hn
  have h3 := tmod_hd z hn
  have hz : ¬ ((n : Int) = 0) := by omega
  have hz2 : ¬ (n = 0) := by omega
  have w1 : IntKind.i64.wrap (z.tmod n) = z.tmod n := by rw [IntKind.wrap_i64]; omega
  have w2 : IntKind.i64.wrap (z.tmod n + n) = z.tmod n + n := by rw [IntKind.wrap_i64]; omega
  have w3 : IntKind.i64.wrap (hd z n : Int) = (hd z n : Int) := by rw [IntKind.wrap_i64]; omega
  go_enter Try.func21, Try.ntmps21
  go_wp2_with fail
  go_ret
  simp [*]
set_option maxHeartbeats 2000000 in
theorem proper_at {w : World} {A B : Option Addr} {n m c d : Nat} :
    Calls Try.prog 17 #[.slice A n c, .slice B m d] w fun e w' => e = .returned (.bool (decide (n = m ∧ 0 < n))) ∧ w' = w := by
  by_cases h : n = m
  · subst h
    by_cases h0 : 0 < n
    · have e0 : ((0 : Int) < (n : Int)) := by omega
      go_enter Try.func17, Try.ntmps17
      go_wp2_with fail
      go_ret
      simp [*]
    · obtain rfl : n = 0 := by omega
      go_enter Try.func17, Try.ntmps17
      go_wp2_with fail
      go_ret
      simp [*]
  · have e0 : ¬ ((n : Int) = (m : Int)) := by omega
    go_enter Try.func17, Try.ntmps17
    go_wp2_with fail
    go_ret
    simp [*]
set_option maxHeartbeats 4000000 in
theorem choose_at {w : World} {C L : Option Addr} {n cc lc k B : Nat} {c l : List Bool} (hc : Has w B C (rows bc c)) (hcn : c.length = n) (hl : Rw w 4 1 L n lc (rows bc l)) (hln : l.length = n) (hk : k < n) (hs : n ≤ 100000) (hB : B ≤ w.heap.size) :
    Calls Try.prog 20 #[.slice C n cc, .slice L n lc, .int .i64 k] w fun e w' => e = .returned (.bool (hit c l k)) ∧ Hid (Rw w' 4 1 L n lc (rows bc (wash c l k)) ∧ Chg (At L) w w') := by
  have hck := gd_get (l := c) (k := k) (by omega)
  have hlk := gd_get (l := l) (k := k) (by omega)
  obtain ⟨b, off, rfl, hb1, hr⟩ := has_rows hc (bc_wid c) (by decide) (by intro e; rw [e] at hck; simp at hck)
  have cX := elem_cell0 hr (bc_wid c) (by omega) hck (u := .bool (gd c k)) rfl
  rw [Nat.mul_one] at cX
  obtain ⟨g, o, rfl⟩ := hl.addr (by omega)
  obtain ⟨b2, off2, e2, hb2, hr2⟩ := has_rows hl.has (bc_wid l) (by decide) (by intro e; rw [e] at hlk; simp at hlk)
  have lX := elem_cell0 hr2 (bc_wid l) (by omega) hlk (u := .bool (gd l k)) rfl
  injection e2 with e2
  injection e2 with e2 e3
  subst e2 e3
  rw [Nat.mul_one] at lX
  have hkz : (k : Int) < (n : Int) := by omega
  have hww := fr_refl w
  have HL := keep hl
  have Hln := keep hln
  clear hc hl hr hr2 hck hlk
  cases hq : gd c k with
  | false =>
    rw [hq] at cX
    have e1 : hit c l k = false := by unfold hit; rw [hq]; rfl
    have e2 : wash c l k = l := by unfold wash; rw [hq]; rfl
    rw [e1, e2]
    go_enter Try.func20, Try.ntmps20
    go_wp2_with fail
    go_ret
    exact ⟨rfl, keep ⟨HL.out, .refl _ _⟩⟩
  | true =>
    rw [hq] at cX
    have e1 : hit c l k = !gd l k := by unfold hit; rw [hq]; rfl
    have e2 : wash c l k = l.set k false := by unfold wash; rw [hq]; rfl
    rw [e1, e2]
    go_enter Try.func20, Try.ntmps20
    go_wp2_with (first
      | (refine wpList_store_rw (cf := bc) (x := false) (j := k) bool_info rfl (.tmp 19) (.const (.bool false)) rfl (by rw [Nat.mul_one]; rfl) rfl rfl (bc_one _) HL.out (bc_wid _) Hln.out (by omega) ?_; intro W1 h1 h2)
      | fail)
    go_ret
    exact ⟨rfl, keep ⟨h1, h2.weak fun i _ e => by subst e; rfl⟩⟩
set_option maxHeartbeats 4000000 in
theorem clone_at {w : World} {A : Option Addr} {n c B : Nat} {l : List Bool} (hl : Has w B A (rows bc l)) (hB : B ≤ w.heap.size) (hn : l.length = n) (hsm : n ≤ 1000000) :
    Calls Try.prog 18 #[.slice A n c] w fun e w' => ∃ A' c', e = .returned (.slice A' n c') ∧ Hid (Rw w' 4 1 A' n c' (rows bc l) ∧ (∀ k, At A' k → w.heap.size ≤ k) ∧ Fr w w') := by
  have hlen := rows_len (bc_wid l)
  cases A with
  | none =>
    have hl0 : l = [] := rows_eq_nil (bc_wid l) (by decide) hl.none_nil
    subst hl0
    simp at hn
    subst hn
    have hq := s_nil none 0 c
    simp only [Option.isNone_none] at hq
    clear hl hlen
    go_enter Try.func18, Try.ntmps18
    go_wp2_with fail
    go_ret
    exact ⟨none, 0, rfl, keep ⟨Rw.nil _ _ _, fun k hk => (by cases hk), fr_refl w⟩⟩
  | some a =>
    subst hn
    have ho : Own (w.alloc (.cells #[] 4)) w.heap.size 4 1 (some ⟨w.heap.size, 0, none⟩) 0 0 (rows bc []) := Own.lit w w.heap.size 4 #[] 0 1 (Nat.le_refl _) (Nat.zero_le _) rfl
    have hl2 := hl.below ((fr_new (fr_refl w) (.cells #[] 4)).mono hB)
    have hq := s_nil (some a) l.length c
    simp only [Option.isNone_some] at hq
    have h1 := rows_one bc_one l
    have H1 := keep h1
    have HO := keep ho
    have H2 := keep hl2
    have HL := keep hlen
    clear hl h1 ho hl2 hlen
    go_enter Try.func18, Try.ntmps18
    go_wp2_with (first
      | (refine wpList_append_vals (w0 := w) bool_elem bools_under (by decide) rfl (.tmp 5) (.tmp 6) rfl (fr_new (fr_refl w) _) (some ⟨w.heap.size, 0, none⟩) 0 0 (rows bc []) rfl HO.out B (some a) l.length c (rows bc l) rfl HL.out H2.out H1.out (by simp only [maxLen]; omega) (by omega) ?_; intro A' c' w' h1 h2)
      | fail)
    go_ret
    rw [Nat.zero_add] at h1
    exact ⟨A', c', rfl, keep ⟨h1.rw', fun k hk => (h1.lt k hk).1, h2⟩⟩
end Go.Proofs.Ytifmldlbhcpaiaa
