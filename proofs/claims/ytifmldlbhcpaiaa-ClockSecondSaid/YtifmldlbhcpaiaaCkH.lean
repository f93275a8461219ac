/- Package clock: the document's Sweep. -/
import Derived.Test.YtifmldlbhcpaiaaCkE
namespace Go.Proofs.Ytifmldlbhcpaiaa
set_option linter.unusedVariables false
set_option linter.unusedSimpArgs false
set_option maxRecDepth 100000
open Go.RowKit
set_option maxHeartbeats 4000000 in
theorem rsweep_no {w : World} {C R : Option Addr} {n cc m rc : Nat} {z : Int} (h : ¬(n = m ∧ 0 < n)) :
    Calls Try.prog 10 #[.slice C n cc, .slice R m rc, .int .i64 z] w fun e w' => e = .returned (.tuple #[.int .i64 (-1), .int .i64 0, .slice none 0 0]) ∧ Fr w w' := by
  by_cases h0 : n = 0
  · subst h0
    clear h
    go_enter Try.func10, Try.ntmps10
    go_wp2_with fail
    go_ret3
    exact ⟨rfl, fr_refl w⟩
  · have hz : ¬ ((n : Int) = 0) := by omega
    have q1 : ((m : Int) != (n : Int)) = true := by simp; omega
    have q2 : ((n : Int) == 0) = false := by simp; omega
    clear h
    go_enter Try.func10, Try.ntmps10
    go_wp2_with fail
    go_ret3
    exact ⟨rfl, fr_refl w⟩
set_option maxHeartbeats 4000000 in
theorem rsweep_yes {w : World} {C R : Option Addr} {n cc rc : Nat} {z : Int} {c r : List Bool} (hc : Has w w.heap.size C (rows bc c)) (hcn : c.length = n) (hr : Has w w.heap.size R (rows bc r)) (hrn : r.length = n) (hn : 0 < n) (hs : n ≤ 100000) :
    Calls Try.prog 10 #[.slice C n cc, .slice R n rc, .int .i64 z] w fun e w' => ∃ L lc, e = .returned (.tuple #[.int .i64 (swpL c r z).1, .int .i64 (swpL c r z).2.1, .slice L n lc]) ∧ Hid (ResB w w' L n lc (swpL c r z).2.2 ∧ Fr w w') := by
  have hh := hd_lt z hn
  have ht := tmod_hd z hn
  obtain ⟨h, hhd⟩ : ∃ h, h = hd z n := ⟨_, rfl⟩
  rw [← hhd] at hh ht
  have ho : Own (w.alloc (.cells #[] 4)) w.heap.size 4 1 (some ⟨w.heap.size, 0, none⟩) 0 0 (rows bc []) := Own.lit w w.heap.size 4 #[] 0 1 (Nat.le_refl _) (Nat.zero_le _) rfl
  have hl2 := hr.below (fr_new (fr_refl w) (.cells #[] 4))
  have h1 := rows_one bc_one r
  have hlen := rows_len (bc_wid r)
  rw [hrn] at hlen
  have H1 := keep h1
  have HO := keep ho
  have H2 := keep hl2
  have HL := keep hlen
  have HC := keep hc
  have Hcn := keep hcn
  have Hrn := keep hrn
  have Hhd := keep hhd
  have hz : ¬ ((n : Int) = 0) := by omega
  have hz2 : ¬ (n = 0) := by omega
  have wm : IntKind.i64.wrap (2 * (n : Int)) = 2 * (n : Int) := by rw [IntKind.wrap_i64]; omega
  have wh : IntKind.i64.wrap (h : Int) = (h : Int) := by rw [IntKind.wrap_i64]; omega
  clear hc hr hcn hrn ho hl2 h1 hlen hhd
  rcases ht with e | ⟨e, e2⟩
  · have hp : ¬ ((h : Int) < 0) := by omega
    go_enter Try.func10, Try.ntmps10
    go_wp2_with (first
      | (refine wpList_append_vals (w0 := w) bool_elem bools_under (by decide) rfl (.tmp 32) (.tmp 33) rfl (fr_new (fr_refl w) _) (some ⟨w.heap.size, 0, none⟩) 0 0 (rows bc []) rfl HO.out w.heap.size R n rc (rows bc r) rfl HL.out H2.out H1.out (by simp only [maxLen]; omega) (by omega) ?_; intro L lc w1 h1 h2)
      | fail)
    have R1 : Rw w1 4 1 L n lc (rows bc r) := by rw [← Nat.zero_add n]; exact h1.rw'
    have HI1 := keep (show ∃ l, sweepL c (vis h n 0) r = (none, l) ∧ ResB w w1 L n lc l ∧ Fr w w1 from ⟨r, rfl, ⟨R1, Hrn.out, fun k hk => (h1.lt k hk).1⟩, h2⟩)
    clear h1 h2 R1
    go_loopg [12] (2 * n) (fun gg s12 wr => ∃ j : Nat, j + gg = 2 * n ∧ s12 = .int .i64 j ∧ Hid (∃ l, sweepL c (vis h n j) r = (none, l) ∧ ResB w wr L n lc l ∧ Fr w wr))
    case atStart => exact ⟨0, by omega, rfl, HI1⟩
    case round =>
      obtain ⟨j, hj, rfl, HI⟩ := hrel
      obtain ⟨l, hl1, hl2, hl3⟩ := HI.out
      have HS := keep hl1
      have HRB := keep hl2
      have HF := keep hl3
      clear hl1 hl2 hl3 HI HI1
      by_cases hlt : j < 2 * n
      · obtain ⟨xv, hxv⟩ : ∃ q : Nat, q = (h + j) % n := ⟨_, rfl⟩
        have hxl : xv < n := by rw [hxv]; exact Nat.mod_lt _ hn
        have hck := gd_get (l := c) (k := xv) (by rw [Hcn.out]; exact hxl)
        have hlk := gd_get (l := l) (k := xv) (by rw [HRB.out.len]; exact hxl)
        obtain ⟨b, off, rfl, hb1, hr⟩ := has_rows HC.out (bc_wid c) (by decide) (by intro e; rw [e] at hck; simp at hck)
        have cX := elem_cell0 hr (bc_wid c) (by omega) hck (u := .bool (gd c xv)) rfl
        rw [Nat.mul_one] at cX
        obtain ⟨g, o, rfl⟩ := HRB.out.row.addr hn
        obtain ⟨b2, off2, e3, hb2, hr2⟩ := has_rows HRB.out.row.has (bc_wid l) (by decide) (by intro e; rw [e] at hlk; simp at hlk)
        have lX := elem_cell0 hr2 (bc_wid l) (by omega) hlk (u := .bool (gd l xv)) rfl
        injection e3 with e3
        injection e3 with e3 e4
        subst e3 e4
        rw [Nat.mul_one] at lX
        have hww := fr_refl wr
        have hwF := HF.out
        have hlz : (j : Int) < 2 * (n : Int) := by omega
        have hkz : (xv : Int) < (n : Int) := by omega
        have wa : IntKind.i64.wrap ((h : Int) + (j : Int)) = (h : Int) + (j : Int) := by rw [IntKind.wrap_i64]; omega
        have wt : ((h : Int) + (j : Int)) % (n : Int) = (xv : Int) := by rw [hxv, ← Int.natCast_add, ← Int.natCast_emod]
        have wx : IntKind.i64.wrap (xv : Int) = (xv : Int) := by rw [IntKind.wrap_i64]; omega
        have wj : IntKind.i64.wrap ((j : Int) + 1) = (j : Int) + 1 := by rw [IntKind.wrap_i64]; omega
        obtain ⟨nx, hnx⟩ : ∃ q : Nat, q = (xv + 1) % n := ⟨_, rfl⟩
        have hnl : nx < n := by rw [hnx]; exact Nat.mod_lt _ hn
        have vt : ((xv : Int) + 1) % (n : Int) = (nx : Int) := by rw [hnx, ← Int.natCast_succ, ← Int.natCast_emod]
        have va : IntKind.i64.wrap ((xv : Int) + 1) = (xv : Int) + 1 := by rw [IntKind.wrap_i64]; omega
        have vx : IntKind.i64.wrap (nx : Int) = (nx : Int) := by rw [IntKind.wrap_i64]; omega
        have Hxv := keep hxv
        have Hnx := keep hnx
        clear hr hr2 hck hlk hlt hxv hnx
        cases hq : gd c xv with
        | false =>
          have e1 : hit c l xv = false := by unfold hit; rw [hq]; rfl
          have e2 : wash c l xv = l := by unfold wash; rw [hq]; rfl
          have E1 := keep e1
          have E2 := keep e2
          rw [hq] at cX
          clear e1 e2 hq
          go_wp2_with fail
          go_roundg (gk - 1)
          case measure => omega
          case rel => exact ⟨j + 1, by omega, rfl, keep ⟨l, by rw [vis_succ, ← Hxv.out, sweep_snoc_miss HS.out E1.out, E2.out], HRB.out, HF.out⟩⟩
        | true =>
          rw [hq] at cX
          cases hp : gd l xv with
          | false =>
            have e1 : hit c l xv = true := by unfold hit; rw [hq, hp]; rfl
            have E1 := keep e1
            rw [hp] at lX
            clear e1 hq hp
            have hwD := fr_drew hww
            have hjl : j + 1 ≤ 2 * n := by omega
            have e9 := swp_yes z Hcn.out Hrn.out hn Hhd.out.symm (sweep_pre (vis_pre h n hjl) (by rw [vis_succ, ← Hxv.out]; exact sweep_snoc_hit HS.out E1.out))
            rw [wash_hit E1.out] at e9
            have E9 := keep e9
            clear e9
            go_wp2_with fail
            go_region
            go_wp2_with fail
            go_ret3
            refine ⟨some ⟨g, o, none⟩, lc, ?_, keep ⟨?_, fr_drew HF.out⟩⟩
            rotate_left
            · rw [E9.out]; exact ⟨HRB.out.row.fr (fr_drew (fr_refl wr)), HRB.out.len, HRB.out.new⟩
            · rw [E9.out, vt, Hnx.out]
              rfl
          | true =>
            have e1 : hit c l xv = false := by unfold hit; rw [hq, hp]; rfl
            have e2 : wash c l xv = l.set xv false := by unfold wash; rw [hq]; rfl
            have E1 := keep e1
            have E2 := keep e2
            rw [hp] at lX
            clear e1 e2 hq hp
            go_wp2_with (first
              | (refine wpList_store_rw (cf := bc) (x := false) (j := xv) bool_info rfl (.tmp 64) (.const (.bool false)) rfl (by rw [Nat.mul_one]; rfl) rfl rfl (bc_one _) HRB.out.row (bc_wid _) HRB.out.len (by omega) ?_; intro W1 h1 h2; have h3 := keep (show Rw W1 _ _ _ _ _ _ ∧ Chg _ wr W1 from ⟨h1, h2⟩); clear h1 h2)
              | fail)
            go_roundg (gk - 1)
            case measure => omega
            case rel => exact ⟨j + 1, by omega, rfl, keep ⟨_, by rw [vis_succ, ← Hxv.out, sweep_snoc_miss HS.out E1.out, E2.out], ⟨h3.out.1, by rw [List.length_set]; exact HRB.out.len, HRB.out.new⟩, HF.out.step_chg h3.out.2 fun i e => HRB.out.new i (by rw [e]; rfl)⟩⟩
      · obtain rfl : j = 2 * n := by omega
        have hlz : ¬ ((2 : Int) * (n : Int) < 2 * (n : Int)) := by omega
        have e9 := swp_yes z Hcn.out Hrn.out hn Hhd.out.symm HS.out
        have E9 := keep e9
        clear e9
        go_wp2_with fail
        go_ret3
        refine ⟨L, lc, ?_, keep ⟨?_, HF.out⟩⟩
        rotate_left
        · rw [E9.out]; exact HRB.out
        · rw [E9.out]; rfl
  · obtain ⟨q, hq⟩ : ∃ q : Int, q = z.tmod n := ⟨_, rfl⟩
    rw [← hq] at e e2
    have hq2 : z.tmod n = q := hq.symm
    have e : q + (n : Int) = (h : Int) := by omega
    have wq : IntKind.i64.wrap q = q := by rw [IntKind.wrap_i64]; omega
    clear hq
    go_enter Try.func10, Try.ntmps10
    go_wp2_with (first
      | (refine wpList_append_vals (w0 := w) bool_elem bools_under (by decide) rfl (.tmp 32) (.tmp 33) rfl (fr_new (fr_refl w) _) (some ⟨w.heap.size, 0, none⟩) 0 0 (rows bc []) rfl HO.out w.heap.size R n rc (rows bc r) rfl HL.out H2.out H1.out (by simp only [maxLen]; omega) (by omega) ?_; intro L lc w1 h1 h2)
      | fail)
    have R1 : Rw w1 4 1 L n lc (rows bc r) := by rw [← Nat.zero_add n]; exact h1.rw'
    have HI1 := keep (show ∃ l, sweepL c (vis h n 0) r = (none, l) ∧ ResB w w1 L n lc l ∧ Fr w w1 from ⟨r, rfl, ⟨R1, Hrn.out, fun k hk => (h1.lt k hk).1⟩, h2⟩)
    clear h1 h2 R1
    go_loopg [12] (2 * n) (fun gg s12 wr => ∃ j : Nat, j + gg = 2 * n ∧ s12 = .int .i64 j ∧ Hid (∃ l, sweepL c (vis h n j) r = (none, l) ∧ ResB w wr L n lc l ∧ Fr w wr))
    case atStart => exact ⟨0, by omega, rfl, HI1⟩
    case round =>
      obtain ⟨j, hj, rfl, HI⟩ := hrel
      obtain ⟨l, hl1, hl2, hl3⟩ := HI.out
      have HS := keep hl1
      have HRB := keep hl2
      have HF := keep hl3
      clear hl1 hl2 hl3 HI HI1
      by_cases hlt : j < 2 * n
      · obtain ⟨xv, hxv⟩ : ∃ q : Nat, q = (h + j) % n := ⟨_, rfl⟩
        have hxl : xv < n := by rw [hxv]; exact Nat.mod_lt _ hn
        have hck := gd_get (l := c) (k := xv) (by rw [Hcn.out]; exact hxl)
        have hlk := gd_get (l := l) (k := xv) (by rw [HRB.out.len]; exact hxl)
        obtain ⟨b, off, rfl, hb1, hr⟩ := has_rows HC.out (bc_wid c) (by decide) (by intro e; rw [e] at hck; simp at hck)
        have cX := elem_cell0 hr (bc_wid c) (by omega) hck (u := .bool (gd c xv)) rfl
        rw [Nat.mul_one] at cX
        obtain ⟨g, o, rfl⟩ := HRB.out.row.addr hn
        obtain ⟨b2, off2, e3, hb2, hr2⟩ := has_rows HRB.out.row.has (bc_wid l) (by decide) (by intro e; rw [e] at hlk; simp at hlk)
        have lX := elem_cell0 hr2 (bc_wid l) (by omega) hlk (u := .bool (gd l xv)) rfl
        injection e3 with e3
        injection e3 with e3 e4
        subst e3 e4
        rw [Nat.mul_one] at lX
        have hww := fr_refl wr
        have hwF := HF.out
        have hlz : (j : Int) < 2 * (n : Int) := by omega
        have hkz : (xv : Int) < (n : Int) := by omega
        have wa : IntKind.i64.wrap ((h : Int) + (j : Int)) = (h : Int) + (j : Int) := by rw [IntKind.wrap_i64]; omega
        have wt : ((h : Int) + (j : Int)) % (n : Int) = (xv : Int) := by rw [hxv, ← Int.natCast_add, ← Int.natCast_emod]
        have wx : IntKind.i64.wrap (xv : Int) = (xv : Int) := by rw [IntKind.wrap_i64]; omega
        have wj : IntKind.i64.wrap ((j : Int) + 1) = (j : Int) + 1 := by rw [IntKind.wrap_i64]; omega
        obtain ⟨nx, hnx⟩ : ∃ q : Nat, q = (xv + 1) % n := ⟨_, rfl⟩
        have hnl : nx < n := by rw [hnx]; exact Nat.mod_lt _ hn
        have vt : ((xv : Int) + 1) % (n : Int) = (nx : Int) := by rw [hnx, ← Int.natCast_succ, ← Int.natCast_emod]
        have va : IntKind.i64.wrap ((xv : Int) + 1) = (xv : Int) + 1 := by rw [IntKind.wrap_i64]; omega
        have vx : IntKind.i64.wrap (nx : Int) = (nx : Int) := by rw [IntKind.wrap_i64]; omega
        have Hxv := keep hxv
        have Hnx := keep hnx
        clear hr hr2 hck hlk hlt hxv hnx
        cases hq : gd c xv with
        | false =>
          have e1 : hit c l xv = false := by unfold hit; rw [hq]; rfl
          have e2 : wash c l xv = l := by unfold wash; rw [hq]; rfl
          have E1 := keep e1
          have E2 := keep e2
          rw [hq] at cX
          clear e1 e2 hq
          go_wp2_with fail
          go_roundg (gk - 1)
          case measure => omega
          case rel => exact ⟨j + 1, by omega, rfl, keep ⟨l, by rw [vis_succ, ← Hxv.out, sweep_snoc_miss HS.out E1.out, E2.out], HRB.out, HF.out⟩⟩
        | true =>
          rw [hq] at cX
          cases hp : gd l xv with
          | false =>
            have e1 : hit c l xv = true := by unfold hit; rw [hq, hp]; rfl
            have E1 := keep e1
            rw [hp] at lX
            clear e1 hq hp
            have hwD := fr_drew hww
            have hjl : j + 1 ≤ 2 * n := by omega
            have e9 := swp_yes z Hcn.out Hrn.out hn Hhd.out.symm (sweep_pre (vis_pre h n hjl) (by rw [vis_succ, ← Hxv.out]; exact sweep_snoc_hit HS.out E1.out))
            rw [wash_hit E1.out] at e9
            have E9 := keep e9
            clear e9
            go_wp2_with fail
            go_region
            go_wp2_with fail
            go_ret3
            refine ⟨some ⟨g, o, none⟩, lc, ?_, keep ⟨?_, fr_drew HF.out⟩⟩
            rotate_left
            · rw [E9.out]; exact ⟨HRB.out.row.fr (fr_drew (fr_refl wr)), HRB.out.len, HRB.out.new⟩
            · rw [E9.out, vt, Hnx.out]
              rfl
          | true =>
            have e1 : hit c l xv = false := by unfold hit; rw [hq, hp]; rfl
            have e2 : wash c l xv = l.set xv false := by unfold wash; rw [hq]; rfl
            have E1 := keep e1
            have E2 := keep e2
            rw [hp] at lX
            clear e1 e2 hq hp
            go_wp2_with (first
              | (refine wpList_store_rw (cf := bc) (x := false) (j := xv) bool_info rfl (.tmp 64) (.const (.bool false)) rfl (by rw [Nat.mul_one]; rfl) rfl rfl (bc_one _) HRB.out.row (bc_wid _) HRB.out.len (by omega) ?_; intro W1 h1 h2; have h3 := keep (show Rw W1 _ _ _ _ _ _ ∧ Chg _ wr W1 from ⟨h1, h2⟩); clear h1 h2)
              | fail)
            go_roundg (gk - 1)
            case measure => omega
            case rel => exact ⟨j + 1, by omega, rfl, keep ⟨_, by rw [vis_succ, ← Hxv.out, sweep_snoc_miss HS.out E1.out, E2.out], ⟨h3.out.1, by rw [List.length_set]; exact HRB.out.len, HRB.out.new⟩, HF.out.step_chg h3.out.2 fun i e => HRB.out.new i (by rw [e]; rfl)⟩⟩
      · obtain rfl : j = 2 * n := by omega
        have hlz : ¬ ((2 : Int) * (n : Int) < 2 * (n : Int)) := by omega
        have e9 := swp_yes z Hcn.out Hrn.out hn Hhd.out.symm HS.out
        have E9 := keep e9
        clear e9
        go_wp2_with fail
        go_ret3
        refine ⟨L, lc, ?_, keep ⟨?_, HF.out⟩⟩
        rotate_left
        · rw [E9.out]; exact HRB.out
        · rw [E9.out]; rfl
/-- The document's Sweep, whatever the lists. -/
theorem rsweep_at {w : World} {C R : Option Addr} {n cc m rc : Nat} {z : Int} {c r : List Bool} (hc : Has w w.heap.size C (rows bc c)) (hcn : c.length = n) (hr : Has w w.heap.size R (rows bc r)) (hrn : r.length = m) (hs : n ≤ 100000) :
    Calls Try.prog 10 #[.slice C n cc, .slice R m rc, .int .i64 z] w fun e w' => ∃ L k lc, e = .returned (.tuple #[.int .i64 (swpL c r z).1, .int .i64 (swpL c r z).2.1, .slice L k lc]) ∧ Hid (ResB w w' L k lc (swpL c r z).2.2 ∧ Fr w w') := by
  by_cases h : n = m ∧ 0 < n
  · obtain ⟨rfl, hn⟩ := h
    refine (rsweep_yes hc hcn hr hrn hn hs).mono ?_
    rintro e w' ⟨L, lc, h1, h2⟩
    exact ⟨L, n, lc, h1, h2⟩
  · refine (rsweep_no h).mono ?_
    rintro e w' ⟨rfl, h2⟩
    rw [swp_no z (by rw [hcn, hrn]; exact h)]
    exact ⟨none, 0, 0, rfl, keep ⟨⟨Rw.nil _ _ _, rfl, fun k hk => by cases hk⟩, h2⟩⟩
end Go.Proofs.Ytifmldlbhcpaiaa
