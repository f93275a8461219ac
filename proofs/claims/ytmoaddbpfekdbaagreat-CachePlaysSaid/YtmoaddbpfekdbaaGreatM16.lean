/- Package clock: the document's Sweep. -/
import Derived.Test.YtmoaddbpfekdbaaGreatM15
import Derived.Test.YtmoaddbpfekdbaaGreatM14
namespace Go.Proofs.YtmoaddbpfekdbaaGreat
set_option linter.unusedVariables false
set_option linter.unusedSimpArgs false
set_option maxRecDepth 100000
open Go.RowKit
set_option maxHeartbeats 4000000 in
theorem rsweep_no {w : World} {C R : Option Addr} {n cc m rc : Nat} {z : Int} (h : ¬(n = m ∧ 0 < n)) :
    Calls Tryz.prog 68 #[.slice C n cc, .slice R m rc, .int .i64 z] w fun e w' => e = .returned (.tuple #[.int .i64 (-1), .int .i64 0, .slice none 0 0]) ∧ Fr w w' := by
  by_cases h0 : n = 0
  · subst h0
    clear h
    go_enter Tryz.func68, Tryz.ntmps68
    go_wp2_with fail
    go_ret3
    exact ⟨rfl, fr_refl w⟩
  · have hz : ¬ ((n : Int) = 0) := by omega
    have q1 : ((m : Int) != (n : Int)) = true := by simp; omega
    have q2 : ((n : Int) == 0) = false := by simp; omega
    clear h
    go_enter Tryz.func68, Tryz.ntmps68
    go_wp2_with fail
    go_ret3
    exact ⟨rfl, fr_refl w⟩
set_option maxHeartbeats 4000000 in
theorem rsweep_yes {w : World} {C R : Option Addr} {n cc rc : Nat} {z : Int} {c r : List Bool} (hc : Has w w.heap.size C (rows bc c)) (hcn : c.length = n) (hr : Has w w.heap.size R (rows bc r)) (hrn : r.length = n) (hn : 0 < n) (hs : n ≤ 100000) :
    Calls Tryz.prog 68 #[.slice C n cc, .slice R n rc, .int .i64 z] w fun e w' => ∃ L lc, e = .returned (.tuple #[.int .i64 (swpL c r z).1, .int .i64 (swpL c r z).2.1, .slice L n lc]) ∧ Hid (ResB w w' L n lc (swpL c r z).2.2 ∧ Fr w w') := by
  have hh := hd_lt z hn
  have ht := tmod_hd z hn
  obtain ⟨h, hhd⟩ : ∃ h, h = hd z n := ⟨_, rfl⟩
  rw [← hhd] at hh ht
  have ho : Own (w.alloc (.cells #[] 4)) w.heap.size 4 1 (some ⟨w.heap.size, 0, none⟩) 0 0 (rows bc []) := Own.lit w w.heap.size 4 #[] 0 1 (Nat.le_refl _) (Nat.zero_le _) rfl
  have hl2 := hr.below (fr_new (fr_refl w) (.cells #[] 4))
  have h1 := rows_one bc_one r
  have hlen := rows_len (bc_wid r)
  rw [hrn] at hlen
  have H1 := keep h1
  have HO := keep ho
  have H2 := keep hl2
  have HL := keep hlen
  have HC := keep hc
  have Hcn := keep hcn
  have Hrn := keep hrn
  have Hhd := keep hhd
  have hz : ¬ ((n : Int) = 0) := by omega
  have hz2 : ¬ (n = 0) := by omega
  have wm : IntKind.i64.wrap (2 * (n : Int)) = 2 * (n : Int) := by rw [IntKind.wrap_i64]; omega
  have wh : IntKind.i64.wrap (h : Int) = (h : Int) := by rw [IntKind.wrap_i64]; omega
  clear hc hr hcn hrn ho hl2 h1 hlen hhd
  rcases ht with e | ⟨e, e2⟩
  · have hp : ¬ ((h : Int) < 0) := by omega
    go_enter Tryz.func68, Tryz.ntmps68
    go_wp2_with (first
      | (refine wpList_append_vals (w0 := w) bool_elem bools_under (by decide) rfl (.tmp 32) (.tmp 33) rfl (fr_new (fr_refl w) _) (some ⟨w.heap.size, 0, none⟩) 0 0 (rows bc []) rfl HO.out w.heap.size R n rc (rows bc r) rfl HL.out H2.out H1.out (by simp only [maxLen]; omega) (by omega) ?_; intro L lc w1 h1 h2)
      | fail)
    have R1 : Rw w1 4 1 L n lc (rows bc r) := by rw [← Nat.zero_add n]; exact h1.rw'
    have HI1 := keep (show ∃ l, sweepL c (vis h n 0) r = (none, l) ∧ ResB w w1 L n lc l ∧ Fr w w1 from ⟨r, rfl, ⟨R1, Hrn.out, fun k hk => (h1.lt k hk).1⟩, h2⟩)
    clear h1 h2 R1
    go_loopg [12] (2 * n) (fun gg s12 wr => ∃ j : Nat, j + gg = 2 * n ∧ s12 = .int .i64 j ∧ Hid (∃ l, sweepL c (vis h n j) r = (none, l) ∧ ResB w wr L n lc l ∧ Fr w wr))
    case atStart => exact ⟨0, by omega, rfl, HI1⟩
    case round =>
      obtain ⟨j, hj, rfl, HI⟩ := hrel
      obtain ⟨l, hl1, hl2, hl3⟩ := HI.out
      have HS := keep hl1
      have HRB := keep hl2
      have HF := keep hl3
      clear hl1 hl2 hl3 HI HI1
      by_cases hlt : j < 2 * n
      · obtain ⟨xv, hxv⟩ : ∃ q : Nat, q = (h + j) % n := ⟨_, rfl⟩
        have hxl : xv < n := by rw [hxv]; exact Nat.mod_lt _ hn
        have hck := gd_get (l := c) (k := xv) (by rw [Hcn.out]; exact hxl)
        have hlk := gd_get (l := l) (k := xv) (by rw [HRB.out.len]; exact hxl)
        obtain ⟨b, off, rfl, hb1, hr⟩ := has_rows HC.out (bc_wid c) (by decide) (by intro e; rw [e] at hck; simp at hck)
        have cX := elem_cell0 hr (bc_wid c) (by omega) hck (u := .bool (gd c xv)) rfl
        rw [Nat.mul_one] at cX
        obtain ⟨g, o, rfl⟩ := HRB.out.row.addr hn
        obtain ⟨b2, off2, e3, hb2, hr2⟩ := has_rows HRB.out.row.has (bc_wid l) (by decide) (by intro e; rw [e] at hlk; simp at hlk)
        have lX := elem_cell0 hr2 (bc_wid l) (by omega) hlk (u := .bool (gd l xv)) rfl
        injection e3 with e3
        injection e3 with e3 e4
        subst e3 e4
        rw [Nat.mul_one] at lX
        have hww := fr_refl wr
        have hwF := HF.out
        have hlz : (j : Int) < 2 * (n : Int) := by omega
        have hkz : (xv : Int) < (n : Int) := by omega
        have wa : IntKind.i64.wrap ((h : Int) + (j : Int)) = (h : Int) + (j : Int) := by rw [IntKind.wrap_i64]; omega
        have wt : ((h : Int) + (j : Int)) % (n : Int) = (xv : Int) := by rw [hxv, ← Int.natCast_add, ← Int.natCast_emod]
        have wx : IntKind.i64.wrap (xv : Int) = (xv : Int) := by rw [IntKind.wrap_i64]; omega
        have wj : IntKind.i64.wrap ((j : Int) + 1) = (j : Int) + 1 := by rw [IntKind.wrap_i64]; omega
        obtain ⟨nx, hnx⟩ : ∃ q : Nat, q = (xv + 1) % n := ⟨_, rfl⟩
        have hnl : nx < n := by rw [hnx]; exact Nat.mod_lt _ hn
        have vt : ((xv : Int) + 1) % (n : Int) = (nx : Int) := by rw [hnx, ← Int.natCast_succ, ← Int.natCast_emod]
        have va : IntKind.i64.wrap ((xv : Int) + 1) = (xv : Int) + 1 := by rw [IntKind.wrap_i64]; omega
        have vx : IntKind.i64.wrap (nx : Int) = (nx : Int) := by rw [IntKind.wrap_i64]; omega
        have Hxv := keep hxv
        have Hnx := keep hnx
        clear hr hr2 hck hlk hlt hxv hnx
        cases hq : gd c xv with
        | false =>
          have e1 : hit c l xv = false := by unfold hit; rw [hq]; rfl
          have e2 : wash c l xv = l := by unfold wash; rw [hq]; rfl
          have E1 := keep e1
          have E2 := keep e2
          rw [hq] at cX
          clear e1 e2 hq
          go_wp2_with fail
          go_roundg (gk - 1)
          case measure => omega
          case rel => exact ⟨j + 1, by omega, rfl, keep ⟨l, by rw [vis_succ, ← Hxv.out, sweep_snoc_miss HS.out E1.out, E2.out], HRB.out, HF.out⟩⟩
        | true =>
          rw [hq] at cX
          cases hp : gd l xv with
          | false =>
            have e1 : hit c l xv = true := by unfold hit; rw [hq, hp]; rfl
            have E1 := keep e1
            rw [hp] at lX
            clear e1 hq hp
            have hwD := fr_drew hww
            have hjl : j + 1 ≤ 2 * n := by omega
            have e9 := swp_yes z Hcn.out Hrn.out hn Hhd.out.symm (sweep_pre (vis_pre h n hjl) (by rw [vis_succ, ← Hxv.out]; exact sweep_snoc_hit HS.out E1.out))
            rw [wash_hit E1.out] at e9
            have E9 := keep e9
            clear e9
            go_wp2_with fail
            go_region
            go_wp2_with fail
            go_ret3
            refine ⟨some ⟨g, o, none⟩, lc, ?_, keep ⟨?_, fr_drew HF.out⟩⟩
            rotate_left
            · rw [E9.out]; exact ⟨HRB.out.row.fr (fr_drew (fr_refl wr)), HRB.out.len, HRB.out.new⟩
            · rw [E9.out, vt, Hnx.out]
              rfl
          | true =>
            have e1 : hit c l xv = false := by unfold hit; rw [hq, hp]; rfl
            have e2 : wash c l xv = l.set xv false := by unfold wash; rw [hq]; rfl
            have E1 := keep e1
            have E2 := keep e2
            rw [hp] at lX
            clear e1 e2 hq hp
            go_wp2_with (first
              | (refine wpList_store_rw (cf := bc) (x := false) (j := xv) bool_info rfl (.tmp 64) (.const (.bool false)) rfl (by rw [Nat.mul_one]; rfl) rfl rfl (bc_one _) HRB.out.row (bc_wid _) HRB.out.len (by omega) ?_; intro W1 h1 h2; have h3 := keep (show Rw W1 _ _ _ _ _ _ ∧ Chg _ wr W1 from ⟨h1, h2⟩); clear h1 h2)
              | fail)
            go_roundg (gk - 1)
            case measure => omega
            case rel => exact ⟨j + 1, by omega, rfl, keep ⟨_, by rw [vis_succ, ← Hxv.out, sweep_snoc_miss HS.out E1.out, E2.out], ⟨h3.out.1, by rw [List.length_set]; exact HRB.out.len, HRB.out.new⟩, HF.out.step_chg h3.out.2 fun i e => HRB.out.new i (by rw [e]; rfl)⟩⟩
      · obtain rfl : j = 2 * n := by omega
        have hlz : ¬ ((2 : Int) * (n : Int) < 2 * (n : Int)) := by omega
        have e9 := swp_yes z Hcn.out Hrn.out hn Hhd.out.symm HS.out
        have E9 := keep e9
        clear e9
        go_wp2_with fail
        go_ret3
        refine ⟨L, lc, ?_, keep ⟨?_, HF.out⟩⟩
        rotate_left
        · rw [E9.out]; exact HRB.out
        · rw [E9.out]; rfl
  · obtain ⟨q, hq⟩ : ∃ q : Int, q = z.tmod n := ⟨_, rfl⟩
    rw [← hq] at e e2
    have hq2 : z.tmod n = q := hq.symm
    have e : q + (n : Int) = (h : Int) := by omega
    have wq : IntKind.i64.wrap q = q := by rw [IntKind.wrap_i64]; omega
    clear hq
    go_enter Tryz.func68, Tryz.ntmps68
    go_wp2_with (first
      | (refine wpList_append_vals (w0 := w) bool_elem bools_under (by decide) rfl (.tmp 32) (.tmp 33) rfl (fr_new (fr_refl w) _) (some ⟨w.heap.size, 0, none⟩) 0 0 (rows bc []) rfl HO.out w.heap.size R n rc (rows bc r) rfl HL.out H2.out H1.out (by simp only [maxLen]; omega) (by omega) ?_; intro L lc w1 h1 h2)
      | fail)
    have R1 : Rw w1 4 1 L n lc (rows bc r) := by rw [← Nat.zero_add n]; exact h1.rw'
    have HI1 := keep (show ∃ l, sweepL c (vis h n 0) r = (none, l) ∧ ResB w w1 L n lc l ∧ Fr w w1 from ⟨r, rfl, ⟨R1, Hrn.out, fun k hk => (h1.lt k hk).1⟩, h2⟩)
    clear h1 h2 R1
    go_loopg [12] (2 * n) (fun gg s12 wr => ∃ j : Nat, j + gg = 2 * n ∧ s12 = .int .i64 j ∧ Hid (∃ l, sweepL c (vis h n j) r = (none, l) ∧ ResB w wr L n lc l ∧ Fr w wr))
    case atStart => exact ⟨0, by omega, rfl, HI1⟩
    case round =>
      obtain ⟨j, hj, rfl, HI⟩ := hrel
      obtain ⟨l, hl1, hl2, hl3⟩ := HI.out
      have HS := keep hl1
      have HRB := keep hl2
      have HF := keep hl3
      clear hl1 hl2 hl3 HI HI1
      by_cases hlt : j < 2 * n
      · obtain ⟨xv, hxv⟩ : ∃ q : Nat, q = (h + j) % n := ⟨_, rfl⟩
        have hxl : xv < n := by rw [hxv]; exact Nat.mod_lt _ hn
        have hck := gd_get (l := c) (k := xv) (by rw [Hcn.out]; exact hxl)
        have hlk := gd_get (l := l) (k := xv) (by rw [HRB.out.len]; exact hxl)
        obtain ⟨b, off, rfl, hb1, hr⟩ := has_rows HC.out (bc_wid c) (by decide) (by intro e; rw [e] at hck; simp at hck)
        have cX := elem_cell0 hr (bc_wid c) (by omega) hck (u := .bool (gd c xv)) rfl
        rw [Nat.mul_one] at cX
        obtain ⟨g, o, rfl⟩ := HRB.out.row.addr hn
        obtain ⟨b2, off2, e3, hb2, hr2⟩ := has_rows HRB.out.row.has (bc_wid l) (by decide) (by intro e; rw [e] at hlk; simp at hlk)
        have lX := elem_cell0 hr2 (bc_wid l) (by omega) hlk (u := .bool (gd l xv)) rfl
        injection e3 with e3
        injection e3 with e3 e4
        subst e3 e4
        rw [Nat.mul_one] at lX
        have hww := fr_refl wr
        have hwF := HF.out
        have hlz : (j : Int) < 2 * (n : Int) := by omega
        have hkz : (xv : Int) < (n : Int) := by omega
        have wa : IntKind.i64.wrap ((h : Int) + (j : Int)) = (h : Int) + (j : Int) := by rw [IntKind.wrap_i64]; omega
        have wt : ((h : Int) + (j : Int)) % (n : Int) = (xv : Int) := by rw [hxv, ← Int.natCast_add, ← Int.natCast_emod]
        have wx : IntKind.i64.wrap (xv : Int) = (xv : Int) := by rw [IntKind.wrap_i64]; omega
        have wj : IntKind.i64.wrap ((j : Int) + 1) = (j : Int) + 1 := by rw [IntKind.wrap_i64]; omega
        obtain ⟨nx, hnx⟩ : ∃ q : Nat, q = (xv + 1) % n := ⟨_, rfl⟩
        have hnl : nx < n := by rw [hnx]; exact Nat.mod_lt _ hn
        have vt : ((xv : Int) + 1) % (n : Int) = (nx : Int) := by rw [hnx, ← Int.natCast_succ, ← Int.natCast_emod]
        have va : IntKind.i64.wrap ((xv : Int) + 1) = (xv : Int) + 1 := by rw [IntKind.wrap_i64]; omega
        have vx : IntKind.i64.wrap (nx : Int) = (nx : Int) := by rw [IntKind.wrap_i64]; omega
        have Hxv := keep hxv
        have Hnx := keep hnx
        clear hr hr2 hck hlk hlt hxv hnx
        cases hq : gd c xv with
        | false =>
          have e1 : hit c l xv = false := by unfold hit; rw [hq]; rfl
          have e2 : wash c l xv = l := by unfold wash; rw [hq]; rfl
          have E1 := keep e1
          have E2 := keep e2
          rw [hq] at cX
          clear e1 e2 hq
          go_wp2_with fail
          go_roundg (gk - 1)
          case measure => omega
          case rel => exact ⟨j + 1, by omega, rfl, keep ⟨l, by rw [vis_succ, ← Hxv.out, sweep_snoc_miss HS.out E1.out, E2.out], HRB.out, HF.out⟩⟩
        | true =>
          rw [hq] at cX
          cases hp : gd l xv with
          | false =>
            have e1 : hit c l xv = true := by unfold hit; rw [hq, hp]; rfl
            have E1 := keep e1
            rw [hp] at lX
            clear e1 hq hp
            have hwD := fr_drew hww
            have hjl : j + 1 ≤ 2 * n := by omega
            have e9 := swp_yes z Hcn.out Hrn.out hn Hhd.out.symm (sweep_pre (vis_pre h n hjl) (by rw [vis_succ, ← Hxv.out]; exact sweep_snoc_hit HS.out E1.out))
            rw [wash_hit E1.out] at e9
            have E9 := keep e9
            clear e9
            go_wp2_with fail
            go_region
            go_wp2_with fail
            go_ret3
            refine ⟨some ⟨g, o, none⟩, lc, ?_, keep ⟨?_, fr_drew HF.out⟩⟩
            rotate_left
            · rw [E9.out]; exact ⟨HRB.out.row.fr (fr_drew (fr_refl wr)), HRB.out.len, HRB.out.new⟩
            · rw [E9.out, vt, Hnx.out]
              rfl
          | true =>
            have e1 : hit c l xv = false := by unfold hit; rw [hq, hp]; rfl
            have e2 : wash c l xv = l.set xv false := by unfold wash; rw [hq]; rfl
            have E1 := keep e1
            have E2 := keep e2
            rw [hp] at lX
            clear e1 e2 hq hp
            go_wp2_with (first
              | (refine wpList_store_rw (cf := bc) (x := false) (j := xv) bool_info rfl (.tmp 64) (.const (.bool false)) rfl (by rw [Nat.mul_one]; rfl) rfl rfl (bc_one _) HRB.out.row (bc_wid _) HRB.out.len (by omega) ?_; intro W1 h1 h2; have h3 := keep (show Rw W1 _ _ _ _ _ _ ∧ Chg _ wr W1 from ⟨h1, h2⟩); clear h1 h2)
              | fail)
            go_roundg (gk - 1)
            case measure => omega
            case rel => exact ⟨j + 1, by omega, rfl, keep ⟨_, by rw [vis_succ, ← Hxv.out, sweep_snoc_miss HS.out E1.out, E2.out], ⟨h3.out.1, by rw [List.length_set]; exact HRB.out.len, HRB.out.new⟩, HF.out.step_chg h3.out.2 fun i e => HRB.out.new i (by rw [e]; rfl)⟩⟩
      · obtain rfl : j = 2 * n := by omega
        have hlz : ¬ ((2 : Int) * (n : Int) < 2 * (n : Int)) := by omega
        have e9 := swp_yes z Hcn.out Hrn.out hn Hhd.out.symm HS.out
        have E9 := keep e9
        clear e9
        go_wp2_with fail
        go_ret3
        refine ⟨L, lc, ?_, keep ⟨?_, HF.out⟩⟩
        rotate_left
        · rw [E9.out]; exact HRB.out
        · rw [E9.out]; rfl
/-- The document's Sweep, whatever the lists. -/
theorem rsweep_at {w : World} {C R : Option Addr} {n cc m rc : Nat} {z : Int} {c r : List Bool} (hc : Has w w.heap.size C (rows bc c)) (hcn : c.length = n) (hr : Has w w.heap.size R (rows bc r)) (hrn : r.length = m) (hs : n ≤ 100000) :
    Calls Tryz.prog 68 #[.slice C n cc, .slice R m rc, .int .i64 z] w fun e w' => ∃ L k lc, e = .returned (.tuple #[.int .i64 (swpL c r z).1, .int .i64 (swpL c r z).2.1, .slice L k lc]) ∧ Hid (ResB w w' L k lc (swpL c r z).2.2 ∧ Fr w w') := by
  by_cases h : n = m ∧ 0 < n
  · obtain ⟨rfl, hn⟩ := h
    refine (rsweep_yes hc hcn hr hrn hn hs).mono ?_
    rintro e w' ⟨L, lc, h1, h2⟩
    exact ⟨L, n, lc, h1, h2⟩
  · refine (rsweep_no h).mono ?_
    rintro e w' ⟨rfl, h2⟩
    rw [swp_no z (by rw [hcn, hrn]; exact h)]
    exact ⟨none, 0, 0, rfl, keep ⟨⟨Rw.nil _ _ _, rfl, fun k hk => by cases hk⟩, h2⟩⟩
end Go.Proofs.YtmoaddbpfekdbaaGreat
/- All that can go, one behind the other: in one run, and by sweeps. No program text. -/
namespace Go.Proofs.YtmoaddbpfekdbaaGreat
set_option linter.unusedVariables false
set_option linter.unusedSimpArgs false
abbrev OSt := List Bool × List Bool × List Nat
theorem gd_lt {l : List Bool} {i : Nat} (h : gd l i = true) : i < l.length := by
  rcases Nat.lt_or_ge i l.length with h' | h'
  · exact h'
  · rw [gd_out h'] at h; cases h
/-- How many can go. -/
def cnt : List Bool → Nat
  | [] => 0
  | b :: l => (if b then 1 else 0) + cnt l
theorem cnt_set {l : List Bool} {k : Nat} (h : gd l k = true) : cnt (l.set k false) + 1 = cnt l := by
  induction l generalizing k with
  | nil => rw [gd_out (Nat.zero_le _)] at h; cases h
  | cons b l ih =>
    cases k with
    | zero =>
      have hb : b = true := h
      subst hb
      simp [cnt]
      omega
    | succ k =>
      have h2 : gd l k = true := h
      have := ih h2
      simp only [List.set_cons_succ, cnt]
      omega
/-- What lasts on the way. -/
structure Went (c0 : List Bool) (s : OSt) : Prop where
  sub : ∀ i, gd s.1 i = true → gd c0 i = true
  gone : ∀ k ∈ s.2.2, gd s.1 k = false ∧ gd c0 k = true
  once : s.2.2.Nodup
  many : s.2.2.length + cnt s.1 = cnt c0
theorem Went.step {c0 : List Bool} {s : OSt} (h : Went c0 s) (k : Nat) : Went c0 (ost s k) := by
  unfold ost
  cases hk : hit s.1 s.2.1 k with
  | false => exact ⟨h.sub, h.gone, h.once, h.many⟩
  | true =>
    have hc : gd s.1 k = true := by unfold hit at hk; simp at hk; exact hk.1
    refine ⟨fun i hi => ?_, fun i hi => ?_, ?_, ?_⟩
    · simp only [if_true] at hi
      rw [gd_set] at hi
      split at hi
      · cases hi
      · exact h.sub i hi
    · simp only [if_true] at hi ⊢
      rw [gd_set]
      rcases List.mem_append.1 hi with e | e
      · obtain ⟨h1, h2⟩ := h.gone i e
        refine ⟨?_, h2⟩
        split
        · rfl
        · exact h1
      · simp at e
        subst e
        exact ⟨by rw [if_pos rfl], h.sub _ hc⟩
    · simp only [if_true]
      refine List.nodup_append.2 ⟨h.once, by simp, fun x hx y hy e => ?_⟩
      simp at hy
      subst hy
      subst e
      rw [(h.gone _ hx).1] at hc
      cases hc
    · simp only [if_true]
      have := cnt_set hc
      have := h.many
      simp only [List.length_append, List.length_cons, List.length_nil]
      omega
theorem Went.run {c0 : List Bool} (ks : List Nat) {s : OSt} (h : Went c0 s) : Went c0 (orun ks s) := by
  induction ks generalizing s with
  | nil => exact h
  | cons k ks ih => exact ih (h.step k)
/-- One behind the other, by sweeps. -/
def ordD : Nat → List Bool → List Bool → Int → List Nat
  | 0, _, _, _ => []
  | f + 1, c, l, z => if (swpL c l z).1 < 0 then [] else (swpL c l z).1.toNat :: ordD f (c.set (swpL c l z).1.toNat false) (swpL c l z).2.2 (swpL c l z).2.1
theorem swp_cases (c l : List Bool) (z : Int) : (swpL c l z).1 = -1 ∨ ∃ k : Nat, (swpL c l z).1 = (k : Int) ∧ k < c.length ∧ gd c k = true := by
  unfold swpL
  split
  · next h =>
    cases hq : sweepL c (vis (hd z c.length) c.length (2 * c.length)) l with
    | mk p m =>
      cases p with
      | none => exact .inl rfl
      | some k =>
        have := (sweep_some hq).2.1
        exact .inr ⟨k, rfl, gd_lt this, this⟩
  · exact .inl rfl
theorem swp_left_len (c l : List Bool) (z : Int) {k : Nat} (h : (swpL c l z).1 = (k : Int)) : (swpL c l z).2.2.length = l.length := by
  unfold swpL at h ⊢
  split
  · exact sweep_len _ _ _
  · next hh => rw [if_neg hh] at h; simp at h
end Go.Proofs.YtmoaddbpfekdbaaGreat
/- The cache as plain functions: frames, the line, loads, the hand. No program text. -/
namespace Go.Proofs.YtmoaddbpfekdbaaGreat
set_option linter.unusedSectionVars false
set_option linter.unusedVariables false
set_option linter.unusedSimpArgs false
/-- A frame: 0 free, 1 loading, 2 ready, 3 claimed. -/
structure Fra (V : Type) where
  st : Nat
  blk : Int
  pins : Int
  ref : Bool
  dirty : Bool
  node : V
  own : Int
structure Ca (V : Type) where
  fs : List (Fra V)
  line : List (Int × Int)
  loads : List (Int × Int)
  hand : Int
section
variable {V : Type} [Inhabited V]
def freeF : Fra V := ⟨0, -1, 0, false, false, default, 0⟩
def newC (n : Nat) : Ca V := ⟨List.replicate n freeF, [], [], 0⟩
def okT (t : Int) : Bool := decide (0 ≤ t) && decide (t < 8)
def okBl (b : Int) : Bool := decide (0 ≤ b) && decide (b < 256)
def isB (b : Int) (f : Fra V) : Bool := f.blk == b && (f.st == 1 || f.st == 2)
def findB (l : List (Fra V)) (b : Int) : Option Nat := l.findIdx? (isB b)
def freeI (l : List (Fra V)) : Option Nat := l.findIdx? fun f => f.st == 0
def freeN (l : List (Fra V)) : Nat := l.countP fun f => f.st == 0
def fr (l : List (Fra V)) (i : Nat) : Fra V := l.getD i freeF
def stand (l : List (Int × Int)) (t : Int) : Option (Int × Int) := l.find? fun p => p.1 == t
def leave (l : List (Int × Int)) (t : Int) : List (Int × Int) := l.filter fun p => !(p.1 == t)
def ahead (l : List (Int × Int)) (t : Int) : Bool := match l with | [] => true | p :: _ => p.1 == t
def takeI (c : Ca V) (t : Int) : Option Nat := if ahead c.line t then freeI c.fs else none
def queue (l : List (Int × Int)) (t b : Int) : List (Int × Int) := if (stand l t).isSome then l else l ++ [(t, b)]
/-- It waits, or stands for something else. -/
def busy (c : Ca V) (t b : Int) : Bool := (stand c.loads t).isSome || (match stand c.line t with | some p => !(p.2 == b) | none => false)
def pinned (f : Fra V) : Fra V := { f with pins := f.pins + 1, ref := true }
def pinC (c : Ca V) (t b : Int) : Int × Ca V :=
  if (okT t && okBl b && !busy c t b) = true then
    match findB c.fs b with
    | some i => if (fr c.fs i).st = 2 then (1, { c with fs := c.fs.modify i pinned, line := leave c.line t }) else (2, { c with fs := c.fs.modify i pinned, line := leave c.line t, loads := c.loads ++ [(t, b)] })
    | none => match takeI c t with
      | some k => (3, { c with fs := c.fs.set k ⟨1, b, 1, true, false, default, 0⟩, line := leave c.line t })
      | none => (4, { c with line := queue c.line t b })
  else (0, c)
def loadI (c : Ca V) (b : Int) : Option Nat := if okBl b = true then match findB c.fs b with | some i => if (fr c.fs i).st = 1 then some i else none | none => none else none
def fillC (c : Ca V) (b : Int) (n : V) : List Int × Bool × Ca V :=
  match loadI c b with
  | some i => ((c.loads.filter fun p => p.2 == b).map (·.1), true, { c with fs := c.fs.modify i fun f => { f with st := 2, node := n }, loads := c.loads.filter fun p => !(p.2 == b) })
  | none => ([], false, c)
/-- It may ask for a claim. -/
def unasked (c : Ca V) (t : Int) : Bool := !(stand c.loads t).isSome && (match stand c.line t with | some p => decide (p.2 < 0) | none => true)
def claimC (c : Ca V) (t : Int) : Bool × Ca V :=
  if (okT t && unasked c t) = true then
    match takeI c t with
    | some k => (true, { c with fs := c.fs.set k ⟨3, -1, 1, false, false, default, t⟩, line := leave c.line t })
    | none => (false, { c with line := queue c.line t (-1) })
  else (false, c)
def isC (t : Int) (f : Fra V) : Bool := f.st == 3 && f.own == t
def giveC (c : Ca V) (t : Int) : Nat × Ca V :=
  if okT t = true then (c.fs.countP (isC t), { c with fs := c.fs.map fun f => if isC t f = true then freeF else f }) else (0, c)
def nameC (c : Ca V) (t b : Int) (n : V) : Bool × Ca V :=
  if (okT t && okBl b && (findB c.fs b).isNone) = true then
    match c.fs.findIdx? (isC t) with
    | some k => (true, { c with fs := c.fs.set k ⟨2, b, 0, true, true, n, 0⟩ })
    | none => (false, c)
  else (false, c)
def readyI (c : Ca V) (b : Int) : Option Nat := if okBl b = true then match findB c.fs b with | some i => if (fr c.fs i).st = 2 then some i else none | none => none else none
def unpinC (c : Ca V) (b : Int) : Bool × Ca V :=
  match readyI c b with
  | some i => if (fr c.fs i).pins = 0 then (false, c) else (true, { c with fs := c.fs.modify i fun f => { f with pins := f.pins - 1 } })
  | none => (false, c)
def nodC (c : Ca V) (b : Int) : V × Bool := match readyI c b with | some i => ((fr c.fs i).node, true) | none => (default, false)
def setC (c : Ca V) (b : Int) (n : V) : Bool × Ca V :=
  match readyI c b with
  | some i => (true, { c with fs := c.fs.modify i fun f => { f with node := n, dirty := true } })
  | none => (false, c)
def canE (f : Fra V) : Bool := f.st == 2 && f.pins == 0
def canL (l : List (Fra V)) : List Bool := l.map canE
def refL (l : List (Fra V)) : List Bool := l.map (·.ref)
def reref (l : List (Fra V)) (m : List Bool) : List (Fra V) := l.zipWith (fun f b => { f with ref := b }) m
def sweepC (c : Ca V) : Int × Int × List Bool := swpL (canL c.fs) (refL c.fs) c.hand
def evictC (c : Ca V) : Option (Fra V) × Ca V :=
  if (sweepC c).1 < 0 then (none, c) else (some (fr c.fs (sweepC c).1.toNat), { c with fs := (reref c.fs (sweepC c).2.2).set (sweepC c).1.toNat freeF, hand := (sweepC c).2.1 })
def lineC (c : Ca V) : List Int := c.line.map (·.1)
def mayC (c : Ca V) (t : Int) : Bool :=
  okT t && !(stand c.loads t).isSome && (match stand c.line t with | none => true | some p => (ahead c.line t && (freeI c.fs).isSome) || (decide (0 ≤ p.2) && (findB c.fs p.2).isSome))
end
section
variable {V : Type}
/-! What lasts: a block has one frame. -/
structure GoodF (l : List (Fra V)) : Prop where
  held : ∀ (i : Nat) f, l[i]? = some f → 0 ≤ f.blk → f.st = 1 ∨ f.st = 2
  once : ∀ (i j : Nat) f g, l[i]? = some f → l[j]? = some g → i ≠ j → 0 ≤ f.blk → f.blk ≠ g.blk
/-- Frames that keep their blocks. -/
theorem GoodF.like {l m : List (Fra V)} (h : GoodF l) (k : ∀ (i : Nat) g, m[i]? = some g → 0 ≤ g.blk → ∃ f, l[i]? = some f ∧ f.blk = g.blk ∧ (f.st = 1 ∨ f.st = 2 → g.st = 1 ∨ g.st = 2)) (k2 : ∀ (i : Nat) g, m[i]? = some g → g.blk = -1 ∨ 0 ≤ g.blk ∨ g.blk < 0) : GoodF m := by
  refine ⟨fun i g hg h0 => ?_, fun i j f g hf hg hij h0 e => ?_⟩
  · obtain ⟨f, h1, h2, h3⟩ := k i g hg h0
    exact h3 (h.held i f h1 (by omega))
  · obtain ⟨f', h1, h2, _⟩ := k i f hf h0
    obtain ⟨g', h3, h4, _⟩ := k j g hg (by omega)
    exact h.once i j f' g' h1 h3 hij (by omega) (by omega)
theorem GoodF.modify {l : List (Fra V)} (h : GoodF l) (i : Nat) {q : Fra V → Fra V} (hb : ∀ f, (q f).blk = f.blk) (hs : ∀ f, (f.st = 1 ∨ f.st = 2) → ((q f).st = 1 ∨ (q f).st = 2)) : GoodF (l.modify i q) := by
  refine h.like (fun j g hg h0 => ?_) fun j g _ => by omega
  rw [List.getElem?_modify] at hg
  cases hl : l[j]? with
  | none => rw [hl] at hg; simp at hg
  | some f =>
    rw [hl] at hg
    simp at hg
    refine ⟨f, rfl, ?_, ?_⟩
    · rw [← hg]
      split
      · exact (hb f).symm
      · rfl
    · rw [← hg]
      split
      · exact hs f
      · exact id
theorem find_none {l : List (Fra V)} (h : GoodF l) {b : Int} (hb : 0 ≤ b) (hn : findB l b = none) (i : Nat) (f : Fra V) (hf : l[i]? = some f) : f.blk ≠ b := fun e => by
  have h1 := h.held i f hf (by omega)
  have h2 := List.findIdx?_eq_none_iff.1 hn f (List.mem_of_getElem? hf)
  unfold isB at h2
  simp [e] at h2
  omega
theorem GoodF.set {l : List (Fra V)} (h : GoodF l) (k : Nat) {n : Fra V} (hn : n.blk < 0 ∨ ((n.st = 1 ∨ n.st = 2) ∧ ∀ (i : Nat) f, l[i]? = some f → f.blk ≠ n.blk)) : GoodF (l.set k n) := by
  have hg : ∀ (i : Nat) f, (l.set k n)[i]? = some f → (i = k ∧ f = n) ∨ (i ≠ k ∧ l[i]? = some f) := fun i f hf => by
    rw [List.getElem?_set] at hf
    split at hf
    · next e =>
      split at hf
      · injection hf with hf; exact .inl ⟨e.symm, hf.symm⟩
      · cases hf
    · next e => exact .inr ⟨fun e2 => e e2.symm, hf⟩
  refine ⟨fun i f hf h0 => ?_, fun i j f g hf hg' hij h0 => ?_⟩
  · rcases hg i f hf with ⟨_, rfl⟩ | ⟨_, e⟩
    · rcases hn with hn | ⟨hn, _⟩
      · omega
      · exact hn
    · exact h.held i f e h0
  · rcases hg i f hf with ⟨e1, rfl⟩ | ⟨e1, e⟩ <;> rcases hg j g hg' with ⟨e2, rfl⟩ | ⟨e2, e'⟩
    · omega
    · rcases hn with hn | ⟨_, hn⟩
      · omega
      · exact fun q => hn j g e' q.symm
    · rcases hn with hn | ⟨_, hn⟩
      · omega
      · exact hn i f e
    · exact h.once i j f g e e' hij h0
theorem reref_get {l : List (Fra V)} {m : List Bool} {i : Nat} {g : Fra V} (h : (reref l m)[i]? = some g) : ∃ f, l[i]? = some f ∧ g.st = f.st ∧ g.blk = f.blk ∧ g.pins = f.pins ∧ g.dirty = f.dirty ∧ g.node = f.node ∧ g.own = f.own := by
  unfold reref at h
  rw [List.getElem?_zipWith] at h
  cases hl : l[i]? with
  | none => rw [hl] at h; simp at h
  | some f =>
    cases hm : m[i]? with
    | none => rw [hl, hm] at h; simp at h
    | some b =>
      rw [hl, hm] at h
      simp at h
      subst h
      exact ⟨f, rfl, rfl, rfl, rfl, rfl, rfl, rfl⟩
theorem good_name {c : Ca V} (h : GoodF c.fs) (t b : Int) (n : V) : GoodF (nameC c t b n).2.fs := by
  unfold nameC
  split
  · next hok =>
    have hb : 0 ≤ b := by simp [okBl] at hok; omega
    have hf : findB c.fs b = none := by simp at hok; exact hok.2
    cases c.fs.findIdx? (isC t) with
    | some k => exact h.set k (.inr ⟨.inr rfl, fun i f hl => find_none h hb hf i f hl⟩)
    | none => exact h
  · exact h
theorem sweep_left {c : Ca V} (h : ¬ (sweepC c).1 < 0) : (sweepC c).2.2.length = c.fs.length := by
  rcases swp_cases (canL c.fs) (refL c.fs) c.hand with h1 | ⟨k, h1, _⟩
  · exact (h (by show (sweepC c).1 < 0; have h1 : (sweepC c).1 = -1 := h1; omega)).elim
  · have := swp_left_len _ _ _ h1
    rw [show (refL c.fs).length = c.fs.length by simp [refL]] at this
    exact this
variable [Inhabited V]
theorem good_new (n : Nat) : GoodF (List.replicate n (freeF (V := V))) := by
  have h : ∀ (i : Nat) f, (List.replicate n (freeF (V := V)))[i]? = some f → f.blk = -1 := fun i f hf => by
    rw [List.getElem?_replicate] at hf
    split at hf
    · injection hf with hf; rw [← hf]; rfl
    · cases hf
  exact ⟨fun i f hf h0 => by rw [h i f hf] at h0; omega, fun i j f g hf hg _ h0 => by rw [h i f hf] at h0; omega⟩
theorem good_pin {c : Ca V} (h : GoodF c.fs) (t b : Int) : GoodF (pinC c t b).2.fs := by
  unfold pinC
  split
  · next hok =>
    have hb : 0 ≤ b := by simp [okBl] at hok; omega
    cases hf : findB c.fs b with
    | some i =>
      simp only
      split
      · exact h.modify i (fun _ => rfl) fun _ => id
      · exact h.modify i (fun _ => rfl) fun _ => id
    | none =>
      simp only
      cases takeI c t with
      | some k => exact h.set k (.inr ⟨.inl rfl, fun i f hl => find_none h hb hf i f hl⟩)
      | none => exact h
  · exact h
theorem good_fill {c : Ca V} (h : GoodF c.fs) (b : Int) (n : V) : GoodF (fillC c b n).2.2.fs := by
  unfold fillC
  cases loadI c b with
  | some i => exact h.modify i (fun _ => rfl) fun _ _ => .inr rfl
  | none => exact h
theorem good_claim {c : Ca V} (h : GoodF c.fs) (t : Int) : GoodF (claimC c t).2.fs := by
  unfold claimC
  split
  · cases takeI c t with
    | some k => exact h.set k (.inl (show (-1 : Int) < 0 by decide))
    | none => exact h
  · exact h
theorem good_unpin {c : Ca V} (h : GoodF c.fs) (b : Int) : GoodF (unpinC c b).2.fs := by
  unfold unpinC
  cases readyI c b with
  | some i =>
    simp only
    split
    · exact h
    · exact h.modify i (fun _ => rfl) fun _ => id
  | none => exact h
theorem good_set {c : Ca V} (h : GoodF c.fs) (b : Int) (n : V) : GoodF (setC c b n).2.fs := by
  unfold setC
  cases readyI c b with
  | some i => exact h.modify i (fun _ => rfl) fun _ => id
  | none => exact h
theorem good_evict {c : Ca V} (h : GoodF c.fs) : GoodF (evictC c).2.fs := by
  unfold evictC
  split
  · exact h
  · refine GoodF.set (h.like (fun i g hg h0 => ?_) fun i g _ => by omega) _ (.inl (show (-1 : Int) < 0 by decide))
    obtain ⟨f, h1, h2, h3, _⟩ := reref_get hg
    exact ⟨f, h1, h3.symm, by rw [h2]; exact id⟩
theorem len_evict (c : Ca V) : (evictC c).2.fs.length = c.fs.length := by
  unfold evictC
  split
  · rfl
  · next h =>
    have := sweep_left h
    simp [reref, this]
end
end Go.Proofs.YtmoaddbpfekdbaaGreat
