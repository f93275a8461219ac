/- The laws of package clock: pad, bares. -/
import Derived.Test.YtifmldlbhcpaiaaCkW
namespace Go.Proofs.Ytifmldlbhcpaiaa
set_option linter.unusedVariables false
set_option linter.unusedSimpArgs false
set_option maxRecDepth 100000
open Go.RowKit
def padL (r : List Bool) (n : Nat) : List Bool := (List.range n).map (gd r)
theorem padL_len (r : List Bool) (n : Nat) : (padL r n).length = n := by simp [padL]
theorem gd_padL (r : List Bool) {n i : Nat} (h : i < n) : gd (padL r n) i = gd r i := gd_of (by simp [padL, h])
theorem gd_put {l : List Bool} {k i : Nat} (b : Bool) (hk : k < l.length) : gd (l.set k b) i = if i = k then b else gd l i := by
  by_cases hi : i < l.length
  · refine gd_of ?_
    rw [List.getElem?_set]
    by_cases e : k = i
    · subst e; simp [hk]
    · rw [if_neg e, if_neg (fun h => e h.symm), gd_get hi]
  · rw [gd_out (by simpa using hi), gd_out (by omega), if_neg (by omega)]
theorem gd_rep (n i : Nat) : gd (List.replicate n false) i = false := by
  by_cases h : i < n
  · exact gd_of (by simp [h])
  · exact gd_out (by simp; omega)
theorem make_bools {n : Nat} (hn : n ≤ 100000) (W : World) : (Instr.makeSlice 22 (.int .i64 (n : Int)) (.int .i64 (n : Int))).run Try.prog W = .ok (.slice (some ⟨W.heap.size, 0, none⟩) n n) (W.alloc (.cells (List.replicate n (.bool false)).toArray 4)) :=
  make_one bools_under (z := .bool false) (b := 1) (by kernel_rfl) (by kernel_rfl) (by kernel_rfl) rfl n ⟨by omega, by omega⟩ W
theorem rw_made {n : Nat} (hn : n ≤ 100000) (W : World) : Rw (W.alloc (.cells (List.replicate n (.bool false)).toArray 4)) 4 1 (some ⟨W.heap.size, 0, none⟩) n n (rows bc (List.replicate n false)) := by
  have e : rows bc (List.replicate n false) = List.replicate n (.bool false) := by rw [bls_rows]; simp [bls]
  rw [e]
  refine ⟨by simp, .inr ⟨W.heap.size, [], [], rfl, ?_, Nat.le_refl _, by simp only [maxLen]; omega, by simp⟩⟩
  simp only [List.nil_append, List.append_nil]
  exact Arr.new W _ _
theorem res_made {n : Nat} (hn : n ≤ 100000) (W : World) : ResB W (W.alloc (.cells (List.replicate n (.bool false)).toArray 4)) (some ⟨W.heap.size, 0, none⟩) n n (List.replicate n false) :=
  ⟨rw_made hn W, by simp, fun k hk => Nat.le_of_eq (Option.some.inj hk)⟩
set_option maxHeartbeats 4000000 in
theorem pad_at {w : World} {A : Option Addr} {m c n : Nat} {r : List Bool} (hr : Has w w.heap.size A (rows bc r)) (hrn : r.length = m) (hs : n ≤ 100000) :
    Calls Try.prog 15 #[.slice A m c, .int .i64 n] w fun e w' => ∃ L lc, e = .returned (.slice L n lc) ∧ Hid (ResB w w' L n lc (padL r n) ∧ Fr w w') := by
  have hmk := make_bools hs w
  have HI1 : Hid (∃ l, ResB w (w.alloc (.cells (List.replicate n (.bool false)).toArray 4)) (some ⟨w.heap.size, 0, none⟩) n n l ∧ Fr w (w.alloc (.cells (List.replicate n (.bool false)).toArray 4)) ∧ ∀ i, gd l i = if i < 0 then gd r i else false) :=
    keep ⟨_, res_made hs w, fr_new (fr_refl w) _, fun i => by rw [gd_rep, if_neg (by omega)]⟩
  have HR := keep hr
  have Hrn := keep hrn
  clear hr hrn
  go_enter Try.func15, Try.ntmps15
  go_wp2_with fail
  go_loopg [6] n (fun gg s6 wr => ∃ j : Nat, j + gg = n ∧ s6 = .int .i64 j ∧ Hid (j ≤ m ∨ j = 0) ∧ Hid (∃ l, ResB w wr (some ⟨w.heap.size, 0, none⟩) n n l ∧ Fr w wr ∧ ∀ i, gd l i = if i < j then gd r i else false))
  case atStart => exact ⟨0, by omega, rfl, keep (.inr rfl), HI1⟩
  case round =>
    obtain ⟨j, hj, rfl, Hjm, HI⟩ := hrel
    obtain ⟨l, hB, hF, hg⟩ := HI.out
    have HB := keep hB
    have HF := keep hF
    have HG := keep hg
    clear hB hF hg HI HI1
    by_cases h1 : j < n ∧ j < m
    · obtain ⟨h1, h2⟩ := h1
      have hrk := gd_get (l := r) (k := j) (by rw [Hrn.out]; exact h2)
      obtain ⟨b, off, rfl, hb1, hr⟩ := has_rows HR.out (bc_wid r) (by decide) (by intro e; rw [e] at hrk; simp at hrk)
      have cX := elem_cell0 hr (bc_wid r) (by omega) hrk (u := .bool (gd r j)) rfl
      rw [Nat.mul_one] at cX
      have hwF := HF.out
      have hjn : (j : Int) < (n : Int) := by omega
      have hjm : (j : Int) < (m : Int) := by omega
      have wj : IntKind.i64.wrap ((j : Int) + 1) = (j : Int) + 1 := by rw [IntKind.wrap_i64]; omega
      have Hh1 := keep h1
      have Hh2 := keep h2
      clear hr hrk h1 h2
      go_wp2_with (first
        | (refine wpList_store_rw (cf := bc) (x := gd r j) (j := j) bool_info rfl (.tmp 26) (.tmp 25) rfl (by rw [Nat.mul_one, Nat.zero_add]; rfl) rfl rfl (bc_one _) HB.out.row (bc_wid _) HB.out.len Hh1.out ?_; intro w4 h4 k4; have H4 := keep (show Rw w4 _ _ _ _ _ _ ∧ Chg _ wr w4 from ⟨h4, k4⟩); clear h4 k4)
        | fail)
      go_roundg (gk - 1)
      case measure => omega
      case rel =>
        have hln := HB.out.len
        refine ⟨j + 1, by omega, rfl, keep (.inl (by have := Hh2.out; omega)), keep ⟨_, ⟨H4.out.1, by rw [List.length_set]; exact hln, HB.out.new⟩, HF.out.step_chg H4.out.2 fun i e => by omega, fun i => ?_⟩⟩
        rw [gd_put _ (by rw [hln]; exact Hh1.out), HG.out]
        by_cases e : i = j
        · subst e; simp
        · rw [if_neg e]
          by_cases e2 : i < j
          · rw [if_pos e2, if_pos (by omega)]
          · rw [if_neg e2, if_neg (by omega)]
    · have hfin : l = padL r n := gd_ext (by rw [HB.out.len, padL_len]) fun i hi => by
        rw [HB.out.len] at hi
        rw [HG.out, gd_padL r hi]
        split
        · rfl
        · have hj2 := Hjm.out
          rw [gd_out (by rw [Hrn.out]; omega)]
      have Hfin := keep hfin
      clear hfin
      by_cases h2 : j < n
      · have h3 : ¬ ((j : Int) < (m : Int)) := by omega
        have h4 : (j : Int) < (n : Int) := by omega
        clear h1 h2
        go_wp2_with fail
        go_ret
        exact ⟨_, n, rfl, keep ⟨by rw [← Hfin.out]; exact HB.out, HF.out⟩⟩
      · have h4 : ¬ ((j : Int) < (n : Int)) := by omega
        clear h1 h2
        go_wp2_with fail
        go_ret
        exact ⟨_, n, rfl, keep ⟨by rw [← Hfin.out]; exact HB.out, HF.out⟩⟩
/-- How many can go and have no mark. -/
def bareN (c l : List Bool) : Nat → Nat
  | 0 => 0
  | j + 1 => bareN c l j + (if gd c j && !gd l j then 1 else 0)
theorem bareN_le (c l : List Bool) (j : Nat) : bareN c l j ≤ j := by
  induction j with
  | zero => exact Nat.le_refl _
  | succ j ih =>
    unfold bareN
    split <;> omega
theorem bareN_zero {c l : List Bool} {j : Nat} (h : ∀ i, i < j → gd c i = true → gd l i = true) : bareN c l j = 0 := by
  induction j with
  | zero => rfl
  | succ j ih =>
    unfold bareN
    rw [ih fun i hi => h i (by omega)]
    cases hc : gd c j with
    | false => simp
    | true => rw [h j (by omega) hc]; simp
set_option maxHeartbeats 4000000 in
theorem bares_at {w : World} {C R : Option Addr} {n cc m rc : Nat} {c r : List Bool} (hc : Has w w.heap.size C (rows bc c)) (hcn : c.length = n) (hr : Has w w.heap.size R (rows bc r)) (hrn : r.length = m) (hnm : n ≤ m) (hs : n ≤ 100000) :
    Calls Try.prog 16 #[.slice C n cc, .slice R m rc] w fun e w' => e = .returned (.int .i64 (bareN c r n)) ∧ Fr w w' := by
  have HR := keep hr
  have Hrn := keep hrn
  have HC := keep hc
  have Hcn := keep hcn
  have hww := fr_refl w
  clear hr hrn hc hcn
  go_enter Try.func16, Try.ntmps16
  go_wp2_with fail
  go_loopg [5, 6] n (fun gg s5 s6 wr => ∃ j k : Nat, j + gg = n ∧ s5 = .int .i64 k ∧ s6 = .int .i64 j ∧ Hid (k = bareN c r j) ∧ Hid (Fr w wr))
  case atStart => exact ⟨0, 0, by omega, rfl, rfl, keep rfl, keep hww⟩
  case round =>
    obtain ⟨j, k, hj, rfl, rfl, Hk, HF⟩ := hrel
    have hwF := HF.out
    by_cases hlt : j < n
    · have hrk := gd_get (l := r) (k := j) (by rw [Hrn.out]; omega)
      obtain ⟨b, off, rfl, hb1, hr⟩ := has_rows HR.out (bc_wid r) (by decide) (by intro e; rw [e] at hrk; simp at hrk)
      have rX := elem_cell0 hr (bc_wid r) (by omega) hrk (u := .bool (gd r j)) rfl
      rw [Nat.mul_one] at rX
      have hck := gd_get (l := c) (k := j) (by rw [Hcn.out]; exact hlt)
      obtain ⟨b2, off2, rfl, hb2, hr2⟩ := has_rows HC.out (bc_wid c) (by decide) (by intro e; rw [e] at hck; simp at hck)
      have cX := elem_cell0 hr2 (bc_wid c) (by omega) hck (u := .bool (gd c j)) rfl
      rw [Nat.mul_one] at cX
      have hjn : (j : Int) < (n : Int) := by omega
      have hjm : (j : Int) < (m : Int) := by omega
      have wj : IntKind.i64.wrap ((j : Int) + 1) = (j : Int) + 1 := by rw [IntKind.wrap_i64]; omega
      have hkl := bareN_le c r j
      rw [← Hk.out] at hkl
      have wk : IntKind.i64.wrap ((k : Int) + 1) = (k : Int) + 1 := by rw [IntKind.wrap_i64]; omega
      clear hr hr2 hrk hck hlt
      cases hq : gd c j with
      | false =>
        rw [hq] at cX
        have Hq := keep hq
        clear hq
        go_wp2_with fail
        go_roundg (gk - 1)
        case measure => omega
        case rel => exact ⟨j + 1, k, by omega, rfl, rfl, keep (by rw [bareN, Hq.out, Hk.out]; rfl), HF⟩
      | true =>
        rw [hq] at cX
        have Hq := keep hq
        clear hq
        cases hp : gd r j with
        | false =>
          rw [hp] at rX
          have Hp := keep hp
          clear hp
          go_wp2_with fail
          go_roundg (gk - 1)
          case measure => omega
          case rel => exact ⟨j + 1, k + 1, by omega, rfl, rfl, keep (by rw [bareN, Hq.out, Hp.out, Hk.out]; rfl), HF⟩
        | true =>
          rw [hp] at rX
          have Hp := keep hp
          clear hp
          go_wp2_with fail
          go_roundg (gk - 1)
          case measure => omega
          case rel => exact ⟨j + 1, k, by omega, rfl, rfl, keep (by rw [bareN, Hq.out, Hp.out, Hk.out]; rfl), HF⟩
    · obtain rfl : j = n := by omega
      go_wp2_with fail
      go_ret
      rw [Hk.out]
      exact ⟨rfl, HF.out⟩
end Go.Proofs.Ytifmldlbhcpaiaa
