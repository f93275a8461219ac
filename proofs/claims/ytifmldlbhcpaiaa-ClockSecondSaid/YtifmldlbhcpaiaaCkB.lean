/- Package clock: the visits: a function to range over. -/
import Derived.Test.YtifmldlbhcpaiaaCkA
namespace Go.Proofs.Ytifmldlbhcpaiaa
set_option linter.unusedVariables false
set_option linter.unusedSimpArgs false
set_option maxRecDepth 100000
open Go.RowKit
attribute [local go_sem] Oper.semAt_some
/-- The boxes of a visit: the hand, and how many. -/
structure VB (W : World) (b1 b2 : Nat) (z : Int) (n : Nat) : Prop where
  hand : Arr W b1 3 #[.int .i64 z]
  many : Arr W b2 3 #[.int .i64 n]
theorem VB.kp {W W' : World} {b1 b2 : Nat} {z : Int} {n : Nat} (h : VB W b1 b2 z n) (k : Kp2 b1 b2 W W') : VB W' b1 b2 z n := ⟨k.1.trans h.hand, k.2.trans h.many⟩
set_option maxHeartbeats 2000000 in
theorem visits_at {w : World} {z : Int} {n : Nat} :
    Calls Try.prog 19 #[.int .i64 n, .int .i64 z] w fun e w' => ∃ b1 b2, e = .returned (.func (.func 22) #[] #[.pointer (some ⟨b1, 0, none⟩), .pointer (some ⟨b2, 0, none⟩)]) ∧ Hid (VB w' b1 b2 z n ∧ w.heap.size ≤ b1 ∧ w.heap.size ≤ b2 ∧ Fr w w') := by
  go_enter Try.func19, Try.ntmps19
  go_wp2_with fail
  go_ret
  refine ⟨_, _, rfl, keep ⟨⟨?_, ?_⟩, by simp, by simp, fr_new (fr_new (fr_refl w) _) _⟩⟩
  · have := Arr.new (w.alloc (.cells #[.int .i64 n] 3)) #[.int .i64 z] 3
    simpa using this
  · exact (Arr.new w #[.int .i64 n] 3).alloc _
set_option maxHeartbeats 4000000 in
theorem visits1_in {N l b1 b2 n : Nat} {z : Int} (hN : 1 ≤ N) (hn : 0 < n) (hs : n ≤ 100000) (xs : List (Fin n)) (hx : xs.map Fin.val = vis (hd z n) n (2 * n)) (J Jx : List (Fin n) → World → Prop)
    (hY : ∀ pre x W, J pre W → pre.length < xs.length → YieldAt Fence.wide (N - 1) Try.prog l #[.int .i64 ((x : Fin n).val : Int)] W fun e W' =>
      (e = .returned (.bool true) ∧ J (pre ++ [x]) W' ∧ Kp2 b1 b2 W W') ∨ (e = .returned (.bool false) ∧ Jx (pre ++ [x]) W'))
    (W : World) (hb : VB W b1 b2 z n) (h0 : J [] W) :
    CallsIn Fence.wide N Try.prog 22 #[.func (.yield l) #[] #[], .pointer (some ⟨b1, 0, none⟩), .pointer (some ⟨b2, 0, none⟩)] W fun e W' => (∃ v, e = .returned v) ∧
      ((∃ ys, ys = xs ∧ J ys W') ∨ (∃ pre, pre <+: xs ∧ Jx pre W')) := by
  have hlen : xs.length = 2 * n := by rw [← List.length_map (f := Fin.val), hx, vis_len]
  have hat : ∀ j (x : Fin n), xs[j]? = some x → x.val = (hd z n + j) % n := fun j x hj => by
    have h1 : (xs.map Fin.val)[j]? = some x.val := by rw [List.getElem?_map, hj]; rfl
    rw [hx] at h1
    simp only [vis, List.getElem?_map] at h1
    obtain ⟨hj2, _⟩ := List.getElem?_eq_some_iff.1 hj
    rw [List.getElem?_range (by omega)] at h1
    simp at h1
    exact h1.symm
  have hh := hd_lt z hn
  have c1 := hb.hand.cell 0
  have c2 := hb.many.cell 0
  simp at c1 c2
  have HB := keep hb
  have HJ := keep h0
  have HX := keep hx
  have HA := keep hat
  have HL := keep hlen
  have HY := keep hY
  have hred := reduce_at (w := W) (z := z) hn hs
  obtain ⟨h, Hh⟩ : ∃ h, Hid (h = hd z n) := ⟨_, keep rfl⟩
  rw [← Hh.out] at hred hh
  clear hb h0 hx hat hlen hY
  have wm : IntKind.i64.wrap (2 * (n : Int)) = 2 * (n : Int) := by rw [IntKind.wrap_i64]; omega
  refine callsIn_of_wp Try.func22 rfl trivial ?_ rfl
  simp only [Try.ntmps22, List.size_toArray, List.length_cons, List.length_nil, Nat.reduceAdd, Nat.reduceSub, Array.replicate_succ, Array.replicate_zero, List.push_toArray, List.append_toArray, List.nil_append, List.cons_append]
  gi_wp2_with (first | (refine ⟨trivial, ?_⟩; gi_at_call 21; refine (callsIn_wide.2 hred).mono ?_; rintro e w' ⟨rfl, rfl⟩) | fail)
  gi_loopw [11] (fun s11 wr => ∃ j : Nat, j ≤ 2 * n ∧ s11 = .int .i64 j ∧ Hid (VB wr b1 b2 z n) ∧ Hid (J (xs.take j) wr)) (fun s11 _ => 2 * n - (intOf s11).toNat)
  case atStart => exact ⟨0, by omega, rfl, HB, HJ⟩
  case round =>
    obtain ⟨j, hj, rfl, HB1, HJ1⟩ := hrel
    by_cases hlt : j < 2 * n
    · have hm : xs[j]? = some (xs[j]'(by rw [HL.out]; exact hlt)) := List.getElem?_eq_getElem _
      generalize xs[j]'(by rw [HL.out]; exact hlt) = x at hm
      have hv := HA.out j x hm
      rw [← Hh.out] at hv
      have htk : xs.take j ++ [x] = xs.take (j + 1) := by rw [List.take_add_one, hm]; rfl
      obtain ⟨fn, tmps, assign, body, hy, hR⟩ := HY.out (xs.take j) x wr HJ1.out (by rw [List.length_take, HL.out]; omega)
      have hxl := x.isLt
      rw [htk] at hR
      obtain ⟨xv, hxv⟩ : ∃ q : Nat, q = x.val := ⟨_, rfl⟩
      rw [← hxv] at hy hv hxl
      have hlz : (j : Int) < 2 * (n : Int) := by omega
      have wa : IntKind.i64.wrap ((h : Int) + (j : Int)) = (h : Int) + (j : Int) := by rw [IntKind.wrap_i64]; omega
      have wt : ((h : Int) + (j : Int)) % (n : Int) = (xv : Int) := by rw [hv, ← Int.natCast_add, ← Int.natCast_emod]
      have wx : IntKind.i64.wrap (xv : Int) = (xv : Int) := by rw [IntKind.wrap_i64]; omega
      have wj : IntKind.i64.wrap ((j : Int) + 1) = (j : Int) + 1 := by rw [IntKind.wrap_i64]; omega
      have hz : ¬ ((n : Int) = 0) := by omega
      have hz2 : ¬ (n = 0) := by omega
      have c2 := HB1.out.many.cell 0
      simp at c2
      clear hv hxv hlt htk
      gi_wp2_with fail
      refine hR.mono ?_
      rintro e W3 (⟨rfl, hJ3, hk3⟩ | ⟨rfl, hJx3⟩)
      · have HJ3 := keep hJ3
        have HB3 := keep (HB1.out.kp hk3)
        clear hJ3 hR hy HY hk3
        gi_wp2_with fail
        go_roundw
        case rel => exact ⟨j + 1, by omega, by simp, HB3, HJ3⟩
        case measure => simp [intOf]; omega
      · gi_wp2_with fail
        refine bodyPost_ret (results_none rfl _ _ _) rfl ?_
        exact ⟨⟨_, rfl⟩, .inr ⟨xs.take (j + 1), List.take_prefix _ _, hJx3⟩⟩
    · obtain rfl : j = 2 * n := by omega
      have hlz : ¬ ((2 : Int) * (n : Int) < 2 * (n : Int)) := by omega
      have e2 : xs.take (2 * n) = xs := List.take_of_length_le (by rw [HL.out]; exact Nat.le_refl _)
      rw [e2] at HJ1
      gi_wp2_with fail
      go_end0
      exact ⟨⟨_, rfl⟩, .inl HJ1.out⟩
theorem vis_stops {N b1 b2 n : Nat} {z : Int} (hN : 1 ≤ N) (hn : 0 < n) (hs : n ≤ 100000) (xs : List (Fin n)) (hx : xs.map Fin.val = vis (hd z n) n (2 * n)) (w : World) (hb : VB w b1 b2 z n) (h1 : b1 < w.heap.size) (h2 : b2 < w.heap.size) :
    SeqStopsK Fence.wide N Try.prog 22 #[.pointer (some ⟨b1, 0, none⟩), .pointer (some ⟨b2, 0, none⟩)] (fun x : Fin n => #[Value.int .i64 (x.val : Int)]) (Kp2 b1 b2) (fun ys => ys = xs) (fun pre => pre <+: xs) xs.length w :=
  fun l J Jx W hW _ _ hY h0 => visits1_in hN hn hs xs hx J Jx hY W ⟨hb.hand.below hW h1, hb.many.below hW h2⟩ h0
end Go.Proofs.Ytifmldlbhcpaiaa
