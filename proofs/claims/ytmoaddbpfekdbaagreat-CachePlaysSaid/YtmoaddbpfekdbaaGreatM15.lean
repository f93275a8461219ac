/- Package clock: proper, reduce, choose; 'slices.Clone'. -/
import Derived.Test.YtmoaddbpfekdbaaGreatM14
namespace Go.Proofs.YtmoaddbpfekdbaaGreat
set_option linter.unusedVariables false
set_option linter.unusedSimpArgs false
set_option maxRecDepth 100000
open Go.RowKit
theorem s_nil (A : Option Addr) (n c : Nat) (w : World) : (binOp .eql 106 (.slice A n c) (.slice none 0 0)).run Tryz.prog w = .ok (.bool A.isNone) w := run_eql_slice_nil w _ _ A n c bools_under
set_option maxHeartbeats 2000000 in
theorem reduce_at {w : World} {z : Int} {n : Nat} (hn : 0 < n) (hs : n ≤ 100000) :
    Calls Tryz.prog 99 #[.int .i64 z, .int .i64 n] w fun e w' => e = .returned (.int .i64 (hd z n)) ∧ w' = w := by
  have h1 := hd_lt z hn
  have h2 := red_hd z hn
  have h3 := tmod_hd z hn
  have hz : ¬ ((n : Int) = 0) := by omega
  have hz2 : ¬ (n = 0) := by omega
  have w1 : IntKind.i64.wrap (z.tmod n) = z.tmod n := by rw [IntKind.wrap_i64]; omega
  have w2 : IntKind.i64.wrap (z.tmod n + n) = z.tmod n + n := by rw [IntKind.wrap_i64]; omega
  have w3 : IntKind.i64.wrap (hd z n : Int) = (hd z n : Int) := by rw [IntKind.wrap_i64]; omega
  go_enter Tryz.func99, Tryz.ntmps99
  go_wp2_with fail
  go_ret
  simp [*]
set_option maxHeartbeats 2000000 in
theorem proper_at {w : World} {A B : Option Addr} {n m c d : Nat} :
    Calls Tryz.prog 95 #[.slice A n c, .slice B m d] w fun e w' => e = .returned (.bool (decide (n = m ∧ 0 < n))) ∧ w' = w := by
  by_cases h : n = m
  · subst h
    by_cases h0 : 0 < n
    · have e0 : ((0 : Int) < (n : Int)) := by omega
      go_enter Tryz.func95, Tryz.ntmps95
      go_wp2_with fail
      go_ret
      simp [*]
    · obtain rfl : n = 0 := by omega
      go_enter Tryz.func95, Tryz.ntmps95
      go_wp2_with fail
      go_ret
      simp [*]
  · have e0 : ¬ ((n : Int) = (m : Int)) := by omega
    go_enter Tryz.func95, Tryz.ntmps95
    go_wp2_with fail
    go_ret
    simp [*]
set_option maxHeartbeats 4000000 in
theorem choose_at {w : World} {C L : Option Addr} {n cc lc k B : Nat} {c l : List Bool} (hc : Has w B C (rows bc c)) (hcn : c.length = n) (hl : Rw w 4 1 L n lc (rows bc l)) (hln : l.length = n) (hk : k < n) (hs : n ≤ 100000) (hB : B ≤ w.heap.size) :
    Calls Tryz.prog 98 #[.slice C n cc, .slice L n lc, .int .i64 k] w fun e w' => e = .returned (.bool (hit c l k)) ∧ Hid (Rw w' 4 1 L n lc (rows bc (wash c l k)) ∧ Chg (At L) w w') := by
  have hck := gd_get (l := c) (k := k) (by omega)
  have hlk := gd_get (l := l) (k := k) (by omega)
  obtain ⟨b, off, rfl, hb1, hr⟩ := has_rows hc (bc_wid c) (by decide) (by intro e; rw [e] at hck; simp at hck)
  have cX := elem_cell0 hr (bc_wid c) (by omega) hck (u := .bool (gd c k)) rfl
  rw [Nat.mul_one] at cX
  obtain ⟨g, o, rfl⟩ := hl.addr (by omega)
  obtain ⟨b2, off2, e2, hb2, hr2⟩ := has_rows hl.has (bc_wid l) (by decide) (by intro e; rw [e] at hlk; simp at hlk)
  have lX := elem_cell0 hr2 (bc_wid l) (by omega) hlk (u := .bool (gd l k)) rfl
  injection e2 with e2
  injection e2 with e2 e3
  subst e2 e3
  rw [Nat.mul_one] at lX
  have hkz : (k : Int) < (n : Int) := by omega
  have hww := fr_refl w
  have HL := keep hl
  have Hln := keep hln
  clear hc hl hr hr2 hck hlk
  cases hq : gd c k with
  | false =>
    rw [hq] at cX
    have e1 : hit c l k = false := by unfold hit; rw [hq]; rfl
    have e2 : wash c l k = l := by unfold wash; rw [hq]; rfl
    rw [e1, e2]
    go_enter Tryz.func98, Tryz.ntmps98
    go_wp2_with fail
    go_ret
    exact ⟨rfl, keep ⟨HL.out, .refl _ _⟩⟩
  | true =>
    rw [hq] at cX
    have e1 : hit c l k = !gd l k := by unfold hit; rw [hq]; rfl
    have e2 : wash c l k = l.set k false := by unfold wash; rw [hq]; rfl
    rw [e1, e2]
    go_enter Tryz.func98, Tryz.ntmps98
    go_wp2_with (first
      | (refine wpList_store_rw (cf := bc) (x := false) (j := k) bool_info rfl (.tmp 19) (.const (.bool false)) rfl (by rw [Nat.mul_one]; rfl) rfl rfl (bc_one _) HL.out (bc_wid _) Hln.out (by omega) ?_; intro W1 h1 h2)
      | fail)
    go_ret
    exact ⟨rfl, keep ⟨h1, h2.weak fun i _ e => by subst e; rfl⟩⟩
set_option maxHeartbeats 4000000 in
theorem clone_at {w : World} {A : Option Addr} {n c B : Nat} {l : List Bool} (hl : Has w B A (rows bc l)) (hB : B ≤ w.heap.size) (hn : l.length = n) (hsm : n ≤ 1000000) :
    Calls Tryz.prog 96 #[.slice A n c] w fun e w' => ∃ A' c', e = .returned (.slice A' n c') ∧ Hid (Rw w' 4 1 A' n c' (rows bc l) ∧ (∀ k, At A' k → w.heap.size ≤ k) ∧ Fr w w') := by
  have hlen := rows_len (bc_wid l)
  cases A with
  | none =>
    have hl0 : l = [] := rows_eq_nil (bc_wid l) (by decide) hl.none_nil
    subst hl0
    simp at hn
    subst hn
    have hq := s_nil none 0 c
    simp only [Option.isNone_none] at hq
    clear hl hlen
    go_enter Tryz.func96, Tryz.ntmps96
    go_wp2_with fail
    go_ret
    exact ⟨none, 0, rfl, keep ⟨Rw.nil _ _ _, fun k hk => (by cases hk), fr_refl w⟩⟩
  | some a =>
    subst hn
    have ho : Own (w.alloc (.cells #[] 4)) w.heap.size 4 1 (some ⟨w.heap.size, 0, none⟩) 0 0 (rows bc []) := Own.lit w w.heap.size 4 #[] 0 1 (Nat.le_refl _) (Nat.zero_le _) rfl
    have hl2 := hl.below ((fr_new (fr_refl w) (.cells #[] 4)).mono hB)
    have hq := s_nil (some a) l.length c
    simp only [Option.isNone_some] at hq
    have h1 := rows_one bc_one l
    have H1 := keep h1
    have HO := keep ho
    have H2 := keep hl2
    have HL := keep hlen
    clear hl h1 ho hl2 hlen
    go_enter Tryz.func96, Tryz.ntmps96
    go_wp2_with (first
      | (refine wpList_append_vals (w0 := w) bool_elem bools_under (by decide) rfl (.tmp 5) (.tmp 6) rfl (fr_new (fr_refl w) _) (some ⟨w.heap.size, 0, none⟩) 0 0 (rows bc []) rfl HO.out B (some a) l.length c (rows bc l) rfl HL.out H2.out H1.out (by simp only [maxLen]; omega) (by omega) ?_; intro A' c' w' h1 h2)
      | fail)
    go_ret
    rw [Nat.zero_add] at h1
    exact ⟨A', c', rfl, keep ⟨h1.rw', fun k hk => (h1.lt k hk).1, h2⟩⟩
end Go.Proofs.YtmoaddbpfekdbaaGreat
/- Package clock: the visits: a function to range over. -/
namespace Go.Proofs.YtmoaddbpfekdbaaGreat
set_option linter.unusedVariables false
set_option linter.unusedSimpArgs false
set_option maxRecDepth 100000
open Go.RowKit
attribute [local go_sem] Oper.semAt_some
/-- The boxes of a visit: the hand, and how many. -/
structure VB (W : World) (b1 b2 : Nat) (z : Int) (n : Nat) : Prop where
  hand : Arr W b1 3 #[.int .i64 z]
  many : Arr W b2 3 #[.int .i64 n]
theorem VB.kp {W W' : World} {b1 b2 : Nat} {z : Int} {n : Nat} (h : VB W b1 b2 z n) (k : Kp2 b1 b2 W W') : VB W' b1 b2 z n := ⟨k.1.trans h.hand, k.2.trans h.many⟩
set_option maxHeartbeats 2000000 in
theorem visits_at {w : World} {z : Int} {n : Nat} :
    Calls Tryz.prog 97 #[.int .i64 n, .int .i64 z] w fun e w' => ∃ b1 b2, e = .returned (.func (.func 102) #[] #[.pointer (some ⟨b1, 0, none⟩), .pointer (some ⟨b2, 0, none⟩)]) ∧ Hid (VB w' b1 b2 z n ∧ w.heap.size ≤ b1 ∧ w.heap.size ≤ b2 ∧ Fr w w') := by
  go_enter Tryz.func97, Tryz.ntmps97
  go_wp2_with fail
  go_ret
  refine ⟨_, _, rfl, keep ⟨⟨?_, ?_⟩, by simp, by simp, fr_new (fr_new (fr_refl w) _) _⟩⟩
  · have := Arr.new (w.alloc (.cells #[.int .i64 n] 3)) #[.int .i64 z] 3
    simpa using this
  · exact (Arr.new w #[.int .i64 n] 3).alloc _
set_option maxHeartbeats 4000000 in
theorem visits1_in {N l b1 b2 n : Nat} {z : Int} (hN : 1 ≤ N) (hn : 0 < n) (hs : n ≤ 100000) (xs : List (Fin n)) (hx : xs.map Fin.val = vis (hd z n) n (2 * n)) (J Jx : List (Fin n) → World → Prop)
    (hY : ∀ pre x W, J pre W → pre.length < xs.length → YieldAt Fence.wide (N - 1) Tryz.prog l #[.int .i64 ((x : Fin n).val : Int)] W fun e W' =>
      (e = .returned (.bool true) ∧ J (pre ++ [x]) W' ∧ Kp2 b1 b2 W W') ∨ (e = .returned (.bool false) ∧ Jx (pre ++ [x]) W'))
    (W : World) (hb : VB W b1 b2 z n) (h0 : J [] W) :
    CallsIn Fence.wide N Tryz.prog 102 #[.func (.yield l) #[] #[], .pointer (some ⟨b1, 0, none⟩), .pointer (some ⟨b2, 0, none⟩)] W fun e W' => (∃ v, e = .returned v) ∧
      ((∃ ys, ys = xs ∧ J ys W') ∨ (∃ pre, pre <+: xs ∧ Jx pre W')) := by
  have hlen : xs.length = 2 * n := by rw [← List.length_map (f := Fin.val), hx, vis_len]
  have hat : ∀ j (x : Fin n), xs[j]? = some x → x.val = (hd z n + j) % n := fun j x hj => by
    have h1 : (xs.map Fin.val)[j]? = some x.val := by rw [List.getElem?_map, hj]; rfl
    rw [hx] at h1
    simp only [vis, List.getElem?_map] at h1
    obtain ⟨hj2, _⟩ := List.getElem?_eq_some_iff.1 hj
    rw [List.getElem?_range (by omega)] at h1
    simp at h1
    exact h1.symm
  have hh := hd_lt z hn
  have c1 := hb.hand.cell 0
  have c2 := hb.many.cell 0
  simp at c1 c2
  have HB := keep hb
  have HJ := keep h0
  have HX := keep hx
  have HA := keep hat
  have HL := keep hlen
  have HY := keep hY
  have hred := reduce_at (w := W) (z := z) hn hs
  obtain ⟨h, Hh⟩ : ∃ h, Hid (h = hd z n) := ⟨_, keep rfl⟩
  rw [← Hh.out] at hred hh
  clear hb h0 hx hat hlen hY
  have wm : IntKind.i64.wrap (2 * (n : Int)) = 2 * (n : Int) := by rw [IntKind.wrap_i64]; omega
  refine callsIn_of_wp Tryz.func102 rfl trivial ?_ rfl
  simp only [Tryz.ntmps102, List.size_toArray, List.length_cons, List.length_nil, Nat.reduceAdd, Nat.reduceSub, Array.replicate_succ, Array.replicate_zero, List.push_toArray, List.append_toArray, List.nil_append, List.cons_append]
  gi_wp2_with (first | (refine ⟨trivial, ?_⟩; gi_at_call 99; refine (callsIn_wide.2 hred).mono ?_; rintro e w' ⟨rfl, rfl⟩) | fail)
  gi_loopw [11] (fun s11 wr => ∃ j : Nat, j ≤ 2 * n ∧ s11 = .int .i64 j ∧ Hid (VB wr b1 b2 z n) ∧ Hid (J (xs.take j) wr)) (fun s11 _ => 2 * n - (intOf s11).toNat)
  case atStart => exact ⟨0, by omega, rfl, HB, HJ⟩
  case round =>
    obtain ⟨j, hj, rfl, HB1, HJ1⟩ := hrel
    by_cases hlt : j < 2 * n
    · have hm : xs[j]? = some (xs[j]'(by rw [HL.out]; exact hlt)) := List.getElem?_eq_getElem _
      generalize xs[j]'(by rw [HL.out]; exact hlt) = x at hm
      have hv := HA.out j x hm
      rw [← Hh.out] at hv
      have htk : xs.take j ++ [x] = xs.take (j + 1) := by rw [List.take_add_one, hm]; rfl
      obtain ⟨fn, tmps, assign, body, hy, hR⟩ := HY.out (xs.take j) x wr HJ1.out (by rw [List.length_take, HL.out]; omega)
      have hxl := x.isLt
      rw [htk] at hR
      obtain ⟨xv, hxv⟩ : ∃ q : Nat, q = x.val := ⟨_, rfl⟩
      rw [← hxv] at hy hv hxl
      have hlz : (j : Int) < 2 * (n : Int) := by omega
      have wa : IntKind.i64.wrap ((h : Int) + (j : Int)) = (h : Int) + (j : Int) := by rw [IntKind.wrap_i64]; omega
      have wt : ((h : Int) + (j : Int)) % (n : Int) = (xv : Int) := by rw [hv, ← Int.natCast_add, ← Int.natCast_emod]
      have wx : IntKind.i64.wrap (xv : Int) = (xv : Int) := by rw [IntKind.wrap_i64]; omega
      have wj : IntKind.i64.wrap ((j : Int) + 1) = (j : Int) + 1 := by rw [IntKind.wrap_i64]; omega
      have hz : ¬ ((n : Int) = 0) := by omega
      have hz2 : ¬ (n = 0) := by omega
      have c2 := HB1.out.many.cell 0
      simp at c2
      clear hv hxv hlt htk
      gi_wp2_with fail
      refine hR.mono ?_
      rintro e W3 (⟨rfl, hJ3, hk3⟩ | ⟨rfl, hJx3⟩)
      · have HJ3 := keep hJ3
        have HB3 := keep (HB1.out.kp hk3)
        clear hJ3 hR hy HY hk3
        gi_wp2_with fail
        go_roundw
        case rel => exact ⟨j + 1, by omega, by simp, HB3, HJ3⟩
        case measure => simp [intOf]; omega
      · gi_wp2_with fail
        refine bodyPost_ret (results_none rfl _ _ _) rfl ?_
        exact ⟨⟨_, rfl⟩, .inr ⟨xs.take (j + 1), List.take_prefix _ _, hJx3⟩⟩
    · obtain rfl : j = 2 * n := by omega
      have hlz : ¬ ((2 : Int) * (n : Int) < 2 * (n : Int)) := by omega
      have e2 : xs.take (2 * n) = xs := List.take_of_length_le (by rw [HL.out]; exact Nat.le_refl _)
      rw [e2] at HJ1
      gi_wp2_with fail
      go_end0
      exact ⟨⟨_, rfl⟩, .inl HJ1.out⟩
theorem vis_stops {N b1 b2 n : Nat} {z : Int} (hN : 1 ≤ N) (hn : 0 < n) (hs : n ≤ 100000) (xs : List (Fin n)) (hx : xs.map Fin.val = vis (hd z n) n (2 * n)) (w : World) (hb : VB w b1 b2 z n) (h1 : b1 < w.heap.size) (h2 : b2 < w.heap.size) :
    SeqStopsK Fence.wide N Tryz.prog 102 #[.pointer (some ⟨b1, 0, none⟩), .pointer (some ⟨b2, 0, none⟩)] (fun x : Fin n => #[Value.int .i64 (x.val : Int)]) (Kp2 b1 b2) (fun ys => ys = xs) (fun pre => pre <+: xs) xs.length w :=
  fun l J Jx W hW _ _ hY h0 => visits1_in hN hn hs xs hx J Jx hY W ⟨hb.hand.below hW h1, hb.many.below hW h2⟩ h0
end Go.Proofs.YtmoaddbpfekdbaaGreat
/- Package clock: Sweep. -/
namespace Go.Proofs.YtmoaddbpfekdbaaGreat
set_option linter.unusedVariables false
set_option linter.unusedSimpArgs false
set_option maxRecDepth 100000
open Go.RowKit
attribute [local go_sem] Oper.semAt_some
theorem Fr.step_chg {a w W : World} {X : Nat → Prop} (h : Fr a w) (k : Chg X w W) (hx : ∀ i, X i → a.heap.size ≤ i) : Fr a W := Below.trans h (k.below h.size hx)
/-- A store into a box. -/
theorem wpListIn_store_arr {F : Fence} {N : Nat} {P : Program} {w : World} {ops : Array Oper} {rest : List Oper} {o : Oper} {a : Act} {Q : Exit → Act → World → Prop} {T n : Nat} (hs : (P.info? T).map (·.size) = some n) (hgd : o.guard = none) (x y : Operand) (ho : o.op = .store T x y)
    (g off : Nat) (hx : a.eval x = .pointer (some ⟨g, off, none⟩)) {ds : List Value} (hv : (a.eval y).cells.toList = ds) (hl : ds.length = n) (h1 : One ds)
    {T' : Nat} {cs : List Value} (ha : Arr w g T' cs.toArray) (hf : off + n ≤ cs.length) {cs' : List Value} (hc : splice cs off ds = cs')
    (h : ∀ W, Arr W g T' cs'.toArray → Chg (· = g) w W → wpListIn F N P ops Q rest (a.put o.dst undef) W) : wpListIn F N P ops Q (o :: rest) a w := by
  refine wpListIn_plain hgd fun K hK => ?_
  unfold Oper.wpIn
  refine ⟨?_, ?_⟩
  · simp [Oper.about, ho]
  · rw [Oper.semAt_plain F _ _ (by rw [ho]; intro c hc'; cases hc')]
    simp only [execOp, ho, hx, Instr.storeAt, Instr.sureAddr, Sem.run_bind, Sem.run_pure, Result.andThen_ok, run_store_at hs hv hl h1 ha hf, hc]
    exact hK _ _ (h _ (ha.setRow _) (chg_row w g _))
theorem slice_info : (Tryz.prog.info? 106).map (·.size) = some 1 := by kernel_rfl
/-- What Sweep's results are. -/
theorem sweep_results {tmps : Array Value} {W : World} {a b c : Nat} {v1 v2 v3 : Value} (h1 : tmps.getD 6 undef = .pointer (some ⟨a, 0, none⟩)) (h2 : tmps.getD 7 undef = .pointer (some ⟨b, 0, none⟩)) (h3 : tmps.getD 8 undef = .pointer (some ⟨c, 0, none⟩))
    (a1 : Arr W a 3 #[v1]) (a2 : Arr W b 3 #[v2]) (a3 : Arr W c 106 #[v3]) : (results Tryz.f82 tmps).run Tryz.prog W = .ok (.tuple #[v1, v2, v3]) W := by
  have c1 := a1.cell 0
  have c2 := a2.cell 0
  have c3 := a3.cell 0
  simp at c1 c2 c3 h1 h2 h3
  simp [results, Tryz.f82, go_sem, c1, c2, c3, h1, h2, h3]
/-- A row of marks that a call made. -/
structure ResB (w W : World) (L : Option Addr) (n c : Nat) (l : List Bool) : Prop where
  row : Rw W 4 1 L n c (rows bc l)
  len : l.length = n
  new : ∀ k, At L k → w.heap.size ≤ k
/-- The world of a sweep: the boxes from s on, the marks left. -/
structure SwS (w W : World) (b1 b2 : Nat) (z : Int) (C : Option Addr) (n cc : Nat) (L : Option Addr) (lc : Nat) (v1 v2 : Value) (l : List Bool) : Prop where
  fr : Fr w W
  can : Arr W w.heap.size 106 #[.slice C n cc]
  place : Arr W (w.heap.size + 1) 3 #[v1]
  next : Arr W (w.heap.size + 2) 3 #[v2]
  left : Arr W (w.heap.size + 3) 106 #[.slice L n lc]
  many : Arr W (w.heap.size + 4) 3 #[.int .i64 n]
  vb : VB W b1 b2 z n
  off : w.heap.size + 5 ≤ b1 ∧ w.heap.size + 5 ≤ b2
  res : ResB w W L n lc l
section
variable {w W W' : World} {b1 b2 : Nat} {z : Int} {C L : Option Addr} {n cc lc : Nat} {v1 v2 : Value} {l l' : List Bool} {X : Nat → Prop}
/-- What turns no cells leaves all of it. -/
theorem SwS.grown {B : Nat} (h : SwS w W b1 b2 z C n cc L lc v1 v2 l) (hB : w.heap.size ≤ B) (k : Chg (NC B W) W W') : SwS w W' b1 b2 z C n cc L lc v1 v2 l :=
  ⟨h.fr.step_chg k fun i hi => Nat.le_trans hB hi.1, h.can.chg k h.can.nc, h.place.chg k h.place.nc, h.next.chg k h.next.nc, h.left.chg k h.left.nc, h.many.chg k h.many.nc, ⟨h.vb.hand.chg k h.vb.hand.nc, h.vb.many.chg k h.vb.many.nc⟩, h.off, ⟨h.res.row.chg k h.res.row.nc, h.res.len, h.res.new⟩⟩
/-- A visit. -/
theorem SwS.washed (h : SwS w W b1 b2 z C n cc L lc v1 v2 l) (k : Chg (At L) W W') (hr : Rw W' 4 1 L n lc (rows bc l')) (hl : l'.length = n) : SwS w W' b1 b2 z C n cc L lc v1 v2 l' :=
  ⟨h.fr.step_chg k h.res.new, h.can.chg k (h.res.row.ty h.can (by decide)), h.place.chg k (h.res.row.ty h.place (by decide)), h.next.chg k (h.res.row.ty h.next (by decide)), h.left.chg k (h.res.row.ty h.left (by decide)), h.many.chg k (h.res.row.ty h.many (by decide)), ⟨h.vb.hand.chg k (h.res.row.ty h.vb.hand (by decide)), h.vb.many.chg k (h.res.row.ty h.vb.many (by decide))⟩, h.off, ⟨hr, hl, h.res.new⟩⟩
theorem SwS.keeps {B : Nat} (h : SwS w W b1 b2 z C n cc L lc v1 v2 l) (k : Chg (At L) W W') : KeepsFrom B W W' := keeps_chg k h.res.row.arr
theorem SwS.kp (h : SwS w W b1 b2 z C n cc L lc v1 v2 l) (k : Chg (At L) W W') : Kp2 b1 b2 W W' :=
  kp2_chg k h.vb.hand.lt h.vb.many.lt (h.res.row.ty h.vb.hand (by decide)) (h.res.row.ty h.vb.many (by decide))
end
/-- How a sweep goes on, and how it ends. -/
def SwI (w : World) (b1 b2 : Nat) (z : Int) (C : Option Addr) (n cc : Nat) (L : Option Addr) (lc : Nat) (c r : List Bool) (pre : List (Fin n)) (W : World) : Prop :=
  ∃ l, sweepL c (pre.map Fin.val) r = (none, l) ∧ SwS w W b1 b2 z C n cc L lc (.int .i64 0) (.int .i64 0) l
def SwX (w : World) (b1 b2 : Nat) (z : Int) (C : Option Addr) (n cc : Nat) (L : Option Addr) (lc : Nat) (c r : List Bool) (cd : Code) (pre : List (Fin n)) (W : World) : Prop :=
  cd = .ret ∧ ∃ l k, sweepL c (pre.map Fin.val) r = (some k, l) ∧ SwS w W b1 b2 z C n cc L lc (.int .i64 k) (.int .i64 ((k + 1) % n : Nat)) l
theorem swI_own {w : World} {b1 b2 : Nat} {z : Int} {C : Option Addr} {n cc : Nat} {L : Option Addr} {lc : Nat} {c r : List Bool} {B : Nat} (hB : w.heap.size ≤ B) : OwnFrom B (SwI w b1 b2 z C n cc L lc c r) := fun s W W' row ⟨l, h1, h2⟩ hg hr =>
  ⟨l, h1, h2.grown hB (grown_chg hg hr)⟩
theorem swX_own {w : World} {b1 b2 : Nat} {z : Int} {C : Option Addr} {n cc : Nat} {L : Option Addr} {lc : Nat} {c r : List Bool} {B : Nat} (hB : w.heap.size ≤ B) (cd : Code) : OwnFrom B (SwX w b1 b2 z C n cc L lc c r cd) := fun s W W' row ⟨h0, l, k, h1, h2⟩ hg hr =>
  ⟨h0, l, k, h1, h2.grown hB (grown_chg hg hr)⟩
/-- Ahead of a region that draws: what a panic would owe is nothing that it could pay. -/
theorem wpIn_no_panic {F : Fence} {N : Nat} {P : Program} {c : Code} {K : Act → World → Prop} {Q : Exit → Act → World → Prop} {a : Act} {w : World} (h : c.wpIn F N P (Exit.then K fun _ _ _ => False) a w) : c.wpIn F N P (Exit.then K Q) a w :=
  wpIn_mono h fun e a w hq => by
    cases e with
    | normal => exact hq
    | _ => exact hq.elim
/-- A region that draws, in a round: by the plain laws. -/
theorem wpIn_of_oper {l N : Nat} {P : Program} {o : Oper} {a : Act} {w : World} {K : Act → World → Prop} {Q : Exit → Act → World → Prop} (hnd : ∀ c, o.op ≠ .defer c) (h : o.wp P a w K Q) : o.wpIn (Fence.wide.inRound l) N P a w K Q := by
  unfold Oper.wpIn
  refine ⟨fun _ _ => trivial, ?_⟩
  rw [Oper.semAt_plain _ _ _ hnd]
  unfold Oper.wp at h
  generalize (execOp a.eval o).run P w = r at h ⊢
  cases r with
  | ok x w' =>
    cases x with
    | value v => exact h
    | skip => exact h
    | defer d => exact h
    | enter f args =>
      have h : Calls _ _ _ _ _ := h
      refine ⟨fun e => (by cases e), CallsIn.inRound l ((callsIn_wide.2 h).mono fun e w'' he => ?_)⟩
      cases e <;> exact he
    | row row args =>
      have h : Rows _ _ _ _ _ := h
      refine ⟨fun e => (by cases e), fun c cs _ => ?_⟩
      obtain ⟨v, w'', r, s⟩ := h c cs
      exact ⟨v, w'', r, stepsIn_wide.2 s⟩
    | _ => exact h.elim
  | halt x w' =>
    cases x with
    | panic v => exact h
    | _ => exact h.elim
theorem wpOpsIn_of_wpOps {l N : Nat} {P : Program} {ops : Array Oper} {K : Act → World → Prop} (hnd : ∀ o ∈ ops, ∀ c, o.op ≠ .defer c) : ∀ (is : List Nat) (a : Act) (w : World), wpOps P ops (Exit.then K fun _ _ _ => False) is a w → wpOpsIn (Fence.wide.inRound l) N P ops (Exit.then K fun _ _ _ => False) is a w
  | [], _, _, h => h
  | i :: is, a, w, h => by
    unfold wpOpsIn
    unfold wpOps at h
    cases ho : ops[i]? with
    | none =>
      rw [ho] at h
      exact wpOpsIn_of_wpOps hnd is a w h
    | some o =>
      rw [ho] at h
      simp only at h ⊢
      split at h
      · next hw =>
        rw [if_pos hw]
        rcases h with h | ⟨_, _, _, h⟩
        · exact wpIn_of_oper (hnd o (Array.mem_of_getElem? ho)) (Oper.wp_mono (fun a w => wpOpsIn_of_wpOps hnd is a w) h)
        · exact h.elim
      · next hw =>
        rw [if_neg hw]
        exact ⟨fun _ _ => trivial, wpOpsIn_of_wpOps hnd is _ _ h⟩
def noDefer (o : Oper) : Bool := match o.op with | .defer _ => false | _ => true
theorem noDefer_out {ops : Array Oper} (h : ops.all noDefer = true) : ∀ o ∈ ops, ∀ c, o.op ≠ .defer c := fun o ho c e => by
  have := Array.all_eq_true_iff_forall_mem.1 h o ho
  unfold noDefer at this
  rw [e] at this
  cases this
theorem wpIn_round_held {l N id : Nat} {P : Program} {ops : Array Oper} {K : Act → World → Prop} {Q : Exit → Act → World → Prop} {S : World → Prop} {a : Act} {w : World} (hm : P.follows .mixedOrders = true) (hnd : ops.all noDefer = true) (hS : S w.drew)
    (h : S w.drew → wpAnyH P .any ops (Exit.then K fun _ _ _ => False) S ops.size (Array.replicate ops.size false) a w.drew) : (Code.region id ops true).wpIn (Fence.wide.inRound l) N P (Exit.then K Q) a w := by
  refine wpIn_no_panic (wpIn_region_draw fun t => wpOpsIn_of_wpOps (noDefer_out hnd) _ _ _ ?_)
  simp only [Region.schedule, hm, Bool.true_or, if_true]
  exact wpAny_sound ops.size t _ a _ (wpAny_of_held _ _ _ _ (h hS))
/-- The results laid in their boxes. -/
theorem SwS.stored {w W : World} {b1 b2 : Nat} {z : Int} {C L : Option Addr} {n cc lc : Nat} {v1 v2 : Value} {l : List Bool} (h : SwS w W b1 b2 z C n cc L lc v1 v2 l) (u1 u2 : Value) :
    SwS w (((W.setCell ⟨w.heap.size + 1, 0, none⟩ u1).setCell ⟨w.heap.size + 1 + 1, 0, none⟩ u2).setCell ⟨w.heap.size + 1 + 1 + 1, 0, none⟩ (.slice L n lc)).drew b1 b2 z C n cc L lc u1 u2 l ∧ KeepsOthers W (((W.setCell ⟨w.heap.size + 1, 0, none⟩ u1).setCell ⟨w.heap.size + 1 + 1, 0, none⟩ u2).setCell ⟨w.heap.size + 1 + 1 + 1, 0, none⟩ (.slice L n lc)).drew ∧ Kp2 b1 b2 W (((W.setCell ⟨w.heap.size + 1, 0, none⟩ u1).setCell ⟨w.heap.size + 1 + 1, 0, none⟩ u2).setCell ⟨w.heap.size + 1 + 1 + 1, 0, none⟩ (.slice L n lc)).drew := by
  have k1 : Chg (fun i => i = w.heap.size + 1 ∨ i = w.heap.size + 1 + 1 ∨ i = w.heap.size + 1 + 1 + 1) W (((W.setCell ⟨w.heap.size + 1, 0, none⟩ u1).setCell ⟨w.heap.size + 1 + 1, 0, none⟩ u2).setCell ⟨w.heap.size + 1 + 1 + 1, 0, none⟩ (.slice L n lc)).drew :=
    ((((Chg.refl _ W).set (.inr (.inl rfl)) _).set (.inr (.inr (.inl rfl))) _).set (.inr (.inr (.inr rfl))) _).drew
  obtain ⟨o1, o2⟩ := h.off
  have hL : ∀ i, At L i → ¬(i = w.heap.size + 1 ∨ i = w.heap.size + 1 + 1 ∨ i = w.heap.size + 1 + 1 + 1) := fun i hi e => by
    rcases e with e | e | e
    · subst e; exact h.res.row.ty h.place (by decide) hi
    · subst e; exact h.res.row.ty h.next (by decide) hi
    · subst e; exact h.res.row.ty h.left (by decide) hi
  refine ⟨⟨h.fr.step_chg k1 fun i e => by omega, h.can.chg k1 (by omega), ?_, ?_, ?_, h.many.chg k1 (by omega), ⟨h.vb.hand.chg k1 (by omega), h.vb.many.chg k1 (by omega)⟩, h.off, ⟨h.res.row.chg k1 hL, h.res.len, h.res.new⟩⟩, ?_, kp2_chg k1 h.vb.hand.lt h.vb.many.lt (by omega) (by omega)⟩
  · have := ((h.place.set 0 u1).other ⟨w.heap.size + 1 + 1, 0, none⟩ (show w.heap.size + 1 + 1 ≠ _ by omega) u2).other ⟨w.heap.size + 1 + 1 + 1, 0, none⟩ (show w.heap.size + 1 + 1 + 1 ≠ _ by omega) (.slice L n lc)
    exact this
  · have := ((h.next.other ⟨w.heap.size + 1, 0, none⟩ (show w.heap.size + 1 ≠ _ by omega) u1).set 0 u2).other ⟨w.heap.size + 1 + 1 + 1, 0, none⟩ (show w.heap.size + 1 + 1 + 1 ≠ _ by omega) (.slice L n lc)
    exact this
  · have := ((h.left.other ⟨w.heap.size + 1, 0, none⟩ (show w.heap.size + 1 ≠ _ by omega) u1).other ⟨w.heap.size + 1 + 1, 0, none⟩ (show w.heap.size + 1 + 1 ≠ _ by omega) u2).set 0 (.slice L n lc)
    exact this
  · exact (((KeepsOthers.setCell W _ _).trans (KeepsOthers.setCell _ _ _)).trans (KeepsOthers.setCell _ _ _)).trans (KeepsOthers.drew _)
end Go.Proofs.YtmoaddbpfekdbaaGreat
/- Package clock: Order: the world on the way. -/
namespace Go.Proofs.YtmoaddbpfekdbaaGreat
set_option linter.unusedVariables false
set_option linter.unusedSimpArgs false
set_option maxRecDepth 100000
open Go.RowKit
def oi (l : List Nat) : List Int := l.map Int.ofNat
theorem oi_len (l : List Nat) : (oi l).length = l.length := by simp [oi]
/-- A row of numbers that a call made. -/
structure ResI (w W : World) (O : Option Addr) (n c : Nat) (l : List Int) : Prop where
  row : Rw W 3 1 O n c (rows ic l)
  len : l.length = n
  new : ∀ k, At O k → w.heap.size ≤ k
structure OI (w W : World) (b1 b2 b8 : Nat) (z : Int) (n : Nat) (A : Option Addr) (ca : Nat) (L : Option Addr) (lc : Nat) (O : Option Addr) (oc : Nat) (s : List Bool × List Bool × List Nat) : Prop where
  fr : Fr w W
  can : Arr W w.heap.size 106 #[.slice A n ca]
  out : Arr W (w.heap.size + 1) 37 #[.slice O s.2.2.length oc]
  left : Arr W b8 106 #[.slice L n lc]
  vb : VB W b1 b2 z n
  rc : ResB w W A n ca s.1
  rl : ResB w W L n lc s.2.1
  ro : ResI w W O s.2.2.length oc (oi s.2.2)
  aL : ∀ k, At A k → ¬ At L k
  oV : ∀ k, At O k → k ≠ b1 ∧ k ≠ b2
section
variable {w W W' : World} {b1 b2 b8 : Nat} {z : Int} {n ca lc oc : Nat} {A L O : Option Addr} {s : List Bool × List Bool × List Nat} {X : Nat → Prop}
/-- What turns no cells leaves all of it. -/
theorem OI.grown {B : Nat} (h : OI w W b1 b2 b8 z n A ca L lc O oc s) (hB : w.heap.size ≤ B) (k : Chg (NC B W) W W') : OI w W' b1 b2 b8 z n A ca L lc O oc s :=
  ⟨h.fr.step_chg k fun i hi => Nat.le_trans hB hi.1, h.can.chg k h.can.nc, h.out.chg k h.out.nc, h.left.chg k h.left.nc, ⟨h.vb.hand.chg k h.vb.hand.nc, h.vb.many.chg k h.vb.many.nc⟩, ⟨h.rc.row.chg k h.rc.row.nc, h.rc.len, h.rc.new⟩, ⟨h.rl.row.chg k h.rl.row.nc, h.rl.len, h.rl.new⟩, ⟨h.ro.row.chg k h.ro.row.nc, h.ro.len, h.ro.new⟩, h.aL, h.oV⟩
/-- What a round may turn. -/
def OX (w : World) (A L O : Option Addr) (i : Nat) : Prop := At L i ∨ At A i ∨ At O i ∨ i = w.heap.size + 1
theorem OI.keeps {B : Nat} (h : OI w W b1 b2 b8 z n A ca L lc O oc s) (k : Chg (OX w A L O) W W') : KeepsFrom B W W' :=
  keeps_chg k fun i hi => by
    rcases hi with hi | hi | hi | rfl
    · exact h.rl.row.arr i hi
    · exact h.rc.row.arr i hi
    · exact h.ro.row.arr i hi
    · exact ⟨_, _, h.out⟩
theorem OI.not {T b : Nat} {cs : Array Value} (h : OI w W b1 b2 b8 z n A ca L lc O oc s) (ha : Arr W b T cs) (t1 : 4 ≠ T) (t2 : At O b → False) (t3 : b ≠ w.heap.size + 1) : ¬ OX w A L O b := fun hi => by
  rcases hi with hi | hi | hi | hi
  · exact h.rl.row.ty ha t1 hi
  · exact h.rc.row.ty ha t1 hi
  · exact t2 hi
  · exact t3 hi
theorem OI.nvb (h : OI w W b1 b2 b8 z n A ca L lc O oc s) : ¬ OX w A L O b1 ∧ ¬ OX w A L O b2 :=
  ⟨h.not h.vb.hand (by decide) (fun e => (h.oV _ e).1 rfl) (fun e => absurd ((e ▸ h.vb.hand).ty h.out) (by decide)), h.not h.vb.many (by decide) (fun e => (h.oV _ e).2 rfl) (fun e => absurd ((e ▸ h.vb.many).ty h.out) (by decide))⟩
theorem OI.kp (h : OI w W b1 b2 b8 z n A ca L lc O oc s) (k : Chg (OX w A L O) W W') : Kp2 b1 b2 W W' := kp2_chg k h.vb.hand.lt h.vb.many.lt h.nvb.1 h.nvb.2
/-- A round. -/
theorem OI.step {O' : Option Addr} {oc' : Nat} {c l : List Bool} {o : List Nat} (h : OI w W b1 b2 b8 z n A ca L lc O oc s) (k : Chg (OX w A L O) W W')
    (hout : Arr W' (w.heap.size + 1) 37 #[.slice O' o.length oc']) (hc : Rw W' 4 1 A n ca (rows bc c)) (hcn : c.length = n) (hl : Rw W' 4 1 L n lc (rows bc l)) (hln : l.length = n)
    (ho : Rw W' 3 1 O' o.length oc' (rows ic (oi o))) (hO : ∀ i, At O' i → At O i ∨ W.heap.size ≤ i) : OI w W' b1 b2 b8 z n A ca L lc O' oc' (c, l, o) := by
  have hx : ∀ i, OX w A L O i → w.heap.size ≤ i := fun i hi => by
    rcases hi with hi | hi | hi | rfl
    · exact h.rl.new i hi
    · exact h.rc.new i hi
    · exact h.ro.new i hi
    · omega
  have hb1 := h.vb.hand.lt
  have hb2 := h.vb.many.lt
  have hsz := h.fr.size
  exact ⟨h.fr.step_chg k hx, h.can.chg k (h.not h.can (by decide) (h.ro.row.ty h.can (by decide)) (by omega)), hout, h.left.chg k (h.not h.left (by decide) (h.ro.row.ty h.left (by decide)) (fun e => absurd ((e ▸ h.left).ty h.out) (by decide))), ⟨h.vb.hand.chg k h.nvb.1, h.vb.many.chg k h.nvb.2⟩, ⟨hc, hcn, h.rc.new⟩, ⟨hl, hln, h.rl.new⟩,
    ⟨ho, oi_len _, fun i hi => by rcases hO i hi with e | e; exact h.ro.new i e; omega⟩, h.aL, fun i hi => by rcases hO i hi with e | e; exact h.oV i e; omega⟩
end
def OrI (w : World) (b1 b2 b8 : Nat) (z : Int) (n : Nat) (A : Option Addr) (ca : Nat) (L : Option Addr) (lc : Nat) (c r : List Bool) (pre : List (Fin n)) (W : World) : Prop :=
  ∃ O oc, OI w W b1 b2 b8 z n A ca L lc O oc (orun (pre.map Fin.val) (c, r, []))
end Go.Proofs.YtmoaddbpfekdbaaGreat
