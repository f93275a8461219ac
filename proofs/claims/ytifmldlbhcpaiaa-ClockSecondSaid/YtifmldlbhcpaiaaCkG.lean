/- Package clock: Order, walked. -/
import Derived.Test.YtifmldlbhcpaiaaCkD
import Derived.Test.YtifmldlbhcpaiaaCkE
namespace Go.Proofs.Ytifmldlbhcpaiaa
set_option linter.unusedVariables false
set_option linter.unusedSimpArgs false
set_option maxRecDepth 100000
open Go.RowKit
attribute [local go_sem] Oper.semAt_some
theorem ints_info : (Try.prog.info? 28).map (·.size) = some 1 := by kernel_rfl
set_option maxHeartbeats 4000000 in
theorem order_no {w : World} {C R : Option Addr} {n cc m rc : Nat} {z : Int} (h : ¬(n = m ∧ 0 < n)) :
    Calls Try.prog 13 #[.slice C n cc, .slice R m rc, .int .i64 z] w fun e w' => e = .returned (.slice none 0 0) ∧ Fr w w' := by
  have hP := fun W => proper_at (w := W) (A := C) (B := R) (n := n) (m := m) (c := cc) (d := rc)
  rw [decide_eq_false h] at hP
  have HP := keep hP
  clear hP h
  refine (callsIn_wide (n := 5)).1 ?_
  refine callsIn_of_wp_marks Try.func13 rfl trivial ?_ rfl
  simp only [Try.ntmps13, List.size_toArray, List.length_cons, List.length_nil, Nat.reduceAdd, Nat.reduceSub, Array.replicate_succ, Array.replicate_zero, List.push_toArray, List.append_toArray, List.nil_append, List.cons_append]
  gi_wp2_with (first
    | (refine ⟨trivial, ?_⟩; gi_at_call 17; refine (callsIn_wide.2 (HP.out _)).mono ?_; rintro e w' ⟨rfl, rfl⟩)
    | fail)
  exact ⟨_, results_tmp rfl _ _ _, rfl, fr_new (fr_refl w) _⟩
set_option maxHeartbeats 4000000 in
theorem order_yes {w : World} {C R : Option Addr} {n cc rc : Nat} {z : Int} {c r : List Bool} (hc : Has w w.heap.size C (rows bc c)) (hcn : c.length = n) (hr : Has w w.heap.size R (rows bc r)) (hrn : r.length = n) (hn : 0 < n) (hs : n ≤ 100000) :
    Calls Try.prog 13 #[.slice C n cc, .slice R n rc, .int .i64 z] w fun e w' => ∃ O k oc, e = .returned (.slice O k oc) ∧ Hid (ResI w w' O k oc (oi (ordL c r z)) ∧ Fr w w') := by
  have hP := fun W => proper_at (w := W) (A := C) (B := R) (n := n) (m := n) (c := cc) (d := rc)
  rw [decide_eq_true ⟨rfl, hn⟩] at hP
  have HP := keep hP
  clear hP
  obtain ⟨xs, hx⟩ := fin_list (n := n) (vis (hd z n) n (2 * n)) (fun k hk => vis_lt hn hk)
  have hV := fun W => visits_at (w := W) (z := z) (n := n)
  have HV := keep hV
  clear hV
  have HR := keep hr
  have HC := keep hc
  have Hcn := keep hcn
  have Hrn := keep hrn
  have Hx := keep hx
  clear hc hr hcn hrn hx
  obtain ⟨Z, hZ, a3, a7, fZ, sZ⟩ : ∃ Z, ((w.alloc (.cells #[.slice C n cc] 22)).alloc (.cells #[.slice none 0 0] 28)) = Z ∧
      Arr Z w.heap.size 22 #[.slice C n cc] ∧ Arr Z (w.heap.size + 1) 28 #[.slice none 0 0] ∧ Fr w Z ∧ Z.heap.size = w.heap.size + 2 :=
    ⟨_, rfl, (Arr.new w _ _).alloc _, arr_next w 1 _ _, fr_new (fr_new (fr_refl w) _) _, by simp⟩
  have hCl := clone_at (w := Z) (A := C) (n := n) (c := cc) (HC.out.fr (Nat.le_refl _) fZ) fZ.size Hcn.out (by omega)
  have q3 := a3.cell 0
  simp at q3
  have hT := ints_info
  refine (callsIn_wide (n := 5)).1 ?_
  refine callsIn_of_wp_marks Try.func13 rfl trivial ?_ rfl
  simp only [Try.ntmps13, List.size_toArray, List.length_cons, List.length_nil, Nat.reduceAdd, Nat.reduceSub, Array.replicate_succ, Array.replicate_zero, List.push_toArray, List.append_toArray, List.nil_append, List.cons_append]
  gi_wp2_with (first
    | (refine ⟨trivial, ?_⟩; gi_at_call 17; refine (callsIn_wide.2 (HP.out _)).mono ?_; rintro e w' ⟨rfl, rfl⟩)
    | (refine ⟨trivial, ?_⟩; gi_at_call 18; with_reducible refine (callsIn_wide.2 hCl).mono ?_; rintro e w1 ⟨A, ca, rfl, hz1⟩; obtain ⟨r1, n1, f1⟩ := hz1.out; clear hCl; have hCr := clone_at (w := w1) (A := R) (n := n) (c := rc) (HR.out.fr (Nat.le_refl _) (fr_step fZ f1)) (fr_step fZ f1).size Hrn.out (by omega))
    | (refine ⟨trivial, ?_⟩; gi_at_call 18; with_reducible refine (callsIn_wide.2 hCr).mono ?_; rintro e w2 ⟨L, lc, rfl, hz2⟩; obtain ⟨r2, n2, f2⟩ := hz2.out; clear hCr; have d3 := ((a3.below f1 a3.lt).below f2 (a3.below f1 a3.lt).lt); have c3 := d3.cell 0; simp at c3; have z3 := d3.free 0; have hl3 : w.heap.size < w2.heap.size := d3.lt)
    | (refine ⟨trivial, ?_⟩; gi_at_call 19; with_reducible refine (callsIn_wide.2 (HV.out _)).mono ?_; rintro e w5 ⟨b1, b2, rfl, hz5⟩; obtain ⟨v5, g1, g2, f5⟩ := hz5.out)
    | fail)
  have k3 : Chg (· = w.heap.size) w2 ((w2.setCell ⟨w.heap.size, 0, none⟩ (.slice A n ca)).alloc (.cells #[.slice L n lc] 22)) := (((Chg.refl (· = w.heap.size) w2).set (p := ⟨w.heap.size, 0, none⟩) (.inr rfl) _)).alloc _
  have e3 : Arr ((w2.setCell ⟨w.heap.size, 0, none⟩ (.slice A n ca)).alloc (.cells #[.slice L n lc] 22)) w.heap.size 22 #[.slice A n ca] := (d3.set 0 (.slice A n ca)).alloc _
  have e8 : Arr ((w2.setCell ⟨w.heap.size, 0, none⟩ (.slice A n ca)).alloc (.cells #[.slice L n lc] 22)) w2.heap.size 22 #[.slice L n lc] := by
    have := Arr.new (w2.setCell ⟨w.heap.size, 0, none⟩ (.slice A n ca)) #[.slice L n lc] 22
    simpa using this
  revert k3 e3 e8 g1 g2 f5
  generalize (w2.setCell ⟨w.heap.size, 0, none⟩ (.slice A n ca)).alloc (.cells #[.slice L n lc] 22) = V
  intro g1 g2 f5 k3 e3 e8
  have nA : ∀ k, At A k → ¬ k = w.heap.size := fun k hk e => by have := n1 k hk; omega
  have nL : ∀ k, At L k → ¬ k = w.heap.size := fun k hk e => by have := n2 k hk; have := f1.size; omega
  have hAL : ∀ k, At A k → ¬ At L k := fun k hk hl => by have := r1.lt k hk; have := n2 k hl; omega
  have y1 := f1.size
  have y2 := f2.size
  have y3 := k3.size
  have b7 := (((a7.below f1 a7.lt).below f2 (a7.below f1 a7.lt).lt)).chg k3 (show ¬ w.heap.size + 1 = w.heap.size by omega)
  have hOI : OI w w5 b1 b2 w2.heap.size z n A ca L lc none 0 (c, r, []) :=
    ⟨fr_step (Fr.step_chg (fr_step (fr_step fZ f1) f2) k3 fun i e => by omega) f5, e3.below f5 e3.lt, b7.below f5 b7.lt, e8.below f5 e8.lt, v5,
      ⟨((r1.fr f2).chg k3 nA).fr f5, Hcn.out, fun k hk => by have := n1 k hk; omega⟩, ⟨(r2.chg k3 nL).fr f5, Hrn.out, fun k hk => by have := n2 k hk; omega⟩, ⟨Rw.nil _ _ _, rfl, fun k hk => by cases hk⟩, hAL, fun k hk => by cases hk⟩
  have hsz : w.heap.size ≤ w5.heap.size := hOI.fr.size
  have hb1 := v5.hand.lt
  have hb2 := v5.many.lt
  have hlen : xs.length = 2 * n := by rw [← List.length_map (f := Fin.val), Hx.out, vis_len]
  have HO := keep hOI
  have HV5 := keep v5
  obtain ⟨s8, hs8⟩ : ∃ s8, w2.heap.size = s8 := ⟨_, rfl⟩
  rw [hs8] at HO ⊢
  clear hOI v5 k3 e3 e8 r1 n1 f1 r2 n2 f2 hz1 hz2 hz5 d3 c3 z3 hl3 a3 a7 b7 nA nL hAL fZ sZ hZ HV HP f5 g1 g2 y1 y2 y3 q3 hs8
  refine wpIn_rangeFunc_ownG rfl (by decide) (gf := 22) (lb := #[.pointer (some ⟨b1, 0, none⟩), .pointer (some ⟨b2, 0, none⟩)]) rfl trivial (enters_of Try.func22 (by kernel_rfl) rfl)
    (vis_stops (by decide) hn hs xs Hx.out w5 HV5.out hb1 hb2) kp2_t (kp2_b hb1 hb2) (Below.refl _ _) (fun _ => rfl)
    (OrI w b1 b2 s8 z n A ca L lc c r) (fun _ _ _ => False) (orI_own hsz) (fun _ _ _ _ _ h _ _ => h) ⟨none, 0, HO.out⟩
    (fun x => { tmps := #[.slice C n cc, .slice R n rc, .int .i64 z, .pointer (some ⟨w.heap.size, 0, none⟩), undef, undef, .slice none 0 0, .pointer (some ⟨w.heap.size + 1, 0, none⟩), .pointer (some ⟨s8, 0, none⟩), .int .i64 (x.val : Int), .slice C n cc, .slice R n rc,
          .bool true, .bool false, .slice C n cc, .slice A n ca, .slice R n rc, .slice L n lc, .slice A n ca, .int .i64 n, .int .i64 z, .func (.func 22) #[] #[.pointer (some ⟨b1, 0, none⟩), .pointer (some ⟨b2, 0, none⟩)], .int .i64 (x.val : Int), undef, undef, undef, undef, undef, undef, undef, undef, undef, undef, undef, undef], defers := [] }) ?assign ?body ?done ?stop
  case assign =>
    intro l x W K hK
    gi_wp2
    exact hK
  case body =>
    rintro l pre x W ⟨O, oc, hI⟩ hlt
    have hol := (orun_len (pre.map Fin.val) (c, r, [])).2.2
    rw [List.length_map] at hol
    simp only [List.length_nil, Nat.zero_add] at hol
    have hsnoc : orun ((pre ++ [x]).map Fin.val) (c, r, []) = ost (orun (pre.map Fin.val) (c, r, [])) x.val := by rw [List.map_append]; exact orun_snoc _ _ _
    have Hsnoc := keep hsnoc
    generalize orun (pre.map Fin.val) (c, r, []) = st at hI Hsnoc hol
    obtain ⟨c1, l1, o1⟩ := st
    have c3 := hI.can.cell 0
    have c8 := hI.left.cell 0
    simp at c3 c8
    have hch := choose_at (w := W) (C := A) (L := L) (n := n) (cc := ca) (lc := lc) (k := x.val) hI.rc.row.has hI.rc.len hI.rl.row hI.rl.len x.isLt hs (Nat.le_refl _)
    obtain ⟨xv, hxv⟩ : ∃ q : Nat, q = x.val := ⟨_, rfl⟩
    have hxl := x.isLt
    rw [← hxv] at hch hxl ⊢
    have HI := keep hI
    have Hxv := keep hxv
    clear hI hxv hsnoc
    cases hq : hit c1 l1 xv with
    | false =>
      rw [hq] at hch
      have hst : ost (c1, l1, o1) xv = (c1, wash c1 l1 xv, o1) := by unfold ost; simp [hq]
      have Hst := keep hst
      clear hq hst
      gi_wp2_with (first
        | (refine ⟨trivial, ?_⟩; gi_at_call 20; with_reducible refine (CallsIn.inRound l (callsIn_wide.2 hch)).mono ?_; rintro e w6 ⟨rfl, hz6⟩; clear hch)
        | fail)
      obtain ⟨r6, k6⟩ := hz6.out
      have k6' : Chg (OX w A L O) W w6 := k6.weak fun i _ hi => .inl hi
      refine ⟨HI.out.keeps k6', HI.out.kp k6', O, oc, ?_⟩
      rw [Hsnoc.out, ← Hxv.out, Hst.out]
      have hI := HI.out
      exact hI.step k6' (hI.out.chg k6 (hI.rl.row.ty hI.out (by decide))) (hI.rc.row.chg k6 hI.aL) hI.rc.len r6 (by rw [wash_len]; exact hI.rl.len) (hI.ro.row.chg k6 fun i hi hl => hI.rl.row.apart hI.ro.row (by decide) i hl hi) (fun i hi => .inl hi)
    | true =>
      rw [hq] at hch
      have hst : ost (c1, l1, o1) xv = (c1.set xv false, wash c1 l1 xv, o1 ++ [xv]) := by unfold ost; simp [hq]
      have Hst := keep hst
      clear hq hst
      obtain ⟨ga, oa, rfl⟩ := HI.out.rc.row.addr hn
      have hkz : (xv : Int) < (n : Int) := by omega
      have hcl := HI.out.rc.len
      have h64 : xs.length = 2 * n := hlen
      have hol2 : o1.length ≤ 200000 := by have : o1.length ≤ pre.length := hol; omega
      have Hcl := keep hcl
      have hOL : ∀ i, At O i → ¬ At L i := fun i hi hl => HI.out.rl.row.apart HI.out.ro.row (by decide) i hl hi
      have hOA : ∀ i, At O i → ¬ i = ga := fun i hi e => HI.out.rc.row.apart HI.out.ro.row (by decide) i (by rw [e]; rfl) hi
      have hsA : ¬ w.heap.size + 1 = ga := fun e => HI.out.rc.row.ty HI.out.out (by decide) (by rw [e]; rfl)
      have hsO : ¬ At O (w.heap.size + 1) := HI.out.ro.row.ty HI.out.out (by decide)
      have HOL := keep hOL
      have HOA := keep hOA
      have HsA := keep hsA
      have HsO := keep hsO
      clear hcl hlen hol hOL hOA hsA hsO
      gi_wp2_with (first
        | (refine ⟨trivial, ?_⟩; gi_at_call 20; with_reducible refine (CallsIn.inRound l (callsIn_wide.2 hch)).mono ?_; rintro e w6 ⟨rfl, hz6⟩; clear hch; obtain ⟨r6, k6⟩ := hz6.out; have R6 := keep r6; have d3 := HI.out.can.chg k6 (HI.out.rl.row.ty HI.out.can (by decide)); have d7 := HI.out.out.chg k6 (HI.out.rl.row.ty HI.out.out (by decide)); have e3 := d3.cell 0; simp at e3; have HA6 := keep (HI.out.rc.row.chg k6 HI.out.aL); have HO6 := keep (HI.out.ro.row.chg k6 HOL.out); clear hz6)
        | (refine wpListIn_store_rw (cf := bc) (x := false) (j := xv) bool_info rfl (.tmp 29) (.const (.bool false)) rfl (by rw [Nat.mul_one]; rfl) rfl rfl (bc_one _) HA6.out (bc_wid _) Hcl.out (by omega) ?_; intro w7 h7 k7; have H7 := keep h7; clear h7; have f7 := d7.chg k7 HsA.out; have e7 := f7.cell 0; simp at e7; have HO7 := keep ((HO6.out.chg k7 HOA.out).fr (fr_new (fr_refl w7) (.cells #[.int .i64 (xv : Int)] 3))); have f7' := f7.alloc (.cells #[.int .i64 (xv : Int)] 3))
        | (gi_at_builtin; refine wpListIn_append_rw int_elem ints_under (by decide) rfl (.tmp 30) (.tmp 32) rfl O o1.length oc (rows ic (oi o1)) rfl HO7.out (w7.heap.size + 1) (some ⟨w7.heap.size, 0, none⟩) 1 1 (ic xv) rfl rfl (has_new w7 (ic xv) 3) (ic_one _) (by simp only [maxLen]; omega) (by omega) ?_; intro O' oc' w8 h8 p8; have H8 := keep h8; clear h8; have f8 := f7'.chg p8.chg HsO.out; have e8 := f8.cell 0; simp at e8; have z8 := f8.free 0)
        | fail)
      have hI := HI.out
      have kk : Chg (OX w (some ⟨ga, oa, none⟩) L O) W (w8.setCell ⟨w.heap.size + 1, 0, none⟩ (.slice O' (o1.length + 1) oc')) :=
        (((((Chg.refl _ W).trans' k6 fun i _ hi => .inl hi).trans' k7 fun i _ hi => .inr (.inl (by rw [hi]; rfl))).alloc _).trans' p8.chg fun i _ hi => .inr (.inr (.inl hi))).set (.inr (.inr (.inr (.inr rfl)))) _
      have s9 := (Chg.refl (· = w.heap.size + 1) w8).set (p := ⟨w.heap.size + 1, 0, none⟩) (.inr rfl) (.slice O' (o1.length + 1) oc')
      have aOL : ∀ i, At (some ⟨ga, oa, none⟩) i → ¬ At O i := fun i hi ho => HOA.out i ho (by injection hi with hi; exact hi.symm)
      have c9 : Rw (w8.setCell ⟨w.heap.size + 1, 0, none⟩ (.slice O' (o1.length + 1) oc')) 4 1 (some ⟨ga, oa, none⟩) n ca (rows bc (c1.set xv false)) :=
        (((H7.out.fr (fr_new (fr_refl w7) _)).chg p8.chg aOL).chg s9 fun i hi e => HsA.out (by rw [← e]; injection hi with hi; exact hi.symm))
      have nL : ∀ i, At L i → ¬ i = ga := fun i hi e => hI.aL i (by rw [e]; rfl) hi
      have l9 : Rw (w8.setCell ⟨w.heap.size + 1, 0, none⟩ (.slice O' (o1.length + 1) oc')) 4 1 L n lc (rows bc (wash c1 l1 xv)) :=
        ((((R6.out.chg k7 nL).fr (fr_new (fr_refl w7) _)).chg p8.chg fun i hi ho => HOL.out i ho hi).chg s9 fun i hi e => by subst e; exact hI.rl.row.ty hI.out (by decide) hi)
      have o9 : Rw (w8.setCell ⟨w.heap.size + 1, 0, none⟩ (.slice O' (o1.length + 1) oc')) 3 1 O' (o1 ++ [xv]).length oc' (rows ic (oi (o1 ++ [xv]))) := by
        have h := H8.out.chg s9 fun i hi e => by subst e; exact H8.out.ty f8 (by decide) hi
        have e1 : rows ic (oi (o1 ++ [xv])) = rows ic (oi o1) ++ ic (xv : Int) := by
          unfold oi
          rw [List.map_append, rows_append]
          rfl
        rw [e1, List.length_append]
        exact h
      refine ⟨hI.keeps kk, hI.kp kk, O', oc', ?_⟩
      rw [Hsnoc.out, ← Hxv.out, Hst.out]
      refine hI.step kk ?_ c9 (by rw [List.length_set]; exact hI.rc.len) l9 (by rw [wash_len]; exact hI.rl.len) o9 fun i hi => ?_
      · rw [List.length_append]
        exact f8.set 0 _
      · rcases p8.blk i hi with e | e
        · exact .inl e
        · have y1 := k6.size
          have y2 := k7.size
          simp at e
          exact .inr (by omega)
  case done =>
    rintro D ys W hD rfl ⟨O, oc, hI⟩ hK
    rw [Hx.out] at hI
    have hO : ordL c r z = (orun (vis (hd z n) n (2 * n)) (c, r, [])).2.2 := by
      unfold ordL
      rw [if_pos ⟨by rw [Hcn.out, Hrn.out], by rw [Hcn.out]; exact hn⟩, Hcn.out]
    have c7 := hI.out.cell 0
    simp at c7
    have hG := hI.grown (Nat.le_refl _) (grown_chg (grownBy_putObj' W D (.deferred none)) (B := w.heap.size) (fun i e => by cases e; exact ⟨Nat.le_trans hsz hD, _, hK, rfl⟩))
    have HG := keep hG
    have HOL := keep hO
    clear hI hG hO
    gi_wp2
    refine ⟨by simp, .inl ⟨_, _, rfl, run_takeDeferred hK, ?_⟩⟩
    refine ⟨_, results_tmp rfl _ _ _, O, _, oc, rfl, keep ⟨?_, HG.out.fr⟩⟩
    rw [HOL.out]
    exact HG.out.ro
  case stop =>
    rintro D cd pre W hD hpre h hK
    exact h.elim
/-- Order, whatever the lists. -/
theorem order_at {w : World} {C R : Option Addr} {n cc m rc : Nat} {z : Int} {c r : List Bool} (hc : Has w w.heap.size C (rows bc c)) (hcn : c.length = n) (hr : Has w w.heap.size R (rows bc r)) (hrn : r.length = m) (hs : n ≤ 100000) :
    Calls Try.prog 13 #[.slice C n cc, .slice R m rc, .int .i64 z] w fun e w' => ∃ O k oc, e = .returned (.slice O k oc) ∧ Hid (ResI w w' O k oc (oi (ordL c r z)) ∧ Fr w w') := by
  by_cases h : n = m ∧ 0 < n
  · obtain ⟨rfl, hn⟩ := h
    exact order_yes hc hcn hr hrn hn hs
  · refine (order_no h).mono ?_
    rintro e w' ⟨rfl, h2⟩
    have : ordL c r z = [] := by unfold ordL; rw [if_neg (by rw [hcn, hrn]; exact h)]
    rw [this]
    exact ⟨none, 0, 0, rfl, keep ⟨⟨Rw.nil _ _ _, rfl, fun k hk => by cases hk⟩, h2⟩⟩
end Go.Proofs.Ytifmldlbhcpaiaa
