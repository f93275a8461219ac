/- The document's cache: New. -/
import Derived.Test.YtmoaddbpfekdbaaGreatM24
import Derived.Test.YtmoaddbpfekdbaaGreatM15
namespace Go.Proofs.YtmoaddbpfekdbaaGreat
set_option linter.unusedSectionVars false
set_option linter.unusedVariables false
set_option linter.unusedSimpArgs false
set_option maxRecDepth 100000
open Go.RowKit
theorem frames_und : Tryz.prog.underlying 58 = some (.slice 63) := Tryz.underlying58
section
variable {V : Type} [NVal V]
def zeroF : Fra V := ⟨0, 0, 0, false, false, default, 0⟩
theorem frame_elem : Elem Tryz.prog 63 11 144 := Elem.of (z := .agg #[.int .i64 0, .int .i64 0, .int .i64 0, .bool false, .bool false, .bool false, .slice none 0 0, .slice none 0 0, .slice none 0 0, .slice none 0 0, .int .i64 0]) (by kernel_rfl) (by kernel_rfl) (by kernel_rfl) rfl
theorem frame_make (n : Nat) (hn : n ≤ 64) (w : World) : (Instr.makeSlice 58 (.int .i64 (n : Int)) (.int .i64 (n : Int))).run Tryz.prog w = .ok (.slice (some ⟨w.heap.size, 0, none⟩) n n) (w.alloc (.cells (rows fc (List.replicate n (zeroF : Fra V))).toArray 63)) := by
  obtain ⟨i, hi, hs, hb, z, hz, hc⟩ : ∃ i, Tryz.prog.info? 63 = some i ∧ i.size = 11 ∧ i.bytes = 144 ∧ ∃ z, i.zero = some z ∧ z.cells = (fc (zeroF : Fra V)).toArray := by
    cases h : Tryz.prog.info? 63 with
    | none => exact absurd h (by decide +kernel)
    | some i =>
      have e1 : (Tryz.prog.info? 63).bind (·.zero) = some (.agg #[.int .i64 0, .int .i64 0, .int .i64 0, .bool false, .bool false, .bool false, .slice none 0 0, .slice none 0 0, .slice none 0 0, .slice none 0 0, .int .i64 0]) := by kernel_rfl
      have e2 : (Tryz.prog.info? 63).map (·.size) = some 11 := by kernel_rfl
      have e3 : (Tryz.prog.info? 63).map (·.bytes) = some 144 := by kernel_rfl
      rw [h] at e1 e2 e3
      refine ⟨i, rfl, by simpa using e2, by simpa using e3, _, by simpa using e1, ?_⟩
      unfold zeroF
      rw [fc_lit]
      rfl
  have h := run_make (P := Tryz.prog) w 58 63 i z frames_und hi hz .i64 .i64 n n (by omega) (Int.le_refl _) (by rw [hb]; omega) (by omega)
  rw [hs, hc, Int.toNat_natCast, rows_made (by decide) _ (fc_len _)] at h
  exact h
set_option maxHeartbeats 1000000 in
theorem dnew_no (w : World) (n : Int) (hn : n < 1 ∨ 64 < n) :
    Calls Tryz.prog 5 #[.int .i64 n] w fun e w' => e = .returned (.tuple #[.pointer none, .int .i64 1]) ∧ w = w' := by
  rcases hn with h | h
  · go_enter Tryz.func5, Tryz.ntmps5
    go_wp2_with fail
    go_ret2
    exact ⟨rfl, rfl⟩
  · have h1 : ¬ n < 1 := by omega
    go_enter Tryz.func5, Tryz.ntmps5
    go_wp2_with fail
    go_ret2
    exact ⟨rfl, rfl⟩
def made (n j : Nat) : List (Fra V) := List.replicate j freeF ++ List.replicate (n - j) zeroF
theorem made_at {n j : Nat} (h : j < n) : (made (V := V) n j)[j]? = some zeroF := by
  unfold made
  rw [List.getElem?_append_right (by simp), List.length_replicate, Nat.sub_self, List.getElem?_replicate, if_pos (by omega)]
theorem made_in {n j : Nat} (h : j < n) : made (V := V) n (j + 1) = (made n j).set j freeF := by
  unfold made
  obtain ⟨q, hq⟩ : ∃ q, n - j = q + 1 := ⟨n - j - 1, by omega⟩
  rw [List.set_append_right _ _ (by simp), List.length_replicate, Nat.sub_self, hq, List.replicate_succ (n := q), List.set_cons_zero, show n - (j + 1) = q by omega, List.replicate_succ', List.append_assoc]
  rfl
set_option maxHeartbeats 4000000 in
theorem dnew_yes (w : World) (n : Nat) (h1 : 1 ≤ n) (h2 : n ≤ 64) :
    Calls Tryz.prog 5 #[.int .i64 (n : Int)] w fun e w' => ∃ g, e = .returned (.tuple #[.pointer (some ⟨g, 0, none⟩), .int .i64 0]) ∧ Hid (∃ h, DC w' g h (newC (V := V) n) ∧ (∀ k, CHX g h k → w.heap.size ≤ k) ∧ Fr w w') := by
  have hm := frame_make (V := V) n h2 w
  have hwd := rows_len (fc_wid (List.replicate n (zeroF : Fra V)))
  rw [List.length_replicate] at hwd
  have hR0 : Rw (w.alloc (.cells (rows fc (List.replicate n (zeroF : Fra V))).toArray 63)) 63 11 (some ⟨w.heap.size, 0, none⟩) n n (rows fc (List.replicate n (zeroF : Fra V))) := by
    have := (Own.lit w w.heap.size 63 (rows fc (List.replicate n (zeroF : Fra V))).toArray n 11 (Nat.le_refl _) (by simp only [maxLen]; omega) (by simpa using hwd)).rw'
    simpa using this
  have hF0 := fr_new (fr_refl w) (.cells (rows fc (List.replicate n (zeroF : Fra V))).toArray 63)
  have hs0 : (w.alloc (.cells (rows fc (List.replicate n (zeroF : Fra V))).toArray 63)).heap.size = w.heap.size + 1 := by simp
  generalize w.alloc (.cells (rows fc (List.replicate n (zeroF : Fra V))).toArray 63) = Y at *
  obtain ⟨X, hX, hF1, hA, hs1⟩ : ∃ X, Y.alloc (.cells #[.slice (some ⟨w.heap.size, 0, none⟩) n n, .slice none 0 0, .slice none 0 0, .int .i64 0] 61) = X ∧ Fr Y X ∧ Arr X (w.heap.size + 1) 61 #[.slice (some ⟨w.heap.size, 0, none⟩) n n, .slice none 0 0, .slice none 0 0, .int .i64 0] ∧ X.heap.size = w.heap.size + 2 := ⟨_, rfl, fr_new (fr_refl _) _, by rw [← hs0]; exact Arr.new _ _ _, by simp [hs0]⟩
  have hK : DC X (w.heap.size + 1) ⟨some ⟨w.heap.size, 0, none⟩, n, n, none, 0, 0, none, 0, 0⟩ (⟨made n 0, [], [], 0⟩ : Ca V) := ⟨hA, by unfold made; exact hR0.fr hF1, Rw.nil _ _ _, Rw.nil _ _ _, fun k hk => by cases hk⟩
  have HK := keep hK
  have HF := keep (fr_step hF0 hF1)
  have hn1 : ¬ ((n : Int) < 1) := by omega
  have hn2 : ¬ ((n : Int) > 64) := by omega
  have HS := keep hs1
  clear hwd hR0 hF0 hF1 hA hK hs1
  go_enter Tryz.func5, Tryz.ntmps5
  go_wp2_with fail
  go_loopg [5] n (fun gg s5 wr => ∃ j : Nat, j + gg = n ∧ s5 = .int .i64 j ∧ Hid (DC wr (w.heap.size + 1) ⟨some ⟨w.heap.size, 0, none⟩, n, n, none, 0, 0, none, 0, 0⟩ (⟨made n j, [], [], 0⟩ : Ca V) ∧ Fr w wr))
  case atStart => exact ⟨0, by omega, rfl, keep ⟨HK.out, HF.out⟩⟩
  case round =>
    obtain ⟨j, hj, rfl, HI⟩ := hrel
    have c0 := HI.out.1.cells.1
    simp only at c0
    by_cases hlt : j < n
    · have HM := keep (made_at (V := V) hlt)
      have HN := keep (made_in (V := V) hlt)
      have HR := keep HI.out.1.fs
      have hjz : (j : Int) < (n : Int) := by omega
      have wj : IntKind.i64.wrap ((j : Int) + 1) = (j : Int) + 1 := by rw [IntKind.wrap_i64]; omega
      clear hlt
      go_wp2_with (first
        | (refine wpList_store_frp (cf := fc) (l := made n j) (j := j) (x := (zeroF : Fra V)) (y := (freeF : Fra V)) (tt := 1) (ds := [.int .i64 (-1)]) int_info16 rfl (.tmp 27) (.const (.int .i64 (-1))) rfl (by rw [Nat.zero_add]; rfl) rfl rfl (.cons rfl .nil) HR.out (fc_wid _) HM.out (by simp) rfl ?_; intro W1 h1 h2; have H1 := keep (And.intro h1 h2); clear h1 h2)
        | fail)
      go_roundg (gk - 1)
      case measure => omega
      case rel =>
        obtain ⟨h1, h2⟩ := H1.out
        refine ⟨j + 1, by omega, rfl, keep ⟨?_, HI.out.2.step_chg h2 fun i e => by rw [e]; exact Nat.le_refl _⟩⟩
        rw [HN.out]
        exact HI.out.1.frames h1 (h2.weak fun a _ ha => congrArg some ha.symm)
    · have hjn : j = n := by omega
      have hjz : ¬ (j : Int) < (n : Int) := by omega
      subst hjn
      clear hlt
      go_wp2_with fail
      go_ret2
      refine ⟨w.heap.size + 1, rfl, keep ⟨⟨some ⟨w.heap.size, 0, none⟩, j, j, none, 0, 0, none, 0, 0⟩, ?_, fun i hi => ?_, HI.out.2⟩⟩
      · have := HI.out.1
        unfold made at this
        rw [Nat.sub_self, List.replicate_zero, List.append_nil] at this
        exact this
      · rcases hi with e | e | e | e
        · omega
        · have e : w.heap.size = i := Option.some.inj e
          omega
        · cases e
        · cases e
end
end Go.Proofs.YtmoaddbpfekdbaaGreat
/- Package clock: Sweep, walked. -/
namespace Go.Proofs.YtmoaddbpfekdbaaGreat
set_option linter.unusedVariables false
set_option linter.unusedSimpArgs false
set_option maxRecDepth 100000
open Go.RowKit
attribute [local go_sem] Oper.semAt_some
theorem arr_next (w : World) (k : Nat) (cs : Array Value) (T : Nat) {W : World} (h : W.heap.size = w.heap.size + k := by simp) : Arr (W.alloc (.cells cs T)) (w.heap.size + k) T cs := by
  rw [← h]
  exact Arr.new W cs T
set_option maxHeartbeats 4000000 in
theorem sweep_no {w : World} {C R : Option Addr} {n cc m rc : Nat} {z : Int} (h : ¬(n = m ∧ 0 < n)) :
    Calls Tryz.prog 82 #[.slice C n cc, .slice R m rc, .int .i64 z] w fun e w' => e = .returned (.tuple #[.int .i64 (-1), .int .i64 0, .slice none 0 0]) ∧ Fr w w' := by
  have hP := fun W => proper_at (w := W) (A := C) (B := R) (n := n) (m := m) (c := cc) (d := rc)
  rw [decide_eq_false h] at hP
  have HP := keep hP
  clear hP h
  refine (callsIn_wide (n := 5)).1 ?_
  refine callsIn_of_wp_marks Tryz.func82 rfl trivial ?_ rfl
  simp only [Tryz.ntmps82, List.size_toArray, List.length_cons, List.length_nil, Nat.reduceAdd, Nat.reduceSub, Array.replicate_succ, Array.replicate_zero, List.push_toArray, List.append_toArray, List.nil_append, List.cons_append]
  gi_wp2_with (first
    | (refine ⟨trivial, ?_⟩; gi_at_call 95; refine (callsIn_wide.2 (HP.out _)).mono ?_; rintro e w' ⟨rfl, rfl⟩)
    | fail)
  refine ⟨.tuple #[.int .i64 (-1), .int .i64 0, .slice none 0 0], sweep_results rfl rfl rfl ?_ ?_ ?_, rfl, fr_new (fr_new (fr_new (fr_new (fr_refl w) _) _) _) _⟩
  · exact ((arr_next w 1 _ _).alloc _).alloc _
  · exact (arr_next w 2 _ _).alloc _
  · exact arr_next w 3 _ _
set_option maxHeartbeats 4000000 in
theorem sweep_yes {w : World} {C R : Option Addr} {n cc rc : Nat} {z : Int} {c r : List Bool} (hc : Has w w.heap.size C (rows bc c)) (hcn : c.length = n) (hr : Has w w.heap.size R (rows bc r)) (hrn : r.length = n) (hn : 0 < n) (hs : n ≤ 100000) :
    Calls Tryz.prog 82 #[.slice C n cc, .slice R n rc, .int .i64 z] w fun e w' => ∃ L lc, e = .returned (.tuple #[.int .i64 (swpL c r z).1, .int .i64 (swpL c r z).2.1, .slice L n lc]) ∧ Hid (ResB w w' L n lc (swpL c r z).2.2 ∧ Fr w w') := by
  have hP := fun W => proper_at (w := W) (A := C) (B := R) (n := n) (m := n) (c := cc) (d := rc)
  rw [decide_eq_true ⟨rfl, hn⟩] at hP
  have HP := keep hP
  clear hP
  obtain ⟨xs, hx⟩ := fin_list (n := n) (vis (hd z n) n (2 * n)) (fun k hk => vis_lt hn hk)
  have hV := fun W => visits_at (w := W) (z := z) (n := n)
  have HV := keep hV
  clear hV
  have HR := keep hr
  have HC := keep hc
  have Hcn := keep hcn
  have Hrn := keep hrn
  have Hx := keep hx
  clear hc hr hcn hrn hx
  obtain ⟨Z, hZ, a3, a6, a7, a8, a9, fZ, sZ⟩ : ∃ Z, (((((w.alloc (.cells #[.slice C n cc] 106)).alloc (.cells #[.int .i64 0] 3)).alloc (.cells #[.int .i64 0] 3)).alloc (.cells #[.slice none 0 0] 106)).alloc (.cells #[.int .i64 n] 3)) = Z ∧
      Arr Z w.heap.size 106 #[.slice C n cc] ∧ Arr Z (w.heap.size + 1) 3 #[.int .i64 0] ∧ Arr Z (w.heap.size + 2) 3 #[.int .i64 0] ∧ Arr Z (w.heap.size + 3) 106 #[.slice none 0 0] ∧ Arr Z (w.heap.size + 4) 3 #[.int .i64 n] ∧ Fr w Z ∧ Z.heap.size = w.heap.size + 5 :=
    ⟨_, rfl, ((((Arr.new w _ _).alloc _).alloc _).alloc _).alloc _, (((arr_next w 1 _ _).alloc _).alloc _).alloc _, ((arr_next w 2 _ _).alloc _).alloc _, (arr_next w 3 _ _).alloc _, arr_next w 4 _ _, fr_new (fr_new (fr_new (fr_new (fr_new (fr_refl w) _) _) _) _) _, by simp⟩
  have hCl := clone_at (w := Z) (A := R) (n := n) (c := rc) (HR.out.fr (Nat.le_refl _) fZ) fZ.size Hrn.out (by omega)
  refine (callsIn_wide (n := 5)).1 ?_
  refine callsIn_of_wp_marks Tryz.func82 rfl trivial ?_ rfl
  simp only [Tryz.ntmps82, List.size_toArray, List.length_cons, List.length_nil, Nat.reduceAdd, Nat.reduceSub, Array.replicate_succ, Array.replicate_zero, List.push_toArray, List.append_toArray, List.nil_append, List.cons_append]
  gi_wp2_with (first
    | (refine ⟨trivial, ?_⟩; gi_at_call 95; refine (callsIn_wide.2 (HP.out _)).mono ?_; rintro e w' ⟨rfl, rfl⟩)
    | (refine ⟨trivial, ?_⟩; gi_at_call 96; with_reducible refine (callsIn_wide.2 hCl).mono ?_; rintro e w1 ⟨L, lc, rfl, hz1⟩; obtain ⟨r1, n1, f1⟩ := hz1.out; clear hCl; have d8 := a8.below f1 a8.lt)
    | (refine wpListIn_store_arr slice_info rfl (.tmp 8) (.tmp 18) rfl (w.heap.size + 3) 0 rfl rfl rfl (.cons rfl .nil) (cs := [_]) d8 (by decide) rfl ?_; intro w2 h8 k8; have c9 := (((a9.below f1 a9.lt).chg k8 (by simp)).cell 0))
    | (refine ⟨trivial, ?_⟩; gi_at_call 97; with_reducible refine (callsIn_wide.2 (HV.out w2)).mono ?_; rintro e w3 ⟨b1, b2, rfl, hz3⟩; obtain ⟨v3, g1, g2, f3⟩ := hz3.out)
    | fail)
  have hSI : SwS w w3 b1 b2 z C n cc L lc (.int .i64 0) (.int .i64 0) r := by
    have e8 : ∀ k, At L k → ¬ k = w.heap.size + 3 := fun k hk e => by have := n1 k hk; omega
    have z1 := f1.size
    have z2 := k8.size
    refine ⟨fr_step (Fr.step_chg (fr_step fZ f1) k8 fun i e => by omega) f3, ?_, ?_, ?_, h8.below f3 h8.lt, ?_, v3, ⟨by omega, by omega⟩, ⟨(r1.chg k8 e8).fr f3, Hrn.out, fun k hk => by have := n1 k hk; omega⟩⟩
    · exact ((a3.below f1 a3.lt).chg k8 (by simp)).below f3 ((a3.below f1 a3.lt).chg k8 (by simp)).lt
    · exact ((a6.below f1 a6.lt).chg k8 (by simp)).below f3 ((a6.below f1 a6.lt).chg k8 (by simp)).lt
    · exact ((a7.below f1 a7.lt).chg k8 (by simp)).below f3 ((a7.below f1 a7.lt).chg k8 (by simp)).lt
    · exact ((a9.below f1 a9.lt).chg k8 (by simp)).below f3 ((a9.below f1 a9.lt).chg k8 (by simp)).lt
  have hsz : w.heap.size ≤ w3.heap.size := hSI.fr.size
  have hb1 := v3.hand.lt
  have hb2 := v3.many.lt
  have hlen : xs.length = 2 * n := by rw [← List.length_map (f := Fin.val), Hx.out, vis_len]
  have HS := keep hSI
  have HV3 := keep v3
  clear hSI v3 c9 h8 k8 r1 n1 f1 hz1 hz3 d8 a3 a6 a7 a8 a9 fZ sZ hZ HV HP f3 g1 g2
  refine wpIn_rangeFunc_ownG rfl (by decide) (gf := 102) (lb := #[.pointer (some ⟨b1, 0, none⟩), .pointer (some ⟨b2, 0, none⟩)]) rfl trivial (enters_of Tryz.func102 (by kernel_rfl) rfl)
    (vis_stops (by decide) hn hs xs Hx.out w3 HV3.out hb1 hb2) kp2_t (kp2_b hb1 hb2) (Below.refl _ _) (fun _ => rfl)
    (SwI w b1 b2 z C n cc L lc c r) (SwX w b1 b2 z C n cc L lc c r) (swI_own hsz) (swX_own hsz) ⟨r, rfl, HS.out⟩
    (fun x => { tmps := #[.slice C n cc, .slice R n rc, .int .i64 z, .pointer (some ⟨w.heap.size, 0, none⟩), undef, undef, .pointer (some ⟨w.heap.size + 1, 0, none⟩), .pointer (some ⟨w.heap.size + 1 + 1, 0, none⟩), .pointer (some ⟨w.heap.size + 1 + 1 + 1, 0, none⟩), .pointer (some ⟨w.heap.size + 1 + 1 + 1 + 1, 0, none⟩), .int .i64 (x.val : Int), .slice C n cc,
          .slice R n rc, .bool true, .bool false, .slice C n cc, .int .i64 n, .slice R n rc, .slice L n lc, .int .i64 n, .int .i64 z, .func (.func 102) #[] #[.pointer (some ⟨b1, 0, none⟩), .pointer (some ⟨b2, 0, none⟩)], .int .i64 (x.val : Int), undef, undef, undef, undef, undef, undef, undef, undef, undef, undef, undef, undef, undef, undef], defers := [] }) ?assign ?body ?done ?stop
  case assign =>
    intro l x W K hK
    gi_wp2
    exact hK
  case body =>
    rintro l pre x W ⟨m, hm, hI⟩ _
    have c3 := hI.can.cell 0
    have c8 := hI.left.cell 0
    simp at c3 c8
    have hch := choose_at (w := W) (C := C) (L := L) (n := n) (cc := cc) (lc := lc) (k := x.val) (HC.out.fr (Nat.le_refl _) hI.fr) Hcn.out hI.res.row hI.res.len x.isLt hs hI.fr.size
    obtain ⟨xv, hxv⟩ : ∃ q : Nat, q = x.val := ⟨_, rfl⟩
    rw [← hxv] at hch ⊢
    have HI := keep hI
    have Hm := keep hm
    have Hxv := keep hxv
    clear hI hm hxv
    cases hq : hit c m xv with
    | false =>
      rw [hq] at hch
      have Hq := keep hq
      clear hq
      gi_wp2_with (first
        | (refine ⟨trivial, ?_⟩; gi_at_call 98; with_reducible refine (CallsIn.inRound l (callsIn_wide.2 hch)).mono ?_; rintro e w4 ⟨rfl, hz4⟩; clear hch)
        | fail)
      obtain ⟨r4, k4⟩ := hz4.out
      exact ⟨HI.out.keeps k4, HI.out.kp k4, _, by rw [List.map_append]; exact sweep_snoc_miss Hm.out (by rw [← Hq.out, Hxv.out]), HI.out.washed k4 (by rw [← Hxv.out]; exact r4) (by rw [wash_len]; exact HI.out.res.len)⟩
    | true =>
      rw [hq] at hch
      have Hq := keep hq
      clear hq
      gi_wp2_with (first
        | (refine ⟨trivial, ?_⟩; gi_at_call 98; with_reducible refine (CallsIn.inRound l (callsIn_wide.2 hch)).mono ?_; rintro e w4 ⟨rfl, hz4⟩; clear hch)
        | fail)
      obtain ⟨r4, k4⟩ := hz4.out
      have hS4 := HI.out.washed k4 r4 (by rw [wash_len]; exact HI.out.res.len)
      have hkp := HI.out.kp k4
      have hke : KeepsFrom w3.heap.size W w4 := HI.out.keeps k4
      have q6 := hS4.place.cell 0
      have q7 := hS4.next.cell 0
      have q8 := hS4.left.cell 0
      have q9 := hS4.many.cell 0
      have z6 := hS4.place.free 0
      have z7 := hS4.next.free 0
      have z8 := hS4.left.free 0
      simp at q6 q7 q8 q9
      have hlt : xv < n := by rw [Hxv.out]; exact x.isLt
      obtain ⟨nx, hnx⟩ : ∃ q : Nat, q = (xv + 1) % n := ⟨_, rfl⟩
      have hnl : nx < n := by rw [hnx]; exact Nat.mod_lt _ hn
      have wa : IntKind.i64.wrap ((xv : Int) + 1) = (xv : Int) + 1 := by rw [IntKind.wrap_i64]; omega
      have wt : ((xv : Int) + 1) % (n : Int) = (nx : Int) := by rw [hnx, ← Int.natCast_succ, ← Int.natCast_emod]
      have wx : IntKind.i64.wrap (nx : Int) = (nx : Int) := by rw [IntKind.wrap_i64]; omega
      have hz : ¬ ((n : Int) = 0) := by omega
      have hz2 : ¬ (n = 0) := by omega
      have hmx : Tryz.prog.follows .mixedOrders = true := by kernel_rfl
      have HS4 := keep hS4
      have Hkp := keep hkp
      have Hke := keep hke
      have Hnx := keep hnx
      clear hS4 hkp hke r4 k4 hz4 hnx c3 c8
      have hrD : (fun W' : World => W'.cell? ⟨w.heap.size + 1 + 1 + 1, 0, none⟩ = some (.slice L n lc) ∧ W'.cell? ⟨w.heap.size + 1 + 1 + 1 + 1, 0, none⟩ = some (.int .i64 n)) w4.drew := ⟨q8, q9⟩
      refine wpIn_round_held (S := fun W' : World => W'.cell? ⟨w.heap.size + 1 + 1 + 1, 0, none⟩ = some (.slice L n lc) ∧ W'.cell? ⟨w.heap.size + 1 + 1 + 1 + 1, 0, none⟩ = some (.int .i64 n)) hmx (by kernel_rfl) hrD (fun hHeld => ?_)
      change wpAnyH _ _ _ _ _ _ _ _ _
      refine wpAnyH_take (i := 0) (v := ?_) rfl (by kernel_rfl) (by kernel_rfl) (by kernel_rfl) (fun _ _ _ h => h) (Or.inl ⟨by rfl, ?_⟩) (by assumption) ?_
      rotate_left
      · intro w' hSw
        try dsimp only at hSw
        go_simp
        try with_reducible rfl
      try simp only [List.getElem_toArray, List.getElem_cons_zero, Act.put, List.setIfInBounds_toArray, List.set_cons_zero, List.set_cons_succ]
      refine wpAnyH_take (i := 1) (v := ?_) rfl (by kernel_rfl) (by kernel_rfl) (by kernel_rfl) (fun _ _ _ h => h) (Or.inl ⟨by rfl, ?_⟩) (by assumption) ?_
      rotate_left
      · intro w' hSw
        try dsimp only at hSw
        go_simp
        try with_reducible rfl
      try simp only [List.getElem_toArray, List.getElem_cons_succ, List.getElem_cons_zero, Act.put, List.setIfInBounds_toArray, List.set_cons_zero, List.set_cons_succ]
      refine wpAnyH_take (i := 2) (v := ?_) rfl (by kernel_rfl) (by kernel_rfl) (by kernel_rfl) (fun _ _ _ h => h) (Or.inl ⟨by rfl, ?_⟩) (by assumption) ?_
      rotate_left
      · intro w' hSw
        try dsimp only at hSw
        go_simp
        try with_reducible rfl
      try simp only [List.getElem_toArray, List.getElem_cons_succ, List.getElem_cons_zero, Act.put, List.setIfInBounds_toArray, List.set_cons_zero, List.set_cons_succ]
      refine wpAnyH_take (i := 3) (v := ?_) rfl (by kernel_rfl) (by kernel_rfl) (by kernel_rfl) (fun _ _ _ h => h) (Or.inl ⟨by rfl, ?_⟩) (by assumption) ?_
      rotate_left
      · intro w' hSw
        try dsimp only at hSw
        go_simp
        try with_reducible rfl
      try simp only [List.getElem_toArray, List.getElem_cons_succ, List.getElem_cons_zero, Act.put, List.setIfInBounds_toArray, List.set_cons_zero, List.set_cons_succ]
      refine wpAnyH_take (i := 4) (v := ?_) rfl (by kernel_rfl) (by kernel_rfl) (by kernel_rfl) (fun _ _ _ h => h) (Or.inl ⟨by rfl, ?_⟩) (by assumption) ?_
      rotate_left
      · intro w' hSw
        try dsimp only at hSw
        go_simp
        try with_reducible rfl
      try simp only [List.getElem_toArray, List.getElem_cons_succ, List.getElem_cons_zero, Act.put, List.setIfInBounds_toArray, List.set_cons_zero, List.set_cons_succ]
      refine wpAnyH_take (i := 5) (v := ?_) rfl (by kernel_rfl) (by kernel_rfl) (by kernel_rfl) (fun _ _ _ h => h) (Or.inl ⟨by rfl, ?_⟩) (by assumption) ?_
      rotate_left
      · intro w' hSw
        try dsimp only at hSw
        go_simp
        try with_reducible rfl
      try simp only [List.getElem_toArray, List.getElem_cons_succ, List.getElem_cons_zero, Act.put, List.setIfInBounds_toArray, List.set_cons_zero, List.set_cons_succ]
      refine wpAnyH_ready (rs := [6]) (by kernel_rfl) (by simp) ?_
      refine AllReadyH.cons rfl (fun K hK0 => ?_) AllReadyH.nil
      go_simp
      refine hK0.out _ _ (by refine ⟨?_, ?_⟩ <;> go_simp) (fun _ => ?_)
      clear hK0 K
      try simp only [List.getElem_toArray, List.getElem_cons_succ, List.getElem_cons_zero, Act.put, List.setIfInBounds_toArray, List.set_cons_zero, List.set_cons_succ]
      refine wpAnyH_ready (rs := [7]) (by kernel_rfl) (by simp) ?_
      refine AllReadyH.cons rfl (fun K hK0 => ?_) AllReadyH.nil
      go_simp
      refine hK0.out _ _ (by refine ⟨?_, ?_⟩ <;> go_simp) (fun _ => ?_)
      clear hK0 K
      try simp only [List.getElem_toArray, List.getElem_cons_succ, List.getElem_cons_zero, Act.put, List.setIfInBounds_toArray, List.set_cons_zero, List.set_cons_succ]
      refine wpAnyH_ready (rs := [8]) (by kernel_rfl) (by simp) ?_
      refine AllReadyH.cons rfl (fun K hK0 => ?_) AllReadyH.nil
      go_simp
      refine hK0.out _ _ (by refine ⟨?_, ?_⟩ <;> go_simp) (fun _ => ?_)
      clear hK0 K
      try simp only [List.getElem_toArray, List.getElem_cons_succ, List.getElem_cons_zero, Act.put, List.setIfInBounds_toArray, List.set_cons_zero, List.set_cons_succ]
      refine wpAnyH_done (by kernel_rfl) ?_ _
      simp only [Exit.then]
      have e9 : ((xv : Int) + 1).tmod (n : Int) = (nx : Int) := by rw [Hnx.out, ← Int.natCast_succ, ← Int.ofNat_tmod]
      rw [e9]
      obtain ⟨g1, g2, g3⟩ := HS4.out.stored (.int .i64 xv) (.int .i64 nx)
      revert g1 g2 g3
      generalize (((w4.setCell ⟨w.heap.size + 1, 0, none⟩ (.int .i64 (xv : Int))).setCell ⟨w.heap.size + 1 + 1, 0, none⟩ (.int .i64 (nx : Int))).setCell ⟨w.heap.size + 1 + 1 + 1, 0, none⟩ (.slice L n lc)).drew = W5
      intro g1 g2 g3
      have G1 := keep g1
      have G2 := keep g2
      clear g1 g2 g3 hHeld q6 q7 q8 q9 z6 z7 z8 wa wt wx hrD
      gi_wp2
      refine ⟨Hke.out.trans (G2.out.from _), rfl, _, x.val, by rw [List.map_append]; exact sweep_snoc_hit Hm.out (by rw [← Hq.out, Hxv.out]), ?_⟩
      rw [← Hxv.out, ← Hnx.out]
      exact G1.out
  case done =>
    rintro D ys W hD rfl ⟨m, hm, hI⟩ hK
    rw [Hx.out] at hm
    have c9 := hI.many.cell 0
    have q6 := hI.place.cell 0
    have q7 := hI.next.cell 0
    have q8 := hI.left.cell 0
    have z6 := hI.place.free 0
    have z7 := hI.next.free 0
    have z8 := hI.left.free 0
    simp at q6 q7 q8 c9
    have hRd := fun W => reduce_at (w := W) (z := z) hn hs
    have hh := hd_lt z hn
    obtain ⟨h, hh0⟩ : ∃ h, h = hd z n := ⟨_, rfl⟩
    rw [← hh0] at hh
    simp only [← hh0] at hRd
    have HRd := keep hRd
    have HI := keep hI
    have Hm := keep hm
    have Hh0 := keep hh0
    clear hRd hI hm hh0
    gi_wp2
    refine wpIn_no_panic (wpIn_wide.2 ?_)
    go_region_with (go_at_call 99; refine (HRd.out _).mono ?_; rintro e w' ⟨rfl, rfl⟩)
    all_goals
      simp only [Exit.then]
      obtain ⟨g1, g2, g3⟩ := HI.out.stored (.int .i64 (-1)) (.int .i64 h)
      revert g1 g2 g3
      generalize (((W.setCell ⟨w.heap.size + 1, 0, none⟩ (.int .i64 (-1))).setCell ⟨w.heap.size + 1 + 1, 0, none⟩ (.int .i64 (h : Int))).setCell ⟨w.heap.size + 1 + 1 + 1, 0, none⟩ (.slice L n lc)).drew = W5
      intro g1 g2 g3
      have hK5 := g2.same D _ hK rfl
      have hG := g1.grown (Nat.le_refl _) (grown_chg (grownBy_putObj' W5 D (.deferred none)) (B := w.heap.size) (fun i e => by cases e; exact ⟨Nat.le_trans hsz hD, _, hK5, rfl⟩))
      have HG := keep hG
      have e1 := swp_yes z Hcn.out Hrn.out hn rfl Hm.out
      have E1 := keep e1
      clear g1 g2 g3 q6 q7 q8 c9 z6 z7 z8 hG e1
      gi_wp2
      refine ⟨by simp, .inl ⟨_, _, rfl, run_takeDeferred hK5, ?_⟩⟩
      refine ⟨_, sweep_results rfl rfl rfl HG.out.place HG.out.next HG.out.left, L, lc, ?_, keep ⟨?_, HG.out.fr⟩⟩
      · rw [E1.out, Hh0.out]; rfl
      · rw [E1.out]; exact HG.out.res
  case stop =>
    rintro D cd pre W hD hpre ⟨rfl, m, k, hm, hI⟩ hK
    have hpx : pre.map Fin.val <+: vis (hd z n) n (2 * n) := by rw [← Hx.out]; exact hpre.map _
    have e1 := swp_yes z Hcn.out Hrn.out hn rfl (sweep_pre hpx hm)
    have hG := hI.grown (Nat.le_refl _) (grown_chg (grownBy_putObj' W D (.deferred none)) (B := w.heap.size) (fun i e => by cases e; exact ⟨Nat.le_trans hsz hD, _, hK, rfl⟩))
    gi_wp2
    refine ⟨by simp, .inl ⟨_, _, rfl, run_takeDeferred hK, ?_⟩⟩
    refine ⟨_, sweep_results rfl rfl rfl hG.place hG.next hG.left, L, lc, ?_, keep ⟨?_, hG.fr⟩⟩
    · rw [e1]; rfl
    · rw [e1]; exact hG.res
/-- Sweep, whatever the lists. -/
theorem sweep_at {w : World} {C R : Option Addr} {n cc m rc : Nat} {z : Int} {c r : List Bool} (hc : Has w w.heap.size C (rows bc c)) (hcn : c.length = n) (hr : Has w w.heap.size R (rows bc r)) (hrn : r.length = m) (hs : n ≤ 100000) :
    Calls Tryz.prog 82 #[.slice C n cc, .slice R m rc, .int .i64 z] w fun e w' => ∃ L k lc, e = .returned (.tuple #[.int .i64 (swpL c r z).1, .int .i64 (swpL c r z).2.1, .slice L k lc]) ∧ Hid (ResB w w' L k lc (swpL c r z).2.2 ∧ Fr w w') := by
  by_cases h : n = m ∧ 0 < n
  · obtain ⟨rfl, hn⟩ := h
    refine (sweep_yes hc hcn hr hrn hn hs).mono ?_
    rintro e w' ⟨L, lc, h1, h2⟩
    exact ⟨L, n, lc, h1, h2⟩
  · refine (sweep_no h).mono ?_
    rintro e w' ⟨rfl, h2⟩
    rw [swp_no z (by rw [hcn, hrn]; exact h)]
    exact ⟨none, 0, 0, rfl, keep ⟨⟨Rw.nil _ _ _, rfl, fun k hk => by cases hk⟩, h2⟩⟩
end Go.Proofs.YtmoaddbpfekdbaaGreat
