/- Buffers in memory, four: 'slices.Insert' of a message in the midst, where there is room. -/
import Derived.Test.YtnfoebcfhldemaaBufA
import Derived.Deep.RegionLaw
import Derived.Lib.SlBuf
import Derived.Test.YtnfoebcfhldemaaOwn
import Derived.Test.YtnfoebcfhldemaaMsgF
namespace Go.Proofs.Ytnfoebcfhldemaa
set_option maxRecDepth 100000
open Go.RowKit
set_option linter.unusedVariables false
attribute [local go_sem ↓] key_ld msg_ld
theorem own_drew {w : World} {B e size n c : Nat} {A : Option Addr} {xs : List Value} (h : Own w B e size A n c xs) : Own w.drew B e size A n c xs := h
theorem msg_info' : ∃ i z, Try.prog.info? 36 = some i ∧ i.size = 29 ∧ i.zero = some z ∧ z.cells.size = 29 ∧ i.bytes = 64 := by
  obtain ⟨i, z, h1, h2, h3, h4, h5⟩ := msg_elem.row
  exact ⟨i, z, h1, h3, h2, h5, h4⟩
theorem mid_len {n i : Nat} (h : i < n) : (i + 1 + (n - i)) = n + 1 := by omega
theorem insert_math {l : List RM} {m : RM} {i n : Nat} (hi : i < n) (hn : l.length = n) (wl : WfM l) (wm : m.wf) (ys : List Value) (hys : ys.length = 29) :
    (((rows mc l ++ ys).take ((i + 1) * 29) ++ rows mc (l.drop i) ++ (rows mc l ++ ys).drop ((i + 1 + (n - i)) * 29)).take (i * 29) ++ mc m ++ ((rows mc l ++ ys).take ((i + 1) * 29) ++ rows mc (l.drop i) ++ (rows mc l ++ ys).drop ((i + 1 + (n - i)) * 29)).drop ((i + 1) * 29)) = rows mc (l.take i ++ m :: l.drop i) := by
  have hlen : (rows mc l).length = n * 29 := by rw [rows_len wl.wid, hn]
  have e1 : (rows mc l ++ ys).drop ((i + 1 + (n - i)) * 29) = [] := List.drop_eq_nil_of_le (by rw [List.length_append, hlen, hys, mid_len hi]; omega)
  have e2 : ((rows mc l ++ ys).take ((i + 1) * 29)).length = (i + 1) * 29 := by rw [List.length_take, List.length_append, hlen, hys]; omega
  rw [e1, List.append_nil, List.drop_left' e2, List.take_append_of_le_length (by rw [e2]; omega), List.take_take, Nat.min_eq_left (by omega), List.take_append_of_le_length (by rw [hlen]; omega), ← rows_take wl.wid, rows_append, rows_cons, List.append_assoc]
set_option maxHeartbeats 2000000 in
theorem insert_room {w : World} {A : Option Addr} {n c B V i : Nat} {l : List RM} {m : RM} (ho : OwnM w B A c l) (hB : B ≤ w.heap.size) (hn : l.length = n) (hsm : n ≤ 1000000) (wl : WfM l) (wm : m.wf) (hv : Arr w V 36 (mc m).toArray) (hVA : blk A ≠ some V) (hi : i < n) (hc : n + 1 ≤ c) :
    Calls Try.prog 81 #[.slice A n c, .int .i64 i, .slice (some ⟨V, 0, none⟩) 1 1] w fun e w' => ∃ A' c', e = .returned (.slice A' (n + 1) c') ∧ OwnM w' B A' c' (l.take i ++ m :: l.drop i) ∧ Below B w w' := by
  unfold OwnM at ho
  rw [hn] at ho
  obtain ⟨g, rfl⟩ := ho.addr (by omega)
  have hgV : g ≠ V := fun e => hVA (by rw [e]; rfl)
  have hlen : (rows mc l).length = n * 29 := by rw [rows_len wl.wid, hn]
  obtain ⟨-, hBg, -, hcm, cur, hcur, hcs, -⟩ := ho.row
  obtain ⟨ys, ho1, hys0⟩ := ho.more (m := n + 1) (by omega) hc
  have hys : ys.length = 29 := by rw [hys0]; omega
  obtain ⟨inf, -, hinf, hsize, -, -, -⟩ := msg_info'
  have hsrc : Has w.drew w.heap.size (some ⟨g, i * 29, none⟩) (rows mc (l.drop i)) := by
    have := ho.has
    have h2 := has_rows_drop this wl.wid i
    rw [Nat.zero_add] at h2
    exact h2
  have hdl : (rows mc (l.drop i)).length = (n - i) * 29 := by rw [rows_len (wl.wid.drop i), List.length_drop, hn]
  obtain ⟨w1, hr1, ho2, hg1⟩ := run_copy_own (P := Try.prog) w.drew 23 3 inf msgs_under hinf hsize (own_drew ho1) (i + 1) (n - i) (c - (i + 1)) w.heap.size (some ⟨g, i * 29, none⟩) (n - i) (n + 1 - i) (c - i) (rows mc (l.drop i)) hdl hsrc (rows_mc_one _) (Nat.min_eq_right (by omega)) (by omega) (by omega) (by decide)
  have hv1 : Arr w1 V 36 (mc m).toArray := grownBy_arr hg1 (Arr.drew hv) hgV
  obtain ⟨w2, hr2, ho3, hg2⟩ := run_copy_own (P := Try.prog) w1 23 3 inf msgs_under hinf hsize ho2 i (n + 1 - i) (c - i) (V + 1) (some ⟨V, 0, none⟩) 1 1 1 (mc m) (mc_len wm.val.hl) (arr_has w1 hv1) (mc_one m) (Nat.min_eq_left (by omega)) (by omega) (by omega) (by decide)
  rw [insert_math hi hn wl wm ys hys] at ho3
  have hb1 : Below B w w1 := (Below.refl B w).drew.trans (grownBy_below hg1 hBg hB)
  have hb2 : Below B w w2 := hb1.trans (grownBy_below hg2 hBg (Nat.le_trans hB hb1.size))
  have ho4 := keep ho3
  have hov : (callFunc 90 #[.slice (some ⟨V, 0, none⟩) 1 1, .slice (some ⟨g, (i + 1) * 29, none⟩) (n - i) (c - (i + 1))]).run Try.prog w = .ok (.value (.bool false)) w := by
    rw [run_callFunc_extern Try.func90 (by kernel_rfl) (by kernel_rfl) (by kernel_rfl) (e := Extern.SlicesOverlaps.overlaps #[23, 23] #[4]) (by kernel_rfl),
      Lib.run_overlaps_apart w 23 4 36 msgs_under 29 (fun w => msgS.size (w := w)) ⟨V, 0, none⟩ ⟨g, (i + 1) * 29, none⟩ 1 1 (n - i) (c - (i + 1)) (fun e => hgV e.symm) _ _ _ _ (arr_shape w hv) (arr_shape w hcur) (by rw [hcs]; omega) (hv.free 0) (hv.free _)]
    rfl
  have q1 := msgs_slice_lo (some ⟨g, 0, none⟩) n c i (by omega)
  rw [lowM_some (by omega), Nat.zero_add] at q1
  have q2 := msgs_slice_hi (some ⟨g, 0, none⟩) n c (n + 1) hc
  rw [Int.natCast_succ] at q2
  have q3 := msgs_slice_lo (some ⟨g, 0, none⟩) (n + 1) c (i + 1) (by omega)
  rw [lowM_some (by omega), Nat.zero_add, Int.natCast_succ, Nat.add_sub_add_right] at q3
  have q4 := msgs_slice_lo (some ⟨g, 0, none⟩) (n + 1) c i (by omega)
  rw [lowM_some (by omega), Nat.zero_add] at q4
  have hwi : IntKind.i64.wrap ((i : Int) + 1) = (i : Int) + 1 := by rw [IntKind.wrap_i64]; omega
  have hz2 : ¬ ((i : Int) = (n : Int)) := by omega
  have hz3 : ¬ ((c : Int) < (n : Int) + 1) := by omega
  have hlenr : (l.take i ++ m :: l.drop i).length = n + 1 := by simp [hn]; omega
  have Hlen := keep hlenr
  have Hb2 := keep hb2
  clear ho ho1 ho2 ho3 hg1 hg2 hb1 hb2 hsrc hdl hcur hcs hcm hv hv1 hlen hlenr hBg hinf hsize hys hys0 hn hVA wl wm cur inf ys
  go_enter Try.func81, Try.ntmps81
  go_wp2_with fail
  go_region_law (first
    | (refine step_copy_run rfl (.tmp 73) (.tmp 76) 23 23 rfl _ _ ?_ ?_ hr1 ?_
       · go_simp
       · go_simp)
    | fail)
  all_goals
    go_wp2_with (first
      | (refine Lib.wpList_copy_run _ rfl (.tmp 80) (.tmp 81) 23 23 rfl _ _ rfl rfl hr2 ?_)
      | fail)
    go_ret
    refine ⟨some ⟨g, 0, none⟩, c, rfl, ?_, Hb2.out⟩
    unfold OwnM
    rw [Hlen.out]
    exact ho4.out
end Go.Proofs.Ytnfoebcfhldemaa
/- Buffers in memory, five: 'slices.Insert' of a message in the midst, where there is no room; and wherever. -/
namespace Go.Proofs.Ytnfoebcfhldemaa
set_option maxRecDepth 100000
open Go.RowKit
set_option linter.unusedVariables false
attribute [local go_sem ↓] key_ld msg_ld
theorem wpList_append_run {P : Program} (w : World) {ops : Array Oper} {rest : List Oper} {o : Oper} {a : Act} {Q : Exit → Act → World → Prop} (hgd : o.guard = none) (d s : Operand) (t t' : TypeId)
    (ho : o.op = .call { callee := .builtin .append, args := #[d, s], argTypes := #[t, t'] }) (v u : Value) (hd : a.eval d = v) (hs : a.eval s = u) {v' : Value} {w' : World}
    (hr : (Builtin.append_ #[t, t'] o.type #[v, u]).run P w = .ok v' w') (h : wpList P ops Q rest (a.put o.dst v') w') : wpList P ops Q (o :: rest) a w :=
  wpList_plain hgd fun _ hK => by
    unfold Oper.wp execOp
    simp only [ho, resolve, invoke, builtin, Sem.run_bind, Sem.run_pure, Result.andThen_ok, List.map_toArray, List.map_cons, List.map_nil, hd, hs, hr]
    exact hK _ _ h
theorem grow_math {l : List RM} {m : RM} {i n : Nat} (hi : i < n) (hn : l.length = n) (wl : WfM l) (wm : m.wf) (zs : List Value) (hzs : zs.length = (n + 1 - i) * 29) :
    (((rows mc l).take (i * 29) ++ zs).take (i * 29) ++ mc m ++ ((rows mc l).take (i * 29) ++ zs).drop ((i + 1) * 29)).take ((i + 1) * 29) ++ rows mc (l.drop i) ++ (((rows mc l).take (i * 29) ++ zs).take (i * 29) ++ mc m ++ ((rows mc l).take (i * 29) ++ zs).drop ((i + 1) * 29)).drop ((i + 1 + (n - i)) * 29) = rows mc (l.take i ++ m :: l.drop i) := by
  have hlen : (rows mc l).length = n * 29 := by rw [rows_len wl.wid, hn]
  have h1 : ((rows mc l).take (i * 29)).length = i * 29 := by rw [List.length_take, hlen]; omega
  have hm := mc_len wm.val.hl
  have e0 : ((rows mc l).take (i * 29) ++ zs).take (i * 29) = rows mc (l.take i) := by rw [List.take_left' h1, ← rows_take wl.wid]
  have hlt : (rows mc (l.take i)).length = i * 29 := by rw [rows_take wl.wid, h1]
  rw [e0]
  have e1 : (rows mc (l.take i) ++ mc m ++ ((rows mc l).take (i * 29) ++ zs).drop ((i + 1) * 29)).take ((i + 1) * 29) = rows mc (l.take i) ++ mc m := List.take_left' (by rw [List.length_append, hlt, hm]; omega)
  have e2 : (rows mc (l.take i) ++ mc m ++ ((rows mc l).take (i * 29) ++ zs).drop ((i + 1) * 29)).drop ((i + 1 + (n - i)) * 29) = [] := List.drop_eq_nil_of_le (by rw [List.length_append, List.length_append, List.length_drop, List.length_append, hlt, hm, h1, hzs]; omega)
  rw [e1, e2, List.append_nil, rows_append, rows_cons, List.append_assoc]
theorem grownBy_none {w w' : World} {B : Nat} (h : w.grownBy w' none) (hB : B ≤ w.heap.size) : Below B w w' := (Below.refl B w).grown h hB (fun k hk => by cases hk)
theorem grownBy_arr' {T V : Nat} {cs : Array Value} {w w' : World} (h : w.grownBy w' none) (ha : Arr w V T cs) : Arr w' V T cs := (h.block V ha.lt (by simp)).trans ha
set_option maxHeartbeats 2000000 in
theorem insert_grow {w : World} {A : Option Addr} {n c B V i : Nat} {l : List RM} {m : RM} (ho : OwnM w B A c l) (hB : B ≤ w.heap.size) (hn : l.length = n) (hsm : n ≤ 1000000) (wl : WfM l) (wm : m.wf) (hv : Arr w V 36 (mc m).toArray) (hi : i < n) (hc : c < n + 1) :
    Calls Try.prog 81 #[.slice A n c, .int .i64 i, .slice (some ⟨V, 0, none⟩) 1 1] w fun e w' => ∃ A' c', e = .returned (.slice A' (n + 1) c') ∧ OwnM w' B A' c' (l.take i ++ m :: l.drop i) ∧ Below B w w' := by
  unfold OwnM at ho
  rw [hn] at ho
  obtain ⟨g, rfl⟩ := ho.addr (by omega)
  have hlen : (rows mc l).length = n * 29 := by rw [rows_len wl.wid, hn]
  have hcap := ho.cap
  obtain ⟨inf, z, hinf, hsize, hz, hzs, hby⟩ := msg_info'
  have hint : Try.prog.underlying 3 = some (.int .i64) := Try.underlying3
  obtain ⟨c', w1, zs, hr0, ho1, hzl, hg1⟩ := run_append_zeros_new (P := Try.prog) w 23 3 23 inf z 64 .i64 .i64 msgs_under hint hinf hz hsize hby hzs (by decide) _ (ho.pre (i := i) (by omega)) (n + 1 - i) (by omega) (by omega) (by simp only [maxLen]; omega) (by omega) hB
  rw [show i + (n + 1 - i) = n + 1 by omega] at hr0 ho1
  rw [show ((n + 1 - i : Nat) : Int) = (n : Int) + 1 - (i : Int) by omega] at hr0
  have hH : g < w.heap.size := (ho.lt g rfl).2
  have hVH : w.heap.size ≠ V := by have := hv.lt; omega
  have hcap' := ho1.cap
  have hv1 := grownBy_arr' hg1 hv
  have hs1 : Own w1 B 36 29 (some ⟨g, 0, none⟩) n c (rows mc l) := ho.kept hg1 (.inr (by simp [blk]))
  obtain ⟨w2, hr1, ho2, hg2⟩ := run_copy_own (P := Try.prog) w1 23 3 inf msgs_under hinf hsize ho1 i (n + 1 - i) (c' - i) (V + 1) (some ⟨V, 0, none⟩) 1 1 1 (mc m) (mc_len wm.val.hl) (arr_has w1 hv1) (mc_one m) (Nat.min_eq_left (by omega)) (by omega) (by omega) (by decide)
  have hs2 : Own w2 B 36 29 (some ⟨g, 0, none⟩) n c (rows mc l) := hs1.kept hg2 (.inr (by simp [blk]; omega))
  have hsrc : Has w2.drew w2.heap.size (some ⟨g, i * 29, none⟩) (rows mc (l.drop i)) := by
    have h2 := has_rows_drop hs2.has wl.wid i
    rw [Nat.zero_add] at h2
    exact h2
  have hdl : (rows mc (l.drop i)).length = (n - i) * 29 := by rw [rows_len (wl.wid.drop i), List.length_drop, hn]
  obtain ⟨w3, hr2, ho3, hg3⟩ := run_copy_own (P := Try.prog) w2.drew 23 3 inf msgs_under hinf hsize (own_drew ho2) (i + 1) (n - i) (c' - (i + 1)) w2.heap.size (some ⟨g, i * 29, none⟩) (n - i) (n - i) (c - i) (rows mc (l.drop i)) hdl hsrc (rows_mc_one _) (Nat.min_self _) (by omega) (by omega) (by decide)
  rw [grow_math hi hn wl wm zs hzl] at ho3
  have hb1 : Below B w w1 := grownBy_none hg1 hB
  have hb2 : Below B w w2 := hb1.trans (grownBy_below hg2 hB (Nat.le_trans hB hb1.size))
  have hb3 : Below B w w3 := hb2.drew.trans (grownBy_below hg3 hB (Nat.le_trans hB hb2.size))
  have ho4 := keep ho3
  have q1 := msgs_slice_lo (some ⟨g, 0, none⟩) n c i (by omega)
  rw [lowM_some (by omega), Nat.zero_add] at q1
  have q2 := msgs_slice_hi (some ⟨g, 0, none⟩) n c i (by omega)
  have q3 := msgs_slice_lo (some ⟨w.heap.size, 0, none⟩) (n + 1) c' (i + 1) (by omega)
  rw [lowM_some (by omega), Nat.zero_add, Int.natCast_succ, Nat.add_sub_add_right] at q3
  have q4 := msgs_slice_lo (some ⟨w.heap.size, 0, none⟩) (n + 1) c' i (by omega)
  rw [lowM_some (by omega), Nat.zero_add] at q4
  have hwi : IntKind.i64.wrap ((i : Int) + 1) = (i : Int) + 1 := by rw [IntKind.wrap_i64]; omega
  have hz2 : ¬ ((i : Int) = (n : Int)) := by omega
  have hz3 : ((c : Int) < (n : Int) + 1) := by omega
  have hlenr : (l.take i ++ m :: l.drop i).length = n + 1 := by simp [hn]; omega
  have Hlen := keep hlenr
  have Hb3 := keep hb3
  clear ho ho1 ho2 ho3 hg1 hg2 hg3 hb1 hb2 hb3 hsrc hdl hv hv1 hlen hlenr hinf hsize hn wl wm hs1 hs2 hz hzs hby inf z hzl zs hint
  go_enter Try.func81, Try.ntmps81
  go_wp2_with (first
    | (refine wpList_append_run _ rfl (.tmp 34) (.tmp 39) 23 3 rfl _ _ rfl rfl hr0 ?_)
    | (refine Lib.wpList_copy_run _ rfl (.tmp 43) (.tmp 44) 23 23 rfl _ _ rfl rfl hr1 ?_)
    | fail)
  go_region_law (first
    | (refine step_copy_run rfl (.tmp 50) (.tmp 53) 23 23 rfl _ _ ?_ ?_ hr2 ?_
       · go_simp
       · go_simp)
    | fail)
  all_goals
    go_wp2_with fail
    go_ret
    refine ⟨some ⟨w.heap.size, 0, none⟩, c', rfl, ?_, Hb3.out⟩
    unfold OwnM
    rw [Hlen.out]
    exact ho4.out
/-- 'slices.Insert' of one message. -/
theorem insert_at {w : World} {A : Option Addr} {n c B V i : Nat} {l : List RM} {m : RM} (ho : OwnM w B A c l) (hB : B ≤ w.heap.size) (hn : l.length = n) (hsm : n ≤ 1000000) (wl : WfM l) (wm : m.wf) (hv : Arr w V 36 (mc m).toArray) (hVA : blk A ≠ some V) (hi : i ≤ n) :
    Calls Try.prog 81 #[.slice A n c, .int .i64 i, .slice (some ⟨V, 0, none⟩) 1 1] w fun e w' => ∃ A' c', e = .returned (.slice A' (n + 1) c') ∧ OwnM w' B A' c' (l.take i ++ m :: l.drop i) ∧ Below B w w' := by
  rcases Nat.lt_or_ge i n with h | h
  · rcases Nat.lt_or_ge c (n + 1) with h2 | h2
    · exact insert_grow ho hB hn hsm wl wm hv h h2
    · exact insert_room ho hB hn hsm wl wm hv hVA h h2
  · obtain rfl : i = n := by omega
    have e1 : l.take i = l := List.take_of_length_le (by omega)
    have e2 : l.drop i = [] := List.drop_eq_nil_of_le (by omega)
    rw [e1, e2]
    exact insert_end ho hB hn hsm wl wm hv
end Go.Proofs.Ytnfoebcfhldemaa
/- Buffers in memory, six: 'enter'. -/
namespace Go.Proofs.Ytnfoebcfhldemaa
set_option maxRecDepth 100000
open Go.RowKit
set_option linter.unusedVariables false
attribute [local go_sem ↓] key_ld msg_ld msg_st
theorem msg_box1 (w : World) (m : RM) : ∃ Z, w.alloc (.cells (mc m).toArray 36) = Z ∧ Fr w Z ∧ Fr Z Z ∧ Arr Z w.heap.size 36 (mc m).toArray ∧ Z.heap.size = w.heap.size + 1 := ⟨_, rfl, fr_new (fr_refl w) _, fr_refl _, Arr.new w _ _, by simp⟩
theorem build_fold : ∀ (cs : List Value) (k : Nat) (z : Array Value), k + cs.length = z.size → List.foldl (fun (cs : Array Value) (x : Value × Nat) => cs.setIfInBounds x.snd x.fst) z (cs.zipIdx k) = (z.toList.take k ++ cs).toArray
  | [], k, z, h => by
    simp at h
    subst h
    simp [List.take_of_length_le]
  | v :: cs, k, z, h => by
    simp only [List.length_cons] at h
    rw [List.zipIdx_cons, List.foldl_cons, build_fold cs (k + 1) _ (by simp; omega)]
    congr 1
    simp only [Array.toList_setIfInBounds]
    rw [show v :: cs = [v] ++ cs from rfl, ← List.append_assoc]
    congr 1
    apply List.ext_getElem?
    intro j
    simp only [List.getElem?_take, List.getElem?_set, List.getElem?_append, List.length_take, Array.length_toList]
    by_cases h1 : j < k
    · have : min k z.size = k := by omega
      simp [h1, this, show j < k + 1 by omega, Nat.ne_of_gt h1]
    · by_cases h2 : j = k
      · subst h2
        have : min j z.size = j := by omega
        have : j < z.size := by omega
        simp [*]
      · have : min k z.size = k := by omega
        simp [h1, this, show ¬ j < k + 1 by omega]
        omega
theorem msg_fold {m : RM} (hl : (mc m).length = 29) : List.foldl (fun (cs : Array Value) (x : Value × Nat) => cs.setIfInBounds x.snd x.fst) (mc zeroM).toArray (mc m).zipIdx = (mc m).toArray := by
  have := build_fold (mc m) 0 (mc zeroM).toArray (by rw [hl]; rfl)
  simpa using this
set_option maxHeartbeats 2000000 in
theorem enter_new {w : World} {A : Option Addr} {n c B : Nat} {l : List RM} {m : RM} (ho : OwnM w B A c l) (hB : B ≤ w.heap.size) (hn : l.length = n) (hsm : n ≤ 100000) (ol : OkL l) (wm : m.wf) (om : okM m = true) (hf : findL l m.key = none) :
    Calls Try.prog 58 #[.slice A n c, mm m] w fun e w' => ∃ A' c', e = .returned (.slice A' (n + 1) c') ∧ OwnM w' B A' c' (l.take (posL l (cd m)) ++ m :: l.drop (posL l (cd m))) ∧ Below B w w' := by
  obtain ⟨Z, hZ, hF, hZZ, hM, hS⟩ := msg_box1 w m
  have hoZ : OwnM Z B A c l := Own.below ho hF (Nat.le_refl _)
  have cP := place_at (c := c) hoZ.has (Nat.le_refl _) hn (by omega) ol wm.key (okM_key om)
  rw [hf] at cP
  have cI : ∀ W, Fr Z W → Calls Try.prog 81 #[.slice A n c, .int .i64 (posL l (code m.key) : Nat), .slice (some ⟨W.heap.size, 0, none⟩) 1 1] (W.alloc (.cells (mc m).toArray 36)) fun e w' => ∃ A' c', e = .returned (.slice A' (n + 1) c') ∧ OwnM w' B A' c' (l.take (posL l (cd m)) ++ m :: l.drop (posL l (cd m))) ∧ Below B w w' := fun W hW => by
    have hoW : OwnM W B A c l := Own.below hoZ hW (Nat.le_refl _)
    have hb : Below B w W := (hF.mono hB).trans (hW.mono (Nat.le_trans hB hF.size))
    have hsz : B ≤ W.heap.size := Nat.le_trans hB hb.size
    refine (insert_at (V := W.heap.size) (i := posL l (code m.key)) (hoW.alloc _) (by simp; omega) hn (by omega) ol.good.wfm wm (Arr.new W _ _) (fun e => by have := (hoW.lt _ e).2; omega) (by rw [← hn]; exact posL_le _ _)).mono ?_
    rintro e w' ⟨A', c', rfl, h1, h2⟩
    exact ⟨A', c', rfl, h1, (hb.alloc hsz _).trans h2⟩
  have lK := msg_keyAt hM
  have lM := msg_all hM wm.val.hl
  simp only [Option.isSome_none] at cP
  generalize posL l (code m.key) = p at cP cI
  have hsz : (mc m).length = 29 := mc_len wm.val.hl
  have hfo := msg_fold (mc_len wm.val.hl)
  rw [zeroM_cells] at hfo
  clear ho hoZ hf hM ol wm om
  go_enter Try.func58, Try.ntmps58
  go_wp2_with (first
    | (go_at_call 51; refine cP.mono ?_; rintro e W ⟨rfl, hW⟩)
    | fail)
  refine (cI _ (by assumption)).mono ?_
  rintro e w' ⟨A', c', rfl, h1, h2⟩
  go_wp2_with fail
  go_ret
  exact ⟨A', c', rfl, h1, h2⟩
set_option maxHeartbeats 2000000 in
theorem enter_old {w : World} {A : Option Addr} {n c B : Nat} {l : List RM} {m x : RM} (ho : OwnM w B A c l) (hB : B ≤ w.heap.size) (hn : l.length = n) (hsm : n ≤ 100000) (ol : OkL l) (wm : m.wf) (om : okM m = true) (hf : findL l m.key = some x) :
    Calls Try.prog 58 #[.slice A n c, mm m] w fun e w' => ∃ A' c', e = .returned (.slice A' n c') ∧ OwnM w' B A' c' (l.set (posL l (cd m)) (compM x m)) ∧ Below B w w' := by
  obtain ⟨Z, hZ, hF, hZZ, hM, hS⟩ := msg_box1 w m
  have hoZ : OwnM Z B A c l := Own.below ho hF (Nat.le_refl _)
  have cP := place_at (c := c) hoZ.has (Nat.le_refl _) hn (by omega) ol wm.key (okM_key om)
  obtain ⟨hx, hxk⟩ := find_pos_some ol wm.key (okM_key om) hf
  have gx := ol.good x (mem_at hx)
  rw [hf] at cP
  simp only [Option.isSome_some] at cP
  have hx' : l[posL l (cd m)]? = some x := hx
  have hp : posL l (cd m) < n := by rw [← hn]; exact (List.getElem?_eq_some_iff.1 hx').1
  have cC := fun W0 W h => mcompose_at (W0 := W0) (W := W) gx.1 wm gx.2 om h
  have hcw := comp_wf gx.1 wm
  have lM := msg_all hM wm.val.hl
  have lK := msg_keyAt hM
  obtain ⟨g, rfl⟩ := hoZ.addr (by omega)
  have he : cd m = code m.key := rfl
  rw [he] at hx' hp ⊢
  have hoZn : Own Z B 36 29 (some ⟨g, 0, none⟩) n c (rows mc l) := by rw [← hn]; exact hoZ
  obtain ⟨-, hBg, -, -, cur, hcur, hcs, hct⟩ := hoZ.row
  have hgs : g < Z.heap.size := hcur.lt
  have hr : Z.rangeAt g 0 (rows mc l) := fun j v hj => by
    obtain ⟨b, off, e, -, hc⟩ := hoZ.has j v hj
    injection e with e
    injection e with e1 e2
    subst e1 e2
    exact hc
  have lX := elem_ld msgS hr ol.good.wfm.wid hgs hx'
  obtain ⟨cur', st, so, sb⟩ := own_set (a := compM x m) msg_info hoZn ol.good.wfm.wid hn hp (mc_len hcw.val.hl) (mc_one _)
  generalize posL l (code m.key) = p at *
  rw [Nat.zero_add] at lX
  have hBZ : B ≤ Z.heap.size := Nat.le_trans hB hF.size
  have So := keep so
  have Sb := keep sb
  have Hn := keep hn
  have HFB := keep (hF.mono hB)
  have hpz : (p : Int) < (n : Int) := by omega
  generalize compM x m = y at *
  clear ho hoZ hoZn hf hM ol wm om hx hx' hxk gx hcw he hcur hcs hct hr so sb hn hp cur hF
  go_enter Try.func58, Try.ntmps58
  go_wp2_with (first
    | (go_at_call 51; refine cP.mono ?_; rintro e W ⟨rfl, hW⟩; have hWD := fr_drew hW)
    | fail)
  go_region_with (first
    | (go_at_call 82; (with_reducible refine (cC Z _ (by assumption)).mono ?_); rintro e w9 ⟨rfl, hz⟩))
  all_goals
    go_wp2_with fail
    go_ret
    refine ⟨some ⟨g, 0, none⟩, c, rfl, ?_, ?_⟩
    · unfold OwnM
      rw [List.length_set, Hn.out]
      exact So.out _ (by assumption)
    · exact HFB.out.trans (Sb.out _ (by assumption) (by first | exact hz.size | assumption) B (Nat.le_refl _) hBZ)
theorem enter_at {w : World} {A : Option Addr} {n c B : Nat} {l : List RM} {m : RM} (ho : OwnM w B A c l) (hB : B ≤ w.heap.size) (hn : l.length = n) (hsm : n ≤ 100000) (ol : OkL l) (wm : m.wf) (om : okM m = true) :
    Calls Try.prog 58 #[.slice A n c, mm m] w fun e w' => ∃ A' c', e = .returned (.slice A' (addL l m).length c') ∧ OwnM w' B A' c' (addL l m) ∧ Below B w w' := by
  have ha := add_pos ol wm om
  cases hf : findL l m.key with
  | none =>
    rw [hf] at ha
    rw [ha]
    have hl : (l.take (posL l (cd m)) ++ m :: l.drop (posL l (cd m))).length = n + 1 := by
      have := posL_le l (cd m)
      simp [hn]
      omega
    rw [hl]
    exact enter_new ho hB hn hsm ol wm om hf
  | some x =>
    rw [hf] at ha
    rw [ha, List.length_set, hn]
    exact enter_old ho hB hn hsm ol wm om hf
end Go.Proofs.Ytnfoebcfhldemaa
