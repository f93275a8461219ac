/- Package latch: 'slices.Insert' of numbers. -/
import Derived.Test.YtbnphkiipjgfaaaLaC
namespace Go.Proofs.Ytbnphkiipjgfaaa
set_option linter.unusedVariables false
set_option linter.unusedSimpArgs false
set_option maxRecDepth 100000
open Go.RowKit
/-! 'slices.Insert' of one number. -/
/-- What an insertion leaves. -/
def InsO (w w' : World) (A : Option Addr) (A' : Option Addr) (n c' : Nat) (l : List Int) (i : Nat) (t : Int) : Prop :=
  Rw w' 3 1 A' (n + 1) c' (rows ic (l.take i ++ t :: l.drop i)) ∧ Put w w' A A'
set_option maxHeartbeats 4000000 in
theorem insert_end {w : World} {A : Option Addr} {n c V : Nat} {l : List Int} {t : Int} (ho : Rw w 3 1 A n c (rows ic l)) (hn : l.length = n) (hsm : n ≤ 100000) (hv : Arr w V 3 #[.int .i64 t]) :
    Calls Try.prog 52 #[.slice A n c, .int .i64 n, .slice (some ⟨V, 0, none⟩) 1 1] w fun e w' => ∃ A' c', e = .returned (.slice A' (n + 1) c') ∧ Hid (InsO w w' A A' n c' l n t) := by
  have hq := i_slice_lo A n c n (Nat.le_refl _)
  have hV : Has w (V + 1) (some ⟨V, 0, none⟩) (ic t) := arr_part (o := 0) (cs := ic t) (zs := ic t) hv (fun j u hu => by rw [Nat.zero_add]; exact hu)
  have HO := keep ho
  have Hn := keep hn
  have HV := keep hV
  clear hn hv ho hV
  go_enter Try.func52, Try.ntmps52
  go_wp2_with (first
    | (refine wpList_append_rw int_elem ints_under (by decide) rfl (.tmp 23) (.tmp 24) rfl A n c (rows ic l) rfl HO.out (V + 1) (some ⟨V, 0, none⟩) 1 1 (ic t) rfl rfl HV.out (ic_one _) (by simp only [maxLen]; omega) (by omega) ?_; intro A' c' w' h1 h2)
    | fail)
  go_ret
  refine ⟨A', c', rfl, keep ⟨?_, h2⟩⟩
  rw [List.take_of_length_le (by rw [Hn.out]; exact Nat.le_refl _), List.drop_eq_nil_of_le (by rw [Hn.out]; exact Nat.le_refl _), rows_append, rows_single]
  exact h1
theorem insert_math {l : List Int} {t : Int} {i n : Nat} (hi : i < n) (hn : l.length = n) (ys : List Value) (hys : ys.length = 1) :
    (((rows ic l ++ ys).take (i + 1) ++ rows ic (l.drop i) ++ (rows ic l ++ ys).drop (i + 1 + (n - i))).take i ++ ic t ++ ((rows ic l ++ ys).take (i + 1) ++ rows ic (l.drop i) ++ (rows ic l ++ ys).drop (i + 1 + (n - i))).drop (i + 1)) = rows ic (l.take i ++ t :: l.drop i) := by
  have hw := ic_wid l
  have hlen : (rows ic l).length = n := by rw [rows_len hw, hn, Nat.mul_one]
  have e1 : (rows ic l ++ ys).drop (i + 1 + (n - i)) = [] := List.drop_eq_nil_of_le (by rw [List.length_append, hlen, hys]; omega)
  have e2 : ((rows ic l ++ ys).take (i + 1)).length = i + 1 := by rw [List.length_take, List.length_append, hlen, hys]; omega
  have e3 := rows_take hw i
  rw [Nat.mul_one] at e3
  rw [e1, List.append_nil, List.drop_left' e2, List.take_append_of_le_length (by rw [e2]; omega), List.take_take, Nat.min_eq_left (by omega), List.take_append_of_le_length (by rw [hlen]; omega), ← e3, rows_append, rows_cons, List.append_assoc]
set_option maxHeartbeats 4000000 in
theorem insert_room {w : World} {A : Option Addr} {n c V i : Nat} {l : List Int} {t : Int} (ho : Rw w 3 1 A n c (rows ic l)) (hn : l.length = n) (hsm : n ≤ 100000) (hv : Arr w V 3 #[.int .i64 t]) (hVA : ¬ At A V) (hi : i < n) (hc : n + 1 ≤ c) :
    Calls Try.prog 52 #[.slice A n c, .int .i64 i, .slice (some ⟨V, 0, none⟩) 1 1] w fun e w' => ∃ A' c', e = .returned (.slice A' (n + 1) c') ∧ Hid (InsO w w' A A' n c' l i t) := by
  obtain ⟨g, o, rfl⟩ := ho.addr (by omega)
  have hgV : g ≠ V := fun e => hVA (by subst e; rfl)
  obtain ⟨sz, hsh, hso, hfz⟩ := rw_shape _ ho
  obtain ⟨ys, ho1, hys0⟩ := ho.more (m := n + 1) (by omega) hc (by omega)
  have hys : ys.length = 1 := by rw [hys0]; omega
  have hsrc : Has w.drew w.heap.size (some ⟨g, o + i, none⟩) (rows ic (l.drop i)) := by
    have h2 := has_rows_drop ho.has (ic_wid l) i
    rw [Nat.mul_one] at h2
    exact h2
  have hdl : (rows ic (l.drop i)).length = (n - i) * 1 := by rw [rows_len (ic_wid _), List.length_drop, hn]
  obtain ⟨w1, hr1, ho2, hg1⟩ := rw_copy (P := Try.prog) w.drew 33 3 ints_under int_elem (show Rw w.drew _ _ _ _ _ _ from ho1) (i + 1) (n - i) (c - (i + 1)) w.heap.size (some ⟨g, o + i, none⟩) (n - i) (n + 1 - i) (c - i) (rows ic (l.drop i)) hdl hsrc (rows_one ic_one _) (Nat.min_eq_right (by omega)) (by omega) (by omega) (by decide)
  have hv1 : Arr w1 V 3 #[.int .i64 t] := (show Arr w.drew V _ _ from hv).chg hg1 (fun e => hgV e.symm)
  have hV1 : Has w1 (V + 1) (some ⟨V, 0, none⟩) (ic t) := arr_part (o := 0) (cs := ic t) (zs := ic t) hv1 (fun j u hu => by rw [Nat.zero_add]; exact hu)
  obtain ⟨w2, hr2, ho3, hg2⟩ := rw_copy (P := Try.prog) w1 33 3 ints_under int_elem ho2 i (n + 1 - i) (c - i) (V + 1) (some ⟨V, 0, none⟩) 1 1 1 (ic t) rfl hV1 (ic_one t) (Nat.min_eq_left (by omega)) (by omega) (by omega) (by decide)
  simp only [Nat.mul_one] at hr1 hr2 ho3
  rw [insert_math hi hn ys hys] at ho3
  have hb : Chg (At (some ⟨g, o, none⟩)) w w2 := (((Chg.refl _ w).drew).trans' hg1 fun x _ hx => by subst hx; rfl).trans' hg2 fun x _ hx => by subst hx; rfl
  have ho4 := keep ho3
  have hb4 := keep hb
  have hov : (callFunc 58 #[.slice (some ⟨V, 0, none⟩) 1 1, .slice (some ⟨g, o + (i + 1), none⟩) (n - i) (c - (i + 1))]).run Try.prog w = .ok (.value (.bool false)) w := by
    have hs1 : w.shape? V = some (3, 1) := by
      have h' : w.heap[V]? = some (.cells #[.int .i64 t] 3 (0, 0)) := hv
      simp [World.shape?, h']
    rw [run_callFunc_extern Try.func58 (by kernel_rfl) (by kernel_rfl) (by kernel_rfl) (e := Extern.SlicesOverlaps.overlaps #[33, 33] #[4]) (by kernel_rfl),
      Lib.run_overlaps_apart w 33 4 3 ints_under 1 (fun w => by kernel_rfl) ⟨V, 0, none⟩ ⟨g, o + (i + 1), none⟩ 1 1 (n - i) (c - (i + 1)) (fun e => hgV e.symm) _ _ _ _ hs1 hsh (by omega) (hv.free 0) (hv.free 1)]
    rfl
  have q1 := i_slice_lo (some ⟨g, o, none⟩) n c i (by omega)
  rw [lowA_some (by omega), Nat.mul_one] at q1
  have q2 := i_slice_hi (some ⟨g, o, none⟩) n c (n + 1) hc
  rw [Int.natCast_succ] at q2
  have q3 := i_slice_lo (some ⟨g, o, none⟩) (n + 1) c (i + 1) (by omega)
  rw [lowA_some (by omega), Int.natCast_succ, Nat.add_sub_add_right, Nat.mul_one] at q3
  have q4 := i_slice_lo (some ⟨g, o, none⟩) (n + 1) c i (by omega)
  rw [lowA_some (by omega), Nat.mul_one] at q4
  have hwi : IntKind.i64.wrap ((i : Int) + 1) = (i : Int) + 1 := by rw [IntKind.wrap_i64]; omega
  have hz2 : ¬ ((i : Int) = (n : Int)) := by omega
  have hz3 : ¬ ((c : Int) < (n : Int) + 1) := by omega
  clear ho ho1 ho2 ho3 hg1 hg2 hb hsrc hdl hv hv1 hV1 hys hys0 hn hVA ys hsh hso hfz
  go_enter Try.func52, Try.ntmps52
  go_wp2_with fail
  go_region_law (first
    | (refine step_copy_run rfl (.tmp 73) (.tmp 76) 33 33 rfl _ _ ?_ ?_ hr1 ?_
       · go_simp
       · go_simp)
    | fail)
  all_goals
    go_wp2_with (first
      | (refine Lib.wpList_copy_run _ rfl (.tmp 80) (.tmp 81) 33 33 rfl _ _ rfl rfl hr2 ?_)
      | fail)
    go_ret
    exact ⟨some ⟨g, o, none⟩, c, rfl, keep ⟨ho4.out, hb4.out, .inl rfl⟩⟩
theorem grow_math {l : List Int} {t : Int} {i n : Nat} (hi : i < n) (hn : l.length = n) (zs : List Value) (hzs : zs.length = n + 1 - i) :
    (((rows ic l).take i ++ zs).take i ++ ic t ++ ((rows ic l).take i ++ zs).drop (i + 1)).take (i + 1) ++ rows ic (l.drop i) ++ (((rows ic l).take i ++ zs).take i ++ ic t ++ ((rows ic l).take i ++ zs).drop (i + 1)).drop (i + 1 + (n - i)) = rows ic (l.take i ++ t :: l.drop i) := by
  have hw := ic_wid l
  have hlen : (rows ic l).length = n := by rw [rows_len hw, hn, Nat.mul_one]
  have h1 : ((rows ic l).take i).length = i := by rw [List.length_take, hlen]; omega
  have e3 := rows_take hw i
  rw [Nat.mul_one] at e3
  have e0 : ((rows ic l).take i ++ zs).take i = rows ic (l.take i) := by rw [List.take_left' h1, ← e3]
  have hlt : (rows ic (l.take i)).length = i := by rw [e3, h1]
  rw [e0]
  have e1 : (rows ic (l.take i) ++ ic t ++ ((rows ic l).take i ++ zs).drop (i + 1)).take (i + 1) = rows ic (l.take i) ++ ic t := List.take_left' (by rw [List.length_append, hlt]; rfl)
  have e2 : (rows ic (l.take i) ++ ic t ++ ((rows ic l).take i ++ zs).drop (i + 1)).drop (i + 1 + (n - i)) = [] := List.drop_eq_nil_of_le (by rw [List.length_append, List.length_append, List.length_drop, List.length_append, hlt, h1, hzs]; simp only [ic, List.length_singleton]; omega)
  rw [e1, e2, List.append_nil, rows_append, rows_cons, List.append_assoc]
set_option maxHeartbeats 4000000 in
theorem insert_grow {w : World} {A : Option Addr} {n c V i : Nat} {l : List Int} {t : Int} (ho : Rw w 3 1 A n c (rows ic l)) (hn : l.length = n) (hsm : n ≤ 100000) (hv : Arr w V 3 #[.int .i64 t]) (hi : i < n) (hc : c < n + 1) :
    Calls Try.prog 52 #[.slice A n c, .int .i64 i, .slice (some ⟨V, 0, none⟩) 1 1] w fun e w' => ∃ A' c', e = .returned (.slice A' (n + 1) c') ∧ Hid (InsO w w' A A' n c' l i t) := by
  obtain ⟨g, o, rfl⟩ := ho.addr (by omega)
  have hcap := ho.cap
  have hint : Try.prog.underlying 3 = some (.int .i64) := Try.underlying3
  have hpre := ho.pre (i := i) (by omega)
  obtain ⟨c', w1, zs, hr0, ho1, hzl, hg1, hsz1⟩ := rw_append_zeros (P := Try.prog) w 33 3 33 int_elem .i64 .i64 ints_under hint (by decide) hpre (n + 1 - i) (by omega) (by omega) (by simp only [maxLen]; omega) (by omega)
  rw [show i + (n + 1 - i) = n + 1 by omega] at hr0 ho1
  rw [show ((n + 1 - i : Nat) : Int) = (n : Int) + 1 - (i : Int) by omega] at hr0
  rw [Nat.mul_one] at hzl
  have hH : g < w.heap.size := ho.lt g rfl
  have hVH : V < w.heap.size := hv.lt
  have hcap' := ho1.cap
  have hv1 : Arr w1 V 3 #[.int .i64 t] := hv.below hg1 hVH
  have hV1 : Has w1 (V + 1) (some ⟨V, 0, none⟩) (ic t) := arr_part (o := 0) (cs := ic t) (zs := ic t) hv1 (fun j u hu => by rw [Nat.zero_add]; exact hu)
  have hs1 : Rw w1 3 1 (some ⟨g, o, none⟩) n c (rows ic l) := ho.fr hg1
  obtain ⟨w2, hr1, ho2, hg2⟩ := rw_copy (P := Try.prog) w1 33 3 ints_under int_elem ho1 i (n + 1 - i) (c' - i) (V + 1) (some ⟨V, 0, none⟩) 1 1 1 (ic t) rfl hV1 (ic_one t) (Nat.min_eq_left (by omega)) (by omega) (by omega) (by decide)
  have hs2 : Rw w2 3 1 (some ⟨g, o, none⟩) n c (rows ic l) := hs1.chg hg2 (fun b hb e => by injection hb with hb; simp only at hb; omega)
  have hsrc : Has w2.drew w2.heap.size (some ⟨g, o + i, none⟩) (rows ic (l.drop i)) := by
    have h2 := has_rows_drop hs2.has (ic_wid l) i
    rw [Nat.mul_one] at h2
    exact h2
  have hdl : (rows ic (l.drop i)).length = (n - i) * 1 := by rw [rows_len (ic_wid _), List.length_drop, hn]
  obtain ⟨w3, hr2, ho3, hg3⟩ := rw_copy (P := Try.prog) w2.drew 33 3 ints_under int_elem (show Rw w2.drew _ _ _ _ _ _ from ho2) (i + 1) (n - i) (c' - (i + 1)) w2.heap.size (some ⟨g, o + i, none⟩) (n - i) (n - i) (c - i) (rows ic (l.drop i)) hdl hsrc (rows_one ic_one _) (Nat.min_self _) (by omega) (by omega) (by decide)
  simp only [Nat.mul_one, Nat.zero_add] at hr1 hr2 ho3
  rw [grow_math hi hn zs hzl] at ho3
  have hb : Chg (At (some ⟨g, o, none⟩)) w w3 := by
    refine Chg.of_fr _ ((hg1.trans (hg2.below hg1.size fun x hx => by omega)).drew.trans (hg3.below ?_ fun x hx => by omega))
    exact Nat.le_trans hg1.size hg2.size
  have hs3 : w.heap.size < w3.heap.size := Nat.lt_of_lt_of_le hsz1 (Nat.le_trans hg2.size hg3.size)
  have ho4 := keep ho3
  have hb4 := keep hb
  have hs4 := keep hs3
  have q1 := i_slice_lo (some ⟨g, o, none⟩) n c i (by omega)
  rw [lowA_some (by omega), Nat.mul_one] at q1
  have q2 := i_slice_hi (some ⟨g, o, none⟩) n c i (by omega)
  have q3 := i_slice_lo (some ⟨w.heap.size, 0, none⟩) (n + 1) c' (i + 1) (by omega)
  rw [lowA_some (by omega), Nat.zero_add, Int.natCast_succ, Nat.add_sub_add_right, Nat.mul_one] at q3
  have q4 := i_slice_lo (some ⟨w.heap.size, 0, none⟩) (n + 1) c' i (by omega)
  rw [lowA_some (by omega), Nat.zero_add, Nat.mul_one] at q4
  have hwi : IntKind.i64.wrap ((i : Int) + 1) = (i : Int) + 1 := by rw [IntKind.wrap_i64]; omega
  have hz2 : ¬ ((i : Int) = (n : Int)) := by omega
  have hz3 : ((c : Int) < (n : Int) + 1) := by omega
  clear ho ho1 ho2 ho3 hg1 hg2 hg3 hb hs3 hsrc hdl hv hv1 hV1 hn hs1 hs2 hpre zs hzl hint
  go_enter Try.func52, Try.ntmps52
  go_wp2_with (first
    | (refine wpList_append_run _ rfl (.tmp 34) (.tmp 39) 33 3 rfl _ _ rfl rfl hr0 ?_)
    | (refine Lib.wpList_copy_run _ rfl (.tmp 43) (.tmp 44) 33 33 rfl _ _ rfl rfl hr1 ?_)
    | fail)
  go_region_law (first
    | (refine step_copy_run rfl (.tmp 50) (.tmp 53) 33 33 rfl _ _ ?_ ?_ hr2 ?_
       · go_simp
       · go_simp)
    | fail)
  all_goals
    go_wp2_with fail
    go_ret
    exact ⟨some ⟨w.heap.size, 0, none⟩, c', rfl, keep ⟨ho4.out, hb4.out, .inr ⟨rfl, hs4.out⟩⟩⟩
theorem insert_at {w : World} {A : Option Addr} {n c V i : Nat} {l : List Int} {t : Int} (ho : Rw w 3 1 A n c (rows ic l)) (hn : l.length = n) (hsm : n ≤ 100000) (hv : Arr w V 3 #[.int .i64 t]) (hVA : ¬ At A V) (hi : i ≤ n) :
    Calls Try.prog 52 #[.slice A n c, .int .i64 i, .slice (some ⟨V, 0, none⟩) 1 1] w fun e w' => ∃ A' c', e = .returned (.slice A' (n + 1) c') ∧ Hid (InsO w w' A A' n c' l i t) := by
  rcases Nat.lt_or_ge i n with h | h
  · rcases Nat.lt_or_ge c (n + 1) with h2 | h2
    · exact insert_grow ho hn hsm hv h h2
    · exact insert_room ho hn hsm hv hVA h h2
  · obtain rfl : i = n := by omega
    exact insert_end ho hn hsm hv
end Go.Proofs.Ytbnphkiipjgfaaa
