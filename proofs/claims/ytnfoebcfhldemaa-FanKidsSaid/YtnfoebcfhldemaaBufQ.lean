/- Buffers in memory, sixteen: 'append' of one message; the document's 'Batch', 'Less'. -/
import Derived.Test.YtnfoebcfhldemaaBufO
namespace Go.Proofs.Ytnfoebcfhldemaa
set_option maxRecDepth 100000
open Go.RowKit
set_option linter.unusedVariables false
attribute [local go_sem ↓] key_ld msg_ld msg_st
theorem append_one {w0 w : World} {A : Option Addr} {n c V : Nat} {l : List RM} {x : RM} (h0 : Fr w0 w) (ho : OwnM w w0.heap.size A c l) (hn : l.length = n) (hsm : n ≤ 200000) (wx : x.wf) (hV : V = w.heap.size) (ty : TypeId) :
    ∃ A' c' w', (Builtin.append_ #[23, 23] ty #[.slice A n c, .slice (some ⟨V, 0, none⟩) 1 1]).run Try.prog (w.alloc (.cells (mc x).toArray 36)) = .ok (.slice A' (n + 1) c') w' ∧ OwnM w' w0.heap.size A' c' (l ++ [x]) ∧ Fr w0 w' := by
  subst hV
  unfold OwnM at ho
  rw [hn] at ho
  obtain ⟨i, z, hi, hz, hsize, hby, hzs⟩ := msg_elem.row
  obtain ⟨A', c', w', hr, h1, h2, h3⟩ := run_append_has (P := Try.prog) (w.alloc (.cells (mc x).toArray 36)) w0.heap.size 23 ty 36 i z 29 64 msgs_under hi hz hsize hby hzs (by decide) A n c (rows mc l) (ho.alloc _) (w.heap.size + 1) (some ⟨w.heap.size, 0, none⟩) 1 1 (mc x) (mc_len wx.val.hl) (arr_has _ (Arr.new w _ _)) (mc_one x) (by unfold maxLen; omega) (by omega) (by have := h0.size; simp; omega)
  refine ⟨A', c', w', hr, ?_, below_grown (fr_new h0 _) (ho.alloc _) h2 (by have := h0.size; simp; omega) (Nat.le_refl _)⟩
  unfold OwnM
  rw [List.length_append, hn, rows_append, rows_single]
  exact h1
theorem step_append_run {P : Program} {w : World} {ops : Array Oper} {o : Oper} {a : Act} {K : Act → World → Prop} {Q : Exit → Act → World → Prop} {E : Prop} (hw : Region.wanted o (yielded ops a.tmps) = true) (d s : Operand) (t t' : TypeId)
    (ho : o.op = .call { callee := .builtin .append, args := #[d, s], argTypes := #[t, t'] }) (v u : Value) (hd : a.eval d = v) (hs : a.eval s = u) {v' : Value} {w' : World}
    (hr : (Builtin.append_ #[t, t'] o.type #[v, u]).run P w = .ok v' w') (hK : K (a.put o.dst v') w') : if Region.wanted o (yielded ops a.tmps) = true then Oper.wp P o a w K Q else E := by
  rw [if_pos hw]
  unfold Oper.wp execOp
  simp only [ho, resolve, invoke, builtin, Sem.run_bind, Sem.run_pure, Result.andThen_ok, List.map_toArray, List.map_cons, List.map_nil, hd, hs, hr]
  exact hK
theorem wpList_append_msg {w0 w : World} {ops : Array Oper} {rest : List Oper} {o : Oper} {a : Act} {Q : Exit → Act → World → Prop} {A : Option Addr} {n c : Nat} {l : List RM} {x : RM} (d s : Operand) (hop : o.op = .call { callee := .builtin .append, args := #[d, s], argTypes := #[23, 23] }) (hgd : o.guard = none)
    (hd : a.eval d = .slice A n c) (hs : a.eval s = .slice (some ⟨w.heap.size, 0, none⟩) 1 1) (h0 : Fr w0 w) (ho : OwnM w w0.heap.size A c l) (hn : l.length = n) (hsm : n ≤ 200000) (wx : x.wf)
    (h : ∀ A' c' w', OwnM w' w0.heap.size A' c' (l ++ [x]) → Fr w0 w' → wpList Try.prog ops Q rest (a.put o.dst (.slice A' (n + 1) c')) w') : wpList Try.prog ops Q (o :: rest) a (w.alloc (.cells (mc x).toArray 36)) := by
  obtain ⟨A', c', w', hr, h1, h2⟩ := append_one (V := w.heap.size) h0 ho hn hsm wx rfl o.type
  exact wpList_append_run _ hgd d s _ _ hop _ _ hd hs hr (h A' c' w' h1 h2)
theorem step_append_msg {w0 w : World} {ops : Array Oper} {o : Oper} {a : Act} {K : Act → World → Prop} {Q : Exit → Act → World → Prop} {E : Prop} {A : Option Addr} {n c : Nat} {l : List RM} {x : RM} (d s : Operand) (hop : o.op = .call { callee := .builtin .append, args := #[d, s], argTypes := #[23, 23] }) (hgd : o.guard = none)
    (hd : a.eval d = .slice A n c) (hs : a.eval s = .slice (some ⟨w.heap.size, 0, none⟩) 1 1) (h0 : Fr w0 w) (ho : OwnM w w0.heap.size A c l) (hn : l.length = n) (hsm : n ≤ 200000) (wx : x.wf)
    (hK : ∀ A' c' w', OwnM w' w0.heap.size A' c' (l ++ [x]) → Fr w0 w' → K (a.put o.dst (.slice A' (n + 1) c')) w') : if Region.wanted o (yielded ops a.tmps) = true then Oper.wp Try.prog o a (w.alloc (.cells (mc x).toArray 36)) K Q else E := by
  obtain ⟨A', c', w', hr, h1, h2⟩ := append_one (V := w.heap.size) h0 ho hn hsm wx rfl o.type
  exact step_append_run (by simp [Region.wanted, hgd]) d s _ _ hop _ _ hd hs hr (hK A' c' w' h1 h2)
/-- A message's cells, built from a slice's literal. -/
theorem fold_at {m : RM} (wm : m.wf) : List.foldl (fun (cs : Array Value) (x : Value × Nat) => cs.setIfInBounds x.snd x.fst) #[.int .i64 0, .int .u64 0, .int .i64 0, .int .u8 0, .int .u8 0, .int .u8 0, .int .u8 0, .int .u8 0, .int .u8 0, .int .u8 0, .int .u8 0, .int .i64 0, .int .u8 0, .int .u8 0, .int .u8 0, .int .u8 0, .int .u8 0, .int .u8 0, .int .u8 0, .int .u8 0, .int .u8 0, .int .u8 0, .int .u8 0, .int .u8 0, .int .u8 0, .int .u8 0, .int .u8 0, .int .u8 0, .int .u64 0] (mc m).zipIdx = (mc m).toArray := by
  have h := msg_fold (mc_len wm.val.hl)
  rw [zeroM_cells] at h
  exact h
set_option maxHeartbeats 2000000 in
theorem ref_batch {w : World} {A : Option Addr} {n c B : Nat} {l : List RM} (hl : Has w B A (rows mc l)) (hB : B ≤ w.heap.size) (hn : l.length = n) (hsm : n ≤ 100000) (wl : WfM l) :
    Calls Try.prog 28 #[.slice A n c] w fun e w' => ∃ A' c', e = .returned (.slice A' (batL l).length c') ∧ OwnM w' w.heap.size A' c' (batL l) ∧ Fr w w' := by
  have Hl := keep hl
  have Hn := keep hn
  have Hwl := keep wl
  clear hl hn wl
  go_enter Try.func28, Try.ntmps28
  go_wp2_with fail
  go_loopg [4, 3, 5] n (fun g s4 s3 s5 wr => ∃ j : Nat, j + g = n ∧ s4 = .int .i64 (bytL (l.take j)) ∧ s5 = .int .i64 j ∧ (∃ A' c', s3 = .slice A' j c' ∧ Hid (OwnM wr w.heap.size A' c' (l.take j))) ∧ Hid (Fr w wr) ∧ Hid (batC 0 l = j + batC (bytL (l.take j)) (l.drop j)))
  case atStart => exact ⟨0, by omega, rfl, rfl, ⟨none, 0, rfl, keep (Own.nil _ _ _ _)⟩, keep (fr_refl w), keep (by simp [bytL])⟩
  case round =>
    obtain ⟨j, hj, rfl, rfl, ⟨A', c', rfl, hO⟩, hF, hC⟩ := hrel
    by_cases hlt : j < n
    · have hm : l[j]? = some (l[j]'(by rw [Hn.out]; exact hlt)) := List.getElem?_eq_getElem _
      generalize l[j]'(by rw [Hn.out]; exact hlt) = m at hm
      obtain ⟨b, off, rfl, hb1, hr⟩ := has_rows Hl.out Hwl.out.wid (by decide) (by intro e; rw [e] at hm; simp at hm)
      have lX := elem_ld msgS hr Hwl.out.wid (by omega) hm
      have wm := Hwl.out m (mem_at hm)
      have hR := bytL_rng (l.take j)
      have hR2 := bytM_rng m
      have hlen : (l.take j).length = j := by rw [List.length_take, Hn.out]; omega
      rw [hlen] at hR
      have Hlen := keep hlen
      have Hs := keep (bytL_take hm)
      have Ht := keep (take_one hm)
      have Hst := keep (bat_step hm (bytL (l.take j)))
      have cB := fun W0 W h => rmbytes_at (W0 := W0) (W := W) wm h
      have hF1 := hF.out
      generalize bytL (l.take j) = s at *
      generalize bytM m = t at *
      have hjz : (j : Int) < (n : Int) := by omega
      by_cases hfit : s + t ≤ 96
      · have hC2 : Hid (batC 0 l = (j + 1) + batC (s + t) (l.drop (j + 1))) := keep (by rw [hC.out, Hst.out, if_pos hfit]; omega)
        have hsz : (mc m).length = 29 := mc_len wm.val.hl
        have hfo := fold_at wm
        have Hwm := keep wm
        have hrr := fr_refl wr
        have cAp := keep (fun W (hW : Fr wr W) => hO.out.fr hW)
        clear hm hr hlen hlt hC Hst wm
        go_wp2_with (first
          | (go_at_call 56; (with_reducible refine (cB wr _ hrr).mono ?_); rintro e w9 ⟨rfl, hz⟩
             have hz9 := fr_step hF1 hz
             have hO9 := cAp.out w9 hz)
          | (refine wpList_append_msg (.tmp 22) (.tmp 27) rfl rfl rfl rfl hz9 hO9 Hlen.out (by omega) Hwm.out ?_; intro A9 c9 w10 ho9 hf9)
          | fail)
        go_roundg (gk - 1)
        case measure => omega
        case rel => exact ⟨j + 1, by omega, by rw [Hs.out], rfl, ⟨A9, c9, rfl, by rw [Ht.out]; exact keep ho9⟩, keep hf9, by rw [Hs.out]; exact hC2⟩
      · have hC2 : Hid (batC 0 l = j) := keep (by rw [hC.out, Hst.out, if_neg hfit]; omega)
        have hrr := fr_refl wr
        clear hm hr hlen hlt hC Hst
        go_wp2_with (first
          | (go_at_call 56; (with_reducible refine (cB wr _ hrr).mono ?_); rintro e w9 ⟨rfl, hz⟩)
          | fail)
        go_ret
        have e : batL l = l.take j := by rw [batL, hC2.out]
        rw [e, Hlen.out]
        exact ⟨A', c', rfl, hO.out.fr hz, fr_step hF1 hz⟩
    · have hjn : j = n := by omega
      have hC2 : Hid (batC 0 l = j) := keep (by rw [hC.out, List.drop_eq_nil_of_le (by rw [Hn.out]; omega)]; rfl)
      have hjz : ¬ (j : Int) < (n : Int) := by omega
      have Hlen : Hid ((l.take j).length = j) := keep (by rw [List.length_take, Hn.out]; omega)
      clear hlt hjn hC hj
      go_wp2_with fail
      go_ret
      have e : batL l = l.take j := by rw [batL, hC2.out]
      rw [e, Hlen.out]
      exact ⟨A', c', rfl, hO.out, hF.out⟩
end Go.Proofs.Ytnfoebcfhldemaa
