/- Buffers in memory, sixteen: 'append' of one message; the document's 'Batch', 'Less'. -/
import Derived.Test.YtcdcaanmmbopbaaBufM
import Derived.Deep.Draws
namespace Go.Proofs.Ytcdcaanmmbopbaa
set_option maxRecDepth 100000
open Go.RowKit
set_option linter.unusedVariables false
attribute [local go_sem ↓] key_ld msg_ld msg_st
theorem append_one {w0 w : World} {A : Option Addr} {n c V : Nat} {l : List RM} {x : RM} (h0 : Fr w0 w) (ho : OwnM w w0.heap.size A c l) (hn : l.length = n) (hsm : n ≤ 200000) (wx : x.wf) (hV : V = w.heap.size) (ty : TypeId) :
    ∃ A' c' w', (Builtin.append_ #[25, 25] ty #[.slice A n c, .slice (some ⟨V, 0, none⟩) 1 1]).run Try.prog (w.alloc (.cells (mc x).toArray 48)) = .ok (.slice A' (n + 1) c') w' ∧ OwnM w' w0.heap.size A' c' (l ++ [x]) ∧ Fr w0 w' := by
  subst hV
  unfold OwnM at ho
  rw [hn] at ho
  obtain ⟨i, z, hi, hz, hsize, hby, hzs⟩ := msg_elem.row
  obtain ⟨A', c', w', hr, h1, h2, h3⟩ := run_append_has (P := Try.prog) (w.alloc (.cells (mc x).toArray 48)) w0.heap.size 25 ty 48 i z 29 64 msgs_under hi hz hsize hby hzs (by decide) A n c (rows mc l) (ho.alloc _) (w.heap.size + 1) (some ⟨w.heap.size, 0, none⟩) 1 1 (mc x) (mc_len wx.val.hl) (arr_has _ (Arr.new w _ _)) (mc_one x) (by unfold maxLen; omega) (by omega) (by have := h0.size; simp; omega)
  refine ⟨A', c', w', hr, ?_, below_grown (fr_new h0 _) (ho.alloc _) h2 (by have := h0.size; simp; omega) (Nat.le_refl _)⟩
  unfold OwnM
  rw [List.length_append, hn, rows_append, rows_single]
  exact h1
theorem step_append_run {P : Program} {w : World} {ops : Array Oper} {o : Oper} {a : Act} {K : Act → World → Prop} {Q : Exit → Act → World → Prop} {E : Prop} (hw : Region.wanted o (yielded ops a.tmps) = true) (d s : Operand) (t t' : TypeId)
    (ho : o.op = .call { callee := .builtin .append, args := #[d, s], argTypes := #[t, t'] }) (v u : Value) (hd : a.eval d = v) (hs : a.eval s = u) {v' : Value} {w' : World}
    (hr : (Builtin.append_ #[t, t'] o.type #[v, u]).run P w = .ok v' w') (hK : K (a.put o.dst v') w') : if Region.wanted o (yielded ops a.tmps) = true then Oper.wp P o a w K Q else E := by
  rw [if_pos hw]
  unfold Oper.wp execOp
  simp only [ho, resolve, invoke, builtin, Sem.run_bind, Sem.run_pure, Result.andThen_ok, List.map_toArray, List.map_cons, List.map_nil, hd, hs, hr]
  exact hK
theorem wpList_append_msg {w0 w : World} {ops : Array Oper} {rest : List Oper} {o : Oper} {a : Act} {Q : Exit → Act → World → Prop} {A : Option Addr} {n c : Nat} {l : List RM} {x : RM} (d s : Operand) (hop : o.op = .call { callee := .builtin .append, args := #[d, s], argTypes := #[25, 25] }) (hgd : o.guard = none)
    (hd : a.eval d = .slice A n c) (hs : a.eval s = .slice (some ⟨w.heap.size, 0, none⟩) 1 1) (h0 : Fr w0 w) (ho : OwnM w w0.heap.size A c l) (hn : l.length = n) (hsm : n ≤ 200000) (wx : x.wf)
    (h : ∀ A' c' w', OwnM w' w0.heap.size A' c' (l ++ [x]) → Fr w0 w' → wpList Try.prog ops Q rest (a.put o.dst (.slice A' (n + 1) c')) w') : wpList Try.prog ops Q (o :: rest) a (w.alloc (.cells (mc x).toArray 48)) := by
  obtain ⟨A', c', w', hr, h1, h2⟩ := append_one (V := w.heap.size) h0 ho hn hsm wx rfl o.type
  exact wpList_append_run _ hgd d s _ _ hop _ _ hd hs hr (h A' c' w' h1 h2)
theorem step_append_msg {w0 w : World} {ops : Array Oper} {o : Oper} {a : Act} {K : Act → World → Prop} {Q : Exit → Act → World → Prop} {E : Prop} {A : Option Addr} {n c : Nat} {l : List RM} {x : RM} (d s : Operand) (hop : o.op = .call { callee := .builtin .append, args := #[d, s], argTypes := #[25, 25] }) (hgd : o.guard = none)
    (hd : a.eval d = .slice A n c) (hs : a.eval s = .slice (some ⟨w.heap.size, 0, none⟩) 1 1) (h0 : Fr w0 w) (ho : OwnM w w0.heap.size A c l) (hn : l.length = n) (hsm : n ≤ 200000) (wx : x.wf)
    (hK : ∀ A' c' w', OwnM w' w0.heap.size A' c' (l ++ [x]) → Fr w0 w' → K (a.put o.dst (.slice A' (n + 1) c')) w') : if Region.wanted o (yielded ops a.tmps) = true then Oper.wp Try.prog o a (w.alloc (.cells (mc x).toArray 48)) K Q else E := by
  obtain ⟨A', c', w', hr, h1, h2⟩ := append_one (V := w.heap.size) h0 ho hn hsm wx rfl o.type
  exact step_append_run (by simp [Region.wanted, hgd]) d s _ _ hop _ _ hd hs hr (hK A' c' w' h1 h2)
/-- A message's cells, built from a slice's literal. -/
theorem fold_at {m : RM} (wm : m.wf) : List.foldl (fun (cs : Array Value) (x : Value × Nat) => cs.setIfInBounds x.snd x.fst) #[.int .i64 0, .int .u64 0, .int .i64 0, .int .u8 0, .int .u8 0, .int .u8 0, .int .u8 0, .int .u8 0, .int .u8 0, .int .u8 0, .int .u8 0, .int .i64 0, .int .u8 0, .int .u8 0, .int .u8 0, .int .u8 0, .int .u8 0, .int .u8 0, .int .u8 0, .int .u8 0, .int .u8 0, .int .u8 0, .int .u8 0, .int .u8 0, .int .u8 0, .int .u8 0, .int .u8 0, .int .u8 0, .int .u64 0] (mc m).zipIdx = (mc m).toArray := by
  have h := msg_fold (mc_len wm.val.hl)
  rw [zeroM_cells] at h
  exact h
end Go.Proofs.Ytcdcaanmmbopbaa
/- Buffers in memory, seventeen: the document's 'Less'. -/
namespace Go.Proofs.Ytcdcaanmmbopbaa
set_option maxRecDepth 100000
open Go.RowKit
set_option linter.unusedVariables false
attribute [local go_sem ↓] key_ld msg_ld msg_st
theorem less_step {l gone : List RM} {j : Nat} {m : RM} (h : l[j]? = some m) : lessL (l.take (j + 1)) gone = lessL (l.take j) gone ++ (if (findL gone m.key).isSome = true then [] else [m]) := by
  rw [take_one h]
  unfold lessL
  rw [List.filter_append, List.filter_cons, List.filter_nil]
  by_cases hh : (findL gone m.key).isSome = true
  · rw [if_pos hh, if_neg (by rw [hh]; decide)]
  · rw [if_neg hh, if_pos (by rw [Bool.eq_false_iff.2 hh]; rfl)]
theorem findV_len {o : Option RM} (h : ∀ m, o = some m → m.wf) : (mc (o.getD zeroM)).length = 29 := by
  cases o with
  | none => rfl
  | some m => exact mc_len (h m rfl).val.hl
end Go.Proofs.Ytcdcaanmmbopbaa
/- Buffers in memory, eighteen: the document's 'Add'. -/
namespace Go.Proofs.Ytcdcaanmmbopbaa
set_option maxRecDepth 100000
open Go.RowKit
set_option linter.unusedVariables false
attribute [local go_sem ↓] key_ld msg_ld msg_st
/-- What has come of j messages of l, m being added: whether m is in it, the list. -/
def AddI (l : List RM) (m : RM) (j : Nat) (p : Bool) (q : List RM) : Prop :=
  if p = true then q = addL (l.take j) m ∧ ∃ y ∈ l.take j, cd m ≤ cd y else q = l.take j ∧ ∀ y ∈ l.take j, cd y < cd m
theorem addL_before : ∀ {q : List RM} (r : List RM) {m : RM}, (∀ y ∈ q, cd y < cd m) → addL (q ++ r) m = q ++ addL r m
  | [], _, _, _ => rfl
  | x :: q, r, m, h => by
    show addL (x :: (q ++ r)) m = _
    rw [addL, if_pos (h x (by simp)), addL_before r (fun y hy => h y (List.mem_cons_of_mem _ hy))]
    rfl
theorem addL_past : ∀ {q : List RM} (x : RM) {m : RM}, (∃ y ∈ q, cd m ≤ cd y) → addL (q ++ [x]) m = addL q m ++ [x]
  | [], _, _, ⟨y, hy, _⟩ => by simp at hy
  | z :: q, x, m, ⟨y, hy, hle⟩ => by
    show addL (z :: (q ++ [x])) m = _
    rw [addL, addL]
    by_cases h1 : cd z < cd m
    · rw [if_pos h1, if_pos h1]
      have hq : ∃ y ∈ q, cd m ≤ cd y := by
        rcases List.mem_cons.1 hy with e | e
        · subst e; omega
        · exact ⟨y, e, hle⟩
      rw [addL_past x hq]
      rfl
    · rw [if_neg h1, if_neg h1]
      by_cases h2 : z.key = m.key
      · rw [if_pos h2, if_pos h2]; rfl
      · rw [if_neg h2, if_neg h2]; rfl
theorem addI_len {l q : List RM} {m : RM} {j : Nat} (h : AddI l m j false q) : q.length ≤ j := by
  obtain ⟨rfl, -⟩ : q = l.take j ∧ ∀ y ∈ l.take j, cd y < cd m := h
  rw [List.length_take]; omega
theorem addI_lt {l q : List RM} {m x : RM} {j : Nat} (h : AddI l m j false q) (hx : l[j]? = some x) (hlt : cd x < cd m) : AddI l m (j + 1) false (q ++ [x]) := by
  obtain ⟨rfl, h2⟩ : q = l.take j ∧ ∀ y ∈ l.take j, cd y < cd m := h
  show l.take j ++ [x] = l.take (j + 1) ∧ ∀ y ∈ l.take (j + 1), cd y < cd m
  rw [take_one hx]
  refine ⟨rfl, fun y hy => ?_⟩
  rcases List.mem_append.1 hy with e | e
  · exact h2 y e
  · simp at e; subst e; exact hlt
theorem addI_eq {l q : List RM} {m x : RM} {j : Nat} (h : AddI l m j false q) (hx : l[j]? = some x) (hk : x.key = m.key) : AddI l m (j + 1) true (q ++ [compM x m]) := by
  obtain ⟨rfl, h2⟩ : q = l.take j ∧ ∀ y ∈ l.take j, cd y < cd m := h
  have hc : cd x = cd m := by unfold cd; rw [hk]
  show _ = addL (l.take (j + 1)) m ∧ ∃ y ∈ l.take (j + 1), cd m ≤ cd y
  rw [take_one hx]
  refine ⟨?_, x, by simp, by omega⟩
  rw [addL_before [x] h2, addL, if_neg (by omega), if_pos hk]
theorem addI_gt {l q : List RM} {m x : RM} {j : Nat} (h : AddI l m j false q) (hx : l[j]? = some x) (hgt : cd m < cd x) : AddI l m (j + 1) true (q ++ [m] ++ [x]) := by
  obtain ⟨rfl, h2⟩ : q = l.take j ∧ ∀ y ∈ l.take j, cd y < cd m := h
  show _ = addL (l.take (j + 1)) m ∧ ∃ y ∈ l.take (j + 1), cd m ≤ cd y
  rw [take_one hx]
  refine ⟨?_, x, by simp, by omega⟩
  rw [addL_before [x] h2, addL, if_neg (by omega), if_neg (fun e => by have : cd x = cd m := by unfold cd; rw [e]
                                                                       omega)]
  simp
theorem addI_past {l q : List RM} {m x : RM} {j : Nat} (h : AddI l m j true q) (hx : l[j]? = some x) : AddI l m (j + 1) true (q ++ [x]) := by
  obtain ⟨rfl, y, hy, hle⟩ : q = addL (l.take j) m ∧ ∃ y ∈ l.take j, cd m ≤ cd y := h
  show _ = addL (l.take (j + 1)) m ∧ ∃ y ∈ l.take (j + 1), cd m ≤ cd y
  rw [take_one hx]
  exact ⟨(addL_past x ⟨y, hy, hle⟩).symm, y, List.mem_append_left _ hy, hle⟩
theorem addI_gt_of {l q : List RM} {m x : RM} {j : Nat} (ol : OkL l) (h : AddI l m j true q) (hx : l[j]? = some x) : cd m < cd x := by
  obtain ⟨rfl, y, hy, hle⟩ : q = addL (l.take j) m ∧ ∃ y ∈ l.take j, cd m ≤ cd y := h
  obtain ⟨t, ht, e⟩ := List.mem_iff_getElem.1 hy
  have h3 : (l.take j)[t]? = some y := by rw [List.getElem?_eq_getElem ht, e]
  rw [List.getElem?_take] at h3
  split at h3
  · rename_i htj
    obtain ⟨a1, a2⟩ := List.getElem?_eq_some_iff.1 h3
    obtain ⟨b1, b2⟩ := List.getElem?_eq_some_iff.1 hx
    have := List.pairwise_iff_getElem.1 ol.asc t j a1 b1 htj
    rw [a2, b2] at this
    omega
  · cases h3
theorem addI_end {l q : List RM} {m : RM} {j : Nat} {p : Bool} (h : AddI l m j p q) (hj : l.length ≤ j) : addL l m = if p = true then q else q ++ [m] := by
  have e : l.take j = l := List.take_of_length_le hj
  cases p
  · obtain ⟨rfl, h2⟩ : q = l.take j ∧ ∀ y ∈ l.take j, cd y < cd m := h
    rw [e] at h2 ⊢
    have := addL_before [] h2
    rw [List.append_nil] at this
    rw [this]
    rfl
  · obtain ⟨rfl, -⟩ : q = addL (l.take j) m ∧ ∃ y ∈ l.take j, cd m ≤ cd y := h
    rw [e]
    rfl
set_option maxHeartbeats 4000000 in
theorem ref_add {w : World} {A : Option Addr} {n c B : Nat} {l : List RM} {m : RM} (hl : Has w B A (rows mc l)) (hB : B ≤ w.heap.size) (hn : l.length = n) (hsm : n ≤ 100000) (ol : OkL l) (wm : m.wf) (om : okM m = true) :
    Calls Try.prog 63 #[.slice A n c, mm m] w fun e w' => ∃ A' c', e = .returned (.slice A' (addL l m).length c') ∧ OwnM w' w.heap.size A' c' (addL l m) ∧ Fr w w' := by
  obtain ⟨Z, hZ, hF, hZZ, hM, hS⟩ := msg_box1 w m
  have hBZ : B ≤ Z.heap.size := Nat.le_trans hB hF.size
  have hSz := hF.size
  have lM := msg_all hM wm.val.hl
  have lMk := msg_keyAt hM
  have Hl := keep (hl.fr hB hF)
  have Hn := keep hn
  have Hol := keep ol
  have Hwm := keep wm
  have hsz : (mc m).length = 29 := mc_len wm.val.hl
  have hfo := fold_at wm
  clear hl hn ol hM
  go_enter Try.func63, Try.ntmps63
  go_wp2_with fail
  go_loopg [5, 6, 7] n (fun g s5 s6 s7 wr => ∃ (j : Nat) (p : Bool) (A' : Option Addr) (n' c' : Nat) (q : List RM), j + g = n ∧ s7 = .int .i64 j ∧ s6 = .bool p ∧ s5 = .slice A' n' c' ∧ n' ≤ j + 1 ∧ Hid (q.length = n') ∧ Hid (OwnM wr Z.heap.size A' c' q) ∧ Hid (AddI l m j p q) ∧ Hid (Fr Z wr))
  case atStart => exact ⟨0, false, none, 0, 0, [], by omega, rfl, rfl, rfl, by omega, keep rfl, keep (Own.nil _ _ _ _), keep ⟨rfl, fun y hy => by simp at hy⟩, keep hZZ⟩
  case round =>
    obtain ⟨j, p, A', n', c', q, hj, rfl, rfl, rfl, hn'j, Hn', hO, HI, hZr⟩ := hrel
    by_cases hlt : j < n
    · have hx : l[j]? = some (l[j]'(by rw [Hn.out]; exact hlt)) := List.getElem?_eq_getElem _
      generalize l[j]'(by rw [Hn.out]; exact hlt) = x at hx
      have hwid := Hol.out.good.wfm.wid
      obtain ⟨b, off, rfl, hb1, hr⟩ := has_rows Hl.out hwid (by decide) (by intro e; rw [e] at hx; simp at hx)
      have lX := elem_ld msgS hr hwid (by omega) hx
      have lXk := elem_part keyS hr hwid (by omega) hx (mc_key x) (kc_len _)
      have gx := Hol.out.good x (mem_at hx)
      have cK := fun W0 W h => rkcomp_at (W0 := W0) (W := W) gx.1.key wm.key (okM_key gx.2) (okM_key om) h
      have hZ1 := hZr.out
      have hrr := fr_refl wr
      have hZD := fr_drew hZ1
      have hrD := fr_drew hrr
      have hjz : (j : Int) < (n : Int) := by omega
      have HX := keep hx
      have hszx : (mc x).length = 29 := mc_len gx.1.val.hl
      have hfx := fold_at gx.1
      have Hwx := keep gx.1
      rcases Int.lt_trichotomy (cd x) (cd m) with hc | hc | hc
      · have hr1 : cmpK x.key m.key < 0 := cmpK_lt.2 hc
        have hp : p = false := by
          cases p with
          | false => rfl
          | true => have := addI_gt_of Hol.out HI.out hx; omega
        subst hp
        have HI2 := keep (addI_lt HI.out hx hc)
        generalize cmpK x.key m.key = r at *
        have r1 : ¬ r = 0 := by omega
        have r2 : ¬ 0 < r := by omega
        clear hx hr hlt gx hc hwid wm om
        go_wp2_with fail
        go_region_held3 (fun w' => Fr Z w' ∧ Fr wr w') (first | (go_split_ands; exact ⟨hZD, hrD⟩) | (go_split_ands; exact ⟨by assumption, by assumption⟩))
          (first
            | (go_at_call 60; (with_reducible refine (cK wr _ (by assumption)).mono ?_); rintro e w9 ⟨rfl, hz9⟩; have hZ9 := fr_step hZ1 hz9))
        rename_i hH
        obtain ⟨hWZ, hWr⟩ := hH
        have hOW := hO.out.fr hWr
        go_wp2_with (first
          | (refine wpList_append_msg (.tmp 44) (.tmp 49) rfl rfl rfl rfl hWZ hOW Hn'.out (by omega) Hwx.out ?_; intro A9 c9 w10 ho9 hf9)
          | fail)
        go_roundg (gk - 1)
        case measure => omega
        case rel => exact ⟨j + 1, false, A9, n' + 1, c9, q ++ [x], by omega, rfl, rfl, rfl, by omega, keep (by rw [List.length_append, Hn'.out]; rfl), keep ho9, HI2, keep hf9⟩
      · have hk : x.key = m.key := (cd_key gx.1 wm gx.2 om).1 hc
        have hr1 : cmpK x.key m.key = 0 := (cmpK_eq gx.1.key wm.key (okM_key gx.2) (okM_key om)).2 hk
        have hp : p = false := by
          cases p with
          | false => rfl
          | true => have := addI_gt_of Hol.out HI.out hx; omega
        subst hp
        have HI2 := keep (addI_eq HI.out hx hk)
        rw [hr1] at cK
        have Hy := keep (comp_wf gx.1 wm)
        have hszy : (mc (compM x m)).length = 29 := mc_len Hy.out.val.hl
        have hfy := fold_at Hy.out
        have cC := fun W0 W h => rmcompose_at (W0 := W0) (W := W) gx.1 wm gx.2 om h
        generalize compM x m = y at *
        clear hx hr hlt gx hc hwid wm om hk hr1
        go_wp2_with fail
        go_region_held3 (fun w' => Fr Z w' ∧ Fr wr w') (first | (go_split_ands; exact ⟨hZD, hrD⟩) | (go_split_ands; exact ⟨by assumption, by assumption⟩))
          (first
            | (go_at_call 60; (with_reducible refine (cK wr _ (by assumption)).mono ?_); rintro e w9 ⟨rfl, hz9⟩; have hZ9 := fr_step hZ1 hz9))
        rename_i hH
        obtain ⟨hWZ, hWr⟩ := hH
        have hOW := hO.out.fr hWr
        have hWD := fr_drew hWZ
        go_wp2_with fail
        ·
          refine wp_region_noPanic ?_
          refine wp_region_held_drew (S := fun w' => Fr Z w') (by kernel_rfl) hWD (fun hHeld => ?_)
          change wpAnyH _ _ _ _ _ _ _ _ _
          refine wpAnyH_take (i := 0) (v := ?_) rfl (by kernel_rfl) (by kernel_rfl) (by kernel_rfl) (fun _ _ _ h => h) (Or.inl ⟨by rfl, ?_⟩) (by assumption) ?_
          rotate_left
          · intro w' hSw
            try dsimp only at hSw
            go_simp
            try with_reducible rfl
          try simp only [List.getElem_toArray, List.getElem_cons_zero, Act.put, List.setIfInBounds_toArray, List.set_cons_zero, List.set_cons_succ]
          refine wpAnyH_take (i := 1) (v := ?_) rfl (by kernel_rfl) (by kernel_rfl) (by kernel_rfl) (fun _ _ _ h => h) (Or.inl ⟨by rfl, ?_⟩) (by assumption) ?_
          rotate_left
          · intro w' hSw
            try dsimp only at hSw
            go_simp
            try with_reducible rfl
          try simp only [List.getElem_toArray, List.getElem_cons_succ, List.getElem_cons_zero, Act.put, List.setIfInBounds_toArray, List.set_cons_zero, List.set_cons_succ]
          refine wpAnyH_take (i := 2) (v := ?_) rfl (by kernel_rfl) (by kernel_rfl) (by kernel_rfl) (fun _ _ _ h => h) (Or.inl ⟨by rfl, ?_⟩) (by assumption) ?_
          rotate_left
          · intro w' hSw
            try dsimp only at hSw
            go_simp
            try with_reducible rfl
          try simp only [List.getElem_toArray, List.getElem_cons_succ, List.getElem_cons_zero, Act.put, List.setIfInBounds_toArray, List.set_cons_zero, List.set_cons_succ]
          refine wpAnyH_take (i := 3) (v := ?_) rfl (by kernel_rfl) (by kernel_rfl) (by kernel_rfl) (fun _ _ _ h => h) (Or.inl ⟨by rfl, ?_⟩) (by assumption) ?_
          rotate_left
          · intro w' hSw
            try dsimp only at hSw
            go_simp
            try with_reducible rfl
          try simp only [List.getElem_toArray, List.getElem_cons_succ, List.getElem_cons_zero, Act.put, List.setIfInBounds_toArray, List.set_cons_zero, List.set_cons_succ]
          refine wpAnyH_take (i := 4) (v := ?_) rfl (by kernel_rfl) (by kernel_rfl) (by kernel_rfl) (fun _ _ _ h => h) (Or.inl ⟨by rfl, ?_⟩) (by assumption) ?_
          rotate_left
          · intro w' hSw
            try dsimp only at hSw
            go_simp
            try with_reducible rfl
          try simp only [List.getElem_toArray, List.getElem_cons_succ, List.getElem_cons_zero, Act.put, List.setIfInBounds_toArray, List.set_cons_zero, List.set_cons_succ]
          refine wpAnyH_take (i := 5) (v := ?_) rfl (by kernel_rfl) (by kernel_rfl) (by kernel_rfl) (fun _ _ _ h => h) (Or.inl ⟨by rfl, ?_⟩) (by assumption) ?_
          rotate_left
          · intro w' hSw
            try dsimp only at hSw
            go_simp
            try with_reducible rfl
          try simp only [List.getElem_toArray, List.getElem_cons_succ, List.getElem_cons_zero, Act.put, List.setIfInBounds_toArray, List.set_cons_zero, List.set_cons_succ]
          refine wpAnyH_ready (rs := [6]) (by kernel_rfl) (by simp) ?_
          refine AllReadyH.cons rfl (fun K hK0 => ?_) AllReadyH.nil
          go_simp
          refine (cC _ _ (fr_refl _)).mono ?_
          rintro e w9 ⟨rfl, hz9⟩
          have hZ9 := fr_step hWD hz9
          have hO9 := OwnM.fr (own_drew hOW) hz9
          go_simp
          refine hK0.out _ _ hZ9 (fun _ => ?_)
          clear hK0 K
          try simp only [List.getElem_toArray, List.getElem_cons_succ, List.getElem_cons_zero, Act.put, List.setIfInBounds_toArray, List.set_cons_zero, List.set_cons_succ]
          refine wpAnyH_ready (rs := [7]) (by kernel_rfl) (by simp) ?_
          refine AllReadyH.cons rfl (fun K hK0 => ?_) AllReadyH.nil
          go_simp
          refine hK0.out _ _ (fr_new hZ9 _) (fun _ => ?_)
          clear hK0 K
          try simp only [List.getElem_toArray, List.getElem_cons_succ, List.getElem_cons_zero, Act.put, List.setIfInBounds_toArray, List.set_cons_zero, List.set_cons_succ]
          refine wpAnyH_ready (rs := [8]) (by kernel_rfl) (by simp) ?_
          refine AllReadyH.cons rfl (fun K hK0 => ?_) AllReadyH.nil
          refine step_append_msg (.tmp 25) (.tmp 32) rfl rfl ?_ ?_ hZ9 hO9 Hn'.out (by omega) Hy.out ?_
          · rfl
          · rfl
          intro A9 c9 w10 ho9 hf9
          refine hK0.out _ _ hf9 (fun _ => ?_)
          clear hK0 K hHeld
          try simp only [List.getElem_toArray, List.getElem_cons_succ, List.getElem_cons_zero, Act.put, List.setIfInBounds_toArray, List.set_cons_zero, List.set_cons_succ]
          refine wpAnyH_take (i := 9) (v := ?_) rfl (by kernel_rfl) (by kernel_rfl) (by kernel_rfl) (fun _ _ _ h => h) (Or.inl ⟨by rfl, ?_⟩) (by assumption) ?_
          rotate_left
          · intro w' hSw
            try dsimp only at hSw
            go_simp
            try with_reducible rfl
          try simp only [List.getElem_toArray, List.getElem_cons_succ, List.getElem_cons_zero, Act.put, List.setIfInBounds_toArray, List.set_cons_zero, List.set_cons_succ]
          refine wpAnyH_done (by kernel_rfl) ?_ _
          refine NoPanic.normal ?_
          go_wp2_with fail
          go_roundg (gk - 1)
          case measure => omega
          case rel => exact ⟨j + 1, true, A9, n' + 1, c9, q ++ [y], by omega, rfl, rfl, rfl, by omega, keep (by rw [List.length_append, Hn'.out]; rfl), keep ho9, HI2, keep hf9⟩
      · have hr1 : 0 < cmpK x.key m.key := cmpK_gt.2 hc
        cases p with
        | false =>
          have hq2 : n' ≤ j := by have := addI_len HI.out; rw [Hn'.out] at this; exact this
          have HI2 := keep (addI_gt HI.out hx hc)
          generalize cmpK x.key m.key = r at *
          have r1 : ¬ r = 0 := by omega
          have Hn2 : Hid ((q ++ [m]).length = n' + 1) := keep (by rw [List.length_append, Hn'.out]; rfl)
          clear hx hr hlt gx hc hwid wm om
          go_wp2_with fail
          go_region_held3 (fun w' => Fr Z w' ∧ Fr wr w') (first | (go_split_ands; exact ⟨hZD, hrD⟩) | (go_split_ands; exact ⟨by assumption, by assumption⟩))
            (first
              | (go_at_call 60; (with_reducible refine (cK wr _ (by assumption)).mono ?_); rintro e w9 ⟨rfl, hz9⟩; have hZ9 := fr_step hZ1 hz9))
          rename_i hH
          obtain ⟨hWZ, hWr⟩ := hH
          have hOW := hO.out.fr hWr
          go_wp2_with (first
            | (refine wpList_append_msg (.tmp 40) (.tmp 42) rfl rfl rfl rfl hWZ hOW Hn'.out (by omega) Hwm.out ?_; intro A8 c8 w8 ho8 hf8)
            | (refine wpList_append_msg (.tmp 44) (.tmp 49) rfl rfl rfl rfl hf8 ho8 Hn2.out (by omega) Hwx.out ?_; intro A9 c9 w10 ho9 hf9)
            | fail)
          go_roundg (gk - 1)
          case measure => omega
          case rel => exact ⟨j + 1, true, A9, n' + 1 + 1, c9, q ++ [m] ++ [x], by omega, rfl, rfl, rfl, by omega, keep (by rw [List.length_append, Hn2.out]; rfl), keep ho9, HI2, keep hf9⟩
        | true =>
          have HI2 := keep (addI_past HI.out hx)
          generalize cmpK x.key m.key = r at *
          have r1 : ¬ r = 0 := by omega
          clear hx hr hlt gx hc hwid wm om
          go_wp2_with fail
          go_region_held3 (fun w' => Fr Z w' ∧ Fr wr w') (first | (go_split_ands; exact ⟨hZD, hrD⟩) | (go_split_ands; exact ⟨by assumption, by assumption⟩))
            (first
              | (go_at_call 60; (with_reducible refine (cK wr _ (by assumption)).mono ?_); rintro e w9 ⟨rfl, hz9⟩; have hZ9 := fr_step hZ1 hz9))
          rename_i hH
          obtain ⟨hWZ, hWr⟩ := hH
          have hOW := hO.out.fr hWr
          go_wp2_with (first
            | (refine wpList_append_msg (.tmp 44) (.tmp 49) rfl rfl rfl rfl hWZ hOW Hn'.out (by omega) Hwx.out ?_; intro A9 c9 w10 ho9 hf9)
            | fail)
          go_roundg (gk - 1)
          case measure => omega
          case rel => exact ⟨j + 1, true, A9, n' + 1, c9, q ++ [x], by omega, rfl, rfl, rfl, by omega, keep (by rw [List.length_append, Hn'.out]; rfl), keep ho9, HI2, keep hf9⟩
    · have hjn : j = n := by omega
      have hjz : ¬ (j : Int) < (n : Int) := by omega
      have he := addI_end HI.out (by rw [Hn.out]; omega)
      have hZ1 := hZr.out
      have hOr := hO.out
      cases p with
      | true =>
        have He : Hid (addL l m = q) := keep (by rw [he]; rfl)
        clear hlt hjn he
        go_wp2_with fail
        go_ret
        rw [He.out, Hn'.out]
        exact ⟨A', c', rfl, hOr.mono hSz, fr_step hF hZ1⟩
      | false =>
        have He : Hid (addL l m = q ++ [m]) := keep (by rw [he]; rfl)
        clear hlt hjn he
        go_wp2_with (first
          | (refine wpList_append_msg (.tmp 53) (.tmp 55) rfl rfl rfl rfl hZ1 hOr Hn'.out (by omega) Hwm.out ?_; intro A9 c9 w10 ho9 hf9)
          | fail)
        go_ret
        rw [He.out, List.length_append, Hn'.out]
        exact ⟨A9, c9, rfl, ho9.mono hSz, fr_step hF hf9⟩
end Go.Proofs.Ytcdcaanmmbopbaa
