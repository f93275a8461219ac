/- Buffers in memory, ten: 'slices.IndexFunc', 'ContainsFunc', the closures of 'Less'. -/
import Derived.Test.YtnfoebcfhldemaaBufG
namespace Go.Proofs.Ytnfoebcfhldemaa
set_option maxRecDepth 100000
open Go.RowKit
set_option linter.unusedVariables false
attribute [local go_sem ↓] key_ld msg_ld msg_st
set_option maxHeartbeats 2000000 in
theorem index_at {w : World} {A : Option Addr} {n c B : Nat} {l : List RM} (p : RM → Bool) (g : Nat) (cb : Array Value) (eg : ∀ args w, (callFunc g args).run Try.prog w = .ok (.enter g args) w)
    (hl : Has w B A (rows mc l)) (hB : B ≤ w.heap.size) (hn : l.length = n) (hsm : n ≤ 100000) (wl : WfM l)
    (hp : ∀ W m, Fr w W → m ∈ l → Calls Try.prog g (#[mm m] ++ cb) W fun e w' => e = .returned (.bool (p m)) ∧ Fr W w') :
    Calls Try.prog 85 #[.slice A n c, .func (.func g) #[] cb] w fun e w' => Fr w w' ∧ ((e = .returned (.int .i64 (-1)) ∧ ∀ m ∈ l, p m = false) ∨ ∃ (k : Nat) (m : RM), e = .returned (.int .i64 k) ∧ l[k]? = some m ∧ p m = true ∧ ∀ t x, t < k → l[t]? = some x → p x = false) := by
  have Hl := keep hl
  have Hn := keep hn
  have Hwl := keep wl
  have Hp := keep hp
  clear hl hn wl hp
  go_enter Try.func85, Try.ntmps85
  go_wp2_with fail
  go_loopg [5, 8] n (fun gg _ s8 wr => ∃ j : Nat, j + gg = n ∧ s8 = .int .i64 j ∧ Hid (Fr w wr) ∧ Hid (∀ t x, t < j → l[t]? = some x → p x = false))
  case atStart => exact ⟨0, by omega, rfl, keep (fr_refl w), keep (fun t x h => by omega)⟩
  case round =>
    obtain ⟨j, hj, rfl, hF, hno⟩ := hrel
    by_cases hlt : j < n
    · have hm : l[j]? = some (l[j]'(by rw [Hn.out]; exact hlt)) := List.getElem?_eq_getElem _
      generalize l[j]'(by rw [Hn.out]; exact hlt) = m at hm
      obtain ⟨b, off, rfl, hb1, hr⟩ := has_rows Hl.out Hwl.out.wid (by decide) (by intro e; rw [e] at hm; simp at hm)
      have lX := elem_ld msgS hr Hwl.out.wid (by omega) hm
      have hc := Hp.out wr m hF.out (mem_at hm)
      have Hm := keep hm
      have hF1 := hF.out
      have hjz : (j : Int) < (n : Int) := by omega
      clear hm hr hlt
      cases hq : p m with
      | true =>
        rw [hq] at hc
        go_wp2_with (first | (go_at_fn g; refine hc.mono ?_; rintro e w' ⟨rfl, hz⟩) | fail)
        go_ret
        exact ⟨fr_step hF1 hz, .inr ⟨j, m, rfl, Hm.out, hq, hno.out⟩⟩
      | false =>
        rw [hq] at hc
        have Hq := keep hq
        clear hq
        go_wp2_with (first | (go_at_fn g; refine hc.mono ?_; rintro e w' ⟨rfl, hz⟩) | fail)
        go_roundg (gk - 1)
        case measure => omega
        case rel => exact ⟨j + 1, by omega, rfl, keep (fr_step hF1 hz), keep (fun t x ht hx => by
          by_cases e : t = j
          · subst e
            rw [Hm.out] at hx
            injection hx with hx
            rw [← hx]; exact Hq.out
          · exact hno.out t x (by omega) hx)⟩
    · have hjn : j = n := by omega
      have hjz : ¬ (j : Int) < (n : Int) := by omega
      clear hlt
      go_wp2_with fail
      go_ret
      refine ⟨hF.out, .inl ⟨rfl, fun m hm => ?_⟩⟩
      obtain ⟨t, ht, e⟩ := List.mem_iff_getElem.1 hm
      exact hno.out t m (by rw [hjn, ← Hn.out]; exact ht) (by rw [List.getElem?_eq_getElem ht, e])
set_option maxHeartbeats 2000000 in
theorem contains_at {w : World} {A : Option Addr} {n c B : Nat} {l : List RM} (p : RM → Bool) (g : Nat) (cb : Array Value) (eg : ∀ args w, (callFunc g args).run Try.prog w = .ok (.enter g args) w)
    (hl : Has w B A (rows mc l)) (hB : B ≤ w.heap.size) (hn : l.length = n) (hsm : n ≤ 100000) (wl : WfM l)
    (hp : ∀ W m, Fr w W → m ∈ l → Calls Try.prog g (#[mm m] ++ cb) W fun e w' => e = .returned (.bool (p m)) ∧ Fr W w') :
    Calls Try.prog 63 #[.slice A n c, .func (.func g) #[] cb] w fun e w' => e = .returned (.bool (l.any p)) ∧ Fr w w' := by
  have cI := index_at (c := c) p g cb eg hl hB hn hsm wl hp
  clear hl hp
  go_enter Try.func63, Try.ntmps63
  go_wp2_with fail
  refine cI.mono ?_
  rintro e w' ⟨hz, ⟨rfl, hno⟩ | ⟨k, m, rfl, hk, hpm, -⟩⟩
  · have hany : l.any p = false := by rw [List.any_eq_false]; intro x hx; simp [hno x hx]
    have Hany := keep hany
    clear hno hany cI
    go_wp2_with fail
    go_ret
    exact ⟨by rw [Hany.out]; rfl, hz⟩
  · have hany : l.any p = true := List.any_eq_true.2 ⟨m, List.mem_of_getElem? hk, hpm⟩
    have Hany := keep hany
    have hkz : (0 : Int) ≤ (k : Int) := by omega
    clear hk hpm hany cI
    go_wp2_with fail
    go_ret
    exact ⟨by rw [Hany.out]; rfl, hz⟩
set_option maxHeartbeats 2000000 in
theorem less_cl2 {W : World} {mb : Nat} {m x : RM} (hM : Arr W mb 36 (mc m).toArray) (wm : m.wf) (wx : x.wf) :
    Calls Try.prog 64 #[mm x, .pointer (some ⟨mb, 0, none⟩)] W fun e w' => e = .returned (.bool (decide (x.key = m.key))) ∧ Fr W w' := by
  obtain ⟨Z, hZ, hF, hZZ, hX, hS⟩ := msg_box1 W x
  have lX := msg_keyAt hX
  have lM := msg_keyAt (hM.below hF hM.lt)
  have qE := fun W => key_eql wx.key wm.key W
  generalize decide (x.key = m.key) = q at *
  clear hM hX
  go_enter Try.func64, Try.ntmps64
  go_wp2_with fail
  go_ret
  exact ⟨rfl, hF⟩
theorem any_find {gone : List RM} {k : RK} : (gone.any fun x => decide (x.key = k)) = (findL gone k).isSome := by
  induction gone with
  | nil => rfl
  | cons y gone ih =>
    rw [findL_cons, List.any_cons, ih]
    by_cases e : y.key = k <;> simp [e]
set_option maxHeartbeats 2000000 in
theorem less_cl1 {W : World} {gb : Nat} {A : Option Addr} {n c B : Nat} {gone : List RM} {m : RM} (hG : W.cell? ⟨gb, 0, none⟩ = some (.slice A n c)) (hgl : gb < W.heap.size) (hl : Has W B A (rows mc gone)) (hB : B ≤ W.heap.size) (hn : gone.length = n) (hsm : n ≤ 100000) (wl : WfM gone) (wm : m.wf) :
    Calls Try.prog 62 #[mm m, .pointer (some ⟨gb, 0, none⟩)] W fun e w' => e = .returned (.bool (findL gone m.key).isSome) ∧ Fr W w' := by
  obtain ⟨Z, hZ, hF, hZZ, hX, hS⟩ := msg_box1 W m
  have eg : ∀ args w, (callFunc 64 args).run Try.prog w = .ok (.enter 64 args) w := enters_of Try.func64 (by kernel_rfl) rfl
  have cC := contains_at (w := Z) (c := c) (fun x => decide (x.key = m.key)) 64 #[.pointer (some ⟨W.heap.size, 0, none⟩)] eg (hl.fr hB hF) (Nat.le_trans hB hF.size) hn hsm wl
    (fun V x hV hx => less_cl2 (hX.below hV hX.lt) wm (wl x hx))
  rw [any_find] at cC
  have hg2 : Z.cell? ⟨gb, 0, none⟩ = some (.slice A n c) := (hF.cell hgl).trans hG
  generalize (findL gone m.key).isSome = q at *
  clear hl hX eg hG
  go_enter Try.func62, Try.ntmps62
  go_wp2_with fail
  refine cC.mono ?_
  rintro e w' ⟨rfl, hz⟩
  go_wp2_with fail
  go_ret
  exact ⟨rfl, fr_step hF hz⟩
end Go.Proofs.Ytnfoebcfhldemaa
/- Buffers in memory, eleven: 'slices.DeleteFunc', 'Less'. -/
namespace Go.Proofs.Ytnfoebcfhldemaa
set_option maxRecDepth 100000
open Go.RowKit
set_option linter.unusedVariables false
attribute [local go_sem ↓] key_ld msg_ld msg_st
theorem wpList_store_own {P : Program} {α : Type} {cf : α → List Value} {w : World} {ops : Array Oper} {rest : List Oper} {o : Oper} {a : Act} {Q : Exit → Act → World → Prop} {B T size n c g j : Nat} {l : List α} {x : α} (hs : (P.info? T).map (·.size) = some size) (hgd : o.guard = none) (px py : Operand) (hop : o.op = .store T px py)
    (hx : a.eval px = .pointer (some ⟨g, j * size, none⟩)) (hy : a.eval py = .agg (cf x).toArray) (ho : Own w B T size (some ⟨g, 0, none⟩) n c (rows cf l)) (hw : Wid cf size l) (hn : l.length = n) (hj : j < n) (ha : (cf x).length = size) (h1 : One (cf x)) (hB : B ≤ w.heap.size)
    (h : ∀ W, Own W B T size (some ⟨g, 0, none⟩) n c (rows cf (l.set j x)) → Below B w W → wpList P ops Q rest (a.put o.dst undef) W) : wpList P ops Q (o :: rest) a w := by
  obtain ⟨cur', st, so, sb⟩ := own_set (P := P) hs ho hw hn hj ha h1
  refine wpList_plain hgd fun K hK => ?_
  unfold Oper.wp execOp
  have hr := st w (fr_refl w)
  simp only [stS] at hr
  simp only [hop, hx, hy, Sem.run_bind, Sem.run_pure, Result.andThen_ok, hr]
  exact hK _ _ (h _ (so w (fr_refl w)) (sb w (fr_refl w) (Nat.le_refl _) B (Nat.le_refl _) hB))
theorem wpList_clear_run {P : Program} (w : World) {ops : Array Oper} {rest : List Oper} {o : Oper} {a : Act} {Q : Exit → Act → World → Prop} (hgd : o.guard = none) (d : Operand) (t : TypeId)
    (ho : o.op = .call { callee := .builtin .clear, args := #[d], argTypes := #[t] }) (v : Value) (hd : a.eval d = v) {v' : Value} {w' : World}
    (hr : (Builtin.clear_ #[t] o.type #[v]).run P w = .ok v' w') (h : wpList P ops Q rest (a.put o.dst v') w') : wpList P ops Q (o :: rest) a w :=
  wpList_plain hgd fun _ hK => by
    unfold Oper.wp execOp
    simp only [ho, resolve, invoke, builtin, Sem.run_bind, Sem.run_pure, Result.andThen_ok, List.map_toArray, List.map_cons, List.map_nil, hd, hr]
    exact hK _ _ h
theorem msg_zero : ∃ i, Try.prog.info? 36 = some i ∧ i.size = 29 ∧ i.zero = some (mm zeroM) := by
  have e1 : (Try.prog.info? 36).bind (·.zero) = some (mm zeroM) := by kernel_rfl
  have e2 : (Try.prog.info? 36).map (·.size) = some 29 := by kernel_rfl
  cases h : Try.prog.info? 36 with
  | none => rw [h] at e2; cases e2
  | some i =>
    rw [h] at e1 e2
    exact ⟨i, rfl, by simpa using e2, by simpa using e1⟩
/-- What has been kept, j looked at: i of them, ahead. -/
structure DelI (p : RM → Bool) (l l' : List RM) (i j : Nat) : Prop where
  lt : i < j
  len : l'.length = l.length
  low : l'.take i = (l.take j).filter fun m => !p m
  high : l'.drop j = l.drop j
  wf : WfM l'
theorem WfM.set {l : List RM} {m : RM} (h : WfM l) (wm : m.wf) (i : Nat) : WfM (l.set i m) := fun x hx => by
  rcases List.mem_or_eq_of_mem_set hx with h2 | h2
  · exact h x h2
  · rw [h2]; exact wm
theorem DelI.at {p : RM → Bool} {l l' : List RM} {i j : Nat} (h : DelI p l l' i j) : l'[j]? = l[j]? := by
  have := congrArg (fun q => q[0]?) h.high
  simpa using this
theorem DelI.skip {p : RM → Bool} {l l' : List RM} {i j : Nat} {m : RM} (h : DelI p l l' i j) (hm : l[j]? = some m) (hp : p m = true) : DelI p l l' i (j + 1) where
  lt := by have := h.lt; omega
  len := h.len
  low := by rw [take_one hm, List.filter_append, h.low]; simp [hp]
  high := by rw [← List.drop_drop, ← List.drop_drop, h.high]
  wf := h.wf
theorem DelI.keep {p : RM → Bool} {l l' : List RM} {i j : Nat} {m : RM} (h : DelI p l l' i j) (hm : l[j]? = some m) (hp : p m = false) (wm : m.wf) : DelI p l (l'.set i m) (i + 1) (j + 1) where
  lt := by have := h.lt; omega
  len := by rw [List.length_set, h.len]
  low := by
    have hj := (List.getElem?_eq_some_iff.1 hm).1
    have hi : i < l'.length := by have := h.lt; have := h.len; omega
    have e : (l'.set i m)[i]? = some m := by simp [hi]
    rw [take_one e, List.take_set_of_le (Nat.le_refl _), h.low, take_one hm, List.filter_append]
    simp [hp]
  high := by
    rw [List.drop_set_of_lt (by have := h.lt; omega), ← List.drop_drop, ← List.drop_drop, h.high]
  wf := h.wf.set wm i
theorem DelI.start {p : RM → Bool} {l : List RM} {k : Nat} {m : RM} (hm : l[k]? = some m) (hp : p m = true) (hno : ∀ t x, t < k → l[t]? = some x → p x = false) (wl : WfM l) : DelI p l l k (k + 1) where
  lt := Nat.lt_succ_self _
  len := rfl
  low := by
    rw [take_one hm, List.filter_append]
    have : (l.take k).filter (fun m => !p m) = l.take k := List.filter_eq_self.2 fun x hx => by
      obtain ⟨t, ht, e⟩ := List.mem_iff_getElem.1 hx
      have h3 : (l.take k)[t]? = some x := by rw [List.getElem?_eq_getElem ht, e]
      rw [List.getElem?_take] at h3
      split at h3
      · rename_i h4; simp [hno t x h4 h3]
      · cases h3
    rw [this]
    simp [hp]
  high := rfl
  wf := wl
theorem DelI.done {p : RM → Bool} {l l' : List RM} {i : Nat} (h : DelI p l l' i l.length) : l'.take i = l.filter fun m => !p m := by
  have := h.low
  rwa [List.take_of_length_le (Nat.le_refl _)] at this
set_option maxHeartbeats 4000000 in
theorem delete_at {w : World} {A : Option Addr} {n c B : Nat} {l : List RM} (p : RM → Bool) (cb : Array Value) (ho : OwnM w B A c l) (hB : B ≤ w.heap.size) (hn : l.length = n) (hsm : n ≤ 100000) (wl : WfM l)
    (hp : ∀ W m, Below B w W → m ∈ l → Calls Try.prog 62 (#[mm m] ++ cb) W fun e w' => e = .returned (.bool (p m)) ∧ Fr W w') :
    Calls Try.prog 61 #[.slice A n c, .func (.func 62) #[] cb] w fun e w' => ∃ A' c', e = .returned (.slice A' (l.filter fun m => !p m).length c') ∧ OwnM w' B A' c' (l.filter fun m => !p m) ∧ Below B w w' := by
  have eg : ∀ args w, (callFunc 62 args).run Try.prog w = .ok (.enter 62 args) w := enters_of Try.func62 (by kernel_rfl) rfl
  have cI := index_at (c := c) p 62 cb eg ho.has (Nat.le_refl _) hn hsm wl (fun W m hW hm => hp W m (hW.mono hB) hm)
  have Ho := keep ho
  have Hn := keep hn
  have Hwl := keep wl
  have Hp := keep hp
  clear ho hn wl hp eg
  go_enter Try.func61, Try.ntmps61
  go_wp2_with fail
  refine cI.mono ?_
  rintro e w1 ⟨hz, ⟨rfl, hno⟩ | ⟨k, m, rfl, hk, hpm, hno⟩⟩
  · have hf : l.filter (fun m => !p m) = l := List.filter_eq_self.2 fun x hx => by simp [hno x hx]
    have Hf := keep hf
    clear hno hf cI
    go_wp2_with fail
    go_ret
    refine ⟨A, c, ?_, ?_, hz.mono hB⟩
    · rw [Hf.out, Hn.out]; rfl
    · rw [Hf.out]; exact Ho.out.fr hz
  · have hkn : k < n := by rw [← Hn.out]; exact (List.getElem?_eq_some_iff.1 hk).1
    have HI := keep (DelI.start hk hpm hno Hwl.out)
    have hk1 : ¬ ((k : Int) = -1) := by omega
    have HO1 : Hid (Own w1 B 36 29 A n c (rows mc l)) := keep (by have := Ho.out.fr hz; unfold OwnM at this; rwa [Hn.out] at this)
    have HB1 := keep (hz.mono hB)
    obtain ⟨g, rfl⟩ := HO1.out.addr (by omega)
    have hgB : B ≤ g := HO1.out.row.2.1
    clear hk hpm hno cI
    go_wp2_with fail
    go_loopg [5, 6] n (fun gg s5 s6 wr => ∃ (i j : Nat) (l' : List RM), j ≤ n ∧ n - j ≤ gg ∧ s5 = .int .i64 i ∧ s6 = .int .i64 j ∧ Hid (DelI p l l' i j) ∧ Hid (Own wr B 36 29 (some ⟨g, 0, none⟩) n c (rows mc l')) ∧ Hid (Below B w wr))
    case atStart => exact ⟨k, k + 1, l, hkn, by omega, rfl, rfl, HI, HO1, HB1⟩
    case round =>
      clear HI HO1 HB1
      obtain ⟨i, j, l', hjn, hjg, rfl, rfl, HI, HO, HB⟩ := hrel
      have hij := HI.out.lt
      by_cases hlt : j < n
      · have hm : l[j]? = some (l[j]'(by rw [Hn.out]; exact hlt)) := List.getElem?_eq_getElem _
        generalize l[j]'(by rw [Hn.out]; exact hlt) = m at hm
        have hm' : l'[j]? = some m := by rw [HI.out.at, hm]
        have hr : wr.rangeAt g 0 (rows mc l') := fun t v ht => by
          obtain ⟨b, off, e, -, hc⟩ := HO.out.has t v ht
          injection e with e
          injection e with e1 e2
          subst e1 e2
          exact hc
        have hgl := (HO.out.lt g rfl).2
        have lX := elem_ld msgS hr HI.out.wf.wid hgl hm'
        rw [Nat.zero_add] at lX
        have wm := Hwl.out m (mem_at hm)
        have Hm := keep hm
        have Hlm := keep (mc_len wm.val.hl)
        have hBr := Nat.le_trans hB HB.out.size
        have hrr := fr_refl wr
        have hjz : (j : Int) < (n : Int) := by omega
        have Hln : Hid (l'.length = n) := keep (by rw [HI.out.len, Hn.out])
        have cD := fun W (h : Fr wr W) => Hp.out W m (HB.out.trans (h.mono hBr)) (mem_at Hm.out)
        clear hm hm' hr hlt
        cases hq : p m with
        | true =>
          rw [hq] at cD
          have Hq := keep hq
          clear hq
          go_wp2_with (first
            | (refine wpList_store_at (ds := mc m) msg_info rfl (.tmp 7) (.tmp 25) rfl wr.heap.size 0 rfl rfl Hlm.out (mc_one _) (Arr.new wr (mc zeroM).toArray 36) (by decide) (splice_all _ _ (by rw [Hlm.out]; decide)) ?_; intro W5 hM5 hk5; have hF5 := hk5.fr (fr_new hrr _) (Nat.le_refl _); clear hk5; have lM := msg_all hM5 wm.val.hl; have h55 := fr_refl W5)
            | fail)
          refine (cD W5 hF5).mono ?_
          rintro e w9 ⟨rfl, hz9⟩
          have hF9 := fr_step hF5 hz9
          go_wp2_with fail
          go_roundg (gk - 1)
          case measure => omega
          case rel => exact ⟨i, j + 1, l', by omega, by omega, rfl, rfl, keep (HI.out.skip Hm.out Hq.out), keep (HO.out.below hF9 (Nat.le_refl _)), keep (HB.out.trans (hF9.mono hBr))⟩
        | false =>
          rw [hq] at cD
          have Hq := keep hq
          clear hq
          have hin : (i : Int) < (n : Int) := by omega
          go_wp2_with (first
            | (refine wpList_store_at (ds := mc m) msg_info rfl (.tmp 7) (.tmp 25) rfl wr.heap.size 0 rfl rfl Hlm.out (mc_one _) (Arr.new wr (mc zeroM).toArray 36) (by decide) (splice_all _ _ (by rw [Hlm.out]; decide)) ?_; intro W5 hM5 hk5; have hF5 := hk5.fr (fr_new hrr _) (Nat.le_refl _); clear hk5; have lM := msg_all hM5 wm.val.hl; have h55 := fr_refl W5)
            | fail)
          refine (cD W5 hF5).mono ?_
          rintro e w9 ⟨rfl, hz9⟩
          have hF9 := fr_step hF5 hz9
          have HO9 := keep (HO.out.below hF9 (Nat.le_refl _))
          have hB9 : B ≤ w9.heap.size := Nat.le_trans hBr hF9.size
          go_wp2_with (first
            | (refine wpList_store_own (x := m) msg_info rfl (.tmp 33) (.tmp 32) rfl rfl rfl HO9.out HI.out.wf.wid Hln.out (by omega) Hlm.out (mc_one _) hB9 ?_; intro W10 ho10 hb10)
            | fail)
          go_roundg (gk - 1)
          case measure => omega
          case rel => exact ⟨i + 1, j + 1, l'.set i m, by omega, by omega, rfl, rfl, keep (HI.out.keep Hm.out Hq.out wm), keep ho10, keep ((HB.out.trans (hF9.mono hBr)).trans hb10)⟩
      · have hjn2 : j = n := by omega
        have hjz : ¬ (j : Int) < (n : Int) := by omega
        have hdone : l'.take i = l.filter fun m => !p m := DelI.done (by rw [hjn2, ← Hn.out] at HI; exact HI.out)
        have hlen : (l'.take i).length = i := by rw [List.length_take, HI.out.len, Hn.out]; omega
        obtain ⟨inf, hinf, hsize, hz0⟩ := msg_zero
        have hin : i < n := by omega
        obtain ⟨w2, ys, hr, ho2, hg2⟩ := run_clear_own (P := Try.prog) (size := 29) wr 23 0 inf (mm zeroM) msgs_under hinf hz0 rfl (mc_one _) HO.out i (c - i) (i * 29) (Nat.le_of_lt hin) (.inl rfl)
        have hpre := ho2.pre (Nat.le_of_lt hin)
        have hwid := HI.out.wf.wid
        have e1 : (((rows mc l').take (i * 29)) ++ ys).take (i * 29) = rows mc (l'.take i) := by
          rw [List.take_left' (by rw [List.length_take, rows_len hwid, HI.out.len, Hn.out]; omega), ← rows_take hwid]
        rw [e1, hdone] at hpre
        rw [hdone] at hlen
        have Hpre := keep hpre
        have Hlen := keep hlen
        have hnc := HO.out.cap
        have q1 := msgs_slice_lo (some ⟨g, 0, none⟩) n c i (by omega)
        rw [lowM_some (by omega), Nat.zero_add] at q1
        have q2 := msgs_slice_hi (some ⟨g, 0, none⟩) n c i (by omega)
        have Hb := keep (HB.out.trans (grownBy_below hg2 hgB (Nat.le_trans hB HB.out.size)))
        clear hlt hjn2 hdone hlen hinf hsize hz0 hpre hwid e1 ho2 hg2 inf HI HO HB
        go_wp2_with (first
          | (refine wpList_clear_run _ rfl (.tmp 38) 23 rfl _ rfl hr ?_)
          | fail)
        go_ret
        refine ⟨some ⟨g, 0, none⟩, c, by rw [Hlen.out]; rfl, ?_, Hb.out⟩
        unfold OwnM
        rw [Hlen.out]
        exact Hpre.out
theorem gone_box (w : World) (A : Option Addr) (n c : Nat) : ∃ Z, w.alloc (.cells #[.slice A n c] 23) = Z ∧ Fr w Z ∧ Fr Z Z ∧ Arr Z w.heap.size 23 #[.slice A n c] ∧ Z.heap.size = w.heap.size + 1 := ⟨_, rfl, fr_new (fr_refl w) _, fr_refl _, Arr.new w _ _, by simp⟩
set_option maxHeartbeats 2000000 in
theorem less_at {w : World} {A A2 : Option Addr} {n c B n2 c2 B2 : Nat} {l gone : List RM} (hl : Has w B A (rows mc l)) (hB : B ≤ w.heap.size) (hn : l.length = n) (hsm : n ≤ 100000) (wl : WfM l) (hl2 : Has w B2 A2 (rows mc gone)) (hB2 : B2 ≤ w.heap.size) (hn2 : gone.length = n2) (hsm2 : n2 ≤ 100000) (wg : WfM gone) :
    Calls Try.prog 29 #[.slice A n c, .slice A2 n2 c2] w fun e w' => ∃ A' c', e = .returned (.slice A' (lessL l gone).length c') ∧ OwnM w' w.heap.size A' c' (lessL l gone) ∧ Fr w w' := by
  obtain ⟨Z, hZ, hF, hZZ, hG, hS⟩ := gone_box w A2 n2 c2
  have hBZ : B ≤ Z.heap.size := Nat.le_trans hB hF.size
  have hBZ2 : B2 ≤ Z.heap.size := Nat.le_trans hB2 hF.size
  have hlZ := hl.fr hB hF
  have hl2Z := hl2.fr hB2 hF
  have cC := clone_at (c := c) hlZ hBZ hn (by omega) wl
  have cD : ∀ W A' c', Fr Z W → OwnM W Z.heap.size A' c' l → Calls Try.prog 61 #[.slice A' n c', .func (.func 62) #[] #[.pointer (some ⟨w.heap.size, 0, none⟩)]] W fun e w' => ∃ A' c', e = .returned (.slice A' (lessL l gone).length c') ∧ OwnM w' Z.heap.size A' c' (lessL l gone) ∧ Below Z.heap.size W w' := fun W A' c' hW ho =>
    delete_at (fun m => (findL gone m.key).isSome) #[.pointer (some ⟨w.heap.size, 0, none⟩)] ho hW.size hn hsm wl (fun V m hV hm => by
      have hZV : Fr Z V := hW.trans hV
      exact less_cl1 ((hZV.cell hG.lt).trans (hG.cell 0)) (Nat.lt_of_lt_of_le hG.lt hZV.size) (hl2Z.fr hBZ2 hZV) (Nat.le_trans hBZ2 hZV.size) hn2 hsm2 wg (wl m hm))
  have hSz := hF.size
  clear hl hlZ hl2 hl2Z hG
  go_enter Try.func29, Try.ntmps29
  go_wp2_with (first
    | (go_at_call 59; refine cC.mono ?_; rintro e w1 ⟨A1, c1, rfl, ho1, hz1⟩)
    | fail)
  refine (cD _ _ _ hz1 ho1).mono ?_
  rintro e w2 ⟨A9, c9, rfl, ho2, hz2⟩
  go_wp2_with fail
  go_ret
  exact ⟨A9, c9, rfl, ho2.mono hSz, fr_step hF (hz1.trans hz2)⟩
end Go.Proofs.Ytnfoebcfhldemaa
