/- Buffers in memory, fifteen: the document's 'Find', 'Same', 'Batch', 'Less'. -/
import Derived.Test.YtnfoebcfhldemaaBufN
namespace Go.Proofs.Ytnfoebcfhldemaa
set_option maxRecDepth 100000
open Go.RowKit
set_option linter.unusedVariables false
attribute [local go_sem ↓] key_ld msg_ld msg_st
theorem msg_neq {a b : RM} (ha : a.wf) (hb : b.wf) (W : World) : (binOp .neq 36 (mm a) (mm b)).run Try.prog W = .ok (.bool (!decide (a = b))) W := by
  simp only [binOp, Sem.run_bind, msg_eqr ha hb, Result.andThen_ok, Sem.run_pure]
theorem findL_at : ∀ {l : List RM} {k : RK} {j : Nat} {m : RM}, (∀ t x, t < j → l[t]? = some x → x.key ≠ k) → l[j]? = some m → m.key = k → findL l k = some m
  | [], _, _, _, _, h, _ => by simp at h
  | y :: l, k, 0, m, _, h, e => by
    simp at h
    subst h
    rw [findL_cons, if_pos e]
  | y :: l, k, j + 1, m, hno, h, e => by
    have h0 := hno 0 y (Nat.succ_pos j) rfl
    rw [findL_cons, if_neg h0]
    exact findL_at (j := j) (fun t x ht hx => hno (t + 1) x (by omega) (by simpa using hx)) (by simpa using h) e
theorem findL_no {l : List RM} {k : RK} (hno : ∀ t x, t < l.length → l[t]? = some x → x.key ≠ k) : findL l k = none := by
  rw [findL_none]
  intro m hm
  obtain ⟨t, ht, e⟩ := List.mem_iff_getElem.1 hm
  exact hno t m ht (by rw [List.getElem?_eq_getElem ht, e])
set_option maxHeartbeats 2000000 in
theorem ref_find {w : World} {A : Option Addr} {n c B : Nat} {l : List RM} {k : RK} (hl : Has w B A (rows mc l)) (hB : B ≤ w.heap.size) (hn : l.length = n) (hsm : n ≤ 100000) (wl : WfM l) (wk : k.wf) :
    Calls Try.prog 15 #[.slice A n c, kv k] w fun e w' => e = .returned (findV (findL l k)) ∧ Fr w w' := by
  obtain ⟨Z, hZ, hF, hZZ, hK, hO, hS⟩ := key_box w k
  rw [zeroM_cells] at hZ
  have hlZ := hl.fr hB hF
  have hBZ : B ≤ Z.heap.size := Nat.le_trans hB hF.size
  have lk : ∀ W, Fr Z W → (ldS 27 (.pointer (some ⟨w.heap.size, 0, none⟩))).run Try.prog W = .ok (.agg (kc k).toArray) W := fun W h => keyS.ld (kc_len k) (hK.below h hK.lt)
  have Hl := keep hlZ
  have Hn := keep hn
  have Hwl := keep wl
  have HO := keep hO
  clear hl hn wl hlZ hK hO
  go_enter Try.func15, Try.ntmps15
  go_wp2_with fail
  go_loopg [6] n (fun g s6 wr => ∃ j : Nat, j + g = n ∧ s6 = .int .i64 j ∧ Hid (Fr Z wr) ∧ Hid (∀ t x, t < j → l[t]? = some x → x.key ≠ k))
  case atStart => exact ⟨0, by omega, rfl, keep hZZ, keep (fun t x h => by omega)⟩
  case round =>
    obtain ⟨j, hj, rfl, hW, hno⟩ := hrel
    by_cases hlt : j < n
    · have hm : l[j]? = some (l[j]'(by rw [Hn.out]; exact hlt)) := List.getElem?_eq_getElem _
      generalize l[j]'(by rw [Hn.out]; exact hlt) = m at hm
      obtain ⟨b, off, rfl, hb1, hr⟩ := has_rows Hl.out Hwl.out.wid (by decide) (by intro e; rw [e] at hm; simp at hm)
      have lX := elem_ld msgS hr Hwl.out.wid (by omega) hm
      have lXk := elem_part keyS hr Hwl.out.wid (by omega) hm (mc_key m) (kc_len _)
      have wm := Hwl.out m (mem_at hm)
      have qE := fun W => key_eql wm.key wk W
      have Hm := keep hm
      have Hlm := keep (mc_len wm.val.hl)
      have hWW := hW.out
      have hWD := fr_drew hWW
      have hjz : (j : Int) < (n : Int) := by omega
      clear hm hr hlt
      by_cases hk : m.key = k
      · have Hf := keep (findL_at hno.out Hm.out hk)
        rw [decide_eq_true hk] at qE
        clear hk wm
        go_wp2_with fail
        go_region_held3 (fun w' => Fr Z w') (first | exact hWD | assumption) (first | fail)
        rename_i hH
        have hO2 := HO.out.below hH HO.out.lt
        go_wp2_with (first
          | (refine wpList_store_at (ds := mc m) msg_info rfl (.tmp 4) (.tmp 23) rfl (w.heap.size + 1) 0 rfl rfl Hlm.out (mc_one _) hO2 (by decide) (splice_all _ _ (by rw [Hlm.out]; decide)) ?_; intro W5 hO5 hk5; have hF5 := hk5.fr (fr_step hF hH) (by omega); clear hk5)
          | fail)
        exact bodyPost_ret (msgS.result2 rfl _ (w.heap.size + 1) rfl Hlm.out hO5) rfl ⟨by rw [Hf.out]; rfl, hF5⟩
      · have Hk := keep hk
        rw [decide_eq_false hk] at qE
        clear hk wm
        go_wp2_with fail
        go_region_held3 (fun w' => Fr Z w') (first | exact hWD | assumption) (first | fail)
        rename_i hH
        go_wp2_with fail
        go_roundg (gk - 1)
        case measure => omega
        case rel => exact ⟨j + 1, by omega, rfl, keep hH, keep (fun t x ht hx => by
          by_cases e : t = j
          · subst e
            rw [Hm.out] at hx
            injection hx with hx
            rw [← hx]; exact Hk.out
          · exact hno.out t x (by omega) hx)⟩
    · have hjn : j = n := by omega
      have hjz : ¬ (j : Int) < (n : Int) := by omega
      have Hf := keep (findL_no (l := l) (k := k) (fun t x ht hx => hno.out t x (by rw [hjn, ← Hn.out]; exact ht) hx))
      have hO2 := HO.out.below hW.out HO.out.lt
      have hWW := hW.out
      clear hlt hjn hno
      go_wp2_with (first
        | (refine wpList_store_at (ds := mc zeroM) msg_info rfl (.tmp 4) (.tmp 24) rfl (w.heap.size + 1) 0 rfl rfl rfl (mc_one _) hO2 (by decide) (splice_all _ _ (by decide)) ?_; intro W5 hO5 hk5; have hF5 := hk5.fr (fr_step hF hWW) (by omega); clear hk5)
        | fail)
      exact bodyPost_ret (msgS.result2 rfl _ (w.heap.size + 1) rfl rfl hO5) rfl ⟨by rw [Hf.out]; rfl, hF5⟩
set_option maxHeartbeats 2000000 in
theorem ref_same {w : World} {A A2 : Option Addr} {n c B n2 c2 B2 : Nat} {l l2 : List RM} (hl : Has w B A (rows mc l)) (hB : B ≤ w.heap.size) (hn : l.length = n) (hsm : n ≤ 100000) (wl : WfM l) (hl2 : Has w B2 A2 (rows mc l2)) (hB2 : B2 ≤ w.heap.size) (hn2 : l2.length = n2) (hsm2 : n2 ≤ 100000) (wl2 : WfM l2) :
    Calls Try.prog 57 #[.slice A n c, .slice A2 n2 c2] w fun e w' => e = .returned (.bool (decide (l = l2))) ∧ Fr w w' := by
  have hww := fr_refl w
  by_cases hnn : n = n2
  · subst hnn
    have Hl := keep hl
    have Hn := keep hn
    have Hwl := keep wl
    have Hl2 := keep hl2
    have Hn2 := keep hn2
    have Hwl2 := keep wl2
    clear hl hn wl hl2 hn2 wl2
    go_enter Try.func57, Try.ntmps57
    go_wp2_with fail
    go_loopg [5] n (fun g s5 wr => ∃ j : Nat, j + g = n ∧ s5 = .int .i64 j ∧ Hid (Fr w wr) ∧ Hid (∀ t, t < j → l[t]? = l2[t]?))
    case atStart => exact ⟨0, by omega, rfl, keep hww, keep (fun t h => by omega)⟩
    case round =>
      obtain ⟨j, hj, rfl, hW, hno⟩ := hrel
      by_cases hlt : j < n
      · have hm : l[j]? = some (l[j]'(by rw [Hn.out]; exact hlt)) := List.getElem?_eq_getElem _
        generalize l[j]'(by rw [Hn.out]; exact hlt) = m at hm
        have hm2 : l2[j]? = some (l2[j]'(by rw [Hn2.out]; exact hlt)) := List.getElem?_eq_getElem _
        generalize l2[j]'(by rw [Hn2.out]; exact hlt) = m2 at hm2
        obtain ⟨b, off, rfl, hb1, hr⟩ := has_rows Hl.out Hwl.out.wid (by decide) (by intro e; rw [e] at hm; simp at hm)
        obtain ⟨b2, off2, rfl, hb2, hr2⟩ := has_rows Hl2.out Hwl2.out.wid (by decide) (by intro e; rw [e] at hm2; simp at hm2)
        have lX := elem_ld msgS hr Hwl.out.wid (by omega) hm
        have lX2 := elem_ld msgS hr2 Hwl2.out.wid (by omega) hm2
        have wm := Hwl.out m (mem_at hm)
        have wm2 := Hwl2.out m2 (mem_at hm2)
        have qE := fun W => msg_neq wm wm2 W
        have Hm := keep hm
        have Hm2 := keep hm2
        have hWW := hW.out
        have hWD := fr_drew hWW
        have hjz : (j : Int) < (n : Int) := by omega
        clear hm hr hm2 hr2 hlt
        by_cases hk : m = m2
        · have Hk := keep hk
          rw [decide_eq_true hk] at qE
          simp only [Bool.not_true] at qE
          clear hk wm wm2
          go_wp2_with fail
          go_region_held3 (fun w' => Fr w w') (first | exact hWD | assumption) (first | fail)
          rename_i hH
          go_wp2_with fail
          go_roundg (gk - 1)
          case measure => omega
          case rel => exact ⟨j + 1, by omega, rfl, keep hH, keep (fun t ht => by
            by_cases e : t = j
            · subst e
              rw [Hm.out, Hm2.out, Hk.out]
            · exact hno.out t (by omega))⟩
        · have Hf : Hid (decide (l = l2) = false) := keep (decide_eq_false (fun e => hk (by
            have := Hm.out
            rw [e, Hm2.out] at this
            injection this with this
            exact this.symm)))
          rw [decide_eq_false hk] at qE
          simp only [Bool.not_false] at qE
          clear hk wm wm2
          go_wp2_with fail
          go_region_held3 (fun w' => Fr w w') (first | exact hWD | assumption) (first | fail)
          rename_i hH
          go_wp2_with fail
          go_ret
          exact ⟨by rw [Hf.out]; rfl, hH⟩
      · have hjn : j = n := by omega
        have hjz : ¬ (j : Int) < (n : Int) := by omega
        have he : l = l2 := by
          apply List.ext_getElem?
          intro t
          by_cases ht : t < j
          · exact hno.out t ht
          · rw [List.getElem?_eq_none (by rw [Hn.out]; omega), List.getElem?_eq_none (by rw [Hn2.out]; omega)]
        have Hf : Hid (decide (l = l2) = true) := keep (decide_eq_true he)
        have hWW := hW.out
        clear hlt hjn hno he
        go_wp2_with fail
        go_ret
        exact ⟨by rw [Hf.out]; rfl, hWW⟩
  · have hnz : ¬ (n : Int) = (n2 : Int) := by omega
    have Hf : Hid (decide (l = l2) = false) := keep (decide_eq_false (fun e => hnn (by rw [← hn, ← hn2, e])))
    clear hl hl2 wl wl2 hn hn2
    go_enter Try.func57, Try.ntmps57
    go_wp2_with fail
    go_ret
    exact ⟨by rw [Hf.out]; rfl, hww⟩
end Go.Proofs.Ytnfoebcfhldemaa
