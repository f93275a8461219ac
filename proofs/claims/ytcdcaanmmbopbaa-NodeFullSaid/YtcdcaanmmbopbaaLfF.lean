/- Entries in memory: 'Bytes', 'Find' of both, 'Same' of the document. -/
import Derived.Test.YtcdcaanmmbopbaaLfC
namespace Go.Proofs.Ytcdcaanmmbopbaa
set_option maxRecDepth 100000
open Go.RowKit
set_option linter.unusedVariables false
attribute [local go_sem ↓] key_ld ent_ld val_ld msg_ld
set_option maxHeartbeats 2000000 in
theorem ebytes_at {w : World} {A : Option Addr} {n c B : Nat} {l : List RE} (hl : Has w B A (rows ec l)) (hB : B ≤ w.heap.size) (hn : l.length = n) (hsm : n ≤ 100000) (wl : WfE l) (hs : SmE l) :
    Calls Try.prog 40 #[.slice A n c] w fun e w' => e = .returned (.int .i64 (bytsE l)) ∧ Fr w w' := by
  have Hl := keep hl
  have Hn := keep hn
  have Hwl := keep wl
  have Hs0 := keep hs
  clear hl hn wl hs
  go_enter Try.func40, Try.ntmps40
  go_wp2_with fail
  go_loopg [3, 8] n (fun g s3 s8 wr => ∃ j : Nat, j + g = n ∧ s3 = .int .i64 (bytsE (l.take j)) ∧ s8 = .int .i64 j ∧ Hid (Fr w wr))
  case atStart => exact ⟨0, by omega, rfl, rfl, keep (fr_refl w)⟩
  case round =>
    obtain ⟨j, hj, rfl, rfl, hF⟩ := hrel
    by_cases hlt : j < n
    · have hm : l[j]? = some (l[j]'(by rw [Hn.out]; exact hlt)) := List.getElem?_eq_getElem _
      generalize l[j]'(by rw [Hn.out]; exact hlt) = m at hm
      obtain ⟨b, off, rfl, hb1, hr⟩ := has_rows Hl.out Hwl.out.wid (by decide) (by intro e; rw [e] at hm; simp at hm)
      have lX := elem_ld entS hr Hwl.out.wid (by omega) hm
      have wm := Hwl.out m (emem_at hm)
      have sm := Hs0.out m (emem_at hm)
      have hR := bytsE_rng (Hs0.out.sub (List.take_sublist j l))
      have hR2 := bytE_rng sm
      have hlen : (l.take j).length = j := by rw [List.length_take, Hn.out]; omega
      rw [hlen] at hR
      have Hs := keep (bytsE_take hm)
      have cB := fun W0 W h => esize_at (W0 := W0) (W := W) sm h
      have Hm := keep (ec_len wm.val.hl)
      have hF1 := hF.out
      generalize bytsE (l.take j) = s at *
      generalize bytE m = t at *
      have hjz : (j : Int) < (n : Int) := by omega
      clear hm hr hlen hlt sm
      go_wp2_with (first
        | (refine wpList_store_at (ds := ec m) ent_info rfl (.tmp 5) (.tmp 11) rfl wr.heap.size 0 rfl rfl Hm.out (ec_one _) (Arr.new wr (ec zeroE).toArray 45) (by decide) (splice_all _ _ (by rw [Hm.out]; decide)) ?_; intro W5 hM5 hk5; have hF5 := hk5.fr (fr_new hF1 _) hF1.size; clear hk5; have lM := ent_all hM5 wm.val.hl; have h55 := fr_refl W5)
        | (go_at_call 66; (with_reducible refine (cB W5 _ (by assumption)).mono ?_); rintro e w9 ⟨rfl, hz⟩)
        | fail)
      go_roundg (gk - 1)
      case measure => omega
      case rel => exact ⟨j + 1, by omega, by rw [Hs.out], rfl, keep (fr_step hF5 hz)⟩
    · have : j = n := by omega
      subst this
      have e : l.take j = l := List.take_of_length_le (by rw [Hn.out]; exact Nat.le_refl _)
      rw [e]
      go_wp2_with fail
      go_ret
      exact ⟨rfl, hF.out⟩
set_option maxHeartbeats 2000000 in
theorem ref_ebytes {w : World} {A : Option Addr} {n c B : Nat} {l : List RE} (hl : Has w B A (rows ec l)) (hB : B ≤ w.heap.size) (hn : l.length = n) (hsm : n ≤ 100000) (wl : WfE l) (hs : SmE l) :
    Calls Try.prog 41 #[.slice A n c] w fun e w' => e = .returned (.int .i64 (bytsE l)) ∧ Fr w w' := by
  have Hl := keep hl
  have Hn := keep hn
  have Hwl := keep wl
  have Hs0 := keep hs
  clear hl hn wl hs
  go_enter Try.func41, Try.ntmps41
  go_wp2_with fail
  go_loopg [3, 4] n (fun g s3 s8 wr => ∃ j : Nat, j + g = n ∧ s3 = .int .i64 (bytsE (l.take j)) ∧ s8 = .int .i64 j ∧ Hid (Fr w wr))
  case atStart => exact ⟨0, by omega, rfl, rfl, keep (fr_refl w)⟩
  case round =>
    obtain ⟨j, hj, rfl, rfl, hF⟩ := hrel
    by_cases hlt : j < n
    · have hm : l[j]? = some (l[j]'(by rw [Hn.out]; exact hlt)) := List.getElem?_eq_getElem _
      generalize l[j]'(by rw [Hn.out]; exact hlt) = m at hm
      obtain ⟨b, off, rfl, hb1, hr⟩ := has_rows Hl.out Hwl.out.wid (by decide) (by intro e; rw [e] at hm; simp at hm)
      have x0 := elem_cell0 hr Hwl.out.wid (by omega) hm (ec_0 m)
      have x9 := elem_cell hr Hwl.out.wid (by omega) hm (ec_9 m)
      have sm := Hs0.out m (emem_at hm)
      have hR := bytsE_rng (Hs0.out.sub (List.take_sublist j l))
      have hlen : (l.take j).length = j := by rw [List.length_take, Hn.out]; omega
      rw [hlen] at hR
      have Hs := keep (bytsE_take hm)
      have hF1 := hF.out
      have hFD := fr_drew hF1
      have Hb : Hid (bytE m = 2 + m.key.n + m.val.n) := keep rfl
      generalize bytsE (l.take j) = s at *
      obtain ⟨h1, h2, h3, h4⟩ := sm
      generalize m.key.n = kn at *
      generalize m.val.n = vn at *
      have hjz : (j : Int) < (n : Int) := by omega
      have e1 : IntKind.i64.wrap (s + 2) = s + 2 := by rw [IntKind.wrap_i64]; omega
      have e2 : IntKind.i64.wrap (s + 2 + kn) = s + 2 + kn := by rw [IntKind.wrap_i64]; omega
      have e3 : IntKind.i64.wrap (s + 2 + kn + vn) = s + 2 + kn + vn := by rw [IntKind.wrap_i64]; omega
      clear hm hr hlen hlt
      go_wp2_with fail
      go_region_held3 (fun w' => Fr w w') (first | exact hFD | assumption) (first | fail)
      rename_i hH
      go_wp2_with fail
      go_roundg (gk - 1)
      case measure => omega
      case rel => exact ⟨j + 1, by omega, by rw [Hs.out, Hb.out]; congr 1; omega, rfl, keep hH⟩
    · have : j = n := by omega
      subst this
      have e : l.take j = l := List.take_of_length_le (by rw [Hn.out]; exact Nat.le_refl _)
      rw [e]
      go_wp2_with fail
      go_ret
      exact ⟨rfl, hF.out⟩
/-- What 'Find' tells. -/
def findEV (o : Option RV) : Value := .tuple #[vv (o.getD zeroV), .bool o.isSome]
theorem ekey_box (w : World) (k : RK) : ∃ Z, (w.alloc (.cells (kc k).toArray 40)).alloc (.cells (vc zeroV).toArray 43) = Z ∧ Fr w Z ∧ Fr Z Z ∧ Arr Z w.heap.size 40 (kc k).toArray ∧ Arr Z (w.heap.size + 1) 43 (vc zeroV).toArray ∧ Z.heap.size = w.heap.size + 1 + 1 :=
  ⟨_, rfl, fr_new (fr_new (fr_refl w) _) _, fr_refl _, Arr.alloc (Arr.new w _ _) _, arr_at _ _ _ _ (by simp), by simp⟩
theorem findE_at : ∀ {l : List RE} {k : RK} {j : Nat} {m : RE}, (∀ t x, t < j → l[t]? = some x → x.key ≠ k) → l[j]? = some m → m.key = k → findE l k = some m.val
  | [], _, _, _, _, h, _ => by simp at h
  | y :: l, k, 0, m, _, h, e => by
    simp at h
    subst h
    rw [findE, if_pos e]
  | y :: l, k, j + 1, m, hno, h, e => by
    have h0 := hno 0 y (Nat.succ_pos j) rfl
    rw [findE, if_neg h0]
    exact findE_at (j := j) (fun t x ht hx => hno (t + 1) x (by omega) (by simpa using hx)) (by simpa using h) e
theorem findE_no {l : List RE} {k : RK} (hno : ∀ t x, t < l.length → l[t]? = some x → x.key ≠ k) : findE l k = none := by
  rw [findE_none]
  intro m hm
  obtain ⟨t, ht, e⟩ := List.mem_iff_getElem.1 hm
  exact hno t m ht (by rw [List.getElem?_eq_getElem ht, e])
set_option maxHeartbeats 2000000 in
theorem ref_efind {w : World} {A : Option Addr} {n c B : Nat} {l : List RE} {k : RK} (hl : Has w B A (rows ec l)) (hB : B ≤ w.heap.size) (hn : l.length = n) (hsm : n ≤ 100000) (wl : WfE l) (wk : k.wf) :
    Calls Try.prog 58 #[.slice A n c, kv k] w fun e w' => e = .returned (findEV (findE l k)) ∧ Fr w w' := by
  obtain ⟨Z, hZ, hF, hZZ, hK, hO, hS⟩ := ekey_box w k
  rw [zeroV_cells] at hZ
  have hlZ := hl.fr hB hF
  have hBZ : B ≤ Z.heap.size := Nat.le_trans hB hF.size
  have lk : ∀ W, Fr Z W → (ldS 40 (.pointer (some ⟨w.heap.size, 0, none⟩))).run Try.prog W = .ok (.agg (kc k).toArray) W := fun W h => keyS.ld (kc_len k) (hK.below h hK.lt)
  have Hl := keep hlZ
  have Hn := keep hn
  have Hwl := keep wl
  have HO := keep hO
  clear hl hn wl hlZ hK hO
  go_enter Try.func58, Try.ntmps58
  go_wp2_with fail
  go_loopg [6] n (fun g s6 wr => ∃ j : Nat, j + g = n ∧ s6 = .int .i64 j ∧ Hid (Fr Z wr) ∧ Hid (∀ t x, t < j → l[t]? = some x → x.key ≠ k))
  case atStart => exact ⟨0, by omega, rfl, keep hZZ, keep (fun t x h => by omega)⟩
  case round =>
    obtain ⟨j, hj, rfl, hW, hno⟩ := hrel
    by_cases hlt : j < n
    · have hm : l[j]? = some (l[j]'(by rw [Hn.out]; exact hlt)) := List.getElem?_eq_getElem _
      generalize l[j]'(by rw [Hn.out]; exact hlt) = m at hm
      obtain ⟨b, off, rfl, hb1, hr⟩ := has_rows Hl.out Hwl.out.wid (by decide) (by intro e; rw [e] at hm; simp at hm)
      have wm := Hwl.out m (emem_at hm)
      have lXk := elem_part (o := 0) keyS hr Hwl.out.wid (by omega) hm (ec_key m) (kc_len _)
      simp only [Nat.add_zero] at lXk
      have lXv := elem_part (o := 9) valS hr Hwl.out.wid (by omega) hm (ec_val wm.val.hl) (vc_len wm.val.hl)
      have qE := fun W => key_eql wm.key wk W
      have Hm := keep hm
      have Hlm := keep (vc_len wm.val.hl)
      have hWW := hW.out
      have hWD := fr_drew hWW
      have hjz : (j : Int) < (n : Int) := by omega
      clear hm hr hlt
      by_cases hk : m.key = k
      · have Hf := keep (findE_at hno.out Hm.out hk)
        rw [decide_eq_true hk] at qE
        clear hk wm
        go_wp2_with fail
        go_region_held3 (fun w' => Fr Z w') (first | exact hWD | assumption) (first | fail)
        rename_i hH
        have hO2 := HO.out.below hH HO.out.lt
        go_wp2_with (first
          | (refine wpList_store_at (ds := vc m.val) val_info rfl (.tmp 4) (.tmp 24) rfl (w.heap.size + 1) 0 rfl rfl Hlm.out (vc_one _) hO2 (by decide) (splice_all _ _ (by rw [Hlm.out]; decide)) ?_; intro W5 hO5 hk5; have hF5 := hk5.fr (fr_step hF hH) (by omega); clear hk5)
          | fail)
        exact bodyPost_ret (valS.result2 rfl _ (w.heap.size + 1) rfl Hlm.out hO5) rfl ⟨by rw [Hf.out]; rfl, hF5⟩
      · have Hk := keep hk
        rw [decide_eq_false hk] at qE
        clear hk wm
        go_wp2_with fail
        go_region_held3 (fun w' => Fr Z w') (first | exact hWD | assumption) (first | fail)
        rename_i hH
        go_wp2_with fail
        go_roundg (gk - 1)
        case measure => omega
        case rel => exact ⟨j + 1, by omega, rfl, keep hH, keep (fun t x ht hx => by
          by_cases e : t = j
          · subst e
            rw [Hm.out] at hx
            injection hx with hx
            rw [← hx]; exact Hk.out
          · exact hno.out t x (by omega) hx)⟩
    · have hjn : j = n := by omega
      have hjz : ¬ (j : Int) < (n : Int) := by omega
      have Hf := keep (findE_no (l := l) (k := k) (fun t x ht hx => hno.out t x (by rw [hjn, ← Hn.out]; exact ht) hx))
      have hO2 := HO.out.below hW.out HO.out.lt
      have hWW := hW.out
      clear hlt hjn hno
      go_wp2_with (first
        | (refine wpList_store_at (ds := vc zeroV) val_info rfl (.tmp 4) (.tmp 25) rfl (w.heap.size + 1) 0 rfl rfl rfl (vc_one _) hO2 (by decide) (splice_all _ _ (by decide)) ?_; intro W5 hO5 hk5; have hF5 := hk5.fr (fr_step hF hWW) (by omega); clear hk5)
        | fail)
      exact bodyPost_ret (valS.result2 rfl _ (w.heap.size + 1) rfl rfl hO5) rfl ⟨by rw [Hf.out]; rfl, hF5⟩
end Go.Proofs.Ytcdcaanmmbopbaa
/- Entries in memory: 'Same' of the document. -/
namespace Go.Proofs.Ytcdcaanmmbopbaa
set_option maxRecDepth 100000
open Go.RowKit
set_option linter.unusedVariables false
attribute [local go_sem ↓] key_ld ent_ld val_ld msg_ld
set_option maxHeartbeats 2000000 in
theorem ref_esame {w : World} {A A2 : Option Addr} {n c B n2 c2 B2 : Nat} {l l2 : List RE} (hl : Has w B A (rows ec l)) (hB : B ≤ w.heap.size) (hn : l.length = n) (hsm : n ≤ 100000) (wl : WfE l) (hl2 : Has w B2 A2 (rows ec l2)) (hB2 : B2 ≤ w.heap.size) (hn2 : l2.length = n2) (hsm2 : n2 ≤ 100000) (wl2 : WfE l2) :
    Calls Try.prog 32 #[.slice A n c, .slice A2 n2 c2] w fun e w' => e = .returned (.bool (decide (l = l2))) ∧ Fr w w' := by
  have hww := fr_refl w
  by_cases hnn : n = n2
  · subst hnn
    have Hl := keep hl
    have Hn := keep hn
    have Hwl := keep wl
    have Hl2 := keep hl2
    have Hn2 := keep hn2
    have Hwl2 := keep wl2
    clear hl hn wl hl2 hn2 wl2
    go_enter Try.func32, Try.ntmps32
    go_wp2_with fail
    go_loopg [5] n (fun g s5 wr => ∃ j : Nat, j + g = n ∧ s5 = .int .i64 j ∧ Hid (Fr w wr) ∧ Hid (∀ t, t < j → l[t]? = l2[t]?))
    case atStart => exact ⟨0, by omega, rfl, keep hww, keep (fun t h => by omega)⟩
    case round =>
      obtain ⟨j, hj, rfl, hW, hno⟩ := hrel
      by_cases hlt : j < n
      · have hm : l[j]? = some (l[j]'(by rw [Hn.out]; exact hlt)) := List.getElem?_eq_getElem _
        generalize l[j]'(by rw [Hn.out]; exact hlt) = m at hm
        have hm2 : l2[j]? = some (l2[j]'(by rw [Hn2.out]; exact hlt)) := List.getElem?_eq_getElem _
        generalize l2[j]'(by rw [Hn2.out]; exact hlt) = m2 at hm2
        obtain ⟨b, off, rfl, hb1, hr⟩ := has_rows Hl.out Hwl.out.wid (by decide) (by intro e; rw [e] at hm; simp at hm)
        obtain ⟨b2, off2, rfl, hb2, hr2⟩ := has_rows Hl2.out Hwl2.out.wid (by decide) (by intro e; rw [e] at hm2; simp at hm2)
        have lX := elem_ld entS hr Hwl.out.wid (by omega) hm
        have lX2 := elem_ld entS hr2 Hwl2.out.wid (by omega) hm2
        have wm := Hwl.out m (emem_at hm)
        have wm2 := Hwl2.out m2 (emem_at hm2)
        have qE := fun W => ent_neq wm wm2 W
        have Hm := keep hm
        have Hm2 := keep hm2
        have hWW := hW.out
        have hWD := fr_drew hWW
        have hjz : (j : Int) < (n : Int) := by omega
        clear hm hr hm2 hr2 hlt
        by_cases hk : m = m2
        · have Hk := keep hk
          rw [decide_eq_true hk] at qE
          simp only [Bool.not_true] at qE
          clear hk wm wm2
          go_wp2_with fail
          go_region_held3 (fun w' => Fr w w') (first | exact hWD | assumption) (first | fail)
          rename_i hH
          go_wp2_with fail
          go_roundg (gk - 1)
          case measure => omega
          case rel => exact ⟨j + 1, by omega, rfl, keep hH, keep (fun t ht => by
            by_cases e : t = j
            · subst e
              rw [Hm.out, Hm2.out, Hk.out]
            · exact hno.out t (by omega))⟩
        · have Hf : Hid (decide (l = l2) = false) := keep (decide_eq_false (fun e => hk (by
            have := Hm.out
            rw [e, Hm2.out] at this
            injection this with this
            exact this.symm)))
          rw [decide_eq_false hk] at qE
          simp only [Bool.not_false] at qE
          clear hk wm wm2
          go_wp2_with fail
          go_region_held3 (fun w' => Fr w w') (first | exact hWD | assumption) (first | fail)
          rename_i hH
          go_wp2_with fail
          go_ret
          exact ⟨by rw [Hf.out]; rfl, hH⟩
      · have hjn : j = n := by omega
        have hjz : ¬ (j : Int) < (n : Int) := by omega
        have he : l = l2 := by
          apply List.ext_getElem?
          intro t
          by_cases ht : t < j
          · exact hno.out t ht
          · rw [List.getElem?_eq_none (by rw [Hn.out]; omega), List.getElem?_eq_none (by rw [Hn2.out]; omega)]
        have Hf : Hid (decide (l = l2) = true) := keep (decide_eq_true he)
        have hWW := hW.out
        clear hlt hjn hno he
        go_wp2_with fail
        go_ret
        exact ⟨by rw [Hf.out]; rfl, hWW⟩
  · have hnz : ¬ (n : Int) = (n2 : Int) := by omega
    have Hf : Hid (decide (l = l2) = false) := keep (decide_eq_false (fun e => hnn (by rw [← hn, ← hn2, e])))
    clear hl hl2 wl wl2 hn hn2
    go_enter Try.func32, Try.ntmps32
    go_wp2_with fail
    go_ret
    exact ⟨by rw [Hf.out]; rfl, hww⟩
end Go.Proofs.Ytcdcaanmmbopbaa
/- Entries in memory: 'append' of one; 'Put', 'All' of the program. -/
namespace Go.Proofs.Ytcdcaanmmbopbaa
set_option maxRecDepth 100000
open Go.RowKit
set_option linter.unusedVariables false
attribute [local go_sem ↓] key_ld ent_ld val_ld msg_ld msg_st
theorem eappend_one {w0 w : World} {A : Option Addr} {n c V : Nat} {l : List RE} {x : RE} (h0 : Fr w0 w) (ho : OwnE w w0.heap.size A c l) (hn : l.length = n) (hsm : n ≤ 200000) (wx : x.wf) (hV : V = w.heap.size) (ty : TypeId) :
    ∃ A' c' w', (Builtin.append_ #[23, 23] ty #[.slice A n c, .slice (some ⟨V, 0, none⟩) 1 1]).run Try.prog (w.alloc (.cells (ec x).toArray 45)) = .ok (.slice A' (n + 1) c') w' ∧ OwnE w' w0.heap.size A' c' (l ++ [x]) ∧ Fr w0 w' := by
  subst hV
  unfold OwnE at ho
  rw [hn] at ho
  obtain ⟨i, z, hi, hz, hsize, hby, hzs⟩ := ent_elem.row
  obtain ⟨A', c', w', hr, h1, h2, h3⟩ := run_append_has (P := Try.prog) (w.alloc (.cells (ec x).toArray 45)) w0.heap.size 23 ty 45 i z 26 40 ents_under hi hz hsize hby hzs (by decide) A n c (rows ec l) (ho.alloc _) (w.heap.size + 1) (some ⟨w.heap.size, 0, none⟩) 1 1 (ec x) (ec_len wx.val.hl) (arr_has _ (Arr.new w _ _)) (ec_one x) (by unfold maxLen; omega) (by omega) (by have := h0.size; simp; omega)
  refine ⟨A', c', w', hr, ?_, below_grown (fr_new h0 _) (ho.alloc _) h2 (by have := h0.size; simp; omega) (Nat.le_refl _)⟩
  unfold OwnE
  rw [List.length_append, hn, rows_append, rows_single]
  exact h1
theorem wpList_append_ent {w0 w : World} {ops : Array Oper} {rest : List Oper} {o : Oper} {a : Act} {Q : Exit → Act → World → Prop} {A : Option Addr} {n c : Nat} {l : List RE} {x : RE} (d s : Operand) (hop : o.op = .call { callee := .builtin .append, args := #[d, s], argTypes := #[23, 23] }) (hgd : o.guard = none)
    (hd : a.eval d = .slice A n c) (hs : a.eval s = .slice (some ⟨w.heap.size, 0, none⟩) 1 1) (h0 : Fr w0 w) (ho : OwnE w w0.heap.size A c l) (hn : l.length = n) (hsm : n ≤ 200000) (wx : x.wf)
    (h : ∀ A' c' w', OwnE w' w0.heap.size A' c' (l ++ [x]) → Fr w0 w' → wpList Try.prog ops Q rest (a.put o.dst (.slice A' (n + 1) c')) w') : wpList Try.prog ops Q (o :: rest) a (w.alloc (.cells (ec x).toArray 45)) := by
  obtain ⟨A', c', w', hr, h1, h2⟩ := eappend_one (V := w.heap.size) h0 ho hn hsm wx rfl o.type
  exact wpList_append_run _ hgd d s _ _ hop _ _ hd hs hr (h A' c' w' h1 h2)
theorem step_append_ent {w0 w : World} {ops : Array Oper} {o : Oper} {a : Act} {K : Act → World → Prop} {Q : Exit → Act → World → Prop} {E : Prop} {A : Option Addr} {n c : Nat} {l : List RE} {x : RE} (d s : Operand) (hop : o.op = .call { callee := .builtin .append, args := #[d, s], argTypes := #[23, 23] }) (hgd : o.guard = none)
    (hd : a.eval d = .slice A n c) (hs : a.eval s = .slice (some ⟨w.heap.size, 0, none⟩) 1 1) (h0 : Fr w0 w) (ho : OwnE w w0.heap.size A c l) (hn : l.length = n) (hsm : n ≤ 200000) (wx : x.wf)
    (hK : ∀ A' c' w', OwnE w' w0.heap.size A' c' (l ++ [x]) → Fr w0 w' → K (a.put o.dst (.slice A' (n + 1) c')) w') : if Region.wanted o (yielded ops a.tmps) = true then Oper.wp Try.prog o a (w.alloc (.cells (ec x).toArray 45)) K Q else E := by
  obtain ⟨A', c', w', hr, h1, h2⟩ := eappend_one (V := w.heap.size) h0 ho hn hsm wx rfl o.type
  exact step_append_run (by simp [Region.wanted, hgd]) d s _ _ hop _ _ hd hs hr (hK A' c' w' h1 h2)
end Go.Proofs.Ytcdcaanmmbopbaa
