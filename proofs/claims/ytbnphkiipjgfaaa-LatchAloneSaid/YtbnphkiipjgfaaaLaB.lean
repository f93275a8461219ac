/- Package latch: 'slices.DeleteFunc'. -/
import Derived.Test.YtbnphkiipjgfaaaLaA
namespace Go.Proofs.Ytbnphkiipjgfaaa
set_option linter.unusedVariables false
set_option linter.unusedSimpArgs false
set_option maxRecDepth 100000
open Go.RowKit
/-- What has been kept, j looked at: i of them, ahead. -/
structure DelI {α : Type} (p : α → Bool) (l l' : List α) (i j : Nat) : Prop where
  lt : i < j
  len : l'.length = l.length
  low : l'.take i = (l.take j).filter fun m => !p m
  high : l'.drop j = l.drop j
section
variable {α : Type} {p : α → Bool} {l l' : List α} {i j k : Nat} {m : α}
theorem take_one' (hm : l[j]? = some m) : l.take (j + 1) = l.take j ++ [m] := by
  rw [List.take_add_one, hm]; rfl
theorem DelI.at (h : DelI p l l' i j) : l'[j]? = l[j]? := by
  have := congrArg (fun q => q[0]?) h.high
  simpa using this
theorem DelI.skip (h : DelI p l l' i j) (hm : l[j]? = some m) (hp : p m = true) : DelI p l l' i (j + 1) where
  lt := by have := h.lt; omega
  len := h.len
  low := by rw [take_one' hm, List.filter_append, h.low]; simp [hp]
  high := by rw [← List.drop_drop, ← List.drop_drop, h.high]
theorem DelI.keep (h : DelI p l l' i j) (hm : l[j]? = some m) (hp : p m = false) : DelI p l (l'.set i m) (i + 1) (j + 1) where
  lt := by have := h.lt; omega
  len := by rw [List.length_set, h.len]
  low := by
    have hj := (List.getElem?_eq_some_iff.1 hm).1
    have hi : i < l'.length := by have := h.lt; have := h.len; omega
    have e : (l'.set i m)[i]? = some m := by simp [hi]
    rw [take_one' e, List.take_set_of_le (Nat.le_refl _), h.low, take_one' hm, List.filter_append]
    simp [hp]
  high := by
    rw [List.drop_set_of_lt (by have := h.lt; omega), ← List.drop_drop, ← List.drop_drop, h.high]
theorem DelI.start (hm : l[k]? = some m) (hp : p m = true) (hno : ∀ t x, t < k → l[t]? = some x → p x = false) : DelI p l l k (k + 1) where
  lt := Nat.lt_succ_self _
  len := rfl
  low := by
    rw [take_one' hm, List.filter_append]
    have : (l.take k).filter (fun m => !p m) = l.take k := List.filter_eq_self.2 fun x hx => by
      obtain ⟨t, ht, e⟩ := List.mem_iff_getElem.1 hx
      have h3 : (l.take k)[t]? = some x := by rw [List.getElem?_eq_getElem ht, e]
      rw [List.getElem?_take] at h3
      split at h3
      · rename_i h4; simp [hno t x h4 h3]
      · cases h3
    rw [this]
    simp [hp]
  high := rfl
theorem DelI.done (h : DelI p l l' i l.length) : l'.take i = l.filter fun m => !p m := by
  have := h.low
  rwa [List.take_of_length_le (Nat.le_refl _)] at this
end
theorem want_zero : ∃ i, Try.prog.info? 51 = some i ∧ i.zero = some (wv (0, false)) := by
  have e1 : (Try.prog.info? 51).bind (·.zero) = some (wv (0, false)) := by kernel_rfl
  cases h : Try.prog.info? 51 with
  | none => rw [h] at e1; cases e1
  | some i =>
    rw [h] at e1
    exact ⟨i, rfl, by simpa using e1⟩
theorem int_zero : ∃ i, Try.prog.info? 3 = some i ∧ i.zero = some (.int .i64 0) := by
  have e1 : (Try.prog.info? 3).bind (·.zero) = some (.int .i64 0) := by kernel_rfl
  cases h : Try.prog.info? 3 with
  | none => rw [h] at e1; cases e1
  | some i =>
    rw [h] at e1
    exact ⟨i, rfl, by simpa using e1⟩
attribute [local go_sem ↓] want_ld
theorem fr_chgAt {w a b : World} {X : Nat → Prop} (f : Chg X w a) (k : Fr a b) : Chg X w b := f.fr k
set_option maxHeartbeats 4000000 in
theorem w_delete {w : World} {A : Option Addr} {n c f : Nat} {l : List Wt} (p : Wt → Bool) (cb : Array Value) (eg : ∀ args w, (callFunc f args).run Try.prog w = .ok (.enter f args) w) (ho : Rw w 51 2 A n c (rows wc l)) (hn : l.length = n) (hsm : n ≤ 100000)
    (hp : ∀ W m, Chg (At A) w W → Calls Try.prog f (#[wv m] ++ cb) W fun e w' => e = .returned (.bool (p m)) ∧ Fr W w') :
    Calls Try.prog 42 #[.slice A n c, .func (.func f) #[] cb] w fun e w' => ∃ n', e = .returned (.slice A n' c) ∧ Hid (n' = (l.filter fun m => !p m).length ∧ Rw w' 51 2 A n' c (rows wc (l.filter fun m => !p m)) ∧ Chg (At A) w w') := by
  have cI := w_index (c := c) p f cb eg ho.has (Nat.le_refl _) hn hsm (fun W m hW => hp W m (.of_fr _ hW))
  have Ho := keep ho
  have Hn := keep hn
  have Hp := keep hp
  clear ho hn hp
  go_enter Try.func42, Try.ntmps42
  go_wp2_with fail
  refine cI.mono ?_
  rintro e w1 ⟨hz, ⟨rfl, hno⟩ | ⟨k, rfl, hk⟩⟩
  · replace hno := hno.out
    have hf : l.filter (fun m => !p m) = l := List.filter_eq_self.2 fun x hx => by simp [hno x hx]
    have Hf := keep hf
    clear hno hf cI
    go_wp2_with fail
    go_ret
    exact ⟨n, rfl, keep ⟨by rw [Hf.out, Hn.out], by rw [Hf.out]; exact Ho.out.fr hz, .of_fr _ hz⟩⟩
  · obtain ⟨m, hk, hpm, hno⟩ := hk.out
    have hkn : k < n := by rw [← Hn.out]; exact (List.getElem?_eq_some_iff.1 hk).1
    have HI := keep (DelI.start hk hpm hno)
    have hk1 : ¬ ((k : Int) = -1) := by omega
    have HO1 : Hid (Rw w1 51 2 A n c (rows wc l)) := keep (Ho.out.fr hz)
    have HB1 : Hid (Chg (At A) w w1) := keep (.of_fr _ hz)
    obtain ⟨g, o, rfl⟩ := HO1.out.addr (by omega)
    clear hk hpm hno cI
    go_wp2_with fail
    go_loopg [5, 6] n (fun gg s5 s6 wr => ∃ (i j : Nat) (l' : List Wt), j ≤ n ∧ n - j ≤ gg ∧ s5 = .int .i64 i ∧ s6 = .int .i64 j ∧ Hid (DelI p l l' i j) ∧ Hid (Rw wr 51 2 (some ⟨g, o, none⟩) n c (rows wc l')) ∧ Hid (Chg (At (some ⟨g, o, none⟩)) w wr))
    case atStart => exact ⟨k, k + 1, l, hkn, by omega, rfl, rfl, HI, HO1, HB1⟩
    case round =>
      clear HI HO1 HB1
      obtain ⟨i, j, l', hjn, hjg, rfl, rfl, HI, HO, HB⟩ := hrel
      have hij := HI.out.lt
      by_cases hlt : j < n
      · have hm : l[j]? = some (l[j]'(by rw [Hn.out]; exact hlt)) := List.getElem?_eq_getElem _
        generalize l[j]'(by rw [Hn.out]; exact hlt) = m at hm
        have hm' : l'[j]? = some m := by rw [HI.out.at, hm]
        have hr : wr.rangeAt g o (rows wc l') := fun t v ht => by
          obtain ⟨b, off, e, -, hc⟩ := HO.out.has t v ht
          injection e with e
          injection e with e1 e2
          subst e1 e2
          exact hc
        have hgl := HO.out.lt g rfl
        have lX := elem_ld want_ty hr (wc_wid l') hgl hm'
        have Hm := keep hm
        have hrr := fr_refl wr
        have hjz : (j : Int) < (n : Int) := by omega
        have Hln : Hid (l'.length = n) := keep (by rw [HI.out.len, Hn.out])
        have cD := fun W (h : Fr wr W) => Hp.out W m (HB.out.fr h)
        clear hm hm' hr hlt
        cases hq : p m with
        | true =>
          rw [hq] at cD
          have Hq := keep hq
          clear hq
          go_wp2_with (first
            | (refine wpList_store_at (ds := wc m) want_info rfl (.tmp 7) (.tmp 25) rfl wr.heap.size 0 rfl rfl rfl (wc_one _) (Arr.new wr (wc (0, false)).toArray 51) (Nat.le_refl 2) (splice_all _ _ (Nat.le_refl 2)) ?_; intro W5 hM5 hk5; have hF5 := hk5.fr (fr_new hrr _) (Nat.le_refl _); clear hk5; have lM := fun W (h : Fr W5 W) => want_ty.ld (cs := wc m) rfl (hM5.below h hM5.lt); have h55 := fr_refl W5)
            | fail)
          refine (cD _ (by assumption)).mono ?_
          rintro e w9 ⟨rfl, hz9⟩
          have hF9 := fr_step hF5 hz9
          go_wp2_with fail
          go_roundg (gk - 1)
          case measure => omega
          case rel => exact ⟨i, j + 1, l', by omega, by omega, rfl, rfl, keep (HI.out.skip Hm.out Hq.out), keep (HO.out.fr hF9), keep (HB.out.fr hF9)⟩
        | false =>
          rw [hq] at cD
          have Hq := keep hq
          clear hq
          have hin : (i : Int) < (n : Int) := by omega
          go_wp2_with (first
            | (refine wpList_store_at (ds := wc m) want_info rfl (.tmp 7) (.tmp 25) rfl wr.heap.size 0 rfl rfl rfl (wc_one _) (Arr.new wr (wc (0, false)).toArray 51) (Nat.le_refl 2) (splice_all _ _ (Nat.le_refl 2)) ?_; intro W5 hM5 hk5; have hF5 := hk5.fr (fr_new hrr _) (Nat.le_refl _); clear hk5; have lM := fun W (h : Fr W5 W) => want_ty.ld (cs := wc m) rfl (hM5.below h hM5.lt); have h55 := fr_refl W5)
            | fail)
          refine (cD _ (by assumption)).mono ?_
          rintro e w9 ⟨rfl, hz9⟩
          have hF9 := fr_step hF5 hz9
          have HO9 := keep (HO.out.fr hF9)
          go_wp2_with (first
            | (refine wpList_store_rw (cf := wc) (x := m) (j := i) want_info rfl (.tmp 33) (.tmp 32) rfl rfl rfl rfl (wc_one _) HO9.out (wc_wid _) Hln.out (by omega) ?_; intro W10 ho10 hb10)
            | fail)
          go_roundg (gk - 1)
          case measure => omega
          case rel => exact ⟨i + 1, j + 1, l'.set i m, by omega, by omega, rfl, rfl, keep (HI.out.keep Hm.out Hq.out), keep ho10, keep ((HB.out.fr hF9).trans' hb10 fun x _ hx => by subst hx; rfl)⟩
      · have hjn2 : j = n := by omega
        have hjz : ¬ (j : Int) < (n : Int) := by omega
        have hdone : l'.take i = l.filter fun m => !p m := DelI.done (by rw [hjn2, ← Hn.out] at HI; exact HI.out)
        have hlen : (l'.take i).length = i := by rw [List.length_take, HI.out.len, Hn.out]; omega
        obtain ⟨inf, hinf, hz0⟩ := want_zero
        have hin : i < n := by omega
        obtain ⟨w2, ys, hr, ho2, hg2⟩ := rw_clear (P := Try.prog) (size := 2) wr 38 0 wants_under hinf hz0 rfl (wc_one _) HO.out i (c - i) hin
        have hpre := ho2.pre (Nat.le_of_lt hin)
        have e1 : (((rows wc l').take (i * 2)) ++ ys).take (i * 2) = rows wc (l'.take i) := by
          rw [List.take_left' (by rw [List.length_take, rows_len (wc_wid l'), HI.out.len, Hn.out]; omega), ← rows_take (wc_wid l')]
        rw [e1, hdone] at hpre
        rw [hdone] at hlen
        have Hpre := keep hpre
        have Hlen := keep hlen
        have hnc := HO.out.cap
        have q1 := w_slice_lo (some ⟨g, o, none⟩) n c i (by omega)
        rw [lowA_some (by omega)] at q1
        have q2 := w_slice_hi (some ⟨g, o, none⟩) n c i (by omega)
        have Hb : Hid (Chg (At (some ⟨g, o, none⟩)) w w2) := keep (HB.out.trans' hg2 fun x _ hx => by subst hx; rfl)
        clear hlt hjn2 hdone hlen hinf hz0 hpre e1 ho2 hg2 inf HI HO HB
        go_wp2_with (first
          | (refine wpList_clear_run _ rfl (.tmp 38) 38 rfl _ rfl hr ?_)
          | fail)
        go_ret
        exact ⟨i, rfl, keep ⟨Hlen.out.symm, Hpre.out, Hb.out⟩⟩
set_option maxHeartbeats 4000000 in
theorem i_delete {w : World} {A : Option Addr} {n c f : Nat} {l : List Int} (p : Int → Bool) (cb : Array Value) (eg : ∀ args w, (callFunc f args).run Try.prog w = .ok (.enter f args) w) (ho : Rw w 3 1 A n c (rows ic l)) (hn : l.length = n) (hsm : n ≤ 100000)
    (hp : ∀ W m, Chg (At A) w W → Calls Try.prog f (#[.int .i64 m] ++ cb) W fun e w' => e = .returned (.bool (p m)) ∧ Fr W w') :
    Calls Try.prog 40 #[.slice A n c, .func (.func f) #[] cb] w fun e w' => ∃ n', e = .returned (.slice A n' c) ∧ Hid (n' = (l.filter fun m => !p m).length ∧ Rw w' 3 1 A n' c (rows ic (l.filter fun m => !p m)) ∧ Chg (At A) w w') := by
  have cI := i_index (c := c) p f cb eg ho.has (Nat.le_refl _) hn hsm (fun W m hW => hp W m (.of_fr _ hW))
  have Ho := keep ho
  have Hn := keep hn
  have Hp := keep hp
  clear ho hn hp
  go_enter Try.func40, Try.ntmps40
  go_wp2_with fail
  refine cI.mono ?_
  rintro e w1 ⟨hz, ⟨rfl, hno⟩ | ⟨k, rfl, hk⟩⟩
  · replace hno := hno.out
    have hf : l.filter (fun m => !p m) = l := List.filter_eq_self.2 fun x hx => by simp [hno x hx]
    have Hf := keep hf
    clear hno hf cI
    go_wp2_with fail
    go_ret
    exact ⟨n, rfl, keep ⟨by rw [Hf.out, Hn.out], by rw [Hf.out]; exact Ho.out.fr hz, .of_fr _ hz⟩⟩
  · obtain ⟨m, hk, hpm, hno⟩ := hk.out
    have hkn : k < n := by rw [← Hn.out]; exact (List.getElem?_eq_some_iff.1 hk).1
    have HI := keep (DelI.start hk hpm hno)
    have hk1 : ¬ ((k : Int) = -1) := by omega
    have HO1 : Hid (Rw w1 3 1 A n c (rows ic l)) := keep (Ho.out.fr hz)
    have HB1 : Hid (Chg (At A) w w1) := keep (.of_fr _ hz)
    obtain ⟨g, o, rfl⟩ := HO1.out.addr (by omega)
    clear hk hpm hno cI
    go_wp2_with fail
    go_loopg [5, 6] n (fun gg s5 s6 wr => ∃ (i j : Nat) (l' : List Int), j ≤ n ∧ n - j ≤ gg ∧ s5 = .int .i64 i ∧ s6 = .int .i64 j ∧ Hid (DelI p l l' i j) ∧ Hid (Rw wr 3 1 (some ⟨g, o, none⟩) n c (rows ic l')) ∧ Hid (Chg (At (some ⟨g, o, none⟩)) w wr))
    case atStart => exact ⟨k, k + 1, l, hkn, by omega, rfl, rfl, HI, HO1, HB1⟩
    case round =>
      clear HI HO1 HB1
      obtain ⟨i, j, l', hjn, hjg, rfl, rfl, HI, HO, HB⟩ := hrel
      have hij := HI.out.lt
      by_cases hlt : j < n
      · have hm : l[j]? = some (l[j]'(by rw [Hn.out]; exact hlt)) := List.getElem?_eq_getElem _
        generalize l[j]'(by rw [Hn.out]; exact hlt) = m at hm
        have hm' : l'[j]? = some m := by rw [HI.out.at, hm]
        have hr : wr.rangeAt g o (rows ic l') := fun t v ht => by
          obtain ⟨b, off, e, -, hc⟩ := HO.out.has t v ht
          injection e with e
          injection e with e1 e2
          subst e1 e2
          exact hc
        have hgl := HO.out.lt g rfl
        have lX := elem_cell0 hr (ic_wid l') hgl hm' (u := .int .i64 m) rfl
        rw [Nat.mul_one] at lX
        have Hm := keep hm
        have hrr := fr_refl wr
        have hjz : (j : Int) < (n : Int) := by omega
        have Hln : Hid (l'.length = n) := keep (by rw [HI.out.len, Hn.out])
        have cD := fun W (h : Fr wr W) => Hp.out W m (HB.out.fr h)
        clear hm hm' hr hlt
        cases hq : p m with
        | true =>
          rw [hq] at cD
          have Hq := keep hq
          clear hq
          go_wp2_with fail
          refine (cD _ (by assumption)).mono ?_
          rintro e w9 ⟨rfl, hz9⟩
          have hF9 := hz9
          go_wp2_with fail
          go_roundg (gk - 1)
          case measure => omega
          case rel => exact ⟨i, j + 1, l', by omega, by omega, rfl, rfl, keep (HI.out.skip Hm.out Hq.out), keep (HO.out.fr hF9), keep (HB.out.fr hF9)⟩
        | false =>
          rw [hq] at cD
          have Hq := keep hq
          clear hq
          have hin : (i : Int) < (n : Int) := by omega
          go_wp2_with fail
          refine (cD _ (by assumption)).mono ?_
          rintro e w9 ⟨rfl, hz9⟩
          have hF9 := hz9
          have HO9 := keep (HO.out.fr hF9)
          go_wp2_with (first
            | (refine wpList_store_rw (cf := ic) (x := m) (j := i) int_info rfl (.tmp 33) (.tmp 32) rfl (by rw [Nat.mul_one]; rfl) rfl rfl (ic_one _) HO9.out (ic_wid _) Hln.out (by omega) ?_; intro W10 ho10 hb10)
            | fail)
          go_roundg (gk - 1)
          case measure => omega
          case rel => exact ⟨i + 1, j + 1, l'.set i m, by omega, by omega, rfl, rfl, keep (HI.out.keep Hm.out Hq.out), keep ho10, keep ((HB.out.fr hF9).trans' hb10 fun x _ hx => by subst hx; rfl)⟩
      · have hjn2 : j = n := by omega
        have hjz : ¬ (j : Int) < (n : Int) := by omega
        have hdone : l'.take i = l.filter fun m => !p m := DelI.done (by rw [hjn2, ← Hn.out] at HI; exact HI.out)
        have hlen : (l'.take i).length = i := by rw [List.length_take, HI.out.len, Hn.out]; omega
        obtain ⟨inf, hinf, hz0⟩ := int_zero
        have hin : i < n := by omega
        obtain ⟨w2, ys, hr, ho2, hg2⟩ := rw_clear (P := Try.prog) (size := 1) wr 33 0 ints_under hinf hz0 rfl (ic_one _) HO.out i (c - i) hin
        have hpre := ho2.pre (Nat.le_of_lt hin)
        have e1 : (((rows ic l').take (i * 1)) ++ ys).take (i * 1) = rows ic (l'.take i) := by
          rw [List.take_left' (by rw [List.length_take, rows_len (ic_wid l'), HI.out.len, Hn.out]; omega), ← rows_take (ic_wid l')]
        rw [e1, hdone] at hpre
        rw [hdone] at hlen
        have Hpre := keep hpre
        have Hlen := keep hlen
        have hnc := HO.out.cap
        have q1 := i_slice_lo (some ⟨g, o, none⟩) n c i (by omega)
        rw [lowA_some (by omega)] at q1
        have q2 := i_slice_hi (some ⟨g, o, none⟩) n c i (by omega)
        rw [Nat.mul_one] at hr q1
        have Hb : Hid (Chg (At (some ⟨g, o, none⟩)) w w2) := keep (HB.out.trans' hg2 fun x _ hx => by subst hx; rfl)
        clear hlt hjn2 hdone hlen hinf hz0 hpre e1 ho2 hg2 inf HI HO HB
        go_wp2_with (first
          | (refine wpList_clear_run _ rfl (.tmp 38) 33 rfl _ rfl hr ?_)
          | fail)
        go_ret
        exact ⟨i, rfl, keep ⟨Hlen.out.symm, Hpre.out, Hb.out⟩⟩
end Go.Proofs.Ytbnphkiipjgfaaa
