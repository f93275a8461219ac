/- Buffers in memory, seven: 'Add', 'Find', 'Bytes'. -/
import Derived.Test.YtnfoebcfhldemaaBufD
import Derived.Test.YtnfoebcfhldemaaMsgG
import Derived.Test.YtnfoebcfhldemaaBuf0
namespace Go.Proofs.Ytnfoebcfhldemaa
set_option maxRecDepth 100000
open Go.RowKit
set_option linter.unusedVariables false
attribute [local go_sem ↓] key_ld msg_ld msg_st
theorem Has.fr {w W : World} {B : Nat} {A : Option Addr} {xs : List Value} (h : Has w B A xs) (hB : B ≤ w.heap.size) (hF : Fr w W) : Has W B A xs := h.below (hF.mono hB)
theorem OwnM.fr {w W : World} {B : Nat} {A : Option Addr} {c : Nat} {l : List RM} (h : OwnM w B A c l) (hF : Fr w W) : OwnM W B A c l := Own.below h hF (Nat.le_refl _)
set_option maxHeartbeats 2000000 in
theorem add_at {w : World} {A : Option Addr} {n c B : Nat} {l : List RM} {m : RM} (hl : Has w B A (rows mc l)) (hB : B ≤ w.heap.size) (hn : l.length = n) (hsm : n ≤ 100000) (ol : OkL l) (wm : m.wf) (om : okM m = true) :
    Calls Try.prog 21 #[.slice A n c, mm m] w fun e w' => ∃ A' c', e = .returned (.slice A' (addL l m).length c') ∧ OwnM w' w.heap.size A' c' (addL l m) ∧ Fr w w' := by
  obtain ⟨Z, hZ, hF, hZZ, hM, hS⟩ := msg_box1 w m
  have hlZ := hl.fr hB hF
  have hBZ : B ≤ Z.heap.size := Nat.le_trans hB hF.size
  have cC : ∀ W, Fr Z W → Calls Try.prog 59 #[.slice A n c] W fun e w' => ∃ A' c', e = .returned (.slice A' n c') ∧ OwnM w' Z.heap.size A' c' l ∧ Fr Z w' := fun W hW =>
    (clone_at (hlZ.fr hBZ hW) (Nat.le_trans hBZ hW.size) hn (by omega) ol.good.wfm).mono fun e w' h => by
      obtain ⟨A', c', e1, h1, h2⟩ := h
      exact ⟨A', c', e1, h1.mono hW.size, fr_step hW h2⟩
  have cE : ∀ W A' c', OwnM W Z.heap.size A' c' l → Fr Z W → Calls Try.prog 58 #[.slice A' n c', mm m] W fun e w' => ∃ A2 c2, e = .returned (.slice A2 (addL l m).length c2) ∧ OwnM w' Z.heap.size A2 c2 (addL l m) ∧ Fr Z w' := fun W A' c' ho hW =>
    (enter_at ho hW.size hn hsm ol wm om).mono fun e w' h => by
      obtain ⟨A2, c2, e1, h1, h2⟩ := h
      exact ⟨A2, c2, e1, h1, hW.trans h2⟩
  have lM := msg_all hM wm.val.hl
  have hZD := fr_drew hZZ
  have hSz := hF.size
  generalize hk : (addL l m).length = k at cE ⊢
  have Hk := keep hk
  clear hl hlZ hM hk
  go_enter Try.func21, Try.ntmps21
  go_wp2_with fail
  go_region_with (first
    | (go_at_call 59; (with_reducible refine (cC _ (by assumption)).mono ?_); rintro e w1 ⟨A1, c1, rfl, ho1, hz1⟩)
    | (go_at_call 58; (with_reducible refine (cE _ _ _ (by assumption) (by assumption)).mono ?_); rintro e w2 ⟨A2, c2, rfl, ho2, hz2⟩))
  all_goals
    go_wp2_with fail
    go_ret
    exact ⟨A2, c2, rfl, ho2.mono hSz, fr_step hF hz2⟩
/-- What 'Find' tells. -/
def findV (o : Option RM) : Value := .tuple #[mm (o.getD zeroM), .bool o.isSome]
theorem key_box (w : World) (k : RK) : ∃ Z, (w.alloc (.cells (kc k).toArray 27)).alloc (.cells (mc zeroM).toArray 36) = Z ∧ Fr w Z ∧ Fr Z Z ∧ Arr Z w.heap.size 27 (kc k).toArray ∧ Arr Z (w.heap.size + 1) 36 (mc zeroM).toArray ∧ Z.heap.size = w.heap.size + 1 + 1 :=
  ⟨_, rfl, fr_new (fr_new (fr_refl w) _) _, fr_refl _, Arr.alloc (Arr.new w _ _) _, arr_at _ _ _ _ (by simp), by simp⟩
set_option maxHeartbeats 2000000 in
theorem find_at {w : World} {A : Option Addr} {n c B : Nat} {l : List RM} {k : RK} (hl : Has w B A (rows mc l)) (hB : B ≤ w.heap.size) (hn : l.length = n) (hsm : n ≤ 100000) (ol : OkL l) (wk : k.wf) (ok : okB k = true) :
    Calls Try.prog 14 #[.slice A n c, kv k] w fun e w' => e = .returned (findV (findL l k)) ∧ Fr w w' := by
  obtain ⟨Z, hZ, hF, hZZ, hK, hO, hS⟩ := key_box w k
  rw [zeroM_cells] at hZ
  have hlZ := hl.fr hB hF
  have hBZ : B ≤ Z.heap.size := Nat.le_trans hB hF.size
  have cP := place_at (c := c) hlZ hBZ hn (by omega) ol wk ok
  have lk : ∀ W, Fr Z W → (ldS 27 (.pointer (some ⟨w.heap.size, 0, none⟩))).run Try.prog W = .ok (.agg (kc k).toArray) W := fun W h => keyS.ld (kc_len k) (hK.below h hK.lt)
  cases hf : findL l k with
  | none =>
    rw [hf] at cP
    simp only [Option.isSome_none] at cP
    generalize posL l (code k) = p at cP
    clear hl hlZ hK hf ol wk ok
    go_enter Try.func14, Try.ntmps14
    go_wp2_with (first
      | (go_at_call 51; refine cP.mono ?_; rintro e W ⟨rfl, hW⟩; have hO2 := hO.below hW hO.lt; clear hO)
      | (refine wpList_store_at (ds := mc zeroM) msg_info rfl (.tmp 4) (.tmp 16) rfl (w.heap.size + 1) 0 rfl rfl rfl (mc_one _) hO2 (by decide) (splice_all _ _ (by decide)) ?_; intro W5 hO5 hk5; have hF5 := hk5.fr (fr_step hF hW) (by omega); clear hk5)
      | fail)
    exact bodyPost_ret (msgS.result2 rfl _ (w.heap.size + 1) rfl rfl hO5) rfl ⟨rfl, hF5⟩
  | some x =>
    obtain ⟨hx, hxk⟩ := find_pos_some ol wk ok hf
    have gx := ol.good x (mem_at hx)
    have hp : posL l (code k) < n := by rw [← hn]; exact (List.getElem?_eq_some_iff.1 hx).1
    obtain ⟨b, off, rfl, hb1, hr⟩ := has_rows hlZ ol.good.wfm.wid (by decide) (by intro e; rw [e] at hx; simp at hx)
    have lX := elem_ld msgS hr ol.good.wfm.wid (by omega) hx
    rw [hf] at cP
    simp only [Option.isSome_some] at cP
    generalize posL l (code k) = p at *
    have hpz : (p : Int) < (n : Int) := by omega
    have hxl := gx.1.val.hl
    have Hx := keep (mc_len hxl)
    clear hl hlZ hK hf ol wk ok hx hxk gx hr hp hn hxl
    go_enter Try.func14, Try.ntmps14
    go_wp2_with (first
      | (go_at_call 51; refine cP.mono ?_; rintro e W ⟨rfl, hW⟩; have hO2 := hO.below hW hO.lt; clear hO)
      | (refine wpList_store_at (ds := mc x) msg_info rfl (.tmp 4) (.tmp 20) rfl (w.heap.size + 1) 0 rfl rfl Hx.out (mc_one _) hO2 (by decide) (splice_all _ _ (by rw [Hx.out]; decide)) ?_; intro W5 hO5 hk5; have hF5 := hk5.fr (fr_step hF hW) (by omega); clear hk5)
      | fail)
    exact bodyPost_ret (msgS.result2 rfl _ (w.heap.size + 1) rfl Hx.out hO5) rfl ⟨rfl, hF5⟩
end Go.Proofs.Ytnfoebcfhldemaa
/- Buffers in memory, eight: 'Bytes' and 'All' of the program, 'Bytes' of the document. -/
namespace Go.Proofs.Ytnfoebcfhldemaa
set_option maxRecDepth 100000
open Go.RowKit
set_option linter.unusedVariables false
attribute [local go_sem ↓] key_ld msg_ld msg_st
theorem bytM_rng (m : RM) : 0 ≤ bytM m ∧ bytM m ≤ 35 := by
  cases h : okM m with
  | true => have := bytM_bd h; omega
  | false => simp [bytM, h]
theorem bytL_rng : ∀ l : List RM, 0 ≤ bytL l ∧ bytL l ≤ 35 * (l.length : Int)
  | [] => by simp [bytL]
  | m :: l => by
    have h1 := bytM_rng m
    have h2 := bytL_rng l
    rw [bytL_cons]
    simp only [List.length_cons]
    omega
theorem take_one {α : Type} {l : List α} {j : Nat} {a : α} (h : l[j]? = some a) : l.take (j + 1) = l.take j ++ [a] := by
  obtain ⟨hj, e⟩ := List.getElem?_eq_some_iff.1 h
  rw [List.take_add_one, h]
  rfl
theorem bytL_take {l : List RM} {j : Nat} {m : RM} (h : l[j]? = some m) : bytL (l.take (j + 1)) = bytL (l.take j) + bytM m := by
  rw [take_one h, bytL_app]
  simp [bytL]
set_option maxHeartbeats 2000000 in
theorem bytes_at {w : World} {A : Option Addr} {n c B : Nat} {l : List RM} (hl : Has w B A (rows mc l)) (hB : B ≤ w.heap.size) (hn : l.length = n) (hsm : n ≤ 100000) (wl : WfM l) :
    Calls Try.prog 18 #[.slice A n c] w fun e w' => e = .returned (.int .i64 (bytL l)) ∧ Fr w w' := by
  have Hl := keep hl
  have Hn := keep hn
  have Hwl := keep wl
  clear hl hn wl
  go_enter Try.func18, Try.ntmps18
  go_wp2_with fail
  go_loopg [3, 8] n (fun g s3 s8 wr => ∃ j : Nat, j + g = n ∧ s3 = .int .i64 (bytL (l.take j)) ∧ s8 = .int .i64 j ∧ Hid (Fr w wr))
  case atStart => exact ⟨0, by omega, rfl, rfl, keep (fr_refl w)⟩
  case round =>
    obtain ⟨j, hj, rfl, rfl, hF⟩ := hrel
    by_cases hlt : j < n
    · have hm : l[j]? = some (l[j]'(by rw [Hn.out]; exact hlt)) := List.getElem?_eq_getElem _
      generalize l[j]'(by rw [Hn.out]; exact hlt) = m at hm
      obtain ⟨b, off, rfl, hb1, hr⟩ := has_rows Hl.out Hwl.out.wid (by decide) (by intro e; rw [e] at hm; simp at hm)
      have lX := elem_ld msgS hr Hwl.out.wid (by omega) hm
      have wm := Hwl.out m (mem_at hm)
      have hR := bytL_rng (l.take j)
      have hR2 := bytM_rng m
      have hlen : (l.take j).length = j := by rw [List.length_take, Hn.out]; omega
      rw [hlen] at hR
      have Hs := keep (bytL_take hm)
      have cB := fun W0 W h => mbytes_at (W0 := W0) (W := W) wm h
      have Hm := keep (mc_len wm.val.hl)
      have hF1 := hF.out
      generalize bytL (l.take j) = s at *
      generalize bytM m = t at *
      have hjz : (j : Int) < (n : Int) := by omega
      clear hm hr hlen hlt
      go_wp2_with (first
        | (refine wpList_store_at (ds := mc m) msg_info rfl (.tmp 5) (.tmp 11) rfl wr.heap.size 0 rfl rfl Hm.out (mc_one _) (Arr.new wr (mc zeroM).toArray 36) (by decide) (splice_all _ _ (by rw [Hm.out]; decide)) ?_; intro W5 hM5 hk5; have hF5 := hk5.fr (fr_new hF1 _) hF1.size; clear hk5; have lM := msg_all hM5 wm.val.hl; have h55 := fr_refl W5)
        | (go_at_call 55; (with_reducible refine (cB W5 _ (by assumption)).mono ?_); rintro e w9 ⟨rfl, hz⟩)
        | fail)
      go_roundg (gk - 1)
      case measure => omega
      case rel => exact ⟨j + 1, by omega, by rw [Hs.out], rfl, keep (fr_step hF5 hz)⟩
    · have : j = n := by omega
      subst this
      have e : l.take j = l := List.take_of_length_le (by rw [Hn.out]; exact Nat.le_refl _)
      rw [e]
      go_wp2_with fail
      go_ret
      exact ⟨rfl, hF.out⟩
set_option maxHeartbeats 2000000 in
theorem ref_bytes {w : World} {A : Option Addr} {n c B : Nat} {l : List RM} (hl : Has w B A (rows mc l)) (hB : B ≤ w.heap.size) (hn : l.length = n) (hsm : n ≤ 100000) (wl : WfM l) :
    Calls Try.prog 19 #[.slice A n c] w fun e w' => e = .returned (.int .i64 (bytL l)) ∧ Fr w w' := by
  have Hl := keep hl
  have Hn := keep hn
  have Hwl := keep wl
  clear hl hn wl
  go_enter Try.func19, Try.ntmps19
  go_wp2_with fail
  go_loopg [3, 4] n (fun g s3 s8 wr => ∃ j : Nat, j + g = n ∧ s3 = .int .i64 (bytL (l.take j)) ∧ s8 = .int .i64 j ∧ Hid (Fr w wr))
  case atStart => exact ⟨0, by omega, rfl, rfl, keep (fr_refl w)⟩
  case round =>
    obtain ⟨j, hj, rfl, rfl, hF⟩ := hrel
    by_cases hlt : j < n
    · have hm : l[j]? = some (l[j]'(by rw [Hn.out]; exact hlt)) := List.getElem?_eq_getElem _
      generalize l[j]'(by rw [Hn.out]; exact hlt) = m at hm
      obtain ⟨b, off, rfl, hb1, hr⟩ := has_rows Hl.out Hwl.out.wid (by decide) (by intro e; rw [e] at hm; simp at hm)
      have lX := elem_ld msgS hr Hwl.out.wid (by omega) hm
      have wm := Hwl.out m (mem_at hm)
      have hR := bytL_rng (l.take j)
      have hR2 := bytM_rng m
      have hlen : (l.take j).length = j := by rw [List.length_take, Hn.out]; omega
      rw [hlen] at hR
      have Hs := keep (bytL_take hm)
      have cB := fun W0 W h => rmbytes_at (W0 := W0) (W := W) wm h
      have Hm := keep (mc_len wm.val.hl)
      have hF1 := hF.out
      generalize bytL (l.take j) = s at *
      generalize bytM m = t at *
      have hjz : (j : Int) < (n : Int) := by omega
      clear hm hr hlen hlt
      go_wp2_with (first
        | (go_at_call 56; (with_reducible refine (cB w _ (by assumption)).mono ?_); rintro e w9 ⟨rfl, hz⟩)
        | fail)
      go_roundg (gk - 1)
      case measure => omega
      case rel => exact ⟨j + 1, by omega, by rw [Hs.out], rfl, keep hz⟩
    · have : j = n := by omega
      subst this
      have e : l.take j = l := List.take_of_length_le (by rw [Hn.out]; exact Nat.le_refl _)
      rw [e]
      go_wp2_with fail
      go_ret
      exact ⟨rfl, hF.out⟩
theorem addL_le : ∀ (l : List RM) (m : RM), (addL l m).length ≤ l.length + 1
  | [], m => by simp [addL]
  | x :: l, m => by
    have := addL_le l m
    unfold addL
    split
    · simpa using this
    · split <;> simp
theorem allL_le : ∀ (more l : List RM), (allL l more).length ≤ l.length + more.length
  | [], l => by simp [allL]
  | m :: more, l => by
    have h1 := allL_le more (addL l m)
    have h2 := addL_le l m
    have e : allL l (m :: more) = allL (addL l m) more := rfl
    rw [e]
    simp only [List.length_cons]
    omega
theorem allL_take {l more : List RM} {j : Nat} {m : RM} (h : more[j]? = some m) : allL l (more.take (j + 1)) = addL (allL l (more.take j)) m := by
  rw [take_one h]
  unfold allL
  rw [List.foldl_append]
  rfl
set_option maxHeartbeats 2000000 in
theorem all_at {w : World} {A A2 : Option Addr} {n c B n2 c2 B2 : Nat} {l more : List RM} (hl : Has w B A (rows mc l)) (hB : B ≤ w.heap.size) (hn : l.length = n) (hsm : n ≤ 10000) (ol : OkL l) (hl2 : Has w B2 A2 (rows mc more)) (hB2 : B2 ≤ w.heap.size) (hn2 : more.length = n2) (hsm2 : n2 ≤ 10000) (gm : Good more) :
    Calls Try.prog 23 #[.slice A n c, .slice A2 n2 c2] w fun e w' => ∃ A' c', e = .returned (.slice A' (allL l more).length c') ∧ OwnM w' w.heap.size A' c' (allL l more) ∧ Fr w w' := by
  have cC := clone_at (c := c) hl hB hn (by omega) ol.good.wfm
  have Hl := keep hl2
  have Hn := keep hn2
  have Hn1 := keep hn
  have Hg := keep gm
  have Ho := keep ol
  clear hl2 hn2 gm ol hl hn
  go_enter Try.func23, Try.ntmps23
  go_wp2_with (first
    | (go_at_call 59; refine cC.mono ?_; rintro e w1 ⟨A1, c1, rfl, ho1, hF1⟩)
    | fail)
  go_loopg [5, 12] n2 (fun g s5 s12 wr => ∃ j : Nat, j + g = n2 ∧ s12 = .int .i64 j ∧ (∃ A' c', s5 = .slice A' (allL l (more.take j)).length c' ∧ Hid (OwnM wr w.heap.size A' c' (allL l (more.take j)))) ∧ Hid (Fr w wr))
  case atStart => exact ⟨0, by omega, rfl, ⟨A1, c1, by rw [← Hn1.out]; rfl, keep ho1⟩, keep hF1⟩
  case round =>
    obtain ⟨j, hj, rfl, ⟨A', c', rfl, hO⟩, hF⟩ := hrel
    by_cases hlt : j < n2
    · have hm : more[j]? = some (more[j]'(by rw [Hn.out]; exact hlt)) := List.getElem?_eq_getElem _
      generalize more[j]'(by rw [Hn.out]; exact hlt) = m at hm
      obtain ⟨b, off, rfl, hb1, hr⟩ := has_rows Hl.out Hg.out.wfm.wid (by decide) (by intro e; rw [e] at hm; simp at hm)
      have lX := elem_ld msgS hr Hg.out.wfm.wid (by omega) hm
      have wm := Hg.out m (mem_at hm)
      have hle := allL_le (more.take j) l
      have hgt : Good (more.take j) := Hg.out.sub (List.take_sublist _ _)
      have hok := allL_ok Ho.out hgt
      rw [List.length_take, Hn.out, Hn1.out] at hle
      have Hs := keep (allL_take (l := l) hm)
      generalize allL l (more.take j) = q at *
      have cE : ∀ W, Fr wr W → Calls Try.prog 58 #[.slice A' q.length c', mm m] W fun e w' => ∃ A2 c2, e = .returned (.slice A2 (addL q m).length c2) ∧ OwnM w' w.heap.size A2 c2 (addL q m) ∧ Fr w w' := fun W hW =>
        (enter_at (hO.out.fr hW) (Nat.le_trans hF.out.size hW.size) rfl (by omega) hok wm.1 wm.2).mono fun e w' h => by
          obtain ⟨A2, c2, e1, h1, h2⟩ := h
          exact ⟨A2, c2, e1, h1, (fr_step hF.out hW).trans h2⟩
      have Hm := keep (mc_len wm.1.val.hl)
      have hF1' := hF.out
      have hjz : (j : Int) < (n2 : Int) := by omega
      have hrr := fr_refl wr
      generalize q.length = ql at *
      clear hm hr hlt hok hgt hle
      go_wp2_with (first
        | (refine wpList_store_at (ds := mc m) msg_info rfl (.tmp 7) (.tmp 15) rfl wr.heap.size 0 rfl rfl Hm.out (mc_one _) (Arr.new wr (mc zeroM).toArray 36) (by decide) (splice_all _ _ (by rw [Hm.out]; decide)) ?_; intro W5 hM5 hk5; have hF5 := hk5.fr (fr_new hrr _) (Nat.le_refl _); clear hk5; have lM := msg_all hM5 wm.1.val.hl; have h55 := fr_refl W5)
        | (go_at_call 58; (with_reducible refine (cE W5 (by assumption)).mono ?_); rintro e w9 ⟨A9, c9, rfl, ho9, hz⟩)
        | fail)
      go_roundg (gk - 1)
      case measure => omega
      case rel => exact ⟨j + 1, by omega, rfl, ⟨A9, c9, by rw [Hs.out], by rw [Hs.out]; exact keep ho9⟩, keep hz⟩
    · have : j = n2 := by omega
      subst this
      have e : more.take j = more := List.take_of_length_le (by rw [Hn.out]; exact Nat.le_refl _)
      rw [e] at hO ⊢
      go_wp2_with fail
      go_ret
      exact ⟨A', c', rfl, hO.out, hF.out⟩
end Go.Proofs.Ytnfoebcfhldemaa
/- Buffers in memory, nine: 'Batch' of both. -/
namespace Go.Proofs.Ytnfoebcfhldemaa
set_option maxRecDepth 100000
open Go.RowKit
set_option linter.unusedVariables false
attribute [local go_sem ↓] key_ld msg_ld msg_st
theorem bat_step {l : List RM} {j : Nat} {m : RM} (h : l[j]? = some m) (s : Int) : batC s (l.drop j) = if s + bytM m ≤ 96 then batC (s + bytM m) (l.drop (j + 1)) + 1 else 0 := by
  obtain ⟨hj, e⟩ := List.getElem?_eq_some_iff.1 h
  rw [List.drop_eq_getElem_cons hj, e, batC]
  by_cases hf : s + bytM m ≤ 96
  · rw [if_pos hf, if_neg (by omega)]
  · rw [if_neg hf, if_pos (by omega)]
set_option maxHeartbeats 2000000 in
theorem batch_at {w : World} {A : Option Addr} {n c B : Nat} {l : List RM} (hl : Has w B A (rows mc l)) (hB : B ≤ w.heap.size) (hn : l.length = n) (hnc : n ≤ c) (hsm : n ≤ 100000) (wl : WfM l) :
    Calls Try.prog 27 #[.slice A n c] w fun e w' => e = .returned (.slice A (batC 0 l) (batC 0 l)) ∧ Fr w w' := by
  have Hl := keep hl
  have Hn := keep hn
  have Hwl := keep wl
  clear hl hn wl
  go_enter Try.func27, Try.ntmps27
  go_wp2_with fail
  go_loopg [4, 3] n (fun g s4 s3 wr => ∃ j : Nat, j + g = n ∧ s4 = .int .i64 (bytL (l.take j)) ∧ s3 = .int .i64 j ∧ Hid (Fr w wr) ∧ Hid (batC 0 l = j + batC (bytL (l.take j)) (l.drop j)))
  case atStart => exact ⟨0, by omega, rfl, rfl, keep (fr_refl w), keep (by simp [bytL])⟩
  case round =>
    obtain ⟨j, hj, rfl, rfl, hF, hC⟩ := hrel
    by_cases hlt : j < n
    · have hm : l[j]? = some (l[j]'(by rw [Hn.out]; exact hlt)) := List.getElem?_eq_getElem _
      generalize l[j]'(by rw [Hn.out]; exact hlt) = m at hm
      obtain ⟨b, off, rfl, hb1, hr⟩ := has_rows Hl.out Hwl.out.wid (by decide) (by intro e; rw [e] at hm; simp at hm)
      have lX := elem_ld msgS hr Hwl.out.wid (by omega) hm
      have wm := Hwl.out m (mem_at hm)
      have hR := bytL_rng (l.take j)
      have hR2 := bytM_rng m
      have hlen : (l.take j).length = j := by rw [List.length_take, Hn.out]; omega
      rw [hlen] at hR
      have Hs := keep (bytL_take hm)
      have Hst := keep (bat_step hm (bytL (l.take j)))
      have cB := fun W0 W h => mbytes_at (W0 := W0) (W := W) wm h
      have hF1 := hF.out
      generalize bytL (l.take j) = s at *
      generalize bytM m = t at *
      have hjz : (j : Int) < (n : Int) := by omega
      by_cases hfit : s + t ≤ 96
      · have hC2 : Hid (batC 0 l = (j + 1) + batC (s + t) (l.drop (j + 1))) := keep (by rw [hC.out, Hst.out, if_pos hfit]; omega)
        clear hm hr hlen hlt hC Hst
        go_wp2_with (first
          | (go_at_call 55; (with_reducible refine (cB w _ (by assumption)).mono ?_); rintro e w9 ⟨rfl, hz⟩)
          | fail)
        go_roundg (gk - 1)
        case measure => omega
        case rel => exact ⟨j + 1, by omega, by rw [Hs.out], rfl, keep hz, by rw [Hs.out]; exact hC2⟩
      · have hC2 : Hid (batC 0 l = j) := keep (by rw [hC.out, Hst.out, if_neg hfit]; omega)
        have q := msgs_slice_hm (some ⟨b, off, none⟩) n c j j (Nat.le_refl _) (by omega)
        clear hm hr hlen hlt hC Hst
        go_wp2_with (first
          | (go_at_call 55; (with_reducible refine (cB w _ (by assumption)).mono ?_); rintro e w9 ⟨rfl, hz⟩)
          | fail)
        go_ret
        rw [hC2.out]
        exact ⟨rfl, hz⟩
    · have hjn : j = n := by omega
      have hC2 : Hid (batC 0 l = j) := keep (by rw [hC.out, List.drop_eq_nil_of_le (by rw [Hn.out]; omega)]; rfl)
      have q := msgs_slice_hm A n c j j (Nat.le_refl _) (by omega)
      have hjz : ¬ (j : Int) < (n : Int) := by omega
      clear hlt hjn hC hj
      go_wp2_with fail
      go_ret
      rw [hC2.out]
      exact ⟨rfl, hF.out⟩
theorem posL_mono : ∀ {l : List RM} {c d : Int}, c ≤ d → posL l c ≤ posL l d
  | [], _, _, _ => Nat.le_refl _
  | m :: l, c, d, h => by
    have := posL_mono (l := l) h
    unfold posL
    split <;> split <;> omega
theorem lo_hi {l : List RM} {ps : List RK} (hp : OkP ps) (i : Nat) : loP l ps i ≤ hiP l ps i ∧ hiP l ps i ≤ l.length := by
  unfold loP hiP
  have hle := posL_le l ((ps.map code).getD (i - 1) 0)
  have hle2 := posL_le l ((ps.map code).getD i 0)
  split
  · split
    · exact ⟨Nat.zero_le _, Nat.le_refl _⟩
    · exact ⟨Nat.zero_le _, hle2⟩
  · split
    · exact ⟨hle, Nat.le_refl _⟩
    · exact ⟨posL_mono (by have := hp.lt (i := i - 1) (j := i) (by omega) (by omega); omega), hle2⟩
/-- Kid i's part, whatever i. -/
def partI (l : List RM) (ps : List RK) (i : Int) : List RM := if 0 ≤ i ∧ i ≤ (ps.length : Int) then partL l ps i.toNat else []
theorem max_two {P : Program} {n m : Int} (h : n ≤ m) : ∀ (ts : Array TypeId) (t : TypeId) (w : World), (Builtin.max_ ts t #[.int .i64 n, .int .i64 m]).run P w = .ok (.int .i64 m) w := fun ts t w => by
  simp only [Builtin.max_, Builtin.max2, List.foldlM, Sem.run_bind, Sem.run_pure, Result.andThen_ok]
  congr 2
  split <;> omega
theorem lowM_zero (A : Option Addr) (m : Nat) : lowM A m 0 = A := by
  unfold lowM
  cases A <;> simp [Addr.add]
theorem OkP.wid {ps : List RK} (h : OkP ps) : Wid kc 9 ps := fun k _ => kc_len k
theorem code_at {ps : List RK} {j : Nat} {k : RK} (h : ps[j]? = some k) : (ps.map code).getD j 0 = code k := by
  simp [List.getD, h]
theorem part_slice {w : World} {A : Option Addr} {B : Nat} {l : List RM} (hl : Has w B A (rows mc l)) (wl : WfM l) {lo hi : Nat} (h1 : lo ≤ hi) (h2 : hi ≤ l.length) : Has w B (lowM A hi lo) (rows mc ((l.take hi).drop lo)) := by
  by_cases he : lo = hi
  · subst he
    rw [List.drop_eq_nil_of_le (by rw [List.length_take]; omega), rows_nil]
    exact Has.nil
  · have hne : l ≠ [] := by intro e; rw [e] at h2; simp at h2; omega
    obtain ⟨b, off, rfl, hb, hr⟩ := has_rows hl wl.wid (by decide) hne
    rw [lowM_some (by omega)]
    exact has_rows_drop (has_rows_take hl wl.wid hi) (wl.wid.take hi) lo
set_option maxHeartbeats 4000000 in
theorem part_in {w : World} {A A2 : Option Addr} {n c B n2 c2 B2 : Nat} {l : List RM} {ps : List RK} (hl : Has w B A (rows mc l)) (hB : B ≤ w.heap.size) (hn : l.length = n) (hnc : n ≤ c) (hsm : n ≤ 100000) (ol : OkL l) (hp : Has w B2 A2 (rows kc ps)) (hB2 : B2 ≤ w.heap.size) (hn2 : ps.length = n2) (hsm2 : n2 ≤ 100000) (op : OkP ps) (i : Nat) (hi : i ≤ n2) :
    Calls Try.prog 25 #[.slice A n c, .slice A2 n2 c2, .int .i64 i] w fun e w' => e = .returned (.slice (lowM A (hiP l ps i) (loP l ps i)) (hiP l ps i - loP l ps i) (hiP l ps i - loP l ps i)) ∧ Fr w w' := by
  have cP : ∀ W k, Fr w W → k.wf → okB k = true → Calls Try.prog 51 #[.slice A n c, kv k] W fun e w' => e = .returned (.tuple #[.int .i64 (posL l (code k) : Nat), .bool (findL l k).isSome]) ∧ Fr w w' := fun W k hW wk ok =>
    (place_at (hl.fr hB hW) (Nat.le_trans hB hW.size) hn (by omega) ol wk ok).mono fun e w' ⟨he, h⟩ => ⟨he, fr_step hW h⟩
  have hlh := lo_hi (l := l) op i
  rw [hn] at hlh
  have q := msgs_slice_lhm A n c (loP l ps i) (hiP l ps i) (hiP l ps i) hlh.1 (Nat.le_refl _) (by omega)
  have hmax := max_two (P := Try.prog) (n := (loP l ps i : Nat)) (m := (hiP l ps i : Nat)) (by omega)
  have hww := fr_refl w
  have hhc : hiP l ps i ≤ c := by omega
  have hw9 := op.wid
  have d1 : ¬ (i : Int) < 0 := by omega
  have d2 : ¬ (n2 : Int) < (i : Int) := by omega
  by_cases h0 : i = 0
  · have elo : loP l ps i = 0 := by rw [loP, if_pos h0]
    rw [elo] at q hmax ⊢
    rw [show ((0 : Nat) : Int) = 0 from rfl] at q hmax
    rw [lowM_zero] at q
    have d3 : ¬ (0 : Int) < (i : Int) := by omega
    by_cases h1 : n2 ≤ i
    · have ehi : hiP l ps i = n := by rw [hiP, if_pos (by omega), hn]
      rw [ehi] at q hmax ⊢
      have d4 : ¬ (i : Int) < (n2 : Int) := by omega
      clear hl hp ol op hlh hn hn2 elo ehi h0 h1 hw9
      go_enter Try.func25, Try.ntmps25
      go_wp2_with fail
      go_ret
      exact ⟨by rw [lowM_zero]; rfl, hww⟩
    · have hk : ps[i]? = some (ps[i]'(by omega)) := List.getElem?_eq_getElem _
      generalize ps[i]'(by omega) = k at hk
      have ehi : hiP l ps i = posL l (code k) := by rw [hiP, if_neg (by omega), code_at hk]
      obtain ⟨b, off, rfl, hb1, hr⟩ := has_rows hp hw9 (by decide) (by intro e; rw [e] at hk; simp at hk)
      have lk := elem_ld keyS hr hw9 (by omega) hk
      have gk := op.good k (List.mem_of_getElem? hk)
      have cP1 := fun W h => cP W k h gk.1 gk.2
      have d4 : (i : Int) < (n2 : Int) := by omega
      rw [← ehi] at cP1
      generalize hiP l ps i = hi at *
      clear hl hp ol op hlh hn hn2 elo ehi h0 h1 hw9 cP hr hk gk
      go_enter Try.func25, Try.ntmps25
      go_wp2_with (first
        | (go_at_call 51; (with_reducible refine (cP1 _ (by assumption)).mono ?_); rintro e w1 ⟨rfl, hz1⟩)
        | fail)
      go_ret
      exact ⟨by rw [lowM_zero]; rfl, hz1⟩
  · have d3 : (0 : Int) < (i : Int) := by omega
    have hk : ps[i - 1]? = some (ps[i - 1]'(by omega)) := List.getElem?_eq_getElem _
    generalize ps[i - 1]'(by omega) = k at hk
    have elo : loP l ps i = posL l (code k) := by rw [loP, if_neg h0, code_at hk]
    obtain ⟨b, off, rfl, hb1, hr⟩ := has_rows hp hw9 (by decide) (by intro e; rw [e] at hk; simp at hk)
    have lk := elem_ld keyS hr hw9 (by omega) hk
    have gk := op.good k (List.mem_of_getElem? hk)
    have cP1 := fun W h => cP W k h gk.1 gk.2
    rw [← elo] at cP1
    have e1 : (i : Int) - 1 = ((i - 1 : Nat) : Int) := by omega
    have e2 : ((i : Int) - 1).toNat = i - 1 := by omega
    have e3 : (0 : Int) ≤ (i : Int) - 1 := by omega
    have e4 : (i : Int) - 1 < (n2 : Int) := by omega
    by_cases h1 : n2 ≤ i
    · have ehi : hiP l ps i = n := by rw [hiP, if_pos (by omega), hn]
      rw [ehi] at q hmax ⊢
      have d4 : ¬ (i : Int) < (n2 : Int) := by omega
      generalize loP l ps i = lo at *
      clear hl hp ol op hlh hn hn2 elo ehi h0 h1 hw9 cP hr hk gk e1
      go_enter Try.func25, Try.ntmps25
      go_wp2_with (first
        | (go_at_call 51; (with_reducible refine (cP1 _ (by assumption)).mono ?_); rintro e w1 ⟨rfl, hz1⟩)
        | fail)
      go_ret
      exact ⟨rfl, hz1⟩
    · have hk2 : ps[i]? = some (ps[i]'(by omega)) := List.getElem?_eq_getElem _
      generalize ps[i]'(by omega) = k2 at hk2
      have ehi : hiP l ps i = posL l (code k2) := by rw [hiP, if_neg (by omega), code_at hk2]
      have lk2 := elem_ld keyS hr hw9 (by omega) hk2
      have gk2 := op.good k2 (List.mem_of_getElem? hk2)
      have cP2 := fun W h => cP W k2 h gk2.1 gk2.2
      rw [← ehi] at cP2
      have d4 : (i : Int) < (n2 : Int) := by omega
      generalize loP l ps i = lo at *
      generalize hiP l ps i = hi at *
      clear hl hp ol op hlh hn hn2 elo ehi h0 h1 hw9 cP hr hk gk hk2 gk2 e1
      go_enter Try.func25, Try.ntmps25
      go_wp2_with (first
        | (go_at_call 51; (with_reducible refine (cP1 _ (by assumption)).mono ?_); rintro e w1 ⟨rfl, hz1⟩)
        | (go_at_call 51; (with_reducible refine (cP2 _ (by assumption)).mono ?_); rintro e w2 ⟨rfl, hz2⟩)
        | fail)
      go_ret
      exact ⟨rfl, hz2⟩
set_option maxHeartbeats 2000000 in
theorem part_out {w : World} {A A2 : Option Addr} {n c n2 c2 : Nat} (i : Int) (hi : Is64 i) (hn2 : n2 ≤ 100000) (ho : i < 0 ∨ (n2 : Int) < i) :
    Calls Try.prog 25 #[.slice A n c, .slice A2 n2 c2, .int .i64 i] w fun e w' => e = .returned (.slice none 0 0) ∧ Fr w w' := by
  have hww := fr_refl w
  by_cases h0 : i < 0
  · have d1 : decide (i < 0) = true := by simpa using h0
    go_enter Try.func25, Try.ntmps25
    go_wp2_with fail
    go_ret
    exact ⟨rfl, hww⟩
  · have d2 : (n2 : Int) < i := by omega
    go_enter Try.func25, Try.ntmps25
    go_wp2_with fail
    go_ret
    exact ⟨rfl, hww⟩
theorem part_at {w : World} {A A2 : Option Addr} {n c B n2 c2 B2 : Nat} {l : List RM} {ps : List RK} (hl : Has w B A (rows mc l)) (hB : B ≤ w.heap.size) (hn : l.length = n) (hnc : n ≤ c) (hsm : n ≤ 100000) (ol : OkL l) (hp : Has w B2 A2 (rows kc ps)) (hB2 : B2 ≤ w.heap.size) (hn2 : ps.length = n2) (hsm2 : n2 ≤ 100000) (op : OkP ps) (i : Int) (hi : Is64 i) :
    Calls Try.prog 25 #[.slice A n c, .slice A2 n2 c2, .int .i64 i] w fun e w' => ∃ A' c', e = .returned (.slice A' (partI l ps i).length c') ∧ Has w B A' (rows mc (partI l ps i)) ∧ (partI l ps i).length ≤ c' ∧ Fr w w' := by
  by_cases h : 0 ≤ i ∧ i ≤ (n2 : Int)
  · obtain ⟨j, rfl⟩ : ∃ j : Nat, i = j := ⟨i.toNat, by omega⟩
    have e1 : partI l ps (j : Int) = (l.take (hiP l ps j)).drop (loP l ps j) := by
      rw [partI, if_pos (by omega), ← part_pos ol (by omega)]
      rfl
    have hlh := lo_hi (l := l) op j
    rw [e1]
    have e2 : ((l.take (hiP l ps j)).drop (loP l ps j)).length = hiP l ps j - loP l ps j := by rw [List.length_drop, List.length_take]; omega
    rw [e2]
    refine (part_in hl hB hn hnc hsm ol hp hB2 hn2 hsm2 op j (by omega)).mono ?_
    rintro e w' ⟨rfl, h2⟩
    exact ⟨_, _, rfl, part_slice hl ol.good.wfm hlh.1 hlh.2, Nat.le_refl _, h2⟩
  · have e1 : partI l ps i = [] := by rw [partI, if_neg (by omega)]
    rw [e1]
    refine (part_out i hi hsm2 (by omega)).mono ?_
    rintro e w' ⟨rfl, h2⟩
    exact ⟨_, _, rfl, Has.nil, Nat.le_refl _, h2⟩
end Go.Proofs.Ytnfoebcfhldemaa
