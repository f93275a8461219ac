/- What the functions of buffers do to rows of the call's own, in few words: for the walks of laws. -/
import Derived.Test.YtnfoebcfhldemaaBufT
import Derived.Test.YtnfoebcfhldemaaLfM
namespace Go.Proofs.Ytnfoebcfhldemaa
set_option maxRecDepth 100000
open Go.RowKit
set_option linter.unusedVariables false
attribute [local go_sem ↓] key_ld msg_ld msg_st
theorem same_at {W0 w : World} {A A2 : Option Addr} {n c B n2 c2 B2 : Nat} {l l2 : List RM} (hl : Has w B A (rows mc l)) (hB : B ≤ w.heap.size) (hn : l.length = n) (hsm : n ≤ 100000) (wl : WfM l) (hl2 : Has w B2 A2 (rows mc l2)) (hB2 : B2 ≤ w.heap.size) (hn2 : l2.length = n2) (hsm2 : n2 ≤ 100000) (wl2 : WfM l2) (h0 : Fr W0 w) :
    Calls Try.prog 20 #[.slice A n c, .slice A2 n2 c2] w fun e w' => e = .returned (.bool (decide (l = l2))) ∧ Fr W0 w' := by
  have cS := ref_same (c := c) (c2 := c2) hl hB hn hsm wl hl2 hB2 hn2 hsm2 wl2
  generalize decide (l = l2) = q at *
  clear hl hl2 hn hn2
  go_enter Try.func20, Try.ntmps20
  go_wp2_with (first
    | (go_at_call 57; refine cS.mono ?_; rintro e w1 ⟨rfl, hz⟩)
    | fail)
  go_ret
  exact ⟨rfl, fr_step h0 hz⟩
theorem getM_wf {o : Option RM} (h : ∀ m, o = some m → m.wf) : (o.getD zeroM).wf := by
  cases o with
  | none => exact zeroM_wf
  | some m => exact h m rfl
theorem msg_nself {a : RM} (ha : a.wf) (W : World) : (binOp .neq 36 (.agg (mc a).toArray) (.agg (mc a).toArray)).run Try.prog W = .ok (.bool false) W := by
  have h := msg_neq ha ha W
  rwa [decide_eq_true rfl] at h
section
variable {W : World} {A A2 : Option Addr} {c c2 : Nat} {l l2 : List RM} {m : RM} {k : RK}
theorem qmsgs {ns : List Int} {most : Int} {n B : Nat} (hl : Has W B A (ns.map (Value.int .i64))) (hB : B ≤ W.heap.size) (hn : ns.length = n) (hns : ∀ z ∈ ns, Is64 z) (hmost : 0 ≤ most ∧ most ≤ 1000000) (hnm : n ≤ maxLen) :
    Calls Try.prog 10 #[.slice A n c, .int .i64 most] W fun e w' => ∃ A' c', e = .returned (.slice A' (msgsL ns most).length c') ∧ Hid (OwnM w' 0 A' c' (msgsL ns most)) ∧ Fr W w' :=
  (law_msgs hl hB hn hns hmost hnm).mono fun e w' h => by
    obtain ⟨A', c', e1, h1, h2⟩ := h
    exact ⟨A', c', e1, keep (h1.mono (Nat.zero_le _)), h2⟩
theorem qadd (ho : Hid (OwnM W 0 A c l)) (hs : l.length ≤ 100000) (ol : OkL l) (wm : m.wf) (om : okM m = true) :
    Calls Try.prog 21 #[.slice A l.length c, mm m] W fun e w' => ∃ A' c', e = .returned (.slice A' (addL l m).length c') ∧ Hid (OwnM w' 0 A' c' (addL l m)) ∧ Fr W w' :=
  (add_at ho.out.has (Nat.le_refl _) rfl hs ol wm om).mono fun e w' h => by
    obtain ⟨A', c', e1, h1, h2⟩ := h
    exact ⟨A', c', e1, keep (h1.mono (Nat.zero_le _)), h2⟩
theorem qradd (ho : Hid (OwnM W 0 A c l)) (hs : l.length ≤ 100000) (ol : OkL l) (wm : m.wf) (om : okM m = true) :
    Calls Try.prog 22 #[.slice A l.length c, mm m] W fun e w' => ∃ A' c', e = .returned (.slice A' (addL l m).length c') ∧ Hid (OwnM w' 0 A' c' (addL l m)) ∧ Fr W w' :=
  (ref_add ho.out.has (Nat.le_refl _) rfl hs ol wm om).mono fun e w' h => by
    obtain ⟨A', c', e1, h1, h2⟩ := h
    exact ⟨A', c', e1, keep (h1.mono (Nat.zero_le _)), h2⟩
theorem qmfind (ho : Hid (OwnM W 0 A c l)) (hs : l.length ≤ 100000) (ol : OkL l) (wk : k.wf) (ok : okB k = true) :
    Calls Try.prog 14 #[.slice A l.length c, kv k] W fun e w' => e = .returned (findV (findL l k)) ∧ Fr W w' :=
  find_at ho.out.has (Nat.le_refl _) rfl hs ol wk ok
theorem qmrfind (ho : Hid (OwnM W 0 A c l)) (hs : l.length ≤ 100000) (ol : OkL l) (wk : k.wf) :
    Calls Try.prog 15 #[.slice A l.length c, kv k] W fun e w' => e = .returned (findV (findL l k)) ∧ Fr W w' :=
  ref_find ho.out.has (Nat.le_refl _) rfl hs ol.good.wfm wk
theorem qmrcheck (ho : Hid (OwnM W 0 A c l)) (hs : l.length ≤ 100000) (ol : OkL l) :
    Calls Try.prog 17 #[.slice A l.length c] W fun e w' => e = .returned (.bool true) ∧ Fr W w' :=
  (ref_check6 ho.out.has (Nat.le_refl _) rfl hs ol.good.wfm).mono fun e w' h => by
    obtain ⟨⟨b, e1, hb⟩, h2⟩ := h
    rw [hb.2 ol] at e1
    exact ⟨e1, h2⟩
theorem qmcheck (ho : Hid (OwnM W 0 A c l)) (hs : l.length ≤ 100000) (ol : OkL l) :
    Calls Try.prog 16 #[.slice A l.length c] W fun e w' => e = .returned (.bool true) ∧ Fr W w' :=
  (bcheck_at ho.out.has (Nat.le_refl _) rfl hs ol.good.wfm).mono fun e w' h => by
    obtain ⟨⟨b, e1, hb⟩, h2⟩ := h
    rw [hb.2 ol] at e1
    exact ⟨e1, h2⟩
theorem qmbytes (ho : Hid (OwnM W 0 A c l)) (hs : l.length ≤ 100000) (ol : OkL l) :
    Calls Try.prog 18 #[.slice A l.length c] W fun e w' => e = .returned (.int .i64 (bytL l)) ∧ Fr W w' :=
  bytes_at ho.out.has (Nat.le_refl _) rfl hs ol.good.wfm
theorem qmrbytes (ho : Hid (OwnM W 0 A c l)) (hs : l.length ≤ 100000) (ol : OkL l) :
    Calls Try.prog 19 #[.slice A l.length c] W fun e w' => e = .returned (.int .i64 (bytL l)) ∧ Fr W w' :=
  ref_bytes ho.out.has (Nat.le_refl _) rfl hs ol.good.wfm
theorem qmall (ho : Hid (OwnM W 0 A c l)) (hs : l.length ≤ 10000) (ol : OkL l) (ho2 : Hid (OwnM W 0 A2 c2 l2)) (hs2 : l2.length ≤ 10000) (ol2 : OkL l2) :
    Calls Try.prog 23 #[.slice A l.length c, .slice A2 l2.length c2] W fun e w' => ∃ A' c', e = .returned (.slice A' (allL l l2).length c') ∧ Hid (OwnM w' 0 A' c' (allL l l2)) ∧ Fr W w' :=
  (all_at (c2 := c2) ho.out.has (Nat.le_refl _) rfl hs ol ho2.out.has (Nat.le_refl _) rfl hs2 ol2.good).mono fun e w' h => by
    obtain ⟨A', c', e1, h1, h2⟩ := h
    exact ⟨A', c', e1, keep (h1.mono (Nat.zero_le _)), h2⟩
theorem qmsame (ho : Hid (OwnM W 0 A c l)) (hs : l.length ≤ 100000) (wl : WfM l) (ho2 : Hid (OwnM W 0 A2 c2 l2)) (hs2 : l2.length ≤ 100000) (wl2 : WfM l2) :
    Calls Try.prog 20 #[.slice A l.length c, .slice A2 l2.length c2] W fun e w' => e = .returned (.bool (decide (l = l2))) ∧ Fr W w' :=
  same_at ho.out.has (Nat.le_refl _) rfl hs wl ho2.out.has (Nat.le_refl _) rfl hs2 wl2 (fr_refl W)
end
/-- What stands for m's key, m added. -/
def wantM (o : Option RM) (m : RM) : RM := match o with | some x => compM x m | none => m
theorem find_added {l : List RM} {m : RM} (ol : OkL l) (wm : m.wf) (om : okM m = true) : findL (addL l m) m.key = some (wantM (findL l m.key) m) := by
  rw [findL_add ol wm om, if_pos rfl]
  cases findL l m.key <;> rfl
theorem find_other {l : List RM} {m : RM} {k : RK} (ol : OkL l) (wm : m.wf) (om : okM m = true) (h : ¬ k = m.key) : findL (addL l m) k = findL l k := by
  rw [findL_add ol wm om, if_neg h]
end Go.Proofs.Ytnfoebcfhldemaa
/- Buffers in memory: 'All' of the document. -/
namespace Go.Proofs.Ytnfoebcfhldemaa
set_option maxRecDepth 100000
open Go.RowKit
set_option linter.unusedVariables false
attribute [local go_sem ↓] key_ld msg_ld msg_st
set_option maxHeartbeats 2000000 in
theorem ref_all {w : World} {A A2 : Option Addr} {n c B n2 c2 B2 : Nat} {l : List RM} {more : List RM} (hl : Has w B A (rows mc l)) (hB : B ≤ w.heap.size) (hn : l.length = n) (hsm : n ≤ 10000) (ol : OkL l) (hl2 : Has w B2 A2 (rows mc more)) (hB2 : B2 ≤ w.heap.size) (hn2 : more.length = n2) (hsm2 : n2 ≤ 10000) (gm : Good more) :
    Calls Try.prog 24 #[.slice A n c, .slice A2 n2 c2] w fun e w' => ∃ A' c', e = .returned (.slice A' (allL l more).length c') ∧ OwnM w' w.heap.size A' c' (allL l more) ∧ Fr w w' := by
  have ho : Own (w.alloc (.cells #[] 36)) w.heap.size 36 29 (some ⟨w.heap.size, 0, none⟩) 0 0 (rows mc ([] : List RM)) := Own.lit w w.heap.size 36 #[] 0 29 (Nat.le_refl _) (Nat.zero_le _) rfl
  have hlA := hl.below ((fr_new (fr_refl w) (.cells #[] 36)).mono hB)
  have hlen : (rows mc l).length = n * 29 := by rw [rows_len ol.good.wfm.wid, hn]
  have Hl := keep hl2
  have Hn := keep hn2
  have Hn1 := keep hn
  have Hg := keep gm
  have Ho := keep ol
  clear hl2 hn2 gm ol hl hn
  go_enter Try.func24, Try.ntmps24
  go_wp2_with (first
    | (refine wpList_append_rows msg_elem msgs_under (by decide) rfl (.tmp 7) (.tmp 8) rfl (some ⟨w.heap.size, 0, none⟩) 0 0 [] rfl ho B A n c l rfl hlen hlA (rows_mc_one l) (by simp only [maxLen]; omega) (by omega) (by simp) ?_; intro A1 c1 w1 h1 h2 h3
       have hF1 : Fr w w1 := below_grown (fr_new (fr_refl w) _) ho h2 (by simp) (Nat.le_refl _)
       have ho1 : OwnM w1 w.heap.size A1 c1 l := by
         unfold OwnM
         rw [Hn1.out]
         rw [List.nil_append, Nat.zero_add] at h1
         exact h1
       have Ho1 := keep ho1
       clear h1 h2 h3 ho hlA hlen ho1)
    | fail)
  go_loopg [5, 6] n2 (fun g s5 s12 wr => ∃ j : Nat, j + g = n2 ∧ s12 = .int .i64 j ∧ (∃ A' c', s5 = .slice A' (allL l (more.take j)).length c' ∧ Hid (OwnM wr w.heap.size A' c' (allL l (more.take j)))) ∧ Hid (Fr w wr))
  case atStart => exact ⟨0, by omega, rfl, ⟨A1, c1, by rw [← Hn1.out]; first | rfl | simp [allL], Ho1⟩, keep hF1⟩
  case round =>
    obtain ⟨j, hj, rfl, ⟨A', c', rfl, hO⟩, hF⟩ := hrel
    by_cases hlt : j < n2
    · have hm : more[j]? = some (more[j]'(by rw [Hn.out]; exact hlt)) := List.getElem?_eq_getElem _
      generalize more[j]'(by rw [Hn.out]; exact hlt) = m at hm
      obtain ⟨b, off, rfl, hb1, hr⟩ := has_rows Hl.out Hg.out.wfm.wid (by decide) (by intro e; rw [e] at hm; simp at hm)
      have lX := elem_ld msgS hr Hg.out.wfm.wid (by omega) hm
      have wm := Hg.out m (mem_at hm)
      have hle := allL_le (more.take j) l
      have hgt : Good (more.take j) := Hg.out.sub (List.take_sublist _ _)
      have hok := allL_ok Ho.out hgt
      rw [List.length_take, Hn.out, Hn1.out] at hle
      have Hs := keep (allL_take (l := l) hm)
      generalize allL l (more.take j) = q at *
      have cE : Calls Try.prog 22 #[.slice A' q.length c', mm m] wr fun e w' => ∃ A2 c2, e = .returned (.slice A2 (addL q m).length c2) ∧ OwnM w' w.heap.size A2 c2 (addL q m) ∧ Fr w w' :=
        (ref_add hO.out.has (Nat.le_refl _) rfl (by omega) hok wm.1 wm.2).mono fun e w' h => by
          obtain ⟨A2, c2, e1, h1, h2⟩ := h
          exact ⟨A2, c2, e1, h1.mono hF.out.size, fr_step hF.out h2⟩
      have Hm := keep (mc_len wm.1.val.hl)
      have hF1' := hF.out
      have hjz : (j : Int) < (n2 : Int) := by omega
      generalize q.length = ql at *
      clear hm hr hlt hok hgt hle
      go_wp2_with (first
        | (go_at_call 22; (with_reducible refine cE.mono ?_); rintro e w9 ⟨A9, c9, rfl, ho9, hz⟩)
        | fail)
      go_roundg (gk - 1)
      case measure => omega
      case rel => exact ⟨j + 1, by omega, rfl, ⟨A9, c9, by rw [Hs.out], by rw [Hs.out]; exact keep ho9⟩, keep hz⟩
    · have : j = n2 := by omega
      subst this
      have e : more.take j = more := List.take_of_length_le (by rw [Hn.out]; exact Nat.le_refl _)
      rw [e] at hO ⊢
      go_wp2_with fail
      go_ret
      exact ⟨A', c', rfl, hO.out, hF.out⟩
/-- A row from place p on. -/
theorem has_low {W : World} {B : Nat} {A : Option Addr} {c p : Nat} {l : List RM} (h : Has W B A (rows mc l)) (wl : WfM l) (hc : l.length ≤ c) (hp : p ≤ l.length) : Has W B (lowM A c p) (rows mc (l.drop p)) := by
  unfold lowM
  by_cases e : c = p
  · rw [if_pos e, List.drop_eq_nil_of_le (by omega)]
    exact Has.nil
  · rw [if_neg e]
    cases l with
    | nil => simp; exact Has.nil
    | cons x l =>
      obtain ⟨b, off, rfl, -, -⟩ := has_rows h wl.wid (by decide) (by simp)
      rw [Option.map_some, Addr.add_lit]
      exact has_rows_drop h wl.wid p
theorem qmrall {W : World} {A A2 : Option Addr} {c c2 : Nat} {l l2 : List RM} (ho : Hid (OwnM W 0 A c l)) (hs : l.length ≤ 10000) (ol : OkL l) (ho2 : Hid (OwnM W 0 A2 c2 l2)) (hs2 : l2.length ≤ 10000) (g2 : Good l2) :
    Calls Try.prog 24 #[.slice A l.length c, .slice A2 l2.length c2] W fun e w' => ∃ A' c', e = .returned (.slice A' (allL l l2).length c') ∧ Hid (OwnM w' 0 A' c' (allL l l2)) ∧ Fr W w' :=
  (ref_all (c2 := c2) ho.out.has (Nat.le_refl _) rfl hs ol ho2.out.has (Nat.le_refl _) rfl hs2 g2).mono fun e w' h => by
    obtain ⟨A', c', e1, h1, h2⟩ := h
    exact ⟨A', c', e1, keep (h1.mono (Nat.zero_le _)), h2⟩
end Go.Proofs.Ytnfoebcfhldemaa
