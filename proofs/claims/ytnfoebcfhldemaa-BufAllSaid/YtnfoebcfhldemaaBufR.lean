/- Buffers in memory, seventeen: the document's 'Less'. -/
import Derived.Test.YtnfoebcfhldemaaBufQ
namespace Go.Proofs.Ytnfoebcfhldemaa
set_option maxRecDepth 100000
open Go.RowKit
set_option linter.unusedVariables false
attribute [local go_sem ↓] key_ld msg_ld msg_st
theorem less_step {l gone : List RM} {j : Nat} {m : RM} (h : l[j]? = some m) : lessL (l.take (j + 1)) gone = lessL (l.take j) gone ++ (if (findL gone m.key).isSome = true then [] else [m]) := by
  rw [take_one h]
  unfold lessL
  rw [List.filter_append, List.filter_cons, List.filter_nil]
  by_cases hh : (findL gone m.key).isSome = true
  · rw [if_pos hh, if_neg (by rw [hh]; decide)]
  · rw [if_neg hh, if_pos (by rw [Bool.eq_false_iff.2 hh]; rfl)]
theorem findV_len {o : Option RM} (h : ∀ m, o = some m → m.wf) : (mc (o.getD zeroM)).length = 29 := by
  cases o with
  | none => rfl
  | some m => exact mc_len (h m rfl).val.hl
set_option maxHeartbeats 2000000 in
theorem ref_less {w : World} {A A2 : Option Addr} {n c B n2 c2 B2 : Nat} {l gone : List RM} (hl : Has w B A (rows mc l)) (hB : B ≤ w.heap.size) (hn : l.length = n) (hsm : n ≤ 100000) (wl : WfM l) (hl2 : Has w B2 A2 (rows mc gone)) (hB2 : B2 ≤ w.heap.size) (hn2 : gone.length = n2) (hsm2 : n2 ≤ 100000) (wg : WfM gone) :
    Calls Try.prog 30 #[.slice A n c, .slice A2 n2 c2] w fun e w' => ∃ A' c', e = .returned (.slice A' (lessL l gone).length c') ∧ OwnM w' w.heap.size A' c' (lessL l gone) ∧ Fr w w' := by
  have cF : ∀ W k, Fr w W → k.wf → Calls Try.prog 15 #[.slice A2 n2 c2, kv k] W fun e w' => e = .returned (findV (findL gone k)) ∧ Fr W w' := fun W k hW wk => ref_find (hl2.fr hB2 hW) (Nat.le_trans hB2 hW.size) hn2 hsm2 wg wk
  have Hl := keep hl
  have Hn := keep hn
  have Hwl := keep wl
  clear hl hn wl hl2 hn2
  go_enter Try.func30, Try.ntmps30
  go_wp2_with fail
  go_loopg [5, 6] n (fun g s5 s6 wr => ∃ j : Nat, j + g = n ∧ s6 = .int .i64 j ∧ (∃ A' n' c', s5 = .slice A' n' c' ∧ n' = (lessL (l.take j) gone).length ∧ n' ≤ j ∧ Hid (OwnM wr w.heap.size A' c' (lessL (l.take j) gone))) ∧ Hid (Fr w wr))
  case atStart => exact ⟨0, by omega, rfl, ⟨none, 0, 0, rfl, rfl, Nat.le_refl _, keep (Own.nil _ _ _ _)⟩, keep (fr_refl w)⟩
  case round =>
    obtain ⟨j, hj, rfl, ⟨A', n', c', rfl, hn', hn'j, hO⟩, hF⟩ := hrel
    by_cases hlt : j < n
    · have hm : l[j]? = some (l[j]'(by rw [Hn.out]; exact hlt)) := List.getElem?_eq_getElem _
      generalize l[j]'(by rw [Hn.out]; exact hlt) = m at hm
      obtain ⟨b, off, rfl, hb1, hr⟩ := has_rows Hl.out Hwl.out.wid (by decide) (by intro e; rw [e] at hm; simp at hm)
      have lX := elem_ld msgS hr Hwl.out.wid (by omega) hm
      have lXk := elem_part keyS hr Hwl.out.wid (by omega) hm (mc_key m) (kc_len _)
      have wm := Hwl.out m (mem_at hm)
      have Hstep : Hid (lessL (l.take (j + 1)) gone = lessL (l.take j) gone ++ if (findL gone m.key).isSome = true then [] else [m]) := keep (less_step hm)
      have Hn' := keep hn'.symm
      have hF1 := hF.out
      have hrr := fr_refl wr
      have hjz : (j : Int) < (n : Int) := by omega
      have cF1 := cF wr m.key hF1 wm.key
      have Hfl := keep (findV_len (o := findL gone m.key) (fun x hx => wg x (findL_mem hx).1))
      have hsz : (mc m).length = 29 := mc_len wm.val.hl
      have hfo := fold_at wm
      have Hwm := keep wm
      have cAp := keep (fun W (hW : Fr wr W) => hO.out.fr hW)
      unfold findV at cF1
      cases hq : (findL gone m.key).isSome with
      | true =>
        rw [hq] at cF1
        rw [hq, if_pos rfl, List.append_nil] at Hstep
        generalize (findL gone m.key).getD zeroM = y at *
        clear hm hr hlt wm hq hn'
        go_wp2_with (first
          | (go_at_call 15; (with_reducible refine cF1.mono ?_); rintro e w9 ⟨rfl, hz⟩; have hz9 := fr_step hF1 hz)
          | (refine wpList_store_at (ds := mc y) msg_info rfl (.tmp 7) (.tmp 23) rfl w9.heap.size 0 rfl rfl Hfl.out (mc_one _) (Arr.new w9 (mc zeroM).toArray 36) (by decide) (splice_all _ _ (by rw [Hfl.out]; decide)) ?_; intro W5 hM5 hk5; have hF5 := hk5.fr (fr_new hz9 _) hz9.size; have hF6 := hk5.fr (fr_new hz _) hz.size; clear hk5)
          | fail)
        go_roundg (gk - 1)
        case measure => omega
        case rel => exact ⟨j + 1, by omega, rfl, ⟨A', n', c', rfl, by rw [Hstep.out]; exact Hn'.out.symm, by omega, by rw [Hstep.out]; exact keep (hO.out.fr hF6)⟩, keep hF5⟩
      | false =>
        rw [hq] at cF1
        rw [hq, if_neg (by decide)] at Hstep
        generalize (findL gone m.key).getD zeroM = y at *
        clear hm hr hlt wm hq hn'
        go_wp2_with (first
          | (go_at_call 15; (with_reducible refine cF1.mono ?_); rintro e w9 ⟨rfl, hz⟩; have hz9 := fr_step hF1 hz)
          | (refine wpList_store_at (ds := mc y) msg_info rfl (.tmp 7) (.tmp 23) rfl w9.heap.size 0 rfl rfl Hfl.out (mc_one _) (Arr.new w9 (mc zeroM).toArray 36) (by decide) (splice_all _ _ (by rw [Hfl.out]; decide)) ?_; intro W5 hM5 hk5; have hF5 := hk5.fr (fr_new hz9 _) hz9.size; have hF6 := hk5.fr (fr_new hz _) hz.size; clear hk5
             have hO9 := cAp.out W5 hF6)
          | (refine wpList_append_msg (.tmp 27) (.tmp 32) rfl rfl rfl rfl hF5 hO9 Hn'.out (by omega) Hwm.out ?_; intro A9 c9 w10 ho9 hf9)
          | fail)
        go_roundg (gk - 1)
        case measure => omega
        case rel => exact ⟨j + 1, by omega, rfl, ⟨A9, n' + 1, c9, rfl, by rw [Hstep.out, List.length_append, Hn'.out]; rfl, by omega, by rw [Hstep.out]; exact keep ho9⟩, keep hf9⟩
    · have hjn : j = n := by omega
      have hjz : ¬ (j : Int) < (n : Int) := by omega
      have hall : l.take j = l := List.take_of_length_le (by rw [Hn.out]; omega)
      rw [hall] at hn' hO
      have Hn' := keep hn'.symm
      clear hlt hjn hall hn'
      go_wp2_with fail
      go_ret
      rw [Hn'.out]
      exact ⟨A', c', rfl, hO.out, hF.out⟩
end Go.Proofs.Ytnfoebcfhldemaa
