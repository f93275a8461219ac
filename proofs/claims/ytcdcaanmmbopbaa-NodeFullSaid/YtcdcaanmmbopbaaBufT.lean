/- Buffers in memory, nineteen: the document's 'All'; package 00's 'Msgs'. -/
import Derived.Test.YtcdcaanmmbopbaaBufQ
import Derived.Test.YtcdcaanmmbopbaaBuf0
namespace Go.Proofs.Ytcdcaanmmbopbaa
set_option maxRecDepth 100000
open Go.RowKit
set_option linter.unusedVariables false
attribute [local go_sem ↓] key_ld msg_ld msg_st
theorem int_at {w : World} {B : Nat} {A : Option Addr} {ns : List Int} (h : Has w B A (ns.map (Value.int .i64))) {j : Nat} {v : Int} (hv : ns[j]? = some v) : ∃ b off, A = some ⟨b, off, none⟩ ∧ b < B ∧ w.cell? ⟨b, off + j, none⟩ = some (.int .i64 v) := by
  obtain ⟨b, off, e, hb, hx⟩ := h j (.int .i64 v) (by rw [List.getElem?_map, hv]; rfl)
  exact ⟨b, off, e, hb, hx⟩
theorem bytL_small {l : List RM} {n : Nat} (h : l.length ≤ n) : 0 ≤ bytL l ∧ bytL l ≤ 35 * (n : Int) := by
  have := bytL_rng l
  omega
set_option maxHeartbeats 2000000 in
theorem law_msgs {w : World} {A : Option Addr} {n c B : Nat} {ns : List Int} {most : Int} (hl : Has w B A (ns.map (Value.int .i64))) (hB : B ≤ w.heap.size) (hn : ns.length = n) (hns : ∀ z ∈ ns, Is64 z) (hmost : 0 ≤ most ∧ most ≤ 1000000) (hnm : n ≤ maxLen) :
    Calls Try.prog 35 #[.slice A n c, .int .i64 most] w fun e w' => ∃ A' c', e = .returned (.slice A' (msgsL ns most).length c') ∧ OwnM w' w.heap.size A' c' (msgsL ns most) ∧ Fr w w' := by
  have Hl := keep hl
  have Hn := keep hn
  have Hns := keep hns
  have hnm2 : (n : Int) ≤ 9223372036854775807 := by simp only [maxLen] at hnm; omega
  clear hl hn hns
  go_enter Try.func35, Try.ntmps35
  go_wp2_with fail
  go_loopg [5, 6] 60 (fun g s5 s6 wr => ∃ (j : Nat) (A' : Option Addr) (n' c' : Nat), j ≤ 60 ∧ 60 - j ≤ g ∧ j ≤ n ∧ s6 = .int .i64 j ∧ s5 = .slice A' n' c' ∧ Hid ((msgsJ ns most j).length = n') ∧ Hid (OwnM wr w.heap.size A' c' (msgsJ ns most j)) ∧ Hid (Fr w wr))
  case atStart => exact ⟨0, none, 0, 0, by omega, by omega, by omega, rfl, rfl, keep rfl, keep (Own.nil _ _ _ _), keep (fr_refl w)⟩
  case round =>
    obtain ⟨j, A', n', c', hj60, hjg, hjn, rfl, rfl, Hn', hO, hF⟩ := hrel
    have hlen := msgsJ_len ns most j
    rw [Hn'.out] at hlen
    by_cases hlt : j < n
    · have hjz : (j : Int) < (n : Int) := by omega
      by_cases h60 : j < 60
      · have h60z : (j : Int) < 60 := by omega
        have hv : ns[j]? = some (ns[j]'(by rw [Hn.out]; exact hlt)) := List.getElem?_eq_getElem _
        generalize ns[j]'(by rw [Hn.out]; exact hlt) = v at hv
        obtain ⟨b, off, rfl, hb1, hx⟩ := int_at Hl.out hv
        have iv : Is64 v := Hns.out v (List.mem_of_getElem? hv)
        have hF1 := hF.out
        have hrr := fr_refl wr
        have cell : wr.cell? ⟨b, off + j, none⟩ = some (.int .i64 v) := (hF1.cell (by show b < w.heap.size; omega)).trans hx
        have cM := fun W0 W h => law_msg_at (W0 := W0) (W := W) iv (show Is64 ((j : Int) + 1) by unfold Is64; omega) h
        have wm := lawM_wf v ((j : Int) + 1)
        have om := lawM_ok v ((j : Int) + 1)
        have hstep : msgsJ ns most (j + 1) = if bytL (addL (msgsJ ns most j) (lawM v ((j : Int) + 1))) ≤ most then addL (msgsJ ns most j) (lawM v ((j : Int) + 1)) else msgsJ ns most j := by
          have e : ns.getD j 0 = v := by simp [List.getD, hv]
          rw [msgsJ, e]
        have Hstep := keep hstep
        have ol := msgsJ_ok ns most j
        have ol2 := addL_ok ol wm om
        generalize lawM v ((j : Int) + 1) = m at *
        generalize msgsJ ns most j = q at *
        have hle := addL_le q m
        rw [Hn'.out] at hle
        have hby := bytL_small hle
        have cA : ∀ W, Fr wr W → Calls Try.prog 63 #[.slice A' n' c', mm m] W fun e w' => ∃ A2 c2, e = .returned (.slice A2 (addL q m).length c2) ∧ Hid (OwnM w' w.heap.size A2 c2 (addL q m)) ∧ Fr wr w' := fun W hW =>
          (ref_add (c := c') (hO.out.fr hW).has (Nat.le_refl _) Hn'.out (by omega) ol wm om).mono fun e w' h => by
            obtain ⟨A2, c2, e1, h1, h2⟩ := h
            exact ⟨A2, c2, e1, keep (h1.mono (Nat.le_trans hF1.size hW.size)), fr_step hW h2⟩
        have cB : ∀ W A2 c2, Hid (OwnM W w.heap.size A2 c2 (addL q m)) → Calls Try.prog 27 #[.slice A2 (addL q m).length c2] W fun e w' => e = .returned (.int .i64 (bytL (addL q m))) ∧ Fr W w' := fun W A2 c2 ho =>
          ref_bytes ho.out.has (Nat.le_refl _) rfl (by omega) ol2.good.wfm
        generalize hq2 : addL q m = q2 at *
        clear hv hx hlt wm om ol ol2 hstep hq2 h60
        by_cases hfit : bytL q2 ≤ most
        · have Hs : Hid (msgsJ ns most (j + 1) = q2) := keep (by rw [Hstep.out, if_pos hfit])
          generalize bytL q2 = t at *
          generalize hk2 : q2.length = k2 at *
          have Hk2 := keep hk2
          clear hk2
          go_wp2_with (first
            | (go_at_call 31; (with_reducible refine (cM wr _ hrr).mono ?_); rintro e w1 ⟨rfl, hz1⟩)
            | (go_at_call 63; (with_reducible refine (cA _ hz1).mono ?_); rintro e w2 ⟨A2, c2, rfl, ho2, hz2⟩)
            | (go_at_call 27; (with_reducible refine (cB _ _ _ ho2).mono ?_); rintro e w3 ⟨rfl, hz3⟩)
            | fail)
          go_roundg (gk - 1)
          case measure => omega
          case rel => exact ⟨j + 1, A2, k2, c2, by omega, by omega, by omega, rfl, rfl, by rw [Hs.out]; exact Hk2, by rw [Hs.out]; exact keep (ho2.out.fr hz3), keep (fr_step hF1 (fr_step hz2 hz3))⟩
        · have Hs : Hid (msgsJ ns most (j + 1) = q) := keep (by rw [Hstep.out, if_neg hfit])
          generalize bytL q2 = t at *
          generalize hk2 : q2.length = k2 at *
          clear hk2
          go_wp2_with (first
            | (go_at_call 31; (with_reducible refine (cM wr _ hrr).mono ?_); rintro e w1 ⟨rfl, hz1⟩)
            | (go_at_call 63; (with_reducible refine (cA _ hz1).mono ?_); rintro e w2 ⟨A2, c2, rfl, ho2, hz2⟩)
            | (go_at_call 27; (with_reducible refine (cB _ _ _ ho2).mono ?_); rintro e w3 ⟨rfl, hz3⟩)
            | fail)
          go_roundg (gk - 1)
          case measure => omega
          case rel => exact ⟨j + 1, A', n', c', by omega, by omega, by omega, rfl, rfl, by rw [Hs.out]; exact Hn', by rw [Hs.out]; exact keep (hO.out.fr (fr_step hz2 hz3)), keep (fr_step hF1 (fr_step hz2 hz3))⟩
      · have h60z : ¬ (j : Int) < 60 := by omega
        have He : Hid (msgsL ns most = msgsJ ns most j) := keep (by unfold msgsL; rw [Hn.out, show min n 60 = j by omega])
        clear hlt h60
        go_wp2_with fail
        go_ret
        rw [He.out, Hn'.out]
        exact ⟨A', c', rfl, hO.out, hF.out⟩
    · have hjz : ¬ (j : Int) < (n : Int) := by omega
      have He : Hid (msgsL ns most = msgsJ ns most j) := keep (by unfold msgsL; rw [Hn.out, show min n 60 = j by omega])
      clear hlt
      go_wp2_with fail
      go_ret
      rw [He.out, Hn'.out]
      exact ⟨A', c', rfl, hO.out, hF.out⟩
end Go.Proofs.Ytcdcaanmmbopbaa
