/- Buffers in memory, fourteen: 'awake' of layer 6. -/
import Derived.Test.YtnfoebcfhldemaaBufM
import Derived.Test.YtnfoebcfhldemaaBuf0
import Derived.Test.YtnfoebcfhldemaaLawA
import Derived.Deep.CutRange
namespace Go.Proofs.Ytnfoebcfhldemaa
set_option maxRecDepth 100000
open Go.RowKit
set_option linter.unusedVariables false
attribute [local go_sem ↓] key_ld msg_ld msg_st
/-- The calls of 'awake' on a buffer of one message. -/
structure OneB (Z : World) (A : Option Addr) (c : Nat) (m : RM) : Prop where
  find : ∀ W, Fr Z W → Calls Try.prog 14 #[.slice A 1 c, kv m.key] W fun e w' => e = .returned (.tuple #[mm m, .bool true]) ∧ Fr Z w'
  check : ∀ W, Fr Z W → Calls Try.prog 16 #[.slice A 1 c] W fun e w' => e = .returned (.bool true) ∧ Fr Z w'
  bytes : ∀ W, Fr Z W → Calls Try.prog 18 #[.slice A 1 c] W fun e w' => e = .returned (.int .i64 (bytM m)) ∧ Fr Z w'
  part : ∀ W, Fr Z W → Calls Try.prog 25 #[.slice A 1 c, .slice none 0 0, .int .i64 0] W fun e w' => (∃ A' c', e = .returned (.slice A' 1 c')) ∧ Fr Z w'
  batch : ∀ W, Fr Z W → Calls Try.prog 27 #[.slice A 1 c] W fun e w' => (∃ A' c', e = .returned (.slice A' 1 c')) ∧ Fr Z w'
  less : ∀ W, Fr Z W → Calls Try.prog 29 #[.slice A 1 c, .slice A 1 c] W fun e w' => (∃ A' c', e = .returned (.slice A' 0 c')) ∧ Fr Z w'
  all : ∀ W, Fr Z W → Calls Try.prog 23 #[.slice none 0 0, .slice A 1 c] W fun e w' => (∃ A' c', e = .returned (.slice A' 1 c')) ∧ Fr Z w'
theorem okL_one {m : RM} (wm : m.wf) (om : okM m = true) : OkL [m] := OkL.cons wm om OkL.nil (fun x hx => by simp at hx)
theorem okP_nil : OkP [] := OkP.nil
theorem one_b {Z : World} {A : Option Addr} {c : Nat} {m : RM} (hl : Has Z Z.heap.size A (rows mc [m])) (hc : 1 ≤ c) (wm : m.wf) (om : okM m = true) : OneB Z A c m := by
  have ol := okL_one wm om
  have hf : findL [m] m.key = some m := by rw [findL_cons, if_pos rfl]
  have H : ∀ W, Fr Z W → Has W Z.heap.size A (rows mc [m]) := fun W hW => hl.fr (Nat.le_refl _) hW
  have hb : bytL [m] = bytM m := by simp [bytL]
  have hbt : batC 0 [m] = 1 := by
    have := (bytM_rng m).2
    rw [batC, if_neg (by omega)]
    rfl
  have hp : partI [m] [] 0 = [m] := by
    rw [partI, if_pos (by simp)]
    show partL [m] [] 0 = [m]
    rw [part_pos ol (by simp)]
    rfl
  have hls : lessL [m] [m] = [] := less_self ol
  have hal : allL [] [m] = [m] := rfl
  refine ⟨fun W hW => ?_, fun W hW => ?_, fun W hW => ?_, fun W hW => ?_, fun W hW => ?_, fun W hW => ?_, fun W hW => ?_⟩
  · refine (find_at (c := c) (H W hW) hW.size rfl (by simp) ol wm.key (okM_key om)).mono ?_
    rintro e w' ⟨rfl, h⟩
    rw [hf]
    exact ⟨rfl, fr_step hW h⟩
  · refine (bcheck_at (c := c) (H W hW) hW.size rfl (by simp) ol.good.wfm).mono ?_
    rintro e w' ⟨⟨b, rfl, hbo⟩, h⟩
    rw [hbo.2 ol]
    exact ⟨rfl, fr_step hW h⟩
  · refine (bytes_at (c := c) (H W hW) hW.size rfl (by simp) ol.good.wfm).mono ?_
    rintro e w' ⟨rfl, h⟩
    rw [hb]
    exact ⟨rfl, fr_step hW h⟩
  · refine (part_at (B2 := 0) (ps := []) (H W hW) hW.size rfl hc (by simp) ol Has.nil (Nat.zero_le _) rfl (by simp) okP_nil 0 (by simp [Is64])).mono ?_
    rintro e w' ⟨A', c', rfl, -, -, h⟩
    rw [hp]
    exact ⟨⟨A', c', rfl⟩, fr_step hW h⟩
  · refine (batch_at (c := c) (H W hW) hW.size rfl hc (by simp) ol.good.wfm).mono ?_
    rintro e w' ⟨rfl, h⟩
    rw [hbt]
    exact ⟨⟨_, _, rfl⟩, fr_step hW h⟩
  · refine (less_at (c := c) (c2 := c) (H W hW) hW.size rfl (by simp) ol.good.wfm (H W hW) hW.size rfl (by simp) ol.good.wfm).mono ?_
    rintro e w' ⟨A', c', rfl, -, h⟩
    rw [hls]
    exact ⟨⟨A', c', rfl⟩, fr_step hW h⟩
  · refine (all_at (B := 0) (l := []) (c := 0) (c2 := c) Has.nil (Nat.zero_le _) rfl (by simp) OkL.nil (H W hW) hW.size rfl (by simp) ol.good).mono ?_
    rintro e w' ⟨A', c', rfl, -, h⟩
    rw [hal]
    exact ⟨⟨A', c', rfl⟩, fr_step hW h⟩
theorem own_inc {w : World} {B : Nat} {A : Option Addr} {c : Nat} {m : RM} (ho : OwnM w B A c [m]) (wm : m.wf) : ∃ g, A = some ⟨g, 0, none⟩ ∧ ∀ W, Fr w W → W.cell? ⟨g, 28, none⟩ = some (.int .u64 m.inc) := by
  obtain ⟨g, rfl⟩ := ho.addr (by simp)
  refine ⟨g, rfl, fun W h => ?_⟩
  obtain ⟨b, off, e, hbl, hx⟩ := ho.has 28 (.int .u64 m.inc) (by rw [rows_single]; exact mc_28 wm.val.hl)
  injection e with e
  injection e with e1 e2
  subst e1 e2
  rw [Nat.zero_add] at hx
  exact (h.cell hbl).trans hx
set_option maxHeartbeats 2000000 in
theorem awake6 (w : World) : Calls Try.prog 31 #[] w fun e w' => e = .returned (.bool true) ∧ Fr w w' := by
  have wk := lawK_wf 0
  have ok := lawK_ok 0
  have nk := lawK_0n
  have cK := fun W0 W h => law_key_at (W0 := W0) (W := W) (v := 0) (by unfold Is64; omega) h
  generalize lawK 0 = k at *
  have w3 : RM.wf ⟨3, 1, k, zeroV, 3⟩ := add_wf wk (by simp [Us64]) (by simp [Us64])
  have w2 : RM.wf ⟨3, 2, k, zeroV, 2⟩ := add_wf wk (by simp [Us64]) (by simp [Us64])
  have w5 : RM.wf ⟨3, 2, k, zeroV, 5⟩ := add_wf wk (by simp [Us64]) (by simp [Us64])
  have o3 : okM ⟨3, 1, k, zeroV, 3⟩ = true := add_ok ok
  have o2 : okM ⟨3, 2, k, zeroV, 2⟩ = true := add_ok ok
  have o5 : okM ⟨3, 2, k, zeroV, 5⟩ = true := add_ok ok
  have eC : compM ⟨3, 1, k, zeroV, 3⟩ ⟨3, 2, k, zeroV, 2⟩ = ⟨3, 2, k, zeroV, 5⟩ := by simp [compM]; decide
  have eA : addL [⟨3, 1, k, zeroV, 3⟩] ⟨3, 2, k, zeroV, 2⟩ = [⟨3, 2, k, zeroV, 5⟩] := by
    rw [addL, if_neg (by simp [cd]), if_pos rfl, eC]
  have eY : bytM ⟨3, 2, k, zeroV, 5⟩ = 19 := by simp [bytM, add_ok ok, nk]
  have H3 := keep (okL_one w3 o3)
  have H2 := keep (And.intro w2 o2)
  have H5 := keep (And.intro w5 o5)
  have HA := keep eA
  have Hl5 := keep (mc_len (m := ⟨3, 2, k, zeroV, 5⟩) rfl)
  have HY := keep eY
  have hww := fr_refl w
  clear wk ok nk w2 w3 w5 o2 o3 o5 eC eA eY
  go_enter Try.func31, Try.ntmps31
  go_wp2_with (first
    | (go_at_call 11; refine (cK w _ hww).mono ?_; rintro e w1 ⟨rfl, hz1⟩)
    | (refine wpList_store_at (ds := kc k) key_info rfl (.tmp 1) (.tmp 7) rfl w1.heap.size 0 rfl rfl (kc_len k) (kc_one _) (Arr.new w1 (kc zeroK).toArray 27) (by rw [kc_len]; decide) (splice_all _ _ (by rw [kc_len, kc_len]; decide)) ?_; intro Y hK hky
       have hF := hky.fr (fr_new hz1 _) (by have := hz1.size; omega)
       have hs : Y.heap.size = w1.heap.size + 1 := by rw [hky.size]; simp
       have hYY := fr_refl Y
       have hYD := fr_drew hYY
       have lK : ∀ W, Fr Y W → (ldS 27 (.pointer (some ⟨w1.heap.size, 0, none⟩))).run Try.prog W = .ok (.agg (kc k).toArray) W := fun W h => keyS.ld (kc_len k) (hK.below h hK.lt)
       clear hky)
    | fail)
  simp only [Act.put]
  go_cut [2, 3] from 8 to 11 (fun p q W => ∃ g2 g3, p = .pointer (some ⟨g2, 0, none⟩) ∧ q = .pointer (some ⟨g3, 0, none⟩) ∧ Arr W g2 36 (mc ⟨3, 1, k, zeroV, 3⟩).toArray ∧ Arr W g3 36 (mc ⟨3, 2, k, zeroV, 2⟩).toArray ∧ Fr Y W)
  case first =>
    clear cK
    have st1 : ∀ W g, OwnB W g 36 29 → (stS 36 (.pointer (some ⟨g, 0, none⟩)) (.agg #[.int .i64 3, .int .u64 1, .int .i64 k.n, .int .u8 k.b0, .int .u8 k.b1, .int .u8 k.b2, .int .u8 k.b3, .int .u8 k.b4, .int .u8 k.b5, .int .u8 k.b6, .int .u8 k.b7, .int .i64 0, .int .u8 0, .int .u8 0, .int .u8 0, .int .u8 0, .int .u8 0, .int .u8 0, .int .u8 0, .int .u8 0, .int .u8 0, .int .u8 0, .int .u8 0, .int .u8 0, .int .u8 0, .int .u8 0, .int .u8 0, .int .u8 0, .int .u64 3])).run Try.prog W = .ok () (W.setRow g (mc ⟨3, 1, k, zeroV, 3⟩).toArray) := fun W g h => st_run (ds := mc ⟨3, 1, k, zeroV, 3⟩) msg_info h (mc_len rfl) (mc_one _)
    have st2 : ∀ W g, OwnB W g 36 29 → (stS 36 (.pointer (some ⟨g, 0, none⟩)) (.agg #[.int .i64 3, .int .u64 2, .int .i64 k.n, .int .u8 k.b0, .int .u8 k.b1, .int .u8 k.b2, .int .u8 k.b3, .int .u8 k.b4, .int .u8 k.b5, .int .u8 k.b6, .int .u8 k.b7, .int .i64 0, .int .u8 0, .int .u8 0, .int .u8 0, .int .u8 0, .int .u8 0, .int .u8 0, .int .u8 0, .int .u8 0, .int .u8 0, .int .u8 0, .int .u8 0, .int .u8 0, .int .u8 0, .int .u8 0, .int .u8 0, .int .u8 0, .int .u64 2])).run Try.prog W = .ok () (W.setRow g (mc ⟨3, 2, k, zeroV, 2⟩).toArray) := fun W g h => st_run (ds := mc ⟨3, 2, k, zeroV, 2⟩) msg_info h (mc_len rfl) (mc_one _)
    have a1 : Arr ((Y.alloc (.cells #[.int .i64 0, .int .u64 0, .int .i64 0, .int .u8 0, .int .u8 0, .int .u8 0, .int .u8 0, .int .u8 0, .int .u8 0, .int .u8 0, .int .u8 0, .int .i64 0, .int .u8 0, .int .u8 0, .int .u8 0, .int .u8 0, .int .u8 0, .int .u8 0, .int .u8 0, .int .u8 0, .int .u8 0, .int .u8 0, .int .u8 0, .int .u8 0, .int .u8 0, .int .u8 0, .int .u8 0, .int .u8 0, .int .u64 0] 36)).alloc (.cells #[.int .i64 0, .int .u64 0, .int .i64 0, .int .u8 0, .int .u8 0, .int .u8 0, .int .u8 0, .int .u8 0, .int .u8 0, .int .u8 0, .int .u8 0, .int .i64 0, .int .u8 0, .int .u8 0, .int .u8 0, .int .u8 0, .int .u8 0, .int .u8 0, .int .u8 0, .int .u8 0, .int .u8 0, .int .u8 0, .int .u8 0, .int .u8 0, .int .u8 0, .int .u8 0, .int .u8 0, .int .u8 0, .int .u64 0] 36)).drew (w1.heap.size + 1) 36 (mc zeroM).toArray := Arr.alloc (arr_at _ _ _ _ hs) _
    have a2 : Arr ((Y.alloc (.cells #[.int .i64 0, .int .u64 0, .int .i64 0, .int .u8 0, .int .u8 0, .int .u8 0, .int .u8 0, .int .u8 0, .int .u8 0, .int .u8 0, .int .u8 0, .int .i64 0, .int .u8 0, .int .u8 0, .int .u8 0, .int .u8 0, .int .u8 0, .int .u8 0, .int .u8 0, .int .u8 0, .int .u8 0, .int .u8 0, .int .u8 0, .int .u8 0, .int .u8 0, .int .u8 0, .int .u8 0, .int .u8 0, .int .u64 0] 36)).alloc (.cells #[.int .i64 0, .int .u64 0, .int .i64 0, .int .u8 0, .int .u8 0, .int .u8 0, .int .u8 0, .int .u8 0, .int .u8 0, .int .u8 0, .int .u8 0, .int .i64 0, .int .u8 0, .int .u8 0, .int .u8 0, .int .u8 0, .int .u8 0, .int .u8 0, .int .u8 0, .int .u8 0, .int .u8 0, .int .u8 0, .int .u8 0, .int .u8 0, .int .u8 0, .int .u8 0, .int .u8 0, .int .u8 0, .int .u64 0] 36)).drew (w1.heap.size + 1 + 1) 36 (mc zeroM).toArray := arr_at _ _ _ _ (by simp [hs])
    have o1 : OwnB ((Y.alloc (.cells #[.int .i64 0, .int .u64 0, .int .i64 0, .int .u8 0, .int .u8 0, .int .u8 0, .int .u8 0, .int .u8 0, .int .u8 0, .int .u8 0, .int .u8 0, .int .i64 0, .int .u8 0, .int .u8 0, .int .u8 0, .int .u8 0, .int .u8 0, .int .u8 0, .int .u8 0, .int .u8 0, .int .u8 0, .int .u8 0, .int .u8 0, .int .u8 0, .int .u8 0, .int .u8 0, .int .u8 0, .int .u8 0, .int .u64 0] 36)).alloc (.cells #[.int .i64 0, .int .u64 0, .int .i64 0, .int .u8 0, .int .u8 0, .int .u8 0, .int .u8 0, .int .u8 0, .int .u8 0, .int .u8 0, .int .u8 0, .int .i64 0, .int .u8 0, .int .u8 0, .int .u8 0, .int .u8 0, .int .u8 0, .int .u8 0, .int .u8 0, .int .u8 0, .int .u8 0, .int .u8 0, .int .u8 0, .int .u8 0, .int .u8 0, .int .u8 0, .int .u8 0, .int .u8 0, .int .u64 0] 36)).drew (w1.heap.size + 1) 36 29 := OwnB.of a1 rfl
    have o2 : OwnB ((Y.alloc (.cells #[.int .i64 0, .int .u64 0, .int .i64 0, .int .u8 0, .int .u8 0, .int .u8 0, .int .u8 0, .int .u8 0, .int .u8 0, .int .u8 0, .int .u8 0, .int .i64 0, .int .u8 0, .int .u8 0, .int .u8 0, .int .u8 0, .int .u8 0, .int .u8 0, .int .u8 0, .int .u8 0, .int .u8 0, .int .u8 0, .int .u8 0, .int .u8 0, .int .u8 0, .int .u8 0, .int .u8 0, .int .u8 0, .int .u64 0] 36)).alloc (.cells #[.int .i64 0, .int .u64 0, .int .i64 0, .int .u8 0, .int .u8 0, .int .u8 0, .int .u8 0, .int .u8 0, .int .u8 0, .int .u8 0, .int .u8 0, .int .i64 0, .int .u8 0, .int .u8 0, .int .u8 0, .int .u8 0, .int .u8 0, .int .u8 0, .int .u8 0, .int .u8 0, .int .u8 0, .int .u8 0, .int .u8 0, .int .u8 0, .int .u8 0, .int .u8 0, .int .u8 0, .int .u8 0, .int .u64 0] 36)).drew (w1.heap.size + 1 + 1) 36 29 := OwnB.of a2 rfl
    have o3 : ∀ g k k' inc seq, OwnB ((Y.alloc (.cells #[.int .i64 0, .int .u64 0, .int .i64 0, .int .u8 0, .int .u8 0, .int .u8 0, .int .u8 0, .int .u8 0, .int .u8 0, .int .u8 0, .int .u8 0, .int .i64 0, .int .u8 0, .int .u8 0, .int .u8 0, .int .u8 0, .int .u8 0, .int .u8 0, .int .u8 0, .int .u8 0, .int .u8 0, .int .u8 0, .int .u8 0, .int .u8 0, .int .u8 0, .int .u8 0, .int .u8 0, .int .u8 0, .int .u64 0] 36)).alloc (.cells #[.int .i64 0, .int .u64 0, .int .i64 0, .int .u8 0, .int .u8 0, .int .u8 0, .int .u8 0, .int .u8 0, .int .u8 0, .int .u8 0, .int .u8 0, .int .i64 0, .int .u8 0, .int .u8 0, .int .u8 0, .int .u8 0, .int .u8 0, .int .u8 0, .int .u8 0, .int .u8 0, .int .u8 0, .int .u8 0, .int .u8 0, .int .u8 0, .int .u8 0, .int .u8 0, .int .u8 0, .int .u8 0, .int .u64 0] 36)).drew g 36 29 → OwnB (((Y.alloc (.cells #[.int .i64 0, .int .u64 0, .int .i64 0, .int .u8 0, .int .u8 0, .int .u8 0, .int .u8 0, .int .u8 0, .int .u8 0, .int .u8 0, .int .u8 0, .int .i64 0, .int .u8 0, .int .u8 0, .int .u8 0, .int .u8 0, .int .u8 0, .int .u8 0, .int .u8 0, .int .u8 0, .int .u8 0, .int .u8 0, .int .u8 0, .int .u8 0, .int .u8 0, .int .u8 0, .int .u8 0, .int .u8 0, .int .u64 0] 36)).alloc (.cells #[.int .i64 0, .int .u64 0, .int .i64 0, .int .u8 0, .int .u8 0, .int .u8 0, .int .u8 0, .int .u8 0, .int .u8 0, .int .u8 0, .int .u8 0, .int .i64 0, .int .u8 0, .int .u8 0, .int .u8 0, .int .u8 0, .int .u8 0, .int .u8 0, .int .u8 0, .int .u8 0, .int .u8 0, .int .u8 0, .int .u8 0, .int .u8 0, .int .u8 0, .int .u8 0, .int .u8 0, .int .u8 0, .int .u64 0] 36)).drew.setRow k (mc ⟨3, seq, k', zeroV, inc⟩).toArray) g 36 29 := fun g k k' inc seq h => h.setRow (mc_len rfl)
    go_region_held3 (fun w' => Fr Y w') (first | exact hYD | exact fr_new (by assumption) _ | exact fr_setRow (by assumption) (by omega) _) (first | fail)
    all_goals
      go_wp2_with fail
      go_meet
      refine ⟨_, _, rfl, rfl, ?_, ?_, by assumption⟩
    · exact (a1.setRow _).setRowOther _ (by omega)
    · exact (a2.setRowOther _ (by omega)).setRow _
    · exact (a2.setRow _).setRowOther _ (by omega)
    · exact (a1.setRowOther _ (by omega)).setRow _
  case rest =>
    clear hYY hYD lK hz1 hs
    obtain ⟨g2, g3, rfl, rfl, h2, h3, hY⟩ := hcut
    have hk := hK.below hY hK.lt
    have hF2 := fr_step hF hY
    have l2 := msg_all h2 rfl
    have l3 := msg_all h3 rfl
    have hcc := fr_refl wc
    have hcs := fr_new hcc (.cells (mc ⟨3, 1, k, zeroV, 3⟩).toArray 36)
    have hfo := msg_fold (m := ⟨3, 1, k, zeroV, 3⟩) (mc_len rfl)
    rw [zeroM_cells] at hfo
    have hsz : (mc ⟨3, 1, k, zeroV, 3⟩).length = 29 := mc_len rfl
    have h2s : Has (wc.alloc (.cells (mc ⟨3, 1, k, zeroV, 3⟩).toArray 36)) (wc.heap.size + 1) (some ⟨wc.heap.size, 0, none⟩) (rows mc [⟨3, 1, k, zeroV, 3⟩]) := by
      rw [rows_single]
      exact arr_has _ (Arr.new wc _ _)
    have cA := add_at (c := 1) (m := ⟨3, 2, k, zeroV, 2⟩) h2s (by simp) rfl (by simp) H3.out H2.out.1 H2.out.2
    rw [HA.out] at cA
    clear h2s hK hY hF
    go_wp2_with (first
      | (go_at_call 21; refine cA.mono ?_; rintro e wa ⟨A, c, rfl, ho, hza⟩
         have hza' := fr_step hcs hza
         have hka := hk.below hza' hk.lt
         have hFa := fr_step hF2 hza'
         have HB := keep (one_b (c := c) ho.has (by have := ho.cap; simpa using this) H5.out.1 H5.out.2)
         have lK : ∀ W, Fr wa W → (ldS 27 (.pointer (some ⟨w1.heap.size, 0, none⟩))).run Try.prog W = .ok (.agg (kc k).toArray) W := fun W h => keyS.ld (kc_len k) (hka.below h hka.lt)
         have haa := fr_refl wa
         obtain ⟨g, rfl, hel⟩ := own_inc ho H5.out.1
         clear cA hcs hza hza' l2 l3 hk h2 h3 hcc hF2 ho hfo hsz)
      | (go_at_call 14; refine (HB.out.find _ (by assumption)).mono ?_; rintro e wb ⟨rfl, hzb⟩)
      | (refine wpList_store_at (ds := mc ⟨3, 2, k, zeroV, 5⟩) msg_info rfl (.tmp 5) (.tmp 20) rfl wb.heap.size 0 rfl rfl Hl5.out (mc_one _) (Arr.new wb (mc zeroM).toArray 36) (by decide) (splice_all _ _ (by rw [Hl5.out]; decide)) ?_; intro Z hMZ hkZ; have hZa := hkZ.fr (fr_new hzb _) hzb.size; clear hkZ; have c28 := cellZ hMZ 28 (mc_28 (m := ⟨3, 2, k, zeroV, 5⟩) rfl); have hZZ := fr_refl Z; clear hMZ)
      | (go_at_call 16; refine (HB.out.check _ (by assumption)).mono ?_; rintro e v1 ⟨rfl, hv1⟩)
      | (go_at_call 18; refine (HB.out.bytes _ (by assumption)).mono ?_; rintro e v2 ⟨rfl, hv2⟩; rw [HY.out])
      | (go_at_call 25; refine (HB.out.part _ (by assumption)).mono ?_; rintro e v3 ⟨⟨A3, c3, rfl⟩, hv3⟩)
      | (go_at_call 27; refine (HB.out.batch _ (by assumption)).mono ?_; rintro e v4 ⟨⟨A4, c4, rfl⟩, hv4⟩)
      | (go_at_call 29; refine (HB.out.less _ (by assumption)).mono ?_; rintro e v5 ⟨⟨A5, c5, rfl⟩, hv5⟩)
      | (go_at_call 23; refine (HB.out.all _ (by assumption)).mono ?_; rintro e v6 ⟨⟨A6, c6, rfl⟩, hv6⟩)
      | fail)
    go_ret
    exact ⟨rfl, fr_step hFa hv6⟩
theorem awake6_at {W0 W : World} (hb : Fr W0 W) : Calls Try.prog 31 #[] W fun e w' => e = .returned (.bool true) ∧ Fr W0 w' := (awake6 W).mono fun _ _ ⟨he, hw⟩ => ⟨he, fr_step hb hw⟩
end Go.Proofs.Ytnfoebcfhldemaa
