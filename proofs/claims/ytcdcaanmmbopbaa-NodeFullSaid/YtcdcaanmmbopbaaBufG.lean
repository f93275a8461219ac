/- Buffers in memory, seven: 'Add', 'Find', 'Bytes'. -/
import Derived.Test.YtcdcaanmmbopbaaBufA
import Derived.Test.YtcdcaanmmbopbaaMsgF
import Derived.Test.YtcdcaanmmbopbaaBuf0
namespace Go.Proofs.Ytcdcaanmmbopbaa
set_option maxRecDepth 100000
open Go.RowKit
set_option linter.unusedVariables false
attribute [local go_sem ↓] key_ld msg_ld msg_st
theorem Has.fr {w W : World} {B : Nat} {A : Option Addr} {xs : List Value} (h : Has w B A xs) (hB : B ≤ w.heap.size) (hF : Fr w W) : Has W B A xs := h.below (hF.mono hB)
theorem OwnM.fr {w W : World} {B : Nat} {A : Option Addr} {c : Nat} {l : List RM} (h : OwnM w B A c l) (hF : Fr w W) : OwnM W B A c l := Own.below h hF (Nat.le_refl _)
/-- What 'Find' tells. -/
def findV (o : Option RM) : Value := .tuple #[mm (o.getD zeroM), .bool o.isSome]
theorem key_box (w : World) (k : RK) : ∃ Z, (w.alloc (.cells (kc k).toArray 40)).alloc (.cells (mc zeroM).toArray 48) = Z ∧ Fr w Z ∧ Fr Z Z ∧ Arr Z w.heap.size 40 (kc k).toArray ∧ Arr Z (w.heap.size + 1) 48 (mc zeroM).toArray ∧ Z.heap.size = w.heap.size + 1 + 1 :=
  ⟨_, rfl, fr_new (fr_new (fr_refl w) _) _, fr_refl _, Arr.alloc (Arr.new w _ _) _, arr_at _ _ _ _ (by simp), by simp⟩
end Go.Proofs.Ytcdcaanmmbopbaa
/- Buffers in memory, eight: 'Bytes' and 'All' of the program, 'Bytes' of the document. -/
namespace Go.Proofs.Ytcdcaanmmbopbaa
set_option maxRecDepth 100000
open Go.RowKit
set_option linter.unusedVariables false
attribute [local go_sem ↓] key_ld msg_ld msg_st
theorem bytM_rng (m : RM) : 0 ≤ bytM m ∧ bytM m ≤ 35 := by
  cases h : okM m with
  | true => have := bytM_bd h; omega
  | false => simp [bytM, h]
theorem bytL_rng : ∀ l : List RM, 0 ≤ bytL l ∧ bytL l ≤ 35 * (l.length : Int)
  | [] => by simp [bytL]
  | m :: l => by
    have h1 := bytM_rng m
    have h2 := bytL_rng l
    rw [bytL_cons]
    simp only [List.length_cons]
    omega
theorem take_one {α : Type} {l : List α} {j : Nat} {a : α} (h : l[j]? = some a) : l.take (j + 1) = l.take j ++ [a] := by
  obtain ⟨hj, e⟩ := List.getElem?_eq_some_iff.1 h
  rw [List.take_add_one, h]
  rfl
theorem bytL_take {l : List RM} {j : Nat} {m : RM} (h : l[j]? = some m) : bytL (l.take (j + 1)) = bytL (l.take j) + bytM m := by
  rw [take_one h, bytL_app]
  simp [bytL]
set_option maxHeartbeats 2000000 in
theorem bytes_at {w : World} {A : Option Addr} {n c B : Nat} {l : List RM} (hl : Has w B A (rows mc l)) (hB : B ≤ w.heap.size) (hn : l.length = n) (hsm : n ≤ 100000) (wl : WfM l) :
    Calls Try.prog 37 #[.slice A n c] w fun e w' => e = .returned (.int .i64 (bytL l)) ∧ Fr w w' := by
  have Hl := keep hl
  have Hn := keep hn
  have Hwl := keep wl
  clear hl hn wl
  go_enter Try.func37, Try.ntmps37
  go_wp2_with fail
  go_loopg [3, 8] n (fun g s3 s8 wr => ∃ j : Nat, j + g = n ∧ s3 = .int .i64 (bytL (l.take j)) ∧ s8 = .int .i64 j ∧ Hid (Fr w wr))
  case atStart => exact ⟨0, by omega, rfl, rfl, keep (fr_refl w)⟩
  case round =>
    obtain ⟨j, hj, rfl, rfl, hF⟩ := hrel
    by_cases hlt : j < n
    · have hm : l[j]? = some (l[j]'(by rw [Hn.out]; exact hlt)) := List.getElem?_eq_getElem _
      generalize l[j]'(by rw [Hn.out]; exact hlt) = m at hm
      obtain ⟨b, off, rfl, hb1, hr⟩ := has_rows Hl.out Hwl.out.wid (by decide) (by intro e; rw [e] at hm; simp at hm)
      have lX := elem_ld msgS hr Hwl.out.wid (by omega) hm
      have wm := Hwl.out m (mem_at hm)
      have hR := bytL_rng (l.take j)
      have hR2 := bytM_rng m
      have hlen : (l.take j).length = j := by rw [List.length_take, Hn.out]; omega
      rw [hlen] at hR
      have Hs := keep (bytL_take hm)
      have cB := fun W0 W h => mbytes_at (W0 := W0) (W := W) wm h
      have Hm := keep (mc_len wm.val.hl)
      have hF1 := hF.out
      generalize bytL (l.take j) = s at *
      generalize bytM m = t at *
      have hjz : (j : Int) < (n : Int) := by omega
      clear hm hr hlen hlt
      go_wp2_with (first
        | (refine wpList_store_at (ds := mc m) msg_info rfl (.tmp 5) (.tmp 11) rfl wr.heap.size 0 rfl rfl Hm.out (mc_one _) (Arr.new wr (mc zeroM).toArray 48) (by decide) (splice_all _ _ (by rw [Hm.out]; decide)) ?_; intro W5 hM5 hk5; have hF5 := hk5.fr (fr_new hF1 _) hF1.size; clear hk5; have lM := msg_all hM5 wm.val.hl; have h55 := fr_refl W5)
        | (go_at_call 64; (with_reducible refine (cB W5 _ (by assumption)).mono ?_); rintro e w9 ⟨rfl, hz⟩)
        | fail)
      go_roundg (gk - 1)
      case measure => omega
      case rel => exact ⟨j + 1, by omega, by rw [Hs.out], rfl, keep (fr_step hF5 hz)⟩
    · have : j = n := by omega
      subst this
      have e : l.take j = l := List.take_of_length_le (by rw [Hn.out]; exact Nat.le_refl _)
      rw [e]
      go_wp2_with fail
      go_ret
      exact ⟨rfl, hF.out⟩
set_option maxHeartbeats 2000000 in
theorem ref_bytes {w : World} {A : Option Addr} {n c B : Nat} {l : List RM} (hl : Has w B A (rows mc l)) (hB : B ≤ w.heap.size) (hn : l.length = n) (hsm : n ≤ 100000) (wl : WfM l) :
    Calls Try.prog 27 #[.slice A n c] w fun e w' => e = .returned (.int .i64 (bytL l)) ∧ Fr w w' := by
  have Hl := keep hl
  have Hn := keep hn
  have Hwl := keep wl
  clear hl hn wl
  go_enter Try.func27, Try.ntmps27
  go_wp2_with fail
  go_loopg [3, 4] n (fun g s3 s8 wr => ∃ j : Nat, j + g = n ∧ s3 = .int .i64 (bytL (l.take j)) ∧ s8 = .int .i64 j ∧ Hid (Fr w wr))
  case atStart => exact ⟨0, by omega, rfl, rfl, keep (fr_refl w)⟩
  case round =>
    obtain ⟨j, hj, rfl, rfl, hF⟩ := hrel
    by_cases hlt : j < n
    · have hm : l[j]? = some (l[j]'(by rw [Hn.out]; exact hlt)) := List.getElem?_eq_getElem _
      generalize l[j]'(by rw [Hn.out]; exact hlt) = m at hm
      obtain ⟨b, off, rfl, hb1, hr⟩ := has_rows Hl.out Hwl.out.wid (by decide) (by intro e; rw [e] at hm; simp at hm)
      have lX := elem_ld msgS hr Hwl.out.wid (by omega) hm
      have wm := Hwl.out m (mem_at hm)
      have hR := bytL_rng (l.take j)
      have hR2 := bytM_rng m
      have hlen : (l.take j).length = j := by rw [List.length_take, Hn.out]; omega
      rw [hlen] at hR
      have Hs := keep (bytL_take hm)
      have cB := fun W0 W h => rmbytes_at (W0 := W0) (W := W) wm h
      have Hm := keep (mc_len wm.val.hl)
      have hF1 := hF.out
      generalize bytL (l.take j) = s at *
      generalize bytM m = t at *
      have hjz : (j : Int) < (n : Int) := by omega
      clear hm hr hlen hlt
      go_wp2_with (first
        | (go_at_call 56; (with_reducible refine (cB w _ (by assumption)).mono ?_); rintro e w9 ⟨rfl, hz⟩)
        | fail)
      go_roundg (gk - 1)
      case measure => omega
      case rel => exact ⟨j + 1, by omega, by rw [Hs.out], rfl, keep hz⟩
    · have : j = n := by omega
      subst this
      have e : l.take j = l := List.take_of_length_le (by rw [Hn.out]; exact Nat.le_refl _)
      rw [e]
      go_wp2_with fail
      go_ret
      exact ⟨rfl, hF.out⟩
theorem addL_le : ∀ (l : List RM) (m : RM), (addL l m).length ≤ l.length + 1
  | [], m => by simp [addL]
  | x :: l, m => by
    have := addL_le l m
    unfold addL
    split
    · simpa using this
    · split <;> simp
theorem allL_le : ∀ (more l : List RM), (allL l more).length ≤ l.length + more.length
  | [], l => by simp [allL]
  | m :: more, l => by
    have h1 := allL_le more (addL l m)
    have h2 := addL_le l m
    have e : allL l (m :: more) = allL (addL l m) more := rfl
    rw [e]
    simp only [List.length_cons]
    omega
theorem allL_take {l more : List RM} {j : Nat} {m : RM} (h : more[j]? = some m) : allL l (more.take (j + 1)) = addL (allL l (more.take j)) m := by
  rw [take_one h]
  unfold allL
  rw [List.foldl_append]
  rfl
end Go.Proofs.Ytcdcaanmmbopbaa
/- Buffers in memory, nine: 'Batch' of both. -/
namespace Go.Proofs.Ytcdcaanmmbopbaa
set_option maxRecDepth 100000
open Go.RowKit
set_option linter.unusedVariables false
attribute [local go_sem ↓] key_ld msg_ld msg_st
theorem bat_step {l : List RM} {j : Nat} {m : RM} (h : l[j]? = some m) (s : Int) : batC s (l.drop j) = if s + bytM m ≤ 96 then batC (s + bytM m) (l.drop (j + 1)) + 1 else 0 := by
  obtain ⟨hj, e⟩ := List.getElem?_eq_some_iff.1 h
  rw [List.drop_eq_getElem_cons hj, e, batC]
  by_cases hf : s + bytM m ≤ 96
  · rw [if_pos hf, if_neg (by omega)]
  · rw [if_neg hf, if_pos (by omega)]
theorem posL_mono : ∀ {l : List RM} {c d : Int}, c ≤ d → posL l c ≤ posL l d
  | [], _, _, _ => Nat.le_refl _
  | m :: l, c, d, h => by
    have := posL_mono (l := l) h
    unfold posL
    split <;> split <;> omega
theorem lo_hi {l : List RM} {ps : List RK} (hp : OkP ps) (i : Nat) : loP l ps i ≤ hiP l ps i ∧ hiP l ps i ≤ l.length := by
  unfold loP hiP
  have hle := posL_le l ((ps.map code).getD (i - 1) 0)
  have hle2 := posL_le l ((ps.map code).getD i 0)
  split
  · split
    · exact ⟨Nat.zero_le _, Nat.le_refl _⟩
    · exact ⟨Nat.zero_le _, hle2⟩
  · split
    · exact ⟨hle, Nat.le_refl _⟩
    · exact ⟨posL_mono (by have := hp.lt (i := i - 1) (j := i) (by omega) (by omega); omega), hle2⟩
/-- Kid i's part, whatever i. -/
def partI (l : List RM) (ps : List RK) (i : Int) : List RM := if 0 ≤ i ∧ i ≤ (ps.length : Int) then partL l ps i.toNat else []
theorem max_two {P : Program} {n m : Int} (h : n ≤ m) : ∀ (ts : Array TypeId) (t : TypeId) (w : World), (Builtin.max_ ts t #[.int .i64 n, .int .i64 m]).run P w = .ok (.int .i64 m) w := fun ts t w => by
  simp only [Builtin.max_, Builtin.max2, List.foldlM, Sem.run_bind, Sem.run_pure, Result.andThen_ok]
  congr 2
  split <;> omega
theorem lowM_zero (A : Option Addr) (m : Nat) : lowM A m 0 = A := by
  unfold lowM
  cases A <;> simp [Addr.add]
theorem OkP.wid {ps : List RK} (h : OkP ps) : Wid kc 9 ps := fun k _ => kc_len k
theorem code_at {ps : List RK} {j : Nat} {k : RK} (h : ps[j]? = some k) : (ps.map code).getD j 0 = code k := by
  simp [List.getD, h]
theorem part_slice {w : World} {A : Option Addr} {B : Nat} {l : List RM} (hl : Has w B A (rows mc l)) (wl : WfM l) {lo hi : Nat} (h1 : lo ≤ hi) (h2 : hi ≤ l.length) : Has w B (lowM A hi lo) (rows mc ((l.take hi).drop lo)) := by
  by_cases he : lo = hi
  · subst he
    rw [List.drop_eq_nil_of_le (by rw [List.length_take]; omega), rows_nil]
    exact Has.nil
  · have hne : l ≠ [] := by intro e; rw [e] at h2; simp at h2; omega
    obtain ⟨b, off, rfl, hb, hr⟩ := has_rows hl wl.wid (by decide) hne
    rw [lowM_some (by omega)]
    exact has_rows_drop (has_rows_take hl wl.wid hi) (wl.wid.take hi) lo
set_option maxHeartbeats 4000000 in
theorem part_in {w : World} {A A2 : Option Addr} {n c B n2 c2 B2 : Nat} {l : List RM} {ps : List RK} (hl : Has w B A (rows mc l)) (hB : B ≤ w.heap.size) (hn : l.length = n) (hnc : n ≤ c) (hsm : n ≤ 100000) (ol : OkL l) (hp : Has w B2 A2 (rows kc ps)) (hB2 : B2 ≤ w.heap.size) (hn2 : ps.length = n2) (hsm2 : n2 ≤ 100000) (op : OkP ps) (i : Nat) (hi : i ≤ n2) :
    Calls Try.prog 38 #[.slice A n c, .slice A2 n2 c2, .int .i64 i] w fun e w' => e = .returned (.slice (lowM A (hiP l ps i) (loP l ps i)) (hiP l ps i - loP l ps i) (hiP l ps i - loP l ps i)) ∧ Fr w w' := by
  have cP : ∀ W k, Fr w W → k.wf → okB k = true → Calls Try.prog 65 #[.slice A n c, kv k] W fun e w' => e = .returned (.tuple #[.int .i64 (posL l (code k) : Nat), .bool (findL l k).isSome]) ∧ Fr w w' := fun W k hW wk ok =>
    (place_at (hl.fr hB hW) (Nat.le_trans hB hW.size) hn (by omega) ol wk ok).mono fun e w' ⟨he, h⟩ => ⟨he, fr_step hW h⟩
  have hlh := lo_hi (l := l) op i
  rw [hn] at hlh
  have q := msgs_slice_lhm A n c (loP l ps i) (hiP l ps i) (hiP l ps i) hlh.1 (Nat.le_refl _) (by omega)
  have hmax := max_two (P := Try.prog) (n := (loP l ps i : Nat)) (m := (hiP l ps i : Nat)) (by omega)
  have hww := fr_refl w
  have hhc : hiP l ps i ≤ c := by omega
  have hw9 := op.wid
  have d1 : ¬ (i : Int) < 0 := by omega
  have d2 : ¬ (n2 : Int) < (i : Int) := by omega
  by_cases h0 : i = 0
  · have elo : loP l ps i = 0 := by rw [loP, if_pos h0]
    rw [elo] at q hmax ⊢
    rw [show ((0 : Nat) : Int) = 0 from rfl] at q hmax
    rw [lowM_zero] at q
    have d3 : ¬ (0 : Int) < (i : Int) := by omega
    by_cases h1 : n2 ≤ i
    · have ehi : hiP l ps i = n := by rw [hiP, if_pos (by omega), hn]
      rw [ehi] at q hmax ⊢
      have d4 : ¬ (i : Int) < (n2 : Int) := by omega
      clear hl hp ol op hlh hn hn2 elo ehi h0 h1 hw9
      go_enter Try.func38, Try.ntmps38
      go_wp2_with fail
      go_ret
      exact ⟨by rw [lowM_zero]; rfl, hww⟩
    · have hk : ps[i]? = some (ps[i]'(by omega)) := List.getElem?_eq_getElem _
      generalize ps[i]'(by omega) = k at hk
      have ehi : hiP l ps i = posL l (code k) := by rw [hiP, if_neg (by omega), code_at hk]
      obtain ⟨b, off, rfl, hb1, hr⟩ := has_rows hp hw9 (by decide) (by intro e; rw [e] at hk; simp at hk)
      have lk := elem_ld keyS hr hw9 (by omega) hk
      have gk := op.good k (List.mem_of_getElem? hk)
      have cP1 := fun W h => cP W k h gk.1 gk.2
      have d4 : (i : Int) < (n2 : Int) := by omega
      rw [← ehi] at cP1
      generalize hiP l ps i = hi at *
      clear hl hp ol op hlh hn hn2 elo ehi h0 h1 hw9 cP hr hk gk
      go_enter Try.func38, Try.ntmps38
      go_wp2_with (first
        | (go_at_call 65; (with_reducible refine (cP1 _ (by assumption)).mono ?_); rintro e w1 ⟨rfl, hz1⟩)
        | fail)
      go_ret
      exact ⟨by rw [lowM_zero]; rfl, hz1⟩
  · have d3 : (0 : Int) < (i : Int) := by omega
    have hk : ps[i - 1]? = some (ps[i - 1]'(by omega)) := List.getElem?_eq_getElem _
    generalize ps[i - 1]'(by omega) = k at hk
    have elo : loP l ps i = posL l (code k) := by rw [loP, if_neg h0, code_at hk]
    obtain ⟨b, off, rfl, hb1, hr⟩ := has_rows hp hw9 (by decide) (by intro e; rw [e] at hk; simp at hk)
    have lk := elem_ld keyS hr hw9 (by omega) hk
    have gk := op.good k (List.mem_of_getElem? hk)
    have cP1 := fun W h => cP W k h gk.1 gk.2
    rw [← elo] at cP1
    have e1 : (i : Int) - 1 = ((i - 1 : Nat) : Int) := by omega
    have e2 : ((i : Int) - 1).toNat = i - 1 := by omega
    have e3 : (0 : Int) ≤ (i : Int) - 1 := by omega
    have e4 : (i : Int) - 1 < (n2 : Int) := by omega
    by_cases h1 : n2 ≤ i
    · have ehi : hiP l ps i = n := by rw [hiP, if_pos (by omega), hn]
      rw [ehi] at q hmax ⊢
      have d4 : ¬ (i : Int) < (n2 : Int) := by omega
      generalize loP l ps i = lo at *
      clear hl hp ol op hlh hn hn2 elo ehi h0 h1 hw9 cP hr hk gk e1
      go_enter Try.func38, Try.ntmps38
      go_wp2_with (first
        | (go_at_call 65; (with_reducible refine (cP1 _ (by assumption)).mono ?_); rintro e w1 ⟨rfl, hz1⟩)
        | fail)
      go_ret
      exact ⟨rfl, hz1⟩
    · have hk2 : ps[i]? = some (ps[i]'(by omega)) := List.getElem?_eq_getElem _
      generalize ps[i]'(by omega) = k2 at hk2
      have ehi : hiP l ps i = posL l (code k2) := by rw [hiP, if_neg (by omega), code_at hk2]
      have lk2 := elem_ld keyS hr hw9 (by omega) hk2
      have gk2 := op.good k2 (List.mem_of_getElem? hk2)
      have cP2 := fun W h => cP W k2 h gk2.1 gk2.2
      rw [← ehi] at cP2
      have d4 : (i : Int) < (n2 : Int) := by omega
      generalize loP l ps i = lo at *
      generalize hiP l ps i = hi at *
      clear hl hp ol op hlh hn hn2 elo ehi h0 h1 hw9 cP hr hk gk hk2 gk2 e1
      go_enter Try.func38, Try.ntmps38
      go_wp2_with (first
        | (go_at_call 65; (with_reducible refine (cP1 _ (by assumption)).mono ?_); rintro e w1 ⟨rfl, hz1⟩)
        | (go_at_call 65; (with_reducible refine (cP2 _ (by assumption)).mono ?_); rintro e w2 ⟨rfl, hz2⟩)
        | fail)
      go_ret
      exact ⟨rfl, hz2⟩
set_option maxHeartbeats 2000000 in
theorem part_out {w : World} {A A2 : Option Addr} {n c n2 c2 : Nat} (i : Int) (hi : Is64 i) (hn2 : n2 ≤ 100000) (ho : i < 0 ∨ (n2 : Int) < i) :
    Calls Try.prog 38 #[.slice A n c, .slice A2 n2 c2, .int .i64 i] w fun e w' => e = .returned (.slice none 0 0) ∧ Fr w w' := by
  have hww := fr_refl w
  by_cases h0 : i < 0
  · have d1 : decide (i < 0) = true := by simpa using h0
    go_enter Try.func38, Try.ntmps38
    go_wp2_with fail
    go_ret
    exact ⟨rfl, hww⟩
  · have d2 : (n2 : Int) < i := by omega
    go_enter Try.func38, Try.ntmps38
    go_wp2_with fail
    go_ret
    exact ⟨rfl, hww⟩
theorem part_at {w : World} {A A2 : Option Addr} {n c B n2 c2 B2 : Nat} {l : List RM} {ps : List RK} (hl : Has w B A (rows mc l)) (hB : B ≤ w.heap.size) (hn : l.length = n) (hnc : n ≤ c) (hsm : n ≤ 100000) (ol : OkL l) (hp : Has w B2 A2 (rows kc ps)) (hB2 : B2 ≤ w.heap.size) (hn2 : ps.length = n2) (hsm2 : n2 ≤ 100000) (op : OkP ps) (i : Int) (hi : Is64 i) :
    Calls Try.prog 38 #[.slice A n c, .slice A2 n2 c2, .int .i64 i] w fun e w' => ∃ A' c', e = .returned (.slice A' (partI l ps i).length c') ∧ Has w B A' (rows mc (partI l ps i)) ∧ (partI l ps i).length ≤ c' ∧ Fr w w' := by
  by_cases h : 0 ≤ i ∧ i ≤ (n2 : Int)
  · obtain ⟨j, rfl⟩ : ∃ j : Nat, i = j := ⟨i.toNat, by omega⟩
    have e1 : partI l ps (j : Int) = (l.take (hiP l ps j)).drop (loP l ps j) := by
      rw [partI, if_pos (by omega), ← part_pos ol (by omega)]
      rfl
    have hlh := lo_hi (l := l) op j
    rw [e1]
    have e2 : ((l.take (hiP l ps j)).drop (loP l ps j)).length = hiP l ps j - loP l ps j := by rw [List.length_drop, List.length_take]; omega
    rw [e2]
    refine (part_in hl hB hn hnc hsm ol hp hB2 hn2 hsm2 op j (by omega)).mono ?_
    rintro e w' ⟨rfl, h2⟩
    exact ⟨_, _, rfl, part_slice hl ol.good.wfm hlh.1 hlh.2, Nat.le_refl _, h2⟩
  · have e1 : partI l ps i = [] := by rw [partI, if_neg (by omega)]
    rw [e1]
    refine (part_out i hi hsm2 (by omega)).mono ?_
    rintro e w' ⟨rfl, h2⟩
    exact ⟨_, _, rfl, Has.nil, Nat.le_refl _, h2⟩
end Go.Proofs.Ytcdcaanmmbopbaa
/- Buffers in memory, ten: 'slices.IndexFunc', 'ContainsFunc', the closures of 'Less'. -/
namespace Go.Proofs.Ytcdcaanmmbopbaa
set_option maxRecDepth 100000
open Go.RowKit
set_option linter.unusedVariables false
attribute [local go_sem ↓] key_ld msg_ld msg_st
theorem any_find {gone : List RM} {k : RK} : (gone.any fun x => decide (x.key = k)) = (findL gone k).isSome := by
  induction gone with
  | nil => rfl
  | cons y gone ih =>
    rw [findL_cons, List.any_cons, ih]
    by_cases e : y.key = k <;> simp [e]
end Go.Proofs.Ytcdcaanmmbopbaa
/- Buffers in memory, eleven: 'slices.DeleteFunc', 'Less'. -/
namespace Go.Proofs.Ytcdcaanmmbopbaa
set_option maxRecDepth 100000
open Go.RowKit
set_option linter.unusedVariables false
attribute [local go_sem ↓] key_ld msg_ld msg_st
theorem wpList_store_own {P : Program} {α : Type} {cf : α → List Value} {w : World} {ops : Array Oper} {rest : List Oper} {o : Oper} {a : Act} {Q : Exit → Act → World → Prop} {B T size n c g j : Nat} {l : List α} {x : α} (hs : (P.info? T).map (·.size) = some size) (hgd : o.guard = none) (px py : Operand) (hop : o.op = .store T px py)
    (hx : a.eval px = .pointer (some ⟨g, j * size, none⟩)) (hy : a.eval py = .agg (cf x).toArray) (ho : Own w B T size (some ⟨g, 0, none⟩) n c (rows cf l)) (hw : Wid cf size l) (hn : l.length = n) (hj : j < n) (ha : (cf x).length = size) (h1 : One (cf x)) (hB : B ≤ w.heap.size)
    (h : ∀ W, Own W B T size (some ⟨g, 0, none⟩) n c (rows cf (l.set j x)) → Below B w W → wpList P ops Q rest (a.put o.dst undef) W) : wpList P ops Q (o :: rest) a w := by
  obtain ⟨cur', st, so, sb⟩ := own_set (P := P) hs ho hw hn hj ha h1
  refine wpList_plain hgd fun K hK => ?_
  unfold Oper.wp execOp
  have hr := st w (fr_refl w)
  simp only [stS] at hr
  simp only [hop, hx, hy, Sem.run_bind, Sem.run_pure, Result.andThen_ok, hr]
  exact hK _ _ (h _ (so w (fr_refl w)) (sb w (fr_refl w) (Nat.le_refl _) B (Nat.le_refl _) hB))
theorem wpList_clear_run {P : Program} (w : World) {ops : Array Oper} {rest : List Oper} {o : Oper} {a : Act} {Q : Exit → Act → World → Prop} (hgd : o.guard = none) (d : Operand) (t : TypeId)
    (ho : o.op = .call { callee := .builtin .clear, args := #[d], argTypes := #[t] }) (v : Value) (hd : a.eval d = v) {v' : Value} {w' : World}
    (hr : (Builtin.clear_ #[t] o.type #[v]).run P w = .ok v' w') (h : wpList P ops Q rest (a.put o.dst v') w') : wpList P ops Q (o :: rest) a w :=
  wpList_plain hgd fun _ hK => by
    unfold Oper.wp execOp
    simp only [ho, resolve, invoke, builtin, Sem.run_bind, Sem.run_pure, Result.andThen_ok, List.map_toArray, List.map_cons, List.map_nil, hd, hr]
    exact hK _ _ h
theorem msg_zero : ∃ i, Try.prog.info? 48 = some i ∧ i.size = 29 ∧ i.zero = some (mm zeroM) := by
  have e1 : (Try.prog.info? 48).bind (·.zero) = some (mm zeroM) := by kernel_rfl
  have e2 : (Try.prog.info? 48).map (·.size) = some 29 := by kernel_rfl
  cases h : Try.prog.info? 48 with
  | none => rw [h] at e2; cases e2
  | some i =>
    rw [h] at e1 e2
    exact ⟨i, rfl, by simpa using e2, by simpa using e1⟩
/-- What has been kept, j looked at: i of them, ahead. -/
structure DelI (p : RM → Bool) (l l' : List RM) (i j : Nat) : Prop where
  lt : i < j
  len : l'.length = l.length
  low : l'.take i = (l.take j).filter fun m => !p m
  high : l'.drop j = l.drop j
  wf : WfM l'
theorem WfM.set {l : List RM} {m : RM} (h : WfM l) (wm : m.wf) (i : Nat) : WfM (l.set i m) := fun x hx => by
  rcases List.mem_or_eq_of_mem_set hx with h2 | h2
  · exact h x h2
  · rw [h2]; exact wm
theorem DelI.at {p : RM → Bool} {l l' : List RM} {i j : Nat} (h : DelI p l l' i j) : l'[j]? = l[j]? := by
  have := congrArg (fun q => q[0]?) h.high
  simpa using this
theorem DelI.skip {p : RM → Bool} {l l' : List RM} {i j : Nat} {m : RM} (h : DelI p l l' i j) (hm : l[j]? = some m) (hp : p m = true) : DelI p l l' i (j + 1) where
  lt := by have := h.lt; omega
  len := h.len
  low := by rw [take_one hm, List.filter_append, h.low]; simp [hp]
  high := by rw [← List.drop_drop, ← List.drop_drop, h.high]
  wf := h.wf
theorem DelI.keep {p : RM → Bool} {l l' : List RM} {i j : Nat} {m : RM} (h : DelI p l l' i j) (hm : l[j]? = some m) (hp : p m = false) (wm : m.wf) : DelI p l (l'.set i m) (i + 1) (j + 1) where
  lt := by have := h.lt; omega
  len := by rw [List.length_set, h.len]
  low := by
    have hj := (List.getElem?_eq_some_iff.1 hm).1
    have hi : i < l'.length := by have := h.lt; have := h.len; omega
    have e : (l'.set i m)[i]? = some m := by simp [hi]
    rw [take_one e, List.take_set_of_le (Nat.le_refl _), h.low, take_one hm, List.filter_append]
    simp [hp]
  high := by
    rw [List.drop_set_of_lt (by have := h.lt; omega), ← List.drop_drop, ← List.drop_drop, h.high]
  wf := h.wf.set wm i
theorem DelI.start {p : RM → Bool} {l : List RM} {k : Nat} {m : RM} (hm : l[k]? = some m) (hp : p m = true) (hno : ∀ t x, t < k → l[t]? = some x → p x = false) (wl : WfM l) : DelI p l l k (k + 1) where
  lt := Nat.lt_succ_self _
  len := rfl
  low := by
    rw [take_one hm, List.filter_append]
    have : (l.take k).filter (fun m => !p m) = l.take k := List.filter_eq_self.2 fun x hx => by
      obtain ⟨t, ht, e⟩ := List.mem_iff_getElem.1 hx
      have h3 : (l.take k)[t]? = some x := by rw [List.getElem?_eq_getElem ht, e]
      rw [List.getElem?_take] at h3
      split at h3
      · rename_i h4; simp [hno t x h4 h3]
      · cases h3
    rw [this]
    simp [hp]
  high := rfl
  wf := wl
theorem DelI.done {p : RM → Bool} {l l' : List RM} {i : Nat} (h : DelI p l l' i l.length) : l'.take i = l.filter fun m => !p m := by
  have := h.low
  rwa [List.take_of_length_le (Nat.le_refl _)] at this
theorem gone_box (w : World) (A : Option Addr) (n c : Nat) : ∃ Z, w.alloc (.cells #[.slice A n c] 25) = Z ∧ Fr w Z ∧ Fr Z Z ∧ Arr Z w.heap.size 25 #[.slice A n c] ∧ Z.heap.size = w.heap.size + 1 := ⟨_, rfl, fr_new (fr_refl w) _, fr_refl _, Arr.new w _ _, by simp⟩
end Go.Proofs.Ytcdcaanmmbopbaa
