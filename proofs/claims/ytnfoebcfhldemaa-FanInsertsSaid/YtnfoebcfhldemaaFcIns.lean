/- FanInserts, walked. -/
import Derived.Test.YtnfoebcfhldemaaFnJ
import Derived.Test.YtnfoebcfhldemaaFcKids
namespace Go.Proofs.Ytnfoebcfhldemaa
set_option maxRecDepth 100000
open Go.RowKit
set_option linter.unusedVariables false
attribute [local go_sem ↓] key_ld msg_ld
theorem own_key_at {W : World} {A : Option Addr} {n c : Nat} {l : List RK} (ho : Own W 0 27 9 A n c (rows kc l)) {j : Nat} {k : RK} (hk : l[j]? = some k) : ∃ b off, A = some ⟨b, off, none⟩ ∧ ∀ w', Fr W w' → (ldS 27 (.pointer (some ⟨b, off + j * 9, none⟩))).run Try.prog w' = .ok (.agg (kc k).toArray) w' := by
  obtain ⟨b, off, e, hb, hr⟩ := has_rows ho.has (kwid l) (by decide) (by intro e; rw [e] at hk; simp at hk)
  exact ⟨b, off, e, fun w' h => elem_ld keyS hr (kwid l) hb hk w' h⟩
theorem cmpK_nn {a b : RK} : 0 ≤ cmpK a b ↔ code b ≤ code a := cmpK_ge
set_option maxHeartbeats 8000000 in
theorem fanInserts_core {w : World} {A0 : Option Addr} {n0 c0 : Nat} {ns : List Int} {f at' pv ky : Int} (hl0 : Has w w.heap.size A0 (ns.map (Value.int .i64))) (hn0 : ns.length = n0) (hns : ∀ z ∈ ns, Is64 z) (hby : n0 * 8 ≤ 140737488351232) (hf : Is64 f) (hat : Is64 at') (hpv : Is64 pv) (hky : Is64 ky) :
    Calls Try.prog 8 #[.slice A0 n0 c0, .int .i64 f, .int .i64 at', .int .i64 pv, .int .i64 ky] w fun e w' => e = .returned (.bool true) ∧ Below w.heap.size w w' := by
  have cT := law_two (c := c0) hl0 (Nat.le_refl _) hn0 hns (by unfold maxLen; omega) hf (by omega)
  have op := pivsL_ok (16 :: ns) 3
  have np1 := pivs_one ns
  have np3 := pivs_three ns
  have cX := fun W => law_key_at (W0 := W) (W := W) hpv (fr_refl W)
  have cY := fun W => law_key_at (W0 := W) (W := W) hky (fr_refl W)
  have wx := lawK_wf pv
  have ox := lawK_ok pv
  have wy := lawK_wf ky
  have oy := lawK_ok ky
  have cW := fun W => awake8_at (W0 := W) (W := W) (fr_refl W)
  generalize pivsL (16 :: ns) 3 = ps at *
  generalize lawK pv = x at *
  generalize lawK ky = y at *
  generalize hnp : ps.length = np at *
  have hkl := kidsL_len np f
  obtain ⟨hq, hlo, -⟩ := kid_cases (c := code x) op hnp
  have Hx := keep (And.intro wx ox)
  have Hy := keep (And.intro wy oy)
  have Hop := keep op
  have Hnp := keep hnp
  have Hkl := keep hkl
  have hat2 : 0 ≤ at' % 20 ∧ at' % 20 < 20 := by omega
  have cPl : ∀ W, Calls Try.prog 47 #[.int .i64 at', .int .i64 20] W fun e w' => e = .returned (.int .i64 (at' % 20)) ∧ Fr W w' := fun W => law_place at' 20 hat (by omega) (by omega) W
  generalize at' % 20 = idd at *
  have hid1 := hat2.1
  have hid2 := hat2.2
  have hks : Hid (kidsL np f = kidsL np f) := keep rfl
  have hqq : Hid (kidN ps (code x) = kidN ps (code x)) := keep rfl
  obtain ⟨q, hqe⟩ : ∃ q, kidN ps (code x) = q := ⟨_, rfl⟩
  have Hq := keep hqe
  rw [hqe] at hq hlo
  have cRK : ∀ W A c, Own W 0 27 9 A np c (rows kc ps) → Calls Try.prog 42 #[.slice A np c, kv x] W fun e w' => e = .returned (.int .i64 (q : Int)) ∧ Fr W w' := fun W A c ho => by
    have := rkid_at (c := c) ho.has (Nat.le_refl _) hnp (by omega) op wx ox (fr_refl W)
    rwa [hqe] at this
  have cRY : ∀ W A c, Own W 0 27 9 A np c (rows kc ps) → Calls Try.prog 42 #[.slice A np c, kv y] W fun e w' => e = .returned (.int .i64 (kidN ps (code y) : Nat)) ∧ Fr W w' := fun W A c ho => rkid_at (c := c) ho.has (Nat.le_refl _) hnp (by omega) op wy oy (fr_refl W)
  unfold TwoOut at cT
  rw [hkl, hnp] at cT
  generalize hks0 : kidsL np f = ks at *
  have Hks0 := keep hks0
  have rr := fr_refl w
  clear hl0 hn0 hns hby hf hat hpv hky hnp hkl wx ox wy oy op hks hqq hqe hat2 hks0
  go_enter Try.func8, Try.ntmps8
  go_wp2_with fail
  refine cT.mono ?_
  rintro e v1 ⟨A, c, A2, c2, rfl, hk, hp, f1⟩
  replace hk : Hid (Own v1 0 3 1 A (np + 1) c (ints ks)) := keep (by have h := hk.out; unfold OwnI at h; rwa [Hkl.out] at h)
  replace hp : Hid (Own v1 0 27 9 A2 np c2 (rows kc ps)) := keep (by have h := hp.out; unfold OwnK at h; rwa [Hnp.out] at h)
  clear cT
  go_wp2_with fail
  refine (cX _).mono ?_
  rintro e v2 ⟨rfl, f2⟩
  go_wp2_with fail
  refine (cY _).mono ?_
  rintro e v3 ⟨rfl, f3⟩
  have f4 : Fr v1 v3 := fr_step f2 f3
  have f5 : Fr w v3 := fr_step f1 f4
  have hvv := fr_refl v3
  replace hk := keep (Own.below hk.out f4 (Nat.le_refl _))
  replace hp := keep (Own.below hp.out f4 (Nat.le_refl _))
  clear cX cY f1 f2 f3 f4
  have tok : Hid (0 < 1) := keep (by decide)
  have tok2 : Hid (0 < 1) := keep (by decide)
  go_wp2_with (first
    | (clear tok; refine wpList_store_at (ds := kc x) key_info rfl (.tmp 13) (.tmp 28) rfl v3.heap.size 0 rfl rfl (kc_len _) (kc_one _) (Arr.alloc (Arr.new v3 (kc zeroK).toArray 27) (.cells (kc zeroK).toArray 27)) (by rw [kc_len]; decide) (splice_all _ _ (Nat.le_of_eq rfl)) ?_; intro Ya hKa hka; have fa := hka.fr (fr_new (fr_new hvv _) _) (Nat.le_refl _); have hMa := hka.other (arr_at (v3.alloc (.cells (kc zeroK).toArray 27)) (kc zeroK).toArray 27 (v3.heap.size + 1) (by simp)) (by omega); clear hka)
    | (clear tok2; refine wpList_store_at (ds := kc y) key_info rfl (.tmp 14) (.tmp 30) rfl (v3.heap.size + 1) 0 rfl rfl (kc_len _) (kc_one _) hMa (by rw [kc_len]; decide) (splice_all _ _ (Nat.le_of_eq rfl)) ?_; intro V hMb hkb; have hKb := hkb.other hKa (by omega); have fb := hkb.fr fa (by omega); have lX : ∀ W, Fr V W → (ldS 27 (.pointer (some ⟨v3.heap.size, 0, none⟩))).run Try.prog W = .ok (.agg (kc x).toArray) W := fun W h => keyS.ld (kc_len _) (hKb.below h hKb.lt); have lY : ∀ W, Fr V W → (ldS 27 (.pointer (some ⟨v3.heap.size + 1, 0, none⟩))).run Try.prog W = .ok (.agg (kc y).toArray) W := fun W h => keyS.ld (kc_len _) (hMb.below h hMb.lt); have hVV := fr_refl V; clear hkb hMa hKa fa hKb hMb)
    | fail)
  have f6 : Fr w V := fr_step f5 fb
  replace hk := keep (Own.below hk.out fb (Nat.le_refl _))
  replace hp := keep (Own.below hp.out fb (Nat.le_refl _))
  clear fb f5 hvv
  refine (cRK _ _ _ hp.out).mono ?_
  rintro e v ⟨rfl, f7⟩
  have top : Fr w v := fr_step f6 f7
  replace hk := keep (Own.below hk.out f7 (Nat.le_refl _))
  replace hp := keep (Own.below hp.out f7 (Nat.le_refl _))
  replace lX := fun W (h : Fr v W) => lX W (fr_step f7 h)
  replace lY := fun W (h : Fr v W) => lY W (fr_step f7 h)
  have vv := fr_refl v
  have hrD := fr_drew vv
  clear f6 f7 hVV cRK
  have pvp : ∀ {t : Nat} {k : RK}, ps[t]? = some k → ∃ b2 off2, A2 = some ⟨b2, off2, none⟩ ∧ (∀ W, Fr v W → (ldS 27 (.pointer (some ⟨b2, off2 + t * 9, none⟩))).run Try.prog W = .ok (.agg (kc k).toArray) W) ∧ (∀ W, (binOp .eql 27 (.agg (kc k).toArray) (.agg (kc x).toArray)).run Try.prog W = .ok (.bool (decide (k = x))) W) := by
    intro t k hk'
    obtain ⟨b2, off2, e, hl⟩ := own_key_at hp.out hk'
    exact ⟨b2, off2, e, hl, fun W => key_eql (Hop.out.good k (List.mem_of_getElem? hk')).1 Hx.out.1 W⟩
  by_cases hsame : ∃ t p, q = t + 1 ∧ ps[t]? = some p ∧ p = x
  · obtain ⟨t, p, hqt, hpt, hpx⟩ := hsame
    obtain ⟨b2, off2, rfl, lP, qE⟩ := pvp hpt
    rw [decide_eq_true hpx] at qE
    have e1 : 0 < (q : Int) := by omega
    have hw1 : IntKind.i64.wrap ((q : Int) - 1) = (t : Int) := by rw [IntKind.wrap_i64]; omega
    have htn : t < np := by omega
    clear hqt hpt hpx hlo pvp cRY cPl
    go_wp2_with fail
    refine wp_region_noPanic ?_
    refine wp_region_held_drew (S := fun w' => Fr v w') (by kernel_rfl) hrD (fun hHeld => ?_)
    change wpAnyH _ _ _ _ _ _ _ _ _
    refine wpAnyH_take (i := 0) (v := ?_) rfl (by kernel_rfl) (by kernel_rfl) (by kernel_rfl) (fun _ _ _ h => h) (Or.inl ⟨by rfl, ?_⟩) (by assumption) ?_
    rotate_left
    · intro w' hSw
      try dsimp only at hSw
      go_simp
      try with_reducible rfl
    try simp only [List.getElem_toArray, List.getElem_cons_zero, Act.put, List.setIfInBounds_toArray, List.set_cons_zero, List.set_cons_succ]
    refine wpAnyH_take (i := 1) (v := .bool true) rfl (by kernel_rfl) (by kernel_rfl) (by kernel_rfl) (fun _ _ _ h => h) (Or.inl ⟨by rfl, ?_⟩) (by assumption) ?_
    · intro w' hSw
      try dsimp only at hSw
      try go_simp
      all_goals first | done | with_reducible rfl | omega | assumption | (simp; omega)
    try simp only [List.getElem_toArray, List.getElem_cons_succ, List.getElem_cons_zero, Act.put, List.setIfInBounds_toArray, List.set_cons_zero, List.set_cons_succ]
    refine wpAnyH_take (i := 2) (v := .bool true) rfl (by kernel_rfl) (by kernel_rfl) (by kernel_rfl) (fun _ _ _ h => h) (Or.inl ⟨by rfl, ?_⟩) (by assumption) ?_
    · intro w' hSw
      try dsimp only at hSw
      try go_simp
      all_goals first | done | with_reducible rfl | omega | assumption | (simp; omega)
    try simp only [List.getElem_toArray, List.getElem_cons_succ, List.getElem_cons_zero, Act.put, List.setIfInBounds_toArray, List.set_cons_zero, List.set_cons_succ]
    refine wpAnyH_take (i := 3) (v := ?_) rfl (by kernel_rfl) (by kernel_rfl) (by kernel_rfl) (fun _ _ _ h => h) (Or.inl ⟨by rfl, ?_⟩) (by assumption) ?_
    rotate_left
    · intro w' hSw
      try dsimp only at hSw
      go_simp
      try with_reducible rfl
    try simp only [List.getElem_toArray, List.getElem_cons_succ, List.getElem_cons_zero, Act.put, List.setIfInBounds_toArray, List.set_cons_zero, List.set_cons_succ]
    refine wpAnyH_take (i := 4) (v := ?_) rfl (by kernel_rfl) (by kernel_rfl) (by kernel_rfl) (fun _ _ _ h => h) (Or.inl ⟨by rfl, ?_⟩) (by assumption) ?_
    rotate_left
    · intro w' hSw
      try dsimp only at hSw
      go_simp
      try with_reducible rfl
    try simp only [List.getElem_toArray, List.getElem_cons_succ, List.getElem_cons_zero, Act.put, List.setIfInBounds_toArray, List.set_cons_zero, List.set_cons_succ]
    refine wpAnyH_take (i := 5) (v := ?_) rfl (by kernel_rfl) (by kernel_rfl) (by kernel_rfl) (fun _ _ _ h => h) (Or.inl ⟨by rfl, ?_⟩) (by assumption) ?_
    rotate_left
    · intro w' hSw
      try dsimp only at hSw
      go_simp
      try with_reducible rfl
    try simp only [List.getElem_toArray, List.getElem_cons_succ, List.getElem_cons_zero, Act.put, List.setIfInBounds_toArray, List.set_cons_zero, List.set_cons_succ]
    refine wpAnyH_take (i := 6) (v := ?_) rfl (by kernel_rfl) (by kernel_rfl) (by kernel_rfl) (fun _ _ _ h => h) (Or.inl ⟨by rfl, ?_⟩) (by assumption) ?_
    rotate_left
    · intro w' hSw
      try dsimp only at hSw
      go_simp
      try with_reducible rfl
    try simp only [List.getElem_toArray, List.getElem_cons_succ, List.getElem_cons_zero, Act.put, List.setIfInBounds_toArray, List.set_cons_zero, List.set_cons_succ]
    refine wpAnyH_take (i := 7) (v := ?_) rfl (by kernel_rfl) (by kernel_rfl) (by kernel_rfl) (fun _ _ _ h => h) (Or.inl ⟨by rfl, ?_⟩) (by assumption) ?_
    rotate_left
    · intro w' hSw
      try dsimp only at hSw
      go_simp
      try with_reducible rfl
    try simp only [List.getElem_toArray, List.getElem_cons_succ, List.getElem_cons_zero, Act.put, List.setIfInBounds_toArray, List.set_cons_zero, List.set_cons_succ]
    refine wpAnyH_take (i := 8) (v := ?_) rfl (by kernel_rfl) (by kernel_rfl) (by kernel_rfl) (fun _ _ _ h => h) (Or.inl ⟨by rfl, ?_⟩) (by assumption) ?_
    rotate_left
    · intro w' hSw
      try dsimp only at hSw
      go_simp
      try with_reducible rfl
    try simp only [List.getElem_toArray, List.getElem_cons_succ, List.getElem_cons_zero, Act.put, List.setIfInBounds_toArray, List.set_cons_zero, List.set_cons_succ]
    refine wpAnyH_take (i := 9) (v := .bool true) rfl (by kernel_rfl) (by kernel_rfl) (by kernel_rfl) (fun _ _ _ h => h) (Or.inl ⟨by rfl, ?_⟩) (by assumption) ?_
    · intro w' hSw
      try dsimp only at hSw
      try go_simp
      all_goals first | done | with_reducible rfl | omega | assumption | (simp; omega)
    try simp only [List.getElem_toArray, List.getElem_cons_succ, List.getElem_cons_zero, Act.put, List.setIfInBounds_toArray, List.set_cons_zero, List.set_cons_succ]
    refine wpAnyH_take (i := 10) (v := .bool true) rfl (by kernel_rfl) (by kernel_rfl) (by kernel_rfl) (fun _ _ _ h => h) (Or.inl ⟨by rfl, ?_⟩) (by assumption) ?_
    · intro w' hSw
      try dsimp only at hSw
      try go_simp
      all_goals first | done | with_reducible rfl | omega | assumption | (simp; omega)
    try simp only [List.getElem_toArray, List.getElem_cons_succ, List.getElem_cons_zero, Act.put, List.setIfInBounds_toArray, List.set_cons_zero, List.set_cons_succ]
    refine wpAnyH_take (i := 11) (v := .bool true) rfl (by kernel_rfl) (by kernel_rfl) (by kernel_rfl) (fun _ _ _ h => h) (Or.inl ⟨by rfl, ?_⟩) (by assumption) ?_
    · intro w' hSw
      try dsimp only at hSw
      try go_simp
      all_goals first | done | with_reducible rfl | omega | assumption | (simp; omega)
    try simp only [List.getElem_toArray, List.getElem_cons_succ, List.getElem_cons_zero, Act.put, List.setIfInBounds_toArray, List.set_cons_zero, List.set_cons_succ]
    refine wpAnyH_take (i := 12) (v := undef) rfl (by kernel_rfl) (by kernel_rfl) (by kernel_rfl) (fun _ _ _ h => h) (Or.inr ⟨by rfl, rfl⟩) (by assumption) ?_
    try simp only [List.getElem_toArray, List.getElem_cons_succ, List.getElem_cons_zero, Act.put, List.setIfInBounds_toArray, List.set_cons_zero, List.set_cons_succ]
    refine wpAnyH_take (i := 13) (v := undef) rfl (by kernel_rfl) (by kernel_rfl) (by kernel_rfl) (fun _ _ _ h => h) (Or.inr ⟨by rfl, rfl⟩) (by assumption) ?_
    try simp only [List.getElem_toArray, List.getElem_cons_succ, List.getElem_cons_zero, Act.put, List.setIfInBounds_toArray, List.set_cons_zero, List.set_cons_succ]
    refine wpAnyH_take (i := 14) (v := undef) rfl (by kernel_rfl) (by kernel_rfl) (by kernel_rfl) (fun _ _ _ h => h) (Or.inr ⟨by rfl, rfl⟩) (by assumption) ?_
    try simp only [List.getElem_toArray, List.getElem_cons_succ, List.getElem_cons_zero, Act.put, List.setIfInBounds_toArray, List.set_cons_zero, List.set_cons_succ]
    refine wpAnyH_take (i := 15) (v := .bool true) rfl (by kernel_rfl) (by kernel_rfl) (by kernel_rfl) (fun _ _ _ h => h) (Or.inl ⟨by rfl, ?_⟩) (by assumption) ?_
    · intro w' hSw
      try dsimp only at hSw
      try go_simp
      all_goals first | done | with_reducible rfl | omega | assumption | (simp; omega)
    try simp only [List.getElem_toArray, List.getElem_cons_succ, List.getElem_cons_zero, Act.put, List.setIfInBounds_toArray, List.set_cons_zero, List.set_cons_succ]
    refine wpAnyH_done (by kernel_rfl) ?_ _
    refine NoPanic.normal ?_
    go_wp2_with fail
    refine (cW _).mono ?_
    rintro e y1 ⟨rfl, g1⟩
    go_wp2_with fail
    go_ret
    exact ⟨rfl, fr_step top (fr_step hrD g1)⟩
  have hne : ∀ p, 0 < q → ps[q - 1]? = some p → p ≠ x := fun p h0 hp' e => hsame ⟨q - 1, p, by omega, hp', e⟩
  by_cases hfull : 4 ≤ np + 1
  · have z4 : 4 ≤ (np : Int) + 1 := by omega
    clear cRY cPl hne
    rcases hlo with h0 | ⟨t, p, hqt, hpt, -⟩
    · have e1 : ¬ 0 < (q : Int) := by omega
      clear h0 hsame pvp
      go_wp2_with fail
      refine wp_region_noPanic ?_
      refine wp_region_held_drew (S := fun w' => Fr v w') (by kernel_rfl) hrD (fun hHeld => ?_)
      change wpAnyH _ _ _ _ _ _ _ _ _
      refine wpAnyH_take (i := 0) (v := ?_) rfl (by kernel_rfl) (by kernel_rfl) (by kernel_rfl) (fun _ _ _ h => h) (Or.inl ⟨by rfl, ?_⟩) (by assumption) ?_
      rotate_left
      · intro w' hSw
        try dsimp only at hSw
        go_simp
        try with_reducible rfl
      try simp only [List.getElem_toArray, List.getElem_cons_zero, Act.put, List.setIfInBounds_toArray, List.set_cons_zero, List.set_cons_succ]
      refine wpAnyH_take (i := 1) (v := .bool false) rfl (by kernel_rfl) (by kernel_rfl) (by kernel_rfl) (fun _ _ _ h => h) (Or.inl ⟨by rfl, ?_⟩) (by assumption) ?_
      · intro w' hSw
        try dsimp only at hSw
        try go_simp
        all_goals first | done | with_reducible rfl | omega | assumption | (simp; omega)
      try simp only [List.getElem_toArray, List.getElem_cons_succ, List.getElem_cons_zero, Act.put, List.setIfInBounds_toArray, List.set_cons_zero, List.set_cons_succ]
      refine wpAnyH_take (i := 2) (v := .bool false) rfl (by kernel_rfl) (by kernel_rfl) (by kernel_rfl) (fun _ _ _ h => h) (Or.inl ⟨by rfl, ?_⟩) (by assumption) ?_
      · intro w' hSw
        try dsimp only at hSw
        try go_simp
        all_goals first | done | with_reducible rfl | omega | assumption | (simp; omega)
      try simp only [List.getElem_toArray, List.getElem_cons_succ, List.getElem_cons_zero, Act.put, List.setIfInBounds_toArray, List.set_cons_zero, List.set_cons_succ]
      refine wpAnyH_take (i := 3) (v := undef) rfl (by kernel_rfl) (by kernel_rfl) (by kernel_rfl) (fun _ _ _ h => h) (Or.inr ⟨by rfl, rfl⟩) (by assumption) ?_
      try simp only [List.getElem_toArray, List.getElem_cons_succ, List.getElem_cons_zero, Act.put, List.setIfInBounds_toArray, List.set_cons_zero, List.set_cons_succ]
      refine wpAnyH_take (i := 4) (v := undef) rfl (by kernel_rfl) (by kernel_rfl) (by kernel_rfl) (fun _ _ _ h => h) (Or.inr ⟨by rfl, rfl⟩) (by assumption) ?_
      try simp only [List.getElem_toArray, List.getElem_cons_succ, List.getElem_cons_zero, Act.put, List.setIfInBounds_toArray, List.set_cons_zero, List.set_cons_succ]
      refine wpAnyH_take (i := 5) (v := undef) rfl (by kernel_rfl) (by kernel_rfl) (by kernel_rfl) (fun _ _ _ h => h) (Or.inr ⟨by rfl, rfl⟩) (by assumption) ?_
      try simp only [List.getElem_toArray, List.getElem_cons_succ, List.getElem_cons_zero, Act.put, List.setIfInBounds_toArray, List.set_cons_zero, List.set_cons_succ]
      refine wpAnyH_take (i := 6) (v := undef) rfl (by kernel_rfl) (by kernel_rfl) (by kernel_rfl) (fun _ _ _ h => h) (Or.inr ⟨by rfl, rfl⟩) (by assumption) ?_
      try simp only [List.getElem_toArray, List.getElem_cons_succ, List.getElem_cons_zero, Act.put, List.setIfInBounds_toArray, List.set_cons_zero, List.set_cons_succ]
      refine wpAnyH_take (i := 7) (v := undef) rfl (by kernel_rfl) (by kernel_rfl) (by kernel_rfl) (fun _ _ _ h => h) (Or.inr ⟨by rfl, rfl⟩) (by assumption) ?_
      try simp only [List.getElem_toArray, List.getElem_cons_succ, List.getElem_cons_zero, Act.put, List.setIfInBounds_toArray, List.set_cons_zero, List.set_cons_succ]
      refine wpAnyH_take (i := 8) (v := undef) rfl (by kernel_rfl) (by kernel_rfl) (by kernel_rfl) (fun _ _ _ h => h) (Or.inr ⟨by rfl, rfl⟩) (by assumption) ?_
      try simp only [List.getElem_toArray, List.getElem_cons_succ, List.getElem_cons_zero, Act.put, List.setIfInBounds_toArray, List.set_cons_zero, List.set_cons_succ]
      refine wpAnyH_take (i := 9) (v := undef) rfl (by kernel_rfl) (by kernel_rfl) (by kernel_rfl) (fun _ _ _ h => h) (Or.inr ⟨by rfl, rfl⟩) (by assumption) ?_
      try simp only [List.getElem_toArray, List.getElem_cons_succ, List.getElem_cons_zero, Act.put, List.setIfInBounds_toArray, List.set_cons_zero, List.set_cons_succ]
      refine wpAnyH_take (i := 10) (v := .bool false) rfl (by kernel_rfl) (by kernel_rfl) (by kernel_rfl) (fun _ _ _ h => h) (Or.inl ⟨by rfl, ?_⟩) (by assumption) ?_
      · intro w' hSw
        try dsimp only at hSw
        try go_simp
        all_goals first | done | with_reducible rfl | omega | assumption | (simp; omega)
      try simp only [List.getElem_toArray, List.getElem_cons_succ, List.getElem_cons_zero, Act.put, List.setIfInBounds_toArray, List.set_cons_zero, List.set_cons_succ]
      refine wpAnyH_take (i := 11) (v := .bool false) rfl (by kernel_rfl) (by kernel_rfl) (by kernel_rfl) (fun _ _ _ h => h) (Or.inl ⟨by rfl, ?_⟩) (by assumption) ?_
      · intro w' hSw
        try dsimp only at hSw
        try go_simp
        all_goals first | done | with_reducible rfl | omega | assumption | (simp; omega)
      try simp only [List.getElem_toArray, List.getElem_cons_succ, List.getElem_cons_zero, Act.put, List.setIfInBounds_toArray, List.set_cons_zero, List.set_cons_succ]
      refine wpAnyH_take (i := 12) (v := ?_) rfl (by kernel_rfl) (by kernel_rfl) (by kernel_rfl) (fun _ _ _ h => h) (Or.inl ⟨by rfl, ?_⟩) (by assumption) ?_
      rotate_left
      · intro w' hSw
        try dsimp only at hSw
        go_simp
        try with_reducible rfl
      try simp only [List.getElem_toArray, List.getElem_cons_succ, List.getElem_cons_zero, Act.put, List.setIfInBounds_toArray, List.set_cons_zero, List.set_cons_succ]
      refine wpAnyH_take (i := 13) (v := ?_) rfl (by kernel_rfl) (by kernel_rfl) (by kernel_rfl) (fun _ _ _ h => h) (Or.inl ⟨by rfl, ?_⟩) (by assumption) ?_
      rotate_left
      · intro w' hSw
        try dsimp only at hSw
        go_simp
        try with_reducible rfl
      try simp only [List.getElem_toArray, List.getElem_cons_succ, List.getElem_cons_zero, Act.put, List.setIfInBounds_toArray, List.set_cons_zero, List.set_cons_succ]
      refine wpAnyH_take (i := 14) (v := .bool true) rfl (by kernel_rfl) (by kernel_rfl) (by kernel_rfl) (fun _ _ _ h => h) (Or.inl ⟨by rfl, ?_⟩) (by assumption) ?_
      · intro w' hSw
        try dsimp only at hSw
        try go_simp
        all_goals first | done | with_reducible rfl | omega | assumption | (simp; omega)
      try simp only [List.getElem_toArray, List.getElem_cons_succ, List.getElem_cons_zero, Act.put, List.setIfInBounds_toArray, List.set_cons_zero, List.set_cons_succ]
      refine wpAnyH_take (i := 15) (v := .bool true) rfl (by kernel_rfl) (by kernel_rfl) (by kernel_rfl) (fun _ _ _ h => h) (Or.inl ⟨by rfl, ?_⟩) (by assumption) ?_
      · intro w' hSw
        try dsimp only at hSw
        try go_simp
        all_goals first | done | with_reducible rfl | omega | assumption | (simp; omega)
      try simp only [List.getElem_toArray, List.getElem_cons_succ, List.getElem_cons_zero, Act.put, List.setIfInBounds_toArray, List.set_cons_zero, List.set_cons_succ]
      refine wpAnyH_done (by kernel_rfl) ?_ _
      refine NoPanic.normal ?_
      go_wp2_with fail
      refine (cW _).mono ?_
      rintro e y1 ⟨rfl, g1⟩
      go_wp2_with fail
      go_ret
      exact ⟨rfl, fr_step top (fr_step hrD g1)⟩
    · obtain ⟨b2, off2, rfl, lP, qE⟩ := pvp hpt
      rw [decide_eq_false (fun e => hsame ⟨t, p, hqt, hpt, e⟩)] at qE
      have e1 : 0 < (q : Int) := by omega
      have hw1 : IntKind.i64.wrap ((q : Int) - 1) = (t : Int) := by rw [IntKind.wrap_i64]; omega
      have htn : t < np := by omega
      clear hqt hpt hsame pvp
      go_wp2_with fail
      refine wp_region_noPanic ?_
      refine wp_region_held_drew (S := fun w' => Fr v w') (by kernel_rfl) hrD (fun hHeld => ?_)
      change wpAnyH _ _ _ _ _ _ _ _ _
      refine wpAnyH_take (i := 0) (v := ?_) rfl (by kernel_rfl) (by kernel_rfl) (by kernel_rfl) (fun _ _ _ h => h) (Or.inl ⟨by rfl, ?_⟩) (by assumption) ?_
      rotate_left
      · intro w' hSw
        try dsimp only at hSw
        go_simp
        try with_reducible rfl
      try simp only [List.getElem_toArray, List.getElem_cons_zero, Act.put, List.setIfInBounds_toArray, List.set_cons_zero, List.set_cons_succ]
      refine wpAnyH_take (i := 1) (v := .bool true) rfl (by kernel_rfl) (by kernel_rfl) (by kernel_rfl) (fun _ _ _ h => h) (Or.inl ⟨by rfl, ?_⟩) (by assumption) ?_
      · intro w' hSw
        try dsimp only at hSw
        try go_simp
        all_goals first | done | with_reducible rfl | omega | assumption | (simp; omega)
      try simp only [List.getElem_toArray, List.getElem_cons_succ, List.getElem_cons_zero, Act.put, List.setIfInBounds_toArray, List.set_cons_zero, List.set_cons_succ]
      refine wpAnyH_take (i := 2) (v := .bool true) rfl (by kernel_rfl) (by kernel_rfl) (by kernel_rfl) (fun _ _ _ h => h) (Or.inl ⟨by rfl, ?_⟩) (by assumption) ?_
      · intro w' hSw
        try dsimp only at hSw
        try go_simp
        all_goals first | done | with_reducible rfl | omega | assumption | (simp; omega)
      try simp only [List.getElem_toArray, List.getElem_cons_succ, List.getElem_cons_zero, Act.put, List.setIfInBounds_toArray, List.set_cons_zero, List.set_cons_succ]
      refine wpAnyH_take (i := 3) (v := ?_) rfl (by kernel_rfl) (by kernel_rfl) (by kernel_rfl) (fun _ _ _ h => h) (Or.inl ⟨by rfl, ?_⟩) (by assumption) ?_
      rotate_left
      · intro w' hSw
        try dsimp only at hSw
        go_simp
        try with_reducible rfl
      try simp only [List.getElem_toArray, List.getElem_cons_succ, List.getElem_cons_zero, Act.put, List.setIfInBounds_toArray, List.set_cons_zero, List.set_cons_succ]
      refine wpAnyH_take (i := 4) (v := ?_) rfl (by kernel_rfl) (by kernel_rfl) (by kernel_rfl) (fun _ _ _ h => h) (Or.inl ⟨by rfl, ?_⟩) (by assumption) ?_
      rotate_left
      · intro w' hSw
        try dsimp only at hSw
        go_simp
        try with_reducible rfl
      try simp only [List.getElem_toArray, List.getElem_cons_succ, List.getElem_cons_zero, Act.put, List.setIfInBounds_toArray, List.set_cons_zero, List.set_cons_succ]
      refine wpAnyH_take (i := 5) (v := ?_) rfl (by kernel_rfl) (by kernel_rfl) (by kernel_rfl) (fun _ _ _ h => h) (Or.inl ⟨by rfl, ?_⟩) (by assumption) ?_
      rotate_left
      · intro w' hSw
        try dsimp only at hSw
        go_simp
        try with_reducible rfl
      try simp only [List.getElem_toArray, List.getElem_cons_succ, List.getElem_cons_zero, Act.put, List.setIfInBounds_toArray, List.set_cons_zero, List.set_cons_succ]
      refine wpAnyH_take (i := 6) (v := ?_) rfl (by kernel_rfl) (by kernel_rfl) (by kernel_rfl) (fun _ _ _ h => h) (Or.inl ⟨by rfl, ?_⟩) (by assumption) ?_
      rotate_left
      · intro w' hSw
        try dsimp only at hSw
        go_simp
        try with_reducible rfl
      try simp only [List.getElem_toArray, List.getElem_cons_succ, List.getElem_cons_zero, Act.put, List.setIfInBounds_toArray, List.set_cons_zero, List.set_cons_succ]
      refine wpAnyH_take (i := 7) (v := ?_) rfl (by kernel_rfl) (by kernel_rfl) (by kernel_rfl) (fun _ _ _ h => h) (Or.inl ⟨by rfl, ?_⟩) (by assumption) ?_
      rotate_left
      · intro w' hSw
        try dsimp only at hSw
        go_simp
        try with_reducible rfl
      try simp only [List.getElem_toArray, List.getElem_cons_succ, List.getElem_cons_zero, Act.put, List.setIfInBounds_toArray, List.set_cons_zero, List.set_cons_succ]
      refine wpAnyH_take (i := 8) (v := ?_) rfl (by kernel_rfl) (by kernel_rfl) (by kernel_rfl) (fun _ _ _ h => h) (Or.inl ⟨by rfl, ?_⟩) (by assumption) ?_
      rotate_left
      · intro w' hSw
        try dsimp only at hSw
        go_simp
        try with_reducible rfl
      try simp only [List.getElem_toArray, List.getElem_cons_succ, List.getElem_cons_zero, Act.put, List.setIfInBounds_toArray, List.set_cons_zero, List.set_cons_succ]
      refine wpAnyH_take (i := 9) (v := .bool false) rfl (by kernel_rfl) (by kernel_rfl) (by kernel_rfl) (fun _ _ _ h => h) (Or.inl ⟨by rfl, ?_⟩) (by assumption) ?_
      · intro w' hSw
        try dsimp only at hSw
        try go_simp
        all_goals first | done | with_reducible rfl | omega | assumption | (simp; omega)
      try simp only [List.getElem_toArray, List.getElem_cons_succ, List.getElem_cons_zero, Act.put, List.setIfInBounds_toArray, List.set_cons_zero, List.set_cons_succ]
      refine wpAnyH_take (i := 10) (v := .bool false) rfl (by kernel_rfl) (by kernel_rfl) (by kernel_rfl) (fun _ _ _ h => h) (Or.inl ⟨by rfl, ?_⟩) (by assumption) ?_
      · intro w' hSw
        try dsimp only at hSw
        try go_simp
        all_goals first | done | with_reducible rfl | omega | assumption | (simp; omega)
      try simp only [List.getElem_toArray, List.getElem_cons_succ, List.getElem_cons_zero, Act.put, List.setIfInBounds_toArray, List.set_cons_zero, List.set_cons_succ]
      refine wpAnyH_take (i := 11) (v := .bool false) rfl (by kernel_rfl) (by kernel_rfl) (by kernel_rfl) (fun _ _ _ h => h) (Or.inl ⟨by rfl, ?_⟩) (by assumption) ?_
      · intro w' hSw
        try dsimp only at hSw
        try go_simp
        all_goals first | done | with_reducible rfl | omega | assumption | (simp; omega)
      try simp only [List.getElem_toArray, List.getElem_cons_succ, List.getElem_cons_zero, Act.put, List.setIfInBounds_toArray, List.set_cons_zero, List.set_cons_succ]
      refine wpAnyH_take (i := 12) (v := ?_) rfl (by kernel_rfl) (by kernel_rfl) (by kernel_rfl) (fun _ _ _ h => h) (Or.inl ⟨by rfl, ?_⟩) (by assumption) ?_
      rotate_left
      · intro w' hSw
        try dsimp only at hSw
        go_simp
        try with_reducible rfl
      try simp only [List.getElem_toArray, List.getElem_cons_succ, List.getElem_cons_zero, Act.put, List.setIfInBounds_toArray, List.set_cons_zero, List.set_cons_succ]
      refine wpAnyH_take (i := 13) (v := ?_) rfl (by kernel_rfl) (by kernel_rfl) (by kernel_rfl) (fun _ _ _ h => h) (Or.inl ⟨by rfl, ?_⟩) (by assumption) ?_
      rotate_left
      · intro w' hSw
        try dsimp only at hSw
        go_simp
        try with_reducible rfl
      try simp only [List.getElem_toArray, List.getElem_cons_succ, List.getElem_cons_zero, Act.put, List.setIfInBounds_toArray, List.set_cons_zero, List.set_cons_succ]
      refine wpAnyH_take (i := 14) (v := .bool true) rfl (by kernel_rfl) (by kernel_rfl) (by kernel_rfl) (fun _ _ _ h => h) (Or.inl ⟨by rfl, ?_⟩) (by assumption) ?_
      · intro w' hSw
        try dsimp only at hSw
        try go_simp
        all_goals first | done | with_reducible rfl | omega | assumption | (simp; omega)
      try simp only [List.getElem_toArray, List.getElem_cons_succ, List.getElem_cons_zero, Act.put, List.setIfInBounds_toArray, List.set_cons_zero, List.set_cons_succ]
      refine wpAnyH_take (i := 15) (v := .bool true) rfl (by kernel_rfl) (by kernel_rfl) (by kernel_rfl) (fun _ _ _ h => h) (Or.inl ⟨by rfl, ?_⟩) (by assumption) ?_
      · intro w' hSw
        try dsimp only at hSw
        try go_simp
        all_goals first | done | with_reducible rfl | omega | assumption | (simp; omega)
      try simp only [List.getElem_toArray, List.getElem_cons_succ, List.getElem_cons_zero, Act.put, List.setIfInBounds_toArray, List.set_cons_zero, List.set_cons_succ]
      refine wpAnyH_done (by kernel_rfl) ?_ _
      refine NoPanic.normal ?_
      go_wp2_with fail
      refine (cW _).mono ?_
      rintro e y1 ⟨rfl, g1⟩
      go_wp2_with fail
      go_ret
      exact ⟨rfl, fr_step top (fr_step hrD g1)⟩
  have z4 : ¬ 4 ≤ (np : Int) + 1 := by omega
  go_wp2_with fail
  try simp only [Act.put]
  go_cut [49] from 34 to 48 (fun s W => s = .bool false ∧ Fr v W)
  case first =>
    clear cRY cPl hne cW
    rcases hlo with h0 | ⟨t, p, hqt, hpt, -⟩
    · have e1 : ¬ 0 < (q : Int) := by omega
      clear h0 hsame pvp
      refine wp_region_noPanic ?_
      refine wp_region_held_drew (S := fun w' => Fr v w') (by kernel_rfl) hrD (fun hHeld => ?_)
      change wpAnyH _ _ _ _ _ _ _ _ _
      refine wpAnyH_take (i := 0) (v := ?_) rfl (by kernel_rfl) (by kernel_rfl) (by kernel_rfl) (fun _ _ _ h => h) (Or.inl ⟨by rfl, ?_⟩) (by assumption) ?_
      rotate_left
      · intro w' hSw
        try dsimp only at hSw
        go_simp
        try with_reducible rfl
      try simp only [List.getElem_toArray, List.getElem_cons_zero, Act.put, List.setIfInBounds_toArray, List.set_cons_zero, List.set_cons_succ]
      refine wpAnyH_take (i := 1) (v := .bool false) rfl (by kernel_rfl) (by kernel_rfl) (by kernel_rfl) (fun _ _ _ h => h) (Or.inl ⟨by rfl, ?_⟩) (by assumption) ?_
      · intro w' hSw
        try dsimp only at hSw
        try go_simp
        all_goals first | done | with_reducible rfl | omega | assumption | (simp; omega)
      try simp only [List.getElem_toArray, List.getElem_cons_succ, List.getElem_cons_zero, Act.put, List.setIfInBounds_toArray, List.set_cons_zero, List.set_cons_succ]
      refine wpAnyH_take (i := 2) (v := .bool false) rfl (by kernel_rfl) (by kernel_rfl) (by kernel_rfl) (fun _ _ _ h => h) (Or.inl ⟨by rfl, ?_⟩) (by assumption) ?_
      · intro w' hSw
        try dsimp only at hSw
        try go_simp
        all_goals first | done | with_reducible rfl | omega | assumption | (simp; omega)
      try simp only [List.getElem_toArray, List.getElem_cons_succ, List.getElem_cons_zero, Act.put, List.setIfInBounds_toArray, List.set_cons_zero, List.set_cons_succ]
      refine wpAnyH_take (i := 3) (v := undef) rfl (by kernel_rfl) (by kernel_rfl) (by kernel_rfl) (fun _ _ _ h => h) (Or.inr ⟨by rfl, rfl⟩) (by assumption) ?_
      try simp only [List.getElem_toArray, List.getElem_cons_succ, List.getElem_cons_zero, Act.put, List.setIfInBounds_toArray, List.set_cons_zero, List.set_cons_succ]
      refine wpAnyH_take (i := 4) (v := undef) rfl (by kernel_rfl) (by kernel_rfl) (by kernel_rfl) (fun _ _ _ h => h) (Or.inr ⟨by rfl, rfl⟩) (by assumption) ?_
      try simp only [List.getElem_toArray, List.getElem_cons_succ, List.getElem_cons_zero, Act.put, List.setIfInBounds_toArray, List.set_cons_zero, List.set_cons_succ]
      refine wpAnyH_take (i := 5) (v := undef) rfl (by kernel_rfl) (by kernel_rfl) (by kernel_rfl) (fun _ _ _ h => h) (Or.inr ⟨by rfl, rfl⟩) (by assumption) ?_
      try simp only [List.getElem_toArray, List.getElem_cons_succ, List.getElem_cons_zero, Act.put, List.setIfInBounds_toArray, List.set_cons_zero, List.set_cons_succ]
      refine wpAnyH_take (i := 6) (v := undef) rfl (by kernel_rfl) (by kernel_rfl) (by kernel_rfl) (fun _ _ _ h => h) (Or.inr ⟨by rfl, rfl⟩) (by assumption) ?_
      try simp only [List.getElem_toArray, List.getElem_cons_succ, List.getElem_cons_zero, Act.put, List.setIfInBounds_toArray, List.set_cons_zero, List.set_cons_succ]
      refine wpAnyH_take (i := 7) (v := undef) rfl (by kernel_rfl) (by kernel_rfl) (by kernel_rfl) (fun _ _ _ h => h) (Or.inr ⟨by rfl, rfl⟩) (by assumption) ?_
      try simp only [List.getElem_toArray, List.getElem_cons_succ, List.getElem_cons_zero, Act.put, List.setIfInBounds_toArray, List.set_cons_zero, List.set_cons_succ]
      refine wpAnyH_take (i := 8) (v := undef) rfl (by kernel_rfl) (by kernel_rfl) (by kernel_rfl) (fun _ _ _ h => h) (Or.inr ⟨by rfl, rfl⟩) (by assumption) ?_
      try simp only [List.getElem_toArray, List.getElem_cons_succ, List.getElem_cons_zero, Act.put, List.setIfInBounds_toArray, List.set_cons_zero, List.set_cons_succ]
      refine wpAnyH_take (i := 9) (v := undef) rfl (by kernel_rfl) (by kernel_rfl) (by kernel_rfl) (fun _ _ _ h => h) (Or.inr ⟨by rfl, rfl⟩) (by assumption) ?_
      try simp only [List.getElem_toArray, List.getElem_cons_succ, List.getElem_cons_zero, Act.put, List.setIfInBounds_toArray, List.set_cons_zero, List.set_cons_succ]
      refine wpAnyH_take (i := 10) (v := .bool false) rfl (by kernel_rfl) (by kernel_rfl) (by kernel_rfl) (fun _ _ _ h => h) (Or.inl ⟨by rfl, ?_⟩) (by assumption) ?_
      · intro w' hSw
        try dsimp only at hSw
        try go_simp
        all_goals first | done | with_reducible rfl | omega | assumption | (simp; omega)
      try simp only [List.getElem_toArray, List.getElem_cons_succ, List.getElem_cons_zero, Act.put, List.setIfInBounds_toArray, List.set_cons_zero, List.set_cons_succ]
      refine wpAnyH_take (i := 11) (v := .bool false) rfl (by kernel_rfl) (by kernel_rfl) (by kernel_rfl) (fun _ _ _ h => h) (Or.inl ⟨by rfl, ?_⟩) (by assumption) ?_
      · intro w' hSw
        try dsimp only at hSw
        try go_simp
        all_goals first | done | with_reducible rfl | omega | assumption | (simp; omega)
      try simp only [List.getElem_toArray, List.getElem_cons_succ, List.getElem_cons_zero, Act.put, List.setIfInBounds_toArray, List.set_cons_zero, List.set_cons_succ]
      refine wpAnyH_take (i := 12) (v := ?_) rfl (by kernel_rfl) (by kernel_rfl) (by kernel_rfl) (fun _ _ _ h => h) (Or.inl ⟨by rfl, ?_⟩) (by assumption) ?_
      rotate_left
      · intro w' hSw
        try dsimp only at hSw
        go_simp
        try with_reducible rfl
      try simp only [List.getElem_toArray, List.getElem_cons_succ, List.getElem_cons_zero, Act.put, List.setIfInBounds_toArray, List.set_cons_zero, List.set_cons_succ]
      refine wpAnyH_take (i := 13) (v := ?_) rfl (by kernel_rfl) (by kernel_rfl) (by kernel_rfl) (fun _ _ _ h => h) (Or.inl ⟨by rfl, ?_⟩) (by assumption) ?_
      rotate_left
      · intro w' hSw
        try dsimp only at hSw
        go_simp
        try with_reducible rfl
      try simp only [List.getElem_toArray, List.getElem_cons_succ, List.getElem_cons_zero, Act.put, List.setIfInBounds_toArray, List.set_cons_zero, List.set_cons_succ]
      refine wpAnyH_take (i := 14) (v := .bool false) rfl (by kernel_rfl) (by kernel_rfl) (by kernel_rfl) (fun _ _ _ h => h) (Or.inl ⟨by rfl, ?_⟩) (by assumption) ?_
      · intro w' hSw
        try dsimp only at hSw
        try go_simp
        all_goals first | done | with_reducible rfl | omega | assumption | (simp; omega)
      try simp only [List.getElem_toArray, List.getElem_cons_succ, List.getElem_cons_zero, Act.put, List.setIfInBounds_toArray, List.set_cons_zero, List.set_cons_succ]
      refine wpAnyH_take (i := 15) (v := .bool false) rfl (by kernel_rfl) (by kernel_rfl) (by kernel_rfl) (fun _ _ _ h => h) (Or.inl ⟨by rfl, ?_⟩) (by assumption) ?_
      · intro w' hSw
        try dsimp only at hSw
        try go_simp
        all_goals first | done | with_reducible rfl | omega | assumption | (simp; omega)
      try simp only [List.getElem_toArray, List.getElem_cons_succ, List.getElem_cons_zero, Act.put, List.setIfInBounds_toArray, List.set_cons_zero, List.set_cons_succ]
      refine wpAnyH_done (by kernel_rfl) ?_ _
      refine NoPanic.normal ?_
      go_wp2_with fail
      go_meet
      exact ⟨rfl, by assumption⟩
    · obtain ⟨b2, off2, rfl, lP, qE⟩ := pvp hpt
      rw [decide_eq_false (fun e => hsame ⟨t, p, hqt, hpt, e⟩)] at qE
      have e1 : 0 < (q : Int) := by omega
      have hw1 : IntKind.i64.wrap ((q : Int) - 1) = (t : Int) := by rw [IntKind.wrap_i64]; omega
      have htn : t < np := by omega
      clear hqt hpt hsame pvp
      refine wp_region_noPanic ?_
      refine wp_region_held_drew (S := fun w' => Fr v w') (by kernel_rfl) hrD (fun hHeld => ?_)
      change wpAnyH _ _ _ _ _ _ _ _ _
      refine wpAnyH_take (i := 0) (v := ?_) rfl (by kernel_rfl) (by kernel_rfl) (by kernel_rfl) (fun _ _ _ h => h) (Or.inl ⟨by rfl, ?_⟩) (by assumption) ?_
      rotate_left
      · intro w' hSw
        try dsimp only at hSw
        go_simp
        try with_reducible rfl
      try simp only [List.getElem_toArray, List.getElem_cons_zero, Act.put, List.setIfInBounds_toArray, List.set_cons_zero, List.set_cons_succ]
      refine wpAnyH_take (i := 1) (v := .bool true) rfl (by kernel_rfl) (by kernel_rfl) (by kernel_rfl) (fun _ _ _ h => h) (Or.inl ⟨by rfl, ?_⟩) (by assumption) ?_
      · intro w' hSw
        try dsimp only at hSw
        try go_simp
        all_goals first | done | with_reducible rfl | omega | assumption | (simp; omega)
      try simp only [List.getElem_toArray, List.getElem_cons_succ, List.getElem_cons_zero, Act.put, List.setIfInBounds_toArray, List.set_cons_zero, List.set_cons_succ]
      refine wpAnyH_take (i := 2) (v := .bool true) rfl (by kernel_rfl) (by kernel_rfl) (by kernel_rfl) (fun _ _ _ h => h) (Or.inl ⟨by rfl, ?_⟩) (by assumption) ?_
      · intro w' hSw
        try dsimp only at hSw
        try go_simp
        all_goals first | done | with_reducible rfl | omega | assumption | (simp; omega)
      try simp only [List.getElem_toArray, List.getElem_cons_succ, List.getElem_cons_zero, Act.put, List.setIfInBounds_toArray, List.set_cons_zero, List.set_cons_succ]
      refine wpAnyH_take (i := 3) (v := ?_) rfl (by kernel_rfl) (by kernel_rfl) (by kernel_rfl) (fun _ _ _ h => h) (Or.inl ⟨by rfl, ?_⟩) (by assumption) ?_
      rotate_left
      · intro w' hSw
        try dsimp only at hSw
        go_simp
        try with_reducible rfl
      try simp only [List.getElem_toArray, List.getElem_cons_succ, List.getElem_cons_zero, Act.put, List.setIfInBounds_toArray, List.set_cons_zero, List.set_cons_succ]
      refine wpAnyH_take (i := 4) (v := ?_) rfl (by kernel_rfl) (by kernel_rfl) (by kernel_rfl) (fun _ _ _ h => h) (Or.inl ⟨by rfl, ?_⟩) (by assumption) ?_
      rotate_left
      · intro w' hSw
        try dsimp only at hSw
        go_simp
        try with_reducible rfl
      try simp only [List.getElem_toArray, List.getElem_cons_succ, List.getElem_cons_zero, Act.put, List.setIfInBounds_toArray, List.set_cons_zero, List.set_cons_succ]
      refine wpAnyH_take (i := 5) (v := ?_) rfl (by kernel_rfl) (by kernel_rfl) (by kernel_rfl) (fun _ _ _ h => h) (Or.inl ⟨by rfl, ?_⟩) (by assumption) ?_
      rotate_left
      · intro w' hSw
        try dsimp only at hSw
        go_simp
        try with_reducible rfl
      try simp only [List.getElem_toArray, List.getElem_cons_succ, List.getElem_cons_zero, Act.put, List.setIfInBounds_toArray, List.set_cons_zero, List.set_cons_succ]
      refine wpAnyH_take (i := 6) (v := ?_) rfl (by kernel_rfl) (by kernel_rfl) (by kernel_rfl) (fun _ _ _ h => h) (Or.inl ⟨by rfl, ?_⟩) (by assumption) ?_
      rotate_left
      · intro w' hSw
        try dsimp only at hSw
        go_simp
        try with_reducible rfl
      try simp only [List.getElem_toArray, List.getElem_cons_succ, List.getElem_cons_zero, Act.put, List.setIfInBounds_toArray, List.set_cons_zero, List.set_cons_succ]
      refine wpAnyH_take (i := 7) (v := ?_) rfl (by kernel_rfl) (by kernel_rfl) (by kernel_rfl) (fun _ _ _ h => h) (Or.inl ⟨by rfl, ?_⟩) (by assumption) ?_
      rotate_left
      · intro w' hSw
        try dsimp only at hSw
        go_simp
        try with_reducible rfl
      try simp only [List.getElem_toArray, List.getElem_cons_succ, List.getElem_cons_zero, Act.put, List.setIfInBounds_toArray, List.set_cons_zero, List.set_cons_succ]
      refine wpAnyH_take (i := 8) (v := ?_) rfl (by kernel_rfl) (by kernel_rfl) (by kernel_rfl) (fun _ _ _ h => h) (Or.inl ⟨by rfl, ?_⟩) (by assumption) ?_
      rotate_left
      · intro w' hSw
        try dsimp only at hSw
        go_simp
        try with_reducible rfl
      try simp only [List.getElem_toArray, List.getElem_cons_succ, List.getElem_cons_zero, Act.put, List.setIfInBounds_toArray, List.set_cons_zero, List.set_cons_succ]
      refine wpAnyH_take (i := 9) (v := .bool false) rfl (by kernel_rfl) (by kernel_rfl) (by kernel_rfl) (fun _ _ _ h => h) (Or.inl ⟨by rfl, ?_⟩) (by assumption) ?_
      · intro w' hSw
        try dsimp only at hSw
        try go_simp
        all_goals first | done | with_reducible rfl | omega | assumption | (simp; omega)
      try simp only [List.getElem_toArray, List.getElem_cons_succ, List.getElem_cons_zero, Act.put, List.setIfInBounds_toArray, List.set_cons_zero, List.set_cons_succ]
      refine wpAnyH_take (i := 10) (v := .bool false) rfl (by kernel_rfl) (by kernel_rfl) (by kernel_rfl) (fun _ _ _ h => h) (Or.inl ⟨by rfl, ?_⟩) (by assumption) ?_
      · intro w' hSw
        try dsimp only at hSw
        try go_simp
        all_goals first | done | with_reducible rfl | omega | assumption | (simp; omega)
      try simp only [List.getElem_toArray, List.getElem_cons_succ, List.getElem_cons_zero, Act.put, List.setIfInBounds_toArray, List.set_cons_zero, List.set_cons_succ]
      refine wpAnyH_take (i := 11) (v := .bool false) rfl (by kernel_rfl) (by kernel_rfl) (by kernel_rfl) (fun _ _ _ h => h) (Or.inl ⟨by rfl, ?_⟩) (by assumption) ?_
      · intro w' hSw
        try dsimp only at hSw
        try go_simp
        all_goals first | done | with_reducible rfl | omega | assumption | (simp; omega)
      try simp only [List.getElem_toArray, List.getElem_cons_succ, List.getElem_cons_zero, Act.put, List.setIfInBounds_toArray, List.set_cons_zero, List.set_cons_succ]
      refine wpAnyH_take (i := 12) (v := ?_) rfl (by kernel_rfl) (by kernel_rfl) (by kernel_rfl) (fun _ _ _ h => h) (Or.inl ⟨by rfl, ?_⟩) (by assumption) ?_
      rotate_left
      · intro w' hSw
        try dsimp only at hSw
        go_simp
        try with_reducible rfl
      try simp only [List.getElem_toArray, List.getElem_cons_succ, List.getElem_cons_zero, Act.put, List.setIfInBounds_toArray, List.set_cons_zero, List.set_cons_succ]
      refine wpAnyH_take (i := 13) (v := ?_) rfl (by kernel_rfl) (by kernel_rfl) (by kernel_rfl) (fun _ _ _ h => h) (Or.inl ⟨by rfl, ?_⟩) (by assumption) ?_
      rotate_left
      · intro w' hSw
        try dsimp only at hSw
        go_simp
        try with_reducible rfl
      try simp only [List.getElem_toArray, List.getElem_cons_succ, List.getElem_cons_zero, Act.put, List.setIfInBounds_toArray, List.set_cons_zero, List.set_cons_succ]
      refine wpAnyH_take (i := 14) (v := .bool false) rfl (by kernel_rfl) (by kernel_rfl) (by kernel_rfl) (fun _ _ _ h => h) (Or.inl ⟨by rfl, ?_⟩) (by assumption) ?_
      · intro w' hSw
        try dsimp only at hSw
        try go_simp
        all_goals first | done | with_reducible rfl | omega | assumption | (simp; omega)
      try simp only [List.getElem_toArray, List.getElem_cons_succ, List.getElem_cons_zero, Act.put, List.setIfInBounds_toArray, List.set_cons_zero, List.set_cons_succ]
      refine wpAnyH_take (i := 15) (v := .bool false) rfl (by kernel_rfl) (by kernel_rfl) (by kernel_rfl) (fun _ _ _ h => h) (Or.inl ⟨by rfl, ?_⟩) (by assumption) ?_
      · intro w' hSw
        try dsimp only at hSw
        try go_simp
        all_goals first | done | with_reducible rfl | omega | assumption | (simp; omega)
      try simp only [List.getElem_toArray, List.getElem_cons_succ, List.getElem_cons_zero, Act.put, List.setIfInBounds_toArray, List.set_cons_zero, List.set_cons_succ]
      refine wpAnyH_done (by kernel_rfl) ?_ _
      refine NoPanic.normal ?_
      go_wp2_with fail
      go_meet
      exact ⟨rfl, by assumption⟩
  case rest =>
    obtain ⟨rfl, hVw⟩ := hcut
    replace hk := keep (Own.below hk.out hVw (Nat.le_refl _))
    replace hp := keep (Own.below hp.out hVw (Nat.le_refl _))
    replace lX := fun W (h : Fr wc W) => lX W (fr_step hVw h)
    replace lY := fun W (h : Fr wc W) => lY W (fr_step hVw h)
    replace top := fr_step top hVw
    have hne2 := keep hne
    have hsz : Hid (np ≤ 2) := keep (by omega)
    clear hVw vv hrD pvp hsame hfull hne hlo
    go_wp2_with fail
    refine (cPl _).mono ?_
    rintro e u1 ⟨rfl, g1⟩
    replace hk := keep (Own.below hk.out g1 (Nat.le_refl _))
    replace hp := keep (Own.below hp.out g1 (Nat.le_refl _))
    replace lX := fun W (h : Fr u1 W) => lX W (fr_step g1 h)
    replace lY := fun W (h : Fr u1 W) => lY W (fr_step g1 h)
    replace top := fr_step top g1
    have u11 := fr_refl u1
    clear cPl g1
    have op' : Hid (OkP (insV (np + 1) ps q x)) := keep (by
      have h := ins_okP Hop.out Hx.out.1 Hx.out.2 (fun p h0 hp' => hne2.out p (by rw [← Hq.out]; exact h0) (by rw [← Hq.out]; exact hp'))
      rw [Hq.out] at h
      rw [insV_yes (by omega)]
      exact h)
    have hko : Hid (KidsOk (insI ks (q : Int) (230 + idd))) := keep (by rw [← Hks0.out]; exact ins_kidsOk hsz.out hq ⟨by omega, by omega⟩)
    have hm := ins_math (f := f) (c := code y) (id := 230 + idd) Hnp.out Hop.out (by rw [Hq.out]; exact op'.out) (by omega) np3
    rw [Hq.out, Hks0.out] at hm
    obtain ⟨was, is, ki, m1, m2, m3, m4, m5⟩ := hm
    have hli : Hid ((insI ks (q : Int) (230 + idd)).length = np + 2) := keep (by rw [insI_length (by rw [Hkl.out]; omega), Hkl.out])
    have hlv : Hid ((insV (np + 1) ps (q : Int) x).length = np + 1) := keep (by rw [insV_yes (by omega)]; simp; have := Hnp.out; omega)
    have cI : Calls Try.prog 34 #[.slice A (np + 1) c, .slice A2 np c2, .int .i64 (q : Int), kv x, .int .i64 (230 + idd)] u1 fun e w' => ∃ A3 c3 A4 c4, e = .returned (.tuple #[.slice A3 (np + 2) c3, .slice A4 (np + 1) c4]) ∧ Hid (Own w' 0 3 1 A3 (np + 2) c3 (ints (insI ks (q : Int) (230 + idd)))) ∧ Hid (Own w' 0 27 9 A4 (np + 1) c4 (rows kc (insV (np + 1) ps (q : Int) x))) ∧ Fr u1 w' := by
      have h := finsert_at (c := c) (c2 := c2) (x := x) (i := (q : Int)) (id := 230 + idd) hk.out.has (Nat.le_refl _) Hkl.out hk.out.cap (by omega) hp.out.has (Nat.le_refl _) Hnp.out hp.out.cap rfl (by unfold Is64; omega) u11
      unfold InsOut OwnI OwnK at h
      rw [hli.out, hlv.out] at h
      exact h
    have hch := chkB_yes hko.out (by rw [hlv.out, hli.out]) op'.out
    have cCh : ∀ W A c A2 c2, Own W 0 3 1 A (np + 2) c (ints (insI ks (q : Int) (230 + idd))) → Own W 0 27 9 A2 (np + 1) c2 (rows kc (insV (np + 1) ps (q : Int) x)) → Calls Try.prog 40 #[.slice A (np + 2) c, .slice A2 (np + 1) c2] W fun e w' => e = .returned (.bool true) ∧ Fr W w' := fun W A c A2 c2 h1 h2 => by
      have := fcheck_at (ck := c) (c := c2) h1.has (Nat.le_refl _) hli.out (by omega) h1.cap h2.has (Nat.le_refl _) hlv.out (by omega) op'.out.wfk
      rwa [hch] at this
    have cFK : ∀ W A c, Own W 0 27 9 A (np + 1) c (rows kc (insV (np + 1) ps (q : Int) x)) → Calls Try.prog 41 #[.slice A (np + 1) c, kv y] W fun e w' => e = .returned (.int .i64 (kidN (insV (np + 1) ps (q : Int) x) (code y) : Nat)) ∧ Fr W w' := fun W A c h => kid_at h.has (Nat.le_refl _) hlv.out (by omega) op'.out Hy.out.1 Hy.out.2 (fr_refl W)
    have cPl2 : ∀ W, Calls Try.prog 47 #[.int .i64 (kidN (insV (np + 1) ps (q : Int) x) (code y) : Nat), .int .i64 ((np : Int) + 2)] W fun e w' => e = .returned (.int .i64 (kidN (insV (np + 1) ps (q : Int) x) (code y) : Nat)) ∧ Fr W w' := fun W => by
      have h := law_place (kidN (insV (np + 1) ps (q : Int) x) (code y) : Nat) (np + 2) (by unfold Is64; omega) (by omega) (by omega) W
      rw [show (((np + 2 : Nat) : Int)) = (np : Int) + 2 by omega, Int.emod_eq_of_lt (by omega) (by omega)] at h
      exact h
    have hjn := kidN_le ps (code y)
    rw [Hnp.out] at hjn
    have M5 := keep m5
    have M1 := keep m1
    have M2 := keep m2
    have M3 := keep m3
    have cC : ∀ W, Calls Try.prog 32 #[kv y, kv x] W fun e w' => e = .returned (.int .i64 (cmpK y x)) ∧ Fr W w' := fun W => rkcomp_at Hy.out.1 Hx.out.1 Hy.out.2 Hx.out.2 (fr_refl W)
    generalize insI ks (q : Int) (230 + idd) = ks' at *
    generalize insV (np + 1) ps (q : Int) x = ps' at *
    generalize kidN ps' (code y) = jj at *
    generalize kidN ps (code y) = j at *
    clear m1 m2 m3 m5 hch hko op' hsz hne2
    go_wp2_with fail
    refine cI.mono ?_
    rintro e u2 ⟨A3, c3, A4, c4, rfl, o3, o4, g2⟩
    replace hk := keep (Own.below hk.out g2 (Nat.le_refl _))
    replace hp := keep (Own.below hp.out g2 (Nat.le_refl _))
    replace lX := fun W (h : Fr u2 W) => lX W (fr_step g2 h)
    replace lY := fun W (h : Fr u2 W) => lY W (fr_step g2 h)
    replace top := fr_step top g2
    clear cI g2 u11
    go_wp2_with fail
    refine (cCh _ _ _ _ _ o3.out o4.out).mono ?_
    rintro e u ⟨rfl, g3⟩
    replace hk := keep (Own.below hk.out g3 (Nat.le_refl _))
    replace hp := keep (Own.below hp.out g3 (Nat.le_refl _))
    replace o3 := keep (Own.below o3.out g3 (Nat.le_refl _))
    replace o4 := keep (Own.below o4.out g3 (Nat.le_refl _))
    replace lX := fun W (h : Fr u W) => lX W (fr_step g3 h)
    replace lY := fun W (h : Fr u W) => lY W (fr_step g3 h)
    replace top := fr_step top g3
    have uu := fr_refl u
    have huD := fr_drew uu
    obtain ⟨bk, fk, rfl, cWas⟩ := own_int_at hk.out M1.out
    obtain ⟨bk2, fk2, ek, cKi⟩ := own_int_at hk.out M3.out
    injection ek with ek
    injection ek with ek1 ek2
    subst ek1 ek2
    obtain ⟨b3, f3, rfl, cIs⟩ := own_int_at o3.out M2.out
    have dRY : ∀ W, Fr u W → Calls Try.prog 42 #[.slice A2 np c2, kv y] W fun e w' => e = .returned (.int .i64 (j : Int)) ∧ Fr u w' := fun W h => (cRY W _ _ (Own.below hp.out h (Nat.le_refl _))).mono fun e w' hh => ⟨hh.1, fr_step h hh.2⟩
    have dFK : ∀ W, Fr u W → Calls Try.prog 41 #[.slice A4 (np + 1) c4, kv y] W fun e w' => e = .returned (.int .i64 (jj : Int)) ∧ Fr u w' := fun W h => (cFK W _ _ (Own.below o4.out h (Nat.le_refl _))).mono fun e w' hh => ⟨hh.1, fr_step h hh.2⟩
    have dPl : ∀ W, Fr u W → Calls Try.prog 47 #[.int .i64 (jj : Int), .int .i64 ((np : Int) + 2)] W fun e w' => e = .returned (.int .i64 (jj : Int)) ∧ Fr u w' := fun W h => (cPl2 W).mono fun e w' hh => ⟨hh.1, fr_step h hh.2⟩
    have j1 : (j : Int) < (np : Int) + 1 := by omega
    have j2 : (jj : Int) < (np : Int) + 2 := by omega
    have j3 : (q : Int) < (np : Int) + 1 := by omega
    have j4 : j < np + 1 := by omega
    have j5 : jj < np + 2 := by omega
    have j6 : q < np + 1 := by omega
    clear cCh cRY cFK cPl2 g3
    go_wp2_with fail
    refine wp_region_noPanic ?_
    refine wp_region_held_drew (S := fun w' => Fr u w') (by kernel_rfl) huD (fun hHeld => ?_)
    change wpAnyH _ _ _ _ _ _ _ _ _
    refine wpAnyH_take (i := 0) (v := ?_) rfl (by kernel_rfl) (by kernel_rfl) (by kernel_rfl) (fun _ _ _ h => h) (Or.inl ⟨by rfl, ?_⟩) (by assumption) ?_
    rotate_left
    · intro w' hSw
      try dsimp only at hSw
      go_simp
      try with_reducible rfl
    try simp only [List.getElem_toArray, List.getElem_cons_zero, Act.put, List.setIfInBounds_toArray, List.set_cons_zero, List.set_cons_succ]
    refine wpAnyH_take (i := 1) (v := ?_) rfl (by kernel_rfl) (by kernel_rfl) (by kernel_rfl) (fun _ _ _ h => h) (Or.inl ⟨by rfl, ?_⟩) (by assumption) ?_
    rotate_left
    · intro w' hSw
      try dsimp only at hSw
      go_simp
      try with_reducible rfl
    try simp only [List.getElem_toArray, List.getElem_cons_succ, List.getElem_cons_zero, Act.put, List.setIfInBounds_toArray, List.set_cons_zero, List.set_cons_succ]
    refine wpAnyH_take (i := 2) (v := ?_) rfl (by kernel_rfl) (by kernel_rfl) (by kernel_rfl) (fun _ _ _ h => h) (Or.inl ⟨by rfl, ?_⟩) (by assumption) ?_
    rotate_left
    · intro w' hSw
      try dsimp only at hSw
      go_simp
      try with_reducible rfl
    try simp only [List.getElem_toArray, List.getElem_cons_succ, List.getElem_cons_zero, Act.put, List.setIfInBounds_toArray, List.set_cons_zero, List.set_cons_succ]
    refine wpAnyH_take (i := 6) (v := ?_) rfl (by kernel_rfl) (by kernel_rfl) (by kernel_rfl) (fun _ _ _ h => h) (Or.inl ⟨by rfl, ?_⟩) (by assumption) ?_
    rotate_left
    · intro w' hSw
      try dsimp only at hSw
      go_simp
      try with_reducible rfl
    try simp only [List.getElem_toArray, List.getElem_cons_succ, List.getElem_cons_zero, Act.put, List.setIfInBounds_toArray, List.set_cons_zero, List.set_cons_succ]
    refine wpAnyH_take (i := 7) (v := ?_) rfl (by kernel_rfl) (by kernel_rfl) (by kernel_rfl) (fun _ _ _ h => h) (Or.inl ⟨by rfl, ?_⟩) (by assumption) ?_
    rotate_left
    · intro w' hSw
      try dsimp only at hSw
      go_simp
      try with_reducible rfl
    try simp only [List.getElem_toArray, List.getElem_cons_succ, List.getElem_cons_zero, Act.put, List.setIfInBounds_toArray, List.set_cons_zero, List.set_cons_succ]
    refine wpAnyH_take (i := 8) (v := ?_) rfl (by kernel_rfl) (by kernel_rfl) (by kernel_rfl) (fun _ _ _ h => h) (Or.inl ⟨by rfl, ?_⟩) (by assumption) ?_
    rotate_left
    · intro w' hSw
      try dsimp only at hSw
      go_simp
      try with_reducible rfl
    try simp only [List.getElem_toArray, List.getElem_cons_succ, List.getElem_cons_zero, Act.put, List.setIfInBounds_toArray, List.set_cons_zero, List.set_cons_succ]
    refine wpAnyH_take (i := 10) (v := ?_) rfl (by kernel_rfl) (by kernel_rfl) (by kernel_rfl) (fun _ _ _ h => h) (Or.inl ⟨by rfl, ?_⟩) (by assumption) ?_
    rotate_left
    · intro w' hSw
      try dsimp only at hSw
      go_simp
      try with_reducible rfl
    try simp only [List.getElem_toArray, List.getElem_cons_succ, List.getElem_cons_zero, Act.put, List.setIfInBounds_toArray, List.set_cons_zero, List.set_cons_succ]
    refine wpAnyH_take (i := 11) (v := ?_) rfl (by kernel_rfl) (by kernel_rfl) (by kernel_rfl) (fun _ _ _ h => h) (Or.inl ⟨by rfl, ?_⟩) (by assumption) ?_
    rotate_left
    · intro w' hSw
      try dsimp only at hSw
      go_simp
      try with_reducible rfl
    try simp only [List.getElem_toArray, List.getElem_cons_succ, List.getElem_cons_zero, Act.put, List.setIfInBounds_toArray, List.set_cons_zero, List.set_cons_succ]
    refine wpAnyH_ready (rs := [3]) (by kernel_rfl) (by simp) ?_
    refine AllReadyH.cons rfl (fun K hK0 => ?_) AllReadyH.nil
    go_simp
    refine (dRY _ (by assumption)).mono ?_
    rintro e y3 ⟨rfl, zy3⟩
    go_simp
    refine hK0.out _ _ zy3 (fun _ => ?_)
    clear hK0 K
    try simp only [List.getElem_toArray, List.getElem_cons_succ, List.getElem_cons_zero, Act.put, List.setIfInBounds_toArray, List.set_cons_zero, List.set_cons_succ]
    refine wpAnyH_take (i := 4) (v := ?_) rfl (by kernel_rfl) (by kernel_rfl) (by kernel_rfl) (fun _ _ _ h => h) (Or.inl ⟨by rfl, ?_⟩) (by assumption) ?_
    rotate_left
    · intro w' hSw
      try dsimp only at hSw
      go_simp
      try with_reducible rfl
    try simp only [List.getElem_toArray, List.getElem_cons_succ, List.getElem_cons_zero, Act.put, List.setIfInBounds_toArray, List.set_cons_zero, List.set_cons_succ]
    refine wpAnyH_take (i := 5) (v := ?_) rfl (by kernel_rfl) (by kernel_rfl) (by kernel_rfl) (fun _ _ _ h => h) (Or.inl ⟨by rfl, ?_⟩) (by assumption) ?_
    rotate_left
    · intro w' hSw
      try dsimp only at hSw
      go_simp
      try with_reducible rfl
    try simp only [List.getElem_toArray, List.getElem_cons_succ, List.getElem_cons_zero, Act.put, List.setIfInBounds_toArray, List.set_cons_zero, List.set_cons_succ]
    refine wpAnyH_ready (rs := [9]) (by kernel_rfl) (by simp) ?_
    refine AllReadyH.cons rfl (fun K hK0 => ?_) AllReadyH.nil
    go_simp
    refine (dFK _ (by assumption)).mono ?_
    rintro e y4 ⟨rfl, zy4⟩
    go_simp
    refine hK0.out _ _ zy4 (fun _ => ?_)
    clear hK0 K
    try simp only [List.getElem_toArray, List.getElem_cons_succ, List.getElem_cons_zero, Act.put, List.setIfInBounds_toArray, List.set_cons_zero, List.set_cons_succ]
    refine wpAnyH_ready (rs := [12]) (by kernel_rfl) (by simp) ?_
    refine AllReadyH.cons rfl (fun K hK0 => ?_) AllReadyH.nil
    go_simp
    refine (dPl _ (by assumption)).mono ?_
    rintro e y5 ⟨rfl, zy5⟩
    go_simp
    refine hK0.out _ _ zy5 (fun _ => ?_)
    clear hK0 K
    try simp only [List.getElem_toArray, List.getElem_cons_succ, List.getElem_cons_zero, Act.put, List.setIfInBounds_toArray, List.set_cons_zero, List.set_cons_succ]
    refine wpAnyH_take (i := 13) (v := ?_) rfl (by kernel_rfl) (by kernel_rfl) (by kernel_rfl) (fun _ _ _ h => h) (Or.inl ⟨by rfl, ?_⟩) (by assumption) ?_
    rotate_left
    · intro w' hSw
      try dsimp only at hSw
      go_simp
      try with_reducible rfl
    try simp only [List.getElem_toArray, List.getElem_cons_succ, List.getElem_cons_zero, Act.put, List.setIfInBounds_toArray, List.set_cons_zero, List.set_cons_succ]
    refine wpAnyH_take (i := 14) (v := ?_) rfl (by kernel_rfl) (by kernel_rfl) (by kernel_rfl) (fun _ _ _ h => h) (Or.inl ⟨by rfl, ?_⟩) (by assumption) ?_
    rotate_left
    · intro w' hSw
      try dsimp only at hSw
      go_simp
      try with_reducible rfl
    try simp only [List.getElem_toArray, List.getElem_cons_succ, List.getElem_cons_zero, Act.put, List.setIfInBounds_toArray, List.set_cons_zero, List.set_cons_succ]
    refine wpAnyH_take (i := 15) (v := ?_) rfl (by kernel_rfl) (by kernel_rfl) (by kernel_rfl) (fun _ _ _ h => h) (Or.inl ⟨by rfl, ?_⟩) (by assumption) ?_
    rotate_left
    · intro w' hSw
      try dsimp only at hSw
      go_simp
      try with_reducible rfl
    try simp only [List.getElem_toArray, List.getElem_cons_succ, List.getElem_cons_zero, Act.put, List.setIfInBounds_toArray, List.set_cons_zero, List.set_cons_succ]
    refine wpAnyH_take (i := 16) (v := ?_) rfl (by kernel_rfl) (by kernel_rfl) (by kernel_rfl) (fun _ _ _ h => h) (Or.inl ⟨by rfl, ?_⟩) (by assumption) ?_
    rotate_left
    · intro w' hSw
      try dsimp only at hSw
      go_simp
      try with_reducible rfl
    try simp only [List.getElem_toArray, List.getElem_cons_succ, List.getElem_cons_zero, Act.put, List.setIfInBounds_toArray, List.set_cons_zero, List.set_cons_succ]
    refine wpAnyH_done (by kernel_rfl) ?_ _
    refine NoPanic.normal ?_
    clear dRY dFK dPl
    have top2 : Fr w y5 := fr_step top zy5
    have cW1 := cW
    rcases M5.out with ⟨hwk, ⟨hid, hc⟩ | ⟨hiw, hnid, hc⟩⟩ | ⟨hwk, hiw⟩
    · have b1 : (was == ki) = true := by simpa using hwk
      have b2 : (is == 230 + idd) = true := by simpa using hid
      have b3 : 0 ≤ cmpK y x := cmpK_ge.2 hc
      clear hwk hid hc
      go_wp2_with fail
      refine (cC _).mono ?_
      rintro e y6 ⟨rfl, g6⟩
      go_wp2_with fail
      refine (cW _).mono ?_
      rintro e y7 ⟨rfl, g7⟩
      go_wp2_with fail
      go_ret
      exact ⟨rfl, fr_step top2 (fr_step g6 g7)⟩
    · have b1 : (was == ki) = true := by simpa using hwk
      have b2 : (is == 230 + idd) = false := by simpa using hnid
      have b3 : ¬ 0 ≤ cmpK y x := fun h => by have := cmpK_ge.1 h; omega
      have b4 : (is == was) = true := by simpa using hiw
      have b5 : decide (0 ≤ cmpK y x) = false := decide_eq_false b3
      clear hwk hiw hnid hc
      go_wp2_with fail
      refine (cC _).mono ?_
      rintro e y6 ⟨rfl, g6⟩
      go_wp2_with fail
      refine (cW _).mono ?_
      rintro e y7 ⟨rfl, g7⟩
      go_wp2_with fail
      go_ret
      exact ⟨rfl, fr_step top2 (fr_step g6 g7)⟩
    · have b1 : (was == ki) = false := by simpa using hwk
      have b4 : (is == was) = true := by simpa using hiw
      clear hwk hiw
      go_wp2_with fail
      refine (cW _).mono ?_
      rintro e y7 ⟨rfl, g7⟩
      go_wp2_with fail
      go_ret
      exact ⟨rfl, fr_step top2 g7⟩
end Go.Proofs.Ytnfoebcfhldemaa
