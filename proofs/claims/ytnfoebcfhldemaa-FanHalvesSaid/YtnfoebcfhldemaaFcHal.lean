/- FanHalves, walked. -/
import Derived.Test.YtnfoebcfhldemaaFnJ
namespace Go.Proofs.Ytnfoebcfhldemaa
set_option maxRecDepth 100000
open Go.RowKit
set_option linter.unusedVariables false
attribute [local go_sem ↓] key_ld msg_ld
theorem step_append_valsG {P : Program} {w0 w : World} {t e size bytes : Nat} {ops : Array Oper} {o : Oper} {a : Act} {K : Act → World → Prop} {Q : Exit → Act → World → Prop} {F : Prop} (E : Elem P e size bytes) (ht : P.underlying t = some (.slice e)) (hsz : 0 < size) (hw : Region.wanted o (yielded ops a.tmps) = true) (s x : Operand)
    (hop : o.op = .call { callee := .builtin .append, args := #[s, x], argTypes := #[t, t] }) (h0 : Fr w0 w)
    (A : Option Addr) (n c1 : Nat) (xs : List Value) (hs : a.eval s = .slice A n c1) (ho : Own w w0.heap.size e size A n c1 xs)
    (C : Nat) (A2 : Option Addr) (m c2 : Nat) (news : List Value) (hx : a.eval x = .slice A2 m c2) (hl : news.length = m * size) (hn : Has w C A2 news) (h1 : One news)
    (h63 : n + m ≤ maxLen) (hbytes : (n + m) * bytes ≤ 140737488355328)
    (hK : ∀ A' c' w', Own w' w0.heap.size e size A' (n + m) c' (xs ++ news) → Fr w0 w' → K (a.put o.dst (.slice A' (n + m) c')) w') :
    if Region.wanted o (yielded ops a.tmps) = true then Oper.wp P o a w K Q else F := by
  obtain ⟨i, z, hi, hz, hsize, hby, hzs⟩ := E.row
  obtain ⟨A', c', w', hr, h2, h3, h4⟩ := run_append_has (P := P) w w0.heap.size t o.type e i z size bytes ht hi hz hsize hby hzs hsz A n c1 xs ho C A2 m c2 news hl hn h1 h63 hbytes h0.size
  exact step_append_run hw s x t t hop _ _ hs hx hr (hK A' c' w' h2 (below_grown h0 ho h3 h0.size (Nat.le_refl _)))
theorem own_key_at2 {W : World} {A : Option Addr} {n c : Nat} {l : List RK} (ho : Own W 0 27 9 A n c (rows kc l)) {j : Nat} {k : RK} (hk : l[j]? = some k) : ∃ b off, A = some ⟨b, off, none⟩ ∧ ∀ w', Fr W w' → (ldS 27 (.pointer (some ⟨b, off + j * 9, none⟩))).run Try.prog w' = .ok (.agg (kc k).toArray) w' := by
  obtain ⟨b, off, e, hb, hr⟩ := has_rows ho.has (kwid l) (by decide) (by intro e; rw [e] at hk; simp at hk)
  exact ⟨b, off, e, fun w' h => elem_ld keyS hr (kwid l) hb hk w' h⟩
set_option maxHeartbeats 8000000 in
theorem fanHalves_core {w : World} {A0 : Option Addr} {n0 c0 : Nat} {ns : List Int} {f ky : Int} (hl0 : Has w w.heap.size A0 (ns.map (Value.int .i64))) (hn0 : ns.length = n0) (hns : ∀ z ∈ ns, Is64 z) (hby : n0 * 8 ≤ 140737488351232) (hf : Is64 f) (hky : Is64 ky) :
    Calls Try.prog 9 #[.slice A0 n0 c0, .int .i64 f, .int .i64 ky] w fun e w' => e = .returned (.bool true) ∧ Below w.heap.size w w' := by
  have hns' : ∀ z ∈ ([24, 16, 8, 32] ++ ns : List Int), Is64 z := fun z hz => by
    rcases List.mem_append.1 hz with h | h
    · simp at h; rcases h with rfl | rfl | rfl | rfl <;> unfold Is64 <;> omega
    · exact hns z h
  have cT := fun W A' c' (ho : Own W w.heap.size 3 1 A' (4 + n0) c' (ints [24, 16, 8, 32] ++ ints ns)) => law_two (w := W) (A := A') (n := 4 + n0) (c := c') (ns := [24, 16, 8, 32] ++ ns) (f := f) (by have := ho.has; rw [← ints_app] at this; exact this) (Nat.le_refl _) (by rw [List.length_append, hn0]; rfl) hns' (by unfold maxLen; omega) hf (by omega)
  have op := pivsL_ok (16 :: ([24, 16, 8, 32] ++ ns)) 3
  have np1 := pivs_one ([24, 16, 8, 32] ++ ns)
  have np3 := pivs_three ([24, 16, 8, 32] ++ ns)
  have cX := fun W => law_key_at (W0 := W) (W := W) hky (fr_refl W)
  have wx := lawK_wf ky
  have ox := lawK_ok ky
  have cW := fun W => awake8_at (W0 := W) (W := W) (fr_refl W)
  generalize pivsL (16 :: ([24, 16, 8, 32] ++ ns)) 3 = ps at *
  generalize lawK ky = x at *
  generalize hnp : ps.length = np at *
  have hkl := kidsL_len np f
  have Hnp := keep hnp
  have Hkl := keep hkl
  have Hop := keep op
  have Hx := keep (And.intro wx ox)
  unfold TwoOut at cT
  rw [hkl, hnp] at cT
  generalize hks0 : kidsL np f = ks at *
  have rr := fr_refl w
  have hlw := keep hl0
  have Hn0 := keep hn0
  clear hl0 hn0 hns hns' hf hky hnp hkl wx ox op hks0
  go_enter Try.func9, Try.ntmps9
  have tok : Hid (0 < 1) := keep (by decide)
  go_wp2_with (first
    | (clear tok; refine wpList_append_vals (w0 := w) int_elem ints_und (by decide) rfl (.tmp 18) (.tmp 19) rfl (fr_new rr _) (some ⟨w.heap.size, 0, none⟩) 4 4 (ints [24, 16, 8, 32]) rfl (Own.lit w w.heap.size 3 (ints [24, 16, 8, 32]).toArray 4 1 (Nat.le_refl _) (by decide) rfl) w.heap.size A0 n0 c0 (ints ns) rfl (by rw [ints_len, Hn0.out, Nat.mul_one]) (hlw.out.fr (Nat.le_refl _) (fr_new rr _)) (ints_one _) (by unfold maxLen; omega) (by omega) ?_; intro B1 d1 v1 o1 f1)
    | fail)
  refine (cT _ _ _ o1).mono ?_
  rintro e v2 ⟨A, c, A2, c2, rfl, hk, hp, f2⟩
  replace hk : Hid (Own v2 0 3 1 A (np + 1) c (ints ks)) := keep (by have h := hk.out; unfold OwnI at h; rwa [Hkl.out] at h)
  replace hp : Hid (Own v2 0 27 9 A2 np c2 (rows kc ps)) := keep (by have h := hp.out; unfold OwnK at h; rwa [Hnp.out] at h)
  replace f2 : Fr w v2 := fr_step f1 f2
  clear cT o1 f1 hlw
  by_cases h3 : np < 3
  · have cN := fhalves_no (A := A) (c := c) (A2 := A2) (n2 := np) (c2 := c2) (n := np + 1) (by omega) (fr_refl v2)
    unfold HalfNo at cN
    have z4 : (np : Int) + 1 < 4 := by omega
    clear cX
    go_wp2_with fail
    refine cN.mono ?_
    rintro e v3 ⟨rfl, g3⟩
    clear cN
    go_wp2_with fail
    refine (cW _).mono ?_
    rintro e v4 ⟨rfl, g4⟩
    go_wp2_with fail
    go_ret
    exact ⟨rfl, fr_step f2 (fr_step g3 (fr_step (fr_new (fr_refl _) _) g4))⟩
  obtain rfl : np = 3 := by omega
  obtain ⟨p0, p1, p2, hps⟩ : ∃ p0 p1 p2, ps = [p0, p1, p2] := by
    have h := Hnp.out
    match ps, h with
    | [a, b, c], _ => exact ⟨a, b, c, rfl⟩
  have Hps := keep hps
  have g0 := Hop.out.good p0 (by rw [hps]; simp)
  have g1 := Hop.out.good p1 (by rw [hps]; simp)
  have g2 := Hop.out.good p2 (by rw [hps]; simp)
  have cH := fhalves_at (c := c) (c2 := c2) (m := p1) hk.out.has (Nat.le_refl _) Hkl.out hk.out.cap hp.out.has (Nat.le_refl _) Hnp.out hp.out.cap (by rw [hps]; rfl) (fr_refl v2)
  unfold HalfOut at cH
  clear np1 np3 h3
  go_wp2_with fail
  refine cH.mono ?_
  rintro e v3 ⟨A1, c1, A5, c5, A3, c3, A4, c4, rfl, o1, o2, o3, o4, f3⟩
  replace hk := keep (Own.below hk.out f3 (Nat.le_refl _))
  replace hp := keep (Own.below hp.out f3 (Nat.le_refl _))
  replace f2 := fr_step f2 f3
  have vv := fr_refl v3
  clear cH f3
  have tok : Hid (0 < 1) := keep (by decide)
  go_wp2_with (first
    | (clear tok; refine wpList_store_at (ds := kc p1) key_info rfl (.tmp 11) (.tmp 31) rfl v3.heap.size 0 rfl rfl (kc_len _) (kc_one _) (Arr.new v3 (kc zeroK).toArray 27) (by rw [kc_len]; decide) (splice_all _ _ (Nat.le_of_eq rfl)) ?_; intro u hM5 hk5; have f4 := hk5.fr (fr_new vv _) (Nat.le_refl _); have lM : ∀ W, Fr u W → (ldS 27 (.pointer (some ⟨v3.heap.size, 0, none⟩))).run Try.prog W = .ok (.agg (kc p1).toArray) W := fun W h => keyS.ld (kc_len _) (hM5.below h hM5.lt); clear hk5 hM5)
    | fail)
  replace hk := keep (Own.below hk.out f4 (Nat.le_refl _))
  replace hp := keep (Own.below hp.out f4 (Nat.le_refl _))
  replace o1 := keep (Own.below o1.out f4 (Nat.le_refl _))
  replace o2 := keep (Own.below o2.out f4 (Nat.le_refl _))
  replace o3 := keep (Own.below o3.out f4 (Nat.le_refl _))
  replace o4 := keep (Own.below o4.out f4 (Nat.le_refl _))
  replace f2 := fr_step f2 f4
  clear vv f4
  obtain ⟨b2, k2, rfl, lP0⟩ := own_key_at2 (j := 0) hp.out (k := p0) (by rw [hps]; rfl)
  obtain ⟨b2', k2', e2, lP1⟩ := own_key_at2 (j := 1) hp.out (k := p1) (by rw [hps]; rfl)
  injection e2 with e2
  injection e2 with e21 e22
  subst e21 e22
  obtain ⟨b2', k2', e2, lP2⟩ := own_key_at2 (j := 2) hp.out (k := p2) (by rw [hps]; rfl)
  injection e2 with e2
  injection e2 with e21 e22
  subst e21 e22
  obtain ⟨b5, k5, rfl, lL⟩ := own_key_at2 (j := 0) o2.out (k := p0) (by rw [hps]; rfl)
  obtain ⟨b4, k4, rfl, lR⟩ := own_key_at2 (j := 0) o4.out (k := p2) (by rw [hps]; rfl)
  simp only [Nat.zero_mul, Nat.add_zero, Nat.one_mul, Nat.reduceMul] at lP0 lP1 lP2 lL lR
  have qE0 := fun W => key_nself g0.1 W
  have qE1 := fun W => key_nself g1.1 W
  have qE2 := fun W => key_nself g2.1 W
  have h1h : Has u u.heap.size A1 (ints (ks.take 2)) := o1.out.has
  have h3h : Has u u.heap.size A3 (ints (ks.drop 2)) := o3.out.has
  have hkh : Has u u.heap.size A (ints ks) := hk.out.has
  have hl2 : Hid ((ints (ks.take 2)).length = 2 * 1) := keep (by rw [ints_len, List.length_take, Hkl.out]; rfl)
  have hr2 : Hid ((ints (ks.drop 2)).length = 2 * 1) := keep (by rw [ints_len, List.length_drop, Hkl.out])
  have cSm : ∀ W B d b, Own W b 3 1 B (2 + 2) d (ints ks) → Has W W.heap.size A (ints ks) → Calls Try.prog 36 #[.slice B (2 + 2) d, .slice A (3 + 1) c] W fun e w' => e = .returned (.bool true) ∧ Fr W w' := fun W B d b h1 h2 => by
    have := sameints_at (c := d) (c2 := c) h1.has (Nat.le_refl _) Hkl.out (by omega) h2 (Nat.le_refl _) Hkl.out (by omega) (fr_refl W)
    rwa [decide_eq_true rfl] at this
  have uu := fr_refl u
  have huD0 := fr_drew uu
  clear hps
  go_wp2_with fail
  refine wp_region_noPanic ?_
  refine wp_region_held_drew (S := fun w' => Fr u w') (by kernel_rfl) huD0 (fun hHeld => ?_)
  change wpAnyH _ _ _ _ _ _ _ _ _
  clear hHeld
  generalize u.drew = W0 at *
  have huD := huD0
  replace h1h := h1h.step huD
  replace h3h := h3h.step huD
  replace hkh := hkh.step huD
  refine wpAnyH_take (i := 0) (v := ?_) rfl (by kernel_rfl) (by kernel_rfl) (by kernel_rfl) (fun _ _ _ h => h) (Or.inl ⟨by rfl, ?_⟩) (by assumption) ?_
  rotate_left
  · intro w' hSw
    try dsimp only at hSw
    go_simp
    try with_reducible rfl
  try simp only [List.getElem_toArray, List.getElem_cons_zero, Act.put, List.setIfInBounds_toArray, List.set_cons_zero, List.set_cons_succ]
  refine wpAnyH_take (i := 1) (v := .bool false) rfl (by kernel_rfl) (by kernel_rfl) (by kernel_rfl) (fun _ _ _ h => h) (Or.inl ⟨by rfl, ?_⟩) (by assumption) ?_
  · intro w' hSw
    try dsimp only at hSw
    try go_simp
    all_goals first | done | with_reducible rfl | omega | assumption | (simp; omega)
  try simp only [List.getElem_toArray, List.getElem_cons_succ, List.getElem_cons_zero, Act.put, List.setIfInBounds_toArray, List.set_cons_zero, List.set_cons_succ]
  refine wpAnyH_take (i := 2) (v := .bool false) rfl (by kernel_rfl) (by kernel_rfl) (by kernel_rfl) (fun _ _ _ h => h) (Or.inl ⟨by rfl, ?_⟩) (by assumption) ?_
  · intro w' hSw
    try dsimp only at hSw
    try go_simp
    all_goals first | done | with_reducible rfl | omega | assumption | (simp; omega)
  try simp only [List.getElem_toArray, List.getElem_cons_succ, List.getElem_cons_zero, Act.put, List.setIfInBounds_toArray, List.set_cons_zero, List.set_cons_succ]
  refine wpAnyH_take (i := 3) (v := ?_) rfl (by kernel_rfl) (by kernel_rfl) (by kernel_rfl) (fun _ _ _ h => h) (Or.inl ⟨by rfl, ?_⟩) (by assumption) ?_
  rotate_left
  · intro w' hSw
    try dsimp only at hSw
    go_simp
    try with_reducible rfl
  try simp only [List.getElem_toArray, List.getElem_cons_succ, List.getElem_cons_zero, Act.put, List.setIfInBounds_toArray, List.set_cons_zero, List.set_cons_succ]
  refine wpAnyH_take (i := 4) (v := ?_) rfl (by kernel_rfl) (by kernel_rfl) (by kernel_rfl) (fun _ _ _ h => h) (Or.inl ⟨by rfl, ?_⟩) (by assumption) ?_
  rotate_left
  · intro w' hSw
    try dsimp only at hSw
    go_simp
    try with_reducible rfl
  try simp only [List.getElem_toArray, List.getElem_cons_succ, List.getElem_cons_zero, Act.put, List.setIfInBounds_toArray, List.set_cons_zero, List.set_cons_succ]
  refine wpAnyH_take (i := 5) (v := .bool false) rfl (by kernel_rfl) (by kernel_rfl) (by kernel_rfl) (fun _ _ _ h => h) (Or.inl ⟨by rfl, ?_⟩) (by assumption) ?_
  · intro w' hSw
    try dsimp only at hSw
    try go_simp
    all_goals first | done | with_reducible rfl | omega | assumption | (simp; omega)
  try simp only [List.getElem_toArray, List.getElem_cons_succ, List.getElem_cons_zero, Act.put, List.setIfInBounds_toArray, List.set_cons_zero, List.set_cons_succ]
  refine wpAnyH_take (i := 6) (v := .bool false) rfl (by kernel_rfl) (by kernel_rfl) (by kernel_rfl) (fun _ _ _ h => h) (Or.inl ⟨by rfl, ?_⟩) (by assumption) ?_
  · intro w' hSw
    try dsimp only at hSw
    try go_simp
    all_goals first | done | with_reducible rfl | omega | assumption | (simp; omega)
  try simp only [List.getElem_toArray, List.getElem_cons_succ, List.getElem_cons_zero, Act.put, List.setIfInBounds_toArray, List.set_cons_zero, List.set_cons_succ]
  refine wpAnyH_take (i := 7) (v := .bool false) rfl (by kernel_rfl) (by kernel_rfl) (by kernel_rfl) (fun _ _ _ h => h) (Or.inl ⟨by rfl, ?_⟩) (by assumption) ?_
  · intro w' hSw
    try dsimp only at hSw
    try go_simp
    all_goals first | done | with_reducible rfl | omega | assumption | (simp; omega)
  try simp only [List.getElem_toArray, List.getElem_cons_succ, List.getElem_cons_zero, Act.put, List.setIfInBounds_toArray, List.set_cons_zero, List.set_cons_succ]
  refine wpAnyH_take (i := 8) (v := ?_) rfl (by kernel_rfl) (by kernel_rfl) (by kernel_rfl) (fun _ _ _ h => h) (Or.inl ⟨by rfl, ?_⟩) (by assumption) ?_
  rotate_left
  · intro w' hSw
    try dsimp only at hSw
    go_simp
    try with_reducible rfl
  try simp only [List.getElem_toArray, List.getElem_cons_succ, List.getElem_cons_zero, Act.put, List.setIfInBounds_toArray, List.set_cons_zero, List.set_cons_succ]
  refine wpAnyH_take (i := 9) (v := ?_) rfl (by kernel_rfl) (by kernel_rfl) (by kernel_rfl) (fun _ _ _ h => h) (Or.inl ⟨by rfl, ?_⟩) (by assumption) ?_
  rotate_left
  · intro w' hSw
    try dsimp only at hSw
    go_simp
    try with_reducible rfl
  try simp only [List.getElem_toArray, List.getElem_cons_succ, List.getElem_cons_zero, Act.put, List.setIfInBounds_toArray, List.set_cons_zero, List.set_cons_succ]
  refine wpAnyH_take (i := 10) (v := .bool false) rfl (by kernel_rfl) (by kernel_rfl) (by kernel_rfl) (fun _ _ _ h => h) (Or.inl ⟨by rfl, ?_⟩) (by assumption) ?_
  · intro w' hSw
    try dsimp only at hSw
    try go_simp
    all_goals first | done | with_reducible rfl | omega | assumption | (simp; omega)
  try simp only [List.getElem_toArray, List.getElem_cons_succ, List.getElem_cons_zero, Act.put, List.setIfInBounds_toArray, List.set_cons_zero, List.set_cons_succ]
  refine wpAnyH_take (i := 11) (v := .bool false) rfl (by kernel_rfl) (by kernel_rfl) (by kernel_rfl) (fun _ _ _ h => h) (Or.inl ⟨by rfl, ?_⟩) (by assumption) ?_
  · intro w' hSw
    try dsimp only at hSw
    try go_simp
    all_goals first | done | with_reducible rfl | omega | assumption | (simp; omega)
  try simp only [List.getElem_toArray, List.getElem_cons_succ, List.getElem_cons_zero, Act.put, List.setIfInBounds_toArray, List.set_cons_zero, List.set_cons_succ]
  refine wpAnyH_take (i := 12) (v := .bool false) rfl (by kernel_rfl) (by kernel_rfl) (by kernel_rfl) (fun _ _ _ h => h) (Or.inl ⟨by rfl, ?_⟩) (by assumption) ?_
  · intro w' hSw
    try dsimp only at hSw
    try go_simp
    all_goals first | done | with_reducible rfl | omega | assumption | (simp; omega)
  try simp only [List.getElem_toArray, List.getElem_cons_succ, List.getElem_cons_zero, Act.put, List.setIfInBounds_toArray, List.set_cons_zero, List.set_cons_succ]
  refine wpAnyH_take (i := 13) (v := ?_) rfl (by kernel_rfl) (by kernel_rfl) (by kernel_rfl) (fun _ _ _ h => h) (Or.inl ⟨by rfl, ?_⟩) (by assumption) ?_
  rotate_left
  · intro w' hSw
    try dsimp only at hSw
    go_simp
    try with_reducible rfl
  try simp only [List.getElem_toArray, List.getElem_cons_succ, List.getElem_cons_zero, Act.put, List.setIfInBounds_toArray, List.set_cons_zero, List.set_cons_succ]
  refine wpAnyH_take (i := 14) (v := ?_) rfl (by kernel_rfl) (by kernel_rfl) (by kernel_rfl) (fun _ _ _ h => h) (Or.inl ⟨by rfl, ?_⟩) (by assumption) ?_
  rotate_left
  · intro w' hSw
    try dsimp only at hSw
    go_simp
    try with_reducible rfl
  try simp only [List.getElem_toArray, List.getElem_cons_succ, List.getElem_cons_zero, Act.put, List.setIfInBounds_toArray, List.set_cons_zero, List.set_cons_succ]
  refine wpAnyH_take (i := 15) (v := .bool false) rfl (by kernel_rfl) (by kernel_rfl) (by kernel_rfl) (fun _ _ _ h => h) (Or.inl ⟨by rfl, ?_⟩) (by assumption) ?_
  · intro w' hSw
    try dsimp only at hSw
    try go_simp
    all_goals first | done | with_reducible rfl | omega | assumption | (simp; omega)
  try simp only [List.getElem_toArray, List.getElem_cons_succ, List.getElem_cons_zero, Act.put, List.setIfInBounds_toArray, List.set_cons_zero, List.set_cons_succ]
  refine wpAnyH_take (i := 16) (v := .bool false) rfl (by kernel_rfl) (by kernel_rfl) (by kernel_rfl) (fun _ _ _ h => h) (Or.inl ⟨by rfl, ?_⟩) (by assumption) ?_
  · intro w' hSw
    try dsimp only at hSw
    try go_simp
    all_goals first | done | with_reducible rfl | omega | assumption | (simp; omega)
  try simp only [List.getElem_toArray, List.getElem_cons_succ, List.getElem_cons_zero, Act.put, List.setIfInBounds_toArray, List.set_cons_zero, List.set_cons_succ]
  refine wpAnyH_take (i := 17) (v := .bool false) rfl (by kernel_rfl) (by kernel_rfl) (by kernel_rfl) (fun _ _ _ h => h) (Or.inl ⟨by rfl, ?_⟩) (by assumption) ?_
  · intro w' hSw
    try dsimp only at hSw
    try go_simp
    all_goals first | done | with_reducible rfl | omega | assumption | (simp; omega)
  try simp only [List.getElem_toArray, List.getElem_cons_succ, List.getElem_cons_zero, Act.put, List.setIfInBounds_toArray, List.set_cons_zero, List.set_cons_succ]
  refine wpAnyH_take (i := 18) (v := ?_) rfl (by kernel_rfl) (by kernel_rfl) (by kernel_rfl) (fun _ _ _ h => h) (Or.inl ⟨by rfl, ?_⟩) (by assumption) ?_
  rotate_left
  · intro w' hSw
    try dsimp only at hSw
    go_simp
    try with_reducible rfl
  try simp only [List.getElem_toArray, List.getElem_cons_succ, List.getElem_cons_zero, Act.put, List.setIfInBounds_toArray, List.set_cons_zero, List.set_cons_succ]
  refine wpAnyH_take (i := 19) (v := ?_) rfl (by kernel_rfl) (by kernel_rfl) (by kernel_rfl) (fun _ _ _ h => h) (Or.inl ⟨by rfl, ?_⟩) (by assumption) ?_
  rotate_left
  · intro w' hSw
    try dsimp only at hSw
    go_simp
    try with_reducible rfl
  try simp only [List.getElem_toArray, List.getElem_cons_succ, List.getElem_cons_zero, Act.put, List.setIfInBounds_toArray, List.set_cons_zero, List.set_cons_succ]
  refine wpAnyH_take (i := 20) (v := .bool false) rfl (by kernel_rfl) (by kernel_rfl) (by kernel_rfl) (fun _ _ _ h => h) (Or.inl ⟨by rfl, ?_⟩) (by assumption) ?_
  · intro w' hSw
    try dsimp only at hSw
    try go_simp
    all_goals first | done | with_reducible rfl | omega | assumption | (simp; omega)
  try simp only [List.getElem_toArray, List.getElem_cons_succ, List.getElem_cons_zero, Act.put, List.setIfInBounds_toArray, List.set_cons_zero, List.set_cons_succ]
  refine wpAnyH_take (i := 21) (v := .bool false) rfl (by kernel_rfl) (by kernel_rfl) (by kernel_rfl) (fun _ _ _ h => h) (Or.inl ⟨by rfl, ?_⟩) (by assumption) ?_
  · intro w' hSw
    try dsimp only at hSw
    try go_simp
    all_goals first | done | with_reducible rfl | omega | assumption | (simp; omega)
  try simp only [List.getElem_toArray, List.getElem_cons_succ, List.getElem_cons_zero, Act.put, List.setIfInBounds_toArray, List.set_cons_zero, List.set_cons_succ]
  refine wpAnyH_take (i := 22) (v := .bool false) rfl (by kernel_rfl) (by kernel_rfl) (by kernel_rfl) (fun _ _ _ h => h) (Or.inl ⟨by rfl, ?_⟩) (by assumption) ?_
  · intro w' hSw
    try dsimp only at hSw
    try go_simp
    all_goals first | done | with_reducible rfl | omega | assumption | (simp; omega)
  try simp only [List.getElem_toArray, List.getElem_cons_succ, List.getElem_cons_zero, Act.put, List.setIfInBounds_toArray, List.set_cons_zero, List.set_cons_succ]
  refine wpAnyH_take (i := 24) (v := ?_) rfl (by kernel_rfl) (by kernel_rfl) (by kernel_rfl) (fun _ _ _ h => h) (Or.inl ⟨by rfl, ?_⟩) (by assumption) ?_
  rotate_left
  · intro w' hSw
    try dsimp only at hSw
    go_simp
    try with_reducible rfl
  try simp only [List.getElem_toArray, List.getElem_cons_succ, List.getElem_cons_zero, Act.put, List.setIfInBounds_toArray, List.set_cons_zero, List.set_cons_succ]
  refine wpAnyH_take (i := 26) (v := ?_) rfl (by kernel_rfl) (by kernel_rfl) (by kernel_rfl) (fun _ _ _ h => h) (Or.inl ⟨by rfl, ?_⟩) (by assumption) ?_
  rotate_left
  · intro w' hSw
    try dsimp only at hSw
    go_simp
    try with_reducible rfl
  try simp only [List.getElem_toArray, List.getElem_cons_succ, List.getElem_cons_zero, Act.put, List.setIfInBounds_toArray, List.set_cons_zero, List.set_cons_succ]
  refine wpAnyH_take (i := 28) (v := ?_) rfl (by kernel_rfl) (by kernel_rfl) (by kernel_rfl) (fun _ _ _ h => h) (Or.inl ⟨by rfl, ?_⟩) (by assumption) ?_
  rotate_left
  · intro w' hSw
    try dsimp only at hSw
    go_simp
    try with_reducible rfl
  try simp only [List.getElem_toArray, List.getElem_cons_succ, List.getElem_cons_zero, Act.put, List.setIfInBounds_toArray, List.set_cons_zero, List.set_cons_succ]
  refine wpAnyH_ready (rs := [23]) (by kernel_rfl) (by simp) ?_
  refine AllReadyH.cons rfl (fun K hK0 => ?_) AllReadyH.nil
  go_simp
  refine hK0.out _ _ (fr_new huD _) (fun _ => ?_)
  clear hK0 K
  try simp only [List.getElem_toArray, List.getElem_cons_succ, List.getElem_cons_zero, Act.put, List.setIfInBounds_toArray, List.set_cons_zero, List.set_cons_succ]
  refine wpAnyH_ready (rs := [25]) (by kernel_rfl) (by simp) ?_
  refine AllReadyH.cons rfl (fun K hK0 => ?_) AllReadyH.nil
  refine step_append_valsG (w0 := W0) int_elem ints_und (by decide) (by rfl) (.tmp 76) (.tmp 77) rfl (fr_new (fr_refl W0) _) (some ⟨W0.heap.size, 0, none⟩) 0 0 [] rfl (Own.lit W0 W0.heap.size 3 #[] 0 1 (Nat.le_refl _) (Nat.zero_le _) rfl) W0.heap.size A1 2 c1 (ints (ks.take 2)) rfl hl2.out (h1h.fr (Nat.le_refl _) (fr_new (fr_refl W0) _)) (ints_one _) (by decide) (by decide) ?_
  intro B5 d5 w5 q5 g5
  simp only [List.nil_append, Nat.zero_add] at q5
  simp only [Nat.zero_add]
  refine hK0.out _ _ (fr_step huD g5) (fun _ => ?_)
  have g5u := fr_step huD g5
  clear hK0 K
  try simp only [List.getElem_toArray, List.getElem_cons_succ, List.getElem_cons_zero, Act.put, List.setIfInBounds_toArray, List.set_cons_zero, List.set_cons_succ]
  refine wpAnyH_ready (rs := [27]) (by kernel_rfl) (by simp) ?_
  refine AllReadyH.cons rfl (fun K hK0 => ?_) AllReadyH.nil
  refine step_append_valsG (w0 := W0) int_elem ints_und (by decide) (by rfl) (.tmp 78) (.tmp 79) rfl g5 B5 2 d5 (ints (ks.take 2)) rfl q5 w5.heap.size A3 2 c3 (ints (ks.drop 2)) rfl hr2.out (h3h.step g5) (ints_one _) (by decide) (by decide) ?_
  intro B6 d6 w6 q6 g6
  rw [← ints_app, List.take_append_drop] at q6
  refine hK0.out _ _ (fr_step huD g6) (fun _ => ?_)
  have g6u := fr_step huD g6
  clear hK0 K
  try simp only [List.getElem_toArray, List.getElem_cons_succ, List.getElem_cons_zero, Act.put, List.setIfInBounds_toArray, List.set_cons_zero, List.set_cons_succ]
  refine wpAnyH_ready (rs := [29]) (by kernel_rfl) (by simp) ?_
  refine AllReadyH.cons rfl (fun K hK0 => ?_) AllReadyH.nil
  go_simp
  refine (cSm _ _ _ _ q6 (hkh.step g6)).mono ?_
  rintro e w7 ⟨rfl, g7⟩
  go_simp
  refine hK0.out _ _ (fr_step g6u g7) (fun _ => ?_)
  have g7u := fr_step g6u g7
  clear hK0 K
  try simp only [List.getElem_toArray, List.getElem_cons_succ, List.getElem_cons_zero, Act.put, List.setIfInBounds_toArray, List.set_cons_zero, List.set_cons_succ]
  refine wpAnyH_take (i := 30) (v := .bool false) rfl (by kernel_rfl) (by kernel_rfl) (by kernel_rfl) (fun _ _ _ h => h) (Or.inl ⟨by rfl, ?_⟩) (by assumption) ?_
  · intro w' hSw
    try dsimp only at hSw
    try go_simp
    all_goals first | done | with_reducible rfl | omega | assumption | (simp; omega)
  try simp only [List.getElem_toArray, List.getElem_cons_succ, List.getElem_cons_zero, Act.put, List.setIfInBounds_toArray, List.set_cons_zero, List.set_cons_succ]
  refine wpAnyH_take (i := 31) (v := .bool false) rfl (by kernel_rfl) (by kernel_rfl) (by kernel_rfl) (fun _ _ _ h => h) (Or.inl ⟨by rfl, ?_⟩) (by assumption) ?_
  · intro w' hSw
    try dsimp only at hSw
    try go_simp
    all_goals first | done | with_reducible rfl | omega | assumption | (simp; omega)
  try simp only [List.getElem_toArray, List.getElem_cons_succ, List.getElem_cons_zero, Act.put, List.setIfInBounds_toArray, List.set_cons_zero, List.set_cons_succ]
  refine wpAnyH_take (i := 32) (v := .bool false) rfl (by kernel_rfl) (by kernel_rfl) (by kernel_rfl) (fun _ _ _ h => h) (Or.inl ⟨by rfl, ?_⟩) (by assumption) ?_
  · intro w' hSw
    try dsimp only at hSw
    try go_simp
    all_goals first | done | with_reducible rfl | omega | assumption | (simp; omega)
  try simp only [List.getElem_toArray, List.getElem_cons_succ, List.getElem_cons_zero, Act.put, List.setIfInBounds_toArray, List.set_cons_zero, List.set_cons_succ]
  refine wpAnyH_take (i := 33) (v := ?_) rfl (by kernel_rfl) (by kernel_rfl) (by kernel_rfl) (fun _ _ _ h => h) (Or.inl ⟨by rfl, ?_⟩) (by assumption) ?_
  rotate_left
  · intro w' hSw
    try dsimp only at hSw
    go_simp
    try with_reducible rfl
  try simp only [List.getElem_toArray, List.getElem_cons_succ, List.getElem_cons_zero, Act.put, List.setIfInBounds_toArray, List.set_cons_zero, List.set_cons_succ]
  refine wpAnyH_take (i := 34) (v := ?_) rfl (by kernel_rfl) (by kernel_rfl) (by kernel_rfl) (fun _ _ _ h => h) (Or.inl ⟨by rfl, ?_⟩) (by assumption) ?_
  rotate_left
  · intro w' hSw
    try dsimp only at hSw
    go_simp
    try with_reducible rfl
  try simp only [List.getElem_toArray, List.getElem_cons_succ, List.getElem_cons_zero, Act.put, List.setIfInBounds_toArray, List.set_cons_zero, List.set_cons_succ]
  refine wpAnyH_take (i := 35) (v := ?_) rfl (by kernel_rfl) (by kernel_rfl) (by kernel_rfl) (fun _ _ _ h => h) (Or.inl ⟨by rfl, ?_⟩) (by assumption) ?_
  rotate_left
  · intro w' hSw
    try dsimp only at hSw
    go_simp
    try with_reducible rfl
  try simp only [List.getElem_toArray, List.getElem_cons_succ, List.getElem_cons_zero, Act.put, List.setIfInBounds_toArray, List.set_cons_zero, List.set_cons_succ]
  refine wpAnyH_take (i := 36) (v := ?_) rfl (by kernel_rfl) (by kernel_rfl) (by kernel_rfl) (fun _ _ _ h => h) (Or.inl ⟨by rfl, ?_⟩) (by assumption) ?_
  rotate_left
  · intro w' hSw
    try dsimp only at hSw
    go_simp
    try with_reducible rfl
  try simp only [List.getElem_toArray, List.getElem_cons_succ, List.getElem_cons_zero, Act.put, List.setIfInBounds_toArray, List.set_cons_zero, List.set_cons_succ]
  refine wpAnyH_take (i := 37) (v := ?_) rfl (by kernel_rfl) (by kernel_rfl) (by kernel_rfl) (fun _ _ _ h => h) (Or.inl ⟨by rfl, ?_⟩) (by assumption) ?_
  rotate_left
  · intro w' hSw
    try dsimp only at hSw
    go_simp
    try with_reducible rfl
  try simp only [List.getElem_toArray, List.getElem_cons_succ, List.getElem_cons_zero, Act.put, List.setIfInBounds_toArray, List.set_cons_zero, List.set_cons_succ]
  refine wpAnyH_take (i := 38) (v := ?_) rfl (by kernel_rfl) (by kernel_rfl) (by kernel_rfl) (fun _ _ _ h => h) (Or.inl ⟨by rfl, ?_⟩) (by assumption) ?_
  rotate_left
  · intro w' hSw
    try dsimp only at hSw
    go_simp
    try with_reducible rfl
  try simp only [List.getElem_toArray, List.getElem_cons_succ, List.getElem_cons_zero, Act.put, List.setIfInBounds_toArray, List.set_cons_zero, List.set_cons_succ]
  refine wpAnyH_take (i := 39) (v := .bool false) rfl (by kernel_rfl) (by kernel_rfl) (by kernel_rfl) (fun _ _ _ h => h) (Or.inl ⟨by rfl, ?_⟩) (by assumption) ?_
  · intro w' hSw
    try dsimp only at hSw
    try go_simp
    all_goals first | done | with_reducible rfl | omega | assumption | (simp; omega)
  try simp only [List.getElem_toArray, List.getElem_cons_succ, List.getElem_cons_zero, Act.put, List.setIfInBounds_toArray, List.set_cons_zero, List.set_cons_succ]
  refine wpAnyH_take (i := 40) (v := .bool false) rfl (by kernel_rfl) (by kernel_rfl) (by kernel_rfl) (fun _ _ _ h => h) (Or.inl ⟨by rfl, ?_⟩) (by assumption) ?_
  · intro w' hSw
    try dsimp only at hSw
    try go_simp
    all_goals first | done | with_reducible rfl | omega | assumption | (simp; omega)
  try simp only [List.getElem_toArray, List.getElem_cons_succ, List.getElem_cons_zero, Act.put, List.setIfInBounds_toArray, List.set_cons_zero, List.set_cons_succ]
  refine wpAnyH_take (i := 41) (v := .bool false) rfl (by kernel_rfl) (by kernel_rfl) (by kernel_rfl) (fun _ _ _ h => h) (Or.inl ⟨by rfl, ?_⟩) (by assumption) ?_
  · intro w' hSw
    try dsimp only at hSw
    try go_simp
    all_goals first | done | with_reducible rfl | omega | assumption | (simp; omega)
  try simp only [List.getElem_toArray, List.getElem_cons_succ, List.getElem_cons_zero, Act.put, List.setIfInBounds_toArray, List.set_cons_zero, List.set_cons_succ]
  refine wpAnyH_take (i := 42) (v := ?_) rfl (by kernel_rfl) (by kernel_rfl) (by kernel_rfl) (fun _ _ _ h => h) (Or.inl ⟨by rfl, ?_⟩) (by assumption) ?_
  rotate_left
  · intro w' hSw
    try dsimp only at hSw
    go_simp
    try with_reducible rfl
  try simp only [List.getElem_toArray, List.getElem_cons_succ, List.getElem_cons_zero, Act.put, List.setIfInBounds_toArray, List.set_cons_zero, List.set_cons_succ]
  refine wpAnyH_take (i := 43) (v := ?_) rfl (by kernel_rfl) (by kernel_rfl) (by kernel_rfl) (fun _ _ _ h => h) (Or.inl ⟨by rfl, ?_⟩) (by assumption) ?_
  rotate_left
  · intro w' hSw
    try dsimp only at hSw
    go_simp
    try with_reducible rfl
  try simp only [List.getElem_toArray, List.getElem_cons_succ, List.getElem_cons_zero, Act.put, List.setIfInBounds_toArray, List.set_cons_zero, List.set_cons_succ]
  refine wpAnyH_take (i := 44) (v := ?_) rfl (by kernel_rfl) (by kernel_rfl) (by kernel_rfl) (fun _ _ _ h => h) (Or.inl ⟨by rfl, ?_⟩) (by assumption) ?_
  rotate_left
  · intro w' hSw
    try dsimp only at hSw
    go_simp
    try with_reducible rfl
  try simp only [List.getElem_toArray, List.getElem_cons_succ, List.getElem_cons_zero, Act.put, List.setIfInBounds_toArray, List.set_cons_zero, List.set_cons_succ]
  refine wpAnyH_take (i := 45) (v := ?_) rfl (by kernel_rfl) (by kernel_rfl) (by kernel_rfl) (fun _ _ _ h => h) (Or.inl ⟨by rfl, ?_⟩) (by assumption) ?_
  rotate_left
  · intro w' hSw
    try dsimp only at hSw
    go_simp
    try with_reducible rfl
  try simp only [List.getElem_toArray, List.getElem_cons_succ, List.getElem_cons_zero, Act.put, List.setIfInBounds_toArray, List.set_cons_zero, List.set_cons_succ]
  refine wpAnyH_take (i := 46) (v := .bool false) rfl (by kernel_rfl) (by kernel_rfl) (by kernel_rfl) (fun _ _ _ h => h) (Or.inl ⟨by rfl, ?_⟩) (by assumption) ?_
  · intro w' hSw
    try dsimp only at hSw
    try go_simp
    all_goals first | done | with_reducible rfl | omega | assumption | (simp; omega)
  try simp only [List.getElem_toArray, List.getElem_cons_succ, List.getElem_cons_zero, Act.put, List.setIfInBounds_toArray, List.set_cons_zero, List.set_cons_succ]
  refine wpAnyH_take (i := 47) (v := .bool false) rfl (by kernel_rfl) (by kernel_rfl) (by kernel_rfl) (fun _ _ _ h => h) (Or.inl ⟨by rfl, ?_⟩) (by assumption) ?_
  · intro w' hSw
    try dsimp only at hSw
    try go_simp
    all_goals first | done | with_reducible rfl | omega | assumption | (simp; omega)
  try simp only [List.getElem_toArray, List.getElem_cons_succ, List.getElem_cons_zero, Act.put, List.setIfInBounds_toArray, List.set_cons_zero, List.set_cons_succ]
  refine wpAnyH_take (i := 48) (v := .bool false) rfl (by kernel_rfl) (by kernel_rfl) (by kernel_rfl) (fun _ _ _ h => h) (Or.inl ⟨by rfl, ?_⟩) (by assumption) ?_
  · intro w' hSw
    try dsimp only at hSw
    try go_simp
    all_goals first | done | with_reducible rfl | omega | assumption | (simp; omega)
  try simp only [List.getElem_toArray, List.getElem_cons_succ, List.getElem_cons_zero, Act.put, List.setIfInBounds_toArray, List.set_cons_zero, List.set_cons_succ]
  refine wpAnyH_take (i := 49) (v := ?_) rfl (by kernel_rfl) (by kernel_rfl) (by kernel_rfl) (fun _ _ _ h => h) (Or.inl ⟨by rfl, ?_⟩) (by assumption) ?_
  rotate_left
  · intro w' hSw
    try dsimp only at hSw
    go_simp
    try with_reducible rfl
  try simp only [List.getElem_toArray, List.getElem_cons_succ, List.getElem_cons_zero, Act.put, List.setIfInBounds_toArray, List.set_cons_zero, List.set_cons_succ]
  refine wpAnyH_take (i := 50) (v := ?_) rfl (by kernel_rfl) (by kernel_rfl) (by kernel_rfl) (fun _ _ _ h => h) (Or.inl ⟨by rfl, ?_⟩) (by assumption) ?_
  rotate_left
  · intro w' hSw
    try dsimp only at hSw
    go_simp
    try with_reducible rfl
  try simp only [List.getElem_toArray, List.getElem_cons_succ, List.getElem_cons_zero, Act.put, List.setIfInBounds_toArray, List.set_cons_zero, List.set_cons_succ]
  refine wpAnyH_take (i := 51) (v := ?_) rfl (by kernel_rfl) (by kernel_rfl) (by kernel_rfl) (fun _ _ _ h => h) (Or.inl ⟨by rfl, ?_⟩) (by assumption) ?_
  rotate_left
  · intro w' hSw
    try dsimp only at hSw
    go_simp
    try with_reducible rfl
  try simp only [List.getElem_toArray, List.getElem_cons_succ, List.getElem_cons_zero, Act.put, List.setIfInBounds_toArray, List.set_cons_zero, List.set_cons_succ]
  refine wpAnyH_take (i := 52) (v := ?_) rfl (by kernel_rfl) (by kernel_rfl) (by kernel_rfl) (fun _ _ _ h => h) (Or.inl ⟨by rfl, ?_⟩) (by assumption) ?_
  rotate_left
  · intro w' hSw
    try dsimp only at hSw
    go_simp
    try with_reducible rfl
  try simp only [List.getElem_toArray, List.getElem_cons_succ, List.getElem_cons_zero, Act.put, List.setIfInBounds_toArray, List.set_cons_zero, List.set_cons_succ]
  refine wpAnyH_take (i := 53) (v := ?_) rfl (by kernel_rfl) (by kernel_rfl) (by kernel_rfl) (fun _ _ _ h => h) (Or.inl ⟨by rfl, ?_⟩) (by assumption) ?_
  rotate_left
  · intro w' hSw
    try dsimp only at hSw
    go_simp
    try with_reducible rfl
  try simp only [List.getElem_toArray, List.getElem_cons_succ, List.getElem_cons_zero, Act.put, List.setIfInBounds_toArray, List.set_cons_zero, List.set_cons_succ]
  refine wpAnyH_take (i := 54) (v := ?_) rfl (by kernel_rfl) (by kernel_rfl) (by kernel_rfl) (fun _ _ _ h => h) (Or.inl ⟨by rfl, ?_⟩) (by assumption) ?_
  rotate_left
  · intro w' hSw
    try dsimp only at hSw
    go_simp
    try with_reducible rfl
  try simp only [List.getElem_toArray, List.getElem_cons_succ, List.getElem_cons_zero, Act.put, List.setIfInBounds_toArray, List.set_cons_zero, List.set_cons_succ]
  refine wpAnyH_take (i := 55) (v := .bool false) rfl (by kernel_rfl) (by kernel_rfl) (by kernel_rfl) (fun _ _ _ h => h) (Or.inl ⟨by rfl, ?_⟩) (by assumption) ?_
  · intro w' hSw
    try dsimp only at hSw
    try go_simp
    all_goals first | done | with_reducible rfl | omega | assumption | (simp; omega)
  try simp only [List.getElem_toArray, List.getElem_cons_succ, List.getElem_cons_zero, Act.put, List.setIfInBounds_toArray, List.set_cons_zero, List.set_cons_succ]
  refine wpAnyH_take (i := 56) (v := .bool false) rfl (by kernel_rfl) (by kernel_rfl) (by kernel_rfl) (fun _ _ _ h => h) (Or.inl ⟨by rfl, ?_⟩) (by assumption) ?_
  · intro w' hSw
    try dsimp only at hSw
    try go_simp
    all_goals first | done | with_reducible rfl | omega | assumption | (simp; omega)
  try simp only [List.getElem_toArray, List.getElem_cons_succ, List.getElem_cons_zero, Act.put, List.setIfInBounds_toArray, List.set_cons_zero, List.set_cons_succ]
  refine wpAnyH_done (by kernel_rfl) ?_ _
  refine NoPanic.normal ?_
  clear q5 q6 g5 g6 g5u g6u g7 h1h h3h hkh hl2 hr2 cSm lP0 lP1 lP2 lL lR qE0 qE1 qE2 huD huD0 uu
  go_wp2_with fail
  refine (cX _).mono ?_
  rintro e u2 ⟨rfl, g8⟩
  have f8 : Fr u u2 := fr_step g7u g8
  have u22 := fr_refl u2
  clear cX g8 g7u
  have tok : Hid (0 < 1) := keep (by decide)
  go_wp2_with (first
    | (clear tok; refine wpList_store_at (ds := kc x) key_info rfl (.tmp 15) (.tmp 111) rfl u2.heap.size 0 rfl rfl (kc_len _) (kc_one _) (Arr.new u2 (kc zeroK).toArray 27) (by rw [kc_len]; decide) (splice_all _ _ (Nat.le_of_eq rfl)) ?_; intro V hM6 hk6; have f9 := hk6.fr (fr_new u22 _) (Nat.le_refl _); have lX : ∀ W, Fr V W → (ldS 27 (.pointer (some ⟨u2.heap.size, 0, none⟩))).run Try.prog W = .ok (.agg (kc x).toArray) W := fun W h => keyS.ld (kc_len _) (hM6.below h hM6.lt); have VV := fr_refl V; clear hk6 hM6)
    | fail)
  have f10 : Fr u V := fr_step f8 f9
  have top : Fr w V := fr_step f2 f10
  replace hk := keep (Own.below hk.out f10 (Nat.le_refl _))
  replace hp := keep (Own.below hp.out f10 (Nat.le_refl _))
  replace o1 := keep (Own.below o1.out f10 (Nat.le_refl _))
  replace o2 := keep (Own.below o2.out f10 (Nat.le_refl _))
  replace o3 := keep (Own.below o3.out f10 (Nat.le_refl _))
  replace o4 := keep (Own.below o4.out f10 (Nat.le_refl _))
  replace lM := fun W (h : Fr V W) => lM W (fr_step f10 h)
  clear f8 f9 f10 f2
  have hop0 : OkP [p0] := ⟨fun k hk => by simp at hk; subst hk; exact g0, List.pairwise_singleton _ _⟩
  have hop2 : OkP [p2] := ⟨fun k hk => by simp at hk; subst hk; exact g2, List.pairwise_singleton _ _⟩
  obtain ⟨hm1, hm2⟩ := half_math (c := code x) Hop.out Hps.out
  have e1 : ps.take 1 = [p0] := by rw [Hps.out]; rfl
  have e2 : ps.drop 2 = [p2] := by rw [Hps.out]; rfl
  rw [e1] at o2
  rw [e2] at o4
  have cR : ∀ W, Fr V W → Calls Try.prog 42 #[.slice (some ⟨b2, k2, none⟩) 3 c2, kv x] W fun e w' => e = .returned (.int .i64 (kidN ps (code x) : Nat)) ∧ Fr V w' := fun W h => rkid_at (hp.out.has.fr (Nat.le_refl _) h) h.size Hnp.out (by omega) Hop.out Hx.out.1 Hx.out.2 h
  have cRl : ∀ W, Fr V W → Calls Try.prog 42 #[.slice (some ⟨b5, k5, none⟩) 1 c5, kv x] W fun e w' => e = .returned (.int .i64 (kidN [p0] (code x) : Nat)) ∧ Fr V w' := fun W h => rkid_at (o2.out.has.fr (Nat.le_refl _) h) h.size rfl (by omega) hop0 Hx.out.1 Hx.out.2 h
  have cRr : ∀ W, Fr V W → Calls Try.prog 42 #[.slice (some ⟨b4, k4, none⟩) 1 c4, kv x] W fun e w' => e = .returned (.int .i64 (kidN [p2] (code x) : Nat)) ∧ Fr V w' := fun W h => rkid_at (o4.out.has.fr (Nat.le_refl _) h) h.size rfl (by omega) hop2 Hx.out.1 Hx.out.2 h
  have cC : ∀ W, Fr V W → Calls Try.prog 32 #[kv x, kv p1] W fun e w' => e = .returned (.int .i64 (cmpK x p1)) ∧ Fr V w' := fun W h => rkcomp_at Hx.out.1 g1.1 Hx.out.2 g1.2 h
  have hj4 := kidN_le ps (code x)
  rw [Hnp.out] at hj4
  have hwas : ks[kidN ps (code x)]? = some (ks[kidN ps (code x)]'(by rw [Hkl.out]; omega)) := List.getElem?_eq_getElem _
  generalize ks[kidN ps (code x)]'(by rw [Hkl.out]; omega) = was at hwas
  generalize hjj : kidN ps (code x) = j at *
  generalize hjl : kidN [p0] (code x) = jl at *
  generalize hjr : kidN [p2] (code x) = jr at *
  obtain ⟨bk, fk, rfl, cWas⟩ := own_int_at hk.out hwas
  have hjz : (j : Int) < 4 := by omega
  have Hwas := keep hwas
  have cW2 := cW
  clear hjj hjl hjr hwas hk hp o2 o4 e1 e2 hop0 hop2 g0 g1 g2
  by_cases hc : code x < code p1
  · obtain ⟨h1, h2⟩ := hm1 hc
    have hl1 : (ks.take 2)[jl]? = some was := by rw [List.getElem?_take, if_pos (by omega), ← h1]; exact Hwas.out
    obtain ⟨b1, f1, rfl, cl⟩ := own_int_at o1.out hl1
    have b3 : cmpK x p1 < 0 := cmpK_lt.2 hc
    have b4 : (was == was) = true := by simp
    have hz : (jl : Int) < 2 := by omega
    have hz2 : jl < 2 := by omega
    clear hm1 hm2 h1 h2 hl1 hc o1 o3 cRr
    refine (cR _ VV).mono ?_
    rintro e y1 ⟨rfl, g1⟩
    go_wp2_with fail
    refine (cC _ g1).mono ?_
    rintro e y2 ⟨rfl, g2⟩
    go_wp2_with fail
    refine (cRl _ g2).mono ?_
    rintro e y3 ⟨rfl, g3⟩
    go_wp2_with fail
    refine (cW _).mono ?_
    rintro e y4 ⟨rfl, g4⟩
    go_wp2_with fail
    go_ret
    exact ⟨rfl, fr_step top (fr_step g3 g4)⟩
  · obtain ⟨h1, h2⟩ := hm2 (by omega)
    have hl1 : (ks.drop 2)[jr]? = some was := by rw [List.getElem?_drop, ← h1]; exact Hwas.out
    obtain ⟨b1, f1, rfl, cl⟩ := own_int_at o3.out hl1
    have b3 : ¬ cmpK x p1 < 0 := fun h => hc (cmpK_lt.1 h)
    have b4 : (was == was) = true := by simp
    have hz : (jr : Int) < 2 := by omega
    have hz2 : jr < 2 := by omega
    clear hm1 hm2 h1 h2 hl1 hc o1 o3 cRl
    refine (cR _ VV).mono ?_
    rintro e y1 ⟨rfl, g1⟩
    go_wp2_with fail
    refine (cC _ g1).mono ?_
    rintro e y2 ⟨rfl, g2⟩
    go_wp2_with fail
    refine (cRr _ g2).mono ?_
    rintro e y3 ⟨rfl, g3⟩
    go_wp2_with fail
    refine (cW _).mono ?_
    rintro e y4 ⟨rfl, g4⟩
    go_wp2_with fail
    go_ret
    exact ⟨rfl, fr_step top (fr_step g3 g4)⟩
end Go.Proofs.Ytnfoebcfhldemaa
