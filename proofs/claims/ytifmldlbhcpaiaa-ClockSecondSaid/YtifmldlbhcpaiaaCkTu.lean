/- ClockTurns, walked. -/
import Derived.Test.YtifmldlbhcpaiaaCkGo
namespace Go.Proofs.Ytifmldlbhcpaiaa
set_option linter.unusedVariables false
set_option linter.unusedSimpArgs false
set_option maxRecDepth 100000
open Go.RowKit
theorem step_store_rw {P : Program} {α : Type} {cf : α → List Value} {w : World} {ops : Array Oper} {o' : Oper} {a : Act} {K : Act → World → Prop} {Q : Exit → Act → World → Prop} {E0 : Prop} {T size e g o n c j : Nat} {l : List α} {x : α} (hs : (P.info? T).map (·.size) = some size) (hwt : Region.wanted o' (yielded ops a.tmps) = true) (px py : Operand) (hop : o'.op = .store T px py)
    (hx : a.eval px = .pointer (some ⟨g, o + j * size, none⟩)) (hv : (a.eval py).cells.toList = cf x) (hl : (cf x).length = size) (h1 : One (cf x)) (ho : Rw w e size (some ⟨g, o, none⟩) n c (rows cf l)) (hw : Wid cf size l) (hn : l.length = n) (hj : j < n)
    (hK : ∀ W, Rw W e size (some ⟨g, o, none⟩) n c (rows cf (l.set j x)) → Chg (· = g) w W → K (a.put o'.dst undef) W) : if Region.wanted o' (yielded ops a.tmps) = true then Oper.wp P o' a w K Q else E0 := by
  rw [if_pos hwt]
  obtain ⟨W, hr, h2, h3⟩ := run_store_rw (P := P) hs hv hl h1 ho hw hn hj
  unfold Oper.wp execOp
  simp only [hop, hx, Instr.storeAt, Instr.sureAddr, Sem.run_bind, Sem.run_pure, Result.andThen_ok, hr]
  exact hK W h2 h3
/-- All turned round by k. -/
theorem turns_math {c r a b : List Bool} {n h k : Nat} (hc : c.length = n) (hr : r.length = n) (ha : a.length = n) (hb : b.length = n) (hn : 0 < n) (hh : h < n) (ht : ∀ t, t < n → gd a ((t + k) % n) = gd c t ∧ gd b ((t + k) % n) = gd r t) :
    ∃ q : Nat, q < n ∧ (swpL c r (h : Int)).2.1 = (q : Int) ∧ (swpL a b ((h : Int) + (k : Int))).2.1 = (((q + k) % n : Nat) : Int) ∧
      (((swpL c r (h : Int)).1 = -1 ∧ (swpL a b ((h : Int) + (k : Int))).1 = -1) ∨ ∃ p : Nat, p < n ∧ (swpL c r (h : Int)).1 = (p : Int) ∧ (swpL a b ((h : Int) + (k : Int))).1 = (((p + k) % n : Nat) : Int)) := by
  have e1 : hd (h : Int) n = h := by rw [hd_nat, Nat.mod_eq_of_lt hh]
  have e2 : hd ((h : Int) + (k : Int)) n = (h + k) % n := by rw [← Int.natCast_add, hd_nat]
  have hm := sweep_map (c := c) (d := a) (l := r) (m := b) (ks := vis h n (2 * n)) (fun i => (i + k) % n) (fun i => i < n) (fun i hi => vis_lt hn hi) (fun i j hi hj e => add_mod_inj (h := k) hi hj (by rw [Nat.add_comm k i, Nat.add_comm k j]; exact e)) (fun i hi => (ht i hi).1) (fun i hi => (ht i hi).2)
  rw [← vis_turn, ← vis_mod (h + k)] at hm
  cases hq : sweepL c (vis h n (2 * n)) r with
  | mk p m =>
    cases hq2 : sweepL a (vis ((h + k) % n) n (2 * n)) b with
    | mk p2 m2 =>
      rw [hq, hq2] at hm
      simp only at hm
      rw [swp_yes _ hc hr hn e1 hq, swp_yes _ ha hb hn e2 hq2]
      cases p with
      | none =>
        simp at hm
        subst hm
        exact ⟨h, hh, rfl, rfl, .inl ⟨rfl, rfl⟩⟩
      | some x =>
        simp at hm
        subst hm
        have hx : x < n := vis_lt hn (sweep_some hq).1
        refine ⟨(x + 1) % n, Nat.mod_lt _ hn, rfl, ?_, .inr ⟨x, hx, rfl, rfl⟩⟩
        show ((((x + k) % n + 1) % n : Nat) : Int) = _
        congr 1
        rw [Nat.mod_add_mod, Nat.mod_add_mod, Nat.add_right_comm]
theorem two_made {n : Nat} (hn : n ≤ 100000) (w : World) : ResB w ((w.alloc (.cells (Array.replicate n (.bool false)) 4)).alloc (.cells (Array.replicate n (.bool false)) 4)).drew (some ⟨w.heap.size, 0, none⟩) n n (List.replicate n false) ∧ ResB w ((w.alloc (.cells (Array.replicate n (.bool false)) 4)).alloc (.cells (Array.replicate n (.bool false)) 4)).drew (some ⟨w.heap.size + 1, 0, none⟩) n n (List.replicate n false) ∧ Fr w ((w.alloc (.cells (Array.replicate n (.bool false)) 4)).alloc (.cells (Array.replicate n (.bool false)) 4)).drew := by
  rw [← List.toArray_replicate]
  have a := res_made hn w
  have b := res_made hn (w.alloc (.cells (List.replicate n (.bool false)).toArray 4))
  rw [World.size_alloc] at b
  exact ⟨⟨a.row.fr (fr_drew (fr_new (fr_refl _) _)), a.len, a.new⟩, ⟨b.row.fr (fr_drew (fr_refl _)), b.len, fun j hj => by have := b.new j hj; simp at this; omega⟩, fr_drew (fr_new (fr_new (fr_refl w) _) _)⟩
set_option maxHeartbeats 32000000 in
theorem turns_core {w : World} {A R : Option Addr} {n cc m rc : Nat} {c r0 : List Bool} {z y : Int} (hc : Has w w.heap.size A (bls c)) (hcn : c.length = n) (hr : Has w w.heap.size R (bls r0)) (hrn : r0.length = m) :
    Calls Try.prog 6 #[.slice A n cc, .slice R m rc, .int .i64 z, .int .i64 y] w fun e w' => e = .returned (.bool true) ∧ Below w.heap.size w w' := by
  rw [← bls_rows] at hc hr
  by_cases h1 : n = 0 ∨ 64 < n
  · have f1 := fr_refl w
    clear hc hr
    rcases h1 with h1 | h1
    · subst h1
      go_enter Try.func6, Try.ntmps6
      go_wp2_with (first | (go_at_call 8; with_reducible refine (awake_at (w := w)).mono ?_; rintro e w1 ⟨rfl, hf⟩) | fail)
      go_ret
      exact ⟨rfl, hf⟩
    · have h1z : 64 < (n : Int) := by omega
      have h2z : ((n : Int) == 0) = false := by simp; omega
      go_enter Try.func6, Try.ntmps6
      go_wp2_with (first | (go_at_call 8; with_reducible refine (awake_at (w := w)).mono ?_; rintro e w1 ⟨rfl, hf⟩) | fail)
      go_ret
      exact ⟨rfl, hf⟩
  have h1z : ¬ 64 < (n : Int) := by omega
  have h2z : ((n : Int) == 0) = false := by simp; omega
  have hn : 0 < n := by omega
  have hs : n ≤ 100000 := by omega
  have hlp := padL_len r0 n
  have c0 := pad_at (w := w) (c := rc) hr hrn hs
  have hh := hd_lt z hn
  have hk := hd_lt y hn
  have hr2 := red_hd z hn
  have hr3 := tmod_hd z hn
  have hs2 := red_hd y hn
  have hs3 := tmod_hd y hn
  obtain ⟨r, hr9⟩ : ∃ r, r = padL r0 n := ⟨_, rfl⟩
  obtain ⟨h, hh9⟩ : ∃ h, h = hd z n := ⟨_, rfl⟩
  obtain ⟨k, hk9⟩ : ∃ k, k = hd y n := ⟨_, rfl⟩
  rw [← hr9] at c0 hlp
  rw [← hh9] at hh hr2 hr3
  rw [← hk9] at hk hs2 hs3
  have u1 : IntKind.i64.wrap (z.tmod n) = z.tmod n := by rw [IntKind.wrap_i64]; omega
  have u2 : IntKind.i64.wrap (z.tmod n + n) = z.tmod n + n := by rw [IntKind.wrap_i64]; omega
  have u3 : IntKind.i64.wrap (h : Int) = (h : Int) := by rw [IntKind.wrap_i64]; omega
  have u4 : IntKind.i64.wrap (y.tmod n) = y.tmod n := by rw [IntKind.wrap_i64]; omega
  have u5 : IntKind.i64.wrap (y.tmod n + n) = y.tmod n + n := by rw [IntKind.wrap_i64]; omega
  have u6 : IntKind.i64.wrap (k : Int) = (k : Int) := by rw [IntKind.wrap_i64]; omega
  have hz : ¬ ((n : Int) = 0) := by omega
  have hz2 : ¬ (n = 0) := by omega
  have HC := keep hc
  have Hcn := keep hcn
  have Hlp := keep hlp
  have C0 := keep c0
  clear hr hrn hc hcn hlp c0 hr9 hh9 hk9 hr3 hs3
  have hww := fr_refl w
  have hmk := make_bools hs
  go_enter Try.func6, Try.ntmps6
  go_wp2_with (first
    | (go_at_call 15; with_reducible refine C0.out.mono ?_; rintro e w1 ⟨L1, d1, rfl, hz1⟩; clear C0)
    | fail)
  go_cut [13, 14] from 48 to 51 (fun s13 s14 W => ∃ g1 g2 : Nat, s13 = .slice (some ⟨g1, 0, none⟩) n n ∧ s14 = .slice (some ⟨g2, 0, none⟩) n n ∧ Hid (ResB w1 W (some ⟨g1, 0, none⟩) n n (List.replicate n false) ∧ ResB w1 W (some ⟨g2, 0, none⟩) n n (List.replicate n false) ∧ g1 ≠ g2 ∧ Fr w1 W))
  case first =>
    have T := two_made hs w1
    have HT := keep T
    clear T
    go_region
    all_goals
      go_wp2_with fail
      go_meet
      first
        | exact ⟨w1.heap.size, w1.heap.size + 1, rfl, rfl, keep ⟨HT.out.1, HT.out.2.1, by omega, HT.out.2.2⟩⟩
        | exact ⟨w1.heap.size + 1, w1.heap.size, rfl, rfl, keep ⟨HT.out.2.1, HT.out.1, by omega, HT.out.2.2⟩⟩
  obtain ⟨ga, gb, rfl, rfl, hab⟩ := hcut
  have HI1 : Hid (∃ la lb, ResB w1 wc (some ⟨ga, 0, none⟩) n n la ∧ ResB w1 wc (some ⟨gb, 0, none⟩) n n lb ∧ Fr w1 wc ∧ ∀ t, t < 0 → gd la ((t + k) % n) = gd c t ∧ gd lb ((t + k) % n) = gd r t) :=
    keep ⟨_, _, hab.out.1, hab.out.2.1, hab.out.2.2.2, fun t ht => by omega⟩
  have Hne := keep hab.out.2.2.1
  have FW1 := keep hz1.out.2
  obtain ⟨ba, oa, rfl, kc⟩ := has_cells HC.out Hcn.out hn
  obtain ⟨b1, o1, rfl, kr⟩ := has_cells hz1.out.1.has Hlp.out hn
  have KC := keep kc
  have KR := keep kr
  have Hz1 := keep hz1
  clear kc kr hab hz1
  go_wp2_with fail
  go_loopg [15] n (fun gg s15 wr => ∃ i : Nat, i + gg = n ∧ s15 = .int .i64 i ∧ Hid (∃ la lb, ResB w1 wr (some ⟨ga, 0, none⟩) n n la ∧ ResB w1 wr (some ⟨gb, 0, none⟩) n n lb ∧ Fr w1 wr ∧ ∀ t, t < i → gd la ((t + k) % n) = gd c t ∧ gd lb ((t + k) % n) = gd r t))
  case atStart => exact ⟨0, by omega, rfl, HI1⟩
  case round =>
    obtain ⟨i, hi, rfl, HI⟩ := hrel
    obtain ⟨la, lb, hA, hB, hF, hg⟩ := HI.out
    have HA := keep hA
    have HB := keep hB
    have HF := keep hF
    have HG := keep hg
    clear hA hB hF hg HI HI1
    by_cases hlt : i < n
    · obtain ⟨ka, hka⟩ : ∃ q : Nat, q = (i + k) % n := ⟨_, rfl⟩
      have hkl : ka < n := by rw [hka]; exact Nat.mod_lt _ hn
      have q1 := KC.out wr.drew (fr_step FW1.out (fr_drew HF.out)) i hlt
      have q2 := KR.out wr.drew (fr_drew HF.out) i hlt
      have hin : (i : Int) < (n : Int) := by omega
      have wi : IntKind.i64.wrap ((i : Int) + 1) = (i : Int) + 1 := by rw [IntKind.wrap_i64]; omega
      have wa : IntKind.i64.wrap ((i : Int) + (k : Int)) = (i : Int) + (k : Int) := by rw [IntKind.wrap_i64]; omega
      have wt : ((i : Int) + (k : Int)) % (n : Int) = (ka : Int) := by rw [hka, ← Int.natCast_add, ← Int.natCast_emod]
      have wtt : ((i : Int) + (k : Int)).tmod (n : Int) = (ka : Int) := by rw [hka, ← Int.natCast_add, ← Int.ofNat_tmod]
      have wx : IntKind.i64.wrap (ka : Int) = (ka : Int) := by rw [IntKind.wrap_i64]; omega
      have hkz : (ka : Int) < (n : Int) := by omega
      have hk0 : (0 : Int) ≤ (ka : Int) := by omega
      have hi0 : (0 : Int) ≤ (i : Int) := by omega
      have Hin := keep hlt
      have Hka := keep hkl
      have Hkd := keep hka
      clear hlt hka
      have hrD : (fun W' : World => W'.cell? ⟨ba, oa + i, none⟩ = some (.bool (gd c i)) ∧ W'.cell? ⟨b1, o1 + i, none⟩ = some (.bool (gd r i))) wr.drew := ⟨q1, q2⟩
      go_wp2_with fail
      refine wp_region_noPanic ?_
      refine wp_region_held_drew (S := fun W' : World => W'.cell? ⟨ba, oa + i, none⟩ = some (.bool (gd c i)) ∧ W'.cell? ⟨b1, o1 + i, none⟩ = some (.bool (gd r i))) (by kernel_rfl) hrD (fun hHeld => ?_)
      change wpAnyH _ _ _ _ _ _ _ _ _
      refine wpAnyH_take (i := 0) (v := ?_) rfl (by kernel_rfl) (by kernel_rfl) (by kernel_rfl) (fun _ _ _ h => h) (Or.inl ⟨by rfl, ?_⟩) (by assumption) ?_
      rotate_left
      · intro w' hSw
        try dsimp only at hSw
        go_simp
        try with_reducible rfl
      try simp only [List.getElem_toArray, List.getElem_cons_zero, Act.put, List.setIfInBounds_toArray, List.set_cons_zero, List.set_cons_succ]
      refine wpAnyH_take (i := 1) (v := ?_) rfl (by kernel_rfl) (by kernel_rfl) (by kernel_rfl) (fun _ _ _ h => h) (Or.inl ⟨by rfl, ?_⟩) (by assumption) ?_
      rotate_left
      · intro w' hSw
        try dsimp only at hSw
        go_simp
        try with_reducible rfl
      try simp only [List.getElem_toArray, List.getElem_cons_succ, List.getElem_cons_zero, Act.put, List.setIfInBounds_toArray, List.set_cons_zero, List.set_cons_succ]
      refine wpAnyH_take (i := 2) (v := ?_) rfl (by kernel_rfl) (by kernel_rfl) (by kernel_rfl) (fun _ _ _ h => h) (Or.inl ⟨by rfl, ?_⟩) (by assumption) ?_
      rotate_left
      · intro w' hSw
        try dsimp only at hSw
        go_simp
        try with_reducible rfl
      try simp only [List.getElem_toArray, List.getElem_cons_succ, List.getElem_cons_zero, Act.put, List.setIfInBounds_toArray, List.set_cons_zero, List.set_cons_succ]
      refine wpAnyH_take (i := 3) (v := ?_) rfl (by kernel_rfl) (by kernel_rfl) (by kernel_rfl) (fun _ _ _ h => h) (Or.inl ⟨by rfl, ?_⟩) (by assumption) ?_
      rotate_left
      · intro w' hSw
        try dsimp only at hSw
        go_simp
        try with_reducible rfl
      try simp only [List.getElem_toArray, List.getElem_cons_succ, List.getElem_cons_zero, Act.put, List.setIfInBounds_toArray, List.set_cons_zero, List.set_cons_succ]
      refine wpAnyH_take (i := 4) (v := ?_) rfl (by kernel_rfl) (by kernel_rfl) (by kernel_rfl) (fun _ _ _ h => h) (Or.inl ⟨by rfl, ?_⟩) (by assumption) ?_
      rotate_left
      · intro w' hSw
        try dsimp only at hSw
        go_simp
        try with_reducible rfl
      try simp only [List.getElem_toArray, List.getElem_cons_succ, List.getElem_cons_zero, Act.put, List.setIfInBounds_toArray, List.set_cons_zero, List.set_cons_succ]
      refine wpAnyH_take (i := 5) (v := ?_) rfl (by kernel_rfl) (by kernel_rfl) (by kernel_rfl) (fun _ _ _ h => h) (Or.inl ⟨by rfl, ?_⟩) (by assumption) ?_
      rotate_left
      · intro w' hSw
        try dsimp only at hSw
        go_simp
        try with_reducible rfl
      try simp only [List.getElem_toArray, List.getElem_cons_succ, List.getElem_cons_zero, Act.put, List.setIfInBounds_toArray, List.set_cons_zero, List.set_cons_succ]
      refine wpAnyH_take (i := 6) (v := ?_) rfl (by kernel_rfl) (by kernel_rfl) (by kernel_rfl) (fun _ _ _ h => h) (Or.inl ⟨by rfl, ?_⟩) (by assumption) ?_
      rotate_left
      · intro w' hSw
        try dsimp only at hSw
        go_simp
        try with_reducible rfl
      try simp only [List.getElem_toArray, List.getElem_cons_succ, List.getElem_cons_zero, Act.put, List.setIfInBounds_toArray, List.set_cons_zero, List.set_cons_succ]
      refine wpAnyH_take (i := 7) (v := ?_) rfl (by kernel_rfl) (by kernel_rfl) (by kernel_rfl) (fun _ _ _ h => h) (Or.inl ⟨by rfl, ?_⟩) (by assumption) ?_
      rotate_left
      · intro w' hSw
        try dsimp only at hSw
        go_simp
        try with_reducible rfl
      try simp only [List.getElem_toArray, List.getElem_cons_succ, List.getElem_cons_zero, Act.put, List.setIfInBounds_toArray, List.set_cons_zero, List.set_cons_succ]
      refine wpAnyH_take (i := 8) (v := ?_) rfl (by kernel_rfl) (by kernel_rfl) (by kernel_rfl) (fun _ _ _ h => h) (Or.inl ⟨by rfl, ?_⟩) (by assumption) ?_
      rotate_left
      · intro w' hSw
        try dsimp only at hSw
        go_simp
        try with_reducible rfl
      try simp only [List.getElem_toArray, List.getElem_cons_succ, List.getElem_cons_zero, Act.put, List.setIfInBounds_toArray, List.set_cons_zero, List.set_cons_succ]
      refine wpAnyH_take (i := 9) (v := ?_) rfl (by kernel_rfl) (by kernel_rfl) (by kernel_rfl) (fun _ _ _ h => h) (Or.inl ⟨by rfl, ?_⟩) (by assumption) ?_
      rotate_left
      · intro w' hSw
        try dsimp only at hSw
        go_simp
        try with_reducible rfl
      try simp only [List.getElem_toArray, List.getElem_cons_succ, List.getElem_cons_zero, Act.put, List.setIfInBounds_toArray, List.set_cons_zero, List.set_cons_succ]
      refine wpAnyH_take (i := 10) (v := ?_) rfl (by kernel_rfl) (by kernel_rfl) (by kernel_rfl) (fun _ _ _ h => h) (Or.inl ⟨by rfl, ?_⟩) (by assumption) ?_
      rotate_left
      · intro w' hSw
        try dsimp only at hSw
        go_simp
        try with_reducible rfl
      try simp only [List.getElem_toArray, List.getElem_cons_succ, List.getElem_cons_zero, Act.put, List.setIfInBounds_toArray, List.set_cons_zero, List.set_cons_succ]
      refine wpAnyH_take (i := 11) (v := ?_) rfl (by kernel_rfl) (by kernel_rfl) (by kernel_rfl) (fun _ _ _ h => h) (Or.inl ⟨by rfl, ?_⟩) (by assumption) ?_
      rotate_left
      · intro w' hSw
        try dsimp only at hSw
        go_simp
        try with_reducible rfl
      try simp only [List.getElem_toArray, List.getElem_cons_succ, List.getElem_cons_zero, Act.put, List.setIfInBounds_toArray, List.set_cons_zero, List.set_cons_succ]
      refine wpAnyH_take (i := 12) (v := ?_) rfl (by kernel_rfl) (by kernel_rfl) (by kernel_rfl) (fun _ _ _ h => h) (Or.inl ⟨by rfl, ?_⟩) (by assumption) ?_
      rotate_left
      · intro w' hSw
        try dsimp only at hSw
        go_simp
        try with_reducible rfl
      try simp only [List.getElem_toArray, List.getElem_cons_succ, List.getElem_cons_zero, Act.put, List.setIfInBounds_toArray, List.set_cons_zero, List.set_cons_succ]
      refine wpAnyH_take (i := 13) (v := ?_) rfl (by kernel_rfl) (by kernel_rfl) (by kernel_rfl) (fun _ _ _ h => h) (Or.inl ⟨by rfl, ?_⟩) (by assumption) ?_
      rotate_left
      · intro w' hSw
        try dsimp only at hSw
        go_simp
        try with_reducible rfl
      try simp only [List.getElem_toArray, List.getElem_cons_succ, List.getElem_cons_zero, Act.put, List.setIfInBounds_toArray, List.set_cons_zero, List.set_cons_succ]
      refine wpAnyH_take (i := 14) (v := ?_) rfl (by kernel_rfl) (by kernel_rfl) (by kernel_rfl) (fun _ _ _ h => h) (Or.inl ⟨by rfl, ?_⟩) (by assumption) ?_
      rotate_left
      · intro w' hSw
        try dsimp only at hSw
        go_simp
        try with_reducible rfl
      try simp only [List.getElem_toArray, List.getElem_cons_succ, List.getElem_cons_zero, Act.put, List.setIfInBounds_toArray, List.set_cons_zero, List.set_cons_succ]
      refine wpAnyH_take (i := 15) (v := ?_) rfl (by kernel_rfl) (by kernel_rfl) (by kernel_rfl) (fun _ _ _ h => h) (Or.inl ⟨by rfl, ?_⟩) (by assumption) ?_
      rotate_left
      · intro w' hSw
        try dsimp only at hSw
        go_simp
        try with_reducible rfl
      try simp only [List.getElem_toArray, List.getElem_cons_succ, List.getElem_cons_zero, Act.put, List.setIfInBounds_toArray, List.set_cons_zero, List.set_cons_succ]
      refine wpAnyH_take (i := 16) (v := ?_) rfl (by kernel_rfl) (by kernel_rfl) (by kernel_rfl) (fun _ _ _ h => h) (Or.inl ⟨by rfl, ?_⟩) (by assumption) ?_
      rotate_left
      · intro w' hSw
        try dsimp only at hSw
        go_simp
        try with_reducible rfl
      try simp only [List.getElem_toArray, List.getElem_cons_succ, List.getElem_cons_zero, Act.put, List.setIfInBounds_toArray, List.set_cons_zero, List.set_cons_succ]
      refine wpAnyH_take (i := 17) (v := ?_) rfl (by kernel_rfl) (by kernel_rfl) (by kernel_rfl) (fun _ _ _ h => h) (Or.inl ⟨by rfl, ?_⟩) (by assumption) ?_
      rotate_left
      · intro w' hSw
        try dsimp only at hSw
        go_simp
        try with_reducible rfl
      try simp only [List.getElem_toArray, List.getElem_cons_succ, List.getElem_cons_zero, Act.put, List.setIfInBounds_toArray, List.set_cons_zero, List.set_cons_succ]
      refine wpAnyH_take (i := 18) (v := ?_) rfl (by kernel_rfl) (by kernel_rfl) (by kernel_rfl) (fun _ _ _ h => h) (Or.inl ⟨by rfl, ?_⟩) (by assumption) ?_
      rotate_left
      · intro w' hSw
        try dsimp only at hSw
        go_simp
        try with_reducible rfl
      try simp only [List.getElem_toArray, List.getElem_cons_succ, List.getElem_cons_zero, Act.put, List.setIfInBounds_toArray, List.set_cons_zero, List.set_cons_succ]
      refine wpAnyH_take (i := 19) (v := ?_) rfl (by kernel_rfl) (by kernel_rfl) (by kernel_rfl) (fun _ _ _ h => h) (Or.inl ⟨by rfl, ?_⟩) (by assumption) ?_
      rotate_left
      · intro w' hSw
        try dsimp only at hSw
        go_simp
        try with_reducible rfl
      try simp only [List.getElem_toArray, List.getElem_cons_succ, List.getElem_cons_zero, Act.put, List.setIfInBounds_toArray, List.set_cons_zero, List.set_cons_succ]
      refine wpAnyH_take (i := 20) (v := ?_) rfl (by kernel_rfl) (by kernel_rfl) (by kernel_rfl) (fun _ _ _ h => h) (Or.inl ⟨by rfl, ?_⟩) (by assumption) ?_
      rotate_left
      · intro w' hSw
        try dsimp only at hSw
        go_simp
        try with_reducible rfl
      try simp only [List.getElem_toArray, List.getElem_cons_succ, List.getElem_cons_zero, Act.put, List.setIfInBounds_toArray, List.set_cons_zero, List.set_cons_succ]
      refine wpAnyH_ready (rs := [21]) (by kernel_rfl) (by simp) ?_
      refine AllReadyH.cons rfl (fun K hK0 => ?_) AllReadyH.nil
      refine step_store_rw (cf := bc) (x := gd c i) (j := ka) bool_info rfl (.tmp 77) (.tmp 72) rfl (by rw [Nat.mul_one, Nat.zero_add]; rfl) rfl rfl (bc_one _) HA.out.row (bc_wid _) HA.out.len Hka.out ?_
      intro W1 ha1 ka1
      have HA1 := keep ha1
      have KA1 := keep ka1
      clear ha1 ka1
      have q1 := KC.out W1 (fr_step FW1.out ((fr_drew HF.out).step_chg KA1.out fun j e => by have := HA.out.new j (by rw [e]; rfl); omega)) i Hin.out
      have q2 := KR.out W1 ((fr_drew HF.out).step_chg KA1.out fun j e => by have := HA.out.new j (by rw [e]; rfl); omega) i Hin.out
      have hB1 := (HB.out.row.fr (fr_drew (fr_refl wr))).chg KA1.out fun j hj e => Hne.out (by rw [← e]; exact (Option.some.inj hj).symm)
      have HB1 := keep hB1
      clear hB1
      refine hK0.out _ _ ⟨q1, q2⟩ (fun _ => ?_)
      clear hK0 K
      try simp only [List.getElem_toArray, List.getElem_cons_succ, List.getElem_cons_zero, Act.put, List.setIfInBounds_toArray, List.set_cons_zero, List.set_cons_succ]
      refine wpAnyH_take (i := 22) (v := ?_) rfl (by kernel_rfl) (by kernel_rfl) (by kernel_rfl) (fun _ _ _ h => h) (Or.inl ⟨by rfl, ?_⟩) (by assumption) ?_
      rotate_left
      · intro w' hSw
        try dsimp only at hSw
        go_simp
        try with_reducible rfl
      try simp only [List.getElem_toArray, List.getElem_cons_succ, List.getElem_cons_zero, Act.put, List.setIfInBounds_toArray, List.set_cons_zero, List.set_cons_succ]
      refine wpAnyH_ready (rs := [23]) (by kernel_rfl) (by simp) ?_
      refine AllReadyH.cons rfl (fun K hK0 => ?_) AllReadyH.nil
      refine step_store_rw (cf := bc) (x := gd r i) (j := ka) bool_info rfl (.tmp 78) (.tmp 76) rfl (by rw [Nat.mul_one, Nat.zero_add]; rfl) rfl rfl (bc_one _) HB1.out (bc_wid _) HB.out.len Hka.out ?_
      intro W2 hb2 kb2
      have HB2 := keep hb2
      have KB2 := keep kb2
      clear hb2 kb2
      have FW := keep (((fr_drew HF.out).step_chg KA1.out fun j e => by have := HA.out.new j (by rw [e]; rfl); omega).step_chg KB2.out fun j e => by have := HB.out.new j (by rw [e]; rfl); omega)
      have p1 := KC.out W2 (fr_step FW1.out FW.out) i Hin.out
      have p2 := KR.out W2 FW.out i Hin.out
      have hA2 := HA1.out.chg KB2.out fun j hj e => Hne.out (by rw [← e]; exact Option.some.inj hj)
      have HA2 := keep hA2
      clear hA2
      refine hK0.out _ _ ⟨p1, p2⟩ (fun _ => ?_)
      clear hK0 K
      try simp only [List.getElem_toArray, List.getElem_cons_succ, List.getElem_cons_zero, Act.put, List.setIfInBounds_toArray, List.set_cons_zero, List.set_cons_succ]
      refine wpAnyH_done (by kernel_rfl) ?_ _
      refine NoPanic.normal ?_
      go_wp2_with fail
      go_roundg (gk - 1)
      case measure => omega
      case rel =>
        refine ⟨i + 1, by omega, rfl, keep ⟨la.set ka (gd c i), lb.set ka (gd r i), ⟨HA2.out, by rw [List.length_set]; exact HA.out.len, HA.out.new⟩, ⟨HB2.out, by rw [List.length_set]; exact HB.out.len, HB.out.new⟩, FW.out, fun t ht => ?_⟩⟩
        rw [gd_put _ (by rw [HA.out.len]; exact Hka.out), gd_put _ (by rw [HB.out.len]; exact Hka.out)]
        by_cases e : t = i
        · subst e
          rw [if_pos Hkd.out.symm, if_pos Hkd.out.symm]
          exact ⟨rfl, rfl⟩
        · have hne : ¬ (t + k) % n = ka := fun e2 => e (add_mod_inj (h := k) (n := n) (by have := Hin.out; omega) Hin.out (by rw [Nat.add_comm k t, Nat.add_comm k i, e2, Hkd.out]))
          rw [if_neg hne, if_neg hne]
          exact HG.out t (by omega)
    · obtain rfl : i = n := by omega
      obtain ⟨q, hq, e1, e2, hcase⟩ := turns_math (h := h) (k := k) Hcn.out Hlp.out HA.out.len HB.out.len hn hh HG.out
      have fr0 := fr_step FW1.out HF.out
      have FR0 := keep fr0
      have cs1 := sweep_at (w := wr) (C := some ⟨ba, oa, none⟩) (R := some ⟨b1, o1, none⟩) (cc := cc) (rc := d1) (z := (h : Int)) (HC.out.fr (Nat.le_refl _) fr0 |> has_all) Hcn.out ((Hz1.out.out.1.fr HF.out).has) Hlp.out hs
      have cs2 := fun W (hW : Fr wr W) => sweep_at (w := W) (C := some ⟨ga, 0, none⟩) (R := some ⟨gb, 0, none⟩) (cc := i) (rc := i) (z := (h : Int) + (k : Int)) (HA.out.fr hW).has HA.out.len (HB.out.fr hW).has HB.out.len hs
      rw [e1] at cs1
      simp only [e2] at cs2
      obtain ⟨af, haf⟩ : ∃ v : Nat, v = (q + k) % i := ⟨_, rfl⟩
      have hal : af < i := by rw [haf]; exact Nat.mod_lt _ hn
      simp only [← haf] at cs2
      have va : IntKind.i64.wrap ((h : Int) + (k : Int)) = (h : Int) + (k : Int) := by rw [IntKind.wrap_i64]; omega
      have vb : IntKind.i64.wrap ((q : Int) + (k : Int)) = (q : Int) + (k : Int) := by rw [IntKind.wrap_i64]; omega
      have vt : ((q : Int) + (k : Int)) % (i : Int) = (af : Int) := by rw [haf, ← Int.natCast_add, ← Int.natCast_emod]
      have vx : IntKind.i64.wrap (af : Int) = (af : Int) := by rw [IntKind.wrap_i64]; omega
      clear hlt e1 e2 haf fr0 hz
      rcases hcase with ⟨p1, p2⟩ | ⟨p, hp, p1, p2⟩
      · rw [p1] at cs1
        simp only [p2] at cs2
        have CS1 := keep cs1
        have CS2 := keep cs2
        clear p1 p2 cs1 cs2
        go_wp2_with (first
          | (go_at_call 9; with_reducible refine CS1.out.mono ?_; rintro e w4 ⟨L4, k4, d4, rfl, hz4⟩; clear CS1; have f4 := hz4.out.2)
          | (go_at_call 9; with_reducible refine (CS2.out w4 f4).mono ?_; rintro e w5 ⟨L5, k5, d5, rfl, hz5⟩)
          | (go_at_call 8; with_reducible refine (awake_at (w := w5)).mono ?_; rintro e w6 ⟨rfl, hf6⟩)
          | fail)
        go_ret
        exact ⟨rfl, fr_step FR0.out (fr_step hz4.out.2 (fr_step hz5.out.2 hf6))⟩
      · rw [p1] at cs1
        simp only [p2] at cs2
        obtain ⟨pf, hpf⟩ : ∃ v : Nat, v = (p + k) % i := ⟨_, rfl⟩
        have hpl : pf < i := by rw [hpf]; exact Nat.mod_lt _ hn
        simp only [← hpf] at cs2
        have xb : IntKind.i64.wrap ((p : Int) + (k : Int)) = (p : Int) + (k : Int) := by rw [IntKind.wrap_i64]; omega
        have xt : ((p : Int) + (k : Int)) % (i : Int) = (pf : Int) := by rw [hpf, ← Int.natCast_add, ← Int.natCast_emod]
        have xx : IntKind.i64.wrap (pf : Int) = (pf : Int) := by rw [IntKind.wrap_i64]; omega
        have xp : ¬ ((p : Int) < 0) := by omega
        have CS1 := keep cs1
        have CS2 := keep cs2
        clear p1 p2 cs1 cs2 hpf
        go_wp2_with (first
          | (go_at_call 9; with_reducible refine CS1.out.mono ?_; rintro e w4 ⟨L4, k4, d4, rfl, hz4⟩; clear CS1; have f4 := hz4.out.2)
          | (go_at_call 9; with_reducible refine (CS2.out w4 f4).mono ?_; rintro e w5 ⟨L5, k5, d5, rfl, hz5⟩)
          | (go_at_call 8; with_reducible refine (awake_at (w := w5)).mono ?_; rintro e w6 ⟨rfl, hf6⟩)
          | fail)
        go_ret
        exact ⟨rfl, fr_step FR0.out (fr_step hz4.out.2 (fr_step hz5.out.2 hf6))⟩
end Go.Proofs.Ytifmldlbhcpaiaa
