/- ClockGoes, walked. -/
import Derived.Test.YtifmldlbhcpaiaaCkAl
namespace Go.Proofs.Ytifmldlbhcpaiaa
set_option linter.unusedVariables false
set_option linter.unusedSimpArgs false
set_option maxRecDepth 100000
open Go.RowKit
def anyB (c : List Bool) : Nat → Bool
  | 0 => false
  | j + 1 => anyB c j || gd c j
def bareB (c r : List Bool) : Nat → Bool
  | 0 => false
  | j + 1 => bareB c r j || (gd c j && !gd r j)
theorem anyB_no {c : List Bool} {j : Nat} (h : anyB c j = false) (i : Nat) (hi : i < j) : gd c i = false := by
  induction j with
  | zero => omega
  | succ j ih =>
    unfold anyB at h
    simp at h
    by_cases e : i = j
    · rw [e]; exact h.2
    · exact ih h.1 (by omega)
theorem anyB_yes {c : List Bool} {j : Nat} (h : anyB c j = true) : ∃ i, i < j ∧ gd c i = true := by
  induction j with
  | zero => cases h
  | succ j ih =>
    unfold anyB at h
    cases hj : gd c j with
    | true => exact ⟨j, by omega, hj⟩
    | false =>
      rw [hj] at h
      simp at h
      obtain ⟨i, h1, h2⟩ := ih h
      exact ⟨i, by omega, h2⟩
theorem bareB_no {c r : List Bool} {j : Nat} (h : ∀ i, i < j → gd c i = true → gd r i = true) : bareB c r j = false := by
  induction j with
  | zero => rfl
  | succ j ih =>
    unfold bareB
    rw [ih fun i hi => h i (by omega)]
    cases hj : gd c j with
    | false => rfl
    | true => rw [h j (by omega) hj]; rfl
/-- What a sweep keeps. -/
theorem goes_math {c r : List Bool} {z : Int} {n : Nat} (hc : c.length = n) (hr : r.length = n) (hn : 0 < n) :
    (swpL c r z).2.2.length = n ∧ (∀ i, gd (swpL c r z).2.2 i = true → gd r i = true) ∧ (∀ i, gd c i = false → gd (swpL c r z).2.2 i = gd r i) ∧
    ((anyB c n = false ∧ swpL c r z = (-1, (hd z n : Int), r)) ∨ (anyB c n = true ∧ ∃ k : Nat, k < n ∧ (swpL c r z).1 = (k : Int) ∧ (swpL c r z).2.1 = (((k + 1) % n : Nat) : Int) ∧ gd c k = true ∧ gd (swpL c r z).2.2 k = false ∧ (gd r k = true → bareB c r n = false))) := by
  have hh := hd_lt z hn
  cases hq : sweepL c (vis (hd z n) n (2 * n)) r with
  | mk p m =>
    have hl := sweep_len c (vis (hd z n) n (2 * n)) r
    have h1 := fun i => sweep_mono (c := c) (ks := vis (hd z n) n (2 * n)) (l := r) (i := i)
    have h2 := fun i => sweep_kept (c := c) (ks := vis (hd z n) n (2 * n)) (l := r) (i := i)
    rw [hq] at hl
    simp only [hq] at h1 h2
    rw [swp_yes z hc hr hn rfl hq]
    refine ⟨hl.trans hr, h1, h2, ?_⟩
    cases p with
    | none =>
      left
      have hall : ∀ i, gd c i = false := fun i => by
        cases hi : gd c i with
        | false => rfl
        | true =>
          have hin := gd_lt hi
          rw [vis_twice] at hq
          have := sweep_two hq (i := i) (vis_mem hh (by omega)) (vis_mem hh (by omega))
          rw [hi] at this
          cases this
      refine ⟨?_, ?_⟩
      · cases ha : anyB c n with
        | false => rfl
        | true =>
          obtain ⟨i, _, hi⟩ := anyB_yes ha
          rw [hall i] at hi
          cases hi
      · have : m = r := gd_ext hl fun i _ => h2 i (hall i)
        rw [this]
        rfl
    | some k =>
      right
      obtain ⟨_, hck, hmk⟩ := sweep_some hq
      have hk : k < n := by have := gd_lt hck; omega
      refine ⟨?_, k, hk, rfl, rfl, hck, hmk, fun hrk => bareB_no fun i hi hci => ?_⟩
      · cases ha : anyB c n with
        | true => rfl
        | false =>
          have := anyB_no ha k hk
          rw [hck] at this
          cases this
      · rw [vis_twice] at hq
        exact sweep_first (vis_nodup (Nat.le_refl _)) hq hrk (vis_mem hh hi) hci
/-- The cells of a row, in each later world. -/
theorem has_cells {w : World} {A : Option Addr} {n : Nat} {c : List Bool} (h : Has w w.heap.size A (rows bc c)) (hcn : c.length = n) (hn : 0 < n) : ∃ b off, A = some ⟨b, off, none⟩ ∧ ∀ W, Fr w W → ∀ i, i < n → W.cell? ⟨b, off + i, none⟩ = some (.bool (gd c i)) := by
  obtain ⟨b, off, rfl, hb, hr⟩ := has_rows h (bc_wid c) (by decide) (by intro e; rw [e] at hcn; simp at hcn; omega)
  refine ⟨b, off, rfl, fun W hW i hi => ?_⟩
  have := elem_cell0 hr (bc_wid c) hb (gd_get (l := c) (k := i) (by omega)) (u := .bool (gd c i)) rfl W hW
  rw [Nat.mul_one] at this
  exact this
theorem fr_drewN {a w : World} (h : Fr a w) (k : Nat) : Fr a (w.drewN k) := ⟨h.os, h.tape, h.output, h.size, h.block⟩
theorem goes_combo {a b d : Bool} (h1 : d = true → b = true) (h2 : a = false → d = b) : (a = false ∧ b = false ∧ d = false) ∨ (a = false ∧ b = true ∧ d = true) ∨ (a = true ∧ b = false ∧ d = false) ∨ (a = true ∧ b = true ∧ d = false) ∨ (a = true ∧ b = true ∧ d = true) := by
  cases a <;> cases b <;> cases d <;> simp_all
set_option maxHeartbeats 32000000 in
theorem goes_core {w : World} {A R : Option Addr} {n cc m rc : Nat} {c r0 : List Bool} {z : Int} (hc : Has w w.heap.size A (bls c)) (hcn : c.length = n) (hr : Has w w.heap.size R (bls r0)) (hrn : r0.length = m) :
    Calls Try.prog 4 #[.slice A n cc, .slice R m rc, .int .i64 z] w fun e w' => e = .returned (.bool true) ∧ Below w.heap.size w w' := by
  rw [← bls_rows] at hc hr
  by_cases h1 : n = 0 ∨ 64 < n
  · have f1 := fr_refl w
    clear hc hr
    rcases h1 with h1 | h1
    · subst h1
      go_enter Try.func4, Try.ntmps4
      go_wp2_with (first | (go_at_call 8; with_reducible refine (awake_at (w := w)).mono ?_; rintro e w1 ⟨rfl, hf⟩) | fail)
      go_ret
      exact ⟨rfl, hf⟩
    · have h1z : 64 < (n : Int) := by omega
      have h2z : ((n : Int) == 0) = false := by simp; omega
      go_enter Try.func4, Try.ntmps4
      go_wp2_with (first | (go_at_call 8; with_reducible refine (awake_at (w := w)).mono ?_; rintro e w1 ⟨rfl, hf⟩) | fail)
      go_ret
      exact ⟨rfl, hf⟩
  have h1z : ¬ 64 < (n : Int) := by omega
  have h2z : ((n : Int) == 0) = false := by simp; omega
  have hn : 0 < n := by omega
  have hs : n ≤ 100000 := by omega
  have hlp := padL_len r0 n
  have c0 := pad_at (w := w) (c := rc) hr hrn hs
  have hh := hd_lt z hn
  obtain ⟨m1, m2, m3, m4⟩ := goes_math (z := z) hcn hlp hn
  have c1 := fun W L lc (hW : Fr w W) (hL : ResB w W L n lc (padL r0 n)) => sweep_at (w := W) (C := A) (R := L) (cc := cc) (rc := lc) (z := z) (hc.fr (Nat.le_refl _) hW |> has_all) hcn hL.has hL.len hs
  have HC := keep hc
  have Hcn := keep hcn
  have Hlp := keep hlp
  clear hr hrn hc hcn hlp
  revert c0 c1 m1 m2 m3 m4 Hlp
  generalize padL r0 n = r
  generalize hsw : swpL c r z = s
  obtain ⟨p, q, l⟩ := s
  intro c0 m1 m2 m3 m4 c1 Hlp
  simp only at m1 m2 m3 m4 c1
  have hp : -1 ≤ p ∧ p < (n : Int) := by
    rcases m4 with ⟨_, e⟩ | ⟨_, k, hk, e, _⟩
    · injection e with e _
      omega
    · omega
  have hp1 : ¬ p < -1 := by omega
  have hp2 : ¬ (n : Int) ≤ p := by omega
  have C0 := keep c0
  have C1 := keep c1
  have M1 := keep m1
  have M2 := keep m2
  have M3 := keep m3
  have M4 := keep m4
  clear c0 c1 m1 m2 m3 m4 hsw hp
  have hww := fr_refl w
  go_enter Try.func4, Try.ntmps4
  go_wp2_with (first
    | (go_at_call 15; with_reducible refine C0.out.mono ?_; rintro e w1 ⟨L1, d1, rfl, hz1⟩; clear C0)
    | (go_at_call 9; with_reducible refine (C1.out w1 L1 d1 hz1.out.2 hz1.out.1).mono ?_; rintro e w2 ⟨L2, k2, d2, rfl, hz2⟩; clear C1; have e2 := hz2.out.1.len; rw [M1.out] at e2; subst e2)
    | fail)
  have fw2 := fr_step hz1.out.2 hz2.out.2
  have FW2 := keep fw2
  obtain ⟨ba, oa, rfl, kc⟩ := has_cells HC.out Hcn.out hn
  obtain ⟨b1, o1, rfl, kr⟩ := has_cells hz1.out.1.has Hlp.out hn
  obtain ⟨b2, o2, rfl, kl⟩ := has_cells hz2.out.1.has M1.out hn
  have KC := keep kc
  have KR := keep kr
  have KL := keep kl
  have Hz1 := keep hz1
  have Hz2 := keep hz2
  have hww2 := fr_refl w2
  clear kc kr kl fw2 hz1 hz2
  go_loopg [12, 13, 14] n (fun gg s12 s13 s14 wr => ∃ (j : Nat) (x y : Bool), j + gg = n ∧ s12 = .bool x ∧ s13 = .bool y ∧ s14 = .int .i64 j ∧ Hid (x = anyB c j) ∧ Hid (y = bareB c r j) ∧ Hid (Fr w2 wr))
  case atStart => exact ⟨0, false, false, by omega, rfl, rfl, rfl, keep rfl, keep rfl, keep hww2⟩
  case round =>
    obtain ⟨j, x, y, hj, rfl, rfl, rfl, Hx, Hy, HF⟩ := hrel
    by_cases hlt : j < n
    · have cX := KC.out wr (fr_step FW2.out HF.out) j hlt
      have rX := KR.out wr (fr_step Hz2.out.out.2 HF.out) j hlt
      have lX := KL.out wr HF.out j hlt
      have combo := goes_combo (M2.out j) (M3.out j)
      have hjn : (j : Int) < (n : Int) := by omega
      have wj : IntKind.i64.wrap ((j : Int) + 1) = (j : Int) + 1 := by rw [IntKind.wrap_i64]; omega
      have hwr := fr_refl wr
      have hwD := fr_drew hwr
      clear hlt
      rcases combo with ⟨e1, e2, e3⟩ | ⟨e1, e2, e3⟩ | ⟨e1, e2, e3⟩ | ⟨e1, e2, e3⟩ | ⟨e1, e2, e3⟩ <;> (rw [e1] at cX; rw [e2] at rX; rw [e3] at lX) <;> (have E1 := keep e1; have E2 := keep e2; clear e1 e2 e3) <;> cases x <;> cases y
      all_goals
        go_wp2_with fail
        go_quiet (fail)
        go_wp2_with fail
        go_roundg (gk - 1)
        case measure => omega
        case rel => exact ⟨j + 1, _, _, by omega, rfl, rfl, rfl, keep (by rw [anyB, ← Hx.out, E1.out]; rfl), keep (by rw [bareB, ← Hy.out, E1.out, E2.out]; rfl), keep (fr_drewN HF.out _)⟩
    · obtain rfl : j = n := by omega
      clear hlt
      rcases M4.out with ⟨a0, e⟩ | ⟨a0, k, hk, e1, e2, ek, el, er⟩
      · injection e with e1 e
        injection e with e2 e3
        rw [a0] at Hx
        obtain rfl := Hx.out
        have cs := same_two (w0 := w1) (w1 := w) (w := wr) (by have := Hz2.out.out.1.fr HF.out; rw [e3] at this; exact this) ((Hz1.out.out.1.fr Hz2.out.out.2).fr HF.out) hs
        have hr2 := red_hd z hn
        have hr3 := tmod_hd z hn
        rw [← e2] at hr2 hr3
        have hq : 0 ≤ q ∧ q < j := by rw [e2]; omega
        have w1 : IntKind.i64.wrap (z.tmod j) = z.tmod j := by rw [IntKind.wrap_i64]; omega
        have w2 : IntKind.i64.wrap (z.tmod j + j) = z.tmod j + j := by rw [IntKind.wrap_i64]; omega
        have w3 : IntKind.i64.wrap q = q := by rw [IntKind.wrap_i64]; omega
        have hjz : ¬ ((j : Int) = 0) := by omega
        have hjz2 : ¬ (j = 0) := by omega
        subst e1
        have CS := keep cs
        clear cs e2 e3 hr3 a0 Hx Hy hp1 hp2
        go_wp2_with (first
          | (go_at_call 11; with_reducible refine CS.out.mono ?_; rintro e w4 ⟨rfl, hf4⟩)
          | (go_at_call 8; with_reducible refine (awake_at (w := w4)).mono ?_; rintro e w5 ⟨rfl, hf5⟩)
          | fail)
        go_ret
        exact ⟨rfl, fr_step FW2.out (fr_step HF.out (fr_step hf4 hf5))⟩
      · rw [a0] at Hx
        obtain rfl := Hx.out
        have cX := KC.out wr (fr_step FW2.out HF.out) k hk
        have rX := KR.out wr (fr_step Hz2.out.out.2 HF.out) k hk
        have lX := KL.out wr HF.out k hk
        rw [ek] at cX
        rw [el] at lX
        subst e1
        obtain ⟨nx, hnx⟩ : ∃ v : Nat, v = (k + 1) % j := ⟨_, rfl⟩
        have hnl : nx < j := by rw [hnx]; exact Nat.mod_lt _ hn
        rw [← hnx] at e2
        subst e2
        have vt : ((k : Int) + 1) % (j : Int) = (nx : Int) := by rw [hnx, ← Int.natCast_succ, ← Int.natCast_emod]
        have va : IntKind.i64.wrap ((k : Int) + 1) = (k : Int) + 1 := by rw [IntKind.wrap_i64]; omega
        have vx : IntKind.i64.wrap (nx : Int) = (nx : Int) := by rw [IntKind.wrap_i64]; omega
        have hkz : (k : Int) < (j : Int) := by omega
        have hk0 : (0 : Int) ≤ (k : Int) := by omega
        have hjz : ¬ ((j : Int) = 0) := by omega
        have hjz2 : ¬ (j = 0) := by omega
        have Er := keep er
        clear a0 Hx hp1 hp2 hnx hk ek el er
        cases hrk : gd r k with
        | false =>
          rw [hrk] at rX
          clear hrk Hy
          cases y
          all_goals
            go_wp2_with (first
              | (go_at_call 8; with_reducible refine (awake_at (w := wr)).mono ?_; rintro e w5 ⟨rfl, hf5⟩)
              | fail)
            go_ret
            exact ⟨rfl, fr_step FW2.out (fr_step HF.out hf5)⟩
        | true =>
          rw [hrk] at rX
          have hy : y = false := Hy.out.trans (Er.out hrk)
          subst hy
          clear hrk Hy
          go_wp2_with (first
            | (go_at_call 8; with_reducible refine (awake_at (w := wr)).mono ?_; rintro e w5 ⟨rfl, hf5⟩)
            | fail)
          go_ret
          exact ⟨rfl, fr_step FW2.out (fr_step HF.out hf5)⟩
end Go.Proofs.Ytifmldlbhcpaiaa
