/- Package latch: 'slices.BinarySearch', 'slices.Insert' of numbers. -/
import Derived.Test.YtbnphkiipjgfaaaLaB
namespace Go.Proofs.Ytbnphkiipjgfaaa
set_option linter.unusedVariables false
set_option linter.unusedSimpArgs false
set_option maxRecDepth 100000
open Go.RowKit
set_option maxHeartbeats 1000000 in
theorem less_int (x y : Int) (w : World) : Calls Try.prog 56 #[.int .i64 x, .int .i64 y] w fun e w' => e = .returned (.bool (decide (x < y))) ∧ w = w' := by
  have h1 : Calls Try.prog 60 #[.int .i64 x] w fun e w' => e = .returned (.bool false) ∧ w = w' := by
    go_enter Try.func60, Try.ntmps60
    go_wp2_with fail
    go_ret
    exact ⟨by simp, rfl⟩
  go_enter Try.func56, Try.ntmps56
  go_wp2_with fail
  refine h1.mono ?_
  rintro e w' ⟨rfl, rfl⟩
  go_wp2_with fail
  go_ret
  exact ⟨rfl, rfl⟩
theorem nan_int (x : Int) (w : World) : Calls Try.prog 57 #[.int .i64 x] w fun e w' => e = .returned (.bool false) ∧ w = w' := by
  go_enter Try.func57, Try.ntmps57
  go_wp2_with fail
  go_ret
  exact ⟨by simp, rfl⟩
set_option maxHeartbeats 4000000 in
theorem search_at {w : World} {A : Option Addr} {n c B : Nat} {l : List Int} {t : Int} (hl : Has w B A (rows ic l)) (hB : B ≤ w.heap.size) (hn : l.length = n) (hsm : n ≤ 100000) (hs : l.Pairwise (· ≤ ·)) :
    Calls Try.prog 51 #[.slice A n c, .int .i64 t] w fun e w' => ∃ (k : Nat) (b : Value), e = .returned (.tuple #[.int .i64 k, b]) ∧ Hid (k = plT l t ∧ w = w') := by
  have Hl := keep hl
  have Hn := keep hn
  have Hs := keep hs
  clear hl hn hs
  go_enter Try.func51, Try.ntmps51
  go_wp2_with fail
  go_loopg [7, 8, 9] n (fun kx s7 s8 _ wr => ∃ lo hi : Nat, s7 = .int .i64 lo ∧ s8 = .int .i64 hi ∧ lo ≤ hi ∧ hi ≤ n ∧ hi - lo ≤ kx ∧ w = wr ∧ Hid ((∀ i z, i < lo → l[i]? = some z → z < t) ∧ (∀ i z, hi ≤ i → l[i]? = some z → t ≤ z)))
  case atStart => exact ⟨0, n, rfl, rfl, Nat.zero_le _, Nat.le_refl _, by omega, rfl, keep ⟨fun t z ht => absurd ht (Nat.not_lt_zero _), fun i z h1 h2 => by have := (List.getElem?_eq_some_iff.1 h2).1; rw [Hn.out] at this; omega⟩⟩
  case round =>
    obtain ⟨lo, hi, rfl, rfl, hlh, hin, hg, rfl, I⟩ := hrel
    by_cases hlt : lo < hi
    · obtain ⟨mid, hmid⟩ : ∃ mid, mid = (lo + hi) / 2 := ⟨_, rfl⟩
      have hm1 : lo ≤ mid ∧ mid < hi := by omega
      have hm : l[mid]? = some (l[mid]'(by rw [Hn.out]; omega)) := List.getElem?_eq_getElem _
      generalize l[mid]'(by rw [Hn.out]; omega) = m at hm
      obtain ⟨b, off, rfl, hb1, hr⟩ := has_rows Hl.out (ic_wid l) (by decide) (by intro e; rw [e] at hm; simp at hm)
      have lX := elem_cell0 hr (ic_wid l) (by omega) hm (u := .int .i64 m) rfl w (fr_refl w)
      rw [Nat.mul_one] at lX
      have Hm := keep hm
      have cL := less_int m t w
      clear hm hr
      subst hmid
      by_cases hq : m < t
      · rw [decide_eq_true hq] at cL
        go_wp2_with fail
        refine cL.mono ?_
        rintro e w' ⟨rfl, rfl⟩
        go_wp2_with fail
        go_roundg (hi - ((lo + hi) / 2 + 1))
        case measure => omega
        case rel =>
          exact ⟨(lo + hi) / 2 + 1, hi, by rw [show ((lo : Int) + (hi : Int)) / 2 + 1 = (((lo + hi) / 2 + 1 : Nat) : Int) by omega], rfl, by omega, hin, Nat.le_refl _, rfl, keep ⟨fun i z hi2 hz => (by
            have := sorted_le Hs.out hz Hm.out (by omega)
            omega), I.out.2⟩⟩
      · rw [decide_eq_false hq] at cL
        go_wp2_with fail
        refine cL.mono ?_
        rintro e w' ⟨rfl, rfl⟩
        go_wp2_with fail
        go_roundg ((lo + hi) / 2 - lo)
        case measure => omega
        case rel =>
          exact ⟨lo, (lo + hi) / 2, rfl, by rw [show ((lo : Int) + (hi : Int)) / 2 = (((lo + hi) / 2 : Nat) : Int) by omega], by omega, by omega, Nat.le_refl _, rfl, keep ⟨I.out.1, fun i z hi2 hz => (by
            have := sorted_le Hs.out Hm.out hz hi2
            omega)⟩⟩
    · obtain rfl : hi = lo := by omega
      have hp : hi = plT l t := pl_unique (by rw [Hn.out]; exact hin) I.out.1 (fun z hz => I.out.2 hi z (Nat.le_refl _) hz)
      have Hp := keep hp
      clear hp
      by_cases hn2 : hi < n
      · have hm : l[hi]? = some (l[hi]'(by rw [Hn.out]; omega)) := List.getElem?_eq_getElem _
        generalize l[hi]'(by rw [Hn.out]; omega) = m at hm
        obtain ⟨b, off, rfl, hb1, hr⟩ := has_rows Hl.out (ic_wid l) (by decide) (by intro e; rw [e] at hm; simp at hm)
        have lX := elem_cell0 hr (ic_wid l) (by omega) hm (u := .int .i64 m) rfl w (fr_refl w)
        rw [Nat.mul_one] at lX
        have hjz : (hi : Int) < (n : Int) := by omega
        have cN := nan_int m w
        clear hm hr
        by_cases hq : m = t
        · subst hq
          go_wp2_with fail
          go_ret2
          exact ⟨_, _, rfl, keep ⟨Hp.out, rfl⟩⟩
        · have hq2 : (m == t) = false := by simpa using hq
          go_wp2_with fail
          refine cN.mono ?_
          rintro e w' ⟨rfl, rfl⟩
          go_wp2_with fail
          go_ret2
          exact ⟨_, _, rfl, keep ⟨Hp.out, rfl⟩⟩
      · have hjz : ¬ (hi : Int) < (n : Int) := by omega
        go_wp2_with fail
        go_ret2
        exact ⟨hi, ⟨_, rfl⟩, keep ⟨Hp.out, rfl⟩⟩
end Go.Proofs.Ytbnphkiipjgfaaa
