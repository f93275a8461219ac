/- CrcJoins, CrcZeros, walked. -/
import Derived.Test.YthmpklimccpacaaLawsA
namespace Go.Proofs.Ythmpklimccpacaa
open Go.RowKit
set_option linter.unusedVariables false

theorem octets_drop {l : List Nat} (h : Octets l) (j : Nat) : Octets (l.drop j) := fun b hb => h b (List.mem_of_mem_drop hb)

section
variable {w0 W : World} {A : Option Addr} {b off n c : Nat} {l : List Nat}
theorem has_take (hr : Has w0 w0.heap.size A (octs l)) (k : Nat) : Has w0 w0.heap.size A (octs (l.take k)) := by
  have := hr.take k
  rwa [← List.map_take] at this
theorem has_drop (hr : Has w0 w0.heap.size (some ⟨b, off, none⟩) (octs l)) (k : Nat) : Has w0 w0.heap.size (some ⟨b, off + k, none⟩) (octs (l.drop k)) := by
  have := hr.drop k
  rwa [← List.map_drop] at this
theorem sum_take_at (m : Nat) (hr : Has w0 w0.heap.size A (octs l)) (hl : l.length = n) (ho : Octets l) (hn : n ≤ 2000) (hm : m ≤ n) (hb : Fr w0 W) :
    Calls Try.prog 10 #[.slice A m c] W fun e w' => e = .returned (.int .u32 ((moreS 0 (l.take m) : Nat) : Int)) ∧ Fr w0 w' :=
  crc_sum_at (has_take hr m) (by simp; omega) (octets_take ho m) (by omega) hb
theorem more_drop_at (s : Nat) (hs : s < 4294967296) (k m : Nat) (hr : Has w0 w0.heap.size (some ⟨b, off, none⟩) (octs l)) (hl : l.length = n) (ho : Octets l) (hn : n ≤ 2000) (hm : m = n - k) (hb : Fr w0 W) :
    Calls Try.prog 12 #[.int .u32 (s : Int), .slice (some ⟨b, off + k, none⟩) m c] W fun e w' => e = .returned (.int .u32 ((moreS s (l.drop k) : Nat) : Int)) ∧ Fr w0 w' :=
  crc_more_at s hs (has_drop hr k) (by simp; omega) (octets_drop ho k) (by omega) hb
end

theorem more_nil_at {w0 W : World} (s : Nat) (hs : s < 4294967296) (A : Option Addr) (c : Nat) (hb : Fr w0 W) :
    Calls Try.prog 12 #[.int .u32 (s : Int), .slice A 0 c] W fun e w' => e = .returned (.int .u32 (s : Int)) ∧ Fr w0 w' :=
  (crc_more_at (w0 := w0) s hs (l := []) Has.nil rfl (fun _ h => by cases h) (by simp) hb).mono fun _ _ ⟨he, hw⟩ => ⟨by rw [he, moreS_nil], hw⟩

set_option maxHeartbeats 4000000 in
theorem joins_in (b off n c : Nat) (l : List Nat) (t : Int) (w : World) (hl : l.length = n) (hc : n ≤ c) (ho : Octets l) (hr : Has w w.heap.size (some ⟨b, off, none⟩) (octs l)) (hn : n ≤ 2000) (K : Nat) (hK : K ≤ n) (hKc : K < c)
    (ht : (t.tmod (↑n + 1) = -(K : Int) ∧ 0 < K) ∨ t.tmod (↑n + 1) = K) :
    Calls Try.prog 4 #[.slice (some ⟨b, off, none⟩) n c, .int .i64 t] w fun e w' => e = .returned (.bool true) ∧ Below w.heap.size w w' := by
  have Hl := keep hl
  have b0 : Fr w w.drew := fr_drew (fr_refl w)
  have hs1 : moreS 0 (l.take K) < 4294967296 := moreS_lt (by omega) (octets_take ho K)
  have hj : moreS (moreS 0 (l.take K)) (l.drop K) = moreS 0 (l.take n) := by rw [moreS_app, List.take_append_drop, List.take_of_length_le (by omega)]
  clear hl
  rcases ht with ⟨ht, ht2⟩ | ht
  all_goals
    go_enter Try.func4, Try.ntmps4
    go_wp2_with fail
    go_region_with (first
      | (go_at_call 10; refine (sum_take_at _ hr Hl.out ho hn ?_ ?_).mono ?_; omega; assumption; rintro e w1 ⟨rfl, hb1⟩)
      | (go_at_call 12; refine (more_drop_at _ hs1 K _ hr Hl.out ho hn ?_ ?_).mono ?_; omega; assumption; rintro e w2 ⟨rfl, hb2⟩)
      | (go_at_call 9; refine (awake_at (w0 := w) ?_).mono ?_; assumption; rintro e w3 ⟨rfl, hb3⟩))
    all_goals (go_wp2; go_ret; exact ⟨rfl, by assumption⟩)
set_option maxHeartbeats 4000000 in
theorem joins_end (A : Option Addr) (n : Nat) (l : List Nat) (t : Int) (w : World) (hl : l.length = n) (ho : Octets l) (hr : Has w w.heap.size A (octs l)) (hn : n ≤ 2000)
    (ht : (t.tmod (↑n + 1) = -(n : Int) ∧ 0 < n) ∨ t.tmod (↑n + 1) = n) :
    Calls Try.prog 4 #[.slice A n n, .int .i64 t] w fun e w' => e = .returned (.bool true) ∧ Below w.heap.size w w' := by
  have Hl := keep hl
  have b0 : Fr w w.drew := fr_drew (fr_refl w)
  have hs1 : moreS 0 (l.take n) < 4294967296 := moreS_lt (by omega) (octets_take ho n)
  rcases A with _ | x
  · obtain rfl : l = [] := by have := hr.none_nil; simpa using this
    obtain rfl : n = 0 := by simpa using hl.symm
    clear hl
    rcases ht with ⟨ht, ht2⟩ | ht
    · omega
    · go_enter Try.func4, Try.ntmps4
      go_wp2_with fail
      go_region_with (first
        | (go_at_call 10; refine (sum_take_at _ hr Hl.out ho hn ?_ ?_).mono ?_; omega; assumption; rintro e w1 ⟨rfl, hb1⟩)
        | (go_at_call 12; refine (more_nil_at (w0 := w) _ hs1 _ _ ?_).mono ?_; assumption; rintro e w2 ⟨rfl, hb2⟩)
        | (go_at_call 9; refine (awake_at (w0 := w) ?_).mono ?_; assumption; rintro e w3 ⟨rfl, hb3⟩))
      all_goals (go_wp2; go_ret; exact ⟨rfl, by assumption⟩)
  · clear hl
    rcases ht with ⟨ht, ht2⟩ | ht
    all_goals
      go_enter Try.func4, Try.ntmps4
      go_wp2_with fail
      go_region_with (first
        | (go_at_call 10; refine (sum_take_at _ hr Hl.out ho hn ?_ ?_).mono ?_; omega; assumption; rintro e w1 ⟨rfl, hb1⟩)
        | (go_at_call 12; refine (more_nil_at (w0 := w) _ hs1 _ _ ?_).mono ?_; assumption; rintro e w2 ⟨rfl, hb2⟩)
        | (go_at_call 9; refine (awake_at (w0 := w) ?_).mono ?_; assumption; rintro e w3 ⟨rfl, hb3⟩))
      all_goals (go_wp2; go_ret; exact ⟨rfl, by assumption⟩)

set_option maxHeartbeats 400000 in
theorem crcJoins_core (A : Option Addr) (n c : Nat) (l : List Nat) (t : Int) (w : World) (hl : l.length = n) (hc : n ≤ c) (ho : Octets l) (hr : Has w w.heap.size A (octs l)) (hA : (A = none ∧ c = 0) ∨ (∃ b off, A = some ⟨b, off, none⟩) ∨ c = 0) :
    Calls Try.prog 4 #[.slice A n c, .int .i64 t] w fun e w' => e = .returned (.bool true) ∧ Below w.heap.size w w' := by
  by_cases hn : n ≤ 2000
  · have hK : ∃ K : Nat, K ≤ n ∧ ((t.tmod (↑n + 1) = -(K : Int) ∧ 0 < K) ∨ t.tmod (↑n + 1) = K) := by
      have e : ((n : Int) + 1) = ((n + 1 : Nat) : Int) := rfl
      rw [e]
      rcases tmod_cases t (n + 1) (by omega) with ⟨K, h1, h2, h3⟩ | ⟨K, h1, h2⟩
      · exact ⟨K, by omega, .inl ⟨h1, h2⟩⟩
      · exact ⟨K, by omega, .inr h1⟩
    obtain ⟨K, hKn, ht⟩ := hK
    by_cases hKc : K < c
    · rcases hA with ⟨rfl, rfl⟩ | ⟨b, off, rfl⟩ | rfl
      · omega
      rotate_left
      · omega
      · exact joins_in b off n c l t w hl hc ho hr hn K hKn hKc ht
    · obtain rfl : K = n := by omega
      obtain rfl : K = c := by omega
      exact joins_end A K l t w hl ho hr hn ht
  · have b0 := fr_refl w
    go_enter Try.func4, Try.ntmps4
    go_wp2_with (go_at_call 9; refine (awake_at b0).mono ?_; rintro e w4 ⟨rfl, hb4⟩)
    go_ret
    exact ⟨rfl, by assumption⟩
end Go.Proofs.Ythmpklimccpacaa
