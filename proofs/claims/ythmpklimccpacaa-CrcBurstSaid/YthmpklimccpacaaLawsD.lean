/- CrcTurned, CrcBurst, walked. -/
import Derived.Test.YthmpklimccpacaaLawsC
namespace Go.Proofs.Ythmpklimccpacaa
open Go.RowKit
set_option linter.unusedVariables false

theorem oct_store {w0 w : World} {e n c j v : Nat} {A : Option Addr} {l : List Nat} (h0 : Fr w0 w) (ho : Own w w0.heap.size e 1 A n c (octs l)) (hv : l[j]? = some v) :
    ∃ g, A = some ⟨g, 0, none⟩ ∧ w.cell? ⟨g, j, none⟩ = some (.int .u8 (v : Int)) ∧ w.frozen? ⟨g, j, none⟩ = false ∧
      ∀ y : Nat, Own (w.setCell ⟨g, j, none⟩ (.int .u8 (y : Int))) w0.heap.size e 1 (some ⟨g, 0, none⟩) n c (octs (l.set j y)) ∧ Fr w0 (w.setCell ⟨g, j, none⟩ (.int .u8 (y : Int))) := by
  have hl : l.length = n := by simpa using ho.len
  have hj : j < n := by have := (List.getElem?_eq_some_iff.1 hv).1; omega
  obtain ⟨g, x, hA, hg, hgl, hx, hc, hf, hs⟩ := own_store ho hj
  have : x = .int .u8 (v : Int) := by
    rw [octs, List.getElem?_map, hv] at hx
    simpa using hx.symm
  subst this
  refine ⟨g, hA, hc, hf, fun y => ⟨?_, Below.setCell h0 hg _⟩⟩
  have := hs (.int .u8 (y : Int))
  rwa [octs, List.map_set]

set_option maxRecDepth 100000 in
set_option maxHeartbeats 1000000 in
theorem turned_in (A : Option Addr) (n c : Nat) (l : List Nat) (t : Int) (x : Nat) (w : World) (hl : l.length = n) (ho : Octets l) (hx : x < 256) (hr : Has w w.heap.size A (octs l)) (hn : n ≤ 2000) (K : Nat) (hK : K < n)
    (ht : (t.tmod ↑n = -(K : Int) ∧ 0 < K) ∨ t.tmod ↑n = K) (v : Nat) (hv : l[K]? = some v) (l' : List Nat) (hl' : l.set K (v ^^^ x) = l') (he : (((moreS 0 l : Nat) : Int) == ((moreS 0 l' : Nat) : Int)) = ((x : Int) == 0)) :
    Calls Try.prog 6 #[.slice A n c, .int .i64 t, .int .u8 (x : Int)] w fun e w' => e = .returned (.bool true) ∧ Below w.heap.size w w' := by
  have b0 := fr_refl w
  have hv8 : v < 256 := ho _ (List.mem_of_getElem? hv)
  have hvx : v ^^^ x < 256 := Nat.xor_lt_two_pow (n := 8) hv8 hx
  have hxor : bits .xor .u8 (v : Int) (x : Int) = ((v ^^^ x : Nat) : Int) := u8_xor v x hv8 hx
  have hn0 : ((n : Int) == 0) = false := by simp; omega
  have ho' : Octets l' := hl' ▸ octets_set ho K _ hvx
  have Hl := keep hl
  have Hl' : Hid (l'.length = n) := keep (by rw [← hl']; simpa using hl)
  have Hv := keep hv
  have Hs := keep hl'
  have He := keep he
  clear hl hv hl' he
  rcases ht with ⟨ht, ht2⟩ | ht
  all_goals
    go_enter Try.func6, Try.ntmps6
    go_wp2_with (at_builtin; refine append_oct rfl (.tmp 26) (.tmp 27) rfl (fr_new b0 _) _ 0 0 [] rfl (own_empty w) w.heap.size A n c l rfl Hl.out (hr.below (fr_new b0 _)) (by omega) ?_; intro A1 c1 w1 ho1 hb1; simp only [Nat.zero_add, List.nil_append] at ho1; obtain ⟨g, rfl, hc, hf, hst⟩ := oct_store hb1 ho1 Hv.out; obtain ⟨ho2, hb2⟩ := hst (v ^^^ x); rw [Hs.out] at ho2; have hr2 := (hr.below hb2).mono hb2.size; have b2 := fr_refl (w1.setCell ⟨g, K, none⟩ (.int .u8 ((v ^^^ x : Nat) : Int))); clear hst)
    refine (crc_sum_at hr2 Hl.out ho (by omega) b2).mono ?_
    rintro e w3 ⟨rfl, hb3⟩
    go_wp2_with fail
    refine (crc_sum_at ho2.has Hl'.out ho' (by omega) hb3).mono ?_
    rintro e w4 ⟨rfl, hb4⟩
    have he := He.out
    go_wp2_with fail
    refine (awake_at hb4).mono ?_
    rintro e w5 ⟨rfl, hb5⟩
    go_wp2_with fail
    go_ret
    exact ⟨rfl, fr_step hb2 hb5⟩

theorem xor_ne (a b : Nat) (h : b ≠ 0) : a ≠ a ^^^ b := fun e => h (by
  have h2 : a ^^^ a = a ^^^ (a ^^^ b) := by rw [← e]
  rw [← Nat.xor_assoc, Nat.xor_self, Nat.zero_xor] at h2
  exact h2.symm)
theorem set_same {l : List Nat} {k v : Nat} (hv : l[k]? = some v) : l.set k v = l := by
  apply List.ext_getElem?
  intro i
  by_cases h : k = i
  · subst h
    rw [List.getElem?_set_self (List.getElem?_eq_some_iff.1 hv).1, hv]
  · rw [List.getElem?_set_ne h]
set_option maxHeartbeats 400000 in
theorem crcTurned_core (A : Option Addr) (n c : Nat) (l : List Nat) (t : Int) (x : Nat) (w : World) (hl : l.length = n) (ho : Octets l) (hx : x < 256) (hr : Has w w.heap.size A (octs l)) :
    Calls Try.prog 6 #[.slice A n c, .int .i64 t, .int .u8 (x : Int)] w fun e w' => e = .returned (.bool true) ∧ Below w.heap.size w w' := by
  by_cases hn : n ≤ 2000 ∧ n ≠ 0
  · obtain ⟨hn, hn0⟩ := hn
    have hK : ∃ K : Nat, K < n ∧ ((t.tmod ↑n = -(K : Int) ∧ 0 < K) ∨ t.tmod ↑n = K) := by
      rcases tmod_cases t n hn0 with ⟨K, h1, h2, h3⟩ | ⟨K, h1, h2⟩
      · exact ⟨K, h3, .inl ⟨h1, h2⟩⟩
      · exact ⟨K, h2, .inr h1⟩
    obtain ⟨K, hKn, ht⟩ := hK
    have hKl : K < l.length := by omega
    have hv : l[K]? = some l[K] := by simp [hKl]
    refine turned_in A n c l t x w hl ho hx hr hn K hKn ht l[K] hv _ rfl ?_
    by_cases h0 : x = 0
    · subst h0
      rw [Nat.xor_zero, set_same hv]
      simp
    · have h1 := turned_ne ho K hKl (l[K] ^^^ x) (Nat.xor_lt_two_pow (n := 8) (ho _ (List.getElem_mem hKl)) hx) (xor_ne _ _ h0)
      rw [beq_eq_false_iff_ne.2 (show ((moreS 0 l : Nat) : Int) ≠ _ from by omega), beq_eq_false_iff_ne.2 (show (x : Int) ≠ 0 from by omega)]
  · have b0 := fr_refl w
    rcases (show 2000 < n ∨ (n ≤ 2000 ∧ n = 0) from by omega) with h1 | ⟨h1, rfl⟩
    all_goals
      clear hn
      go_enter Try.func6, Try.ntmps6
      go_wp2_with (go_at_call 9; refine (awake_at b0).mono ?_; rintro e w4 ⟨rfl, hb4⟩)
      go_ret
      exact ⟨rfl, by assumption⟩
end Go.Proofs.Ythmpklimccpacaa
