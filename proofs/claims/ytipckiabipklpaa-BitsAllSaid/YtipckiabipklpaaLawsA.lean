/- The laws of layer 1, walked. -/
import Derived.Test.YtipckiabipklpaaStr
namespace Go.Proofs.Ytipckiabipklpaa
open Go.RowKit

/-- What a slice of integers that came in is, in the words of these texts. -/
theorem has_of_row {k : IntKind} {w : World} {a : Option Addr} {len cap : Nat} {zs : List Int}
    (h : (a = none ∧ len = 0 ∧ cap = 0 ∧ zs = []) ∨ ∃ x, a = some x ∧ len ≤ cap ∧ cap ≤ maxLen ∧ zs.length = cap ∧ (∀ i, i < zs.length → w.cell? (x.add i) = some (.int k (zs.getD i 0))) ∧ ∀ n ∈ zs, (Lit.int k n).wf = true) :
    ∃ ys : List Int, ys.length = len ∧ len ≤ cap ∧ (∀ z ∈ ys, (Lit.int k z).wf = true) ∧ Has w w.heap.size a (ys.map (Value.int k)) := by
  rcases h with ⟨rfl, rfl, rfl, rfl⟩ | ⟨x, rfl, hl, hm, hz, hc, hw⟩
  · exact ⟨[], rfl, Nat.le_refl _, by simp, Has.nil⟩
  · refine ⟨zs.take len, by simp; omega, hl, fun z hz => hw z (List.mem_of_mem_take hz), fun j u hu => ?_⟩
    have hj : j < len ∧ j < zs.length := by
      have := (List.getElem?_eq_some_iff.1 hu).1
      simp at this
      omega
    have hcj := hc j hj.2
    have hs : x.spot = none := by
      have h0 := hc 0 (by omega)
      exact World.cell?_spot (by simpa [Addr.add] using h0)
    obtain ⟨b, off, sp⟩ := x
    simp only at hs
    subst hs
    rw [Addr.add_lit] at hcj
    refine ⟨b, off, rfl, World.block_lt_of_cell? w _ hcj, ?_⟩
    rw [hcj]
    simp [hj.1, hj.2] at hu ⊢
    exact hu
theorem bytes_of_wf {ys : List Int} (h : ∀ z ∈ ys, (Lit.int .u8 z).wf = true) : Bytes ys := fun z hz => by
  simpa [Lit.wf, IntKind.min, IntKind.max, IntKind.signed, IntKind.bits] using h z hz
theorem bd_i64 {z : Int} (h : (Lit.int .i64 z).wf = true) : -9223372036854775808 ≤ z ∧ z ≤ 9223372036854775807 := by
  simpa [Lit.wf, IntKind.min, IntKind.max, IntKind.signed, IntKind.bits] using h
theorem bd_u64 {z : Int} (h : (Lit.int .u64 z).wf = true) : 0 ≤ z ∧ z ≤ 18446744073709551615 := by
  simpa [Lit.wf, IntKind.min, IntKind.max, IntKind.signed, IntKind.bits] using h
theorem bd_u8 {z : Int} (h : (Lit.int .u8 z).wf = true) : 0 ≤ z ∧ z ≤ 255 := by
  simpa [Lit.wf, IntKind.min, IntKind.max, IntKind.signed, IntKind.bits] using h

theorem len_one {w : World} {B e n c : Nat} {A : Option Addr} {zs : List Int} (ho : Own w B e 1 A n c (u8s zs)) : zs.length = n := by
  simpa using ho.len

set_option maxHeartbeats 1000000 in
theorem bitsAll_core (A : Option Addr) (n c : Nat) (zs : List Int) (x m p k t : Int) (w : World) (hl : zs.length = n) (hc : n ≤ c) (hz : Bytes zs) (hr : Has w w.heap.size A (u8s zs))
    (hx : 0 ≤ x ∧ x ≤ 18446744073709551615) (hm : -9223372036854775808 ≤ m ∧ m ≤ 9223372036854775807) (hp : -9223372036854775808 ≤ p ∧ p ≤ 9223372036854775807) (hk : -9223372036854775808 ≤ k ∧ k ≤ 9223372036854775807) (ht : -9223372036854775808 ≤ t ∧ t ≤ 9223372036854775807) :
    Calls Try.prog 3 #[.slice A n c, .int .u64 x, .int .i64 m, .int .i64 p, .int .i64 k, .int .i64 t] w fun e w' => e = .returned (.bool true) ∧ Below w.heap.size w w' := by
  by_cases hn : 300 < n
  · go_enter Try.func3, Try.ntmps3
    go_wp2_with (go_at_call 10; refine (awake _).mono ?_; rintro e w' ⟨rfl, hb⟩)
    go_ret
    exact ⟨rfl, hb⟩
  · have Hx := keep (show x < 18446744073709551616 from by omega)
    have Hx0 := keep hx.1
    have Ht := keep ht
    clear hx hm hp ht hk
    by_cases hk : 1 ≤ k ∧ k ≤ 8
    · have Hk := keep hk
      by_cases hpos : 1 ≤ k ∧ k ≤ 8 ∧ 0 ≤ p ∧ p ≤ n - k
      · obtain ⟨P, rfl⟩ := Int.eq_ofNat_of_zero_le hpos.2.2.1
        obtain ⟨K, rfl⟩ := Int.eq_ofNat_of_zero_le (show 0 ≤ k by omega)
        have hb1 : 1 ≤ K ∧ K ≤ 8 ∧ P + K ≤ n := by omega
        clear hpos
        go_enter Try.func3, Try.ntmps3
        go_wp2_with (first
    | (go_at_call 11; refine (num_ok A n c zs hl (by omega) hc hz P K (by omega) (by omega) (by omega) _ hr).mono ?_; rintro e w' ⟨rfl, rfl⟩)
    | (go_at_call 12; refine (ref_num_ok A n c zs hl (by omega) hz P K (by omega) (by omega) (by omega) _ hr).mono ?_; rintro e w' ⟨rfl, rfl⟩)
    | (go_at_call 16; refine (put_ok A n c zs hl (by omega) _ _ Hx0.out Hk.out.1 Hk.out.2 _ hr).mono ?_; rintro e w1 ⟨A1, c1, rfl, ho1, hb1⟩; have hr1 := (hr.below hb1).mono hb1.size)
    | (go_at_call 17; refine (ref_put_ok A n c zs hl (by omega) _ _ Hx0.out Hx.out Hk.out.1 Hk.out.2 _ hr1).mono ?_; rintro e w2 ⟨A2, c2, rfl, ho2, hb2⟩)
    | (go_at_call 13; refine (narrow _ _ _).mono ?_; rintro e w' ⟨rfl, rfl⟩)
    | (go_at_call 14; refine (ref_narrow _ _ _).mono ?_; rintro e w' ⟨rfl, rfl⟩)
    | (go_at_call 15; refine (same_ok _ _ _ _ _ _ _ (len_one ho1) (len_one ho2) _ _ _ (ho1.has.below hb2) ho2.has).mono ?_; rintro e w' ⟨rfl, rfl⟩)
    | (go_at_call 18; refine (fits _ _ Hx0.out _).mono ?_; rintro e w' ⟨rfl, rfl⟩)
    | (go_at_call 19; refine (ref_fits _ _ Hx0.out Hx.out _).mono ?_; rintro e w' ⟨rfl, rfl⟩)
    | (go_at_call 20; refine (signed _ _ Hx0.out Hx.out _).mono ?_; rintro e w' ⟨rfl, rfl⟩)
    | (go_at_call 21; refine (ref_signed _ _ Hx0.out Hx.out _).mono ?_; rintro e w' ⟨rfl, rfl⟩)
    | (go_at_call 22; refine (turn _ _ Hx0.out Hx.out Ht.out.1 Ht.out.2 _).mono ?_; rintro e w' ⟨rfl, rfl⟩)
    | (go_at_call 23; refine (ref_turn _ _ Hx0.out Hx.out Ht.out.1 Ht.out.2 _).mono ?_; rintro e w' ⟨rfl, rfl⟩)
    | (go_at_call 10; refine (awake _).mono ?_; rintro e w3 ⟨rfl, hb3⟩))
        go_ret
        exact ⟨rfl, (hb1.trans (hb2.mono hb1.size)).trans (hb3.mono (Nat.le_trans hb1.size hb2.size))⟩
      · have Hp := keep hpos
        clear hpos
        go_enter Try.func3, Try.ntmps3
        go_wp2_with (first
    | (go_at_call 11; refine (num_bad A n c _ _ (by omega) Hp.out _).mono ?_; rintro e w' ⟨rfl, rfl⟩)
    | (go_at_call 12; refine (ref_num_bad A n c _ _ (by omega) Hp.out _).mono ?_; rintro e w' ⟨rfl, rfl⟩)
    | (go_at_call 16; refine (put_ok A n c zs hl (by omega) _ _ Hx0.out Hk.out.1 Hk.out.2 _ hr).mono ?_; rintro e w1 ⟨A1, c1, rfl, ho1, hb1⟩; have hr1 := (hr.below hb1).mono hb1.size)
    | (go_at_call 17; refine (ref_put_ok A n c zs hl (by omega) _ _ Hx0.out Hx.out Hk.out.1 Hk.out.2 _ hr1).mono ?_; rintro e w2 ⟨A2, c2, rfl, ho2, hb2⟩)
    | (go_at_call 13; refine (narrow _ _ _).mono ?_; rintro e w' ⟨rfl, rfl⟩)
    | (go_at_call 14; refine (ref_narrow _ _ _).mono ?_; rintro e w' ⟨rfl, rfl⟩)
    | (go_at_call 15; refine (same_ok _ _ _ _ _ _ _ (len_one ho1) (len_one ho2) _ _ _ (ho1.has.below hb2) ho2.has).mono ?_; rintro e w' ⟨rfl, rfl⟩)
    | (go_at_call 18; refine (fits _ _ Hx0.out _).mono ?_; rintro e w' ⟨rfl, rfl⟩)
    | (go_at_call 19; refine (ref_fits _ _ Hx0.out Hx.out _).mono ?_; rintro e w' ⟨rfl, rfl⟩)
    | (go_at_call 20; refine (signed _ _ Hx0.out Hx.out _).mono ?_; rintro e w' ⟨rfl, rfl⟩)
    | (go_at_call 21; refine (ref_signed _ _ Hx0.out Hx.out _).mono ?_; rintro e w' ⟨rfl, rfl⟩)
    | (go_at_call 22; refine (turn _ _ Hx0.out Hx.out Ht.out.1 Ht.out.2 _).mono ?_; rintro e w' ⟨rfl, rfl⟩)
    | (go_at_call 23; refine (ref_turn _ _ Hx0.out Hx.out Ht.out.1 Ht.out.2 _).mono ?_; rintro e w' ⟨rfl, rfl⟩)
    | (go_at_call 10; refine (awake _).mono ?_; rintro e w3 ⟨rfl, hb3⟩))
        go_ret
        exact ⟨rfl, (hb1.trans (hb2.mono hb1.size)).trans (hb3.mono (Nat.le_trans hb1.size hb2.size))⟩
    · have Hk := keep hk
      have Hp : Hid (¬ (1 ≤ k ∧ k ≤ 8 ∧ 0 ≤ p ∧ p ≤ n - k)) := keep (by omega)
      clear hk
      · skip
        go_enter Try.func3, Try.ntmps3
        go_wp2_with (first
    | (go_at_call 11; refine (num_bad A n c _ _ (by omega) Hp.out _).mono ?_; rintro e w' ⟨rfl, rfl⟩)
    | (go_at_call 12; refine (ref_num_bad A n c _ _ (by omega) Hp.out _).mono ?_; rintro e w' ⟨rfl, rfl⟩)
    | (go_at_call 16; refine (put_bad A n c zs hl (by omega) _ _ Hk.out _ hr).mono ?_; rintro e w1 ⟨A1, c1, rfl, ho1, hb1⟩; have hr1 := (hr.below hb1).mono hb1.size)
    | (go_at_call 17; refine (ref_put_bad A n c zs hl (by omega) _ _ Hk.out _ hr1).mono ?_; rintro e w2 ⟨A2, c2, rfl, ho2, hb2⟩)
    | (go_at_call 13; refine (narrow _ _ _).mono ?_; rintro e w' ⟨rfl, rfl⟩)
    | (go_at_call 14; refine (ref_narrow _ _ _).mono ?_; rintro e w' ⟨rfl, rfl⟩)
    | (go_at_call 15; refine (same_ok _ _ _ _ _ _ _ (len_one ho1) (len_one ho2) _ _ _ (ho1.has.below hb2) ho2.has).mono ?_; rintro e w' ⟨rfl, rfl⟩)
    | (go_at_call 18; refine (fits _ _ Hx0.out _).mono ?_; rintro e w' ⟨rfl, rfl⟩)
    | (go_at_call 19; refine (ref_fits _ _ Hx0.out Hx.out _).mono ?_; rintro e w' ⟨rfl, rfl⟩)
    | (go_at_call 20; refine (signed _ _ Hx0.out Hx.out _).mono ?_; rintro e w' ⟨rfl, rfl⟩)
    | (go_at_call 21; refine (ref_signed _ _ Hx0.out Hx.out _).mono ?_; rintro e w' ⟨rfl, rfl⟩)
    | (go_at_call 22; refine (turn _ _ Hx0.out Hx.out Ht.out.1 Ht.out.2 _).mono ?_; rintro e w' ⟨rfl, rfl⟩)
    | (go_at_call 23; refine (ref_turn _ _ Hx0.out Hx.out Ht.out.1 Ht.out.2 _).mono ?_; rintro e w' ⟨rfl, rfl⟩)
    | (go_at_call 10; refine (awake _).mono ?_; rintro e w3 ⟨rfl, hb3⟩))
        go_ret
        exact ⟨rfl, (hb1.trans (hb2.mono hb1.size)).trans (hb3.mono (Nat.le_trans hb1.size hb2.size))⟩

theorem u64_bd (n : Int) : 0 ≤ IntKind.u64.wrap n ∧ IntKind.u64.wrap n < 18446744073709551616 := by rw [u64_of]; omega
theorem drop_put (zs : List Int) (n K : Nat) (x : Int) (hl : zs.length = n) : ((zs ++ leB x K).drop n).take K = leB x K := by
  subst hl
  rw [List.drop_left, List.take_of_length_le (by rw [leB_len]; omega)]
theorem bytes_app {zs ys : List Int} (h : Bytes zs) (h' : Bytes ys) : Bytes (zs ++ ys) := fun z hz => by
  rcases List.mem_append.1 hz with hz | hz
  · exact h z hz
  · exact h' z hz
theorem low_leB (x : Int) (K : Nat) (h0 : 0 ≤ x) : leN (leB x K) = lowS x K := by
  rw [leN_leB K x h0]; rfl

theorem low_nat (x : Int) (K : Nat) (h1 : 1 ≤ (K : Int)) (h2 : (K : Int) ≤ 8) (hx : 0 ≤ x) (hx' : x < 18446744073709551616) :
    (lowS x K == IntKind.u64.wrap (x * 2 ^ (64 - 8 * K)) / 2 ^ (64 - 8 * K)) = true := by
  have e : (64 - 8 * (K : Int)).toNat = 64 - 8 * K := by omega
  have h := low_up x K h1 h2 hx hx'
  rw [e] at h
  rw [beq_iff_eq, u64_of, h]

set_option maxHeartbeats 1000000 in
theorem bitsBack_core (A : Option Addr) (n c : Nat) (zs : List Int) (x k : Int) (w : World) (hl : zs.length = n) (hc : n ≤ c) (hz : Bytes zs) (hr : Has w w.heap.size A (u8s zs))
    (hx : 0 ≤ x ∧ x ≤ 18446744073709551615) :
    Calls Try.prog 4 #[.slice A n c, .int .u64 x, .int .i64 k] w fun e w' => e = .returned (.bool true) ∧ Below w.heap.size w w' := by
  by_cases hn : n ≤ 300 ∧ 1 ≤ k ∧ k ≤ 8
  · obtain ⟨hn, hk1, hk2⟩ := hn
    obtain ⟨K, rfl⟩ := Int.eq_ofNat_of_zero_le (show 0 ≤ k by omega)
    have Hx := keep (show x < 18446744073709551616 from by omega)
    have hx0 := hx.1
    clear hx
    have Hy := keep (u64_bd (x + 1))
    go_enter Try.func4, Try.ntmps4
    have e0 := run_str (P := Try.prog) (c := c) 22 9 5 Try.underlying22 Try.underlying5 Try.underlying9 hl hr
    go_wp2_with fail
    refine (put_ok A n c zs hl (by omega) x K hx0 hk1 hk2 _ hr).mono ?_
    rintro e w1 ⟨A1, c1, rfl, ho1, hb1⟩
    have hr1 := (hr.below hb1).mono hb1.size
    go_wp2_with fail
    refine (put_ok A n c zs hl (by omega) (IntKind.u64.wrap (x + 1)) K Hy.out.1 hk1 hk2 _ hr1).mono ?_
    rintro e w2 ⟨A2, c2, rfl, ho2, hb2⟩
    have hr2 := (hr1.below hb2).mono hb2.size
    rw [Int.toNat_natCast] at ho1 ho2 ⊢
    have e1 := run_str (P := Try.prog) (c := c) 22 9 5 Try.underlying22 Try.underlying5 Try.underlying9 hl hr2
    have hs1 : Has w2 w1.heap.size A1 (u8s zs ++ u8s (leB x K)) := by rw [← List.map_append]; exact ho1.has.below hb2
    have e2 := run_str (P := Try.prog) (c := c1) 22 9 5 Try.underlying22 Try.underlying5 Try.underlying9 hl hs1.front
    have hcap1 := ho1.cap
    have hcap2 := ho2.cap
    go_wp2_with fail
    refine (num_ok A1 (n + K) c1 (zs ++ leB x K) (len_one ho1) (by omega) hcap1 (bytes_app hz (bytes_leB K x)) n K (by omega) (by omega) (by omega) _ ((ho1.has.below hb2).mono hb2.size)).mono ?_
    rintro e w3 ⟨rfl, rfl⟩
    rw [drop_put zs n K x hl, low_leB x K hx0]
    go_wp2_with fail
    refine (num_ok A2 (n + K) c2 (zs ++ leB (IntKind.u64.wrap (x + 1)) K) (len_one ho2) (by omega) hcap2 (bytes_app hz (bytes_leB K _)) n K (by omega) (by omega) (by omega) _ ho2.has).mono ?_
    rintro e w3 ⟨rfl, rfl⟩
    rw [drop_put zs n K _ hl, low_leB _ K Hy.out.1]
    have q1 := low_nat x K hk1 hk2 hx0 Hx.out
    have q2 := low_nat (IntKind.u64.wrap (x + 1)) K hk1 hk2 Hy.out.1 Hy.out.2
    go_wp2_with (go_at_call 10; refine (awake _).mono ?_; rintro e w3 ⟨rfl, hb3⟩)
    go_ret
    exact ⟨rfl, (hb1.trans (hb2.mono hb1.size)).trans (hb3.mono (Nat.le_trans hb1.size hb2.size))⟩
  · go_enter Try.func4, Try.ntmps4
    go_wp2_with (go_at_call 10; refine (awake _).mono ?_; rintro e w' ⟨rfl, hb⟩)
    all_goals (go_ret; exact ⟨rfl, hb⟩)

end Go.Proofs.Ytipckiabipklpaa
