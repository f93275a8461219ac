/- CrcBurst, walked. -/
import Derived.Test.YthmpklimccpacaaLawsD
namespace Go.Proofs.Ythmpklimccpacaa
open Go.RowKit
set_option linter.unusedVariables false

theorem byte_split (r : Nat) : r % 256 ^^^ (r / 256) * 2 ^ 8 = r := by
  have h1 : r = 2 ^ 8 * (r / 256) + r % 256 := by omega
  have h2 := Nat.two_pow_add_eq_or_of_lt (i := 8) (b := r % 256) (by omega) (r / 256)
  have h3 : (2 ^ 8 * (r / 256)) ^^^ (r % 256) = (2 ^ 8 * (r / 256)) ||| (r % 256) := by
    apply Nat.eq_of_testBit_eq
    intro i
    rw [Nat.testBit_xor, Nat.testBit_or]
    rcases Nat.lt_or_ge i 8 with hi | hi
    · rw [Nat.testBit_two_pow_mul]
      simp [show ¬ 8 ≤ i from by omega]
    · have : (r % 256).testBit i = false := Nat.testBit_lt_two_pow (Nat.lt_of_lt_of_le (show r % 256 < 2 ^ 8 by omega) (Nat.pow_le_pow_right (by omega) hi))
      simp [this]
  rw [Nat.mul_comm, Nat.xor_comm, h3, ← h2]
  omega
theorem xor_mul (a b k : Nat) : (a ^^^ b) * 2 ^ k = a * 2 ^ k ^^^ b * 2 ^ k := by
  rw [← Nat.shiftLeft_eq, ← Nat.shiftLeft_eq, ← Nat.shiftLeft_eq, Nat.shiftLeft_xor_distrib]
/-- Byte j of a word. -/
def byteOf (x j : Nat) : Nat := x / 2 ^ (8 * j) % 256
theorem byteOf_lt (x j : Nat) : byteOf x j < 256 := Nat.mod_lt _ (by omega)
theorem word_of (x : Nat) (h : x < 4294967296) : byteOf x 0 ^^^ byteOf x 1 * 2 ^ 8 ^^^ byteOf x 2 * 2 ^ 16 ^^^ byteOf x 3 * 2 ^ 24 = x := by
  have e3 : byteOf x 3 = x / 256 / 256 / 256 := by unfold byteOf; omega
  have e2 : byteOf x 2 = x / 256 / 256 % 256 := by unfold byteOf; omega
  have e1 : byteOf x 1 = x / 256 % 256 := by unfold byteOf; omega
  have e0 : byteOf x 0 = x % 256 := by unfold byteOf; omega
  have s0 := byte_split x
  have s1 := byte_split (x / 256)
  have s2 := byte_split (x / 256 / 256)
  rw [e3, e2, e1, e0]
  conv => rhs; rw [← s0, ← s1, ← s2]
  rw [xor_mul, xor_mul, xor_mul]
  simp only [Nat.xor_assoc]
  rw [show (x / 256 / 256 % 256) * 2 ^ 16 = (x / 256 / 256 % 256) * 2 ^ 8 * 2 ^ 8 from by omega, show (x / 256 / 256 / 256) * 2 ^ 24 = (x / 256 / 256 / 256) * 2 ^ 8 * 2 ^ 8 * 2 ^ 8 from by omega]
/-- Four bytes in a row turned, as far as j. -/
def burst (l : List Nat) (K x : Nat) : Nat → List Nat
  | 0 => l
  | j + 1 => (burst l K x j).set (K + j) ((l.getD (K + j) 0) ^^^ byteOf x j)
theorem burst_len (l : List Nat) (K x : Nat) : ∀ j, (burst l K x j).length = l.length
  | 0 => rfl
  | j + 1 => by rw [burst, List.length_set, burst_len l K x j]
theorem burst_get (l : List Nat) (K x : Nat) : ∀ j i, j ≤ i → (burst l K x j)[K + i]? = l[K + i]?
  | 0, _, _ => rfl
  | j + 1, i, h => by rw [burst, List.getElem?_set_ne (by omega), burst_get l K x j i (by omega)]
theorem octets_burst {l : List Nat} (h : Octets l) (K x : Nat) : ∀ j, Octets (burst l K x j)
  | 0 => h
  | j + 1 => octets_set (octets_burst h K x j) _ _ (Nat.xor_lt_two_pow (n := 8) (by
      rw [List.getD_eq_getElem?_getD]
      cases hg : l[K + j]? with
      | none => simp
      | some v => simpa using h v (List.mem_of_getElem? hg)) (byteOf_lt _ _))
theorem four_at {l : List Nat} {K : Nat} (h : K + 4 ≤ l.length) : l = l.take K ++ ([l.getD K 0, l.getD (K + 1) 0, l.getD (K + 2) 0, l.getD (K + 3) 0] ++ l.drop (K + 4)) := by
  have d : ∀ i, i < l.length → l.drop i = l.getD i 0 :: l.drop (i + 1) := fun i hi => by
    rw [List.drop_eq_getElem_cons hi]
    simp [List.getD_eq_getElem?_getD, hi]
  conv => lhs; rw [← List.take_append_drop K l, d K (by omega), d (K + 1) (by omega), d (K + 2) (by omega), d (K + 3) (by omega)]
  rfl
theorem burst_four {l : List Nat} {K : Nat} (x : Nat) (h : K + 4 ≤ l.length) :
    burst l K x 4 = l.take K ++ ([l.getD K 0 ^^^ byteOf x 0, l.getD (K + 1) 0 ^^^ byteOf x 1, l.getD (K + 2) 0 ^^^ byteOf x 2, l.getD (K + 3) 0 ^^^ byteOf x 3] ++ l.drop (K + 4)) := by
  have hk : (l.take K).length = K := by simp; omega
  have h0 : burst l K x 4 = (((l.set K (l.getD K 0 ^^^ byteOf x 0)).set (K + 1) (l.getD (K + 1) 0 ^^^ byteOf x 1)).set (K + 2) (l.getD (K + 2) 0 ^^^ byteOf x 2)).set (K + 3) (l.getD (K + 3) 0 ^^^ byteOf x 3) := rfl
  rw [h0]
  generalize l.getD K 0 ^^^ byteOf x 0 = b0
  generalize l.getD (K + 1) 0 ^^^ byteOf x 1 = b1
  generalize l.getD (K + 2) 0 ^^^ byteOf x 2 = b2
  generalize l.getD (K + 3) 0 ^^^ byteOf x 3 = b3
  conv => lhs; rw [four_at h]
  rw [List.set_append_right _ _ (by omega), List.set_append_right _ _ (by omega), List.set_append_right _ _ (by omega), List.set_append_right _ _ (by omega), hk]
  simp
theorem burst_sum {l : List Nat} (ho : Octets l) (K x : Nat) (hx : x < 4294967296) (h : K + 4 ≤ l.length) : moreS 0 l = moreS 0 (burst l K x 4) ↔ x = 0 := by
  have hg : ∀ i, l.getD i 0 < 256 := fun i => by
    rw [List.getD_eq_getElem?_getD]
    cases hg : l[i]? with
    | none => simp
    | some v => simpa using ho v (List.mem_of_getElem? hg)
  have hr := runS_lt (l.take K) (r := 0 ^^^ 4294967295) (by decide) (octets_take ho K)
  have hw := word_of x hx
  have hlt : ∀ a b c d : Nat, a < 256 → b < 256 → c < 256 → d < 256 → runS (0 ^^^ 4294967295) (l.take K) ^^^ a ^^^ b * 2 ^ 8 ^^^ c * 2 ^ 16 ^^^ d * 2 ^ 24 < 4294967296 := fun a b c d ha hb hc hd =>
    xor_lt (xor_lt (xor_lt (xor_lt hr (by omega)) (by omega)) (by omega)) (by omega)
  have h8 : ∀ i j, l.getD i 0 ^^^ byteOf x j < 256 := fun i j => Nat.xor_lt_two_pow (n := 8) (hg i) (byteOf_lt x j)
  have hod := octets_drop' ho (K + 4)
  have e1 : moreS 0 l = moreS 0 (l.take K ++ ([l.getD K 0, l.getD (K + 1) 0, l.getD (K + 2) 0, l.getD (K + 3) 0] ++ l.drop (K + 4))) := by rw [← four_at h]
  have key : runS (0 ^^^ 4294967295) (l.take K) ^^^ (l.getD K 0 ^^^ byteOf x 0) ^^^ (l.getD (K + 1) 0 ^^^ byteOf x 1) * 2 ^ 8 ^^^ (l.getD (K + 2) 0 ^^^ byteOf x 2) * 2 ^ 16 ^^^ (l.getD (K + 3) 0 ^^^ byteOf x 3) * 2 ^ 24
      = (runS (0 ^^^ 4294967295) (l.take K) ^^^ l.getD K 0 ^^^ l.getD (K + 1) 0 * 2 ^ 8 ^^^ l.getD (K + 2) 0 * 2 ^ 16 ^^^ l.getD (K + 3) 0 * 2 ^ 24) ^^^ x := by
    conv => rhs; rw [← hw]
    rw [xor_mul, xor_mul, xor_mul]
    ac_rfl
  constructor
  · intro e
    rw [e1, burst_four x h] at e
    have e2 := compl_inj e
    rw [runS_app, runS_app, runS_app, runS_app] at e2
    have e3 := runS_inj _ hod (by rw [runS_four]; exact bitsS_lt 32 (hlt _ _ _ _ (hg _) (hg _) (hg _) (hg _))) (by rw [runS_four]; exact bitsS_lt 32 (hlt _ _ _ _ (h8 _ _) (h8 _ _) (h8 _ _) (h8 _ _))) e2
    rw [runS_four, runS_four] at e3
    have e4 := bitsS_inj 32 (hlt _ _ _ _ (hg _) (hg _) (hg _) (hg _)) (hlt _ _ _ _ (h8 _ _) (h8 _ _) (h8 _ _) (h8 _ _)) e3
    rw [key] at e4
    exact Decidable.byContradiction fun h0 => xor_ne _ x h0 e4
  · intro e
    rw [e1, burst_four x h]
    unfold moreS
    rw [runS_app, runS_app, runS_app, runS_app, runS_four, runS_four, key, e, Nat.xor_zero]

theorem turn_val (x v j : Nat) (hx : x < 4294967296) (hv : v < 256) : bits .xor .u8 (v : Int) (bits .and .u32 ((x : Int) / 2 ^ (8 * j)) 255 % 256) = ((v ^^^ byteOf x j : Nat) : Int) := by
  have hd : x / 2 ^ (8 * j) < 4294967296 := Nat.lt_of_le_of_lt (Nat.div_le_self _ _) hx
  have h1 : (x : Int) / 2 ^ (8 * j) = ((x / 2 ^ (8 * j) : Nat) : Int) := by simp
  rw [h1]
  unfold byteOf
  clear h1
  generalize x / 2 ^ (8 * j) = y at *
  have h2 : bits .and .u32 ((y : Nat) : Int) 255 = ((y % 256 : Nat) : Int) := by
    show IntKind.u32.wrap ((BitVec.ofInt 32 _ &&& BitVec.ofInt 32 255).toNat : Int) = _
    rw [BitVec.toNat_and, BitVec.toNat_ofInt, IntKind.wrap_u32, show ((y : Int) % ((2 ^ 32 : Nat) : Int)).toNat = y from by omega, show (BitVec.ofInt 32 255).toNat = 2 ^ 8 - 1 from by decide, Nat.and_two_pow_sub_one_eq_mod]
    omega
  rw [h2, show ((y % 256 : Nat) : Int) % 256 = ((y % 256 : Nat) : Int) from by omega, u8_xor v _ hv (by omega)]
theorem getD_lt {l : List Nat} (ho : Octets l) (i : Nat) : l.getD i 0 < 256 := by
  rw [List.getD_eq_getElem?_getD]
  cases hg : l[i]? with
  | none => simp
  | some v => simpa using ho v (List.mem_of_getElem? hg)
set_option maxRecDepth 100000 in
set_option maxHeartbeats 1000000 in
theorem burst_in (A : Option Addr) (n c : Nat) (l : List Nat) (t : Int) (x : Nat) (w : World) (hl : l.length = n) (ho : Octets l) (hx : x < 4294967296) (hr : Has w w.heap.size A (octs l)) (hn : n ≤ 2000) (hn4 : 4 ≤ n) (K : Nat) (hK : K + 4 ≤ n)
    (ht : (t.tmod (↑n - 3) = -(K : Int) ∧ 0 < K) ∨ t.tmod (↑n - 3) = K) :
    Calls Try.prog 7 #[.slice A n c, .int .i64 t, .int .u32 (x : Int)] w fun e w' => e = .returned (.bool true) ∧ Below w.heap.size w w' := by
  have b0 := fr_refl w
  have hn0 : ((n : Int) - 3 == 0) = false := by simp; omega
  have Hl := keep hl
  clear hl
  rcases ht with ⟨ht, ht2⟩ | ht
  all_goals
    go_enter Try.func7, Try.ntmps7
    go_wp2_with (at_builtin; refine append_oct rfl (.tmp 28) (.tmp 29) rfl (fr_new b0 _) _ 0 0 [] rfl (own_empty w) w.heap.size A n c l rfl Hl.out (hr.below (fr_new b0 _)) (by omega) ?_; intro A1 c1 w1 ho1 hb1; simp only [Nat.zero_add, List.nil_append] at ho1)
    clear ht
    go_loopg [9] 4 (fun g i wr => ∃ j : Nat, j + g = 4 ∧ i = .int .i64 j ∧ Own wr w.heap.size 5 1 A1 n c1 (octs (burst l K x j)) ∧ Fr w wr)
    case atStart => exact ⟨0, rfl, rfl, ho1, hb1⟩
    case round =>
      clear ho1 hb1
      obtain ⟨j, hj, rfl, ho1, hb1⟩ := hrel
      have Hj := keep hj
      by_cases hlt : j < 4
      · have hv : (burst l K x j)[K + j]? = some (l.getD (K + j) 0) := by
          rw [burst_get l K x j j (Nat.le_refl _)]
          have : K + j < l.length := by have := Hl.out; omega
          simp [List.getD_eq_getElem?_getD, this]
        obtain ⟨g, rfl, hc, hf, hst⟩ := oct_store hb1 ho1 hv
        have Hst := keep hst
        have hv8 := getD_lt ho (K + j)
        obtain ⟨v, hve⟩ : ∃ v, l.getD (K + j) 0 = v := ⟨_, rfl⟩
        rw [hve] at hc hv8
        have Hve := keep hve
        clear hj hv hst hve
        go_wp2_with fail
        rw [turn_val x v j hx hv8]
        obtain ⟨ho2, hb2⟩ := Hst.out (v ^^^ byteOf x j)
        go_roundg (gk - 1)
        case measure => have := Hj.out; omega
        case rel => exact ⟨j + 1, by have := Hj.out; omega, by go_num, by rw [burst, Hve.out]; exact ho2, hb2⟩
      · obtain rfl : j = 4 := by omega
        have ho' := octets_burst ho K x 4
        have hlb := keep (burst_len l K x 4)
        have he : (((moreS 0 l : Nat) : Int) == ((moreS 0 (burst l K x 4) : Nat) : Int)) = ((x : Int) == 0) := by
          have h1 := burst_sum ho K x hx (by have := Hl.out; omega)
          rw [Bool.eq_iff_iff]
          simp only [beq_iff_eq]
          omega
        have He := keep he
        clear hj he
        have hr2 := (hr.below hb1).mono hb1.size
        have b2 := fr_refl wr
        go_wp2_with fail
        refine (crc_sum_at hr2 Hl.out ho (by omega) b2).mono ?_
        rintro e w3 ⟨rfl, hb3⟩
        go_wp2_with fail
        refine (crc_sum_at ho1.has (by rw [hlb.out, Hl.out]) ho' (by omega) hb3).mono ?_
        rintro e w4 ⟨rfl, hb4⟩
        have he := He.out
        go_wp2_with fail
        refine (awake_at hb4).mono ?_
        rintro e w5 ⟨rfl, hb5⟩
        go_wp2_with fail
        go_ret
        exact ⟨rfl, fr_step hb1 hb5⟩
set_option maxHeartbeats 400000 in
theorem crcBurst_core (A : Option Addr) (n c : Nat) (l : List Nat) (t : Int) (x : Nat) (w : World) (hl : l.length = n) (ho : Octets l) (hx : x < 4294967296) (hr : Has w w.heap.size A (octs l)) :
    Calls Try.prog 7 #[.slice A n c, .int .i64 t, .int .u32 (x : Int)] w fun e w' => e = .returned (.bool true) ∧ Below w.heap.size w w' := by
  by_cases hn : n ≤ 2000 ∧ 4 ≤ n
  · obtain ⟨hn, hn4⟩ := hn
    have hK : ∃ K : Nat, K + 4 ≤ n ∧ ((t.tmod (↑n - 3) = -(K : Int) ∧ 0 < K) ∨ t.tmod (↑n - 3) = K) := by
      have e : ((n : Int) - 3) = ((n - 3 : Nat) : Int) := by omega
      rw [e]
      rcases tmod_cases t (n - 3) (by omega) with ⟨K, h1, h2, h3⟩ | ⟨K, h1, h2⟩
      · exact ⟨K, by omega, .inl ⟨h1, h2⟩⟩
      · exact ⟨K, by omega, .inr h1⟩
    obtain ⟨K, hKn, ht⟩ := hK
    exact burst_in A n c l t x w hl ho hx hr hn hn4 K hKn ht
  · have b0 := fr_refl w
    rcases (show 2000 < n ∨ (n ≤ 2000 ∧ n < 4) from by omega) with h1 | ⟨h1, h2⟩
    all_goals
      clear hn
      go_enter Try.func7, Try.ntmps7
      go_wp2_with (go_at_call 9; refine (awake_at b0).mono ?_; rintro e w4 ⟨rfl, hb4⟩)
      go_ret
      exact ⟨rfl, by assumption⟩
end Go.Proofs.Ythmpklimccpacaa
