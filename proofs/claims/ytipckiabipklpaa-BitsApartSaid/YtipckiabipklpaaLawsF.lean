/- BitsApart, walked. -/
import Derived.Test.YtipckiabipklpaaLawsA
namespace Go.Proofs.Ytipckiabipklpaa
open Go.RowKit

theorem u8_xor_ne (a b : Int) (ha : 0 ≤ a ∧ a ≤ 255) (hb : 0 ≤ b ∧ b ≤ 255) (h : b ≠ 0) : 0 ≤ bits .xor .u8 a b ∧ bits .xor .u8 a b ≤ 255 ∧ bits .xor .u8 a b ≠ a := by
  obtain ⟨A, rfl⟩ := Int.eq_ofNat_of_zero_le ha.1
  obtain ⟨B, rfl⟩ := Int.eq_ofNat_of_zero_le hb.1
  rw [u8_xor_nat A B (by omega) (by omega)]
  have h1 : A ^^^ B < 2 ^ 8 := Nat.xor_lt_two_pow (by omega) (by omega)
  refine ⟨by omega, by omega, fun e => h ?_⟩
  have e' : A ^^^ B = A := by omega
  have : B = 0 := by
    have h2 : A ^^^ (A ^^^ B) = A ^^^ A := by rw [e']
    rwa [← Nat.xor_assoc, Nat.xor_self, Nat.zero_xor] at h2
  omega

theorem leN_inj : ∀ l l' : List Int, Bytes l → Bytes l' → l.length = l'.length → leN l = leN l' → l = l'
  | [], [], _, _, _, _ => rfl
  | [], _ :: _, _, _, h, _ => by simp at h
  | _ :: _, [], _, _, h, _ => by simp at h
  | a :: l, b :: l', hl, hl', h, e => by
    have ha := hl a (by simp)
    have hb := hl' b (by simp)
    simp only [leN] at e
    have : a = b ∧ leN l = leN l' := by omega
    rw [this.1, leN_inj l l' (fun z hz => hl z (by simp [hz])) (fun z hz => hl' z (by simp [hz])) (by simpa using h) this.2]
theorem bytes_cut {l : List Int} (h : Bytes l) (P K : Nat) : Bytes ((l.drop P).take K) := fun z hz => h z (List.mem_of_mem_drop (List.mem_of_mem_take hz))
theorem bytes_set {l : List Int} (h : Bytes l) (k : Nat) (y : Int) (hy : 0 ≤ y ∧ y ≤ 255) : Bytes (l.set k y) := fun z hz => by
  rcases List.mem_or_eq_of_mem_set hz with hz | rfl
  · exact h z hz
  · exact hy
theorem turned_out (l : List Int) (P K k : Nat) (y : Int) (h : k < P ∨ P + K ≤ k) : ((l.set k y).drop P).take K = (l.drop P).take K := by
  apply List.ext_getElem?
  intro i
  by_cases hi : i < K
  · rw [List.getElem?_take_of_lt hi, List.getElem?_take_of_lt hi, List.getElem?_drop, List.getElem?_drop, List.getElem?_set_ne (by omega)]
  · rw [List.getElem?_eq_none (by simp; omega), List.getElem?_eq_none (by simp; omega)]
theorem turned_in (l : List Int) (P K k : Nat) (y : Int) (hl : Bytes l) (hy : 0 ≤ y ∧ y ≤ 255) (hk : k < l.length) (hne : y ≠ l[k]) (h1 : P ≤ k) (h2 : k < P + K) :
    leN ((l.drop P).take K) ≠ leN (((l.set k y).drop P).take K) := by
  intro e
  have := leN_inj _ _ (bytes_cut hl P K) (bytes_cut (bytes_set hl k y hy) P K) (by simp) e
  have h3 : ((l.drop P).take K)[k - P]? = (((l.set k y).drop P).take K)[k - P]? := by rw [this]
  rw [List.getElem?_take_of_lt (by omega), List.getElem?_take_of_lt (by omega), List.getElem?_drop, List.getElem?_drop, show P + (k - P) = k from by omega, List.getElem?_set_self hk, List.getElem?_eq_getElem hk] at h3
  injection h3 with h3
  exact hne h3.symm
theorem tmod_cases (t : Int) (n : Nat) (hn : n ≠ 0) : (∃ k : Nat, t.tmod n = -(k : Int) ∧ 0 < k ∧ k < n) ∨ (∃ k : Nat, t.tmod n = k ∧ k < n) := by
  have h1 : t.tmod n = t.sign * ((t.natAbs % n : Nat) : Int) := by
    rcases Int.lt_trichotomy t 0 with h | rfl | h
    · obtain ⟨T, rfl⟩ : ∃ T : Nat, t = -(T : Int) := ⟨t.natAbs, by omega⟩
      rw [Int.neg_tmod, Int.sign_eq_neg_one_of_neg h]
      simp
      rfl
    · simp
    · obtain ⟨T, rfl⟩ := Int.eq_ofNat_of_zero_le (Int.le_of_lt h)
      rw [Int.sign_eq_one_of_pos h]
      simp
      rfl
  have h2 : t.natAbs % n < n := Nat.mod_lt _ (by omega)
  generalize t.natAbs % n = k at h1 h2
  rcases Int.lt_trichotomy t 0 with h | rfl | h
  · rw [Int.sign_eq_neg_one_of_neg h] at h1
    by_cases hk : k = 0
    · exact .inr ⟨0, by rw [h1, hk]; simp, by omega⟩
    · exact .inl ⟨k, by rw [h1]; omega, by omega, h2⟩
  · exact .inr ⟨0, by simp, by omega⟩
  · rw [Int.sign_eq_one_of_pos h] at h1
    exact .inr ⟨k, by rw [h1]; omega, h2⟩

/-- What the copy is: its block, the cell that is turned, and what is there behind the store. -/
theorem apart_own {w w1 : World} {A1 : Option Addr} {n c1 j : Nat} {zs : List Int} {v y : Int} (hn : n ≠ 0)
    (ho : Own w1 w.heap.size 5 1 A1 (0 + n) c1 (u8s ([] ++ zs))) (hg : (w.alloc (.cells #[] 5)).grownBy w1 (blk (some ⟨w.heap.size, 0, none⟩))) (hcv : (u8s zs)[j]? = some (.int .u8 v)) :
    ∃ g, A1 = some ⟨g, 0, none⟩ ∧ w1.cell? ⟨g, j, none⟩ = some (.int .u8 v) ∧ w1.frozen? ⟨g, j, none⟩ = false ∧
      Own (w1.setCell ⟨g, j, none⟩ (.int .u8 y)) w.heap.size 5 1 (some ⟨g, 0, none⟩) n c1 (u8s (zs.set j y)) ∧ Below w.heap.size w (w1.setCell ⟨g, j, none⟩ (.int .u8 y)) := by
  have hb1 := below_grown (B := w.heap.size) ((Below.refl _ _).alloc (Nat.le_refl _) (.cells #[] 5)) (Own.lit w w.heap.size 5 #[] 0 1 (Nat.le_refl _) (by unfold maxLen; omega) rfl) hg (by simp) (Nat.le_refl _)
  simp only [Nat.zero_add, List.nil_append] at ho
  rcases ho.2 with ⟨_, h⟩ | ⟨g, cap, cur, hv, hbg, hh, _⟩
  · exact absurd h hn
  · injection hv with hA _ hc
    subst hA hc
    have hc : w1.cell? ⟨g, j, none⟩ = some (.int .u8 v) := by
      obtain ⟨b, off, e, _, hx⟩ := ho.has j _ hcv
      injection e with e
      injection e with e1 e2
      subst e1 e2
      simpa using hx
    obtain ⟨s1, s2⟩ := World.ownsRow.stored ho j (.int .u8 y)
    exact ⟨g, rfl, hc, World.ownsRow.frozenAt ho j, by unfold Own; rw [u8s, List.map_set]; exact s1, hb1.setCell hbg _⟩

set_option maxHeartbeats 1000000 in
theorem bitsApart_core (A : Option Addr) (n c : Nat) (zs : List Int) (p k t x : Int) (w : World) (hl : zs.length = n) (hc : n ≤ c) (hz : Bytes zs) (hr : Has w w.heap.size A (u8s zs))
    (hx : 0 ≤ x ∧ x ≤ 255) (hp : -9223372036854775808 ≤ p ∧ p ≤ 9223372036854775807) (ht : -9223372036854775808 ≤ t ∧ t ≤ 9223372036854775807) :
    Calls Try.prog 9 #[.slice A n c, .int .i64 p, .int .i64 k, .int .i64 t, .int .u8 x] w fun e w' => e = .returned (.bool true) ∧ Below w.heap.size w w' := by
  by_cases hn : n ≤ 300 ∧ n ≠ 0 ∧ 1 ≤ k ∧ k ≤ 8 ∧ x ≠ 0
  · obtain ⟨hn, hn0, hk1, hk2, hx0⟩ := hn
    have hb0 : ((n : Int) == 0) = false := by simpa using hn0
    have hb1 : (x == 0) = false := by simpa using hx0
    obtain ⟨K, rfl⟩ := Int.eq_ofNat_of_zero_le (show 0 ≤ k by omega)
    have hj : Hid (∃ j : Nat, j < n ∧ ((t.tmod n = -(j : Int) ∧ 0 < j) ∨ t.tmod n = j)) := keep (by
      rcases tmod_cases t n hn0 with ⟨j, h1, h2, h3⟩ | ⟨j, h1, h2⟩
      · exact ⟨j, h3, .inl ⟨h1, h2⟩⟩
      · exact ⟨j, h2, .inr h1⟩)
    obtain ⟨j, hjn, hj⟩ := hj.out
    clear ht
    have hjl : j < zs.length := by omega
    obtain ⟨v, hv⟩ : ∃ v, v = zs[j] := ⟨_, rfl⟩
    have hvb : 0 ≤ v ∧ v ≤ 255 := by rw [hv]; exact hz _ (List.getElem_mem hjl)
    have hy := u8_xor_ne v x hvb hx hx0
    generalize hyy : bits .xor .u8 v x = y at hy
    have hyb : 0 ≤ y ∧ y ≤ 255 := ⟨hy.1, hy.2.1⟩
    have hyz : y ≠ zs[j] := by rw [← hv]; exact hy.2.2
    have hcv : (u8s zs)[j]? = some (.int .u8 v) := by rw [hv]; simp [hjl]
    clear hv hy
    by_cases hpos : 1 ≤ (K : Int) ∧ (K : Int) ≤ 8 ∧ 0 ≤ p ∧ p ≤ n - K
    · obtain ⟨P, rfl⟩ := Int.eq_ofNat_of_zero_le hpos.2.2.1
      have hPK := keep (show 1 ≤ K ∧ K ≤ 8 ∧ P + K ≤ n from by omega)
      have p1 : (0 : Int) ≤ P := by omega
      have p2 : (P : Int) ≤ n - K := by omega
      clear hpos
      rcases (show j < P ∨ (P ≤ j ∧ j < P + K) ∨ P + K ≤ j from by omega) with hw | ⟨hw, hw'⟩ | hw
      · have eo := turned_out zs P K j y (.inl hw)
        rcases hj with ⟨hq, hq1⟩ | hq
        all_goals
          skip
          go_enter Try.func9, Try.ntmps9
          go_wp2_with fail
          refine (num_ok A n c zs hl (by omega) hc hz P K hPK.out.1 hPK.out.2.1 hPK.out.2.2 _ hr).mono ?_
          rintro e w1 ⟨rfl, rfl⟩
          go_wp2_with (at_builtin; refine append_u8 rfl (.tmp 54) (.tmp 55) rfl w.heap.size _ 0 0 [] rfl (Own.lit w w.heap.size 5 #[] 0 1 (Nat.le_refl _) (by unfold maxLen; omega) rfl) w.heap.size A n c zs rfl hl (hr.below ((Below.refl _ _).alloc (Nat.le_refl _) _)) (by omega) (by simp) ?_; intro A1 c1 w1 ho hg1 _; obtain ⟨g, rfl, hcj, hfj, ho2, hb2⟩ := apart_own (y := y) hn0 ho hg1 hcv)
          refine (num_ok _ n _ (zs.set j y) (by simpa using hl) (by omega) ho2.cap (bytes_set hz j y hyb) P K hPK.out.1 hPK.out.2.1 hPK.out.2.2 _ ho2.has).mono ?_
          rintro e w2 ⟨rfl, rfl⟩
          rw [eo]
          go_wp2_with (go_at_call 10; refine (awake _).mono ?_; rintro e w3 ⟨rfl, hb3⟩)
          go_ret
          exact ⟨rfl, hb2.trans (hb3.mono hb2.size)⟩
      · have ei := turned_in zs P K j y hz hyb hjl hyz hw hw'
        have ei' : (leN ((zs.drop P).take K) != leN (((zs.set j y).drop P).take K)) = true := by simpa using ei
        have hw2 : (j : Int) - (P : Int) < (K : Int) := by omega
        have ei2 : (leN ((zs.drop P).take K) == leN (((zs.set j y).drop P).take K)) = false := by simpa using ei
        rcases hj with ⟨hq, hq1⟩ | hq
        all_goals
          skip
          go_enter Try.func9, Try.ntmps9
          go_wp2_with fail
          refine (num_ok A n c zs hl (by omega) hc hz P K hPK.out.1 hPK.out.2.1 hPK.out.2.2 _ hr).mono ?_
          rintro e w1 ⟨rfl, rfl⟩
          go_wp2_with (at_builtin; refine append_u8 rfl (.tmp 54) (.tmp 55) rfl w.heap.size _ 0 0 [] rfl (Own.lit w w.heap.size 5 #[] 0 1 (Nat.le_refl _) (by unfold maxLen; omega) rfl) w.heap.size A n c zs rfl hl (hr.below ((Below.refl _ _).alloc (Nat.le_refl _) _)) (by omega) (by simp) ?_; intro A1 c1 w1 ho hg1 _; obtain ⟨g, rfl, hcj, hfj, ho2, hb2⟩ := apart_own (y := y) hn0 ho hg1 hcv)
          refine (num_ok _ n _ (zs.set j y) (by simpa using hl) (by omega) ho2.cap (bytes_set hz j y hyb) P K hPK.out.1 hPK.out.2.1 hPK.out.2.2 _ ho2.has).mono ?_
          rintro e w2 ⟨rfl, rfl⟩
          go_wp2_with (go_at_call 10; refine (awake _).mono ?_; rintro e w3 ⟨rfl, hb3⟩)
          go_ret
          exact ⟨rfl, hb2.trans (hb3.mono hb2.size)⟩
      · have eo := turned_out zs P K j y (.inr hw)
        have hw2 : ¬ ((j : Int) - (P : Int) < (K : Int)) := by omega
        rcases hj with ⟨hq, hq1⟩ | hq
        all_goals
          skip
          go_enter Try.func9, Try.ntmps9
          go_wp2_with fail
          refine (num_ok A n c zs hl (by omega) hc hz P K hPK.out.1 hPK.out.2.1 hPK.out.2.2 _ hr).mono ?_
          rintro e w1 ⟨rfl, rfl⟩
          go_wp2_with (at_builtin; refine append_u8 rfl (.tmp 54) (.tmp 55) rfl w.heap.size _ 0 0 [] rfl (Own.lit w w.heap.size 5 #[] 0 1 (Nat.le_refl _) (by unfold maxLen; omega) rfl) w.heap.size A n c zs rfl hl (hr.below ((Below.refl _ _).alloc (Nat.le_refl _) _)) (by omega) (by simp) ?_; intro A1 c1 w1 ho hg1 _; obtain ⟨g, rfl, hcj, hfj, ho2, hb2⟩ := apart_own (y := y) hn0 ho hg1 hcv)
          refine (num_ok _ n _ (zs.set j y) (by simpa using hl) (by omega) ho2.cap (bytes_set hz j y hyb) P K hPK.out.1 hPK.out.2.1 hPK.out.2.2 _ ho2.has).mono ?_
          rintro e w2 ⟨rfl, rfl⟩
          rw [eo]
          go_wp2_with (go_at_call 10; refine (awake _).mono ?_; rintro e w3 ⟨rfl, hb3⟩)
          go_ret
          exact ⟨ret_bool (by simp; omega), hb2.trans (hb3.mono hb2.size)⟩
    · have Hp := keep hpos
      have hpos' : p < 0 ∨ (0 ≤ p ∧ ¬ p ≤ (n : Int) - (K : Int)) := by omega
      clear hpos
      rcases hpos' with hp1 | ⟨hp1, hp2⟩ <;> rcases hj with ⟨hq, hq1⟩ | hq
      all_goals
        go_enter Try.func9, Try.ntmps9
        go_wp2_with fail
        refine (num_bad A n c p K (by omega) Hp.out _).mono ?_
        rintro e w1 ⟨rfl, rfl⟩
        go_wp2_with (at_builtin; refine append_u8 rfl (.tmp 54) (.tmp 55) rfl w.heap.size _ 0 0 [] rfl (Own.lit w w.heap.size 5 #[] 0 1 (Nat.le_refl _) (by unfold maxLen; omega) rfl) w.heap.size A n c zs rfl hl (hr.below ((Below.refl _ _).alloc (Nat.le_refl _) _)) (by omega) (by simp) ?_; intro A1 c1 w1 ho hg1 _; obtain ⟨g, rfl, hcj, hfj, ho2, hb2⟩ := apart_own (y := y) hn0 ho hg1 hcv)
        refine (num_bad _ n _ p K (by omega) Hp.out _).mono ?_
        rintro e w2 ⟨rfl, rfl⟩
        go_wp2_with (go_at_call 10; refine (awake _).mono ?_; rintro e w3 ⟨rfl, hb3⟩)
        go_ret
        exact ⟨rfl, hb2.trans (hb3.mono hb2.size)⟩
  · rcases (show 300 < n ∨ (n ≤ 300 ∧ n = 0) ∨ (n ≤ 300 ∧ n ≠ 0 ∧ k < 1) ∨ (n ≤ 300 ∧ n ≠ 0 ∧ 1 ≤ k ∧ 8 < k) ∨ (n ≤ 300 ∧ n ≠ 0 ∧ 1 ≤ k ∧ k ≤ 8 ∧ x = 0) from by omega) with h1 | ⟨h1, rfl⟩ | ⟨h1, h2, h3⟩ | ⟨h1, h2, h3, h4⟩ | ⟨h1, h2, h3, h4, rfl⟩
    all_goals
      try have hb0 : ((n : Int) == 0) = false := by simp; omega
      clear hn
      go_enter Try.func9, Try.ntmps9
      go_wp2_with (go_at_call 10; refine (awake _).mono ?_; rintro e w' ⟨rfl, hb⟩)
      go_ret
      exact ⟨rfl, hb⟩

end Go.Proofs.Ytipckiabipklpaa
