/- The document's latch: Try, Take, Down, Pin, Unpin, Idle. -/
import Derived.Test.YtbnphkiipjgfaaaLaL
namespace Go.Proofs.Ytbnphkiipjgfaaa
set_option linter.unusedVariables false
set_option linter.unusedSimpArgs false
set_option maxRecDepth 100000
open Go.RowKit
theorem hasT_eq (t : Lat) (x : Int) : hasT t x = ((t.rs.contains x || decide (t.wr = x)) || t.q.any fun y => decide (y.1 = x)) := by
  unfold hasT
  rw [Bool.or_comm (decide (t.wr = x))]
set_option maxHeartbeats 4000000 in
theorem rtry_at {w : World} {g n c m d K : Nat} {A Q : Option Addr} {t : Lat} {x : Int} {b : Bool} (h : DB w g A n c Q m d t) (ok : OkT t K) (hK : K ≤ 100000) (hx : -9223372036854775808 ≤ x ∧ x ≤ 9223372036854775807) :
    Calls Try.prog 17 #[.pointer (some ⟨g, 0, none⟩), .int .i64 x, .bool b] w fun e w' => e = .returned (.bool (tryB t x b)) ∧ Hid (DTurn w w' (LX g A Q) g (tryT t x b)) := by
  have hl := ok.len
  have HP := keep h
  have cH := rhas_at (x := x) h (by omega)
  have cQ := rqueued_at (x := x) h (by omega)
  have cC := rcan_at b h ok.wr.1
  obtain ⟨l1, l2⟩ := h.nlen
  obtain ⟨k0, k1, k2, -⟩ := h.cells
  have lq : t.q.isEmpty = decide (m = 0) := by rw [← l2]; cases t.q <;> simp
  have gl := h.box.lt
  have hh := hasT_eq t x
  clear h
  by_cases h0 : x < 0
  · have hT : tryB t x b = false := by simp only [tryB, decide_eq_false (show ¬ 0 ≤ x by omega), Bool.false_and]
    rw [hT]
    have HT := keep (try_no hT)
    clear hT cH cQ cC lq hh
    go_enter Try.func17, Try.ntmps17
    go_wp2_with fail
    go_ret
    exact ⟨rfl, keep (by rw [HT.out]; exact .same HP.out (fr_refl _) fun k h => h)⟩
  · generalize (t.rs.contains x || decide (t.wr = x)) = hb at *
    cases hb with
    | true =>
      have hT : tryB t x b = false := by simp only [tryB, hh, Bool.true_or, Bool.not_true, Bool.and_false, Bool.false_and]
      rw [hT]
      have HT := keep (try_no hT)
      clear hT cQ cC lq hh
      go_enter Try.func17, Try.ntmps17
      go_wp2_with fail
      refine cH.mono ?_
      rintro e w1 ⟨rfl, rfl⟩
      go_wp2_with fail
      go_ret
      exact ⟨rfl, keep (by rw [HT.out]; exact .same HP.out (fr_refl _) fun k h => h)⟩
    | false =>
      generalize (t.q.any fun y => decide (y.1 = x)) = qb at *
      cases qb with
      | true =>
        have hT : tryB t x b = false := by simp only [tryB, hh, Bool.or_true, Bool.not_true, Bool.and_false, Bool.false_and]
        rw [hT]
        have HT := keep (try_no hT)
        clear hT cC lq hh
        go_enter Try.func17, Try.ntmps17
        go_wp2_with fail
        refine cH.mono ?_
        rintro e w1 ⟨rfl, rfl⟩
        go_wp2_with fail
        refine cQ.mono ?_
        rintro e w1 ⟨rfl, rfl⟩
        go_wp2_with fail
        go_ret
        exact ⟨rfl, keep (by rw [HT.out]; exact .same HP.out (fr_refl _) fun k h => h)⟩
      | false =>
        by_cases hm : m = 0
        · subst hm
          cases hc : canT t b with
          | false =>
            have hT : tryB t x b = false := by simp only [tryB, hc, Bool.and_false]
            rw [hT]
            rw [hc] at cC
            have HT := keep (try_no hT)
            clear hT lq hh hc
            go_enter Try.func17, Try.ntmps17
            go_wp2_with fail
            refine cH.mono ?_
            rintro e w1 ⟨rfl, rfl⟩
            go_wp2_with fail
            refine cQ.mono ?_
            rintro e w1 ⟨rfl, rfl⟩
            go_wp2_with fail
            refine cC.mono ?_
            rintro e w1 ⟨rfl, rfl⟩
            go_wp2_with fail
            go_ret
            exact ⟨rfl, keep (by rw [HT.out]; exact .same HP.out (fr_refl _) fun k h => h)⟩
          | true =>
            have hT : tryB t x b = true := by simp only [tryB, hh, hc, lq, decide_eq_true (show 0 ≤ x by omega)]; rfl
            rw [hT]
            rw [hc] at cC
            have HT := keep (try_yes hT)
            clear hT lq hh hc
            go_enter Try.func17, Try.ntmps17
            go_wp2_with fail
            refine cH.mono ?_
            rintro e w1 ⟨rfl, rfl⟩
            go_wp2_with fail
            refine cQ.mono ?_
            rintro e w1 ⟨rfl, rfl⟩
            go_wp2_with fail
            refine cC.mono ?_
            rintro e w1 ⟨rfl, rfl⟩
            go_wp2_with fail
            refine (rgive_at (x, b) HP.out ok.sorted (by omega)).mono ?_
            rintro e w3 ⟨rfl, hT⟩
            go_wp2_with fail
            go_ret
            exact ⟨rfl, keep (by rw [HT.out]; exact hT.out)⟩
        · have hT : tryB t x b = false := by simp only [tryB, lq, decide_eq_false hm, Bool.and_false, Bool.false_and]
          rw [hT]
          have HT := keep (try_no hT)
          have hmz : (m : Int) > 0 := by omega
          clear hT lq hh cC
          go_enter Try.func17, Try.ntmps17
          go_wp2_with fail
          refine cH.mono ?_
          rintro e w1 ⟨rfl, rfl⟩
          go_wp2_with fail
          refine cQ.mono ?_
          rintro e w1 ⟨rfl, rfl⟩
          go_wp2_with fail
          go_ret
          exact ⟨rfl, keep (by rw [HT.out]; exact .same HP.out (fr_refl _) fun k h => h)⟩
set_option maxHeartbeats 4000000 in
theorem rtake_at {w : World} {g n c m d K : Nat} {A Q : Option Addr} {t : Lat} {x : Int} {b : Bool} (h : DB w g A n c Q m d t) (ok : OkT t K) (hK : K ≤ 100000) (hx : -9223372036854775808 ≤ x ∧ x ≤ 9223372036854775807) :
    Calls Try.prog 15 #[.pointer (some ⟨g, 0, none⟩), .int .i64 x, .bool b] w fun e w' => e = .returned (.bool (tryB t x b)) ∧ Hid (DTurn w w' (LX g A Q) g (takeT t x b)) := by
  have cT := rtry_at (b := b) h ok hK hx
  have hl := ok.len
  have HP := keep h
  have hh := hasT_eq t x
  clear h
  cases hb : tryB t x b with
  | true =>
    rw [hb] at cT
    have HT := keep (take_try hb)
    clear hb hh
    go_enter Try.func15, Try.ntmps15
    go_wp2_with fail
    refine cT.mono ?_
    rintro e w1 ⟨rfl, hT⟩
    go_wp2_with fail
    go_ret
    exact ⟨rfl, keep (by rw [HT.out]; exact hT.out)⟩
  | false =>
    rw [hb, try_no hb] at cT
    by_cases h0 : 0 ≤ x
    · have cH : ∀ W A1 n1 c1 Q1 m1 d1, DB W g A1 n1 c1 Q1 m1 d1 t → Calls Try.prog 34 #[.pointer (some ⟨g, 0, none⟩), .int .i64 x] W fun e w' => e = .returned (.bool (t.rs.contains x || decide (t.wr = x))) ∧ W = w' := fun W A1 n1 c1 Q1 m1 d1 p => rhas_at p (by omega)
      have cQ : ∀ W A1 n1 c1 Q1 m1 d1, DB W g A1 n1 c1 Q1 m1 d1 t → Calls Try.prog 35 #[.pointer (some ⟨g, 0, none⟩), .int .i64 x] W fun e w' => e = .returned (.bool (t.q.any fun y => decide (y.1 = x))) ∧ W = w' := fun W A1 n1 c1 Q1 m1 d1 p => rqueued_at p (by omega)
      generalize (t.rs.contains x || decide (t.wr = x)) = hb2 at *
      cases hb2 with
      | true =>
        have hw : waitB t x = false := by rw [waitB, hh]; simp
        have HT := keep (take_none hb hw)
        clear hb hw hh cQ
        go_enter Try.func15, Try.ntmps15
        go_wp2_with fail
        refine cT.mono ?_
        rintro e w1 ⟨rfl, hT⟩
        obtain ⟨A1, n1, c1, Q1, m1, d1, p1, g1, o1⟩ := hT.out
        have cH1 := cH _ _ _ _ _ _ _ p1
        clear p1 g1 o1 cH
        go_wp2_with fail
        refine cH1.mono ?_
        rintro e w2 ⟨rfl, rfl⟩
        go_wp2_with fail
        go_ret
        exact ⟨rfl, keep (by rw [HT.out]; exact hT.out)⟩
      | false =>
        generalize (t.q.any fun y => decide (y.1 = x)) = qb at *
        cases qb with
        | true =>
          have hw : waitB t x = false := by rw [waitB, hh]; simp
          have HT := keep (take_none hb hw)
          clear hb hw hh
          go_enter Try.func15, Try.ntmps15
          go_wp2_with fail
          refine cT.mono ?_
          rintro e w1 ⟨rfl, hT⟩
          obtain ⟨A1, n1, c1, Q1, m1, d1, p1, g1, o1⟩ := hT.out
          have cH1 := cH _ _ _ _ _ _ _ p1
          have cQ1 := cQ _ _ _ _ _ _ _ p1
          clear p1 g1 o1 cH cQ
          go_wp2_with fail
          refine cH1.mono ?_
          rintro e w2 ⟨rfl, rfl⟩
          go_wp2_with fail
          refine cQ1.mono ?_
          rintro e w2 ⟨rfl, rfl⟩
          go_wp2_with fail
          go_ret
          exact ⟨rfl, keep (by rw [HT.out]; exact hT.out)⟩
        | false =>
          have hw : waitB t x = true := by rw [waitB, hh, decide_eq_true h0]; rfl
          have HT := keep (take_wait hb hw)
          clear hb hw hh
          go_enter Try.func15, Try.ntmps15
          go_wp2_with fail
          refine cT.mono ?_
          rintro e w1 ⟨rfl, hT⟩
          obtain ⟨A1, n1, c1, Q1, m1, d1, p1, g1, o1⟩ := hT.out
          have cH1 := cH _ _ _ _ _ _ _ p1
          have cQ1 := cQ _ _ _ _ _ _ _ p1
          have P1 := keep p1
          have G1 := keep g1
          have O1 := keep o1
          have l2 := p1.nlen.2
          obtain ⟨k1, k2, k3, -⟩ := p1.cells
          have gl := p1.box.lt
          clear p1 g1 o1 hT cH cQ
          go_wp2_with fail
          refine cH1.mono ?_
          rintro e w2 ⟨rfl, rfl⟩
          go_wp2_with fail
          refine cQ1.mono ?_
          rintro e w2 ⟨rfl, rfl⟩
          go_wp2_with (first
            | (refine wpList_append_rw want_elem wants_under (by decide) rfl (.tmp 29) (.tmp 33) rfl Q1 m1 d1 (rows wc t.q) rfl (P1.out.q.fr (fr_new (fr_refl _) _)) (w1.heap.size + 1) (some ⟨w1.heap.size, 0, none⟩) 1 1 (wc (x, b)) rfl rfl (has_new w1 (wc (x, b)) _) (wc_one _) (by simp only [maxLen]; omega) (by omega) ?_; intro Q2 d2 w3 h3 p3)
            | (refine wpList_store_chg (cs' := [.slice A1 n1 c1, .int .i64 t.wr, .slice Q2 (m1 + 1) d2, .int .i64 t.pn]) wants_info rfl (.tmp 36) (.tmp 34) rfl g 2 rfl rfl rfl (slice_one _ _ _) ((P1.out.fr (fr_new (fr_refl _) _)).box.chg p3.chg P1.out.ng.2) (show 3 ≤ 4 by decide) rfl ?_; intro W4 hA4 hK4)
            | fail)
          go_ret
          refine ⟨rfl, keep ?_⟩
          rw [HT.out]
          exact .next G1.out O1.out (dturn_q P1.out (fr_refl _) (fr_new (fr_refl _) _) (by rw [rows_append, rows_single]; exact h3) p3 hA4 hK4)
    · have hw : waitB t x = false := by rw [waitB, decide_eq_false h0]; rfl
      have HT := keep (take_none hb hw)
      clear hb hw hh
      go_enter Try.func15, Try.ntmps15
      go_wp2_with fail
      refine cT.mono ?_
      rintro e w1 ⟨rfl, hT⟩
      go_wp2_with fail
      go_ret
      exact ⟨rfl, keep (by rw [HT.out]; exact hT.out)⟩
set_option maxHeartbeats 8000000 in
theorem rdown_at {w : World} {g n c m d K : Nat} {A Q : Option Addr} {t : Lat} {x : Int} (h : DB w g A n c Q m d t) (ok : OkT t K) (hK : K < 100000) (hx : -9223372036854775808 ≤ x ∧ x ≤ 9223372036854775807) :
    Calls Try.prog 22 #[.pointer (some ⟨g, 0, none⟩), .int .i64 x] w fun e w' => ∃ B k b, e = .returned (.slice B k b) ∧ Hid (Res w w' B k b (downT t x).2 ∧ DTurn w w' (LX g A Q) g (downT t x).1) := by
  have hl := ok.len
  have HP := keep h
  obtain ⟨-, k2, -, -⟩ := h.cells
  clear h
  by_cases h0 : x < 0
  · have HT := keep (down_no (t := t) (.inl h0))
    go_enter Try.func22, Try.ntmps22
    go_wp2_with fail
    go_ret
    exact ⟨none, 0, 0, rfl, keep (by rw [HT.out]; exact ⟨res_nil w, .same HP.out (fr_refl _) fun k h => h⟩)⟩
  · by_cases hw : t.wr = x
    · have HT := keep (down_yes (t := t) (x := x) (by intro h; rcases h with h | h; exact h0 h; exact h hw))
      have hw2 : (t.wr != x) = false := by simpa using hw
      have okd : OkT (giveT { t with wr := -1 } (x, false)) (K + 1) := OkT.give (l := { t with wr := -1 }) ⟨ok.rs, ⟨by simp, by simp [maxI]⟩, ok.q, ok.sorted, by simp only; omega, by have := ok.pn; simp only; omega⟩ (x := (x, false)) ⟨by simp only; omega, by simp only [maxI]; omega⟩ (fun _ => by simp only; omega) (by simp only; omega)
      have hs := ok.sorted
      clear hw
      go_enter Try.func22, Try.ntmps22
      go_wp2_with (first
        | (refine wpList_store_chg (cs' := [.slice A n c, .int .i64 (-1), .slice Q m d, .int .i64 t.pn]) int_info rfl (.tmp 17) (.const (.int .i64 (-1))) rfl g 1 rfl rfl rfl (ic_one _) HP.out.box (show 2 ≤ 4 by decide) rfl ?_; intro W1 hA1 hK1; have p1 := HP.out.put hA1 hK1; have P1 := keep p1; have K1 := keep hK1; have cG := rgive_at (x, false) p1 hs (show t.rs.length ≤ 100000 by omega); clear p1 hA1 hK1)
        | fail)
      refine cG.mono ?_
      rintro e w2 ⟨rfl, hT⟩
      obtain ⟨A2, n2, c2, Q2, m2, d2, p2, g2, o2⟩ := hT.out
      have G2 : Hid (Chg (LX g A Q) w w2) := keep ((K1.out.weak fun i _ hi => .inl hi).trans g2)
      have O2 := keep o2
      have K2 := keep (fun k hk => (o2 k hk).imp id (Nat.le_trans K1.out.size))
      have cL := rin_at p2 okd (by omega)
      clear p2 g2 o2 hT cG
      go_wp2_with fail
      refine cL.mono ?_
      rintro e w6 ⟨B, k, b, rfl, hh⟩
      go_wp2_with fail
      go_ret
      exact ⟨B, k, b, rfl, keep (by rw [HT.out]; exact ⟨hh.out.1.on G2.out, .next G2.out K2.out hh.out.2⟩)⟩
    · have HT := keep (down_no (t := t) (.inr hw))
      have hw2 : (t.wr != x) = true := by simpa using hw
      go_enter Try.func22, Try.ntmps22
      go_wp2_with fail
      go_ret
      exact ⟨none, 0, 0, rfl, keep (by rw [HT.out]; exact ⟨res_nil w, .same HP.out (fr_refl _) fun k h => h⟩)⟩
section
variable {w : World} {g n c m d K : Nat} {A Q : Option Addr} {t : Lat}
set_option maxHeartbeats 2000000 in
theorem ridle_at (h : DB w g A n c Q m d t) (hwr : -1 ≤ t.wr) :
    Calls Try.prog 32 #[.pointer (some ⟨g, 0, none⟩)] w fun e w' => e = .returned (.bool (idleB t)) ∧ w = w' := by
  obtain ⟨k0, k1, k2, k3⟩ := h.cells
  obtain ⟨l1, l2⟩ := h.nlen
  have hT : idleB t = (decide (t.wr = -1) && decide (n = 0) && decide (m = 0) && decide (t.pn = 0)) := by
    rw [idleB, ← l1, ← l2]
    cases t.rs <;> cases t.q <;> simp
  rw [hT]
  clear hT l1 l2 h
  generalize t.wr = wr at *
  generalize t.pn = pn at *
  by_cases hn : n = 0
  · subst hn
    by_cases hw : wr = -1
    · subst hw
      by_cases hm : m = 0
      · subst hm
        go_enter Try.func32, Try.ntmps32
        go_wp2_with fail
        go_ret
        exact ⟨by by_cases h : pn = 0 <;> simp [h], rfl⟩
      · have hmz : ((m : Int) == 0) = false := by simpa using hm
        go_enter Try.func32, Try.ntmps32
        go_wp2_with fail
        go_ret
        exact ⟨by simp [hm], rfl⟩
    · have hw2 : ¬ wr < 0 := by omega
      go_enter Try.func32, Try.ntmps32
      go_wp2_with fail
      go_ret
      exact ⟨by simp [hw], rfl⟩
  · have hnz : ((n : Int) == 0) = false := by simpa using hn
    go_enter Try.func32, Try.ntmps32
    go_wp2_with fail
    go_ret
    exact ⟨by simp [hn], rfl⟩
set_option maxHeartbeats 1000000 in
theorem rpin_at (h : DB w g A n c Q m d t) (hp : 0 ≤ t.pn ∧ t.pn ≤ 100000) :
    Calls Try.prog 24 #[.pointer (some ⟨g, 0, none⟩)] w fun e w' => e = .returned (.int .i64 (t.pn + 1)) ∧ Hid (DTurn w w' (LX g A Q) g (pinT t)) := by
  have k0 := h.cells.2.2.2
  have HP := keep h
  have hwr : IntKind.i64.wrap (t.pn + 1) = t.pn + 1 := by rw [IntKind.wrap_i64]; omega
  clear h
  go_enter Try.func24, Try.ntmps24
  go_wp2_with (first
    | (refine wpList_store_chg (cs' := [.slice A n c, .int .i64 t.wr, .slice Q m d, .int .i64 (t.pn + 1)]) int_info rfl (.tmp 10) (.tmp 8) rfl g 3 rfl rfl rfl (ic_one _) HP.out.box (show 4 ≤ 4 by decide) rfl ?_; intro W1 hA1 hK1; have d0 : W1.cell? ⟨g, 3, none⟩ = some (.int .i64 (t.pn + 1)) := by (rw [hA1.cell]; rfl))
    | fail)
  go_ret
  exact ⟨rfl, keep (dturn_put HP.out hA1 hK1)⟩
set_option maxHeartbeats 1000000 in
theorem runpin_at (h : DB w g A n c Q m d t) (hp : 0 ≤ t.pn ∧ t.pn ≤ 100000) :
    Calls Try.prog 26 #[.pointer (some ⟨g, 0, none⟩)] w fun e w' => e = .returned (.tuple #[.int .i64 (unpinI t), .bool (unpinB t)]) ∧ Hid (DTurn w w' (LX g A Q) g (unpinT t)) := by
  have k0 := h.cells.2.2.2
  have HP := keep h
  clear h
  by_cases h0 : t.pn = 0
  · have e1 : unpinI t = 0 := by rw [unpinI, if_pos h0]
    have e2 : unpinB t = false := by rw [unpinB, h0]; rfl
    have E3 := keep (show unpinT t = t by rw [unpinT, if_pos h0])
    rw [e1, e2]
    have hz : (t.pn == 0) = true := by simpa using h0
    clear e1 e2
    go_enter Try.func26, Try.ntmps26
    go_wp2_with fail
    go_ret2
    exact ⟨rfl, keep (by rw [E3.out]; exact .same HP.out (fr_refl _) fun k h => h)⟩
  · have e1 : unpinI t = t.pn - 1 := by rw [unpinI, if_neg h0]
    have e2 : unpinB t = true := by rw [unpinB, decide_eq_true h0]
    have E3 := keep (show unpinT t = { t with pn := t.pn - 1 } by rw [unpinT, if_neg h0])
    rw [e1, e2]
    have hz : (t.pn == 0) = false := by simpa using h0
    have hwr : IntKind.i64.wrap (t.pn - 1) = t.pn - 1 := by rw [IntKind.wrap_i64]; omega
    clear e1 e2
    go_enter Try.func26, Try.ntmps26
    go_wp2_with (first
      | (refine wpList_store_chg (cs' := [.slice A n c, .int .i64 t.wr, .slice Q m d, .int .i64 (t.pn - 1)]) int_info rfl (.tmp 16) (.tmp 14) rfl g 3 rfl rfl rfl (ic_one _) HP.out.box (show 4 ≤ 4 by decide) rfl ?_; intro W1 hA1 hK1; have d0 : W1.cell? ⟨g, 3, none⟩ = some (.int .i64 (t.pn - 1)) := by (rw [hA1.cell]; rfl))
      | fail)
    go_ret2
    exact ⟨rfl, keep (by rw [E3.out]; exact dturn_put HP.out hA1 hK1)⟩
end
end Go.Proofs.Ytbnphkiipjgfaaa
