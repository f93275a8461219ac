/- Package latch: New, Try, Take. -/
import Derived.Test.YtbnphkiipjgfaaaLaF
namespace Go.Proofs.Ytbnphkiipjgfaaa
set_option linter.unusedVariables false
set_option linter.unusedSimpArgs false
set_option maxRecDepth 100000
open Go.RowKit
theorem Turn.on {w W V : World} {Y : Nat → Prop} {g : Nat} {t : Lat} (c : Chg Y w W) (h : Turn W V Y g t) : Turn w V Y g t := by
  obtain ⟨A, n, c', Q, m, d, h1, h2, h3⟩ := h
  exact ⟨A, n, c', Q, m, d, h1, c.trans h2, fun k hk => (h3 k hk).imp id fun h => Nat.le_trans c.size h⟩
theorem Res.on {w W V : World} {Y : Nat → Prop} {B : Option Addr} {k b : Nat} {l : List Int} (c : Chg Y w W) (h : Res W V B k b l) : Res w V B k b l := ⟨h.1, h.2.1, fun i hi => Nat.le_trans c.size (h.2.2 i hi)⟩
theorem Turn.next {w w1 W : World} {Y : Nat → Prop} {g : Nat} {A1 Q1 : Option Addr} {u : Lat} (c : Chg Y w w1) (o : ∀ k, LX g A1 Q1 k → Y k ∨ w.heap.size ≤ k) (h : Turn w1 W (LX g A1 Q1) g u) : Turn w W Y g u := by
  obtain ⟨A, n, c', Q, m, d, h1, h2, h3⟩ := h
  refine ⟨A, n, c', Q, m, d, h1, c.trans' h2 fun i hi hx => ?_, fun k hk => ?_⟩
  · rcases o i hx with h | h
    · exact h
    · omega
  · rcases h3 k hk with h | h
    · exact o k h
    · exact .inr (Nat.le_trans c.size h)
set_option maxHeartbeats 1000000 in
theorem new_at (w : World) : Calls Try.prog 10 #[] w fun e w' => e = .returned (.pointer (some ⟨w.heap.size, 0, none⟩)) ∧ Hid (PB w' w.heap.size none 0 0 none 0 0 newT ∧ Fr w w') := by
  go_enter Try.func10, Try.ntmps10
  go_wp2_with fail
  go_ret
  exact ⟨rfl, keep ⟨⟨Arr.new w _ _, Rw.nil _ _ _, Rw.nil _ _ _⟩, fr_new (fr_refl w) _⟩⟩
theorem LX.self {g : Nat} {A Q : Option Addr} (Y : Nat → Prop) (h : ∀ k, LX g A Q k → Y k) : ∀ k, LX g A Q k → Y k := h
theorem try_no {t : Lat} {x : Int} {b : Bool} (h : tryB t x b = false) : tryT t x b = t := by rw [tryT, h]; rfl
theorem try_yes {t : Lat} {x : Int} {b : Bool} (h : tryB t x b = true) : tryT t x b = giveT t (x, b) := by rw [tryT, h]; rfl
set_option maxHeartbeats 4000000 in
theorem try_at {w : World} {g n c m d K : Nat} {A Q : Option Addr} {t : Lat} {x : Int} {b : Bool} (h : PB w g A n c Q m d t) (ok : OkT t K) (hK : K ≤ 100000) (hx : -9223372036854775808 ≤ x ∧ x ≤ 9223372036854775807) :
    Calls Try.prog 16 #[.pointer (some ⟨g, 0, none⟩), .int .i64 x, .bool b] w fun e w' => e = .returned (.bool (tryB t x b)) ∧ Hid (Turn w w' (LX g A Q) g (tryT t x b)) := by
  have hl := ok.len
  have HP := keep h
  have cH := has_at (x := x) h (by omega)
  obtain ⟨l1, l2⟩ := h.nlen
  have lq : t.q.isEmpty = decide (m = 0) := by rw [← l2]; cases t.q <;> simp
  have gl := h.box.lt
  clear h
  by_cases h0 : x < 0
  · have hT : tryB t x b = false := by simp only [tryB, decide_eq_false (show ¬ 0 ≤ x by omega), Bool.false_and]
    rw [hT]
    have HT := keep (try_no hT)
    clear hT cH lq
    go_enter Try.func16, Try.ntmps16
    go_wp2_with fail
    go_ret
    exact ⟨rfl, keep (by rw [HT.out]; exact .same HP.out (fr_refl _) fun k h => h)⟩
  · cases hh : hasT t x with
    | true =>
      have hT : tryB t x b = false := by simp only [tryB, hh, Bool.not_true, Bool.and_false, Bool.false_and]
      rw [hT]
      rw [hh] at cH
      have HT := keep (try_no hT)
      clear hT lq hh
      go_enter Try.func16, Try.ntmps16
      go_wp2_with fail
      refine cH.mono ?_
      rintro e w1 ⟨rfl, f⟩
      go_wp2_with fail
      go_ret
      exact ⟨rfl, keep (by rw [HT.out]; exact .same HP.out f fun k h => h)⟩
    | false =>
      rw [hh] at cH
      by_cases hm : m = 0
      · subst hm
        cases hc : canT t b with
        | false =>
          have hT : tryB t x b = false := by simp only [tryB, hc, Bool.and_false]
          rw [hT]
          have HT := keep (try_no hT)
          clear hT lq hh
          go_enter Try.func16, Try.ntmps16
          go_wp2_with fail
          refine cH.mono ?_
          rintro e w1 ⟨rfl, f⟩
          obtain ⟨-, k1, k2, k3⟩ := (HP.out.fr f).cells
          have cA := allows_at b (HP.out.fr f)
          rw [hc] at cA
          clear hc
          go_wp2_with fail
          refine cA.mono ?_
          rintro e w2 ⟨rfl, rfl⟩
          go_wp2_with fail
          go_ret
          exact ⟨rfl, keep (by rw [HT.out]; exact .same HP.out f fun k h => h)⟩
        | true =>
          have hT : tryB t x b = true := by simp only [tryB, hh, hc, lq, decide_eq_true (show 0 ≤ x by omega)]; rfl
          rw [hT]
          have HT := keep (try_yes hT)
          clear hT lq hh
          go_enter Try.func16, Try.ntmps16
          go_wp2_with fail
          refine cH.mono ?_
          rintro e w1 ⟨rfl, f⟩
          obtain ⟨-, k1, k2, k3⟩ := (HP.out.fr f).cells
          have cA := allows_at b (HP.out.fr f)
          rw [hc] at cA
          clear hc
          go_wp2_with fail
          refine cA.mono ?_
          rintro e w2 ⟨rfl, rfl⟩
          go_wp2_with fail
          refine (give_at (x, b) (HP.out.fr f) ok.sorted (by omega)).mono ?_
          rintro e w3 ⟨rfl, hT⟩
          go_wp2_with fail
          go_ret
          exact ⟨rfl, keep (by rw [HT.out]; exact .on (.of_fr _ f) hT.out)⟩
      · have hT : tryB t x b = false := by simp only [tryB, lq, decide_eq_false hm, Bool.and_false, Bool.false_and]
        rw [hT]
        have HT := keep (try_no hT)
        have hmz : (m : Int) > 0 := by omega
        clear hT lq hh
        go_enter Try.func16, Try.ntmps16
        go_wp2_with fail
        refine cH.mono ?_
        rintro e w1 ⟨rfl, f⟩
        obtain ⟨-, k1, k2, k3⟩ := (HP.out.fr f).cells
        go_wp2_with fail
        go_ret
        exact ⟨rfl, keep (by rw [HT.out]; exact .same HP.out f fun k h => h)⟩
theorem take_try {t : Lat} {x : Int} {b : Bool} (h : tryB t x b = true) : takeT t x b = tryT t x b := by rw [takeT, tryT, h]; rfl
theorem take_wait {t : Lat} {x : Int} {b : Bool} (h : tryB t x b = false) (h2 : waitB t x = true) : takeT t x b = { t with q := t.q ++ [(x, b)] } := by rw [takeT, h, h2]; rfl
theorem take_none {t : Lat} {x : Int} {b : Bool} (h : tryB t x b = false) (h2 : waitB t x = false) : takeT t x b = t := by rw [takeT, h, h2]; rfl
set_option maxHeartbeats 4000000 in
theorem take_at {w : World} {g n c m d K : Nat} {A Q : Option Addr} {t : Lat} {x : Int} {b : Bool} (h : PB w g A n c Q m d t) (ok : OkT t K) (hK : K ≤ 100000) (hx : -9223372036854775808 ≤ x ∧ x ≤ 9223372036854775807) :
    Calls Try.prog 14 #[.pointer (some ⟨g, 0, none⟩), .int .i64 x, .bool b] w fun e w' => e = .returned (.bool (tryB t x b)) ∧ Hid (Turn w w' (LX g A Q) g (takeT t x b)) := by
  have cT := try_at (b := b) h ok hK hx
  have hl := ok.len
  have HP := keep h
  clear h
  cases hb : tryB t x b with
  | true =>
    rw [hb] at cT
    have HT := keep (take_try hb)
    clear hb
    go_enter Try.func14, Try.ntmps14
    go_wp2_with fail
    refine cT.mono ?_
    rintro e w1 ⟨rfl, hT⟩
    go_wp2_with fail
    go_ret
    exact ⟨rfl, keep (by rw [HT.out]; exact hT.out)⟩
  | false =>
    rw [hb, try_no hb] at cT
    by_cases h0 : 0 ≤ x
    · cases hh : hasT t x with
      | true =>
        have hw : waitB t x = false := by rw [waitB, hh]; simp
        have HT := keep (take_none hb hw)
        clear hb hw
        go_enter Try.func14, Try.ntmps14
        go_wp2_with fail
        refine cT.mono ?_
        rintro e w1 ⟨rfl, hT⟩
        obtain ⟨A1, n1, c1, Q1, m1, d1, p1, g1, o1⟩ := hT.out
        have cH := has_at (x := x) p1 (by omega)
        rw [hh] at cH
        clear hh hT
        have P1 := keep p1
        have G1 := keep g1
        have O1 := keep o1
        clear p1 g1 o1
        go_wp2_with fail
        refine cH.mono ?_
        rintro e w2 ⟨rfl, f⟩
        go_wp2_with fail
        go_ret
        exact ⟨rfl, keep (by rw [HT.out]; exact ⟨A1, n1, c1, Q1, m1, d1, P1.out.fr f, G1.out.fr f, O1.out⟩)⟩
      | false =>
        have hw : waitB t x = true := by rw [waitB, hh, decide_eq_true h0]; rfl
        have HT := keep (take_wait hb hw)
        clear hb hw
        go_enter Try.func14, Try.ntmps14
        go_wp2_with fail
        refine cT.mono ?_
        rintro e w1 ⟨rfl, hT⟩
        obtain ⟨A1, n1, c1, Q1, m1, d1, p1, g1, o1⟩ := hT.out
        have cH := has_at (x := x) p1 (by omega)
        rw [hh] at cH
        clear hh hT
        have P1 := keep p1
        have G1 := keep g1
        have O1 := keep o1
        have l2 := p1.nlen.2
        clear p1 g1 o1
        go_wp2_with fail
        refine cH.mono ?_
        rintro e w2 ⟨rfl, f⟩
        obtain ⟨-, k1, k2, k3⟩ := (P1.out.fr f).cells
        have gl := (P1.out.fr f).box.lt
        have HF := keep f
        go_wp2_with (first
          | (refine wpList_append_rw want_elem wants_under (by decide) rfl (.tmp 23) (.tmp 27) rfl Q1 m1 d1 (rows wc t.q) rfl ((P1.out.q.fr f).fr (fr_new (fr_refl _) _)) (w2.heap.size + 1) (some ⟨w2.heap.size, 0, none⟩) 1 1 (wc (x, b)) rfl rfl (has_new w2 (wc (x, b)) _) (wc_one _) (by simp only [maxLen]; omega) (by omega) ?_; intro Q2 d2 w3 h3 p3)
          | (refine wpList_store_chg (cs' := [.int .i64 t.pn, .slice A1 n1 c1, .int .i64 t.wr, .slice Q2 (m1 + 1) d2]) wants_info rfl (.tmp 30) (.tmp 28) rfl g 3 rfl rfl rfl (slice_one _ _ _) ((P1.out.fr (fr_new f _)).box.chg p3.chg P1.out.ng.2) (show 4 ≤ 4 by decide) rfl ?_; intro W4 hA4 hK4)
          | fail)
        go_ret
        refine ⟨rfl, keep ?_⟩
        rw [HT.out]
        exact .next G1.out O1.out (turn_q P1.out (fr_refl _) (fr_new f _) (by rw [rows_append, rows_single]; exact h3) p3 hA4 hK4)
    · have hw : waitB t x = false := by rw [waitB, decide_eq_false h0]; rfl
      have HT := keep (take_none hb hw)
      clear hb hw
      go_enter Try.func14, Try.ntmps14
      go_wp2_with fail
      refine cT.mono ?_
      rintro e w1 ⟨rfl, hT⟩
      go_wp2_with fail
      go_ret
      exact ⟨rfl, keep (by rw [HT.out]; exact hT.out)⟩
end Go.Proofs.Ytbnphkiipjgfaaa
