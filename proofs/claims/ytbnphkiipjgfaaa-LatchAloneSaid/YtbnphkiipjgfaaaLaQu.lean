/- LatchQueue, walked. -/
import Derived.Test.YtbnphkiipjgfaaaLaDo
namespace Go.Proofs.Ytbnphkiipjgfaaa
set_option linter.unusedVariables false
set_option linter.unusedSimpArgs false
set_option maxRecDepth 100000
open Go.RowKit
/-- A latch behind w0, and a row of numbers apart from it. -/
structure LR (w0 w : World) (g : Nat) (t : Lat) (K : Nat) (B : Option Addr) (k b : Nat) (l : List Int) : Prop where
  lat : ∃ A n c Q m d, PB w g A n c Q m d t ∧ (∀ i, LX g A Q i → w0.heap.size ≤ i) ∧ ∀ i, At B i → ¬ LX g A Q i ∧ w0.heap.size ≤ i
  row : Rw w 3 1 B k b (rows ic l)
  ok : OkT t K
  fb : Fb t
  fr : Fr w0 w
section
variable {w0 w w' : World} {g K k b : Nat} {t u : Lat} {B : Option Addr} {l : List Int} {x : Int} {bb : Bool}
theorem LR.lb (h : LR w0 w g t K B k b l) : LB w0 w g t K := by
  obtain ⟨A, n, c, Q, m, d, h1, h2, h3⟩ := h.lat
  exact ⟨⟨A, n, c, Q, m, d, h1, h2⟩, h.ok, h.fb, h.fr⟩
theorem LR.go (h : LR w0 w g t K B k b l) (f : Fr w w') : LR w0 w' g t K B k b l := by
  obtain ⟨A, n, c, Q, m, d, h1, h2, h3⟩ := h.lat
  exact ⟨⟨A, n, c, Q, m, d, h1.fr f, h2, h3⟩, h.row.fr f, h.ok, h.fb, fr_step h.fr f⟩
theorem LR.of {A Q : Option Addr} {n c m d L : Nat} (hp : PB w g A n c Q m d t) (hy : ∀ i, LX g A Q i → w0.heap.size ≤ i) (hb : ∀ i, At B i → ¬ LX g A Q i ∧ w0.heap.size ≤ i) (hr : Rw w 3 1 B k b (rows ic l)) (f : Fr w0 w) (T : Turn w w' (LX g A Q) g u) (ok : OkT u L ∧ Fb u) : LR w0 w' g u L B k b l := by
  obtain ⟨A2, n2, c2, Q2, m2, d2, h1, h2, h3⟩ := T
  refine ⟨⟨A2, n2, c2, Q2, m2, d2, h1, fun i hi => ?_, fun i hi => ⟨fun hx => ?_, (hb i hi).2⟩⟩, hr.chg h2 fun i hi => (hb i hi).1, ok.1, ok.2, f.trans (h2.below f.size hy)⟩
  · rcases h3 i hi with h | h
    · exact hy i h
    · exact Nat.le_trans f.size h
  · rcases h3 i hx with h | h
    · exact (hb i hi).1 h
    · have := hr.lt i hi; omega
theorem qtake (h : LR w0 w g t K B k b l) (hK : K ≤ 90000) (hx : -9223372036854775808 ≤ x ∧ x ≤ 9223372036854775807) :
    Calls Try.prog 14 #[.pointer (some ⟨g, 0, none⟩), .int .i64 x, .bool bb] w fun e w' => e = .returned (.bool (tryB t x bb)) ∧ Hid (LR w0 w' g (takeT t x bb) (K + 1) B k b l) := by
  obtain ⟨A, n, c, Q, m, d, hp, hy, hb⟩ := h.lat
  refine (take_at hp h.ok (by omega) hx).mono ?_
  rintro e w' ⟨rfl, hh⟩
  exact ⟨rfl, keep (LR.of hp hy hb h.row h.fr hh.out (h.ok.take h.fb x (by simp only [maxI]; omega) bb))⟩
theorem qdrop (h : LR w0 w g t K B k b l) (hK : K ≤ 90000) :
    Calls Try.prog 19 #[.pointer (some ⟨g, 0, none⟩), .int .i64 x] w fun e w' => ∃ B2 k2 b2, e = .returned (.slice B2 k2 b2) ∧ Hid (LR w0 w' g (dropT t x).1 K B k b l ∧ Res w w' B2 k2 b2 (dropT t x).2) := by
  obtain ⟨A, n, c, Q, m, d, hp, hy, hb⟩ := h.lat
  refine (drop_at hp h.ok h.fb (by omega)).mono ?_
  rintro e w' ⟨B2, k2, b2, rfl, hh⟩
  exact ⟨B2, k2, b2, rfl, keep ⟨LR.of hp hy hb h.row h.fr hh.out.2.turn (h.ok.drop h.fb x), hh.out.1⟩⟩
theorem LR.put {w8 : World} {o : Obj} {B2 : Option Addr} {k2 b2 : Nat} {l2 : List Int} (h : LR w0 w g t K B k b l) (h8 : Rw w8 3 1 B2 k2 b2 (rows ic l2)) (p8 : Put (w.alloc o) w8 B B2) : LR w0 w8 g t K B2 k2 b2 l2 := by
  obtain ⟨A, n, c, Q, m, d, h1, h2, h3⟩ := h.lat
  have f := fr_new (fr_refl w) o
  refine ⟨⟨A, n, c, Q, m, d, (h1.fr f).chg p8.chg fun i hi hb => (h3 i hb).1 hi, h2, fun i hi => ?_⟩, h8, h.ok, h.fb, (fr_step h.fr f).trans (p8.chg.below (B := w0.heap.size) (fr_step h.fr f).size fun i hi => (h3 i hi).2)⟩
  rcases p8.blk i hi with hh | hh
  · exact h3 i hh
  · refine ⟨fun hx => ?_, Nat.le_trans (fr_step h.fr f).size hh⟩
    have := h1.lt i hx
    have := f.size
    omega
theorem LR.pop {x : Int} (h : LR w0 w g t K B k b (x :: l)) : LR w0 w g t K (lowA 1 B b 1) (k - 1) (b - 1) l ∧ 1 ≤ k := by
  obtain ⟨A, n, c, Q, m, d, h1, h2, h3⟩ := h.lat
  have hk := h.row.len
  rw [rows_len (ic_wid _), List.length_cons] at hk
  have hs := h.row.suf (i := 1) (by omega)
  exact ⟨⟨⟨A, n, c, Q, m, d, h1, h2, fun i hi => h3 i (by unfold At at hi ⊢; rwa [lowA_blk] at hi)⟩, hs, h.ok, h.fb, h.fr⟩, by omega⟩
end
theorem let_queue : ∀ (n : Nat) (t : Lat), t.q.length = n → (letT t).2 ++ (letT t).1.q.map (·.1) = t.q.map (·.1)
  | 0, t, hn => by
    rw [let_nil (List.eq_nil_of_length_eq_zero hn)]
    rfl
  | n + 1, t, hn => by
    cases hq : t.q with
    | nil => rw [hq] at hn; cases hn
    | cons x q =>
      cases hc : canT t x.2 with
      | false => rw [let_no hq hc]; simp [hq]
      | true =>
        rw [let_yes hq hc]
        have ih := let_queue n (giveT { t with q := q } x) (by rw [give_q]; rw [hq] at hn; simpa using hn)
        rw [give_q] at ih
        simp only at ih
        simp only [List.cons_append, List.map_cons, ih]
theorem drop_queue {t : Lat} {x : Int} (h : (t.q.any fun y => decide (y.1 = x)) = false) : (dropT t x).2 ++ (dropT t x).1.q.map (·.1) = t.q.map (·.1) := by
  rw [dropT]
  split
  · rfl
  · rw [let_queue _ _ rfl]
    have : (outT t x).q = t.q := by
      simp only [outT]
      rw [List.any_eq_false] at h
      exact List.filter_eq_self.2 fun y hy => by
        have := h y hy
        simpa using this
    rw [this]
theorem take_queue (t : Lat) (x : Int) (b : Bool) : (takeT t x b).q = t.q ∨ (takeT t x b).q = t.q ++ [(x, b)] := by
  unfold takeT
  split
  · exact .inl (give_q _ _)
  · split
    · exact .inr rfl
    · exact .inl rfl
/-- A step that came in. -/
theorem step_cell {w : World} {A : Option Addr} {j : Nat} {s : RStep} {l : List RStep} (h : Has w w.heap.size A (rows stepC l)) (hx : l[j]? = some s) : ∃ g o, A = some ⟨g, o, none⟩ ∧ (∀ W, Fr w W → W.cell? ⟨g, o + j * 3, none⟩ = some (.int .i64 s.what)) ∧ (∀ W, Fr w W → W.cell? ⟨g, o + j * 3 + 1, none⟩ = some (.int .i64 s.t)) ∧ ∀ W, Fr w W → W.cell? ⟨g, o + j * 3 + 2, none⟩ = some (.bool s.wr) := by
  obtain ⟨b0, off, rfl, hb0, hr0⟩ := has_rows h (stepC_wid l) (by decide) (by intro e; rw [e] at hx; simp at hx)
  exact ⟨b0, off, rfl, elem_cell0 hr0 (stepC_wid l) hb0 hx rfl, elem_cell (o := 1) hr0 (stepC_wid l) hb0 hx rfl, elem_cell (o := 2) hr0 (stepC_wid l) hb0 hx rfl⟩
set_option maxHeartbeats 16000000 in
theorem queue_core {w : World} {A : Option Addr} {m c : Nat} {l : List RStep} (hl : Has w w.heap.size A (rows stepC l)) (hm : l.length = m) (hmx : m ≤ maxLen) (hw : ∀ s ∈ l, s.wf) :
    Calls Try.prog 9 #[.slice A m c] w fun e w' => e = .returned (.bool true) ∧ Below w.heap.size w w' := by
  unfold maxLen at hmx
  by_cases h20 : 120 < m
  · have h20z : 120 < (m : Int) := by omega
    clear hl hm hw
    go_enter Try.func9, Try.ntmps9
    go_wp2_with fail
    with_reducible refine (lnewg w).mono ?_
    rintro e v0 ⟨g, rfl, h0⟩
    go_wp2_with fail
    with_reducible refine (awake14 v0).mono ?_
    rintro e v1 ⟨rfl, f⟩
    go_wp2_with fail
    go_ret
    exact ⟨rfl, fr_step h0.out.fr f⟩
  · have h20z : ¬ 120 < (m : Int) := by omega
    have HL := keep hl
    have HM := keep hm
    have HW := keep hw
    clear hl hm hw
    go_enter Try.func9, Try.ntmps9
    go_wp2_with fail
    with_reducible refine (lnewg w).mono ?_
    rintro e v0 ⟨g, rfl, h0⟩
    have L0 : Hid (LR w v0 g newT 0 none 0 0 (newT.q.map (·.1))) := keep (by
      obtain ⟨A1, n1, c1, Q1, m1, d1, h1, h2⟩ := h0.out.lat
      exact ⟨⟨A1, n1, c1, Q1, m1, d1, h1, h2, fun i hi => by cases hi⟩, Rw.nil _ _ _, h0.out.ok, h0.out.fb, h0.out.fr⟩)
    clear h0
    go_wp2_with fail
    go_loopg [4, 5, 6, 7, 8, 9, 10, 11, 12] m (fun gg s4 s5 _ _ _ _ _ _ _ wr => ∃ (j : Nat) (t : Lat) (B : Option Addr) (k b : Nat), j + gg = m ∧ s5 = .int .i64 j ∧ s4 = .slice B k b ∧ Hid (LR w wr g t j B k b (t.q.map (·.1))))
    case atStart => exact ⟨0, newT, none, 0, 0, by omega, rfl, rfl, L0⟩
    case round =>
      clear L0
      obtain ⟨j, t, B, k, b, hj, rfl, rfl, hB⟩ := hrel
      have hkl : (t.q.map (·.1)).length = k := by
        have := hB.out.row.len
        rw [rows_len (ic_wid _)] at this
        omega
      rw [List.length_map] at hkl
      have hkm : k ≤ 120 := by have := hB.out.lb.size; omega
      by_cases hlt : j < m
      · have hx : l[j]? = some (l[j]'(by rw [HM.out]; exact hlt)) := List.getElem?_eq_getElem _
        generalize l[j]'(by rw [HM.out]; exact hlt) = s at hx
        obtain ⟨v0, v1⟩ := HW.out s (List.mem_of_getElem? hx)
        obtain ⟨g1, o1, rfl, x0, x1, x2⟩ := step_cell HL.out hx
        obtain ⟨s0, s1, s2⟩ := s
        simp only at v0 v1 x0 x1 x2
        have cPk : ∀ W, Calls Try.prog 13 #[.int .i64 s1, .int .i64 6] W fun e w' => e = .returned (.int .i64 (s1 % 6)) ∧ Fr W w' := fun W => law_place s1 6 v1 (by omega) (by omega) W
        obtain ⟨p, hp, hp6⟩ : ∃ p : Nat, s1 % 6 = (p : Int) ∧ p < 6 := ⟨(s1 % 6).toNat, by omega, by omega⟩
        rw [hp] at cPk
        have hjz : (j : Int) < (m : Int) := by omega
        have y0 := x0 wr hB.out.fr
        have y1 := x1 wr hB.out.fr
        have X0 := keep x0
        have X2 := keep x2
        have HK := keep hkl
        unfold Is64 at v0
        obtain ⟨gko, rfl⟩ : ∃ x, x = gk := ⟨_, rfl⟩
        clear hx hlt x0 x1 x2 hp v1 hkl
        go_wp2_with fail
        with_reducible refine (cPk wr).mono ?_
        rintro e w1 ⟨rfl, f1⟩
        have L1 := keep (hB.out.go f1)
        have cq := lqueue L1.out.lb (by omega)
        clear cPk y0 y1 hB f1
        go_wp2_with fail
        with_reducible refine cq.mono ?_
        rintro e w2 ⟨B2, k2, b2, rfl, h2⟩
        have hk2 : k2 = k := by rw [← h2.out.1, HK.out]
        subst hk2
        have L2 := keep (L1.out.go h2.out.2.2)
        have y0 := X0.out w2 L2.out.fr
        have y2 := X2.out w2 L2.out.fr
        clear cq h2 L1
        by_cases hs : s0 ≤ 4
        · have ct := qtake (x := (p : Int)) (bb := s2) L2.out (by omega) (by omega)
          go_wp2_with fail
          with_reducible refine ct.mono ?_
          rintro e w3 ⟨rfl, h3⟩
          have cq := lqueue h3.out.lb (by omega)
          clear ct y0 y2
          go_wp2_with fail
          with_reducible refine cq.mono ?_
          rintro e w4 ⟨B4, k4, b4, rfl, h4⟩
          have hk4 := h4.out.1
          have L4 := keep (h3.out.go h4.out.2.2)
          clear cq h4 h3
          rcases take_queue t (p : Int) s2 with he | he
          · have hz : ¬ (k2 : Int) < (k4 : Int) := by
              rw [he, HK.out] at hk4
              omega
            have HE := keep he
            clear he hk4
            go_wp2_with fail
            go_roundg (gko - 1)
            case measure => omega
            case rel => exact ⟨j + 1, _, B, k2, b, by omega, rfl, rfl, keep (by rw [HE.out]; exact L4.out)⟩
          · have hz : (k2 : Int) < (k4 : Int) := by
              rw [he, List.length_append, HK.out] at hk4
              simp at hk4
              omega
            have HE := keep he
            clear he hk4
            go_wp2_with (first
              | (refine wpList_append_rw int_elem ints_under (by decide) rfl (.tmp 60) (.tmp 62) rfl B k2 b _ rfl (L4.out.row.fr (fr_new (fr_refl _) _)) (w4.heap.size + 1) (some ⟨w4.heap.size, 0, none⟩) 1 1 (ic (p : Int)) rfl rfl (has_one w4 _ _) (ic_one _) (by simp only [maxLen]; omega) (by omega) ?_; intro B8 b8 w8 h8 p8)
              | fail)
            go_roundg (gko - 1)
            case measure => omega
            case rel => exact ⟨j + 1, _, B8, k2 + 1, b8, by omega, rfl, rfl, keep (by
              rw [HE.out, List.map_append]
              refine L4.out.put ?_ p8
              rw [rows_append]
              exact h8)⟩
        · have cq := lqueue L2.out.lb (by omega)
          go_wp2_with fail
          with_reducible refine cq.mono ?_
          rintro e w3 ⟨B3, k3, b3, rfl, h3⟩
          have hk3 : k3 = k2 := by rw [← h3.out.1, HK.out]
          subst hk3
          have L3 := keep (L2.out.go h3.out.2.2)
          have R3 := keep h3.out.2.1.rw'
          clear cq h3 y0 y2
          go_upto_block 2 with fail
          go_cut [8] from 66 to 81 (fun s8 W => s8 = .bool (t.q.any fun y => decide (y.1 = (p : Int))) ∧ w3 = W)
          case first =>
            go_wp2_with fail
            go_loopg [8, 10] k3 (fun gg s8 s10 W => ∃ i : Nat, i + gg = k3 ∧ s10 = .int .i64 i ∧ s8 = .bool ((t.q.take i).any fun y => decide (y.1 = (p : Int))) ∧ w3 = W)
            case atStart => exact ⟨0, by omega, rfl, rfl, rfl⟩
            case round =>
              obtain ⟨i, hi, rfl, rfl, rfl⟩ := hrel
              by_cases hik : i < k3
              · have hy : t.q[i]? = some (t.q[i]'(by rw [HK.out]; exact hik)) := List.getElem?_eq_getElem _
                generalize t.q[i]'(by rw [HK.out]; exact hik) = y at hy
                obtain ⟨gr, or, rfl, hgr, hrr⟩ := has_rows R3.out.has (wc_wid _) (by decide) (by intro e; rw [e] at hy; simp at hy)
                have xr := elem_cell0 hrr (wc_wid _) hgr hy (u := .int .i64 y.1) rfl w3 (fr_refl w3)
                have hiz : (i : Int) < (k3 : Int) := by omega
                have hsn : ((t.q.take (i + 1)).any fun y => decide (y.1 = (p : Int))) = (((t.q.take i).any fun y => decide (y.1 = (p : Int))) || decide (y.1 = (p : Int))) := by
                  rw [take_one' hy, List.any_append]
                  simp
                have Hsn := keep hsn
                generalize ((t.q.take i).any fun y => decide (y.1 = (p : Int))) = q1 at *
                clear hy hrr hik hsn
                cases q1 with
                | true =>
                  go_wp2_with fail
                  go_roundg (gk - 1)
                  case measure => omega
                  case rel => exact ⟨i + 1, by omega, rfl, by rw [Hsn.out]; simp, rfl⟩
                | false =>
                  by_cases hyp : y.1 = (p : Int)
                  · have hyp2 : (y.1 == (p : Int)) = true := by simpa using hyp
                    have Hyp := keep hyp
                    clear hyp
                    go_wp2_with fail
                    go_roundg (gk - 1)
                    case measure => omega
                    case rel => exact ⟨i + 1, by omega, rfl, by rw [Hsn.out]; simp [Hyp.out], rfl⟩
                  · have hyp2 : (y.1 == (p : Int)) = false := by simpa using hyp
                    have Hyp := keep hyp
                    clear hyp
                    go_wp2_with fail
                    go_roundg (gk - 1)
                    case measure => omega
                    case rel => exact ⟨i + 1, by omega, rfl, by rw [Hsn.out]; simp [Hyp.out], rfl⟩
              · have hie : i = k3 := by omega
                subst hie
                have hiz : ¬ (i : Int) < (i : Int) := by omega
                have htk : t.q.take i = t.q := List.take_of_length_le (by rw [HK.out]; exact Nat.le_refl _)
                rw [htk]
                clear htk hik
                go_wp2_with fail
                go_meet
                exact ⟨rfl, rfl⟩
          case rest =>
            obtain ⟨rfl, rfl⟩ := hcut
            clear R3
            cases hany : (t.q.any fun y => decide (y.1 = (p : Int))) with
            | true =>
              clear hany
              go_wp2_with fail
              go_roundg (gko - 1)
              case measure => omega
              case rel => exact ⟨j + 1, t, B, k3, b, by omega, rfl, rfl, keep (by
                have h := L3.out
                exact ⟨h.lat, h.row, h.ok.more (Nat.le_succ _), h.fb, h.fr⟩)⟩
            | false =>
              have hdq := keep (drop_queue hany)
              have cd := qdrop (x := (p : Int)) L3.out (by omega)
              clear hany
              go_wp2_with fail
              with_reducible refine cd.mono ?_
              rintro e w5 ⟨B5, k5, b5, rfl, h5⟩
              have L5 := h5.out.1
              rw [← hdq.out] at L5
              have LL5 := keep L5
              have R5 := keep h5.out.2.2.1
              have hk5 : (dropT t (p : Int)).2.length = k5 := h5.out.2.1
              generalize (dropT t (p : Int)).2 = ins at *
              generalize (dropT t (p : Int)).1 = t5 at *
              have HK5 := keep hk5
              have hk5b : k5 ≤ 120 := by
                have h1 := LL5.out.row.len
                rw [rows_len (ic_wid _), List.length_append] at h1
                omega
              clear cd h5 L5 hdq hk5
              go_wp2_with fail
              go_loopg [4, 12] k5 (fun gg s4 s12 W => ∃ (i : Nat) (B6 : Option Addr) (k6 b6 : Nat), i + gg = k5 ∧ s12 = .int .i64 i ∧ s4 = .slice B6 k6 b6 ∧ Hid (Fr w5 W) ∧ Hid (LR w W g t5 j B6 k6 b6 (ins.drop i ++ t5.q.map (·.1))))
              case atStart => exact ⟨0, B, k3, b, by omega, rfl, rfl, keep (fr_refl _), LL5⟩
              case round =>
                clear LL5
                obtain ⟨i, B6, k6, b6, hi, rfl, rfl, hF6, h6⟩ := hrel
                by_cases hik : i < k5
                · have hy : ins[i]? = some (ins[i]'(by rw [HK5.out]; exact hik)) := List.getElem?_eq_getElem _
                  have hdr : ins.drop i = ins[i]'(by rw [HK5.out]; exact hik) :: ins.drop (i + 1) := List.drop_eq_getElem_cons _
                  generalize ins[i]'(by rw [HK5.out]; exact hik) = z at hy hdr
                  rw [hdr, List.cons_append] at h6
                  obtain ⟨hpop, hk61⟩ := h6.out.pop
                  obtain ⟨gr, or, hB5, xr⟩ := rw_cell (R5.out.fr hF6.out) hy
                  obtain ⟨gq, oq, hB6, xq⟩ := rw_cell (j := 0) h6.out.row rfl
                  rw [Nat.add_zero] at xq
                  subst hB5 hB6
                  have hgr := World.block_lt_of_cell? _ _ xr
                  have hgq := World.block_lt_of_cell? _ _ xq
                  have yr : ∀ W, Fr wr W → W.cell? ⟨gr, or + i, none⟩ = some (.int .i64 z) := fun W f => (f.cell hgr).trans xr
                  have yq : ∀ W, Fr wr W → W.cell? ⟨gq, oq, none⟩ = some (.int .i64 z) := fun W f => (f.cell hgq).trans xq
                  have hiz : (i : Int) < (k5 : Int) := by omega
                  have hk6z : ((k6 : Int) == 0) = false := by rw [beq_eq_false_iff_ne]; omega
                  have hk60 : 0 < (k6 : Int) := by omega
                  have hk6n : 0 < k6 := hk61
                  have q1 : ∀ W, (Instr.slice 33 (.slice (some ⟨gq, oq, none⟩) k6 b6) (some (.int .i64 1)) none none).run Try.prog W = .ok (.slice (lowA 1 (some ⟨gq, oq, none⟩) b6 1) (k6 - 1) (b6 - 1)) W := fun W => i_slice_lo (some ⟨gq, oq, none⟩) k6 b6 1 hk61 W
                  have HPOP := keep hpop
                  have wrr := fr_refl wr
                  have wrd := fr_drew wrr
                  clear hy hdr hpop xr xq hik h6
                  go_wp2_with fail
                  refine wp_region_noPanic ?_
                  refine wp_region_held_drew (S := fun W => Fr wr W) (by kernel_rfl) wrd (fun hHeld => ?_)
                  change wpAnyH _ _ _ _ _ _ _ _ _
                  refine wpAnyH_take (i := 0) (v := ?_) rfl (by kernel_rfl) (by kernel_rfl) (by kernel_rfl) (fun _ _ _ h => h) (Or.inl ⟨by rfl, ?_⟩) (by assumption) ?_
                  rotate_left
                  · intro w' hSw
                    try dsimp only at hSw
                    go_simp
                    try with_reducible rfl
                  try simp only [List.getElem_toArray, List.getElem_cons_zero, Act.put, List.setIfInBounds_toArray, List.set_cons_zero, List.set_cons_succ]
                  refine wpAnyH_take (i := 1) (v := ?_) rfl (by kernel_rfl) (by kernel_rfl) (by kernel_rfl) (fun _ _ _ h => h) (Or.inl ⟨by rfl, ?_⟩) (by assumption) ?_
                  rotate_left
                  · intro w' hSw
                    try dsimp only at hSw
                    go_simp
                    try with_reducible rfl
                  try simp only [List.getElem_toArray, List.getElem_cons_succ, List.getElem_cons_zero, Act.put, List.setIfInBounds_toArray, List.set_cons_zero, List.set_cons_succ]
                  refine wpAnyH_take (i := 2) (v := .bool false) rfl (by kernel_rfl) (by kernel_rfl) (by kernel_rfl) (fun _ _ _ h => h) (Or.inl ⟨by rfl, ?_⟩) (by assumption) ?_
                  · intro w' hSw
                    try dsimp only at hSw
                    try go_simp
                    all_goals first | done | with_reducible rfl | omega | assumption | (simp; omega)
                  try simp only [List.getElem_toArray, List.getElem_cons_succ, List.getElem_cons_zero, Act.put, List.setIfInBounds_toArray, List.set_cons_zero, List.set_cons_succ]
                  refine wpAnyH_take (i := 3) (v := .bool false) rfl (by kernel_rfl) (by kernel_rfl) (by kernel_rfl) (fun _ _ _ h => h) (Or.inl ⟨by rfl, ?_⟩) (by assumption) ?_
                  · intro w' hSw
                    try dsimp only at hSw
                    try go_simp
                    all_goals first | done | with_reducible rfl | omega | assumption | (simp; omega)
                  try simp only [List.getElem_toArray, List.getElem_cons_succ, List.getElem_cons_zero, Act.put, List.setIfInBounds_toArray, List.set_cons_zero, List.set_cons_succ]
                  refine wpAnyH_take (i := 4) (v := ?_) rfl (by kernel_rfl) (by kernel_rfl) (by kernel_rfl) (fun _ _ _ h => h) (Or.inl ⟨by rfl, ?_⟩) (by assumption) ?_
                  rotate_left
                  · intro w' hSw
                    try dsimp only at hSw
                    go_simp
                    try with_reducible rfl
                  try simp only [List.getElem_toArray, List.getElem_cons_succ, List.getElem_cons_zero, Act.put, List.setIfInBounds_toArray, List.set_cons_zero, List.set_cons_succ]
                  refine wpAnyH_take (i := 5) (v := ?_) rfl (by kernel_rfl) (by kernel_rfl) (by kernel_rfl) (fun _ _ _ h => h) (Or.inl ⟨by rfl, ?_⟩) (by assumption) ?_
                  rotate_left
                  · intro w' hSw
                    try dsimp only at hSw
                    go_simp
                    try with_reducible rfl
                  try simp only [List.getElem_toArray, List.getElem_cons_succ, List.getElem_cons_zero, Act.put, List.setIfInBounds_toArray, List.set_cons_zero, List.set_cons_succ]
                  refine wpAnyH_take (i := 6) (v := ?_) rfl (by kernel_rfl) (by kernel_rfl) (by kernel_rfl) (fun _ _ _ h => h) (Or.inl ⟨by rfl, ?_⟩) (by assumption) ?_
                  rotate_left
                  · intro w' hSw
                    try dsimp only at hSw
                    go_simp
                    try with_reducible rfl
                  try simp only [List.getElem_toArray, List.getElem_cons_succ, List.getElem_cons_zero, Act.put, List.setIfInBounds_toArray, List.set_cons_zero, List.set_cons_succ]
                  refine wpAnyH_take (i := 7) (v := ?_) rfl (by kernel_rfl) (by kernel_rfl) (by kernel_rfl) (fun _ _ _ h => h) (Or.inl ⟨by rfl, ?_⟩) (by assumption) ?_
                  rotate_left
                  · intro w' hSw
                    try dsimp only at hSw
                    go_simp
                    try with_reducible rfl
                  try simp only [List.getElem_toArray, List.getElem_cons_succ, List.getElem_cons_zero, Act.put, List.setIfInBounds_toArray, List.set_cons_zero, List.set_cons_succ]
                  refine wpAnyH_take (i := 8) (v := ?_) rfl (by kernel_rfl) (by kernel_rfl) (by kernel_rfl) (fun _ _ _ h => h) (Or.inl ⟨by rfl, ?_⟩) (by assumption) ?_
                  rotate_left
                  · intro w' hSw
                    try dsimp only at hSw
                    go_simp
                    try with_reducible rfl
                  try simp only [List.getElem_toArray, List.getElem_cons_succ, List.getElem_cons_zero, Act.put, List.setIfInBounds_toArray, List.set_cons_zero, List.set_cons_succ]
                  refine wpAnyH_take (i := 9) (v := ?_) rfl (by kernel_rfl) (by kernel_rfl) (by kernel_rfl) (fun _ _ _ h => h) (Or.inl ⟨by rfl, ?_⟩) (by assumption) ?_
                  rotate_left
                  · intro w' hSw
                    try dsimp only at hSw
                    go_simp
                    try with_reducible rfl
                  try simp only [List.getElem_toArray, List.getElem_cons_succ, List.getElem_cons_zero, Act.put, List.setIfInBounds_toArray, List.set_cons_zero, List.set_cons_succ]
                  refine wpAnyH_take (i := 10) (v := ?_) rfl (by kernel_rfl) (by kernel_rfl) (by kernel_rfl) (fun _ _ _ h => h) (Or.inl ⟨by rfl, ?_⟩) (by assumption) ?_
                  rotate_left
                  · intro w' hSw
                    try dsimp only at hSw
                    go_simp
                    try with_reducible rfl
                  try simp only [List.getElem_toArray, List.getElem_cons_succ, List.getElem_cons_zero, Act.put, List.setIfInBounds_toArray, List.set_cons_zero, List.set_cons_succ]
                  refine wpAnyH_take (i := 11) (v := .bool false) rfl (by kernel_rfl) (by kernel_rfl) (by kernel_rfl) (fun _ _ _ h => h) (Or.inl ⟨by rfl, ?_⟩) (by assumption) ?_
                  · intro w' hSw
                    try dsimp only at hSw
                    try go_simp
                    all_goals first | done | with_reducible rfl | omega | assumption | (simp; omega)
                  try simp only [List.getElem_toArray, List.getElem_cons_succ, List.getElem_cons_zero, Act.put, List.setIfInBounds_toArray, List.set_cons_zero, List.set_cons_succ]
                  refine wpAnyH_take (i := 12) (v := .bool false) rfl (by kernel_rfl) (by kernel_rfl) (by kernel_rfl) (fun _ _ _ h => h) (Or.inl ⟨by rfl, ?_⟩) (by assumption) ?_
                  · intro w' hSw
                    try dsimp only at hSw
                    try go_simp
                    all_goals first | done | with_reducible rfl | omega | assumption | (simp; omega)
                  try simp only [List.getElem_toArray, List.getElem_cons_succ, List.getElem_cons_zero, Act.put, List.setIfInBounds_toArray, List.set_cons_zero, List.set_cons_succ]
                  refine wpAnyH_done (by kernel_rfl) ?_ _
                  refine NoPanic.normal ?_
                  go_wp2_with fail
                  go_roundg (gk - 1)
                  case measure => omega
                  case rel => exact ⟨i + 1, _, k6 - 1, b6 - 1, by omega, rfl, rfl, keep (fr_step hF6.out (by assumption)), keep (HPOP.out.go (by assumption))⟩
                · have hie : i = k5 := by omega
                  subst hie
                  have hiz : ¬ (i : Int) < (i : Int) := by omega
                  have h7 := h6.out
                  rw [List.drop_eq_nil_of_le (by rw [HK5.out]; exact Nat.le_refl _), List.nil_append] at h7
                  have H7 := keep h7
                  clear h7 hik h6
                  go_wp2_with fail
                  go_roundg (gko - 1)
                  case measure => omega
                  case rel => exact ⟨j + 1, t5, B6, k6, b6, by omega, rfl, rfl, keep ⟨H7.out.lat, H7.out.row, H7.out.ok.more (Nat.le_succ _), H7.out.fb, H7.out.fr⟩⟩
      · have hje : j = m := by omega
        subst hje
        have hiz : ¬ (j : Int) < (j : Int) := by omega
        have cq := lqueue hB.out.lb (by omega)
        have HK := keep hkl
        have F := keep hB.out.fr
        clear hlt hkl
        go_wp2_with fail
        with_reducible refine cq.mono ?_
        rintro e w7 ⟨B7, k7, b7, rfl, h7⟩
        have hk7 : k7 = k := by rw [← h7.out.1, HK.out]
        subst hk7
        have F7 := keep (fr_step F.out h7.out.2.2)
        clear cq h7
        go_wp2_with fail
        with_reducible refine (awake14 w7).mono ?_
        rintro e w8 ⟨rfl, f⟩
        go_wp2_with fail
        go_ret
        exact ⟨rfl, fr_step F7.out f⟩
end Go.Proofs.Ytbnphkiipjgfaaa
