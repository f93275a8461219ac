/- Package latch as the laws take it; awake. -/
import Derived.Test.YtbnphkiipjgfaaaLaI
import Derived.Test.YtbnphkiipjgfaaaPlace
import Derived.Test.YtbnphkiipjgfaaaSame
namespace Go.Proofs.Ytbnphkiipjgfaaa
set_option linter.unusedVariables false
set_option linter.unusedSimpArgs false
set_option maxRecDepth 100000
open Go.RowKit
/-- A latch that was made behind w0. -/
structure LB (w0 w : World) (g : Nat) (t : Lat) (K : Nat) : Prop where
  lat : ∃ A n c Q m d, PB w g A n c Q m d t ∧ ∀ k, LX g A Q k → w0.heap.size ≤ k
  ok : OkT t K
  fb : Fb t
  fr : Fr w0 w
/-- .. and that lies apart from the row at B. -/
def Off (w : World) (g : Nat) (t : Lat) (B : Option Addr) : Prop := ∃ A n c Q m d, PB w g A n c Q m d t ∧ ∀ i, At B i → ¬ LX g A Q i
section
variable {w0 w w' : World} {g n c m d K L : Nat} {A Q B : Option Addr} {t u : Lat} {x : Int} {b : Bool}
theorem LB.of (hy : ∀ k, LX g A Q k → w0.heap.size ≤ k) (f : Fr w0 w) (T : Turn w w' (LX g A Q) g u) (ok : OkT u L ∧ Fb u) : LB w0 w' g u L := by
  obtain ⟨A2, n2, c2, Q2, m2, d2, h1, h2, h3⟩ := T
  refine ⟨⟨A2, n2, c2, Q2, m2, d2, h1, fun k hk => ?_⟩, ok.1, ok.2, f.trans (h2.below f.size hy)⟩
  rcases h3 k hk with h | h
  · exact hy k h
  · exact Nat.le_trans f.size h
theorem TurnB.turn {Y : Nat → Prop} (h : TurnB w w' Y g u B) : Turn w w' Y g u := by
  obtain ⟨A2, n2, c2, Q2, m2, d2, h1, h2, h3, h4⟩ := h
  exact ⟨A2, n2, c2, Q2, m2, d2, h1, h2, h3⟩
theorem LB.mono (h : LB w0 w g t K) (hl : K ≤ L) : LB w0 w g t L := ⟨h.lat, h.ok.more hl, h.fb, h.fr⟩
theorem LB.go (h : LB w0 w g t K) (f : Fr w w') : LB w0 w' g t K := by
  obtain ⟨A, n, c, Q, m, d, hp, hy⟩ := h.lat
  exact ⟨⟨A, n, c, Q, m, d, hp.fr f, hy⟩, h.ok, h.fb, fr_step h.fr f⟩
theorem LB.size (h : LB w0 w g t K) : t.rs.length ≤ K ∧ t.q.length ≤ K := by have := h.ok.len; omega
theorem lnew (w : World) : Calls Try.prog 10 #[] w fun e w' => e = .returned (.pointer (some ⟨w.heap.size, 0, none⟩)) ∧ Hid (LB w w' w.heap.size newT 0) := by
  refine (new_at w).mono ?_
  rintro e w' ⟨rfl, hh⟩
  obtain ⟨h1, h2⟩ := hh.out
  exact ⟨rfl, keep ⟨⟨none, 0, 0, none, 0, 0, h1, fun k hk => by rcases hk with h | h | h; exact Nat.le_of_eq h.symm; cases h; cases h⟩, new_ok.1, new_ok.2, h2⟩⟩
theorem ltake (h : LB w0 w g t K) (hK : K ≤ 90000) (hx : -9223372036854775808 ≤ x ∧ x ≤ 9223372036854775807) :
    Calls Try.prog 14 #[.pointer (some ⟨g, 0, none⟩), .int .i64 x, .bool b] w fun e w' => e = .returned (.bool (tryB t x b)) ∧ Hid (LB w0 w' g (takeT t x b) (K + 1)) := by
  obtain ⟨A, n, c, Q, m, d, hp, hy⟩ := h.lat
  refine (take_at hp h.ok (by omega) hx).mono ?_
  rintro e w' ⟨rfl, hh⟩
  exact ⟨rfl, keep (LB.of hy h.fr hh.out (h.ok.take h.fb x (by simp only [maxI]; omega) b))⟩
theorem ltry (h : LB w0 w g t K) (hK : K ≤ 90000) (hx : -9223372036854775808 ≤ x ∧ x ≤ 9223372036854775807) :
    Calls Try.prog 16 #[.pointer (some ⟨g, 0, none⟩), .int .i64 x, .bool b] w fun e w' => e = .returned (.bool (tryB t x b)) ∧ Hid (LB w0 w' g (tryT t x b) (K + 1)) := by
  obtain ⟨A, n, c, Q, m, d, hp, hy⟩ := h.lat
  refine (try_at hp h.ok (by omega) hx).mono ?_
  rintro e w' ⟨rfl, hh⟩
  exact ⟨rfl, keep (LB.of hy h.fr hh.out (h.ok.try h.fb x (by simp only [maxI]; omega) b))⟩
theorem ldrop (h : LB w0 w g t K) (hK : K ≤ 90000) :
    Calls Try.prog 19 #[.pointer (some ⟨g, 0, none⟩), .int .i64 x] w fun e w' => ∃ B k b, e = .returned (.slice B k b) ∧ Hid (LB w0 w' g (dropT t x).1 K ∧ Res w w' B k b (dropT t x).2 ∧ Off w' g (dropT t x).1 B) := by
  obtain ⟨A, n, c, Q, m, d, hp, hy⟩ := h.lat
  refine (drop_at hp h.ok h.fb (by omega)).mono ?_
  rintro e w' ⟨B, k, b, rfl, hh⟩
  refine ⟨B, k, b, rfl, keep ⟨LB.of hy h.fr hh.out.2.turn (h.ok.drop h.fb x), hh.out.1, ?_⟩⟩
  obtain ⟨A2, n2, c2, Q2, m2, d2, h1, h2, h3, h4⟩ := hh.out.2
  exact ⟨A2, n2, c2, Q2, m2, d2, h1, h4⟩
theorem ldown (h : LB w0 w g t K) (hK : K ≤ 90000) (hx : -9223372036854775808 ≤ x ∧ x ≤ 9223372036854775807) :
    Calls Try.prog 21 #[.pointer (some ⟨g, 0, none⟩), .int .i64 x] w fun e w' => ∃ B k b, e = .returned (.slice B k b) ∧ Hid (LB w0 w' g (downT t x).1 (K + 1) ∧ Res w w' B k b (downT t x).2 ∧ Off w' g (downT t x).1 B) := by
  obtain ⟨A, n, c, Q, m, d, hp, hy⟩ := h.lat
  refine (down_at hp h.ok (by omega) hx).mono ?_
  rintro e w' ⟨B, k, b, rfl, hh⟩
  refine ⟨B, k, b, rfl, keep ⟨LB.of hy h.fr hh.out.2.turn (h.ok.down h.fb x (by simp only [maxI]; omega)), hh.out.1, ?_⟩⟩
  obtain ⟨A2, n2, c2, Q2, m2, d2, h1, h2, h3, h4⟩ := hh.out.2
  exact ⟨A2, n2, c2, Q2, m2, d2, h1, h4⟩
theorem lwriter (h : LB w0 w g t K) : Calls Try.prog 28 #[.pointer (some ⟨g, 0, none⟩)] w fun e w' => e = .returned (.int .i64 t.wr) ∧ w = w' := by
  obtain ⟨A, n, c, Q, m, d, hp, hy⟩ := h.lat
  exact writer_at hp
theorem lidle (h : LB w0 w g t K) : Calls Try.prog 31 #[.pointer (some ⟨g, 0, none⟩)] w fun e w' => e = .returned (.bool (idleB t)) ∧ w = w' := by
  obtain ⟨A, n, c, Q, m, d, hp, hy⟩ := h.lat
  exact idle_at hp
theorem lreaders (h : LB w0 w g t K) (hK : K ≤ 90000) : Calls Try.prog 27 #[.pointer (some ⟨g, 0, none⟩)] w fun e w' => ∃ B k b, e = .returned (.slice B k b) ∧ Hid (t.rs.length = k ∧ Own w' w.heap.size 3 1 B k b (ints t.rs) ∧ Fr w w') := by
  obtain ⟨A, n, c, Q, m, d, hp, hy⟩ := h.lat
  exact readers_at hp (by have := h.size; omega)
theorem lqueue (h : LB w0 w g t K) (hK : K ≤ 90000) : Calls Try.prog 30 #[.pointer (some ⟨g, 0, none⟩)] w fun e w' => ∃ B k b, e = .returned (.slice B k b) ∧ Hid (t.q.length = k ∧ Own w' w.heap.size 51 2 B k b (rows wc t.q) ∧ Fr w w') := by
  obtain ⟨A, n, c, Q, m, d, hp, hy⟩ := h.lat
  exact queue_at hp (by have := h.size; omega)
theorem lpin (h : LB w0 w g t K) (hK : K ≤ 90000) : Calls Try.prog 23 #[.pointer (some ⟨g, 0, none⟩)] w fun e w' => e = .returned (.int .i64 (t.pn + 1)) ∧ Hid (LB w0 w' g (pinT t) (K + 1)) := by
  obtain ⟨A, n, c, Q, m, d, hp, hy⟩ := h.lat
  refine (pin_at hp (by have := h.ok.pn; omega)).mono ?_
  rintro e w' ⟨rfl, hh⟩
  exact ⟨rfl, keep (LB.of hy h.fr hh.out (h.ok.pin h.fb))⟩
/-- A row apart from a latch that is dropped from stays. -/
theorem ldrop_off {k b : Nat} {l : List Int} (h : LB w0 w g t K) (hK : K ≤ 90000) (ho : Off w g t B) (hr : Rw w 3 1 B k b (rows ic l)) :
    Calls Try.prog 19 #[.pointer (some ⟨g, 0, none⟩), .int .i64 x] w fun e w' => ∃ B2 k2 b2, e = .returned (.slice B2 k2 b2) ∧ Hid (LB w0 w' g (dropT t x).1 K ∧ Res w w' B2 k2 b2 (dropT t x).2 ∧ Rw w' 3 1 B k b (rows ic l)) := by
  obtain ⟨A, n, c, Q, m, d, hp, hn⟩ := ho
  obtain ⟨A1, n1, c1, Q1, m1, d1, hp1, hy⟩ := h.lat
  obtain ⟨e1, e2⟩ : A = A1 ∧ Q = Q1 := by
    have k1 := hp.cells
    have k2 := hp1.cells
    have e1 := k1.2.1.symm.trans k2.2.1
    have e2 := k1.2.2.2.symm.trans k2.2.2.2
    injection e1 with e1
    injection e2 with e2
    injection e1 with e1
    injection e2 with e2
    exact ⟨e1, e2⟩
  subst e1 e2
  refine (drop_at hp1 h.ok h.fb (by omega)).mono ?_
  rintro e w' ⟨B2, k2, b2, rfl, hh⟩
  obtain ⟨A2, n2, c2, Q2, m2, d2, h1, h2, h3, h4⟩ := hh.out.2
  exact ⟨B2, k2, b2, rfl, keep ⟨LB.of hy h.fr hh.out.2.turn (h.ok.drop h.fb x), hh.out.1, hr.chg h2 hn⟩⟩
/-- A row apart from a latch that goes down stays. -/
theorem ldown_off {k b : Nat} {l : List Int} (h : LB w0 w g t K) (hK : K ≤ 90000) (hx : -9223372036854775808 ≤ x ∧ x ≤ 9223372036854775807) (ho : Off w g t B) (hr : Rw w 3 1 B k b (rows ic l)) :
    Calls Try.prog 21 #[.pointer (some ⟨g, 0, none⟩), .int .i64 x] w fun e w' => ∃ B2 k2 b2, e = .returned (.slice B2 k2 b2) ∧ Hid (LB w0 w' g (downT t x).1 (K + 1) ∧ Res w w' B2 k2 b2 (downT t x).2 ∧ Rw w' 3 1 B k b (rows ic l)) := by
  obtain ⟨A, n, c, Q, m, d, hp, hn⟩ := ho
  obtain ⟨A1, n1, c1, Q1, m1, d1, hp1, hy⟩ := h.lat
  obtain ⟨e1, e2⟩ : A = A1 ∧ Q = Q1 := by
    have k1 := hp.cells
    have k2 := hp1.cells
    have e1 := k1.2.1.symm.trans k2.2.1
    have e2 := k1.2.2.2.symm.trans k2.2.2.2
    injection e1 with e1
    injection e2 with e2
    injection e1 with e1
    injection e2 with e2
    exact ⟨e1, e2⟩
  subst e1 e2
  refine (down_at hp1 h.ok (by omega) hx).mono ?_
  rintro e w' ⟨B2, k2, b2, rfl, hh⟩
  obtain ⟨A2, n2, c2, Q2, m2, d2, h1, h2, h3, h4⟩ := hh.out.2
  exact ⟨B2, k2, b2, rfl, keep ⟨LB.of hy h.fr hh.out.2.turn (h.ok.down h.fb x (by simp only [maxI]; omega)), hh.out.1, hr.chg h2 hn⟩⟩
end
theorem aw1 : tryB newT 0 false = true ∧ takeT newT 0 false = ⟨[0], -1, [], 0⟩ := ⟨by decide, by rfl⟩
theorem aw2 : tryB ⟨[0], -1, [], 0⟩ 1 true = false ∧ takeT ⟨[0], -1, [], 0⟩ 1 true = ⟨[0], -1, [(1, true)], 0⟩ := ⟨by decide, by rfl⟩
theorem aw3 : tryB ⟨[0], -1, [(1, true)], 0⟩ 2 false = false ∧ takeT ⟨[0], -1, [(1, true)], 0⟩ 2 false = ⟨[0], -1, [(1, true), (2, false)], 0⟩ := ⟨by decide, by rfl⟩
theorem aw4 : dropT ⟨[0], -1, [(1, true), (2, false)], 0⟩ 0 = (⟨[], 1, [(2, false)], 0⟩, [1]) := by rfl
theorem aw5 : dropT ⟨[], 1, [(2, false)], 0⟩ 1 = (⟨[2], -1, [], 0⟩, [2]) := by rfl
theorem aw6 : idleB ⟨[2], -1, [], 0⟩ = false := by decide
theorem rw_one {w : World} {B : Option Addr} {k b : Nat} {x : Int} (h : Rw w 3 1 B k b (rows ic [x])) : ∃ g o, B = some ⟨g, o, none⟩ ∧ w.cell? ⟨g, o, none⟩ = some (.int .i64 x) ∧ g < w.heap.size ∧ k = 1 := by
  have hl := h.len
  have hk : k = 1 := by simpa [rows, ic] using hl.symm
  subst hk
  obtain ⟨g, o, rfl⟩ := h.addr (by omega)
  obtain ⟨b', off, e, hb, hc⟩ := h.has 0 (.int .i64 x) rfl
  injection e with e
  injection e with e1 e2
  subst e1 e2
  exact ⟨g, o, rfl, by simpa using hc, hb, rfl⟩
set_option maxHeartbeats 8000000 in
theorem awake14 (w : World) : Calls Try.prog 12 #[] w fun e w' => e = .returned (.bool true) ∧ Fr w w' := by
  go_enter Try.func12, Try.ntmps12
  go_wp2_with fail
  refine (lnew w).mono ?_
  rintro e w1 ⟨rfl, h1⟩
  have c1 := ltake (x := 0) (b := false) h1.out (by omega) (by omega)
  rw [aw1.1, aw1.2] at c1
  clear h1
  go_wp2_with fail
  refine c1.mono ?_
  rintro e w2 ⟨rfl, h2⟩
  have c2 := ltake (x := 1) (b := true) h2.out (by omega) (by omega)
  rw [aw2.1, aw2.2] at c2
  clear h2 c1
  go_wp2_with fail
  refine c2.mono ?_
  rintro e w3 ⟨rfl, h3⟩
  have c3 := ltake (x := 2) (b := false) h3.out (by omega) (by omega)
  rw [aw3.1, aw3.2] at c3
  clear h3 c2
  go_wp2_with fail
  refine c3.mono ?_
  rintro e w4 ⟨rfl, h4⟩
  have c4 := ldrop (x := 0) h4.out (by omega)
  rw [aw4] at c4
  clear h4 c3
  go_wp2_with fail
  refine c4.mono ?_
  rintro e w5 ⟨B, k, b, rfl, h5⟩
  obtain ⟨l5, r5, o5⟩ := h5.out
  have c5 := lwriter l5
  have c6 := ldrop_off (x := 1) l5 (by omega) o5 r5.2.1
  rw [aw5] at c6
  clear l5 r5 o5 h5 c4
  go_wp2_with fail
  refine c5.mono ?_
  rintro e w6 ⟨rfl, rfl⟩
  go_wp2_with fail
  refine c6.mono ?_
  rintro e w7 ⟨B2, k2, b2, rfl, h7⟩
  obtain ⟨l7, r7, s7⟩ := h7.out
  obtain ⟨g1, o1, rfl, x1, z1, rfl⟩ := rw_one s7
  obtain ⟨g2, o2, rfl, x2, z2, rfl⟩ := rw_one r7.2.1
  have c7 := lwriter l7
  have c8 := lreaders l7 (by omega)
  have L7 := keep l7
  clear c5 c6 l7 r7 s7 h7
  go_wp2_with fail
  refine c7.mono ?_
  rintro e w8 ⟨rfl, rfl⟩
  clear c7
  go_wp2_with fail
  refine c8.mono ?_
  rintro e w9 ⟨B3, k3, b3, rfl, h9⟩
  obtain ⟨e9, -, f9⟩ := h9.out
  have e9 : k3 = 1 := e9.symm
  subst e9
  have L9 := keep (L7.out.go f9)
  have c9 := lidle L9.out
  rw [aw6] at c9
  clear c8 h9 f9
  go_wp2_with fail
  refine c9.mono ?_
  rintro e w10 ⟨rfl, rfl⟩
  have c10 := lpin L9.out (by omega)
  clear c9
  go_wp2_with fail
  refine c10.mono ?_
  rintro e w11 ⟨rfl, h11⟩
  go_wp2_with fail
  go_ret
  exact ⟨rfl, h11.out.fr⟩
end Go.Proofs.Ytbnphkiipjgfaaa
