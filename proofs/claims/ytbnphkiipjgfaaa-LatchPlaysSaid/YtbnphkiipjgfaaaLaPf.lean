/- LatchPlays, one: both latches side by side. -/
import Derived.Test.YtbnphkiipjgfaaaLaP
import Derived.Test.YtbnphkiipjgfaaaLaDo
namespace Go.Proofs.Ytbnphkiipjgfaaa
set_option linter.unusedVariables false
set_option linter.unusedSimpArgs false
set_option maxRecDepth 100000
open Go.RowKit
/-- The program's latch and the document's, apart from each other, their blocks below Np and Nd. -/
structure BB (w0 w : World) (g r : Nat) (t u : Lat) (K Np Nd : Nat) : Prop where
  lat : ∃ A n c Q m d A' n' c' Q' m' d', PB w g A n c Q m d t ∧ DB w r A' n' c' Q' m' d' u ∧ (∀ i, LX g A Q i → w0.heap.size ≤ i ∧ i < Np ∧ ¬ LX r A' Q' i) ∧ ∀ i, LX r A' Q' i → w0.heap.size ≤ i ∧ i < Nd
  ok : OkT t K ∧ Fb t
  ok2 : OkT u K ∧ Fb u
  fr : Fr w0 w
section
variable {w0 w w' : World} {g r K L Np Nd : Nat} {t u t' : Lat} {x : Int} {b : Bool}
theorem BB.go (h : BB w0 w g r t u K Np Nd) (f : Fr w w') : BB w0 w' g r t u K Np Nd := by
  obtain ⟨A, n, c, Q, m, d, A', n', c', Q', m', d', hp, hd, hy, hz⟩ := h.lat
  exact ⟨⟨A, n, c, Q, m, d, A', n', c', Q', m', d', hp.fr f, hd.fr f, hy, hz⟩, h.ok, h.ok2, fr_step h.fr f⟩
theorem BB.mono (h : BB w0 w g r t u K Np Nd) {N1 N2 : Nat} (h1 : Np ≤ N1) (h2 : Nd ≤ N2) (hl : K ≤ L) : BB w0 w g r t u L N1 N2 := by
  obtain ⟨A, n, c, Q, m, d, A', n', c', Q', m', d', hp, hd, hy, hz⟩ := h.lat
  exact ⟨⟨A, n, c, Q, m, d, A', n', c', Q', m', d', hp, hd, fun i hi => ⟨(hy i hi).1, by have := (hy i hi).2.1; omega, (hy i hi).2.2⟩, fun i hi => ⟨(hz i hi).1, by have := (hz i hi).2; omega⟩⟩, ⟨h.ok.1.more hl, h.ok.2⟩, ⟨h.ok2.1.more hl, h.ok2.2⟩, h.fr⟩
section
variable {A Q A' Q' : Option Addr} {n c m d n' c' m' d' : Nat}
theorem bb_p (hp : PB w g A n c Q m d t) (hd : DB w r A' n' c' Q' m' d' u) (hy : ∀ i, LX g A Q i → w0.heap.size ≤ i ∧ i < Np ∧ ¬ LX r A' Q' i) (hz : ∀ i, LX r A' Q' i → w0.heap.size ≤ i ∧ i < Nd) (f : Fr w0 w) (T : Turn w w' (LX g A Q) g t') (ok : OkT t' L ∧ Fb t') (ok2 : OkT u L ∧ Fb u) : BB w0 w' g r t' u L w'.heap.size Nd ∧ Chg (fun i => i < Np) w w' := by
  obtain ⟨A2, n2, c2, Q2, m2, d2, h1, h2, h3⟩ := T
  refine ⟨⟨⟨A2, n2, c2, Q2, m2, d2, A', n', c', Q', m', d', h1, hd.chg h2 fun i hi hx => (hy i hx).2.2 hi, fun i hi => ⟨?_, h1.lt i hi, fun hx => ?_⟩, hz⟩, ok, ok2, f.trans (h2.below f.size fun i hi => (hy i hi).1)⟩, h2.weak fun i _ hi => (hy i hi).2.1⟩
  · rcases h3 i hi with h | h
    · exact (hy i h).1
    · exact Nat.le_trans f.size h
  · rcases h3 i hi with h | h
    · exact (hy i h).2.2 hx
    · have := hd.lt i hx; omega
theorem bb_d (hp : PB w g A n c Q m d t) (hd : DB w r A' n' c' Q' m' d' u) (hy : ∀ i, LX g A Q i → w0.heap.size ≤ i ∧ i < Np ∧ ¬ LX r A' Q' i) (hz : ∀ i, LX r A' Q' i → w0.heap.size ≤ i ∧ i < Nd) (f : Fr w0 w) (T : DTurn w w' (LX r A' Q') r t') (ok : OkT t L ∧ Fb t) (ok2 : OkT t' L ∧ Fb t') : BB w0 w' g r t t' L Np w'.heap.size ∧ Chg (fun i => i < Nd) w w' := by
  obtain ⟨A2, n2, c2, Q2, m2, d2, h1, h2, h3⟩ := T
  refine ⟨⟨⟨A, n, c, Q, m, d, A2, n2, c2, Q2, m2, d2, hp.chg h2 fun i hi hx => (hy i hi).2.2 hx, h1, fun i hi => ⟨(hy i hi).1, (hy i hi).2.1, fun hx => ?_⟩, fun i hi => ⟨?_, h1.lt i hi⟩⟩, ok, ok2, f.trans (h2.below f.size fun i hi => (hz i hi).1)⟩, h2.weak fun i _ hi => (hz i hi).2⟩
  · rcases h3 i hx with h | h
    · exact (hy i hi).2.2 h
    · have := hp.lt i hi; omega
  · rcases h3 i hi with h | h
    · exact (hz i h).1
    · exact Nat.le_trans f.size h
end
theorem btake (h : BB w0 w g r t u K Np Nd) (hK : K ≤ 90000) (hx : -9223372036854775808 ≤ x ∧ x ≤ 9223372036854775807) :
    Calls Try.prog 14 #[.pointer (some ⟨g, 0, none⟩), .int .i64 x, .bool b] w fun e w' => e = .returned (.bool (tryB t x b)) ∧ Hid (BB w0 w' g r (takeT t x b) u (K + 1) w'.heap.size Nd ∧ Chg (fun i => i < Np) w w') := by
  obtain ⟨A, n, c, Q, m, d, A', n', c', Q', m', d', hp, hd, hy, hz⟩ := h.lat
  have o1 : OkT (takeT t x b) (K + 1) ∧ Fb (takeT t x b) := h.ok.1.take h.ok.2 x (by simp only [maxI]; omega) b
  have o2 : OkT u (K + 1) ∧ Fb u := ⟨h.ok2.1.more (Nat.le_succ _), h.ok2.2⟩
  refine (take_at hp h.ok.1 (by omega) hx).mono ?_
  rintro e w' ⟨rfl, hh⟩
  exact ⟨rfl, keep (bb_p hp hd hy hz h.fr hh.out o1 o2)⟩
theorem btry (h : BB w0 w g r t u K Np Nd) (hK : K ≤ 90000) (hx : -9223372036854775808 ≤ x ∧ x ≤ 9223372036854775807) :
    Calls Try.prog 16 #[.pointer (some ⟨g, 0, none⟩), .int .i64 x, .bool b] w fun e w' => e = .returned (.bool (tryB t x b)) ∧ Hid (BB w0 w' g r (tryT t x b) u (K + 1) w'.heap.size Nd ∧ Chg (fun i => i < Np) w w') := by
  obtain ⟨A, n, c, Q, m, d, A', n', c', Q', m', d', hp, hd, hy, hz⟩ := h.lat
  have o1 : OkT (tryT t x b) (K + 1) ∧ Fb (tryT t x b) := h.ok.1.try h.ok.2 x (by simp only [maxI]; omega) b
  have o2 : OkT u (K + 1) ∧ Fb u := ⟨h.ok2.1.more (Nat.le_succ _), h.ok2.2⟩
  refine (try_at hp h.ok.1 (by omega) hx).mono ?_
  rintro e w' ⟨rfl, hh⟩
  exact ⟨rfl, keep (bb_p hp hd hy hz h.fr hh.out o1 o2)⟩
theorem bdrop (h : BB w0 w g r t u K Np Nd) (hK : K ≤ 90000) :
    Calls Try.prog 19 #[.pointer (some ⟨g, 0, none⟩), .int .i64 x] w fun e w' => ∃ B k b, e = .returned (.slice B k b) ∧ Hid (BB w0 w' g r (dropT t x).1 u (K + 1) w'.heap.size Nd ∧ Chg (fun i => i < Np) w w' ∧ Res w w' B k b (dropT t x).2) := by
  obtain ⟨A, n, c, Q, m, d, A', n', c', Q', m', d', hp, hd, hy, hz⟩ := h.lat
  have o1 : OkT (dropT t x).1 (K + 1) ∧ Fb (dropT t x).1 := ⟨(h.ok.1.drop h.ok.2 x).1.more (Nat.le_succ _), (h.ok.1.drop h.ok.2 x).2⟩
  have o2 : OkT u (K + 1) ∧ Fb u := ⟨h.ok2.1.more (Nat.le_succ _), h.ok2.2⟩
  refine (drop_at hp h.ok.1 h.ok.2 (by omega)).mono ?_
  rintro e w' ⟨B, k, b, rfl, hh⟩
  obtain ⟨q1, q2⟩ := bb_p hp hd hy hz h.fr hh.out.2.turn o1 o2
  exact ⟨B, k, b, rfl, keep ⟨q1, q2, hh.out.1⟩⟩
theorem bdown (h : BB w0 w g r t u K Np Nd) (hK : K ≤ 90000) (hx : -9223372036854775808 ≤ x ∧ x ≤ 9223372036854775807) :
    Calls Try.prog 21 #[.pointer (some ⟨g, 0, none⟩), .int .i64 x] w fun e w' => ∃ B k b, e = .returned (.slice B k b) ∧ Hid (BB w0 w' g r (downT t x).1 u (K + 1) w'.heap.size Nd ∧ Chg (fun i => i < Np) w w' ∧ Res w w' B k b (downT t x).2) := by
  obtain ⟨A, n, c, Q, m, d, A', n', c', Q', m', d', hp, hd, hy, hz⟩ := h.lat
  have o1 : OkT (downT t x).1 (K + 1) ∧ Fb (downT t x).1 := h.ok.1.down h.ok.2 x (by simp only [maxI]; omega)
  have o2 : OkT u (K + 1) ∧ Fb u := ⟨h.ok2.1.more (Nat.le_succ _), h.ok2.2⟩
  refine (down_at hp h.ok.1 (by omega) hx).mono ?_
  rintro e w' ⟨B, k, b, rfl, hh⟩
  obtain ⟨q1, q2⟩ := bb_p hp hd hy hz h.fr hh.out.2.turn o1 o2
  exact ⟨B, k, b, rfl, keep ⟨q1, q2, hh.out.1⟩⟩
theorem bpin (h : BB w0 w g r t u K Np Nd) (hK : K ≤ 90000) :
    Calls Try.prog 23 #[.pointer (some ⟨g, 0, none⟩)] w fun e w' => e = .returned (.int .i64 (t.pn + 1)) ∧ Hid (BB w0 w' g r (pinT t) u (K + 1) w'.heap.size Nd ∧ Chg (fun i => i < Np) w w') := by
  obtain ⟨A, n, c, Q, m, d, A', n', c', Q', m', d', hp, hd, hy, hz⟩ := h.lat
  have o1 : OkT (pinT t) (K + 1) ∧ Fb (pinT t) := h.ok.1.pin h.ok.2
  have o2 : OkT u (K + 1) ∧ Fb u := ⟨h.ok2.1.more (Nat.le_succ _), h.ok2.2⟩
  refine (pin_at hp (by have := h.ok.1.pn; omega)).mono ?_
  rintro e w' ⟨rfl, hh⟩
  exact ⟨rfl, keep (bb_p hp hd hy hz h.fr hh.out o1 o2)⟩
theorem bunpin (h : BB w0 w g r t u K Np Nd) (hK : K ≤ 90000) :
    Calls Try.prog 25 #[.pointer (some ⟨g, 0, none⟩)] w fun e w' => e = .returned (.tuple #[.int .i64 (unpinI t), .bool (unpinB t)]) ∧ Hid (BB w0 w' g r (unpinT t) u (K + 1) w'.heap.size Nd ∧ Chg (fun i => i < Np) w w') := by
  obtain ⟨A, n, c, Q, m, d, A', n', c', Q', m', d', hp, hd, hy, hz⟩ := h.lat
  have o1 : OkT (unpinT t) (K + 1) ∧ Fb (unpinT t) := ⟨(h.ok.1.unpin h.ok.2).1.more (Nat.le_succ _), (h.ok.1.unpin h.ok.2).2⟩
  have o2 : OkT u (K + 1) ∧ Fb u := ⟨h.ok2.1.more (Nat.le_succ _), h.ok2.2⟩
  refine (unpin_at hp (by have := h.ok.1.pn; omega)).mono ?_
  rintro e w' ⟨rfl, hh⟩
  exact ⟨rfl, keep (bb_p hp hd hy hz h.fr hh.out o1 o2)⟩
theorem dtake (h : BB w0 w g r t u K Np Nd) (hK : K ≤ 90000) (hx : -9223372036854775808 ≤ x ∧ x ≤ 9223372036854775807) :
    Calls Try.prog 15 #[.pointer (some ⟨r, 0, none⟩), .int .i64 x, .bool b] w fun e w' => e = .returned (.bool (tryB u x b)) ∧ Hid (BB w0 w' g r t (takeT u x b) (K + 1) Np w'.heap.size ∧ Chg (fun i => i < Nd) w w') := by
  obtain ⟨A, n, c, Q, m, d, A', n', c', Q', m', d', hp, hd, hy, hz⟩ := h.lat
  have o1 : OkT (takeT u x b) (K + 1) ∧ Fb (takeT u x b) := h.ok2.1.take h.ok2.2 x (by simp only [maxI]; omega) b
  have o2 : OkT t (K + 1) ∧ Fb t := ⟨h.ok.1.more (Nat.le_succ _), h.ok.2⟩
  refine (rtake_at hd h.ok2.1 (by omega) hx).mono ?_
  rintro e w' ⟨rfl, hh⟩
  exact ⟨rfl, keep (bb_d hp hd hy hz h.fr hh.out o2 o1)⟩
theorem dtry (h : BB w0 w g r t u K Np Nd) (hK : K ≤ 90000) (hx : -9223372036854775808 ≤ x ∧ x ≤ 9223372036854775807) :
    Calls Try.prog 17 #[.pointer (some ⟨r, 0, none⟩), .int .i64 x, .bool b] w fun e w' => e = .returned (.bool (tryB u x b)) ∧ Hid (BB w0 w' g r t (tryT u x b) (K + 1) Np w'.heap.size ∧ Chg (fun i => i < Nd) w w') := by
  obtain ⟨A, n, c, Q, m, d, A', n', c', Q', m', d', hp, hd, hy, hz⟩ := h.lat
  have o1 : OkT (tryT u x b) (K + 1) ∧ Fb (tryT u x b) := h.ok2.1.try h.ok2.2 x (by simp only [maxI]; omega) b
  have o2 : OkT t (K + 1) ∧ Fb t := ⟨h.ok.1.more (Nat.le_succ _), h.ok.2⟩
  refine (rtry_at hd h.ok2.1 (by omega) hx).mono ?_
  rintro e w' ⟨rfl, hh⟩
  exact ⟨rfl, keep (bb_d hp hd hy hz h.fr hh.out o2 o1)⟩
theorem ddrop (h : BB w0 w g r t u K Np Nd) (hK : K ≤ 90000) :
    Calls Try.prog 20 #[.pointer (some ⟨r, 0, none⟩), .int .i64 x] w fun e w' => ∃ B k b, e = .returned (.slice B k b) ∧ Hid (BB w0 w' g r t (dropT u x).1 (K + 1) Np w'.heap.size ∧ Chg (fun i => i < Nd) w w' ∧ Res w w' B k b (dropT u x).2) := by
  obtain ⟨A, n, c, Q, m, d, A', n', c', Q', m', d', hp, hd, hy, hz⟩ := h.lat
  have o1 : OkT (dropT u x).1 (K + 1) ∧ Fb (dropT u x).1 := ⟨(h.ok2.1.drop h.ok2.2 x).1.more (Nat.le_succ _), (h.ok2.1.drop h.ok2.2 x).2⟩
  have o2 : OkT t (K + 1) ∧ Fb t := ⟨h.ok.1.more (Nat.le_succ _), h.ok.2⟩
  refine (rdrop_at hd h.ok2.1 (by omega)).mono ?_
  rintro e w' ⟨B, k, b, rfl, hh⟩
  obtain ⟨q1, q2⟩ := bb_d hp hd hy hz h.fr hh.out.2 o2 o1
  exact ⟨B, k, b, rfl, keep ⟨q1, q2, hh.out.1⟩⟩
theorem ddown (h : BB w0 w g r t u K Np Nd) (hK : K ≤ 90000) (hx : -9223372036854775808 ≤ x ∧ x ≤ 9223372036854775807) :
    Calls Try.prog 22 #[.pointer (some ⟨r, 0, none⟩), .int .i64 x] w fun e w' => ∃ B k b, e = .returned (.slice B k b) ∧ Hid (BB w0 w' g r t (downT u x).1 (K + 1) Np w'.heap.size ∧ Chg (fun i => i < Nd) w w' ∧ Res w w' B k b (downT u x).2) := by
  obtain ⟨A, n, c, Q, m, d, A', n', c', Q', m', d', hp, hd, hy, hz⟩ := h.lat
  have o1 : OkT (downT u x).1 (K + 1) ∧ Fb (downT u x).1 := h.ok2.1.down h.ok2.2 x (by simp only [maxI]; omega)
  have o2 : OkT t (K + 1) ∧ Fb t := ⟨h.ok.1.more (Nat.le_succ _), h.ok.2⟩
  refine (rdown_at hd h.ok2.1 (by omega) hx).mono ?_
  rintro e w' ⟨B, k, b, rfl, hh⟩
  obtain ⟨q1, q2⟩ := bb_d hp hd hy hz h.fr hh.out.2 o2 o1
  exact ⟨B, k, b, rfl, keep ⟨q1, q2, hh.out.1⟩⟩
theorem dpin (h : BB w0 w g r t u K Np Nd) (hK : K ≤ 90000) :
    Calls Try.prog 24 #[.pointer (some ⟨r, 0, none⟩)] w fun e w' => e = .returned (.int .i64 (u.pn + 1)) ∧ Hid (BB w0 w' g r t (pinT u) (K + 1) Np w'.heap.size ∧ Chg (fun i => i < Nd) w w') := by
  obtain ⟨A, n, c, Q, m, d, A', n', c', Q', m', d', hp, hd, hy, hz⟩ := h.lat
  have o1 : OkT (pinT u) (K + 1) ∧ Fb (pinT u) := h.ok2.1.pin h.ok2.2
  have o2 : OkT t (K + 1) ∧ Fb t := ⟨h.ok.1.more (Nat.le_succ _), h.ok.2⟩
  refine (rpin_at hd (by have := h.ok2.1.pn; omega)).mono ?_
  rintro e w' ⟨rfl, hh⟩
  exact ⟨rfl, keep (bb_d hp hd hy hz h.fr hh.out o2 o1)⟩
theorem dunpin (h : BB w0 w g r t u K Np Nd) (hK : K ≤ 90000) :
    Calls Try.prog 26 #[.pointer (some ⟨r, 0, none⟩)] w fun e w' => e = .returned (.tuple #[.int .i64 (unpinI u), .bool (unpinB u)]) ∧ Hid (BB w0 w' g r t (unpinT u) (K + 1) Np w'.heap.size ∧ Chg (fun i => i < Nd) w w') := by
  obtain ⟨A, n, c, Q, m, d, A', n', c', Q', m', d', hp, hd, hy, hz⟩ := h.lat
  have o1 : OkT (unpinT u) (K + 1) ∧ Fb (unpinT u) := ⟨(h.ok2.1.unpin h.ok2.2).1.more (Nat.le_succ _), (h.ok2.1.unpin h.ok2.2).2⟩
  have o2 : OkT t (K + 1) ∧ Fb t := ⟨h.ok.1.more (Nat.le_succ _), h.ok.2⟩
  refine (runpin_at hd (by have := h.ok2.1.pn; omega)).mono ?_
  rintro e w' ⟨rfl, hh⟩
  exact ⟨rfl, keep (bb_d hp hd hy hz h.fr hh.out o2 o1)⟩
/-- A row behind both. -/
theorem Res.stay {w1 w2 : World} {B : Option Addr} {k b N : Nat} {l : List Int} (h : Res w w1 B k b l) (hN : N ≤ w.heap.size) (hc : Chg (fun i => i < N) w1 w2) : Res w w2 B k b l :=
  ⟨h.1, h.2.1.chg hc fun i hi hx => by have := h.2.2 i hi; omega, h.2.2⟩
theorem Res.ints {w1 : World} {B : Option Addr} {k b : Nat} {l : List Int} (h : Res w w1 B k b l) : Has w1 w1.heap.size B (ints l) := by
  rw [← ic_ints]; exact h.2.1.has
end
end Go.Proofs.Ytbnphkiipjgfaaa
