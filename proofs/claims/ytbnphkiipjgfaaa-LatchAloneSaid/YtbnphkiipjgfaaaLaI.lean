/- Package latch: Down, Readers, Queue, Writer, Idle, Pin, Unpin. -/
import Derived.Test.YtbnphkiipjgfaaaLaH
namespace Go.Proofs.Ytbnphkiipjgfaaa
set_option linter.unusedVariables false
set_option linter.unusedSimpArgs false
set_option maxRecDepth 100000
open Go.RowKit
theorem res_nil (w : World) : Res w w none 0 0 [] := ⟨rfl, Rw.nil _ _ _, fun i hi => by cases hi⟩
theorem down_no {t : Lat} {x : Int} (h : x < 0 ∨ t.wr ≠ x) : downT t x = (t, []) := by rw [downT, if_pos h]
theorem down_yes {t : Lat} {x : Int} (h : ¬ (x < 0 ∨ t.wr ≠ x)) : downT t x = letT (giveT { t with wr := -1 } (x, false)) := by rw [downT, if_neg h]
set_option maxHeartbeats 8000000 in
theorem down_at {w : World} {g n c m d K : Nat} {A Q : Option Addr} {t : Lat} {x : Int} (h : PB w g A n c Q m d t) (ok : OkT t K) (hK : K < 100000) (hx : -9223372036854775808 ≤ x ∧ x ≤ 9223372036854775807) :
    Calls Try.prog 21 #[.pointer (some ⟨g, 0, none⟩), .int .i64 x] w fun e w' => ∃ B k b, e = .returned (.slice B k b) ∧ Hid (Res w w' B k b (downT t x).2 ∧ TurnB w w' (LX g A Q) g (downT t x).1 B) := by
  have hl := ok.len
  have HP := keep h
  obtain ⟨-, -, k2, -⟩ := h.cells
  clear h
  by_cases h0 : x < 0
  · have HT := keep (down_no (t := t) (.inl h0))
    go_enter Try.func21, Try.ntmps21
    go_wp2_with fail
    go_ret
    exact ⟨none, 0, 0, rfl, keep (by rw [HT.out]; exact ⟨res_nil w, .same HP.out (fr_refl _) fun k h => h⟩)⟩
  · by_cases hw : t.wr = x
    · have HT := keep (down_yes (t := t) (x := x) (by intro h; rcases h with h | h; exact h0 h; exact h hw))
      have hw2 : (t.wr != x) = false := by simpa using hw
      have okd : OkT (giveT { t with wr := -1 } (x, false)) (K + 1) := OkT.give (l := { t with wr := -1 }) ⟨ok.rs, ⟨by simp, by simp [maxI]⟩, ok.q, ok.sorted, by simp only; omega, by have := ok.pn; simp only; omega⟩ (x := (x, false)) ⟨by simp only; omega, by simp only [maxI]; omega⟩ (fun _ => by simp only; omega) (by simp only; omega)
      have hs := ok.sorted
      clear hw
      go_enter Try.func21, Try.ntmps21
      go_wp2_with (first
        | (refine wpList_store_chg (cs' := [.int .i64 t.pn, .slice A n c, .int .i64 (-1), .slice Q m d]) int_info rfl (.tmp 17) (.const (.int .i64 (-1))) rfl g 2 rfl rfl rfl (ic_one _) HP.out.box (show 3 ≤ 4 by decide) rfl ?_; intro W1 hA1 hK1; have p1 := HP.out.put hA1 hK1; have P1 := keep p1; have K1 := keep hK1; have cG := give_at (x, false) p1 hs (show t.rs.length ≤ 100000 by omega); clear p1 hA1 hK1)
        | fail)
      refine cG.mono ?_
      rintro e w2 ⟨rfl, hT⟩
      obtain ⟨A2, n2, c2, Q2, m2, d2, p2, g2, o2⟩ := hT.out
      have G2 : Hid (Chg (LX g A Q) w w2) := keep ((K1.out.weak fun i _ hi => .inl hi).trans g2)
      have O2 := keep o2
      have K2 := keep (fun k hk => (o2 k hk).imp id (Nat.le_trans K1.out.size))
      have cL := letin_at p2 okd (by omega)
      clear p2 g2 o2 hT cG
      go_wp2_with fail
      refine cL.mono ?_
      rintro e w6 ⟨B, k, b, rfl, hh⟩
      go_wp2_with fail
      go_ret
      exact ⟨B, k, b, rfl, keep (by rw [HT.out]; exact ⟨hh.out.1.on G2.out, .next G2.out K2.out hh.out.2⟩)⟩
    · have HT := keep (down_no (t := t) (.inr hw))
      have hw2 : (t.wr != x) = true := by simpa using hw
      go_enter Try.func21, Try.ntmps21
      go_wp2_with fail
      go_ret
      exact ⟨none, 0, 0, rfl, keep (by rw [HT.out]; exact ⟨res_nil w, .same HP.out (fr_refl _) fun k h => h⟩)⟩
section
variable {w : World} {g n c m d K : Nat} {A Q : Option Addr} {t : Lat}
set_option maxHeartbeats 1000000 in
theorem readers_at (h : PB w g A n c Q m d t) (hl : t.rs.length ≤ 100000) :
    Calls Try.prog 27 #[.pointer (some ⟨g, 0, none⟩)] w fun e w' => ∃ B k b, e = .returned (.slice B k b) ∧ Hid (t.rs.length = k ∧ Own w' w.heap.size 3 1 B k b (ints t.rs) ∧ Fr w w') := by
  obtain ⟨-, k1, -, -⟩ := h.cells
  have HN := keep h.nlen.1
  have cC := i_clone (c := c) h.rs.has (Nat.le_refl _) h.nlen.1 (by have := h.nlen.1; omega)
  rw [ic_ints] at cC
  clear h
  go_enter Try.func27, Try.ntmps27
  go_wp2_with fail
  refine cC.mono ?_
  rintro e w' ⟨B, b, rfl, hh⟩
  go_wp2_with fail
  go_ret
  exact ⟨B, n, b, rfl, keep ⟨HN.out, hh.out⟩⟩
set_option maxHeartbeats 1000000 in
theorem queue_at (h : PB w g A n c Q m d t) (hl : t.q.length ≤ 100000) :
    Calls Try.prog 30 #[.pointer (some ⟨g, 0, none⟩)] w fun e w' => ∃ B k b, e = .returned (.slice B k b) ∧ Hid (t.q.length = k ∧ Own w' w.heap.size 51 2 B k b (rows wc t.q) ∧ Fr w w') := by
  obtain ⟨-, -, -, k1⟩ := h.cells
  have HN := keep h.nlen.2
  have cC := w_clone (c := d) h.q.has (Nat.le_refl _) h.nlen.2 (by have := h.nlen.2; omega)
  clear h
  go_enter Try.func30, Try.ntmps30
  go_wp2_with fail
  refine cC.mono ?_
  rintro e w' ⟨B, b, rfl, hh⟩
  go_wp2_with fail
  go_ret
  exact ⟨B, m, b, rfl, keep ⟨HN.out, hh.out⟩⟩
set_option maxHeartbeats 1000000 in
theorem writer_at (h : PB w g A n c Q m d t) :
    Calls Try.prog 28 #[.pointer (some ⟨g, 0, none⟩)] w fun e w' => e = .returned (.int .i64 t.wr) ∧ w = w' := by
  obtain ⟨-, -, k1, -⟩ := h.cells
  clear h
  go_enter Try.func28, Try.ntmps28
  go_wp2_with fail
  go_ret
  exact ⟨rfl, rfl⟩
set_option maxHeartbeats 2000000 in
theorem idle_at (h : PB w g A n c Q m d t) :
    Calls Try.prog 31 #[.pointer (some ⟨g, 0, none⟩)] w fun e w' => e = .returned (.bool (idleB t)) ∧ w = w' := by
  obtain ⟨k0, k1, k2, k3⟩ := h.cells
  obtain ⟨l1, l2⟩ := h.nlen
  have hT : idleB t = (decide (t.wr = -1) && decide (n = 0) && decide (m = 0) && decide (t.pn = 0)) := by
    rw [idleB, ← l1, ← l2]
    cases t.rs <;> cases t.q <;> simp
  rw [hT]
  clear hT l1 l2 h
  generalize t.wr = wr at *
  generalize t.pn = pn at *
  by_cases hw : wr = -1
  · subst hw
    by_cases hn : n = 0
    · subst hn
      by_cases hm : m = 0
      · subst hm
        go_enter Try.func31, Try.ntmps31
        go_wp2_with fail
        go_ret
        exact ⟨by by_cases h : pn = 0 <;> simp [h], rfl⟩
      · have hmz : ((m : Int) == 0) = false := by simpa using hm
        go_enter Try.func31, Try.ntmps31
        go_wp2_with fail
        go_ret
        exact ⟨by simp [hm], rfl⟩
    · have hnz : ((n : Int) == 0) = false := by simpa using hn
      go_enter Try.func31, Try.ntmps31
      go_wp2_with fail
      go_ret
      exact ⟨by simp [hn], rfl⟩
  · have hw2 : (wr == -1) = false := by simpa using hw
    go_enter Try.func31, Try.ntmps31
    go_wp2_with fail
    go_ret
    exact ⟨by simp [hw], rfl⟩
/-- Its own fields laid anew, told as a turn. -/
theorem turn_put {W : World} {p z : Int} (h : PB w g A n c Q m d t) (ha : Arr W g 40 #[.int .i64 p, .slice A n c, .int .i64 z, .slice Q m d]) (k : Chg (· = g) w W) : Turn w W (LX g A Q) g { t with pn := p, wr := z } :=
  ⟨A, n, c, Q, m, d, h.put ha k, k.weak fun i _ e => .inl e, fun k hk => .inl hk⟩
set_option maxHeartbeats 1000000 in
theorem pin_at (h : PB w g A n c Q m d t) (hp : 0 ≤ t.pn ∧ t.pn ≤ 100000) :
    Calls Try.prog 23 #[.pointer (some ⟨g, 0, none⟩)] w fun e w' => e = .returned (.int .i64 (t.pn + 1)) ∧ Hid (Turn w w' (LX g A Q) g (pinT t)) := by
  have k0 := h.cells.1
  have HP := keep h
  have hwr : IntKind.i64.wrap (t.pn + 1) = t.pn + 1 := by rw [IntKind.wrap_i64]; omega
  clear h
  go_enter Try.func23, Try.ntmps23
  go_wp2_with (first
    | (refine wpList_store_chg (cs' := [.int .i64 (t.pn + 1), .slice A n c, .int .i64 t.wr, .slice Q m d]) int_info rfl (.tmp 9) (.tmp 7) rfl g 0 rfl rfl rfl (ic_one _) HP.out.box (show 1 ≤ 4 by decide) rfl ?_; intro W1 hA1 hK1; have d0 : W1.cell? ⟨g, 0, none⟩ = some (.int .i64 (t.pn + 1)) := by (rw [hA1.cell]; rfl))
    | fail)
  go_ret
  exact ⟨rfl, keep (turn_put HP.out hA1 hK1)⟩
set_option maxHeartbeats 1000000 in
theorem unpin_at (h : PB w g A n c Q m d t) (hp : 0 ≤ t.pn ∧ t.pn ≤ 100000) :
    Calls Try.prog 25 #[.pointer (some ⟨g, 0, none⟩)] w fun e w' => e = .returned (.tuple #[.int .i64 (unpinI t), .bool (unpinB t)]) ∧ Hid (Turn w w' (LX g A Q) g (unpinT t)) := by
  have k0 := h.cells.1
  have HP := keep h
  clear h
  by_cases h0 : t.pn = 0
  · have e1 : unpinI t = 0 := by rw [unpinI, if_pos h0]
    have e2 : unpinB t = false := by rw [unpinB, h0]; rfl
    have E3 := keep (show unpinT t = t by rw [unpinT, if_pos h0])
    rw [e1, e2]
    have hz : (t.pn == 0) = true := by simpa using h0
    clear e1 e2
    go_enter Try.func25, Try.ntmps25
    go_wp2_with fail
    go_ret2
    exact ⟨rfl, keep (by rw [E3.out]; exact .same HP.out (fr_refl _) fun k h => h)⟩
  · have e1 : unpinI t = t.pn - 1 := by rw [unpinI, if_neg h0]
    have e2 : unpinB t = true := by rw [unpinB, decide_eq_true h0]
    have E3 := keep (show unpinT t = { t with pn := t.pn - 1 } by rw [unpinT, if_neg h0])
    rw [e1, e2]
    have hz : (t.pn == 0) = false := by simpa using h0
    have hwr : IntKind.i64.wrap (t.pn - 1) = t.pn - 1 := by rw [IntKind.wrap_i64]; omega
    clear e1 e2
    go_enter Try.func25, Try.ntmps25
    go_wp2_with (first
      | (refine wpList_store_chg (cs' := [.int .i64 (t.pn - 1), .slice A n c, .int .i64 t.wr, .slice Q m d]) int_info rfl (.tmp 15) (.tmp 13) rfl g 0 rfl rfl rfl (ic_one _) HP.out.box (show 1 ≤ 4 by decide) rfl ?_; intro W1 hA1 hK1; have d0 : W1.cell? ⟨g, 0, none⟩ = some (.int .i64 (t.pn - 1)) := by (rw [hA1.cell]; rfl))
      | fail)
    go_ret2
    exact ⟨rfl, keep (by rw [E3.out]; exact turn_put HP.out hA1 hK1)⟩
end
end Go.Proofs.Ytbnphkiipjgfaaa
