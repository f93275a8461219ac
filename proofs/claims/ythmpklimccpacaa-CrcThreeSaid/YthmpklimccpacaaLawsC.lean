/- CrcZeros, CrcTurned, walked. -/
import Derived.Test.YthmpklimccpacaaLawsA
import Derived.Test.YthmpklimccpacaaZeros
namespace Go.Proofs.Ythmpklimccpacaa
open Go.RowKit
set_option linter.unusedVariables false

theorem info_u8 : (Try.prog.info? 5).map (fun i => (i.zero, i.size, i.bytes)) = some (some (.int .u8 0), 1, 1) := by kernel_rfl
theorem octs_one (l : List Nat) : ∀ u ∈ octs l, u.oneCell' = true := by
  intro u hu
  obtain ⟨b, _, rfl⟩ := List.mem_map.1 hu
  rfl
/-- 'append(s, x...)' of bytes, s the call's own, all told from the call's first world on. -/
theorem append_oct {w0 w : World} {ops : Array Oper} {rest : List Oper} {o : Oper} {a : Act} {Q : Exit → Act → World → Prop} (hgd : o.guard = none) (s x : Operand)
    (hop : o.op = .call { callee := .builtin .append, args := #[s, x], argTypes := #[22, 22] }) (h0 : Fr w0 w)
    (A : Option Addr) (n c : Nat) (l : List Nat) (hs : a.eval s = .slice A n c) (ho : Own w w0.heap.size 5 1 A n c (octs l))
    (C : Nat) (A2 : Option Addr) (m c2 : Nat) (l2 : List Nat) (hx : a.eval x = .slice A2 m c2) (hl : l2.length = m) (hn : Has w C A2 (octs l2)) (hb : n + m ≤ 1000000)
    (h : ∀ A' c' w', Own w' w0.heap.size 5 1 A' (n + m) c' (octs (l ++ l2)) → Fr w0 w' → wpList Try.prog ops Q rest (a.put o.dst (.slice A' (n + m) c')) w') :
    wpList Try.prog ops Q (o :: rest) a w := by
  obtain ⟨i0, hi0, hz0, hz1, hz2⟩ := info_parts info_u8
  refine wpList_append_has w hgd s x _ hop w0.heap.size 5 i0 _ 1 1 Try.underlying22 hi0 hz0 hz1 hz2 rfl (by omega) A n c (octs l) hs ho C A2 m c2 (octs l2) hx (by simpa using hl) hn (octs_one _) (by unfold maxLen; omega) (by omega) h0.size ?_
  intro A' c' w' h1 h2 h3
  exact h A' c' w' (by simpa using h1) (below_grown h0 ho h2 h0.size (Nat.le_refl _))
theorem append_zero {w0 w : World} {ops : Array Oper} {rest : List Oper} {o : Oper} {a : Act} {Q : Exit → Act → World → Prop} (hgd : o.guard = none) (s x : Operand)
    (hop : o.op = .call { callee := .builtin .append, args := #[s, x], argTypes := #[22, 3] }) (h0 : Fr w0 w)
    (A : Option Addr) (n c : Nat) (l : List Nat) (hs : a.eval s = .slice A n c) (ho : Own w w0.heap.size 5 1 A n c (octs l)) (m : Nat) (hx : a.eval x = .int .i64 m) (hb : n + m ≤ 1000000)
    (h : ∀ A' c' w', Own w' w0.heap.size 5 1 A' (n + m) c' (octs (l ++ List.replicate m 0)) → Fr w0 w' → wpList Try.prog ops Q rest (a.put o.dst (.slice A' (n + m) c')) w') :
    wpList Try.prog ops Q (o :: rest) a w := by
  obtain ⟨i0, hi0, hz0, hz1, hz2⟩ := info_parts info_u8
  obtain ⟨A', c', w', hr, h1, h2, h3⟩ := run_append_zeros (P := Try.prog) w w0.heap.size 22 3 o.type 5 i0 _ 1 .i64 .i64 Try.underlying22 Try.underlying3 hi0 hz0 hz1 hz2 rfl rfl A n c (octs l) ho m (by unfold maxLen; omega) (by omega) h0.size
  exact Lib.wpList_append_run w hgd s x _ _ hop _ _ hs hx _ _ hr (h A' c' w' (by simpa using h1) (below_grown h0 ho h2 h0.size (Nat.le_refl _)))

theorem own_empty (w : World) : Own (w.alloc (.cells #[] 5)) w.heap.size 5 1 (some ⟨w.heap.size, 0, none⟩) 0 0 (octs []) := Own.lit w w.heap.size 5 #[] 0 1 (Nat.le_refl _) (by unfold maxLen; omega) rfl

theorem octets_app {l m : List Nat} (h : Octets l) (k : Octets m) : Octets (l ++ m) := fun b hb => by
  rcases List.mem_append.1 hb with hb | hb
  · exact h b hb
  · exact k b hb


theorem cz_neg (m : Nat) : cntZ (-1 - (m : Int)) = 0 := cntZ_low _ (by omega)
theorem cz_3 : cntZ 3 = 3 := rfl
theorem cz_0 : cntZ 0 = 0 := rfl
theorem cz_plus (m : Nat) (h : m < 256) : cntZ ((m : Int) + 3) = m + 3 := cntZ_in (m + 3) (by omega)
theorem more_three (s m : Nat) : moreS (moreS s (List.replicate m 0)) (List.replicate 3 0) = moreS s (List.replicate (m + 3) 0) := by rw [moreS_app, List.replicate_append_replicate]

set_option maxRecDepth 100000 in
set_option maxHeartbeats 1000000 in
theorem crcZeros_core (A : Option Addr) (n c : Nat) (l : List Nat) (m : Nat) (w : World) (hl : l.length = n) (ho : Octets l) (hm : m < 256) (hr : Has w w.heap.size A (octs l)) :
    Calls Try.prog 5 #[.slice A n c, .int .u8 (m : Int)] w fun e w' => e = .returned (.bool true) ∧ Below w.heap.size w w' := by
  have b0 := fr_refl w
  by_cases hn : n ≤ 500
  · have hs := keep (moreS_lt (s := 0) (by omega) ho)
    have hs1 := keep (moreS_lt (s := moreS 0 l) (l := List.replicate m 0) hs.out (octets_zeros m))
    have hs2 := keep (moreS_lt (s := 0) (by omega) (octets_app ho (octets_zeros m)))
    have Hl := keep hl
    clear hl
    go_enter Try.func5, Try.ntmps5
    go_wp2_with (first
      | (at_builtin; refine append_oct rfl (.tmp 11) (.tmp 12) rfl (fr_new b0 _) _ 0 0 [] rfl (own_empty w) w.heap.size A n c l rfl Hl.out (hr.below (fr_new b0 _)) (by omega) ?_; intro A1 c1 w1 ho1 hb1; simp only [Nat.zero_add, List.nil_append] at ho1)
      | (at_builtin; refine append_zero rfl (.tmp 13) (.tmp 15) rfl hb1 _ _ _ l rfl ho1 m rfl (by omega) ?_; intro A2 c2 w2 ho2 hb2))
    have hr2 : Has w2 w2.heap.size A (octs l) := (hr.below hb2).mono hb2.size
    have b2 := fr_refl w2
    refine (crc_sum_at hr2 Hl.out ho (by omega) b2).mono ?_
    rintro e w3 ⟨rfl, hb3⟩
    go_wp2_with fail
    refine (crc_zeros_at _ hs.out (m : Int) hb3).mono ?_
    rintro e w4 ⟨rfl, hb4⟩
    rw [cntZ_in m (by omega)]
    go_wp2_with fail
    refine (crc_sum_at (l := l ++ List.replicate m 0) ho2.has (by simpa using Hl.out) (octets_app ho (octets_zeros m)) (by omega) hb4).mono ?_
    rintro e w5 ⟨rfl, hb5⟩
    rw [← moreS_app]
    go_wp2_with fail
    refine (crc_zeros_at _ hs.out 0 hb5).mono ?_
    rintro e w6 ⟨rfl, hb6⟩
    rw [cz_0, List.replicate_zero, moreS_nil]
    go_wp2_with fail
    refine (crc_zeros_at _ hs.out _ hb6).mono ?_
    rintro e w7 ⟨rfl, hb7⟩
    rw [cz_neg, List.replicate_zero, moreS_nil]
    go_wp2_with fail
    refine (crc_zeros_at _ hs.out (m : Int) hb7).mono ?_
    rintro e w8 ⟨rfl, hb8⟩
    rw [cntZ_in m (by omega)]
    go_wp2_with fail
    refine (crc_zeros_at _ hs1.out 3 hb8).mono ?_
    rintro e w9 ⟨rfl, hb9⟩
    rw [cz_3, more_three]
    go_wp2_with fail
    refine (crc_zeros_at _ hs.out _ hb9).mono ?_
    rintro e w10 ⟨rfl, hb10⟩
    rw [cz_plus m hm]
    go_wp2_with fail
    refine (awake_at hb10).mono ?_
    rintro e w11 ⟨rfl, hb11⟩
    go_wp2_with fail
    go_ret
    exact ⟨rfl, fr_step hb2 hb11⟩
  · go_enter Try.func5, Try.ntmps5
    go_wp2_with (go_at_call 9; refine (awake_at b0).mono ?_; rintro e w4 ⟨rfl, hb4⟩)
    go_ret
    exact ⟨rfl, by assumption⟩

/-- A row with one byte turned. -/
theorem octets_set {l : List Nat} (h : Octets l) (k y : Nat) (hy : y < 256) : Octets (l.set k y) := fun z hz => by
  rcases List.mem_or_eq_of_mem_set hz with hz | rfl
  · exact h z hz
  · exact hy
theorem turned_ne {l : List Nat} (ho : Octets l) (k : Nat) (hk : k < l.length) (y : Nat) (hy : y < 256) (hne : l[k] ≠ y) : moreS 0 l ≠ moreS 0 (l.set k y) := by
  intro e
  have e1 := compl_inj e
  have hx := ho _ (List.getElem_mem hk)
  have h1 : l = l.take k ++ (l[k] :: l.drop (k + 1)) := by rw [← List.drop_eq_getElem_cons hk, List.take_append_drop]
  have h2 : l.set k y = l.take k ++ (y :: l.drop (k + 1)) := by rw [List.set_eq_take_append_cons_drop, if_pos hk]
  rw [h2] at e1
  conv at e1 => lhs; rw [h1]
  rw [runS_app, runS_app] at e1
  have hr := runS_lt (l.take k) (r := 0 ^^^ 4294967295) (by decide) (octets_take ho k)
  have e2 := runS_inj (l.drop (k + 1)) (fun b hb => ho b (List.mem_of_mem_drop hb)) (stepS_lt hr hx) (stepS_lt hr hy) e1
  exact hne (stepS_inj hr hx hy e2)
end Go.Proofs.Ythmpklimccpacaa
