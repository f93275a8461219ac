/- Blocks with a byte turned, and with their sum put right; package law11's whole. -/
import Derived.Test.YtmjjjdikpnhpiaaCodJ
import Derived.Test.YtmjjjdikpnhpiaaCodH
namespace Go.Proofs.Ytmjjjdikpnhpiaa
set_option linter.unusedVariables false
set_option linter.unusedSimpArgs false
set_option maxRecDepth 100000
open Go.RowKit
/-- Its sum put right. -/
def zerB (b : List Int) : List Int := b.take 4 ++ ([0, 0, 0, 0] ++ b.drop 8)
def sealB (b : List Int) : List Int := b.take 4 ++ (leB (sumB b) 4 ++ b.drop 8)
theorem sealB_len {b : List Int} (h : b.length = 256) : (sealB b).length = 256 := by unfold sealB; simp [zcP]; omega
theorem zerB_len {b : List Int} (h : b.length = 256) : (zerB b).length = 256 := by unfold zerB; simp; omega
theorem bytes_zerB {b : List Int} (h : zdi b) : zdi (zerB b) := bytes_app (zdD h 4) (bytes_app bytes_z4 (bytes_drop h 8))
theorem bytes_sealB {b : List Int} (h : zdi b) : zdi (sealB b) := bytes_app (zdD h 4) (bytes_app (znQ _ _) (bytes_drop h 8))
theorem sealB_take {b : List Int} (h : b.length = 256) : (sealB b).take 4 = b.take 4 := by unfold sealB; rw [List.take_left' (by rw [List.length_take]; omega)]
theorem sealB_drop {b : List Int} (h : b.length = 256) : (sealB b).drop 8 = b.drop 8 := by
  unfold sealB
  rw [← List.append_assoc, List.drop_left' (by rw [List.length_append, zcP, List.length_take]; omega)]
theorem sealB_sum {b : List Int} (h : b.length = 256) (hb : zdi b) : leN (((sealB b).drop 4).take 4) = (sumB (sealB b) : Int) := by
  have e : sumB (sealB b) = sumB b := by unfold sumB; rw [sealB_take h, sealB_drop h]
  rw [e]
  unfold sealB
  rw [List.drop_left' (by rw [List.length_take]; omega), List.take_left' (zcP _ _), leN_leB 4 _ (by omega), show (256 : Int) ^ 4 = 4294967296 from by decide]
  have := sumB_lt hb
  exact Int.emod_eq_of_lt (by omega) (by omega)
/-- What Decode tells of a block whose sum is right. -/
theorem decR_seal {b : List Int} (h : b.length = 256) (hb : zdi b) {r : RN} {z : Int} (d : DecR (sealB b) r z) : (r = zce ∧ z = 4) ∨ (Fit r ∧ bkB r = sealB b ∧ z = 0) := by
  rcases d with ⟨d, _⟩ | ⟨_, d, _⟩ | ⟨_, _, _, d1, d2⟩ | ⟨d1, d2, d3⟩
  · exact absurd (sealB_len h) d
  · exact absurd (sealB_sum h hb) d
  · exact .inl ⟨d1, d2⟩
  · exact .inr ⟨d1, d2, d3⟩
theorem cturned_ne {l : List Nat} (ho : Octets l) (k : Nat) (hk : k < l.length) (y : Nat) (hy : y < 256) (hne : l[k] ≠ y) : moreS 0 l ≠ moreS 0 (l.set k y) := by
  intro e
  have e1 := compl_inj e
  have hx := ho _ (List.getElem_mem hk)
  have h1 : l = l.take k ++ (l[k] :: l.drop (k + 1)) := by rw [← List.drop_eq_getElem_cons hk, List.take_append_drop]
  have h2 : l.set k y = l.take k ++ (y :: l.drop (k + 1)) := by rw [List.set_eq_take_append_cons_drop, if_pos hk]
  rw [h2] at e1
  conv at e1 => lhs; rw [h1]
  rw [runS_app, runS_app] at e1
  have hr := runS_lt (l.take k) (r := 0 ^^^ 4294967295) (by decide) (octets_take ho k)
  have e2 := runS_inj (l.drop (k + 1)) (fun b hb => ho b (List.mem_of_mem_drop hb)) (stepS_lt hr hx) (stepS_lt hr hy) e1
  exact hne (stepS_inj hr hx hy e2)
theorem zer_at {b : List Int} (h : b.length = 256) (i : Nat) : (zerB b)[i]? = if i < 4 then b[i]? else if i < 8 then some 0 else b[i]? := by
  have l4 : (b.take 4).length = 4 := by rw [List.length_take]; omega
  unfold zerB
  by_cases h4 : i < 4
  · rw [if_pos h4, List.getElem?_append_left (by omega), List.getElem?_take_of_lt h4]
  · rw [if_neg h4, List.getElem?_append_right (by omega), l4]
    by_cases h8 : i < 8
    · rw [if_pos h8, List.getElem?_append_left (by simp; omega)]
      have : i = 4 ∨ i = 5 ∨ i = 6 ∨ i = 7 := by omega
      rcases this with rfl | rfl | rfl | rfl <;> rfl
    · rw [if_neg h8, List.getElem?_append_right (by simp; omega), List.getElem?_drop]
      congr 1
      simp
      omega
theorem zer_set {b : List Int} (h : b.length = 256) {k : Nat} (hk : k < 256) (hn : ¬ (4 ≤ k ∧ k < 8)) (z : Int) : zerB (b.set k z) = (zerB b).set k z := by
  apply List.ext_getElem?
  intro i
  have hl : (b.set k z).length = 256 := by rw [List.length_set]; exact h
  rw [zer_at hl, List.getElem?_set, h]
  conv => rhs; rw [List.getElem?_set, zer_at h, zerB_len h]
  by_cases e : k = i
  · subst e
    rw [if_pos rfl, if_pos rfl, if_pos hk]
    by_cases h4 : k < 4
    · rw [if_pos h4]
    · rw [if_neg h4, if_neg (by omega)]
  · rw [if_neg e, if_neg e]
theorem sum_zer (b : List Int) : sumB b = moreS 0 (toN (zerB b)) := rfl
/-- A byte turned outside the sum: another sum. -/
theorem sum_turned {b : List Int} (h : b.length = 256) (hb : zdi b) {k : Nat} (hk : k < 256) (hn : ¬ (4 ≤ k ∧ k < 8)) {z : Int} (hz : 0 ≤ z ∧ z ≤ 255) (hne : b[k]? ≠ some z) : sumB (b.set k z) ≠ sumB b := by
  have hL := zerB_len h
  have hz2 : (zerB b)[k]? = b[k]? := by
    rw [zer_at h]
    by_cases h4 : k < 4
    · rw [if_pos h4]
    · rw [if_neg h4, if_neg (by omega)]
  have hkl : k < (zerB b).length := by omega
  have hv := bytes_zerB hb ((zerB b)[k]) (List.getElem_mem hkl)
  rw [List.getElem?_eq_getElem hkl] at hz2
  rw [sum_zer, sum_zer, zer_set h hk hn]
  have e : toN ((zerB b).set k z) = (toN (zerB b)).set k z.toNat := by unfold toN; rw [List.map_set]
  rw [e]
  refine fun q => cturned_ne (octets_toN (bytes_zerB hb)) k (by rw [toN_len]; exact hkl) z.toNat (by omega) (fun q2 => hne ?_) q.symm
  have q3 : (toN (zerB b))[k]'(by rw [toN_len]; exact hkl) = ((zerB b)[k]).toNat := by simp [toN]
  rw [q3] at q2
  rw [← hz2]
  congr 1
  omega
theorem seal_turned {b : List Int} (h : b.length = 256) {k : Nat} (hk : k < 256) (hn : ¬ (4 ≤ k ∧ k < 8)) {z : Int} (hne : b[k]? ≠ some z) : sealB (b.set k z) ≠ b := fun e => by
  have hl : (b.set k z).length = 256 := by rw [List.length_set]; exact h
  rcases Nat.lt_or_ge k 4 with h4 | h4
  · have e1 : (sealB (b.set k z))[k]? = some z := by
      rw [← List.getElem?_take_of_lt h4, sealB_take hl, List.getElem?_take_of_lt h4, List.getElem?_set_self (by omega)]
    rw [e] at e1
    exact hne e1
  · have h8 : 8 ≤ k := by omega
    have e1 : ((sealB (b.set k z)).drop 8)[k - 8]? = some z := by
      rw [sealB_drop hl, List.getElem?_drop, show 8 + (k - 8) = k from by omega, List.getElem?_set_self (by omega)]
    rw [e, List.getElem?_drop, show 8 + (k - 8) = k from by omega] at e1
    exact hne e1
theorem cown_at {w : World} {B e n c j g : Nat} {xs : List Value} (ho : Own w B e 1 (some ⟨g, 0, none⟩) n c xs) (hj : j < n) :
    w.frozen? ⟨g, j, none⟩ = false ∧ (∃ x, xs[j]? = some x ∧ w.cell? ⟨g, j, none⟩ = some x) ∧ ∀ v, Own (w.setCell ⟨g, j, none⟩ v) B e 1 (some ⟨g, 0, none⟩) n c (xs.set j v) := by
  obtain ⟨g', x, e1, -, -, h1, h2, h3, h4⟩ := cown_store ho hj
  injection e1 with e1
  injection e1 with e1 e2
  subst e1
  exact ⟨h3, ⟨x, h1, h2⟩, h4⟩
theorem zer_sets {b : List Int} (h : b.length = 256) : (((b.set 4 0).set 5 0).set 6 0).set 7 0 = zerB b := by
  apply List.ext_getElem?
  intro i
  rw [zer_at h]
  simp only [List.getElem?_set, List.length_set, h]
  by_cases e7 : 7 = i
  · subst e7; simp
  · by_cases e6 : 6 = i
    · subst e6; simp
    · by_cases e5 : 5 = i
      · subst e5; simp
      · by_cases e4 : 4 = i
        · subst e4; simp
        · simp only [if_neg e7, if_neg e6, if_neg e5, if_neg e4]
          by_cases h4 : i < 4
          · rw [if_pos h4]
          · rw [if_neg h4, if_neg (by omega)]
theorem zer_seal {b : List Int} (h : b.length = 256) (q : List Int) (hq : q.length = 4) : (u8s (zerB b)).take 4 ++ u8s q ++ (u8s (zerB b)).drop (4 + 4) = u8s (b.take 4 ++ (q ++ b.drop 8)) := by
  have l4 : (b.take 4).length = 4 := by rw [List.length_take]; omega
  rw [← List.map_take, ← List.map_drop, ← List.map_append, ← List.map_append]
  congr 1
  unfold zerB
  rw [List.take_left' l4, ← List.append_assoc, List.drop_left' (by rw [List.length_append, l4]; rfl), List.append_assoc]
set_option maxHeartbeats 2000000 in
/-- package law11's whole. -/
theorem whole_at {w : World} {B c : Nat} {A : Option Addr} {b : List Int} (h : Has w B A (u8s b)) (hB : B ≤ w.heap.size) (hl : b.length = 256) (hby : zdi b) :
    Calls Try.prog 8 #[.slice A 256 c] w fun e w' => ∃ A' c', e = .returned (.slice A' 256 c') ∧ Hid (Own w' w.heap.size 5 1 A' 256 c' (u8s (sealB b)) ∧ 256 ≤ c' ∧ Fr w w') := by
  have hz := bytes_zerB hby
  have hzl := zerB_len hl
  have hw := sumB_lt hby
  have Hby := zb hby
  have tok1 : Hid (0 < 1) := zb (by decide)
  have O0 := Own.lit w w.heap.size 5 #[] 0 1 (Nat.le_refl _) (by unfold maxLen; decide) rfl
  have H0 : Has (w.alloc (.cells #[] 5)) B A (u8s b) := h.lift fun p hp => (zf (ze w) _).cell (by omega)
  have Hl := zb hl
  have Hz := zb hz
  have Hzl := zb hzl
  clear hby hl hz hzl h
  go_enter Try.func8, Try.ntmps8
  go_upto_region 2 with (first
    | (clear tok1; refine zfh rfl (.tmp 5) (.tmp 6) rfl w.heap.size (some ⟨w.heap.size, 0, none⟩) 0 0 [] rfl O0 B A 256 c b rfl Hl.out H0 (by decide) (zf (ze w) _).size ?_; intro A1 c1 w1 o1 g1 k1
       have F1 : Fr w w1 := zat (zf (ze w) _) O0 g1 (zf (ze w) _).size (Nat.le_refl _))
    | fail)
  try simp only [Act.put]
  simp only [Nat.zero_add, List.nil_append] at o1
  have hcc := o1.cap
  obtain ⟨g2, -, rfl, hg1, hg2, -⟩ := cown_store o1 (show 4 < 256 by decide)
  obtain ⟨hf4, ⟨y4, -, hc4⟩, s4⟩ := cown_at o1 (show 4 < 256 by decide)
  obtain ⟨hf5, ⟨y5, -, hc5⟩, -⟩ := cown_at o1 (show 5 < 256 by decide)
  obtain ⟨hf6, ⟨y6, -, hc6⟩, -⟩ := cown_at o1 (show 6 < 256 by decide)
  obtain ⟨hf7, ⟨y7, -, hc7⟩, -⟩ := cown_at o1 (show 7 < 256 by decide)
  have o4 := s4 (.int .u8 0)
  have o5 := (cown_at o4 (show 5 < 256 by decide)).2.2 (.int .u8 0)
  have o6 := (cown_at o5 (show 6 < 256 by decide)).2.2 (.int .u8 0)
  have o7 := (cown_at o6 (show 7 < 256 by decide)).2.2 (.int .u8 0)
  have es : (((((u8s b).set 4 (.int .u8 0)).set 5 (.int .u8 0)).set 6 (.int .u8 0)).set 7 (.int .u8 0)) = u8s (zerB b) := by
    rw [← zer_sets Hl.out]
    simp only [List.map_set]
  rw [es] at o7
  have kp : ∀ (W : World) (j : Nat), KpG W g2 (W.setCell ⟨g2, j, none⟩ (.int .u8 0)) := fun W j => ⟨rfl, rfl, rfl, by simp [World.setCell], fun k _ hk => Below.heap_setCell _ _ _ _ (fun e => hk (by simp [e]))⟩
  have K7 := ((((KpG.refl w1 g2).trans (kp _ 4)).trans (kp _ 5)).trans (kp _ 6)).trans (kp _ 7)
  have F7 := K7.below F1 F1.size hg1
  obtain ⟨W7, hW7⟩ : ∃ W, (((w1.setCell ⟨g2, 4, none⟩ (.int .u8 0)).setCell ⟨g2, 5, none⟩ (.int .u8 0)).setCell ⟨g2, 6, none⟩ (.int .u8 0)).setCell ⟨g2, 7, none⟩ (.int .u8 0) = W := ⟨_, rfl⟩
  rw [hW7] at o7 F7
  have O7 := zb o7
  have cS := ref_sumN (n := 256) (c := c1) (w := W7) Hzl.out Hz.out (by decide) (ze W7) o7.has
  rw [← sum_zer] at cS
  generalize hS : sumB b = S at *
  have HS := zb hS
  have hw6 : IntKind.u64.wrap (S : Int) = S := by rw [zeB]; omega
  have hc14 : ¬ c1 = 4 := by omega
  have hci : (4 : Int) ≤ (c1 : Int) := by omega
  clear s4 o4 o5 o6 o1 es kp K7 hS o7 g1 k1 O0 H0
  go_wp2_with fail
  refine cS.mono ?_
  rintro e w8 ⟨rfl, f8⟩
  clear cS
  go_wp2_with fail
  refine (crput_at (w := w8) (xs := []) (Own.nil w8 w8.heap.size _ _) (Nat.le_refl _) (by decide) (by omega) (by omega) 4 (show (4 : Int) = ((4 : Nat) : Int) from rfl) (by decide) (by decide)).mono ?_
  rintro e w9 ⟨A9, c9, N9, rfl, h9⟩
  obtain ⟨n9, o9, g9⟩ := h9.out
  have f9 : Fr w8 w9 := g9.below (ze _) (Nat.le_refl _) (fun k e => by simp [blk] at e)
  obtain rfl : N9 = 4 := by rw [n9, zcP]
  rw [List.nil_append] at o9
  have ql := zcP 4 (S : Int)
  have fin := zer_seal Hl.out (leB (S : Int) 4) ql
  rw [show b.take 4 ++ (leB (S : Int) 4 ++ b.drop 8) = sealB b from by unfold sealB; rw [HS.out]] at fin
  generalize leB (S : Int) 4 = q at *
  have oP := (O7.out.below f8 (Nat.le_refl _)).below f9 (Nat.le_refl _)
  obtain ⟨inf, hinf, hsize⟩ : ∃ i, Try.prog.info? 5 = some i ∧ i.size = 1 := by
    obtain ⟨i0, hi0, -, hz1, -⟩ := info_parts zkk
    exact ⟨i0, hi0, hz1⟩
  obtain ⟨wA, hrA, oA, gA⟩ := zbf (P := Try.prog) w9 22 3 inf Try.underlying22 hinf hsize oP 4 252 (c1 - 4) w9.heap.size A9 4 4 c9 (u8s q) (by rw [List.length_map, ql]) o9.has (zgJ _) rfl (by decide) (by decide) (by decide)
  simp only [Nat.mul_one] at hrA oA
  rw [fin] at oA
  have FA : Fr w wA := KpG.below (g := g2) gA (za F7 (za f8 f9)) (za F7 (za f8 f9)).size hg1
  have OA := zb oA
  have tok1 : Hid (0 < 1) := zb (by decide)
  clear n9 h9 g9 oP oA gA fin ql
  go_wp2_with (first
    | (clear tok1; refine Lib.wpList_copy_run _ rfl (.tmp 21) (.tmp 22) 22 22 rfl _ _ rfl rfl hrA ?_)
    | fail)
  go_ret
  exact ⟨_, _, rfl, zb ⟨OA.out, hcc, FA⟩⟩
end Go.Proofs.Ytmjjjdikpnhpiaa
