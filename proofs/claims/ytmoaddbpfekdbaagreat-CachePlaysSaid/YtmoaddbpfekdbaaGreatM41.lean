/- The program's cache: sweep. -/
import Derived.Test.YtmoaddbpfekdbaaGreatM32
import Derived.Test.YtmoaddbpfekdbaaGreatM23
import Derived.Test.YtmoaddbpfekdbaaGreatM28
import Derived.Test.YtmoaddbpfekdbaaGreatM16
namespace Go.Proofs.YtmoaddbpfekdbaaGreat
set_option linter.unusedVariables false
set_option linter.unusedSimpArgs false
set_option linter.unusedSectionVars false
set_option maxRecDepth 100000
open Go.RowKit
attribute [local go_sem ↓] want_ld pfr_ld
theorem swp_stay {c l : List Bool} {z : Int} (h : c.length = l.length) (hn : 0 < c.length) (hz : 0 ≤ z ∧ z < (c.length : Int)) (h1 : (swpL c l z).1 < 0) : swpL c l z = (-1, z, l) := by
  have hh : hd z c.length = z.toNat := by unfold hd; rw [Int.emod_eq_of_lt hz.1 hz.2]
  cases hs : sweepL c (vis (hd z c.length) c.length (2 * c.length)) l with
  | mk p m =>
    have e := swp_yes z rfl h.symm hn rfl hs
    rw [e] at h1 ⊢
    cases p with
    | some k => exact absurd h1 (by show ¬ (k : Int) < 0; omega)
    | none =>
      have hc : ∀ i, gd c i = false := fun i => by
        by_cases hi : i < c.length
        · rw [vis_twice] at hs
          exact sweep_two hs (vis_mem (hd_lt z hn) hi) (vis_mem (hd_lt z hn) hi)
        · exact gd_out (by omega)
      have hm : m = l := by
        have hl := sweep_len c (vis (hd z c.length) c.length (2 * c.length)) l
        rw [hs] at hl
        refine gd_ext hl fun i _ => ?_
        have := sweep_kept (c := c) (ks := vis (hd z c.length) c.length (2 * c.length)) (l := l) (hc i)
        rw [hs] at this
        exact this
      subst hm
      rw [hh]
      unfold place
      have : ((z.toNat : Nat) : Int) = z := Int.toNat_of_nonneg hz.1
      simp [this]
theorem swp_left {c l : List Bool} {z : Int} (h : c.length = l.length) (hn : 0 < c.length) : (swpL c l z).2.2.length = l.length := by
  cases hs : sweepL c (vis (hd z c.length) c.length (2 * c.length)) l with
  | mk p m =>
    rw [swp_yes z rfl h.symm hn rfl hs]
    have hl := sweep_len c (vis (hd z c.length) c.length (2 * c.length)) l
    rw [hs] at hl
    exact hl
theorem swp_hand {c l : List Bool} {z : Int} (h : c.length = l.length) (hn : 0 < c.length) : 0 ≤ (swpL c l z).2.1 ∧ (swpL c l z).2.1 < (c.length : Int) := by
  cases hs : sweepL c (vis (hd z c.length) c.length (2 * c.length)) l with
  | mk p m =>
    rw [swp_yes z rfl h.symm hn rfl hs]
    have h1 := hd_lt z hn
    cases p with
    | none => show 0 ≤ ((hd z c.length : Nat) : Int) ∧ ((hd z c.length : Nat) : Int) < _; omega
    | some k =>
      show 0 ≤ (((k + 1) % c.length : Nat) : Int) ∧ (((k + 1) % c.length : Nat) : Int) < _
      have := Nat.mod_lt (k + 1) hn
      omega
section
variable {V : Type} [NVal V]
theorem rers_find {l : List (Fra V)} {m : List Bool} (h : m.length = l.length) {j : Nat} (hj : j ≤ l.length) (b : Int) : findB (rers l m j) b = findB l b := by
  refine find_congr ?_
  unfold rers
  rw [List.map_append]
  have : (reref (l.take j) (m.take j)).map (isB b) = (l.take j).map (isB b) := by
    refine List.ext_getElem? fun i => ?_
    rw [List.getElem?_map, List.getElem?_map]
    unfold reref
    rw [List.getElem?_zipWith]
    cases hl : (l.take j)[i]? with
    | none => rfl
    | some f =>
      have h1 : i < (m.take j).length := by
        have := (List.getElem?_eq_some_iff.1 hl).1
        rw [List.length_take] at this ⊢
        omega
      rw [List.getElem?_eq_getElem h1]
      rfl
  rw [this, ← List.map_append, List.take_append_drop]
set_option maxHeartbeats 16000000 in
theorem psweep_at {w : World} {g K : Nat} {h : PH} {t : Ca V} (k : PC w g h K t) (hs : t.fs.length ≤ 100000) (hn0 : 0 < t.fs.length) :
    Calls Tryz.prog 58 #[.pointer (some ⟨g, 0, none⟩)] w fun e w' => e = .returned (.int .i64 (sweepC t).1) ∧ Hid (PC w' g h K { t with fs := reref t.fs (sweepC t).2.2, hand := (sweepC t).2.1 } ∧ Chg (fun i => i = g ∨ At h.A i) w w') := by
  obtain ⟨hn, -, -⟩ := k.nlen
  obtain ⟨k0, -, -, -, k4⟩ := k.cells
  have HK := keep k
  have Hn := keep hn
  have HGW := keep k.box.lt
  have HC0 := keep k0
  have HC4 := keep k4
  have HN0 := keep hn0
  have hs' : h.n ≤ 100000 := by omega
  have hn1 : 0 < h.n := by omega
  obtain ⟨b, off, hA⟩ := k.fs.addr hn1
  have HA := keep hA
  have HCZ : Hid (w.cell? ⟨g, 0, none⟩ = some (.slice (some ⟨b, off, none⟩) h.n h.c)) := keep (by rw [← hA]; exact k0)
  have c0 := HCZ.out
  have HRW : Hid (Rw w 52 14 (some ⟨b, off, none⟩) h.n h.c (rows pc t.fs)) := keep (by rw [← hA]; exact k.fs)
  clear k hn hs k0 k4 hn0 hA
  go_enter Tryz.func58, Tryz.ntmps58
  go_wp2_with fail
  clear c0
  go_loopg [3, 4, 17] h.n (fun gg s4 s5 s6 wr => ∃ (j cb rb : Nat) (C R : Option Addr), j + gg = h.n ∧ s4 = .slice C j cb ∧ s5 = .slice R j rb ∧ s6 = .int .i64 j ∧ Hid (ResB w wr C j cb (canL (t.fs.take j)) ∧ ResB w wr R j rb (refL (t.fs.take j)) ∧ (∀ k, At C k → ¬ At R k) ∧ Fr w wr))
  case atStart => exact ⟨0, 0, 0, none, none, by omega, rfl, rfl, rfl, keep ⟨⟨Rw.nil _ _ _, rfl, fun k hk => by cases hk⟩, ⟨Rw.nil _ _ _, rfl, fun k hk => by cases hk⟩, (fun k hk => by cases hk), fr_refl w⟩⟩
  case round =>
    obtain ⟨j, cb, rb, C, R, hj, rfl, rfl, rfl, HI⟩ := hrel
    by_cases hlt : j < h.n
    · have hm : t.fs[j]? = some (t.fs[j]'(by rw [Hn.out]; exact hlt)) := List.getElem?_eq_getElem _
      generalize t.fs[j]'(by rw [Hn.out]; exact hlt) = m at hm
      obtain ⟨b', off', hA', hb1, hr⟩ := has_rows (HRW.out.fr HI.out.2.2.2).has (pc_wid _) (by decide) (by intro e; rw [e] at hm; simp at hm)
      injection hA' with hA'
      injection hA' with e1 e2
      subst e1 e2
      have lX := elem_ld pfr_ty hr (pc_wid _) hb1 hm
      have HL := keep (can_in hm)
      have HCW : Hid (∀ i, At C i → i ≠ wr.heap.size) := keep (fun i hi e => by have := HI.out.1.row.lt i hi; omega)
      have hjz : (j : Int) < (h.n : Int) := by omega
      have wj : IntKind.i64.wrap ((j : Int) + 1) = (j : Int) + 1 := by rw [IntKind.wrap_i64]; omega
      have hrr := fr_refl wr
      clear hm hlt hr hb1
      by_cases h2 : m.st = 2
      · have hz : ((m.st : Int) == 2) = true := by simp; omega
        by_cases hp : m.pins = 0
        · have hz2 : (m.pins == 0) = true := by simpa using hp
          have HCV := keep (show canE m = true by unfold canE; simp [h2, hp])
          clear h2 hp
          go_wp2_with (first
            | (refine wpList_store_at (ds := pc m) pfr_info rfl (.tmp 6) (.tmp 20) rfl wr.heap.size 0 rfl rfl (pc_len m) (pc_one m) (Arr.new wr zpc.toArray 52) (Nat.le_refl 14) (splice_all _ _ (Nat.le_of_eq (pc_len m).symm)) ?_; intro W5 hM5 hk5; have hF5 := keep (hk5.fr (fr_new hrr _) (Nat.le_refl _)); clear hk5; have d0 := hM5.cell 0; have d2 := hM5.cell 2; simp only [List.getElem?_toArray, pc_0, pc_2] at d0 d2; have HM5 := keep hM5; have HCO := keep (HI.out.1.row.fr (fr_new hF5.out (.cells #[.bool true] 4))); clear hM5)
            | (refine wpList_append_rw bool_elem bools_under (by decide) rfl (.tmp 21) (.tmp 32) rfl C j cb (rows bc (canL (t.fs.take j))) rfl HCO.out (W5.heap.size + 1) (some ⟨W5.heap.size, 0, none⟩) 1 1 (bc true) rfl rfl (has_new W5 (bc true) 4) (bc_one _) (by simp only [maxLen]; omega) (by omega) ?_; intro C' cb' w3 h3 p3; have a2 := app_one (fr_step HI.out.2.2.2 hF5.out) HI.out.1.new ⟨HI.out.2.1.row.fr hF5.out, HI.out.2.1.len, HI.out.2.1.new⟩ HI.out.2.2.1 h3 p3; have d3 : w3.cell? ⟨wr.heap.size, 3, none⟩ = some (.bool m.ref) := (((HM5.out.chg (Chg.of_fr (fun _ => False) (fr_new (fr_refl W5) _)) id).chg p3.chg (fun e => HCW.out _ e rfl)).cell 3).trans (by simp only [List.getElem?_toArray, pc_3]); have HR0 := keep (a2.2.2.1.row.fr (fr_new (fr_refl w3) (.cells #[.bool m.ref] 4))); have H3 := keep h3; have A2 := keep a2; clear h3 p3 a2)
            | (refine wpList_append_rw bool_elem bools_under (by decide) rfl (.tmp 34) (.tmp 38) rfl R j rb (rows bc (refL (t.fs.take j))) rfl HR0.out (w3.heap.size + 1) (some ⟨w3.heap.size, 0, none⟩) 1 1 (bc m.ref) rfl rfl (has_new w3 (bc m.ref) 4) (bc_one _) (by simp only [maxLen]; omega) (by omega) ?_; intro R' rb' w5 h5 p5; have H5 := keep (And.intro h5 p5); clear h5 p5)
            | fail)
          go_roundg (gk - 1)
          case measure => omega
          case rel =>
            obtain ⟨-, n1, r1, ap1, f1⟩ := A2.out
            obtain ⟨h5, p5⟩ := H5.out
            have rC : ResB w w3 C' (j + 1) cb' (canL (t.fs.take (j + 1))) := ⟨by rw [HL.out.1, HCV.out, rows_append, rows_single]; exact H3.out, by rw [HL.out.1, List.length_append, HI.out.1.len]; rfl, n1⟩
            obtain ⟨-, n2, r2, ap2, f2⟩ := app_one f1 r1.new rC (fun k hk hc => ap1 k hc hk) h5 p5
            exact ⟨j + 1, cb', rb', C', R', by omega, rfl, rfl, rfl, keep ⟨r2, ⟨by rw [HL.out.2, rows_append, rows_single]; exact h5, by rw [HL.out.2, List.length_append, HI.out.2.1.len]; rfl, n2⟩, fun k hk hr => ap2 k hr hk, f2⟩⟩
        · have hz2 : (m.pins == 0) = false := by simpa using hp
          have HCV := keep (show canE m = false by unfold canE; simp [hp])
          clear h2 hp
          go_wp2_with (first
            | (refine wpList_store_at (ds := pc m) pfr_info rfl (.tmp 6) (.tmp 20) rfl wr.heap.size 0 rfl rfl (pc_len m) (pc_one m) (Arr.new wr zpc.toArray 52) (Nat.le_refl 14) (splice_all _ _ (Nat.le_of_eq (pc_len m).symm)) ?_; intro W5 hM5 hk5; have hF5 := keep (hk5.fr (fr_new hrr _) (Nat.le_refl _)); clear hk5; have d0 := hM5.cell 0; have d2 := hM5.cell 2; simp only [List.getElem?_toArray, pc_0, pc_2] at d0 d2; have HM5 := keep hM5; have HCO := keep (HI.out.1.row.fr (fr_new hF5.out (.cells #[.bool false] 4))); clear hM5)
            | (refine wpList_append_rw bool_elem bools_under (by decide) rfl (.tmp 21) (.tmp 32) rfl C j cb (rows bc (canL (t.fs.take j))) rfl HCO.out (W5.heap.size + 1) (some ⟨W5.heap.size, 0, none⟩) 1 1 (bc false) rfl rfl (has_new W5 (bc false) 4) (bc_one _) (by simp only [maxLen]; omega) (by omega) ?_; intro C' cb' w3 h3 p3; have a2 := app_one (fr_step HI.out.2.2.2 hF5.out) HI.out.1.new ⟨HI.out.2.1.row.fr hF5.out, HI.out.2.1.len, HI.out.2.1.new⟩ HI.out.2.2.1 h3 p3; have d3 : w3.cell? ⟨wr.heap.size, 3, none⟩ = some (.bool m.ref) := (((HM5.out.chg (Chg.of_fr (fun _ => False) (fr_new (fr_refl W5) _)) id).chg p3.chg (fun e => HCW.out _ e rfl)).cell 3).trans (by simp only [List.getElem?_toArray, pc_3]); have HR0 := keep (a2.2.2.1.row.fr (fr_new (fr_refl w3) (.cells #[.bool m.ref] 4))); have H3 := keep h3; have A2 := keep a2; clear h3 p3 a2)
            | (refine wpList_append_rw bool_elem bools_under (by decide) rfl (.tmp 34) (.tmp 38) rfl R j rb (rows bc (refL (t.fs.take j))) rfl HR0.out (w3.heap.size + 1) (some ⟨w3.heap.size, 0, none⟩) 1 1 (bc m.ref) rfl rfl (has_new w3 (bc m.ref) 4) (bc_one _) (by simp only [maxLen]; omega) (by omega) ?_; intro R' rb' w5 h5 p5; have H5 := keep (And.intro h5 p5); clear h5 p5)
            | fail)
          go_roundg (gk - 1)
          case measure => omega
          case rel =>
            obtain ⟨-, n1, r1, ap1, f1⟩ := A2.out
            obtain ⟨h5, p5⟩ := H5.out
            have rC : ResB w w3 C' (j + 1) cb' (canL (t.fs.take (j + 1))) := ⟨by rw [HL.out.1, HCV.out, rows_append, rows_single]; exact H3.out, by rw [HL.out.1, List.length_append, HI.out.1.len]; rfl, n1⟩
            obtain ⟨-, n2, r2, ap2, f2⟩ := app_one f1 r1.new rC (fun k hk hc => ap1 k hc hk) h5 p5
            exact ⟨j + 1, cb', rb', C', R', by omega, rfl, rfl, rfl, keep ⟨r2, ⟨by rw [HL.out.2, rows_append, rows_single]; exact h5, by rw [HL.out.2, List.length_append, HI.out.2.1.len]; rfl, n2⟩, fun k hk hr => ap2 k hr hk, f2⟩⟩
      · have hz : ((m.st : Int) == 2) = false := by simp; omega
        have HCV := keep (show canE m = false by unfold canE; simp [h2])
        clear h2
        go_wp2_with (first
          | (refine wpList_store_at (ds := pc m) pfr_info rfl (.tmp 6) (.tmp 20) rfl wr.heap.size 0 rfl rfl (pc_len m) (pc_one m) (Arr.new wr zpc.toArray 52) (Nat.le_refl 14) (splice_all _ _ (Nat.le_of_eq (pc_len m).symm)) ?_; intro W5 hM5 hk5; have hF5 := keep (hk5.fr (fr_new hrr _) (Nat.le_refl _)); clear hk5; have d0 := hM5.cell 0; have d2 := hM5.cell 2; simp only [List.getElem?_toArray, pc_0, pc_2] at d0 d2; have HM5 := keep hM5; have HCO := keep (HI.out.1.row.fr (fr_new hF5.out (.cells #[.bool false] 4))); clear hM5)
          | (refine wpList_append_rw bool_elem bools_under (by decide) rfl (.tmp 21) (.tmp 32) rfl C j cb (rows bc (canL (t.fs.take j))) rfl HCO.out (W5.heap.size + 1) (some ⟨W5.heap.size, 0, none⟩) 1 1 (bc false) rfl rfl (has_new W5 (bc false) 4) (bc_one _) (by simp only [maxLen]; omega) (by omega) ?_; intro C' cb' w3 h3 p3; have a2 := app_one (fr_step HI.out.2.2.2 hF5.out) HI.out.1.new ⟨HI.out.2.1.row.fr hF5.out, HI.out.2.1.len, HI.out.2.1.new⟩ HI.out.2.2.1 h3 p3; have d3 : w3.cell? ⟨wr.heap.size, 3, none⟩ = some (.bool m.ref) := (((HM5.out.chg (Chg.of_fr (fun _ => False) (fr_new (fr_refl W5) _)) id).chg p3.chg (fun e => HCW.out _ e rfl)).cell 3).trans (by simp only [List.getElem?_toArray, pc_3]); have HR0 := keep (a2.2.2.1.row.fr (fr_new (fr_refl w3) (.cells #[.bool m.ref] 4))); have H3 := keep h3; have A2 := keep a2; clear h3 p3 a2)
          | (refine wpList_append_rw bool_elem bools_under (by decide) rfl (.tmp 34) (.tmp 38) rfl R j rb (rows bc (refL (t.fs.take j))) rfl HR0.out (w3.heap.size + 1) (some ⟨w3.heap.size, 0, none⟩) 1 1 (bc m.ref) rfl rfl (has_new w3 (bc m.ref) 4) (bc_one _) (by simp only [maxLen]; omega) (by omega) ?_; intro R' rb' w5 h5 p5; have H5 := keep (And.intro h5 p5); clear h5 p5)
          | fail)
        go_roundg (gk - 1)
        case measure => omega
        case rel =>
          obtain ⟨-, n1, r1, ap1, f1⟩ := A2.out
          obtain ⟨h5, p5⟩ := H5.out
          have rC : ResB w w3 C' (j + 1) cb' (canL (t.fs.take (j + 1))) := ⟨by rw [HL.out.1, HCV.out, rows_append, rows_single]; exact H3.out, by rw [HL.out.1, List.length_append, HI.out.1.len]; rfl, n1⟩
          obtain ⟨-, n2, r2, ap2, f2⟩ := app_one f1 r1.new rC (fun k hk hc => ap1 k hc hk) h5 p5
          exact ⟨j + 1, cb', rb', C', R', by omega, rfl, rfl, rfl, keep ⟨r2, ⟨by rw [HL.out.2, rows_append, rows_single]; exact h5, by rw [HL.out.2, List.length_append, HI.out.2.1.len]; rfl, n2⟩, fun k hk hr => ap2 k hr hk, f2⟩⟩
    · have hjn : j = h.n := by omega
      have hjz : ¬ (j : Int) < (h.n : Int) := by omega
      subst hjn
      have E9 := keep (show t.fs.take h.n = t.fs by rw [← Hn.out, List.take_length])
      have iC := HI.out.1
      have iR := HI.out.2.1
      rw [E9.out] at iC iR
      have hsw := sweep_at (cc := cb) (rc := rb) (z := t.hand) iC.row.has iC.len iR.row.has iR.len hs'
      have hll : (swpL (canL t.fs) (refL t.fs) t.hand).2.2.length = t.fs.length := by rw [swp_left (by rw [iC.len, iR.len]) (by rw [iC.len]; exact hn1)]; exact iR.len.trans Hn.out.symm
      obtain ⟨a1, ha1⟩ : ∃ q, q = (sweepC t).1 := ⟨_, rfl⟩
      obtain ⟨q, hq⟩ : ∃ q, q = (sweepC t).2.1 := ⟨_, rfl⟩
      obtain ⟨l2, hl2⟩ : ∃ l, l = (sweepC t).2.2 := ⟨_, rfl⟩
      rw [show (swpL (canL t.fs) (refL t.fs) t.hand).1 = a1 from ha1.symm, show (swpL (canL t.fs) (refL t.fs) t.hand).2.1 = q from hq.symm, show (swpL (canL t.fs) (refL t.fs) t.hand).2.2 = l2 from hl2.symm] at hsw
      rw [show (swpL (canL t.fs) (refL t.fs) t.hand).2.2 = l2 from hl2.symm] at hll
      have A1 := keep ha1
      have A2 := keep hq
      have A3 := keep hl2
      have HSW := keep hsw
      have HLL := keep hll
      have c4 : wr.cell? ⟨g, 4, none⟩ = some (.int .i64 t.hand) := (HI.out.2.2.2.cell HGW.out).trans HC4.out
      clear hlt iC iR hsw hll ha1 hq hl2
      go_wp2_with (first
        | (go_at_call 82; (with_reducible refine HSW.out.mono ?_); rintro e w2 ⟨L, kl, lc, rfl, hz⟩)
        | fail)
      have hFw := fr_step HI.out.2.2.2 hz.out.2
      have hkl : kl = h.n := by rw [← hz.out.1.len, HLL.out, Hn.out]
      subst hkl
      have D4 := keep (HK.out.fr hFw)
      have RL := keep hz.out.1
      have HWR := keep (show w.heap.size ≤ wr.heap.size from HI.out.2.2.2.size)
      have HFw := keep hFw
      have HAw := keep (show ∀ i, At h.A i → i < w.heap.size from fun i hi => HK.out.fs.lt i hi)
      clear hFw hz
      go_loopg [54] h.n (fun gg s11 wx => ∃ j : Nat, j + gg = h.n ∧ s11 = .int .i64 j ∧ Hid (PC wx g h K { t with fs := rers t.fs l2 j } ∧ Chg (At h.A) w2 wx))
      case atStart => exact ⟨0, by omega, rfl, keep ⟨D4.out, .refl _ _⟩⟩
      case round =>
        obtain ⟨j, hj, rfl, HI2⟩ := hrel
        have hRLx : Rw wr 4 1 L h.n lc (rows bc l2) := RL.out.row.chg HI2.out.2 fun a ha ho => by
          have := RL.out.new a ha
          have := HAw.out a ho
          have := HWR.out
          omega
        have c0 : wr.cell? ⟨g, 0, none⟩ = some (.slice (some ⟨b, off, none⟩) h.n h.c) := by rw [← HA.out]; exact HI2.out.1.cells.1
        by_cases hlt : j < h.n
        · have hm : t.fs[j]? = some (t.fs[j]'(by rw [Hn.out]; exact hlt)) := List.getElem?_eq_getElem _
          generalize t.fs[j]'(by rw [Hn.out]; exact hlt) = m at hm
          have hbv : l2[j]? = some (l2[j]'(by rw [HLL.out, Hn.out]; exact hlt)) := List.getElem?_eq_getElem _
          generalize l2[j]'(by rw [HLL.out, Hn.out]; exact hlt) = bv at hbv
          have HM2 := keep (rers_at HLL.out hm)
          have HST := keep (rers_in HLL.out hm hbv)
          obtain ⟨bL, oL, hLL, hb3, hr3⟩ := has_rows hRLx.has (bc_wid l2) (by decide) (by intro e; rw [e] at hbv; simp at hbv)
          have lB := elem_cell0 hr3 (bc_wid l2) hb3 hbv (u := .bool bv) rfl wr (fr_refl wr)
          rw [Nat.mul_one] at lB
          have hR2 := HI2.out.1.fs
          rw [HA.out] at hR2
          have HR2 := keep hR2
          have hjz : (j : Int) < (h.n : Int) := by omega
          have wj : IntKind.i64.wrap ((j : Int) + 1) = (j : Int) + 1 := by rw [IntKind.wrap_i64]; omega
          subst hLL
          clear hm hbv hR2 hr3 hb3 hlt hRLx
          go_wp2_with (first
            | (refine wpList_store_frp (cf := pc) (l := rers t.fs l2 j) (j := j) (x := m) (y := { m with ref := bv }) (tt := 3) (ds := [.bool bv]) bool_info16 rfl (.tmp 67) (.tmp 64) rfl rfl rfl rfl (.cons rfl .nil) HR2.out (pc_wid _) HM2.out (by simp) rfl ?_; intro W1 h1 h2; have H1 := keep (And.intro h1 h2); clear h1 h2)
            | fail)
          go_roundg (gk - 1)
          case measure => omega
          case rel =>
            obtain ⟨h1, h2⟩ := H1.out
            have hch : Chg (At h.A) wr W1 := h2.weak fun a _ ha => by rw [HA.out]; exact congrArg some ha.symm
            refine ⟨j + 1, by omega, rfl, keep ⟨?_, HI2.out.2.trans hch⟩⟩
            have hf := fun c => (rers_find HLL.out (j := j + 1) (by rw [Hn.out]; omega) c).trans (rers_find HLL.out (j := j) (by rw [Hn.out]; omega) c).symm
            rw [HST.out] at hf ⊢
            exact HI2.out.1.frames (by rw [HA.out]; exact h1) hch hf
        · have hjn : j = h.n := by omega
          have hjz : ¬ (j : Int) < (h.n : Int) := by omega
          subst hjn
          have hall : rers t.fs l2 h.n = reref t.fs l2 := by rw [← Hn.out]; exact rers_all HLL.out
          have hi2 := HI2.out
          rw [hall] at hi2
          have HI2 := keep hi2
          have HBX := keep hi2.1.box
          clear hlt hi2 hall hRLx c0
          go_wp2_with (first
            | (refine wpList_store_chg int_info16 rfl (.tmp 72) (.tmp 70) rfl g 4 rfl (ds := [.int .i64 q]) rfl rfl (.cons rfl .nil) HBX.out (by simp [PH.cells]) (cs' := h.cells q) rfl ?_; intro W6 h1 h2; have H6 := keep (And.intro h1 h2); clear h1 h2)
            | fail)
          go_ret
          rw [← A1.out, ← A2.out, ← A3.out]
          refine ⟨rfl, keep ⟨HI2.out.1.hand H6.out.1 H6.out.2, ?_⟩⟩
          exact ((Chg.of_fr _ HFw.out).trans' HI2.out.2 fun i hi e => .inr e).trans' H6.out.2 fun i hi e => .inl e
end
end Go.Proofs.YtmoaddbpfekdbaaGreat
