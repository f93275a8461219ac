/- The document's cache: Evict, walked. -/
import Derived.Test.YtmoaddbpfekdbaaGreatM23
namespace Go.Proofs.YtmoaddbpfekdbaaGreat
set_option linter.unusedSectionVars false
set_option linter.unusedVariables false
set_option linter.unusedSimpArgs false
set_option maxRecDepth 100000
open Go.RowKit
section
variable {V : Type} [NVal V]
attribute [local go_sem ↓] frame_ld
set_option maxHeartbeats 16000000 in
theorem devict_at {w : World} {g : Nat} {h : CH} {t : Ca V} (k : DC w g h t) (hs : t.fs.length ≤ 100000) :
    Calls Tryz.prog 37 #[.pointer (some ⟨g, 0, none⟩)] w fun e w' => e = .returned (.tuple #[.int .i64 (sweepC t).1, .agg (evF (evictC t).1).toArray]) ∧ Hid (DTurn w w' (CHX g h) g (evictC t).2) := by
  obtain ⟨Z, hZ, hF, hZZ, hX, hS⟩ := frz_box w
  have kZ := k.fr hF
  obtain ⟨hn, -, -⟩ := k.nlen
  obtain ⟨c0, -, -, c3⟩ := kZ.cells
  have HK := keep k
  have HKZ := keep kZ
  have HF0 := keep hF
  have HX := keep hX
  have Hn := keep hn
  have HGZ := keep kZ.box.lt
  have HGW := keep k.box.lt
  have HC0 := keep c0
  have HC3 := keep c3
  have hs' : h.n ≤ 100000 := by omega
  clear k kZ hn hs hX hF c0 c3
  go_enter Tryz.func37, Tryz.ntmps37
  go_wp2_with fail
  go_loopg [4, 5, 6] h.n (fun gg s4 s5 s6 wr => ∃ (j cb rb : Nat) (C R : Option Addr), j + gg = h.n ∧ s4 = .slice C j cb ∧ s5 = .slice R j rb ∧ s6 = .int .i64 j ∧ Hid (ResB Z wr C j cb (canL (t.fs.take j)) ∧ ResB Z wr R j rb (refL (t.fs.take j)) ∧ (∀ k, At C k → ¬ At R k) ∧ Fr Z wr))
  case atStart => exact ⟨0, 0, 0, none, none, by omega, rfl, rfl, rfl, keep ⟨⟨Rw.nil _ _ _, rfl, fun k hk => by cases hk⟩, ⟨Rw.nil _ _ _, rfl, fun k hk => by cases hk⟩, (fun k hk => by cases hk), fr_refl Z⟩⟩
  case round =>
    obtain ⟨j, cb, rb, C, R, hj, rfl, rfl, rfl, HI⟩ := hrel
    have c0 : wr.cell? ⟨g, 0, none⟩ = some (.slice h.A h.n h.c) := (HI.out.2.2.2.cell HGZ.out).trans HC0.out
    have c3 : wr.cell? ⟨g, 3, none⟩ = some (.int .i64 t.hand) := (HI.out.2.2.2.cell HGZ.out).trans HC3.out
    by_cases hlt : j < h.n
    · have hm : t.fs[j]? = some (t.fs[j]'(by rw [Hn.out]; exact hlt)) := List.getElem?_eq_getElem _
      generalize t.fs[j]'(by rw [Hn.out]; exact hlt) = m at hm
      obtain ⟨b, off, hA, hb1, hc⟩ := frame_cells HKZ.out.fs.has (Nat.le_refl _) hm
      obtain ⟨lS, -, lP, -⟩ := hc wr HI.out.2.2.2
      have LR := keep (show ∀ W, Fr Z W → W.cell? ⟨b, off + j * 11 + 3, none⟩ = some (.bool m.ref) from fun W hW => (hc W hW).2.2.2.1)
      have HCZ := HC0
      rw [hA] at c0
      have HCZ : Hid (Z.cell? ⟨g, 0, none⟩ = some (.slice (some ⟨b, off, none⟩) h.n h.c)) := keep (by rw [← hA]; exact HC0.out)
      have HL := keep (can_in hm)
      have hjz : (j : Int) < (h.n : Int) := by omega
      have wj : IntKind.i64.wrap ((j : Int) + 1) = (j : Int) + 1 := by rw [IntKind.wrap_i64]; omega
      clear hm hlt hc hA hb1 c3
      by_cases h2 : m.st = 2
      · have hz : ((m.st : Int) == 2) = true := by simp; omega
        by_cases hp : m.pins = 0
        · have hz2 : (m.pins == 0) = true := by simpa using hp
          have HCV := keep (show canE m = true by unfold canE; simp [h2, hp])
          have HCO := keep (HI.out.1.row.fr (fr_new (fr_refl wr) (.cells #[.bool true] 4)))
          clear h2 hp
          go_wp2_with (first
            | (refine wpList_append_rw bool_elem bools_under (by decide) rfl (.tmp 21) (.tmp 42) rfl C j cb (rows bc (canL (t.fs.take j))) rfl HCO.out (wr.heap.size + 1) (some ⟨wr.heap.size, 0, none⟩) 1 1 (bc true) rfl rfl (has_new wr (bc true) 4) (bc_one _) (by simp only [maxLen]; omega) (by omega) ?_; intro C' cb' w3 h3 p3; have a2 := app_one HI.out.2.2.2 HI.out.1.new HI.out.2.1 HI.out.2.2.1 h3 p3; have HR0 := keep (a2.2.2.1.row.fr (fr_new (fr_refl w3) (.cells #[.bool m.ref] 4))); have c0 : w3.cell? ⟨g, 0, none⟩ = some (.slice (some ⟨b, off, none⟩) h.n h.c) := (a2.2.2.2.2.cell HGZ.out).trans HCZ.out; have lR : w3.cell? ⟨b, off + j * 11 + 3, none⟩ = some (.bool m.ref) := (LR.out w3 a2.2.2.2.2); have H3 := keep h3; have A2 := keep a2; clear h3 p3 a2)
            | (refine wpList_append_rw bool_elem bools_under (by decide) rfl (.tmp 44) (.tmp 53) rfl R j rb (rows bc (refL (t.fs.take j))) rfl HR0.out (w3.heap.size + 1) (some ⟨w3.heap.size, 0, none⟩) 1 1 (bc m.ref) rfl rfl (has_new w3 (bc m.ref) 4) (bc_one _) (by simp only [maxLen]; omega) (by omega) ?_; intro R' rb' w5 h5 p5; have H5 := keep (And.intro h5 p5); clear h5 p5)
            | fail)
          go_roundg (gk - 1)
          case measure => omega
          case rel =>
            obtain ⟨-, n1, r1, ap1, f1⟩ := A2.out
            obtain ⟨h5, p5⟩ := H5.out
            have rC : ResB Z w3 C' (j + 1) cb' (canL (t.fs.take (j + 1))) := ⟨by rw [HL.out.1, HCV.out, rows_append, rows_single]; exact H3.out, by rw [HL.out.1, List.length_append, HI.out.1.len]; rfl, n1⟩
            obtain ⟨-, n2, r2, ap2, f2⟩ := app_one f1 r1.new rC (fun k hk hc => ap1 k hc hk) h5 p5
            exact ⟨j + 1, cb', rb', C', R', by omega, rfl, rfl, rfl, keep ⟨r2, ⟨by rw [HL.out.2, rows_append, rows_single]; exact h5, by rw [HL.out.2, List.length_append, HI.out.2.1.len]; rfl, n2⟩, fun k hk hr => ap2 k hr hk, f2⟩⟩
        · have hz2 : (m.pins == 0) = false := by simpa using hp
          have HCV := keep (show canE m = false by unfold canE; simp [hp])
          have HCO := keep (HI.out.1.row.fr (fr_new (fr_refl wr) (.cells #[.bool false] 4)))
          clear h2 hp
          go_wp2_with (first
            | (refine wpList_append_rw bool_elem bools_under (by decide) rfl (.tmp 21) (.tmp 42) rfl C j cb (rows bc (canL (t.fs.take j))) rfl HCO.out (wr.heap.size + 1) (some ⟨wr.heap.size, 0, none⟩) 1 1 (bc false) rfl rfl (has_new wr (bc false) 4) (bc_one _) (by simp only [maxLen]; omega) (by omega) ?_; intro C' cb' w3 h3 p3; have a2 := app_one HI.out.2.2.2 HI.out.1.new HI.out.2.1 HI.out.2.2.1 h3 p3; have HR0 := keep (a2.2.2.1.row.fr (fr_new (fr_refl w3) (.cells #[.bool m.ref] 4))); have c0 : w3.cell? ⟨g, 0, none⟩ = some (.slice (some ⟨b, off, none⟩) h.n h.c) := (a2.2.2.2.2.cell HGZ.out).trans HCZ.out; have lR : w3.cell? ⟨b, off + j * 11 + 3, none⟩ = some (.bool m.ref) := (LR.out w3 a2.2.2.2.2); have H3 := keep h3; have A2 := keep a2; clear h3 p3 a2)
            | (refine wpList_append_rw bool_elem bools_under (by decide) rfl (.tmp 44) (.tmp 53) rfl R j rb (rows bc (refL (t.fs.take j))) rfl HR0.out (w3.heap.size + 1) (some ⟨w3.heap.size, 0, none⟩) 1 1 (bc m.ref) rfl rfl (has_new w3 (bc m.ref) 4) (bc_one _) (by simp only [maxLen]; omega) (by omega) ?_; intro R' rb' w5 h5 p5; have H5 := keep (And.intro h5 p5); clear h5 p5)
            | fail)
          go_roundg (gk - 1)
          case measure => omega
          case rel =>
            obtain ⟨-, n1, r1, ap1, f1⟩ := A2.out
            obtain ⟨h5, p5⟩ := H5.out
            have rC : ResB Z w3 C' (j + 1) cb' (canL (t.fs.take (j + 1))) := ⟨by rw [HL.out.1, HCV.out, rows_append, rows_single]; exact H3.out, by rw [HL.out.1, List.length_append, HI.out.1.len]; rfl, n1⟩
            obtain ⟨-, n2, r2, ap2, f2⟩ := app_one f1 r1.new rC (fun k hk hc => ap1 k hc hk) h5 p5
            exact ⟨j + 1, cb', rb', C', R', by omega, rfl, rfl, rfl, keep ⟨r2, ⟨by rw [HL.out.2, rows_append, rows_single]; exact h5, by rw [HL.out.2, List.length_append, HI.out.2.1.len]; rfl, n2⟩, fun k hk hr => ap2 k hr hk, f2⟩⟩
      · have hz : ((m.st : Int) == 2) = false := by simp; omega
        have HCV := keep (show canE m = false by unfold canE; simp [h2])
        have HCO := keep (HI.out.1.row.fr (fr_new (fr_refl wr) (.cells #[.bool false] 4)))
        clear h2
        go_wp2_with (first
          | (refine wpList_append_rw bool_elem bools_under (by decide) rfl (.tmp 21) (.tmp 42) rfl C j cb (rows bc (canL (t.fs.take j))) rfl HCO.out (wr.heap.size + 1) (some ⟨wr.heap.size, 0, none⟩) 1 1 (bc false) rfl rfl (has_new wr (bc false) 4) (bc_one _) (by simp only [maxLen]; omega) (by omega) ?_; intro C' cb' w3 h3 p3; have a2 := app_one HI.out.2.2.2 HI.out.1.new HI.out.2.1 HI.out.2.2.1 h3 p3; have HR0 := keep (a2.2.2.1.row.fr (fr_new (fr_refl w3) (.cells #[.bool m.ref] 4))); have c0 : w3.cell? ⟨g, 0, none⟩ = some (.slice (some ⟨b, off, none⟩) h.n h.c) := (a2.2.2.2.2.cell HGZ.out).trans HCZ.out; have lR : w3.cell? ⟨b, off + j * 11 + 3, none⟩ = some (.bool m.ref) := (LR.out w3 a2.2.2.2.2); have H3 := keep h3; have A2 := keep a2; clear h3 p3 a2)
          | (refine wpList_append_rw bool_elem bools_under (by decide) rfl (.tmp 44) (.tmp 53) rfl R j rb (rows bc (refL (t.fs.take j))) rfl HR0.out (w3.heap.size + 1) (some ⟨w3.heap.size, 0, none⟩) 1 1 (bc m.ref) rfl rfl (has_new w3 (bc m.ref) 4) (bc_one _) (by simp only [maxLen]; omega) (by omega) ?_; intro R' rb' w5 h5 p5; have H5 := keep (And.intro h5 p5); clear h5 p5)
          | fail)
        go_roundg (gk - 1)
        case measure => omega
        case rel =>
          obtain ⟨-, n1, r1, ap1, f1⟩ := A2.out
          obtain ⟨h5, p5⟩ := H5.out
          have rC : ResB Z w3 C' (j + 1) cb' (canL (t.fs.take (j + 1))) := ⟨by rw [HL.out.1, HCV.out, rows_append, rows_single]; exact H3.out, by rw [HL.out.1, List.length_append, HI.out.1.len]; rfl, n1⟩
          obtain ⟨-, n2, r2, ap2, f2⟩ := app_one f1 r1.new rC (fun k hk hc => ap1 k hc hk) h5 p5
          exact ⟨j + 1, cb', rb', C', R', by omega, rfl, rfl, rfl, keep ⟨r2, ⟨by rw [HL.out.2, rows_append, rows_single]; exact h5, by rw [HL.out.2, List.length_append, HI.out.2.1.len]; rfl, n2⟩, fun k hk hr => ap2 k hr hk, f2⟩⟩
    · have hjn : j = h.n := by omega
      have hjz : ¬ (j : Int) < (h.n : Int) := by omega
      subst hjn
      have E9 := keep (show t.fs.take h.n = t.fs by rw [← Hn.out, List.take_length])
      have iC := HI.out.1
      have iR := HI.out.2.1
      rw [E9.out] at iC iR
      have hsw := rsweep_at (cc := cb) (rc := rb) (z := t.hand) iC.row.has iC.len iR.row.has iR.len hs'
      have hcl : (canL t.fs).length = h.n := iC.len
      clear hlt iC iR
      rcases swp_cases (canL t.fs) (refL t.fs) t.hand with hp | ⟨k, hp, hkn, -⟩
      · have e9 : evictC t = (none, t) := by unfold evictC sweepC; rw [hp]; rfl
        have E8 := keep e9
        have E7 := keep (show (sweepC t).1 = -1 from hp)
        rw [hp] at hsw
        have HSW := keep hsw
        clear hsw hp e9 hcl
        go_wp2_with (first
          | (go_at_call 68; (with_reducible refine HSW.out.mono ?_); rintro e w2 ⟨L, kl, lc, rfl, hz⟩; have hFw : Fr w w2 := fr_step (fr_step HF0.out HI.out.2.2.2) hz.out.2; have HFw := keep hFw; have HXw := keep (HX.out.chg (.of_fr (fun _ => False) (fr_step HI.out.2.2.2 hz.out.2)) id); clear hFw)
          | (refine wpList_store_chg frame_info rfl (.tmp 3) (.tmp 68) rfl w.heap.size 0 rfl (ds := [Value.int .i64 0, .int .i64 0, .int .i64 0, .bool false, .bool false, .bool false, .slice none 0 0, .slice none 0 0, .slice none 0 0, .slice none 0 0, .int .i64 0]) rfl rfl z11_one HXw.out (by simp) (cs' := [Value.int .i64 0, .int .i64 0, .int .i64 0, .bool false, .bool false, .bool false, .slice none 0 0, .slice none 0 0, .slice none 0 0, .slice none 0 0, .int .i64 0]) rfl ?_; intro W6 h1 h2; have H6 := keep (And.intro h1 h2); clear h1 h2)
          | fail)
        rw [E8.out, E7.out]
        refine bodyPost_ret (frame_ty.result2' rfl _ (w.heap.size) rfl rfl H6.out.1) rfl ⟨rfl, keep ?_⟩
        refine ⟨h, (HK.out.fr HFw.out).chg H6.out.2 fun i hi e => ?_, (Chg.of_fr _ HFw.out).trans' H6.out.2 fun i hi e => ?_, fun i hi => .inl hi⟩
        · have := HK.out.lt i hi
          omega
        · omega
      · rw [hcl] at hkn
        have hkf : t.fs[k]? = some (t.fs[k]'(by rw [Hn.out]; exact hkn)) := List.getElem?_eq_getElem _
        generalize t.fs[k]'(by rw [Hn.out]; exact hkn) = f at hkf
        have hsk : ¬ (sweepC t).1 < 0 := by show ¬ (swpL (canL t.fs) (refL t.fs) t.hand).1 < 0; rw [hp]; omega
        have hll := sweep_left hsk
        obtain ⟨q, hq⟩ : ∃ q, q = (sweepC t).2.1 := ⟨_, rfl⟩
        obtain ⟨l2, hl2⟩ : ∃ l, l = (sweepC t).2.2 := ⟨_, rfl⟩
        have e9 : evictC t = (some f, { t with fs := (reref t.fs l2).set k freeF, hand := q }) := by
          unfold evictC
          rw [if_neg hsk, hq, hl2, show (sweepC t).1 = (k : Int) from hp, Int.toNat_natCast, fr_of hkf]
        have E8 := keep e9
        have E7 := keep (show (sweepC t).1 = (k : Int) from hp)
        rw [hp, show (swpL (canL t.fs) (refL t.fs) t.hand).2.1 = q from hq.symm, show (swpL (canL t.fs) (refL t.fs) t.hand).2.2 = l2 from hl2.symm] at hsw
        rw [← hl2] at hll
        have HSW := keep hsw
        have HLL := keep hll
        have HFK := keep hkf
        have HKN := keep hkn
        have hkz : ¬ ((k : Int) < 0) := by omega
        have hkz2 : (k : Int) < (h.n : Int) := by omega
        clear hsw hp e9 hcl hkf hsk hll hq hl2 hkn
        go_wp2_with (first
          | (go_at_call 68; (with_reducible refine HSW.out.mono ?_); rintro e w2 ⟨L, kl, lc, rfl, hz⟩; have hFw : Fr w w2 := fr_step (fr_step HF0.out HI.out.2.2.2) hz.out.2; have HFw := keep hFw; obtain ⟨Z3, hZ3, hF3, -, hX3, hS3⟩ := frz_box w2; have HX3 := keep hX3; have HF3 := keep hF3; have HXw := keep (HX.out.chg (.of_fr (fun _ => False) (fr_step HI.out.2.2.2 hz.out.2)) id); obtain ⟨b, off, hA, c0, hR, hiz⟩ := (HK.out.fr hFw).row HFK.out; obtain ⟨b2, off2, hA2, hb2, hr2⟩ := has_rows (HK.out.fr hFw).fs.has (fc_wid t.fs) (by decide) (by intro e; have h9 := HFK.out; rw [e] at h9; simp at h9); rw [hA] at hA2; injection hA2 with hA2; injection hA2 with hA3 hA4; subst hA3 hA4; have lF := elem_ld frame_ty hr2 (fc_wid t.fs) hb2 HFK.out w2 (fr_refl w2); have HA := keep hA; clear hFw hA hR hr2 hb2 hX3 hF3)
          | (refine wpList_store_chg frame_info rfl (.tmp 10) (.tmp 75) rfl w2.heap.size 0 rfl (ds := fc f) rfl (fc_len f) (fc_one f) HX3.out (by simp) (cs' := fc f) (splice_all _ _ (by rw [fc_len]; decide)) ?_; intro W4 h1 h2; have H4 := keep (And.intro h1 h2); clear h1 h2 c0 lF)
          | fail)
        have hd4 : DC W4 g h t := (HK.out.fr (fr_step HFw.out HF3.out)).chg H4.out.2 fun i hi e => by
          have := HK.out.lt i hi
          have := HFw.out.size
          omega
        have hrl : ResB wr W4 L kl lc l2 := ⟨(hz.out.1.row.fr HF3.out).chg H4.out.2 fun i hi e => by have := hz.out.1.row.lt i hi; omega, hz.out.1.len, hz.out.1.new⟩
        have D4 := keep hd4
        have RL := keep hrl
        have HWR := keep (show w.heap.size ≤ wr.heap.size from Nat.le_trans HF0.out.size HI.out.2.2.2.size)
        have hbl : b < w.heap.size := HK.out.fs.lt b (by rw [HA.out]; rfl)
        have HBL := keep hbl
        have HZ2 := keep (show w.heap.size < w2.heap.size from by have := hz.out.2.size; have := HI.out.2.2.2.size; omega)
        have HBG := keep (show ¬ g = b from fun e => HK.out.ng.1 (by rw [HA.out, e]; rfl))
        have hkl : kl = h.n := by rw [← hz.out.1.len, HLL.out, Hn.out]
        subst hkl
        clear hd4 hrl hbl
        go_loopg [11] h.n (fun gg s11 wx => ∃ j : Nat, j + gg = h.n ∧ s11 = .int .i64 j ∧ Hid (DC wx g h { t with fs := rers t.fs l2 j } ∧ Chg (At h.A) W4 wx))
        case atStart => exact ⟨0, by omega, rfl, keep ⟨D4.out, .refl _ _⟩⟩
        case round =>
          obtain ⟨j, hj, rfl, HI2⟩ := hrel
          have HAw := keep (show ∀ i, At h.A i → i < w.heap.size from fun i hi => HK.out.fs.lt i hi)
          have hRLx : Rw wr 4 1 L h.n lc (rows bc l2) := RL.out.row.chg HI2.out.2 fun a ha ho => by
            have := RL.out.new a ha
            have := HAw.out a ho
            have := HWR.out
            omega
          by_cases hlt : j < h.n
          · have hm : t.fs[j]? = some (t.fs[j]'(by rw [Hn.out]; exact hlt)) := List.getElem?_eq_getElem _
            generalize t.fs[j]'(by rw [Hn.out]; exact hlt) = m at hm
            have hbv : l2[j]? = some (l2[j]'(by rw [HLL.out, Hn.out]; exact hlt)) := List.getElem?_eq_getElem _
            generalize l2[j]'(by rw [HLL.out, Hn.out]; exact hlt) = bv at hbv
            have hm2 := rers_at HLL.out hm
            have HM2 := keep hm2
            have HST := keep (rers_in HLL.out hm hbv)
            obtain ⟨b2, off2, hA2, c0, hR, hiz⟩ := HI2.out.1.row hm2
            rw [HA.out] at hA2
            injection hA2 with hA2
            injection hA2 with hA3 hA4
            subst hA3 hA4
            obtain ⟨bL, oL, hLL, hb3, hr3⟩ := has_rows hRLx.has (bc_wid l2) (by decide) (by intro e; rw [e] at hbv; simp at hbv)
            have lB := elem_cell0 hr3 (bc_wid l2) hb3 hbv (u := .bool bv) rfl wr (fr_refl wr)
            rw [Nat.mul_one] at lB
            have HR2 := keep hR
            have hjz : (j : Int) < (h.n : Int) := by omega
            have wj : IntKind.i64.wrap ((j : Int) + 1) = (j : Int) + 1 := by rw [IntKind.wrap_i64]; omega
            subst hLL
            clear hm hm2 hbv hR hr3 hb3 hlt hRLx
            go_wp2_with fail
            go_still_tail 11, (by kernel_rfl)
            change wpList _ _ _ _ _ wr.drew
            have HD := keep (HR2.out.fr (fr_drew (fr_refl wr)))
            have HFD := keep (fr_drew (fr_refl wr))
            clear c0 lB
            generalize wr.drew = wd at *
            go_wp2_with (first
              | (refine wpList_store_frp (cf := fc) (l := rers t.fs l2 j) (j := j) (x := m) (y := { m with ref := bv }) (tt := 3) (ds := [.bool bv]) bool_info16 rfl (.tmp 95) (.tmp 93) rfl rfl rfl rfl (.cons rfl .nil) HD.out (fc_wid _) HM2.out (by simp) rfl ?_; intro W1 h1 h2; have H1 := keep (And.intro h1 h2); clear h1 h2)
              | fail)
            go_roundg (gk - 1)
            case measure => omega
            case rel =>
              obtain ⟨h1, h2⟩ := H1.out
              have hch : Chg (At h.A) wr W1 := ((Chg.of_fr _ HFD.out).trans h2).weak fun a _ ha => by rw [HA.out]; exact congrArg some ha.symm
              refine ⟨j + 1, by omega, rfl, keep ⟨?_, HI2.out.2.trans hch⟩⟩
              rw [HST.out]
              exact HI2.out.1.frames (by rw [HA.out]; exact h1) hch
          · have hjn : j = h.n := by omega
            have hjz : ¬ (j : Int) < (h.n : Int) := by omega
            subst hjn
            have hall : rers t.fs l2 h.n = reref t.fs l2 := by rw [← Hn.out]; exact rers_all HLL.out
            have hi2 := HI2.out
            rw [hall] at hi2
            have HI2 := keep hi2
            have hrl : (reref t.fs l2).length = h.n := by rw [← hall, rers_len HLL.out (by rw [Hn.out]; exact Nat.le_refl _), Hn.out]
            have HRL := keep hrl
            have hc0 := hi2.1.cells.1
            rw [HA.out] at hc0
            have c0 : wr.cell? ⟨g, 0, none⟩ = some (.slice (some ⟨b, off, none⟩) h.n h.c) := hc0
            have hr2 := hi2.1.fs
            rw [HA.out] at hr2
            have HR2 := keep hr2
            have HNA := keep (show (¬ At h.A w2.heap.size) ∧ (¬ w2.heap.size = b) ∧ ¬ w2.heap.size = g from by
              have h9 := HFw.out.size
              refine ⟨fun e => ?_, ?_, ?_⟩
              · have := HAw.out _ e
                omega
              · have := HBL.out
                omega
              · have := HGW.out
                omega)
            clear hlt hi2 hall hrl hc0 hr2 hRLx
            go_wp2_with (first
              | (refine wpList_store_rw (cf := fc) (x := (freeF : Fra V)) (j := k) frame_info rfl (.tmp 102) (.tmp 101) rfl rfl (fc_lit 0 (-1) 0 false false 0).symm (fc_len _) (fc_one _) HR2.out (fc_wid _) HRL.out HKN.out ?_; intro W5 h1 h2; have H5 := keep (And.intro h1 h2); have HB5 := keep (HI2.out.1.box.chg h2 (fun e => HBG.out e)); clear h1 h2)
              | (refine wpList_store_chg int_info16 rfl (.tmp 106) (.tmp 104) rfl g 3 rfl (ds := [.int .i64 q]) rfl rfl (.cons rfl .nil) HB5.out (by simp) (cs' := [.slice h.A h.n h.c, .slice h.B h.m h.d, .slice h.L h.p h.e, .int .i64 q]) rfl ?_; intro W6 h1 h2; have H6 := keep (And.intro h1 h2); have lF : (ldS 63 (.pointer (some ⟨w2.heap.size, 0, none⟩))).run Tryz.prog W6.drew = .ok (.agg (fc f).toArray) W6.drew := frame_ty.ld (w := W6.drew) (fc_len f) ((((H4.out.1.chg HI2.out.2 HNA.out.1).chg H5.out.2 HNA.out.2.1).chg h2 HNA.out.2.2).drew); clear h1 h2)
              | fail)
            go_still_tail 3, (by kernel_rfl)
            change wpList _ _ _ _ _ W6.drew
            have HXD := keep (show Arr W6.drew w.heap.size 63 [Value.int .i64 0, .int .i64 0, .int .i64 0, .bool false, .bool false, .bool false, .slice none 0 0, .slice none 0 0, .slice none 0 0, .slice none 0 0, .int .i64 0].toArray from ((((((HXw.out.chg (.of_fr (fun _ => False) HF3.out) id).chg H4.out.2 (fun e => by have := HZ2.out; omega)).chg HI2.out.2 (fun e => by have := HAw.out _ e; omega)).chg H5.out.2 (fun e => by have := HBL.out; omega)).chg H6.out.2 (fun e => by have := HGW.out; omega)).drew))
            have HFD := keep (fr_drew (fr_refl W6))
            clear c0 lF
            generalize W6.drew = wd at *
            go_wp2_with (first
              | (refine wpList_store_chg frame_info rfl (.tmp 3) (.tmp 108) rfl w.heap.size 0 rfl (ds := fc f) rfl (fc_len f) (fc_one f) HXD.out (by simp) (cs' := fc f) (splice_all _ _ (by rw [fc_len]; decide)) ?_; intro W7 h1 h2; have H7 := keep (And.intro h1 h2); clear h1 h2)
              | fail)
            rw [E8.out, E7.out]
            refine bodyPost_ret (frame_ty.result2' rfl _ (w.heap.size) rfl (fc_len f) H7.out.1) rfl ⟨rfl, keep ?_⟩
            have hch5 : Chg (At h.A) wr W5 := H5.out.2.weak fun a _ ha => by rw [HA.out]; exact congrArg some ha.symm
            have d5 := HI2.out.1.frames (by rw [HA.out]; exact H5.out.1) hch5
            have d6 := d5.hand H6.out.1 H6.out.2
            have d7 := (d6.fr HFD.out).chg H7.out.2 fun i hi e => by
              have := HK.out.lt i hi
              omega
            have s2 := HFw.out.size
            refine ⟨h, d7, ?_, fun i hi => .inl hi⟩
            refine ((((((Chg.of_fr (CHX g h) (fr_step HFw.out HF3.out)).trans' H4.out.2 fun i hi e => ?_).trans' HI2.out.2 fun i hi e => .inr (.inl e)).trans' hch5 fun i hi e => .inr (.inl e)).trans' H6.out.2 fun i hi e => .inl e).trans' (Chg.of_fr (fun _ => False) HFD.out) fun i hi e => e.elim).trans' H7.out.2 fun i hi e => ?_
            · omega
            · omega
end
end Go.Proofs.YtmoaddbpfekdbaaGreat
