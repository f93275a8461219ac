/- CacheOnce, walked. -/
import Derived.Test.YtmoaddbpfekdbaaPg13
import Derived.Test.YtmoaddbpfekdbaaPgOp
namespace Go.Proofs.Ytmoaddbpfekdbaa
set_option linter.unusedVariables false
set_option linter.unusedSimpArgs false
set_option linter.unusedSectionVars false
set_option maxRecDepth 100000
open Go.RowKit
attribute [local go_sem ↓] node16_ld step16_ld
/-- The cache, and what was told of its frames. -/
structure OnceS (w W : World) (g j : Nat) (u : Ca RN) (bQ oQ qc : Nat) (l' : List (Fra NX)) : Prop where
  q : QL w W g 6 j u
  good : GoodF u.fs
  row : Rw W 49 13 (some ⟨bQ, oQ, none⟩) 6 qc (rows fac l')
  same : l'.map (mF NX.n) = u.fs
/-- One step on: u has turned into v, the row tells of u. -/
structure OnceT (w W : World) (g j : Nat) (u v : Ca RN) (bQ oQ qc : Nat) (l' : List (Fra NX)) (what : Int) : Prop where
  q : QL w W g 6 (j + 1) v
  good : GoodF v.fs
  row : Rw W 49 13 (some ⟨bQ, oQ, none⟩) 6 qc (rows fac l')
  kept : 12 < what → ∀ (i : Nat) f f', u.fs[i]? = some f → 0 < f.pins → v.fs[i]? = some f' → f'.st = f.st ∧ f'.blk = f.blk ∧ f'.pins = f.pins
theorem OnceS.fr {w W W' : World} {g j bQ oQ qc : Nat} {u : Ca RN} {l' : List (Fra NX)} (h : OnceS w W g j u bQ oQ qc l') (f : Fr W W') : OnceS w W' g j u bQ oQ qc l' := ⟨h.q.fr f, h.good, h.row.fr f, h.same⟩
theorem few_one (w : World) (s : Sp) (ht : I64 s.t) (hd : I64 s.id) :
    Calls Try.prog 11 #[.agg (spc s).toArray, .int .i64 1] w fun e w' => e = .returned (.agg #[.int .i64 s.what, .int .i64 (s.t % 6), .int .i64 (s.id % 8), .int .i64 s.n]) ∧ Fr w w' := few_at w s 1 (by decide) ht hd
theorem step16_new (w : World) : Arr (w.alloc (.cells #[.int .i64 0, .int .i64 0, .int .i64 0, .int .i64 0] 31)) w.heap.size 31 [Value.int .i64 0, .int .i64 0, .int .i64 0, .int .i64 0].toArray := Arr.new w _ _
theorem once_drewN {a w : World} (h : Fr a w) (n : Nat) : Fr a (w.drewN n) := h.trans ⟨rfl, rfl, rfl, Nat.le_refl _, fun _ _ => rfl⟩
set_option maxHeartbeats 32000000 in
theorem once_core {w : World} {A : Option Addr} {m cc : Nat} {l : List Sp} (hl : l.length = m) (hm : m ≤ maxLen) (hw : ∀ s ∈ l, s.wf) (hA : Has w w.heap.size A (rows spc l)) :
    Calls Try.prog 3 #[.slice A m cc] w fun e w' => e = .returned (.bool true) ∧ Fr w w' := by
  have HL := keep hl
  have HW := keep hw
  have HA := keep hA
  clear hA hl hw
  by_cases hlen : m ≤ 120
  · have hz : ¬ (120 : Int) < (m : Int) := by omega
    go_enter Try.func3, Try.ntmps3
    go_wp2_with (first
      | (go_at_call 8; (with_reducible refine (x_new _ 6 (N := 6) rfl (by decide) (by decide)).mono ?_); rintro e w1 ⟨g, rfl, H1⟩)
      | (go_at_call 10; (with_reducible refine (x_frames H1.out).mono ?_); rintro e w2 ⟨Q, qc, l', rfl, H2⟩; obtain ⟨bQ, oQ, hQ⟩ := H2.out.1.res.row.addr (by decide); subst hQ; have H3 := keep (show OnceS w w2 g 0 (newC 6) bQ oQ qc l' from ⟨H1.out.fr H2.out.2, good_new 6, H2.out.1.res.row, H2.out.1.same⟩); clear H1 H2)
      | fail)
    go_loopg [5, 6] m (fun gg s5 s6 wr => ∃ (j qc bQ oQ : Nat) (l' : List (Fra NX)) (u : Ca RN), j + gg = m ∧ s5 = .slice (some ⟨bQ, oQ, none⟩) 6 qc ∧ s6 = .int .i64 j ∧ Hid (OnceS w wr g j u bQ oQ qc l'))
    case atStart => exact ⟨0, qc, bQ, oQ, l', _, by omega, rfl, rfl, H3⟩
    case round =>
      clear H3
      obtain ⟨j, qc, bQ, oQ, l', u, hj, rfl, rfl, HI⟩ := hrel
      by_cases hlt : j < m
      · have hjz : (j : Int) < (m : Int) := by omega
        have hK : j ≤ 1000 := by omega
        have wj : IntKind.i64.wrap ((j : Int) + 1) = (j : Int) + 1 := by rw [IntKind.wrap_i64]; omega
        obtain ⟨s, hs⟩ : ∃ s, l[j]? = some s := ⟨l[j]'(by rw [HL.out]; exact hlt), List.getElem?_eq_getElem _⟩
        obtain ⟨hw1, hw2, hw3, hw4⟩ := HW.out s (List.mem_of_getElem? hs)
        obtain ⟨bA, oA, hA, hb1, hr⟩ := has_rows HA.out (spc_wid l) (by decide) (by intro e; rw [e] at hs; simp at hs)
        subst hA
        have lX := elem_ld step16_ty hr (spc_wid l) hb1 hs wr HI.out.q.frw
        have cF := few_one wr s hw2 hw3
        obtain ⟨what, t0, d0, n0⟩ := s
        obtain ⟨t, ht⟩ : ∃ t, t = t0 % 6 := ⟨_, rfl⟩
        obtain ⟨d, hd⟩ : ∃ d, d = d0 % 8 := ⟨_, rfl⟩
        have isT : W64 t := by subst ht; exact ⟨by omega, by omega⟩
        have isD : W64 d := by subst hd; exact ⟨by omega, by omega⟩
        simp only at cF
        rw [← ht, ← hd] at cF
        have CF := keep cF
        have HJ := keep (show j + gk = m ∧ j < m from ⟨hj, hlt⟩)
        clear hs hw1 hw2 hw3 hw4 hb1 hr cF ht hd hj hlt
        have HOw := HI
        go_upto_block 2 with (first
          | (go_at_call 11; (with_reducible refine CF.out.mono ?_); rintro e w5 ⟨rfl, f5⟩; have H5 := keep (HI.out.fr f5); clear f5)
          | (refine wpList_store_at (ds := [.int .i64 what, .int .i64 t, .int .i64 d, .int .i64 n0]) step16_info rfl (.tmp 7) (.tmp 51) rfl w5.heap.size 0 rfl rfl rfl (.cons rfl (.cons rfl (.cons rfl (.cons rfl .nil)))) (step16_new w5) (Nat.le_refl 4) (splice_all _ _ (Nat.le_refl 4)) ?_; intro W6 hA6 hk6; have d0 := hA6.cell 0; have d1 := hA6.cell 1; have d2 := hA6.cell 2; simp only [List.getElem?_toArray, List.getElem?_cons_zero, List.getElem?_cons_succ] at d0 d1 d2; have HO6 := keep (H5.out.fr (hk6.fr (fr_new (fr_refl w5) _) (Nat.le_refl _))); clear hA6 hk6)
          | fail)
        go_cut [] from 55 to 111 (fun W => ∃ v : Ca RN, Hid (OnceT w W g j u v bQ oQ qc l' what))
        case first =>
          clear HOw HI
          by_cases h3 : what ≤ 3
          · skip
            have c1 : what ≤ 3 := h3
            go_wp2_with (first
              | (go_at_call 12; (with_reducible refine (x_pin HO6.out.q hK (u' := (pinC u t d).2) (r := (pinC u t d).1) rfl).mono ?_); rintro e w7 ⟨rfl, H7⟩; have H8 := keep (show OnceT w w7 g j u _ bQ oQ qc l' what from ⟨H7.out.1, good_pin HO6.out.good t d, H7.out.2.rw HO6.out.row (by decide) (by decide) (by decide), fun h => by omega⟩))
              | fail)
            go_meet
            exact ⟨_, H8⟩
          · by_cases h5 : what ≤ 5
            · skip
              have c1 : ¬ what ≤ 3 := h3
              have c2 : what ≤ 5 := h5
              go_wp2_with (first
                | (go_at_call 13; (with_reducible refine (x_fill HO6.out.q hK isD lfX lf_val (lf_np _ (fun _ => True)) (l := (fillC u d lfX.n).1) (r := (fillC u d lfX.n).2.1) (u' := (fillC u d lfX.n).2.2) rfl rfl).mono ?_); rintro e w7 ⟨O7, c7', rfl, H7⟩; have H8 := keep (show OnceT w w7 g j u _ bQ oQ qc l' what from ⟨H7.out.2.1, good_fill HO6.out.good d _, H7.out.2.2.rw HO6.out.row (by decide) (by decide) (by decide), fun h => by omega⟩))
                | fail)
              go_meet
              exact ⟨_, H8⟩
            · by_cases h7 : what ≤ 7
              · skip
                have c1 : ¬ what ≤ 3 := h3
                have c2 : ¬ what ≤ 5 := h5
                have c3 : what ≤ 7 := h7
                go_wp2_with (first
                  | (go_at_call 14; (with_reducible refine (x_claim HO6.out.q hK (u' := (claimC u t).2) (r := (claimC u t).1) rfl).mono ?_); rintro e w7 ⟨rfl, H7⟩; have H8 := keep (show OnceT w w7 g j u _ bQ oQ qc l' what from ⟨H7.out.1, good_claim HO6.out.good t, H7.out.2.rw HO6.out.row (by decide) (by decide) (by decide), fun h => by omega⟩))
                  | fail)
                go_meet
                exact ⟨_, H8⟩
              · by_cases h8 : what = 8
                · skip
                  subst h8
                  go_wp2_with (first
                    | (go_at_call 15; (with_reducible refine (x_name HO6.out.q hK isT isD lfX lf_val (lf_np _ (fun _ => True)) (u' := (nameC u t d lfX.n).2) (r := (nameC u t d lfX.n).1) rfl).mono ?_); rintro e w7 ⟨rfl, H7⟩; have H8 := keep (show OnceT w w7 g j u _ bQ oQ qc l' 8 from ⟨H7.out.1, good_name HO6.out.good t d _, H7.out.2.rw HO6.out.row (by decide) (by decide) (by decide), fun h => absurd h (by decide)⟩))
                    | fail)
                  go_meet
                  exact ⟨_, H8⟩
                · by_cases h11 : what ≤ 11
                  · skip
                    have c1 : ¬ what ≤ 3 := h3
                    have c2 : ¬ what ≤ 5 := h5
                    have c3 : ¬ what ≤ 7 := h7
                    have c4 : (what == 8) = false := by simpa using h8
                    have c5 : what ≤ 11 := h11
                    go_wp2_with (first
                      | (go_at_call 16; (with_reducible refine (x_unpin HO6.out.q hK isD (u' := (unpinC u d).2) (r := (unpinC u d).1) rfl).mono ?_); rintro e w7 ⟨rfl, H7⟩; have H8 := keep (show OnceT w w7 g j u _ bQ oQ qc l' what from ⟨H7.out.1, good_unpin HO6.out.good d, H7.out.2.rw HO6.out.row (by decide) (by decide) (by decide), fun h => by omega⟩))
                      | fail)
                    go_meet
                    exact ⟨_, H8⟩
                  · by_cases h12 : what = 12
                    · skip
                      subst h12
                      go_wp2_with (first
                        | (go_at_call 17; (with_reducible refine (x_set HO6.out.q isD lfX lf_val (lf_np _ (fun _ => True)) (u' := (setC u d lfX.n).2) (r := (setC u d lfX.n).1) rfl).mono ?_); rintro e w7 ⟨rfl, H7⟩; have H8 := keep (show OnceT w w7 g j u _ bQ oQ qc l' 12 from ⟨H7.out.1, good_set HO6.out.good d _, H7.out.2.rw HO6.out.row (by decide) (by decide) (by decide), fun h => absurd h (by decide)⟩))
                        | fail)
                      go_meet
                      exact ⟨_, H8⟩
                    · cases he : (evictC u).1 with
                      | none =>
                        have c1 : ¬ what ≤ 3 := h3
                        have c2 : ¬ what ≤ 5 := h5
                        have c3 : ¬ what ≤ 7 := h7
                        have c4 : (what == 8) = false := by simpa using h8
                        have c5 : ¬ what ≤ 11 := h11
                        have c6 : (what == 12) = false := by simpa using h12
                        have qe : evictC u = (none, (evictC u).2) := by rw [← he]
                        go_wp2_with (first
                          | (go_at_call 18; (with_reducible refine (x_evict_no HO6.out.q qe).mono ?_); rintro e w7 ⟨rfl, H7⟩; have H8 := keep (show OnceT w w7 g j u _ bQ oQ qc l' what from ⟨H7.out.1, good_evict HO6.out.good, H7.out.2.rw HO6.out.row (by decide) (by decide) (by decide), fun _ i f f' h1 h2 h3 => evict_kept h1 h2 h3⟩))
                          | fail)
                        go_meet
                        exact ⟨_, H8⟩
                      | some fe =>
                        have c1 : ¬ what ≤ 3 := h3
                        have c2 : ¬ what ≤ 5 := h5
                        have c3 : ¬ what ≤ 7 := h7
                        have c4 : (what == 8) = false := by simpa using h8
                        have c5 : ¬ what ≤ 11 := h11
                        have c6 : (what == 12) = false := by simpa using h12
                        have qe : evictC u = (some fe, (evictC u).2) := by rw [← he]
                        go_wp2_with (first
                          | (go_at_call 18; (with_reducible refine (x_evict HO6.out.q qe rfl rfl).mono ?_); rintro e w7 ⟨v7, rfl, H7⟩; have H8 := keep (show OnceT w w7 g j u _ bQ oQ qc l' what from ⟨H7.out.1, good_evict HO6.out.good, H7.out.2.rw HO6.out.row (by decide) (by decide) (by decide), fun _ i f f' h1 h2 h3 => evict_kept h1 h2 h3⟩))
                          | fail)
                        go_meet
                        exact ⟨_, H8⟩
        case rest =>
          obtain ⟨v, HT⟩ := hcut
          generalize hev0 : decide (12 < what) = ev
          have HEV := keep hev0
          clear hev0
          obtain ⟨wo, rfl⟩ : ∃ x, x = wr := ⟨_, rfl⟩
          obtain ⟨gko, rfl⟩ : ∃ x, x = gk := ⟨_, rfl⟩
          have hul : u.fs.length = 6 := HOw.out.q.bd
          have hvl : v.fs.length = 6 := HT.out.q.bd
          have HUV := keep (show u.fs.length = 6 ∧ v.fs.length = 6 from ⟨hul, hvl⟩)
          have HSM := keep HOw.out.same
          clear hul hvl HI HOw
          go_wp2_with (first
            | (go_at_call 10; (with_reducible refine (x_frames HT.out.q).mono ?_); rintro e w9 ⟨Q2, q2, l2, rfl, H9⟩; obtain ⟨bN, oN, hN⟩ := H9.out.1.res.row.addr (by decide); subst hN; have H10 := keep (show OnceS w w9 g (j + 1) v bN oN q2 l2 from ⟨HT.out.q.fr H9.out.2, HT.out.good, H9.out.1.res.row, H9.out.1.same⟩); have HW9 := keep (show Rw w9 49 13 (some ⟨bQ, oQ, none⟩) 6 qc (rows fac l') ∧ l'.map (mF NX.n) = u.fs from ⟨HT.out.row.fr H9.out.2, HSM.out⟩); have hww9 := fr_refl w9)
            | fail)
          go_loopg [10] 6 (fun gg s10 wr => ∃ a : Nat, a + gg = 6 ∧ s10 = .int .i64 a ∧ Hid (Fr w9 wr))
          case atStart => exact ⟨0, by omega, rfl, keep hww9⟩
          case round =>
            obtain ⟨a, ha, rfl, HA9⟩ := hrel
            by_cases hlt : a < 6
            · have haz : (a : Int) < 6 := by omega
              have wa : IntKind.i64.wrap ((a : Int) + 1) = (a : Int) + 1 := by rw [IntKind.wrap_i64]; omega
              obtain ⟨wp, rfl⟩ : ∃ x, x = wr := ⟨_, rfl⟩
              obtain ⟨gka, rfl⟩ : ∃ x, x = gk := ⟨_, rfl⟩
              obtain ⟨f, hf⟩ : ∃ f, u.fs[a]? = some f := ⟨u.fs[a]'(by rw [HUV.out.1]; exact hlt), List.getElem?_eq_getElem _⟩
              obtain ⟨f', hf'⟩ : ∃ f, v.fs[a]? = some f := ⟨v.fs[a]'(by rw [HUV.out.2]; exact hlt), List.getElem?_eq_getElem _⟩
              obtain ⟨W0, W1, W2, -, -⟩ := told_cells (HW9.out.1.fr HA9.out) HW9.out.2 hf
              obtain ⟨N0, N1, N2, -, -⟩ := told_cells (H10.out.row.fr HA9.out) H10.out.same hf'
              have hkp := fun h1 h2 => HT.out.kept h1 a f f' hf h2 hf'
              have HF' := keep hf'
              have HAL := keep (show a + gka = 6 ∧ a < 6 from ⟨ha, hlt⟩)
              have HKP := keep hkp
              have fA := HA9.out
              clear hf hf' hkp ha hlt
              go_upto_region 31 with fail
              go_cut [168] from 121 to 168 (fun s168 W => s168 = .bool false ∧ Hid (Fr w9 W))
              case first =>
                cases ev with
                | true =>
                  have hev : 12 < what := by simpa using HEV.out
                  by_cases hp : 0 < f.pins
                  · have hpd : decide (0 < f.pins) = true := by simpa using hp
                    obtain ⟨k1, k2, k3⟩ := HKP.out hev hp
                    rw [k1] at N0
                    rw [k2] at N1
                    rw [k3] at N2
                    have b0 : ((f.st : Int) != (f.st : Int)) = false := by simp
                    have b1 : (f.blk != f.blk) = false := by simp
                    have b2 : (f.pins != f.pins) = false := by simp
                    go_wp2_with fail
                    go_quiet (fail)
                    go_wp2_with fail
                    go_meet
                    exact ⟨rfl, keep (by first | exact once_drewN fA _ | exact once_drewN (once_drewN fA _) _)⟩
                  · have hpd : decide (0 < f.pins) = false := by simpa using hp
                    go_wp2_with fail
                    go_quiet (fail)
                    go_wp2_with fail
                    go_meet
                    exact ⟨rfl, keep (by first | exact once_drewN fA _ | exact once_drewN (once_drewN fA _) _)⟩
                | false =>
                  go_wp2_with fail
                  go_quiet (fail)
                  go_wp2_with fail
                  go_meet
                  exact ⟨rfl, keep (by first | exact once_drewN fA _ | exact once_drewN (once_drewN fA _) _)⟩
              case rest =>
                obtain ⟨rfl, HC⟩ := hcut
                clear W0 W1 W2 N0 N1 N2 fA HKP
                go_wp2_with fail
                go_loopg [11] a (fun gg s11 wr => ∃ b : Nat, b + gg = a ∧ s11 = .int .i64 b ∧ Hid (Fr w9 wr))
                case atStart => exact ⟨0, by omega, rfl, HC⟩
                case round =>
                  obtain ⟨b, hb, rfl, HB9⟩ := hrel
                  by_cases hlb : b < a
                  · have hbz : (b : Int) < (a : Int) := by omega
                    have wb : IntKind.i64.wrap ((b : Int) + 1) = (b : Int) + 1 := by rw [IntKind.wrap_i64]; have := HAL.out; omega
                    have hb6 : (b : Int) < 6 := by omega
                    obtain ⟨fb, hfb⟩ : ∃ f, v.fs[b]? = some f := ⟨v.fs[b]'(by rw [HUV.out.2]; have := HAL.out; omega), List.getElem?_eq_getElem _⟩
                    obtain ⟨-, N1, -, -, -⟩ := told_cells (H10.out.row.fr HB9.out) H10.out.same HF'.out
                    obtain ⟨-, M1, -, -, -⟩ := told_cells (H10.out.row.fr HB9.out) H10.out.same hfb
                    have HNE := keep (fun h => H10.out.good.once a b f' fb HF'.out hfb (by omega) h)
                    have HBL := keep (show b + gk = a ∧ b < a from ⟨hb, hlb⟩)
                    have fB := HB9.out
                    clear hfb hb hlb
                    by_cases h0 : 0 ≤ f'.blk
                    · have h0d : decide (0 ≤ f'.blk) = true := by simpa using h0
                      have hne : (f'.blk == fb.blk) = false := by simpa using HNE.out h0
                      go_wp2_with fail
                      go_quiet (fail)
                      go_wp2_with fail
                      go_roundg (gk - 1)
                      case measure => have := HBL.out; omega
                      case rel => exact ⟨b + 1, by have := HBL.out; omega, rfl, keep (by first | exact once_drewN fB _ | exact once_drewN (once_drewN fB _) _)⟩
                    · have h0d : decide (0 ≤ f'.blk) = false := by simpa using h0
                      go_wp2_with fail
                      go_quiet (fail)
                      go_wp2_with fail
                      go_roundg (gk - 1)
                      case measure => have := HBL.out; omega
                      case rel => exact ⟨b + 1, by have := HBL.out; omega, rfl, keep (by first | exact once_drewN fB _ | exact once_drewN (once_drewN fB _) _)⟩
                  · obtain rfl : b = a := by omega
                    have hbz : ¬ (b : Int) < (b : Int) := by omega
                    clear hlb hb
                    go_wp2_with fail
                    go_roundg (gka - 1)
                    case measure => have := HAL.out; omega
                    case rel => exact ⟨b + 1, by have := HAL.out; omega, rfl, HB9⟩
            · obtain rfl : a = 6 := by omega
              have HE := keep (H10.out.fr HA9.out)
              clear hlt ha
              go_wp2_with fail
              go_roundg (gko - 1)
              case measure => have := HJ.out; omega
              case rel => exact ⟨j + 1, q2, bN, oN, l2, v, by have := HJ.out; omega, rfl, rfl, HE⟩
      · obtain rfl : j = m := by omega
        have hjz : ¬ (j : Int) < (j : Int) := by omega
        have HH := keep HI.out.q.frw
        clear hlt
        go_wp2_with (first
          | (go_at_call 9; (with_reducible refine (awake16 _).mono ?_); rintro e w9 ⟨rfl, f9⟩; have HZ := keep (fr_step HH.out f9))
          | fail)
        go_ret
        exact ⟨rfl, HZ.out⟩
  · have hz : (120 : Int) < (m : Int) := by omega
    clear hlen
    go_enter Try.func3, Try.ntmps3
    go_wp2_with (first
      | (go_at_call 8; (with_reducible refine (x_new _ 6 (N := 6) rfl (by decide) (by decide)).mono ?_); rintro e w1 ⟨g, rfl, H1⟩)
      | (go_at_call 9; (with_reducible refine (awake16 _).mono ?_); rintro e w9 ⟨rfl, f9⟩; have HZ := keep (fr_step H1.out.frw f9))
      | fail)
    go_ret
    exact ⟨rfl, HZ.out⟩
end Go.Proofs.Ytmoaddbpfekdbaa
