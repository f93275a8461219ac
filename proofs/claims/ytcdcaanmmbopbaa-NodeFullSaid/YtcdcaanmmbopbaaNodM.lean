/- NodeFull, walked. -/
import Derived.Test.YtcdcaanmmbopbaaNodL
namespace Go.Proofs.Ytcdcaanmmbopbaa
set_option maxRecDepth 100000
open Go.RowKit
set_option linter.unusedVariables false
attribute [local go_sem ↓] msg_ld nod_ld
theorem q_fits_eq {W : World} {B : Nat} {v : NV} {n : RN} (h : NH W B v n) {b : Bool} (hb : b = true ↔ OkN n ∧ bytN n ≤ rmN n) : Calls Try.prog 16 #[nv v] W fun e w' => e = .returned (.bool b) ∧ Fr W w' :=
  (q_fits h).mono fun e w' ⟨⟨c, p, q⟩, f⟩ => ⟨by rw [p, bool_iff q hb], f⟩
theorem msgJ_val (a v : Int) (j : Nat) : (msgJ a v j).val.bs.length = 16 := rfl
theorem msgJ_set (a v u : Int) (j : Nat) : splice (mc (msgJ a v j)) 11 [.int .i64 u] = mc (msgJ a u j) := rfl
theorem rows_sing (m : RM) : rows mc [m] = mc m := by rw [rows_cons, rows_nil, List.append_nil]
theorem msgJ_len (a v : Int) (j : Nat) : (mc (msgJ a v j)).length = 29 := mc_len rfl
theorem msgJ_le (a v : Int) (j : Nat) : 11 + 1 ≤ (mc (msgJ a v j)).length := by rw [msgJ_len]; decide
theorem mz_le : 0 + 29 ≤ (mc zeroM).length := by decide
theorem mz_spl (a v : Int) (j : Nat) : splice (mc zeroM) 0 (mc (msgJ a v j)) = mc (msgJ a v j) := splice_all _ _ (by rw [msgJ_len]; decide)
set_option maxHeartbeats 40000000 in
theorem nodeFull_core {w : World} {a : Int} {more : Bool} (ha : 0 ≤ a ∧ a ≤ 255) :
    Calls Try.prog 7 #[.int .u8 a, .bool more] w fun e w' => e = .returned (.bool true) ∧ Below w.heap.size w w' := by
  obtain ⟨ks, ps, kok, kpl, kop, cI0⟩ := inner_nil ha
  obtain ⟨lf, hlf, hl1⟩ : ∃ lf : Int, (lf = if more then 249 else 248) ∧ 248 ≤ lf ∧ lf ≤ 249 := by cases more <;> exact ⟨_, rfl, by decide, by decide⟩
  have Hlf := keep hlf
  clear hlf
  go_enter Try.func7, Try.ntmps7
  go_upto_if 15 with fail
  have HG := keep (Arr.new w #[.bool true, .slice none 0 0, .slice none 0 0, .slice none 0 0, .slice none 0 0] 27)
  have HF := keep (fr_new (fr_refl w) (.cells #[.bool true, .slice none 0 0, .slice none 0 0, .slice none 0 0, .slice none 0 0] 27))
  have hzs := HG.out.lt
  generalize w.alloc (.cells #[.bool true, .slice none 0 0, .slice none 0 0, .slice none 0 0, .slice none 0 0] 27) = Z at *
  go_cut [6] from 15 to 17 (fun s W => s = .int .i64 lf ∧ W = Z)
  case first =>
    have hlf := Hlf.out
    cases more
    · go_wp2_with fail
      go_meet
      case rel => exact ⟨by rw [hlf]; rfl, rfl⟩
    · go_wp2_with fail
      go_meet
      case rel => exact ⟨by rw [hlf]; rfl, rfl⟩
  case rest =>
    obtain ⟨rfl, rfl⟩ := hcut
    have vsr := vsE_rng hl1
    go_wp2_with fail
    go_loopg [6, 7] 13 (fun g s6 s7 wr => ∃ (j : Nat) (A : Option Addr) (c : Nat), j + g = 13 ∧ s7 = .int .i64 j ∧ s6 = .int .i64 (if j < 13 then lf - 20 * (j : Int) else 0) ∧ Hid (Arr wr w.heap.size 27 #[.bool true, .slice A j c, .slice none 0 0, .slice none 0 0, .slice none 0 0]) ∧ Hid (Own wr (w.heap.size + 1) 45 26 A j c (rows ec (eL a (vsE lf) j))) ∧ Hid (Fr w wr))
    case atStart => exact ⟨0, none, 0, by omega, rfl, by simp, HG, keep (Own.nil _ _ _ _), HF⟩
    case round =>
      obtain ⟨j, A, c, hj, rfl, rfl, hM, hO, hW⟩ := hrel
      have hWW := hW.out
      by_cases hlt : j < 13
      · rw [if_pos hlt]
        obtain ⟨L, hL⟩ : ∃ L : Int, lf - 20 * (j : Int) = L := ⟨_, rfl⟩
        rw [hL]
        have p1 : 0 < L := by omega
        have p2 : IntKind.i64.wrap (L - 4) = L - 4 := by rw [IntKind.wrap_i64]; omega
        have bw : IntKind.u8.wrap (97 + (j : Int)) = 97 + (j : Int) := by rw [IntKind.wrap_u8]; omega
        have cl : ∀ o, (wr.alloc o).cell? ⟨w.heap.size, 1, none⟩ = some (.slice A j c) := fun o => (hM.out.alloc o).cell 1
        have hHas : ∀ (o : Obj) (x : RE), Has ((wr.alloc o).alloc (.cells (ec x).toArray 45)) (wr.heap.size + 2) (some ⟨wr.heap.size + 1, 0, none⟩) (ec x) := fun o x => by
          have := arr_has (cs := ec x) _ (Arr.new (wr.alloc o) (ec x).toArray 45)
          simpa using this
        have hHas := keep hHas
        by_cases h12 : j < 12
        · have vx : vsE lf j = 16 := by unfold vsE; rw [if_pos h12]
          have p3 : IntKind.i64.wrap (L - 4 - 16) = L - 4 - 16 := by rw [IntKind.wrap_i64]; omega
          have p4 : 0 < L - 4 - 16 := by omega
          have p5 : ¬ (L - 4 - 16 < 4) := by omega
          have hmin : min 16 (L - 4) = 16 := by omega
          have wx : entJ a (16) j = entJ a (16) j := rfl
          have Vx := keep vx
          have HL := keep hL
          have Hj := keep hj
          have Hlt := keep hlt
          have Hl1 := keep hl1
          have b63 : j + 1 ≤ maxLen := by unfold maxLen; omega
          have b40 : (j + 1) * 40 ≤ 140737488355328 := by omega
          have H12 := keep h12
          clear vx hL hj hlt wx h12
          have tok : Hid (0 < 1) := keep (by decide)
          go_wp2_with (first
            | (clear tok; refine wpList_append_beside (w0 := w) ent_elem ents_under (by decide) rfl (.tmp 46) (.tmp 51) rfl (fr_new (fr_new hWW _) _) rfl ((hM.out.alloc _).alloc _) A j c (rows ec (eL a (vsE lf) j)) rfl ((hO.out.alloc _).alloc _) (wr.heap.size + 2) (some ⟨wr.heap.size + 1, 0, none⟩) 1 1 (ec (entJ a (16) j)) rfl rfl (hHas.out _ _) (ec_one _) b63 b40 ?_; intro A9 c9 w10 ho9 hf9 hm9; have zc : w10.cell? ⟨w.heap.size, 1, none⟩ = some (.slice A j c) := hm9.cell 1; have zf := hm9.free 1)
            | fail)
          go_roundg (gk - 1)
          case measure => have := Hj.out; have := Hlt.out; omega
          case rel =>
            have e1 := Hj.out
            have e2 := Hlt.out
            refine ⟨j + 1, A9, c9, by omega, by go_num, ?_, keep (hm9.set 1 _), keep ?_, keep (hf9.setCell (Nat.le_refl _) _)⟩
            · have e3 := HL.out
              have e5 := H12.out
              have e4 := Hl1.out
              rw [if_pos (show j + 1 < 13 by omega)]
              congr 1
              omega
            · rw [eL_one, Vx.out, rows_append]
              exact own_setCell ho9 _ (Nat.lt_succ_self _) _
        · have hj12 : (j : Int) = 12 := by omega
          have vx : vsE lf j = L - 4 := by unfold vsE; rw [if_neg h12]; omega
          have Hj12 := keep hj12
          have p3 : IntKind.i64.wrap (L - 4 - (L - 4)) = 0 := by rw [IntKind.wrap_i64]; omega
          have hmin : min 16 (L - 4) = L - 4 := by omega
          clear hj12
          have wx : entJ a (L - 4) j = entJ a (L - 4) j := rfl
          have Vx := keep vx
          have HL := keep hL
          have Hj := keep hj
          have Hlt := keep hlt
          have Hl1 := keep hl1
          have b63 : j + 1 ≤ maxLen := by unfold maxLen; omega
          have b40 : (j + 1) * 40 ≤ 140737488355328 := by omega
          have H12 := keep h12
          clear vx hL hj hlt wx h12
          have tok : Hid (0 < 1) := keep (by decide)
          go_wp2_with (first
            | (clear tok; refine wpList_append_beside (w0 := w) ent_elem ents_under (by decide) rfl (.tmp 46) (.tmp 51) rfl (fr_new (fr_new hWW _) _) rfl ((hM.out.alloc _).alloc _) A j c (rows ec (eL a (vsE lf) j)) rfl ((hO.out.alloc _).alloc _) (wr.heap.size + 2) (some ⟨wr.heap.size + 1, 0, none⟩) 1 1 (ec (entJ a (L - 4) j)) rfl rfl (hHas.out _ _) (ec_one _) b63 b40 ?_; intro A9 c9 w10 ho9 hf9 hm9; have zc : w10.cell? ⟨w.heap.size, 1, none⟩ = some (.slice A j c) := hm9.cell 1; have zf := hm9.free 1)
            | fail)
          go_roundg (gk - 1)
          case measure => have := Hj.out; have := Hlt.out; omega
          case rel =>
            have e1 := Hj.out
            have e2 := Hlt.out
            refine ⟨j + 1, A9, c9, by omega, by go_num, ?_, keep (hm9.set 1 _), keep ?_, keep (hf9.setCell (Nat.le_refl _) _)⟩
            · have e3 := HL.out
              have e5 := H12.out
              have e4 := Hl1.out
              rw [if_neg (show ¬ j + 1 < 13 by omega)]
            · rw [eL_one, Vx.out, rows_append]
              exact own_setCell ho9 _ (Nat.lt_succ_self _) _
      · have hj13 : j = 13 := by omega
        subst hj13
        rw [if_neg (by omega)]
        obtain ⟨wo, rfl⟩ : ∃ wo : World, wo = wr := ⟨_, rfl⟩
        have woo := fr_refl wo
        have wi : IntKind.i64.wrap a = a := by rw [IntKind.wrap_i64]; omega
        have cI := cI0 wo
        obtain ⟨lm, hlm, hl2⟩ : ∃ lm : Int, (lm = if more then 206 else 205) ∧ 205 ≤ lm ∧ lm ≤ 206 := by cases more <;> exact ⟨_, rfl, by decide, by decide⟩
        have Hlm := keep hlm
        clear hlm hj hlt cI0
        go_wp2_with fail
        refine cI.mono ?_
        rintro e w1 ⟨D1, d1, D2, d2, rfl, hK, hP, f1⟩
        have tokI : Hid (0 < 1) := keep (by decide)
        have f11 := fr_refl w1
        go_upto_if 61 with (first
          | (clear tokI; refine wpList_store_at (ds := nodeC (.slice D1 ks.length d1) (.slice D2 ps.length d2) (.slice none 0 0)) nod_info rfl (.tmp 10) (.tmp 60) rfl w1.heap.size 0 rfl rfl rfl (nodeC_one _ _ _ _ _ _ _ _ _) (Arr.new w1 zeroNV.cells.toArray 27) (by decide) (splice_all _ _ (Nat.le_of_eq rfl)) ?_; intro V hMV hkV)
          | fail)
        have AV : Hid (Arr V w1.heap.size 27 #[.bool false, .slice none 0 0, .slice D1 ks.length d1, .slice D2 ps.length d2, .slice none 0 0]) := keep hMV
        have F1V := keep (hkV.fr (fr_new f11 _) (Nat.le_refl _))
        have hK1 := keep (hK.out.has)
        have hP1 := keep (hP.out.has)
        have yK := hK.out.cap
        have F1 := keep f1
        have okI : OkN ⟨false, [], ks, ps, mL a (vsM lm) 8⟩ := (okN_inner rfl).2 ⟨rfl, ⟨kok, kpl, kop⟩, mL_ok ha (vsM_rng hl2) (by omega)⟩
        generalize hnk : ks.length = nk at *
        generalize hnpp : ps.length = np at *
        have HNK := keep hnk
        have HNP := keep hnpp
        clear hMV hkV f1 f11 cI hK hP hnk hnpp
        go_cut [6] from 61 to 63 (fun s W => s = .int .i64 lm ∧ W = V)
        case first =>
          have hlm := Hlm.out
          cases more
          · go_wp2_with fail
            go_meet
            case rel => exact ⟨by rw [hlm]; rfl, rfl⟩
          · go_wp2_with fail
            go_meet
            case rel => exact ⟨by rw [hlm]; rfl, rfl⟩
        case rest =>
          obtain ⟨rfl, rfl⟩ := hcut
          obtain ⟨go, rfl⟩ : ∃ go, go = gk := ⟨_, rfl⟩
          go_wp2_with fail
          go_loopg [6, 11] 8 (fun g s6 s11 wr => ∃ (j : Nat) (A : Option Addr) (c : Nat), j + g = 8 ∧ s11 = .int .i64 j ∧ s6 = .int .i64 (if j < 7 then lm - 29 * (j : Int) else if j = 7 then 13 else 0) ∧ Hid (Arr wr w1.heap.size 27 #[.bool false, .slice none 0 0, .slice D1 nk d1, .slice D2 np d2, .slice A j c]) ∧ Hid (Own wr (w1.heap.size + 1) 48 29 A j c (rows mc (mL a (vsM lm) j))) ∧ Hid (Fr w1 wr))
          case atStart => exact ⟨0, none, 0, by omega, rfl, by simp, AV, keep (Own.nil _ _ _ _), F1V⟩
          case round =>
            obtain ⟨j, A2, c2, hj, rfl, rfl, hM2, hO2, hW2⟩ := hrel
            have hWW2 := hW2.out
            by_cases hlt : j < 8
            · obtain ⟨L, hL⟩ : ∃ L : Int, (if j < 7 then lm - 29 * (j : Int) else if j = 7 then 13 else 0) = L := ⟨_, rfl⟩
              rw [hL]
              have bw : IntKind.u8.wrap (97 + (j : Int)) = 97 + (j : Int) := by rw [IntKind.wrap_u8]; omega
              have p1 : 0 < L := by split at hL <;> first | omega | (split at hL <;> omega)
              have p2 : IntKind.i64.wrap (L - 13) = L - 13 := by rw [IntKind.wrap_i64]; split at hL <;> first | omega | (split at hL <;> omega)
              have cl : ∀ o, (wr.alloc o).cell? ⟨w1.heap.size, 4, none⟩ = some (.slice A2 j c2) := fun o => (hM2.out.alloc o).cell 4
              have hHas : ∀ (o : Obj) (x : RM), Has ((wr.alloc o).alloc (.cells (mc x).toArray 48)) (wr.heap.size + 2) (some ⟨wr.heap.size + 1, 0, none⟩) (mc x) := fun o x => by
                have := arr_has (cs := mc x) _ (Arr.new (wr.alloc o) (mc x).toArray 48)
                simpa using this
              have hHas := keep hHas
              have hA2 : blk A2 ≠ some wr.heap.size := fun e => by have := (hO2.out.lt _ e).2; omega
              have hA2 := keep hA2
              have hgm : w1.heap.size ≠ wr.heap.size := by have := hM2.out.lt; omega
              have b63 : j + 1 ≤ maxLen := by unfold maxLen; omega
              have b64 : (j + 1) * 64 ≤ 140737488355328 := by omega
              have Hj := keep hj
              have Hlt := keep hlt
              have Hl2 := keep hl2
              by_cases h6 : j < 6
              · have vx : vsM lm j = 16 := by unfold vsM; rw [if_pos h6]
                rw [if_pos (by omega)] at hL
                have p3 : IntKind.i64.wrap (L - 13 - 16) = L - 13 - 16 := by rw [IntKind.wrap_i64]; omega
                have hmin : min 16 (L - 13) = 16 := by omega
                have q16 : 16 < L - 13 := by omega
                have p4 : 0 < L - 13 - 16 := by omega
                have p5 : ¬ (L - 13 - 16 < 13) := by omega
                have HC := keep (show j < 6 by omega)
                have Vx := keep vx
                have HL := keep hL
                have wx : (msgJ a (16) j).wf := msgJ_wf ha (by omega) (by omega)
                have hfx := fold_at wx
                have hsz := mc_len wx.val.hl
                have hwlt := hM2.out.lt
                clear vx hL hj hlt hl2
                have tok0 : Hid (0 < 1) := keep (by decide)
                have tok1 : Hid (0 < 1) := keep (by decide)
                have tokA : Hid (0 < 1) := keep (by decide)
                go_wp2_with (first
                  | (clear tok0; refine wpList_store_at (ds := mc (msgJ a 0 j)) msg_info rfl (.tmp 12) (.tmp 74) rfl wr.heap.size 0 rfl rfl (msgJ_len a 0 j) (mc_one _) (Arr.new wr (mc zeroM).toArray 48) mz_le (mz_spl a 0 j) ?_; intro Y0 hY0 hk0
                     have hM3 := hk0.other (hM2.out.alloc _) hgm
                     have gY0 := hk0.fr (fr_new hWW2 _) (Nat.le_of_lt hwlt)
                     have hO3 := own_keptAway (hO2.out.alloc _) hk0 hA2.out
                     clear hk0)
                  | (clear tok1; refine wpList_store_at (ds := [.int .i64 (16)]) int_info rfl (.tmp 79) (.tmp 77) rfl wr.heap.size 11 rfl rfl rfl (.cons rfl .nil) hY0 (msgJ_le a (0) j) (msgJ_set a (0) (16) j) ?_; intro Y1 hY1 hk1
                     have hM3 := hk1.other hM3 hgm
                     have gY1 := hk1.fr gY0 (Nat.le_of_lt hwlt)
                     have hO3 := own_keptAway hO3 hk1 hA2.out
                     have cN1 : Y1.cell? ⟨wr.heap.size, 11, none⟩ = some (.int .i64 (16)) := hY1.cell 11
                     have lM1 : (ldS 48 (.pointer (some ⟨wr.heap.size, 0, none⟩))).run Try.prog Y1 = .ok (.agg (mc (msgJ a (16) j)).toArray) Y1 := msgS.ld (mc_len (msgJ_val _ _ _)) hY1
                     have cl1 : Y1.cell? ⟨w1.heap.size, 4, none⟩ = some (.slice A2 j c2) := hM3.cell 4
                     clear hk1)
                  | (clear tokA; refine wpList_append_besides (w0 := w1) msg_elem msgs_under (by decide) rfl (.tmp 101) (.tmp 103) rfl (fr_new gY1 _) rfl (hM3.alloc _) (hY1.alloc _) A2 j c2 (rows mc (mL a (vsM lm) j)) rfl (hO3.alloc _) hA2.out (Y1.heap.size + 1) (some ⟨Y1.heap.size, 0, none⟩) 1 1 (mc (msgJ a (16) j)) rfl (hsz.trans rfl) (arr_has _ (Arr.new Y1 _ _)) (mc_one _) b63 b64 ?_; intro A9 c9 w10 ho9 hf9 hm9 hm10; have zm : (w10.setCell ⟨w1.heap.size, 4, none⟩ (.slice A9 (j + 1) c9)).cell? ⟨wr.heap.size, 11, none⟩ = some (.int .i64 (16)) := (hm10.other ⟨w1.heap.size, 4, none⟩ hgm (.slice A9 (j + 1) c9)).cell 11; have zc : w10.cell? ⟨w1.heap.size, 4, none⟩ = some (.slice A2 j c2) := hm9.cell 4; have zf := hm9.free 4)
                  | fail)
                go_roundg (gk - 1)
                case measure => have := Hj.out; have := Hlt.out; omega
                case rel =>
                  have e1 := Hj.out
                  have e2 := Hlt.out
                  have e3 := HL.out
                  have e4 := Hl2.out
                  refine ⟨j + 1, A9, c9, by omega, by go_num, ?_, keep (hm9.set 4 _), keep ?_, keep (hf9.setCell (Nat.le_refl _) _)⟩
                  · refine congrArg (Value.int .i64) (Eq.symm ?_)
                    have e5 := HC.out
                    rw [if_pos (show j + 1 < 7 by omega)]
                    omega
                  · rw [mL_one, Vx.out, rows_append, rows_sing]
                    exact own_setCell ho9 _ (Nat.lt_succ_self _) _
              · by_cases h7 : j = 6
                · have vx : vsM lm j = L - 26 := by unfold vsM; rw [if_neg h6, if_pos h7]; rw [if_pos (by omega)] at hL; omega
                  rw [if_pos (by omega)] at hL
                  have p3 : IntKind.i64.wrap (L - 13 - 16) = L - 13 - 16 := by rw [IntKind.wrap_i64]; omega
                  have hmin : min 16 (L - 13) = 16 := by omega
                  have q16 : 16 < L - 13 := by omega
                  have p4 : 0 < L - 13 - 16 := by omega
                  have p5 : L - 13 - 16 < 13 := by omega
                  have p6 : IntKind.i64.wrap (3 + (L - 13 - 16)) = L - 26 := by rw [IntKind.wrap_i64]; omega
                  have p7 : IntKind.i64.wrap (L - 13 - (L - 26)) = 13 := by rw [IntKind.wrap_i64]; omega
                  have HC := keep (show j = 6 by omega)
                  clear h7
                  have Vx := keep vx
                  have HL := keep hL
                  have wx : (msgJ a (L - 26) j).wf := msgJ_wf ha (by omega) (by omega)
                  have hfx := fold_at wx
                  have hsz := mc_len wx.val.hl
                  have hwlt := hM2.out.lt
                  clear vx hL hj hlt hl2
                  have tok0 : Hid (0 < 1) := keep (by decide)
                  have tok1 : Hid (0 < 1) := keep (by decide)
                  have tok2 : Hid (0 < 1) := keep (by decide)
                  have tokA : Hid (0 < 1) := keep (by decide)
                  go_wp2_with (first
                    | (clear tok0; refine wpList_store_at (ds := mc (msgJ a 0 j)) msg_info rfl (.tmp 12) (.tmp 74) rfl wr.heap.size 0 rfl rfl (msgJ_len a 0 j) (mc_one _) (Arr.new wr (mc zeroM).toArray 48) mz_le (mz_spl a 0 j) ?_; intro Y0 hY0 hk0
                       have hM3 := hk0.other (hM2.out.alloc _) hgm
                       have gY0 := hk0.fr (fr_new hWW2 _) (Nat.le_of_lt hwlt)
                       have hO3 := own_keptAway (hO2.out.alloc _) hk0 hA2.out
                       clear hk0)
                    | (clear tok1; refine wpList_store_at (ds := [.int .i64 (16)]) int_info rfl (.tmp 79) (.tmp 77) rfl wr.heap.size 11 rfl rfl rfl (.cons rfl .nil) hY0 (msgJ_le a (0) j) (msgJ_set a (0) (16) j) ?_; intro Y1 hY1 hk1
                       have hM3 := hk1.other hM3 hgm
                       have gY1 := hk1.fr gY0 (Nat.le_of_lt hwlt)
                       have hO3 := own_keptAway hO3 hk1 hA2.out
                       have cN1 : Y1.cell? ⟨wr.heap.size, 11, none⟩ = some (.int .i64 (16)) := hY1.cell 11
                       have lM1 : (ldS 48 (.pointer (some ⟨wr.heap.size, 0, none⟩))).run Try.prog Y1 = .ok (.agg (mc (msgJ a (16) j)).toArray) Y1 := msgS.ld (mc_len (msgJ_val _ _ _)) hY1
                       have cl1 : Y1.cell? ⟨w1.heap.size, 4, none⟩ = some (.slice A2 j c2) := hM3.cell 4
                       clear hk1)
                    | (clear tok2; refine wpList_store_at (ds := [.int .i64 (L - 26)]) int_info rfl (.tmp 99) (.tmp 97) rfl wr.heap.size 11 rfl rfl rfl (.cons rfl .nil) hY1 (msgJ_le a (16) j) (msgJ_set a (16) (L - 26) j) ?_; intro Y2 hY2 hk2
                       have hM3 := hk2.other hM3 hgm
                       have gY2 := hk2.fr gY1 (Nat.le_of_lt hwlt)
                       have hO3 := own_keptAway hO3 hk2 hA2.out
                       have cN2 : Y2.cell? ⟨wr.heap.size, 11, none⟩ = some (.int .i64 (L - 26)) := hY2.cell 11
                       have lM2 : (ldS 48 (.pointer (some ⟨wr.heap.size, 0, none⟩))).run Try.prog Y2 = .ok (.agg (mc (msgJ a (L - 26) j)).toArray) Y2 := msgS.ld (mc_len (msgJ_val _ _ _)) hY2
                       have cl2 : Y2.cell? ⟨w1.heap.size, 4, none⟩ = some (.slice A2 j c2) := hM3.cell 4
                       clear hk2)
                    | (clear tokA; refine wpList_append_besides (w0 := w1) msg_elem msgs_under (by decide) rfl (.tmp 101) (.tmp 103) rfl (fr_new gY2 _) rfl (hM3.alloc _) (hY2.alloc _) A2 j c2 (rows mc (mL a (vsM lm) j)) rfl (hO3.alloc _) hA2.out (Y2.heap.size + 1) (some ⟨Y2.heap.size, 0, none⟩) 1 1 (mc (msgJ a (L - 26) j)) rfl (hsz.trans rfl) (arr_has _ (Arr.new Y2 _ _)) (mc_one _) b63 b64 ?_; intro A9 c9 w10 ho9 hf9 hm9 hm10; have zm : (w10.setCell ⟨w1.heap.size, 4, none⟩ (.slice A9 (j + 1) c9)).cell? ⟨wr.heap.size, 11, none⟩ = some (.int .i64 (L - 26)) := (hm10.other ⟨w1.heap.size, 4, none⟩ hgm (.slice A9 (j + 1) c9)).cell 11; have zc : w10.cell? ⟨w1.heap.size, 4, none⟩ = some (.slice A2 j c2) := hm9.cell 4; have zf := hm9.free 4)
                    | fail)
                  go_roundg (gk - 1)
                  case measure => have := Hj.out; have := Hlt.out; omega
                  case rel =>
                    have e1 := Hj.out
                    have e2 := Hlt.out
                    have e3 := HL.out
                    have e4 := Hl2.out
                    refine ⟨j + 1, A9, c9, by omega, by go_num, ?_, keep (hm9.set 4 _), keep ?_, keep (hf9.setCell (Nat.le_refl _) _)⟩
                    · refine congrArg (Value.int .i64) (Eq.symm ?_)
                      have e5 := HC.out
                      rw [if_neg (show ¬ j + 1 < 7 by omega), if_pos (show j + 1 = 7 by omega)]
                    · rw [mL_one, Vx.out, rows_append, rows_sing]
                      exact own_setCell ho9 _ (Nat.lt_succ_self _) _
                · have h77 : j = 7 := by omega
                  have vx0 : vsM lm j = 0 := by unfold vsM; rw [if_neg h6, if_neg h7]
                  rw [if_neg (by omega), if_pos h77] at hL
                  have vx : vsM lm j = L - 13 := by omega
                  clear vx0
                  have p3 : IntKind.i64.wrap (L - 13 - (L - 13)) = 0 := by rw [IntKind.wrap_i64]; omega
                  have hmin : min 16 (L - 13) = L - 13 := by omega
                  have HC := keep (show j = 7 by omega)
                  clear h77
                  have Vx := keep vx
                  have HL := keep hL
                  have wx : (msgJ a (L - 13) j).wf := msgJ_wf ha (by omega) (by omega)
                  have hfx := fold_at wx
                  have hsz := mc_len wx.val.hl
                  have hwlt := hM2.out.lt
                  clear vx hL hj hlt hl2
                  have tok0 : Hid (0 < 1) := keep (by decide)
                  have tok1 : Hid (0 < 1) := keep (by decide)
                  have tokA : Hid (0 < 1) := keep (by decide)
                  go_wp2_with (first
                    | (clear tok0; refine wpList_store_at (ds := mc (msgJ a 0 j)) msg_info rfl (.tmp 12) (.tmp 74) rfl wr.heap.size 0 rfl rfl (msgJ_len a 0 j) (mc_one _) (Arr.new wr (mc zeroM).toArray 48) mz_le (mz_spl a 0 j) ?_; intro Y0 hY0 hk0
                       have hM3 := hk0.other (hM2.out.alloc _) hgm
                       have gY0 := hk0.fr (fr_new hWW2 _) (Nat.le_of_lt hwlt)
                       have hO3 := own_keptAway (hO2.out.alloc _) hk0 hA2.out
                       clear hk0)
                    | (clear tok1; refine wpList_store_at (ds := [.int .i64 (L - 13)]) int_info rfl (.tmp 79) (.tmp 77) rfl wr.heap.size 11 rfl rfl rfl (.cons rfl .nil) hY0 (msgJ_le a (0) j) (msgJ_set a (0) (L - 13) j) ?_; intro Y1 hY1 hk1
                       have hM3 := hk1.other hM3 hgm
                       have gY1 := hk1.fr gY0 (Nat.le_of_lt hwlt)
                       have hO3 := own_keptAway hO3 hk1 hA2.out
                       have cN1 : Y1.cell? ⟨wr.heap.size, 11, none⟩ = some (.int .i64 (L - 13)) := hY1.cell 11
                       have lM1 : (ldS 48 (.pointer (some ⟨wr.heap.size, 0, none⟩))).run Try.prog Y1 = .ok (.agg (mc (msgJ a (L - 13) j)).toArray) Y1 := msgS.ld (mc_len (msgJ_val _ _ _)) hY1
                       have cl1 : Y1.cell? ⟨w1.heap.size, 4, none⟩ = some (.slice A2 j c2) := hM3.cell 4
                       clear hk1)
                    | (clear tokA; refine wpList_append_besides (w0 := w1) msg_elem msgs_under (by decide) rfl (.tmp 101) (.tmp 103) rfl (fr_new gY1 _) rfl (hM3.alloc _) (hY1.alloc _) A2 j c2 (rows mc (mL a (vsM lm) j)) rfl (hO3.alloc _) hA2.out (Y1.heap.size + 1) (some ⟨Y1.heap.size, 0, none⟩) 1 1 (mc (msgJ a (L - 13) j)) rfl (hsz.trans rfl) (arr_has _ (Arr.new Y1 _ _)) (mc_one _) b63 b64 ?_; intro A9 c9 w10 ho9 hf9 hm9 hm10; have zm : (w10.setCell ⟨w1.heap.size, 4, none⟩ (.slice A9 (j + 1) c9)).cell? ⟨wr.heap.size, 11, none⟩ = some (.int .i64 (L - 13)) := (hm10.other ⟨w1.heap.size, 4, none⟩ hgm (.slice A9 (j + 1) c9)).cell 11; have zc : w10.cell? ⟨w1.heap.size, 4, none⟩ = some (.slice A2 j c2) := hm9.cell 4; have zf := hm9.free 4)
                    | fail)
                  go_roundg (gk - 1)
                  case measure => have := Hj.out; have := Hlt.out; omega
                  case rel =>
                    have e1 := Hj.out
                    have e2 := Hlt.out
                    have e3 := HL.out
                    have e4 := Hl2.out
                    refine ⟨j + 1, A9, c9, by omega, by go_num, ?_, keep (hm9.set 4 _), keep ?_, keep (hf9.setCell (Nat.le_refl _) _)⟩
                    · refine congrArg (Value.int .i64) (Eq.symm ?_)
                      have e5 := HC.out
                      rw [if_neg (show ¬ j + 1 < 7 by omega), if_neg (show ¬ j + 1 = 7 by omega)]
                    · rw [mL_one, Vx.out, rows_append, rows_sing]
                      exact own_setCell ho9 _ (Nat.lt_succ_self _) _
            · have hj8 : j = 8 := by omega
              subst hj8
              rw [if_neg (by omega), if_neg (by omega)]
              have FW := fr_step F1.out hWW2
              have aL := hM.out.below FW hM.out.lt
              have aI := hM2.out
              have hbE := eL_byt a lf
              have hbM := mL_byt (a := a) hl2
              have okE9 : OkE (eL a (vsE lf) 13) := eL_ok ha vsr (by omega)
              have okL9 : OkL (mL a (vsM lm) 8) := mL_ok ha (vsM_rng hl2) (by omega)
              have lE := eL_len a (vsE lf) 13
              have lM := mL_len a (vsM lm) 8
              have rE := (hO.out.has.fr (Nat.le_refl _) FW).mono FW.size
              have rM := hO2.out.has
              have cE := hO.out.cap
              have cM := hO2.out.cap
              have lfE : (!more) = true ↔ lf ≤ 248 := by rw [Hlf.out]; cases more <;> decide
              have lmE : (!more) = true ↔ lm ≤ 205 := by rw [Hlm.out]; cases more <;> decide
              generalize eL a (vsE lf) 13 = eRow at *
              generalize mL a (vsM lm) 8 = mRow at *
              have k1 : NH wr wr.heap.size ⟨true, A, 13, c, none, 0, 0, none, 0, 0, none, 0, 0⟩ ⟨true, eRow, [], [], []⟩ := ⟨rfl, Nat.le_refl _, rE, lE, by simp only; omega, okE9.wfe, Has.nil, rfl, Nat.le_refl _, by simp, Has.nil, rfl, by simp, by intro m hm; simp at hm, Has.nil, rfl, Nat.le_refl _, by simp, by intro m hm; simp at hm⟩
              have k2 : NH wr wr.heap.size ⟨false, none, 0, 0, D1, nk, d1, D2, np, d2, A2, 8, c2⟩ ⟨false, [], ks, ps, mRow⟩ := ⟨rfl, Nat.le_refl _, Has.nil, rfl, by simp, by intro m hm; simp at hm, (hK1.out.fr (Nat.le_refl _) hWW2).mono hWW2.size, HNK.out, yK, by have := kok.2.1; have := HNK.out; simp only; omega, (hP1.out.fr (Nat.le_refl _) hWW2).mono hWW2.size, HNP.out, by have h1 := kok.2.1; have h2 := HNP.out; have h3 := HNK.out; have h4 := kpl; simp only; omega, kop.wfk, rM, lM, cM, by simp only; omega, fun m hm => (okL9.good m hm).1⟩
              have ok1 : OkN ⟨true, eRow, [], [], []⟩ := (okN_leaf rfl).2 ⟨rfl, rfl, rfl, okE9⟩
              have c1 := fun W (h : Fr wr W) => q_ok (k1.fr h) ok1
              have c2' := fun W (h : Fr wr W) => q_ok (k2.fr h) okI
              have c3 := fun W (h : Fr wr W) => q_fits_eq (k1.fr h) (b := !more) (by rw [lfE, ← hbE]; exact ⟨fun h => ⟨ok1, h⟩, fun h => h.2⟩)
              have c4 := fun W (h : Fr wr W) => q_fits_eq (k2.fr h) (b := !more) (by rw [lmE, ← hbM]; exact ⟨fun h => ⟨okI, h⟩, fun h => h.2⟩)
              have c5 := fun W (h : Fr wr W) => q_bytes (k1.fr h) ok1.sm
              have c6 := fun W (h : Fr wr W) => q_rbytes (k1.fr h) ok1.sm
              have c7 := fun W (_ : Fr wr W) => awake9 W
              generalize bytN ⟨true, eRow, [], [], []⟩ = bb at *
              unfold nv NV.cells at c1 c2' c3 c4 c5 c6
              have m1 : ∀ W, Fr wr W → (ldS 27 (.pointer (some ⟨w.heap.size, 0, none⟩))).run Try.prog W = .ok (.agg #[.bool true, .slice A 13 c, .slice none 0 0, .slice none 0 0, .slice none 0 0]) W := fun W h => nodS.ld (cs := [.bool true, .slice A 13 c, .slice none 0 0, .slice none 0 0, .slice none 0 0]) rfl (aL.below h aL.lt)
              have m2 : ∀ W, Fr wr W → (ldS 27 (.pointer (some ⟨w1.heap.size, 0, none⟩))).run Try.prog W = .ok (.agg #[.bool false, .slice none 0 0, .slice D1 nk d1, .slice D2 np d2, .slice A2 8 c2]) W := fun W h => nodS.ld (cs := [.bool false, .slice none 0 0, .slice D1 nk d1, .slice D2 np d2, .slice A2 8 c2]) rfl (aI.below h aI.lt)
              have eM : ((!more) == (!more)) = true := by simp
              have top := keep (fr_step hW.out FW)
              have hD := fr_drew (fr_refl wr)
              clear aL aI hbE hbM okE9 okL9 lE lM rE rM cE cM lfE lmE k1 k2 ok1 okI FW hM hM2 hO hO2 hlt hK1 hP1 Hlf Hlm hj
              go_wp2_with fail
              refine wp_region_noPanic ?_
              refine wp_region_held_drew (S := fun w' => Fr wr w') (by kernel_rfl) hD (fun hHeld => ?_)
              change wpAnyH _ _ _ _ _ _ _ _ _
              refine wpAnyH_take (i := 0) (v := ?_) rfl (by kernel_rfl) (by kernel_rfl) (by kernel_rfl) (fun _ _ _ h => h) (Or.inl ⟨by rfl, ?_⟩) (by assumption) ?_
              rotate_left
              · intro w' hSw
                try dsimp only at hSw
                go_simp
                try with_reducible rfl
              try simp only [List.getElem_toArray, List.getElem_cons_zero, Act.put, List.setIfInBounds_toArray, List.set_cons_zero, List.set_cons_succ]
              refine wpAnyH_ready (rs := [1]) (by kernel_rfl) (by simp) ?_
              refine AllReadyH.cons rfl (fun K hK0 => ?_) AllReadyH.nil
              go_simp
              refine (c1 _ (by assumption)).mono ?_
              rintro e z1 ⟨rfl, zz1⟩
              go_simp
              refine hK0.out _ _ (fr_step (by assumption) zz1) (fun _ => ?_)
              clear hK0 K
              try simp only [List.getElem_toArray, List.getElem_cons_succ, List.getElem_cons_zero, Act.put, List.setIfInBounds_toArray, List.set_cons_zero, List.set_cons_succ]
              refine wpAnyH_take (i := 2) (v := .bool true) rfl (by kernel_rfl) (by kernel_rfl) (by kernel_rfl) (fun _ _ _ h => h) (Or.inl ⟨by rfl, ?_⟩) (by assumption) ?_
              · intro w' hSw
                try dsimp only at hSw
                try go_simp
                all_goals first | done | with_reducible rfl | omega | assumption | (simp; omega)
              try simp only [List.getElem_toArray, List.getElem_cons_succ, List.getElem_cons_zero, Act.put, List.setIfInBounds_toArray, List.set_cons_zero, List.set_cons_succ]
              refine wpAnyH_take (i := 3) (v := ?_) rfl (by kernel_rfl) (by kernel_rfl) (by kernel_rfl) (fun _ _ _ h => h) (Or.inl ⟨by rfl, ?_⟩) (by assumption) ?_
              rotate_left
              · intro w' hSw
                try dsimp only at hSw
                go_simp
                try with_reducible rfl
              try simp only [List.getElem_toArray, List.getElem_cons_succ, List.getElem_cons_zero, Act.put, List.setIfInBounds_toArray, List.set_cons_zero, List.set_cons_succ]
              refine wpAnyH_ready (rs := [4]) (by kernel_rfl) (by simp) ?_
              refine AllReadyH.cons rfl (fun K hK0 => ?_) AllReadyH.nil
              go_simp
              refine (c2' _ (by assumption)).mono ?_
              rintro e z2 ⟨rfl, zz2⟩
              go_simp
              refine hK0.out _ _ (fr_step (by assumption) zz2) (fun _ => ?_)
              clear hK0 K
              try simp only [List.getElem_toArray, List.getElem_cons_succ, List.getElem_cons_zero, Act.put, List.setIfInBounds_toArray, List.set_cons_zero, List.set_cons_succ]
              refine wpAnyH_take (i := 5) (v := .bool true) rfl (by kernel_rfl) (by kernel_rfl) (by kernel_rfl) (fun _ _ _ h => h) (Or.inl ⟨by rfl, ?_⟩) (by assumption) ?_
              · intro w' hSw
                try dsimp only at hSw
                try go_simp
                all_goals first | done | with_reducible rfl | omega | assumption | (simp; omega)
              try simp only [List.getElem_toArray, List.getElem_cons_succ, List.getElem_cons_zero, Act.put, List.setIfInBounds_toArray, List.set_cons_zero, List.set_cons_succ]
              refine wpAnyH_take (i := 6) (v := .bool true) rfl (by kernel_rfl) (by kernel_rfl) (by kernel_rfl) (fun _ _ _ h => h) (Or.inl ⟨by rfl, ?_⟩) (by assumption) ?_
              · intro w' hSw
                try dsimp only at hSw
                try go_simp
                all_goals first | done | with_reducible rfl | omega | assumption | (simp; omega)
              try simp only [List.getElem_toArray, List.getElem_cons_succ, List.getElem_cons_zero, Act.put, List.setIfInBounds_toArray, List.set_cons_zero, List.set_cons_succ]
              refine wpAnyH_take (i := 7) (v := ?_) rfl (by kernel_rfl) (by kernel_rfl) (by kernel_rfl) (fun _ _ _ h => h) (Or.inl ⟨by rfl, ?_⟩) (by assumption) ?_
              rotate_left
              · intro w' hSw
                try dsimp only at hSw
                go_simp
                try with_reducible rfl
              try simp only [List.getElem_toArray, List.getElem_cons_succ, List.getElem_cons_zero, Act.put, List.setIfInBounds_toArray, List.set_cons_zero, List.set_cons_succ]
              refine wpAnyH_take (i := 9) (v := ?_) rfl (by kernel_rfl) (by kernel_rfl) (by kernel_rfl) (fun _ _ _ h => h) (Or.inl ⟨by rfl, ?_⟩) (by assumption) ?_
              rotate_left
              · intro w' hSw
                try dsimp only at hSw
                go_simp
                try with_reducible rfl
              try simp only [List.getElem_toArray, List.getElem_cons_succ, List.getElem_cons_zero, Act.put, List.setIfInBounds_toArray, List.set_cons_zero, List.set_cons_succ]
              refine wpAnyH_take (i := 10) (v := ?_) rfl (by kernel_rfl) (by kernel_rfl) (by kernel_rfl) (fun _ _ _ h => h) (Or.inl ⟨by rfl, ?_⟩) (by assumption) ?_
              rotate_left
              · intro w' hSw
                try dsimp only at hSw
                go_simp
                try with_reducible rfl
              try simp only [List.getElem_toArray, List.getElem_cons_succ, List.getElem_cons_zero, Act.put, List.setIfInBounds_toArray, List.set_cons_zero, List.set_cons_succ]
              refine wpAnyH_ready (rs := [8]) (by kernel_rfl) (by simp) ?_
              refine AllReadyH.cons rfl (fun K hK0 => ?_) AllReadyH.nil
              go_simp
              refine (c3 _ (by assumption)).mono ?_
              rintro e z3 ⟨rfl, zz3⟩
              go_simp
              refine hK0.out _ _ (fr_step (by assumption) zz3) (fun _ => ?_)
              clear hK0 K
              try simp only [List.getElem_toArray, List.getElem_cons_succ, List.getElem_cons_zero, Act.put, List.setIfInBounds_toArray, List.set_cons_zero, List.set_cons_succ]
              refine wpAnyH_take (i := 11) (v := .bool true) rfl (by kernel_rfl) (by kernel_rfl) (by kernel_rfl) (fun _ _ _ h => h) (Or.inl ⟨by rfl, ?_⟩) (by assumption) ?_
              · intro w' hSw
                try dsimp only at hSw
                try go_simp
                all_goals first | done | with_reducible rfl | omega | assumption | (simp; omega)
              try simp only [List.getElem_toArray, List.getElem_cons_succ, List.getElem_cons_zero, Act.put, List.setIfInBounds_toArray, List.set_cons_zero, List.set_cons_succ]
              refine wpAnyH_take (i := 12) (v := .bool true) rfl (by kernel_rfl) (by kernel_rfl) (by kernel_rfl) (fun _ _ _ h => h) (Or.inl ⟨by rfl, ?_⟩) (by assumption) ?_
              · intro w' hSw
                try dsimp only at hSw
                try go_simp
                all_goals first | done | with_reducible rfl | omega | assumption | (simp; omega)
              try simp only [List.getElem_toArray, List.getElem_cons_succ, List.getElem_cons_zero, Act.put, List.setIfInBounds_toArray, List.set_cons_zero, List.set_cons_succ]
              refine wpAnyH_take (i := 13) (v := .bool true) rfl (by kernel_rfl) (by kernel_rfl) (by kernel_rfl) (fun _ _ _ h => h) (Or.inl ⟨by rfl, ?_⟩) (by assumption) ?_
              · intro w' hSw
                try dsimp only at hSw
                try go_simp
                all_goals first | done | with_reducible rfl | omega | assumption | (simp; omega)
              try simp only [List.getElem_toArray, List.getElem_cons_succ, List.getElem_cons_zero, Act.put, List.setIfInBounds_toArray, List.set_cons_zero, List.set_cons_succ]
              refine wpAnyH_take (i := 14) (v := ?_) rfl (by kernel_rfl) (by kernel_rfl) (by kernel_rfl) (fun _ _ _ h => h) (Or.inl ⟨by rfl, ?_⟩) (by assumption) ?_
              rotate_left
              · intro w' hSw
                try dsimp only at hSw
                go_simp
                try with_reducible rfl
              try simp only [List.getElem_toArray, List.getElem_cons_succ, List.getElem_cons_zero, Act.put, List.setIfInBounds_toArray, List.set_cons_zero, List.set_cons_succ]
              refine wpAnyH_take (i := 16) (v := ?_) rfl (by kernel_rfl) (by kernel_rfl) (by kernel_rfl) (fun _ _ _ h => h) (Or.inl ⟨by rfl, ?_⟩) (by assumption) ?_
              rotate_left
              · intro w' hSw
                try dsimp only at hSw
                go_simp
                try with_reducible rfl
              try simp only [List.getElem_toArray, List.getElem_cons_succ, List.getElem_cons_zero, Act.put, List.setIfInBounds_toArray, List.set_cons_zero, List.set_cons_succ]
              refine wpAnyH_take (i := 17) (v := ?_) rfl (by kernel_rfl) (by kernel_rfl) (by kernel_rfl) (fun _ _ _ h => h) (Or.inl ⟨by rfl, ?_⟩) (by assumption) ?_
              rotate_left
              · intro w' hSw
                try dsimp only at hSw
                go_simp
                try with_reducible rfl
              try simp only [List.getElem_toArray, List.getElem_cons_succ, List.getElem_cons_zero, Act.put, List.setIfInBounds_toArray, List.set_cons_zero, List.set_cons_succ]
              refine wpAnyH_ready (rs := [15]) (by kernel_rfl) (by simp) ?_
              refine AllReadyH.cons rfl (fun K hK0 => ?_) AllReadyH.nil
              go_simp
              refine (c4 _ (by assumption)).mono ?_
              rintro e z4 ⟨rfl, zz4⟩
              go_simp
              refine hK0.out _ _ (fr_step (by assumption) zz4) (fun _ => ?_)
              clear hK0 K
              try simp only [List.getElem_toArray, List.getElem_cons_succ, List.getElem_cons_zero, Act.put, List.setIfInBounds_toArray, List.set_cons_zero, List.set_cons_succ]
              refine wpAnyH_take (i := 18) (v := .bool true) rfl (by kernel_rfl) (by kernel_rfl) (by kernel_rfl) (fun _ _ _ h => h) (Or.inl ⟨by rfl, ?_⟩) (by assumption) ?_
              · intro w' hSw
                try dsimp only at hSw
                try go_simp
                all_goals first | done | with_reducible rfl | omega | assumption | (simp; omega)
              try simp only [List.getElem_toArray, List.getElem_cons_succ, List.getElem_cons_zero, Act.put, List.setIfInBounds_toArray, List.set_cons_zero, List.set_cons_succ]
              refine wpAnyH_take (i := 19) (v := .bool true) rfl (by kernel_rfl) (by kernel_rfl) (by kernel_rfl) (fun _ _ _ h => h) (Or.inl ⟨by rfl, ?_⟩) (by assumption) ?_
              · intro w' hSw
                try dsimp only at hSw
                try go_simp
                all_goals first | done | with_reducible rfl | omega | assumption | (simp; omega)
              try simp only [List.getElem_toArray, List.getElem_cons_succ, List.getElem_cons_zero, Act.put, List.setIfInBounds_toArray, List.set_cons_zero, List.set_cons_succ]
              refine wpAnyH_take (i := 20) (v := .bool true) rfl (by kernel_rfl) (by kernel_rfl) (by kernel_rfl) (fun _ _ _ h => h) (Or.inl ⟨by rfl, ?_⟩) (by assumption) ?_
              · intro w' hSw
                try dsimp only at hSw
                try go_simp
                all_goals first | done | with_reducible rfl | omega | assumption | (simp; omega)
              try simp only [List.getElem_toArray, List.getElem_cons_succ, List.getElem_cons_zero, Act.put, List.setIfInBounds_toArray, List.set_cons_zero, List.set_cons_succ]
              refine wpAnyH_take (i := 21) (v := ?_) rfl (by kernel_rfl) (by kernel_rfl) (by kernel_rfl) (fun _ _ _ h => h) (Or.inl ⟨by rfl, ?_⟩) (by assumption) ?_
              rotate_left
              · intro w' hSw
                try dsimp only at hSw
                go_simp
                try with_reducible rfl
              try simp only [List.getElem_toArray, List.getElem_cons_succ, List.getElem_cons_zero, Act.put, List.setIfInBounds_toArray, List.set_cons_zero, List.set_cons_succ]
              refine wpAnyH_take (i := 23) (v := ?_) rfl (by kernel_rfl) (by kernel_rfl) (by kernel_rfl) (fun _ _ _ h => h) (Or.inl ⟨by rfl, ?_⟩) (by assumption) ?_
              rotate_left
              · intro w' hSw
                try dsimp only at hSw
                go_simp
                try with_reducible rfl
              try simp only [List.getElem_toArray, List.getElem_cons_succ, List.getElem_cons_zero, Act.put, List.setIfInBounds_toArray, List.set_cons_zero, List.set_cons_succ]
              refine wpAnyH_ready (rs := [22]) (by kernel_rfl) (by simp) ?_
              refine AllReadyH.cons rfl (fun K hK0 => ?_) AllReadyH.nil
              go_simp
              refine (c5 _ (by assumption)).mono ?_
              rintro e z5 ⟨rfl, zz5⟩
              go_simp
              refine hK0.out _ _ (fr_step (by assumption) zz5) (fun _ => ?_)
              clear hK0 K
              try simp only [List.getElem_toArray, List.getElem_cons_succ, List.getElem_cons_zero, Act.put, List.setIfInBounds_toArray, List.set_cons_zero, List.set_cons_succ]
              refine wpAnyH_ready (rs := [24]) (by kernel_rfl) (by simp) ?_
              refine AllReadyH.cons rfl (fun K hK0 => ?_) AllReadyH.nil
              go_simp
              refine (c6 _ (by assumption)).mono ?_
              rintro e z6 ⟨rfl, zz6⟩
              go_simp
              refine hK0.out _ _ (fr_step (by assumption) zz6) (fun _ => ?_)
              clear hK0 K
              try simp only [List.getElem_toArray, List.getElem_cons_succ, List.getElem_cons_zero, Act.put, List.setIfInBounds_toArray, List.set_cons_zero, List.set_cons_succ]
              refine wpAnyH_take (i := 25) (v := .bool true) rfl (by kernel_rfl) (by kernel_rfl) (by kernel_rfl) (fun _ _ _ h => h) (Or.inl ⟨by rfl, ?_⟩) (by assumption) ?_
              · intro w' hSw
                try dsimp only at hSw
                try go_simp
                all_goals first | done | with_reducible rfl | omega | assumption | (simp; omega)
              try simp only [List.getElem_toArray, List.getElem_cons_succ, List.getElem_cons_zero, Act.put, List.setIfInBounds_toArray, List.set_cons_zero, List.set_cons_succ]
              refine wpAnyH_take (i := 26) (v := .bool true) rfl (by kernel_rfl) (by kernel_rfl) (by kernel_rfl) (fun _ _ _ h => h) (Or.inl ⟨by rfl, ?_⟩) (by assumption) ?_
              · intro w' hSw
                try dsimp only at hSw
                try go_simp
                all_goals first | done | with_reducible rfl | omega | assumption | (simp; omega)
              try simp only [List.getElem_toArray, List.getElem_cons_succ, List.getElem_cons_zero, Act.put, List.setIfInBounds_toArray, List.set_cons_zero, List.set_cons_succ]
              refine wpAnyH_take (i := 27) (v := .bool true) rfl (by kernel_rfl) (by kernel_rfl) (by kernel_rfl) (fun _ _ _ h => h) (Or.inl ⟨by rfl, ?_⟩) (by assumption) ?_
              · intro w' hSw
                try dsimp only at hSw
                try go_simp
                all_goals first | done | with_reducible rfl | omega | assumption | (simp; omega)
              try simp only [List.getElem_toArray, List.getElem_cons_succ, List.getElem_cons_zero, Act.put, List.setIfInBounds_toArray, List.set_cons_zero, List.set_cons_succ]
              refine wpAnyH_ready (rs := [28]) (by kernel_rfl) (by simp) ?_
              refine AllReadyH.cons rfl (fun K hK0 => ?_) AllReadyH.nil
              go_simp
              refine (c7 _ (by assumption)).mono ?_
              rintro e z7 ⟨rfl, zz7⟩
              go_simp
              refine hK0.out _ _ (fr_step (by assumption) zz7) (fun _ => ?_)
              clear hK0 K
              try simp only [List.getElem_toArray, List.getElem_cons_succ, List.getElem_cons_zero, Act.put, List.setIfInBounds_toArray, List.set_cons_zero, List.set_cons_succ]
              refine wpAnyH_take (i := 29) (v := .bool true) rfl (by kernel_rfl) (by kernel_rfl) (by kernel_rfl) (fun _ _ _ h => h) (Or.inl ⟨by rfl, ?_⟩) (by assumption) ?_
              · intro w' hSw
                try dsimp only at hSw
                try go_simp
                all_goals first | done | with_reducible rfl | omega | assumption | (simp; omega)
              try simp only [List.getElem_toArray, List.getElem_cons_succ, List.getElem_cons_zero, Act.put, List.setIfInBounds_toArray, List.set_cons_zero, List.set_cons_succ]
              refine wpAnyH_take (i := 30) (v := ?_) rfl (by kernel_rfl) (by kernel_rfl) (by kernel_rfl) (fun _ _ _ h => h) (Or.inl ⟨by rfl, ?_⟩) (by assumption) ?_
              rotate_left
              · intro w' hSw
                try dsimp only at hSw
                go_simp
                try with_reducible rfl
              try simp only [List.getElem_toArray, List.getElem_cons_succ, List.getElem_cons_zero, Act.put, List.setIfInBounds_toArray, List.set_cons_zero, List.set_cons_succ]
              refine wpAnyH_done (by kernel_rfl) ?_ _
              refine NoPanic.normal ?_
              go_wp2_with fail
              go_ret
              exact ⟨rfl, fr_step top.out (by assumption)⟩
end Go.Proofs.Ytcdcaanmmbopbaa
