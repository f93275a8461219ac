/- StorePlays, walked. -/
import Derived.Test.YtliglcaakhfahaaStPf
namespace Go.Proofs.Ytliglcaakhfahaa
set_option linter.unusedVariables false
set_option linter.unusedSimpArgs false
set_option maxRecDepth 100000
open Go.RowKit
attribute [local go_sem ↓] step_ld
set_option maxHeartbeats 8000000 in
theorem plays_core {w : World} {n : Int} (hn : Is64 n) {A : Option Addr} {m c : Nat} {l : List RStep} (hl : Has w w.heap.size A (rows stepC l)) (hm : l.length = m) (hmx : m ≤ maxLen) (hw : ∀ s ∈ l, s.wf) :
    Calls Try.prog 3 #[.int .i64 n, .slice A m c] w fun e w' => e = .returned (.bool true) ∧ Below w.heap.size w w' := by
  by_cases hf : n < 1 ∨ 256 < n ∨ 80 < m
  · exact plays_few hn hmx hf
  obtain ⟨k, rfl, hk1, hk2⟩ : ∃ k : Nat, n = k ∧ 1 ≤ k ∧ k ≤ 256 := ⟨n.toNat, by omega, by omega, by omega⟩
  have c1 := new_yes w k hk1 hk2
  have c2 := fun W => rnew_yes W k hk1 hk2
  have h80 : ¬ 80 < m := by omega
  clear hf hmx
  have HL := keep hl
  have HM := keep hm
  have HW := keep hw
  clear hl hm hw hn
  go_enter Try.func3, Try.ntmps3
  go_wp2_with fail
  refine c1.mono ?_
  rintro e w1 ⟨g, q, rfl, h1⟩
  go_wp2_with fail
  refine (c2 w1).mono ?_
  rintro e w2 ⟨r, gi, gb, rfl, h2⟩
  have P0 : Hid (PIn w w2 k g q r gi gb (newS k)) := by
    have hg := h1.out.1.box.lt
    have hq := h1.out.1.row.lt
    have hs := h1.out.2.1.size
    exact keep ⟨h1.out.1.fr h2.out.2, h2.out.1.weak fun i _ hi => ⟨by omega, by omega, by omega⟩, by simp [newS], h1.out.2.2, fr_step h1.out.2.1 h2.out.2⟩
  clear h1 h2 c1 c2
  go_wp2_with fail
  go_loopg [5, 9] m (fun g' s5 s9 wr => ∃ (j g q : Nat) (L : List Slot), j + g' = m ∧ s9 = .int .i64 j ∧ s5 = .pointer (some ⟨g, 0, none⟩) ∧ Hid (PIn w wr k g q r gi gb L))
  case atStart => exact ⟨0, g, q, _, by omega, rfl, rfl, P0⟩
  case round =>
    clear P0
    obtain ⟨j, g, q, L, hj, rfl, rfl, hP⟩ := hrel
    by_cases hlt : j < m
    · have hjz : (j : Int) < (m : Int) := by omega
      have hx : l[j]? = some (l[j]'(by rw [HM.out]; exact hlt)) := List.getElem?_eq_getElem _
      generalize l[j]'(by rw [HM.out]; exact hlt) = s at hx
      have ws := HW.out s (List.mem_of_getElem? hx)
      obtain ⟨b0, off, rfl, hb0, hr0⟩ := has_rows HL.out (stepC_wid l) (by decide) (by intro e; rw [e] at hx; simp at hx)
      have ldx := elem_ld step_ty hr0 (stepC_wid l) hb0 hx
      have fw := hP.out.fr
      have Hx := keep hx
      have Hlt := keep hlt
      obtain ⟨s0, s1, s2, s3⟩ := s
      obtain ⟨v0, v1, v2, v3, v4⟩ := ws
      simp only at v0 v1 v2 v3 v4
      have hsc : stepC ⟨s0, s1, s2, s3⟩ = [.int .i64 s0, .int .i64 s1, .int .i64 s2, .int .u8 s3] := rfl
      rw [hsc] at ldx
      unfold Is64 at v0 v1 v2
      have cPk : ∀ W, Calls Try.prog 10 #[.int .i64 s1, .int .i64 ((k : Int) + 1)] W fun e w' => e = .returned (.int .i64 (s1 % ((k : Int) + 1))) ∧ Fr W w' := fun W => by
        have := law_place s1 (k + 1) v1 (by omega) (by omega) W
        rwa [show ((k + 1 : Nat) : Int) = (k : Int) + 1 by omega] at this
      have cPl : ∀ W, Calls Try.prog 10 #[.int .i64 s2, .int .i64 600] W fun e w' => e = .returned (.int .i64 (s2 % 600)) ∧ Fr W w' := fun W => law_place s2 600 v2 (by omega) (by omega) W
      have tok := keep hjz
      clear hx hlt hr0 hsc
      go_upto_if 66 with (first
        | (clear tok; refine wpList_store_chg (ds := [.int .i64 s0, .int .i64 s1, .int .i64 s2, .int .u8 s3]) step_ty.info rfl (.tmp 10) (.tmp 60) rfl wr.heap.size 0 rfl rfl rfl (.cons rfl (.cons rfl (.cons rfl (.cons rfl .nil)))) (Arr.new wr #[.int .i64 0, .int .i64 0, .int .i64 0, .int .u8 0] 32) (by decide) (splice_all _ _ (Nat.le_refl _)) ?_; intro V hV kV
           have x0 : ∀ W, Fr V W → W.cell? ⟨wr.heap.size, 0, none⟩ = some (.int .i64 s0) := fun W f => (f.cell hV.lt).trans (hV.cell 0)
           have x1 : ∀ W, Fr V W → W.cell? ⟨wr.heap.size, 1, none⟩ = some (.int .i64 s1) := fun W f => (f.cell (p := ⟨wr.heap.size, 1, none⟩) hV.lt).trans (hV.cell 1)
           have x2 : ∀ W, Fr V W → W.cell? ⟨wr.heap.size, 2, none⟩ = some (.int .i64 s2) := fun W f => (f.cell (p := ⟨wr.heap.size, 2, none⟩) hV.lt).trans (hV.cell 2)
           have x3 : ∀ W, Fr V W → W.cell? ⟨wr.heap.size, 3, none⟩ = some (.int .u8 s3) := fun W f => (f.cell (p := ⟨wr.heap.size, 3, none⟩) hV.lt).trans (hV.cell 3)
           have vv := fr_refl V
           have fV := (fr_new (fr_refl wr) (.cells #[.int .i64 0, .int .i64 0, .int .i64 0, .int .u8 0] 32)).trans (kV.below (B := wr.heap.size) (by simp) (fun i x => Nat.le_of_eq x.symm)))
        | fail)
      go_cut [11] from 61 to 71 (fun s11 W => ∃ v : Int, s11 = .int .i64 v ∧ (-9223372036854775808 ≤ v ∧ v ≤ 9223372036854775807) ∧ Hid (Fr V W))
      case first =>
        cases hc : s0.tmod 2 == 0
        · clear hc
          go_wp2_with fail
          go_meet
          exact ⟨s1, rfl, v1, keep vv⟩
        · clear hc
          go_wp2_with fail
          refine (cPk V).mono ?_
          rintro e w' ⟨rfl, f⟩
          go_wp2_with fail
          go_meet
          exact ⟨_, rfl, by have := Int.emod_nonneg s1 (b := (k : Int) + 1) (by omega); have := Int.emod_lt_of_pos s1 (b := (k : Int) + 1) (by omega); omega, keep f⟩
      case rest =>
        obtain ⟨v, rfl, hv, hF⟩ := hcut
        obtain ⟨V1, eW⟩ : ∃ W, W = wc := ⟨_, rfl⟩
        rw [← eW]
        rw [← eW] at hF
        clear eW
        have vv1 := hF.out
        go_upto_if 75 with fail
        go_cut [12] from 72 to 78 (fun s12 W => ∃ v : Nat, s12 = .int .i64 v ∧ v ≤ 600 ∧ Hid (Fr V W))
        case first =>
          cases hc : s2.tmod 5 == 0
          · clear hc
            go_wp2_with fail
            go_meet
            exact ⟨256, rfl, by omega, hF⟩
          · clear hc
            go_wp2_with fail
            refine (cPl V1).mono ?_
            rintro e w' ⟨rfl, f⟩
            go_wp2_with fail
            go_meet
            exact ⟨(s2 % 600).toNat, by rw [show ((s2 % 600).toNat : Int) = s2 % 600 by omega], by omega, keep (fr_step vv1 f)⟩
        case rest =>
          clear vv1 hF
          obtain ⟨lg, rfl, hlg, hF⟩ := hcut
          obtain ⟨V2, eW⟩ : ∃ W, W = wc := ⟨_, rfl⟩
          rw [← eW]
          rw [← eW] at hF
          clear eW cPk cPl
          have vv2 := hF.out
          have P2 := keep (hP.out.to (fr_step fV vv2))
          clear hP
          go_upto_block 2 with fail
          go_cut [5] from 91 to 166 (fun s5 W => ∃ g q L, s5 = .pointer (some ⟨g, 0, none⟩) ∧ Hid (PIn w W k g q r gi gb L))
          case first =>
            rcases (show s0 ≤ 2 ∨ s0 = 3 ∨ (4 ≤ s0 ∧ s0 ≤ 6) ∨ s0 = 7 ∨ 8 ≤ s0 by omega) with h1 | rfl | ⟨h1, h2⟩ | rfl | h1
            · have c1 := alloc_at P2.out.ps
              go_wp2_with fail
              refine c1.mono ?_
              rintro e w3 ⟨rfl, h⟩
              obtain ⟨hr, f3⟩ := P2.out.prog h.out.2
              have c2 := ralloc_at hr (fun i hi => P2.out.hok i (Nat.le_trans h.out.2.size hi))
              clear c1
              go_wp2_with fail
              refine c2.mono ?_
              rintro e w4 ⟨rfl, h'⟩
              go_wp2_with fail
              go_meet
              exact ⟨g, q, _, rfl, keep (pin_both h.out.1 h'.out.1 h'.out.2 (by rw [alL_len]; exact P2.out.len) P2.out.lo f3)⟩
            · have c1 := free_at (id := v) P2.out.ps hv
              go_wp2_with fail
              refine c1.mono ?_
              rintro e w3 ⟨rfl, h⟩
              obtain ⟨hr, f3⟩ := P2.out.prog h.out.2
              have c2 := rfree_at (id := v) hr hv
              clear c1
              go_wp2_with fail
              refine c2.mono ?_
              rintro e w4 ⟨rfl, h'⟩
              go_wp2_with fail
              go_meet
              exact ⟨g, q, _, rfl, keep (pin_both h.out.1 h'.out.1 h'.out.2 (by rw [frL_len]; exact P2.out.len) P2.out.lo f3)⟩
            · have c0 := bytes_at V2 lg (by omega) s3 ⟨v3, v4⟩
              have e1 : (s0 == 3) = false := by rw [beq_eq_false_iff_ne]; omega
              go_wp2_with fail
              refine c0.mono ?_
              rintro e w2' ⟨B, rfl, hb⟩
              have hbl := byL_len lg s3
              have hbo := byL_ok lg s3
              have P3 := P2.out.to hb.out.2
              have hB := hb.out.1.weak (ok' := fun i => ¬ i = q) (fun i _ hi x => by have := P2.out.lt; omega)
              generalize byL lg s3 = bs at *
              have c1 := write_at (id := v) (c := lg) P3.ps hv hB.has hbl (by omega) hbo
              have HBL := keep hbl
              clear c0 hb hbl
              go_wp2_with fail
              refine c1.mono ?_
              rintro e w3 ⟨rfl, h⟩
              obtain ⟨hr, f3⟩ := P3.prog h.out.2
              have c2 := rwrite_at (id := v) (c := lg) hr (fun i hi => P3.hok i (Nat.le_trans h.out.2.size hi)) hv (hB.chg h.out.2 (fun _ hi => hi)).has (Nat.le_refl _) HBL.out (by omega) hbo
              clear c1
              go_wp2_with fail
              refine c2.mono ?_
              rintro e w4 ⟨rfl, h'⟩
              go_wp2_with fail
              go_meet
              exact ⟨g, q, _, rfl, keep (pin_both h.out.1 h'.out.1 h'.out.2 (by rw [wrL_len]; exact P3.len) P3.lo f3)⟩
            · have c1 := read_at (id := v) P2.out.ps hv
              go_wp2_with fail
              refine c1.mono ?_
              rintro e w3 ⟨A1, n1, d1, rfl, h⟩
              have P3 := P2.out.to h.out.2.2
              have c2 := rread_at (id := v) P3.rs hv
              clear c1
              go_wp2_with fail
              refine c2.mono ?_
              rintro e w4 ⟨A2, n2, d2, rfl, h'⟩
              have s1' := conv_str (c := d1) ((h.out.2.1.fr h'.out.2.2).has) h.out.1
              have s2' := conv_str (c := d2) h'.out.2.1.has h'.out.1
              generalize strOfNums (rdB L v) = S at *
              generalize rdE L v = E at *
              have P4 := keep (P3.to h'.out.2.2)
              clear h h' c2
              go_wp2_with fail
              go_meet
              exact ⟨g, q, L, rfl, P4⟩
            · have e1 : (s0 == 3) = false := by rw [beq_eq_false_iff_ne]; omega
              have e2 : (s0 == 7) = false := by rw [beq_eq_false_iff_ne]; omega
              have c1 := copy_at P2.out.ps
              have cB := fun W => bytes_at W 256 (by decide) 9 (by decide)
              rw [show ((256 : Nat) : Int) = 256 from rfl] at cB
              go_wp2_with fail
              refine c1.mono ?_
              rintro e w3 ⟨g', q', rfl, h⟩
              have P3 := P2.out.to h.out.2.1
              have hlt := P2.out.lt
              have lo := h.out.2.2
              have hsz := P2.out.fr.size
              have S3 := keep h.out.1
              have R3 := keep ((P2.out.rs.weak (ok' := fun i => (w.heap.size ≤ i ∧ i ≠ g' ∧ i ≠ q') ∧ i ≠ q) (fun i hi ho => ⟨⟨ho.1, by omega, by omega⟩, ho.2.2⟩)).fr h.out.2.1)
              have c2 := alloc_at P3.ps
              clear c1
              go_wp2_with fail
              refine c2.mono ?_
              rintro e w4 ⟨rfl, h4⟩
              have c3 := free_at (id := 0) h4.out.1 (by decide)
              clear c2
              go_wp2_with fail
              refine c3.mono ?_
              rintro e w5 ⟨rfl, h5⟩
              clear c3
              go_wp2_with fail
              refine (cB _).mono ?_
              rintro e w6 ⟨B, rfl, h6⟩
              have c4 := write_at (id := 1) (c := 256) (h5.out.1.fr h6.out.2) (by decide) h6.out.1.has (byL_len 256 9) (by decide) (byL_ok 256 9)
              go_wp2_with fail
              refine c4.mono ?_
              rintro e w7 ⟨rfl, h7⟩
              go_wp2_with fail
              go_meet
              have kk := ((h4.out.2.trans h5.out.2).fr h6.out.2).trans h7.out.2
              exact ⟨g', q', L, rfl, keep ⟨S3.out.chg kk (by omega) (by omega), (R3.out.chg kk fun i hi x => hi.2 x).weak (fun i _ hi => hi.1), P2.out.len, by omega, fr_chg P3.fr kk P2.out.lo.2⟩⟩
          case rest =>
            clear P2 vv2 hF x0 x1 x2 x3 vv fV ldx fw hV kV
            obtain ⟨g, q, L, rfl, hP⟩ := hcut
            obtain ⟨V3, eW⟩ : ∃ W, W = wc := ⟨_, rfl⟩
            rw [← eW]
            rw [← eW] at hP
            clear eW
            have c1 := used_at hP.out.ps
            go_wp2_with fail
            refine c1.mono ?_
            rintro e w3 ⟨A1, n1, d1, rfl, h⟩
            have P3 := keep (hP.out.to h.out.2.2)
            have c2 := rused_at P3.out.rs
            have hn1 : n1 ≤ 256 := by rw [← h.out.1]; exact Nat.le_trans (usJ_len L _) hP.out.ps.len.2
            clear c1
            go_wp2_with fail
            refine c2.mono ?_
            rintro e w4 ⟨A2, n2, d2, rfl, h'⟩
            have P4 := keep (P3.out.to h'.out.2.2)
            have hn2 : n2 ≤ 256 := by rw [← h'.out.1]; exact Nat.le_trans (usJ_len L _) hP.out.ps.len.2
            have cS := sameints_at (c := d1) (c2 := d2) (h.out.2.1.has.fr (Nat.le_refl _) h'.out.2.2) h'.out.2.2.size h.out.1 (by omega) h'.out.2.1.has (Nat.le_refl _) h'.out.1 (by omega) (fr_refl w4)
            rw [decide_eq_true rfl] at cS
            clear c2 h h' P3 hP
            go_wp2_with fail
            refine cS.mono ?_
            rintro e w5 ⟨rfl, f5⟩
            have P5 := keep (P4.out.to f5)
            have c3 := left_at P5.out.ps
            clear cS
            go_wp2_with fail
            refine c3.mono ?_
            rintro e w6 ⟨rfl, f6⟩
            have P6 := keep (P5.out.to f6)
            have c4 := rleft_at P6.out.rs
            generalize lfN L = z at *
            clear c3 P5 P4
            go_wp2_with fail
            refine c4.mono ?_
            rintro e w7 ⟨rfl, f7⟩
            go_wp2_with fail
            go_roundg (gk - 1)
            case measure => omega
            case rel => exact ⟨j + 1, g, q, L, by omega, rfl, rfl, keep (P6.out.to f7)⟩
    · have hjz : ¬ (j : Int) < (m : Int) := by omega
      have c1 := reads_at hP.out.ps hP.out.rs hP.out.len
      clear hlt
      go_wp2_with fail
      refine c1.mono ?_
      rintro e w3 ⟨rfl, f3⟩
      go_wp2_with fail
      refine (awake12 w3).mono ?_
      rintro e wa ⟨rfl, fa⟩
      go_wp2_with fail
      go_ret
      exact ⟨rfl, fr_step hP.out.fr (fr_step f3 fa)⟩
end Go.Proofs.Ytliglcaakhfahaa
