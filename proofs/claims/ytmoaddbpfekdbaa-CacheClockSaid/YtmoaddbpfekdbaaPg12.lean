/- CacheClock, walked. -/
import Derived.Test.YtmoaddbpfekdbaaPg11
namespace Go.Proofs.Ytmoaddbpfekdbaa
set_option linter.unusedVariables false
set_option linter.unusedSimpArgs false
set_option linter.unusedSectionVars false
set_option maxRecDepth 100000
open Go.RowKit
attribute [local go_sem ↓] node16_ld
theorem tmod6 {z : Int} (h : 0 ≤ z ∧ z ≤ 255) : ∃ d : Nat, Int.tmod z 6 = d ∧ d < 6 := ⟨(z % 6).toNat, by rw [Int.tmod_eq_emod_of_nonneg (by omega)]; omega, by omega⟩
set_option maxHeartbeats 32000000 in
theorem clock_core {w : World} {A : Option Addr} {m cc : Nat} {l : List Int} {first : Int} (hl : l.length = m) (hm : m ≤ maxLen) (hb : Bytes l) (hA : Has w w.heap.size A (u8s l)) (hf : 0 ≤ first ∧ first ≤ 255) :
    Calls Try.prog 6 #[.slice A m cc, .int .u8 first] w fun e w' => e = .returned (.bool true) ∧ Fr w w' := by
  obtain ⟨d2, hd2, hd2l⟩ := tmod6 hf
  obtain ⟨bA, oA, hA⟩ := u8_at hA hl
  have HA := keep hA
  have HB := keep hb
  have is0 : W64 0 := ⟨by decide, by decide⟩
  have hmm : m ≤ maxLen := hm
  clear hA hl hb hm
  go_enter Try.func6, Try.ntmps6
  go_wp2_with (first
    | (go_at_call 8; (with_reducible refine (x_new _ 6 (N := 6) rfl (by decide) (by decide)).mono ?_); rintro e w1 ⟨g, rfl, H1⟩; rw [k_new lfN] at H1)
    | fail)
  go_loopg [7] 6 (fun gg s7 wr => ∃ t : Nat, t + gg = 6 ∧ s7 = .int .i64 t ∧ Hid (QL w wr g 6 (10 * t) (kE lfN t)))
  case atStart => exact ⟨0, by omega, rfl, H1⟩
  case round =>
    obtain ⟨t, ht, rfl, HI⟩ := hrel
    by_cases hlt : t < 6
    · have hin : (t : Int) < 6 := by omega
      have wi : IntKind.i64.wrap ((t : Int) + 1) = (t : Int) + 1 := by rw [IntKind.wrap_i64]; omega
      have ist : W64 (t : Int) := ⟨by omega, by omega⟩
      have hK : 10 * t ≤ 1000 := by omega
      have hK1 : 10 * t + 1 ≤ 1000 := by omega
      have hK2 : 10 * t + 1 + 1 ≤ 1000 := by omega
      have q1 := k_pin1 lfN hlt
      have q2 : fillC (kP lfN t) (t : Int) lfX.n = _ := k_fill1 lfN hlt
      have q3 := k_let1 lfN hlt
      have Hlt := keep hlt
      clear hlt
      go_wp2_with (first
        | (go_at_call 12; (with_reducible refine (x_pin HI.out hK q1).mono ?_); rintro e w2 ⟨rfl, H2⟩)
        | (go_at_call 13; (with_reducible refine (x_fill H2.out.1 hK1 ist lfX lf_val (lf_np _ (fun _ => True)) q2 rfl).mono ?_); rintro e w3 ⟨O3, c3, rfl, H3⟩)
        | (go_at_call 16; (with_reducible refine (x_unpin H3.out.2.1 hK2 ist q3).mono ?_); rintro e w4 ⟨rfl, H4⟩)
        | fail)
      go_roundg (gk - 1)
      case measure => have := Hlt.out; omega
      case rel => exact ⟨t + 1, by have := Hlt.out; omega, rfl, keep (H4.out.1.more (by omega))⟩
    · obtain rfl : t = 6 := by omega
      have q1 : evictC (kE lfN 6) = _ := k_evict0 lfN
      have q2 := k_again lfN
      have q3 : fillC (V := RN) _ 0 lfX.n = _ := k_fill lfN
      have q4 := k_let lfN
      obtain ⟨wo, rfl⟩ : ∃ x, x = wr := ⟨_, rfl⟩
      obtain ⟨gko, rfl⟩ : ∃ x, x = gk := ⟨_, rfl⟩
      clear hlt
      go_upto_block 2 with (first
        | (go_at_call 18; (with_reducible refine (x_evict HI.out q1 (b := 0) (d := false) rfl rfl).mono ?_); rintro e w5 ⟨v5, rfl, H5⟩)
        | (refine wpList_store_at (ds := v5.cells) node16_info rfl (.tmp 9) (.tmp 57) rfl w5.heap.size 0 rfl rfl rfl (nv_onex v5) (Arr.new w5 zeroNV.cells.toArray 41) (by decide) (splice_all _ _ (by show 5 ≤ 5; decide)) ?_; intro W6 hA6 hk6; have H6 := keep (H5.out.1.fr (hk6.fr (fr_new (fr_refl w5) _) (Nat.le_refl _))); clear hA6 hk6)
        | (go_at_call 12; (with_reducible refine (x_pin H6.out (by decide) q2).mono ?_); rintro e w7 ⟨rfl, H7⟩)
        | (go_at_call 13; (with_reducible refine (x_fill H7.out.1 (by decide) is0 lfX lf_val (lf_np _ (fun _ => True)) q3 rfl).mono ?_); rintro e w8 ⟨O8, c8, rfl, H8⟩)
        | (go_at_call 16; (with_reducible refine (x_unpin H8.out.2.1 (by decide) is0 q4).mono ?_); rintro e w9 ⟨rfl, H9⟩; have H10 := keep (H9.out.1.more (K' := 80) (by decide)))
        | fail)
      go_cut [12] from 76 to 102 (fun _ W => ∃ r : Nat → Bool, Hid (QL w W g 6 200 (kS lfN r (fun _ => 0) 1)))
      case first =>
        clear q1 q2 q3 q4
        go_wp2_with fail
        go_loopg [12] 10 (fun gg s12 wr => ∃ (j : Nat) (r : Nat → Bool), j + gg = 10 ∧ s12 = .int .i64 j ∧ Hid (QL w wr g 6 (80 + 10 * j) (kS lfN r (fun _ => 0) 1)))
        case atStart => exact ⟨0, _, by omega, rfl, H10⟩
        case round =>
          obtain ⟨j, r, hj, rfl, HJ⟩ := hrel
          by_cases hjm : j < m
          · have hjz : (j : Int) < (m : Int) := by omega
            by_cases hj10 : j < 10
            · have hj10z : (j : Int) < 10 := by omega
              obtain ⟨e1, z, hz, e2⟩ := HA.out j hjm
              subst e1
              obtain ⟨d, hd, hdl⟩ := tmod6 (HB.out z (List.mem_of_getElem? hz))
              have lX := e2 wr HJ.out.frw
              have isd : W64 (d : Int) := ⟨by omega, by omega⟩
              have wi : IntKind.i64.wrap ((j : Int) + 1) = (j : Int) + 1 := by rw [IntKind.wrap_i64]; omega
              have hK : 80 + 10 * j ≤ 1000 := by omega
              have hK1 : 80 + 10 * j + 1 ≤ 1000 := by omega
              have q1 := k_pin lfN r 1 (t := 0) (by omega) hdl
              have q2 := k_unpin lfN (fun i => if i = d then true else r i) 1 hdl
              have E2 := keep e2
              have HJ10 := keep hj10
              clear hjm hj10 hz e2
              go_wp2_with (first
                | (go_at_call 12; (with_reducible refine (x_pin HJ.out hK q1).mono ?_); rintro e w11 ⟨rfl, H11⟩; have lY := E2.out w11 H11.out.1.frw)
                | (go_at_call 16; (with_reducible refine (x_unpin H11.out.1 hK1 isd q2).mono ?_); rintro e w12 ⟨rfl, H12⟩)
                | fail)
              go_roundg (gk - 1)
              case measure => have := HJ10.out; omega
              case rel => exact ⟨j + 1, _, by have := HJ10.out; omega, rfl, keep (H12.out.1.more (by omega))⟩
            · have hj10z : ¬ (j : Int) < 10 := by omega
              have HE := keep (HJ.out.more (K' := 200) (by omega))
              clear hjm hj10
              go_wp2_with fail
              go_meet
              exact ⟨r, HE⟩
          · have hjz : ¬ (j : Int) < (m : Int) := by omega
            have HE := keep (HJ.out.more (K' := 200) (by omega))
            clear hjm
            go_wp2_with fail
            go_meet
            exact ⟨r, HE⟩
      case rest =>
        obtain ⟨r, HC⟩ := hcut
        clear q1 q2 q3 q4 H10
        have q5 := k_pin lfN r 1 (t := 1) (by omega) hd2l
        go_upto_region 25 with (first
          | (go_at_call 12; (with_reducible refine (x_pin HC.out (by decide) q5).mono ?_); rintro e w8 ⟨rfl, H8⟩)
          | (go_at_call 10; (with_reducible refine (x_frames H8.out.1).mono ?_); rintro e w9 ⟨Q, qc, l', rfl, H9⟩; obtain ⟨bQ, oQ, hQ⟩ := H9.out.1.res.row.addr (by decide); subst hQ)
          | fail)
        clear q5
        obtain ⟨fs, hfs⟩ : ∃ fs, fs = (kS lfN (fun i => if i = d2 then true else r i) (fun i => if i = d2 then 1 else 0) 1).fs := ⟨_, rfl⟩
        have HFS := keep hfs
        have hfl : fs.length = 6 := by rw [hfs]; rfl
        have HQ : Hid (Rw w9 49 13 (some ⟨bQ, oQ, none⟩) 6 qc (rows fac l') ∧ l'.map (mF NX.n) = fs) := keep ⟨H9.out.1.res.row, by rw [hfs]; exact H9.out.1.same⟩
        have HS := keep (H8.out.1.fr H9.out.2)
        have HFL := keep hfl
        have hww9 := fr_refl w9
        clear hfs hfl HC
        go_upto_block 4 with fail
        go_cut [15, 16, 17] from 114 to 134 (fun s15 s16 _ W => ∃ (cb rb : Nat) (C R : Option Addr), s15 = .slice C 6 cb ∧ s16 = .slice R 6 rb ∧ Hid (TwoB w9 W C R 6 cb 6 rb (fs.map fun f => f.pins == 0) (fs.map fun f => f.ref)))
        case first =>
          obtain ⟨cL, hcL⟩ : ∃ cL : Nat → List Bool, cL = fun j => (fs.take j).map fun f => f.pins == 0 := ⟨_, rfl⟩
          obtain ⟨rL, hrL⟩ : ∃ rL : Nat → List Bool, rL = fun j => (fs.take j).map fun f => f.ref := ⟨_, rfl⟩
          have HcL := keep hcL
          have HrL := keep hrL
          have H0 : Hid (TwoB w9 w9 none none 0 0 0 0 (cL 0) (rL 0)) := keep (by rw [hcL, hrL]; exact ⟨⟨Rw.nil _ _ _, rfl, (fun k hk => by cases hk)⟩, ⟨Rw.nil _ _ _, rfl, (fun k hk => by cases hk)⟩, (fun k hk => by cases hk), hww9⟩)
          clear hcL hrL
          go_wp2_with fail
          go_loopg [15, 16, 17] 6 (fun gg s15 s16 s17 wr => ∃ (j cb rb : Nat) (C R : Option Addr), j + gg = 6 ∧ s15 = .slice C j cb ∧ s16 = .slice R j rb ∧ s17 = .int .i64 j ∧ Hid (TwoB w9 wr C R j cb j rb (cL j) (rL j)))
          case atStart => exact ⟨0, 0, 0, none, none, by omega, rfl, rfl, rfl, H0⟩
          case round =>
            obtain ⟨j, cb, rb, C, R, hj, rfl, rfl, rfl, HI2⟩ := hrel
            by_cases hlt : j < 6
            · have hjz : (j : Int) < 6 := by omega
              have wj : IntKind.i64.wrap ((j : Int) + 1) = (j : Int) + 1 := by rw [IntKind.wrap_i64]; omega
              obtain ⟨f, hfj⟩ : ∃ f, fs[j]? = some f := ⟨fs[j]'(by rw [HFL.out]; exact hlt), List.getElem?_eq_getElem _⟩
              have HCJ : Hid (cL (j + 1) = cL j ++ [f.pins == 0] ∧ rL (j + 1) = rL j ++ [f.ref]) := keep (by
                rw [HcL.out, HrL.out]
                simp only [List.take_add_one, hfj, List.map_append, Option.toList]
                exact ⟨rfl, rfl⟩)
              have lA : ∀ V, Fr w9 V → V.cell? ⟨bQ, oQ + j * 13 + 2, none⟩ = some (.int .i64 f.pins) := fun V hV => (told_cells (HQ.out.1.fr hV) HQ.out.2 hfj).2.2.1
              have lB : ∀ V, Fr w9 V → V.cell? ⟨bQ, oQ + j * 13 + 3, none⟩ = some (.bool f.ref) := fun V hV => (told_cells (HQ.out.1.fr hV) HQ.out.2 hfj).2.2.2.1
              have fD : Fr w9 wr.drew := fr_drew HI2.out.fr
              have T0 := keep (HI2.out.go (fr_drew (fr_refl _)))
              clear hfj hlt
              go_wp2_with fail
              refine wp_region_noPanic ?_
              refine wp_region_held_drew (S := fun V => Fr w9 V) (by kernel_rfl) fD (fun hHeld => ?_)
              change wpAnyH _ _ _ _ _ _ _ _ _
              refine wpAnyH_take (i := 0) (v := ?_) rfl (by kernel_rfl) (by kernel_rfl) (by kernel_rfl) (fun _ _ _ h => h) (Or.inl ⟨by rfl, ?_⟩) (by assumption) ?_
              rotate_left
              · intro w' hSw
                try dsimp only at hSw
                go_simp
                try with_reducible rfl
              try simp only [List.getElem_toArray, List.getElem_cons_zero, Act.put, List.setIfInBounds_toArray, List.set_cons_zero, List.set_cons_succ]
              refine wpAnyH_take (i := 1) (v := ?_) rfl (by kernel_rfl) (by kernel_rfl) (by kernel_rfl) (fun _ _ _ h => h) (Or.inl ⟨by rfl, ?_⟩) (by assumption) ?_
              rotate_left
              · intro w' hSw
                try dsimp only at hSw
                go_simp
                try with_reducible rfl
              try simp only [List.getElem_toArray, List.getElem_cons_succ, List.getElem_cons_zero, Act.put, List.setIfInBounds_toArray, List.set_cons_zero, List.set_cons_succ]
              refine wpAnyH_take (i := 2) (v := ?_) rfl (by kernel_rfl) (by kernel_rfl) (by kernel_rfl) (fun _ _ _ h => h) (Or.inl ⟨by rfl, ?_⟩) (by assumption) ?_
              rotate_left
              · intro w' hSw
                try dsimp only at hSw
                go_simp
                try with_reducible rfl
              try simp only [List.getElem_toArray, List.getElem_cons_succ, List.getElem_cons_zero, Act.put, List.setIfInBounds_toArray, List.set_cons_zero, List.set_cons_succ]
              refine wpAnyH_take (i := 3) (v := ?_) rfl (by kernel_rfl) (by kernel_rfl) (by kernel_rfl) (fun _ _ _ h => h) (Or.inl ⟨by rfl, ?_⟩) (by assumption) ?_
              rotate_left
              · intro w' hSw
                try dsimp only at hSw
                go_simp
                try with_reducible rfl
              try simp only [List.getElem_toArray, List.getElem_cons_succ, List.getElem_cons_zero, Act.put, List.setIfInBounds_toArray, List.set_cons_zero, List.set_cons_succ]
              refine wpAnyH_take (i := 4) (v := ?_) rfl (by kernel_rfl) (by kernel_rfl) (by kernel_rfl) (fun _ _ _ h => h) (Or.inl ⟨by rfl, ?_⟩) (by assumption) ?_
              rotate_left
              · intro w' hSw
                try dsimp only at hSw
                go_simp
                try with_reducible rfl
              try simp only [List.getElem_toArray, List.getElem_cons_succ, List.getElem_cons_zero, Act.put, List.setIfInBounds_toArray, List.set_cons_zero, List.set_cons_succ]
              refine wpAnyH_take (i := 5) (v := ?_) rfl (by kernel_rfl) (by kernel_rfl) (by kernel_rfl) (fun _ _ _ h => h) (Or.inl ⟨by rfl, ?_⟩) (by assumption) ?_
              rotate_left
              · intro w' hSw
                try dsimp only at hSw
                go_simp
                try with_reducible rfl
              try simp only [List.getElem_toArray, List.getElem_cons_succ, List.getElem_cons_zero, Act.put, List.setIfInBounds_toArray, List.set_cons_zero, List.set_cons_succ]
              refine wpAnyH_take (i := 6) (v := ?_) rfl (by kernel_rfl) (by kernel_rfl) (by kernel_rfl) (fun _ _ _ h => h) (Or.inl ⟨by rfl, ?_⟩) (by assumption) ?_
              rotate_left
              · intro w' hSw
                try dsimp only at hSw
                go_simp
                try with_reducible rfl
              try simp only [List.getElem_toArray, List.getElem_cons_succ, List.getElem_cons_zero, Act.put, List.setIfInBounds_toArray, List.set_cons_zero, List.set_cons_succ]
              refine wpAnyH_take (i := 9) (v := ?_) rfl (by kernel_rfl) (by kernel_rfl) (by kernel_rfl) (fun _ _ _ h => h) (Or.inl ⟨by rfl, ?_⟩) (by assumption) ?_
              rotate_left
              · intro w' hSw
                try dsimp only at hSw
                go_simp
                try with_reducible rfl
              try simp only [List.getElem_toArray, List.getElem_cons_succ, List.getElem_cons_zero, Act.put, List.setIfInBounds_toArray, List.set_cons_zero, List.set_cons_succ]
              refine wpAnyH_take (i := 10) (v := ?_) rfl (by kernel_rfl) (by kernel_rfl) (by kernel_rfl) (fun _ _ _ h => h) (Or.inl ⟨by rfl, ?_⟩) (by assumption) ?_
              rotate_left
              · intro w' hSw
                try dsimp only at hSw
                go_simp
                try with_reducible rfl
              try simp only [List.getElem_toArray, List.getElem_cons_succ, List.getElem_cons_zero, Act.put, List.setIfInBounds_toArray, List.set_cons_zero, List.set_cons_succ]
              refine wpAnyH_take (i := 11) (v := ?_) rfl (by kernel_rfl) (by kernel_rfl) (by kernel_rfl) (fun _ _ _ h => h) (Or.inl ⟨by rfl, ?_⟩) (by assumption) ?_
              rotate_left
              · intro w' hSw
                try dsimp only at hSw
                go_simp
                try with_reducible rfl
              try simp only [List.getElem_toArray, List.getElem_cons_succ, List.getElem_cons_zero, Act.put, List.setIfInBounds_toArray, List.set_cons_zero, List.set_cons_succ]
              refine wpAnyH_take (i := 12) (v := ?_) rfl (by kernel_rfl) (by kernel_rfl) (by kernel_rfl) (fun _ _ _ h => h) (Or.inl ⟨by rfl, ?_⟩) (by assumption) ?_
              rotate_left
              · intro w' hSw
                try dsimp only at hSw
                go_simp
                try with_reducible rfl
              try simp only [List.getElem_toArray, List.getElem_cons_succ, List.getElem_cons_zero, Act.put, List.setIfInBounds_toArray, List.set_cons_zero, List.set_cons_succ]
              refine wpAnyH_take (i := 13) (v := ?_) rfl (by kernel_rfl) (by kernel_rfl) (by kernel_rfl) (fun _ _ _ h => h) (Or.inl ⟨by rfl, ?_⟩) (by assumption) ?_
              rotate_left
              · intro w' hSw
                try dsimp only at hSw
                go_simp
                try with_reducible rfl
              try simp only [List.getElem_toArray, List.getElem_cons_succ, List.getElem_cons_zero, Act.put, List.setIfInBounds_toArray, List.set_cons_zero, List.set_cons_succ]
              refine wpAnyH_take (i := 14) (v := ?_) rfl (by kernel_rfl) (by kernel_rfl) (by kernel_rfl) (fun _ _ _ h => h) (Or.inl ⟨by rfl, ?_⟩) (by assumption) ?_
              rotate_left
              · intro w' hSw
                try dsimp only at hSw
                go_simp
                try with_reducible rfl
              try simp only [List.getElem_toArray, List.getElem_cons_succ, List.getElem_cons_zero, Act.put, List.setIfInBounds_toArray, List.set_cons_zero, List.set_cons_succ]
              refine wpAnyH_ready (rs := [7, 15]) (by kernel_rfl) (by simp) ?_
              refine AllReadyH.cons rfl (fun K hK0 => ?_) (AllReadyH.cons rfl (fun K hK0 => ?_) (AllReadyH.nil))
              · go_simp
                obtain ⟨V1, hV1, T1, X1, f1⟩ : ∃ V, wr.drew.alloc (.cells #[.bool (f.pins == 0)] 4) = V ∧ Hid (TwoB w9 V C R j cb j rb (cL j) (rL j)) ∧ Hid (Bx V C R wr.drew.heap.size (f.pins == 0)) ∧ Fr w9 V := ⟨_, rfl, keep (T0.out.go (fr_new (fr_refl _) _)), keep (two_new T0.out _), (T0.out.go (fr_new (fr_refl _) _)).fr⟩
                change K _ (wr.drew.alloc (.cells #[.bool (f.pins == 0)] 4))
                rw [hV1]
                refine hK0.out _ _ f1 (fun _ => ?_)
                clear hK0 K
                try simp only [List.getElem_toArray, List.getElem_cons_succ, List.getElem_cons_zero, Act.put, List.setIfInBounds_toArray, List.set_cons_zero, List.set_cons_succ]
                refine wpAnyH_ready (rs := [8, 15]) (by kernel_rfl) (by simp) ?_
                refine AllReadyH.cons rfl (fun K hK0 => ?_) (AllReadyH.cons rfl (fun K hK0 => ?_) (AllReadyH.nil))
                · refine step_append_rw bool_elem bools_under (by decide) (wanted_plain16 rfl _) (.tmp 118) (.tmp 125) rfl C j cb (rows bc (cL j)) rfl T1.out.c.row (wr.drew.heap.size + 1) (some ⟨wr.drew.heap.size, 0, none⟩) 1 1 (bc (f.pins == 0)) rfl rfl X1.out.1 (bc_one _) (by simp only [maxLen]; omega) (by omega) ?_
                  intro C2 cb2 V2 h2 p2
                  have T2 := keep (two_put T1.out h2 p2)
                  have f2 := T2.out.fr
                  clear h2 p2
                  refine hK0.out _ _ f2 (fun _ => ?_)
                  clear hK0 K
                  try simp only [List.getElem_toArray, List.getElem_cons_succ, List.getElem_cons_zero, Act.put, List.setIfInBounds_toArray, List.set_cons_zero, List.set_cons_succ]
                  refine wpAnyH_ready (rs := [15]) (by kernel_rfl) (by simp) ?_
                  refine AllReadyH.cons rfl (fun K hK0 => ?_) AllReadyH.nil
                  go_simp
                  obtain ⟨V3, hV3, T3, Y3, f3⟩ : ∃ V, V2.alloc (.cells #[.bool f.ref] 4) = V ∧ Hid (TwoB w9 V C2 R (j + 1) cb2 j rb (cL j ++ [f.pins == 0]) (rL j)) ∧ Hid (Bx V C2 R V2.heap.size f.ref) ∧ Fr w9 V := ⟨_, rfl, keep (T2.out.go (fr_new (fr_refl _) _)), keep (two_new T2.out _), (T2.out.go (fr_new (fr_refl _) _)).fr⟩
                  change K _ (V2.alloc (.cells #[.bool f.ref] 4))
                  rw [hV3]
                  refine hK0.out _ _ f3 (fun _ => ?_)
                  clear hK0 K
                  try simp only [List.getElem_toArray, List.getElem_cons_succ, List.getElem_cons_zero, Act.put, List.setIfInBounds_toArray, List.set_cons_zero, List.set_cons_succ]
                  refine wpAnyH_ready (rs := [16]) (by kernel_rfl) (by simp) ?_
                  refine AllReadyH.cons rfl (fun K hK0 => ?_) AllReadyH.nil
                  refine step_append_rw bool_elem bools_under (by decide) (wanted_plain16 rfl _) (.tmp 127) (.tmp 133) rfl R j rb (rows bc (rL j)) rfl T3.out.r.row (V2.heap.size + 1) (some ⟨V2.heap.size, 0, none⟩) 1 1 (bc f.ref) rfl rfl Y3.out.1 (bc_one _) (by simp only [maxLen]; omega) (by omega) ?_
                  intro R2 rb2 V4 h4 p4
                  have TE := keep (two_put T3.out.swap h4 p4).swap
                  have f4 := TE.out.fr
                  clear h4 p4
                  refine hK0.out _ _ f4 (fun _ => ?_)
                  clear hK0 K
                  try simp only [List.getElem_toArray, List.getElem_cons_succ, List.getElem_cons_zero, Act.put, List.setIfInBounds_toArray, List.set_cons_zero, List.set_cons_succ]
                  refine wpAnyH_take (i := 17) (v := ?_) rfl (by kernel_rfl) (by kernel_rfl) (by kernel_rfl) (fun _ _ _ h => h) (Or.inl ⟨by rfl, ?_⟩) (by assumption) ?_
                  rotate_left
                  · intro w' hSw
                    try dsimp only at hSw
                    go_simp
                    try with_reducible rfl
                  try simp only [List.getElem_toArray, List.getElem_cons_succ, List.getElem_cons_zero, Act.put, List.setIfInBounds_toArray, List.set_cons_zero, List.set_cons_succ]
                  refine wpAnyH_take (i := 18) (v := ?_) rfl (by kernel_rfl) (by kernel_rfl) (by kernel_rfl) (fun _ _ _ h => h) (Or.inl ⟨by rfl, ?_⟩) (by assumption) ?_
                  rotate_left
                  · intro w' hSw
                    try dsimp only at hSw
                    go_simp
                    try with_reducible rfl
                  try simp only [List.getElem_toArray, List.getElem_cons_succ, List.getElem_cons_zero, Act.put, List.setIfInBounds_toArray, List.set_cons_zero, List.set_cons_succ]
                  refine wpAnyH_done (by kernel_rfl) ?_ _
                  refine NoPanic.normal ?_
                  go_wp2_with fail
                  go_roundg (gk - 1)
                  case measure => omega
                  case rel =>
                    refine ⟨j + 1, cb2, rb2, C2, R2, by omega, rfl, rfl, rfl, ?_⟩
                    rw [HCJ.out.1, HCJ.out.2]
                    exact keep TE.out
                · go_simp
                  obtain ⟨V2, hV2, T2, Y2, f2, X2⟩ : ∃ V, V1.alloc (.cells #[.bool f.ref] 4) = V ∧ Hid (TwoB w9 V C R j cb j rb (cL j) (rL j)) ∧ Hid (Bx V C R V1.heap.size f.ref) ∧ Fr w9 V ∧ Hid (Bx V C R wr.drew.heap.size (f.pins == 0)) := ⟨_, rfl, keep (T1.out.go (fr_new (fr_refl _) _)), keep (two_new T1.out _), (T1.out.go (fr_new (fr_refl _) _)).fr, keep (X1.out.go (fr_new (fr_refl _) _))⟩
                  change K _ (V1.alloc (.cells #[.bool f.ref] 4))
                  rw [hV2]
                  refine hK0.out _ _ f2 (fun _ => ?_)
                  clear hK0 K
                  try simp only [List.getElem_toArray, List.getElem_cons_succ, List.getElem_cons_zero, Act.put, List.setIfInBounds_toArray, List.set_cons_zero, List.set_cons_succ]
                  refine wpAnyH_ready (rs := [8]) (by kernel_rfl) (by simp) ?_
                  refine AllReadyH.cons rfl (fun K hK0 => ?_) AllReadyH.nil
                  refine step_append_rw bool_elem bools_under (by decide) (wanted_plain16 rfl _) (.tmp 118) (.tmp 125) rfl C j cb (rows bc (cL j)) rfl T2.out.c.row (wr.drew.heap.size + 1) (some ⟨wr.drew.heap.size, 0, none⟩) 1 1 (bc (f.pins == 0)) rfl rfl X2.out.1 (bc_one _) (by simp only [maxLen]; omega) (by omega) ?_
                  intro C2 cb2 V3 h3 p3
                  have T3 := keep (two_put T2.out h3 p3)
                  have Y3 := keep (Y2.out.put p3)
                  have f3 := T3.out.fr
                  clear h3 p3
                  refine hK0.out _ _ f3 (fun _ => ?_)
                  clear hK0 K
                  try simp only [List.getElem_toArray, List.getElem_cons_succ, List.getElem_cons_zero, Act.put, List.setIfInBounds_toArray, List.set_cons_zero, List.set_cons_succ]
                  refine wpAnyH_ready (rs := [16]) (by kernel_rfl) (by simp) ?_
                  refine AllReadyH.cons rfl (fun K hK0 => ?_) AllReadyH.nil
                  refine step_append_rw bool_elem bools_under (by decide) (wanted_plain16 rfl _) (.tmp 127) (.tmp 133) rfl R j rb (rows bc (rL j)) rfl T3.out.r.row (V1.heap.size + 1) (some ⟨V1.heap.size, 0, none⟩) 1 1 (bc f.ref) rfl rfl Y3.out.1 (bc_one _) (by simp only [maxLen]; omega) (by omega) ?_
                  intro R2 rb2 V4 h4 p4
                  have TE := keep (two_put T3.out.swap h4 p4).swap
                  have f4 := TE.out.fr
                  clear h4 p4
                  refine hK0.out _ _ f4 (fun _ => ?_)
                  clear hK0 K
                  try simp only [List.getElem_toArray, List.getElem_cons_succ, List.getElem_cons_zero, Act.put, List.setIfInBounds_toArray, List.set_cons_zero, List.set_cons_succ]
                  refine wpAnyH_take (i := 17) (v := ?_) rfl (by kernel_rfl) (by kernel_rfl) (by kernel_rfl) (fun _ _ _ h => h) (Or.inl ⟨by rfl, ?_⟩) (by assumption) ?_
                  rotate_left
                  · intro w' hSw
                    try dsimp only at hSw
                    go_simp
                    try with_reducible rfl
                  try simp only [List.getElem_toArray, List.getElem_cons_succ, List.getElem_cons_zero, Act.put, List.setIfInBounds_toArray, List.set_cons_zero, List.set_cons_succ]
                  refine wpAnyH_take (i := 18) (v := ?_) rfl (by kernel_rfl) (by kernel_rfl) (by kernel_rfl) (fun _ _ _ h => h) (Or.inl ⟨by rfl, ?_⟩) (by assumption) ?_
                  rotate_left
                  · intro w' hSw
                    try dsimp only at hSw
                    go_simp
                    try with_reducible rfl
                  try simp only [List.getElem_toArray, List.getElem_cons_succ, List.getElem_cons_zero, Act.put, List.setIfInBounds_toArray, List.set_cons_zero, List.set_cons_succ]
                  refine wpAnyH_done (by kernel_rfl) ?_ _
                  refine NoPanic.normal ?_
                  go_wp2_with fail
                  go_roundg (gk - 1)
                  case measure => omega
                  case rel =>
                    refine ⟨j + 1, cb2, rb2, C2, R2, by omega, rfl, rfl, rfl, ?_⟩
                    rw [HCJ.out.1, HCJ.out.2]
                    exact keep TE.out
              · go_simp
                obtain ⟨V1, hV1, T1, Y1, f1⟩ : ∃ V, wr.drew.alloc (.cells #[.bool f.ref] 4) = V ∧ Hid (TwoB w9 V C R j cb j rb (cL j) (rL j)) ∧ Hid (Bx V C R wr.drew.heap.size f.ref) ∧ Fr w9 V := ⟨_, rfl, keep (T0.out.go (fr_new (fr_refl _) _)), keep (two_new T0.out _), (T0.out.go (fr_new (fr_refl _) _)).fr⟩
                change K _ (wr.drew.alloc (.cells #[.bool f.ref] 4))
                rw [hV1]
                refine hK0.out _ _ f1 (fun _ => ?_)
                clear hK0 K
                try simp only [List.getElem_toArray, List.getElem_cons_succ, List.getElem_cons_zero, Act.put, List.setIfInBounds_toArray, List.set_cons_zero, List.set_cons_succ]
                refine wpAnyH_ready (rs := [7]) (by kernel_rfl) (by simp) ?_
                refine AllReadyH.cons rfl (fun K hK0 => ?_) AllReadyH.nil
                go_simp
                obtain ⟨V2, hV2, T2, X2, f2, Y2⟩ : ∃ V, V1.alloc (.cells #[.bool (f.pins == 0)] 4) = V ∧ Hid (TwoB w9 V C R j cb j rb (cL j) (rL j)) ∧ Hid (Bx V C R V1.heap.size (f.pins == 0)) ∧ Fr w9 V ∧ Hid (Bx V C R wr.drew.heap.size f.ref) := ⟨_, rfl, keep (T1.out.go (fr_new (fr_refl _) _)), keep (two_new T1.out _), (T1.out.go (fr_new (fr_refl _) _)).fr, keep (Y1.out.go (fr_new (fr_refl _) _))⟩
                change K _ (V1.alloc (.cells #[.bool (f.pins == 0)] 4))
                rw [hV2]
                refine hK0.out _ _ f2 (fun _ => ?_)
                clear hK0 K
                try simp only [List.getElem_toArray, List.getElem_cons_succ, List.getElem_cons_zero, Act.put, List.setIfInBounds_toArray, List.set_cons_zero, List.set_cons_succ]
                refine wpAnyH_ready (rs := [8]) (by kernel_rfl) (by simp) ?_
                refine AllReadyH.cons rfl (fun K hK0 => ?_) AllReadyH.nil
                refine step_append_rw bool_elem bools_under (by decide) (wanted_plain16 rfl _) (.tmp 118) (.tmp 125) rfl C j cb (rows bc (cL j)) rfl T2.out.c.row (V1.heap.size + 1) (some ⟨V1.heap.size, 0, none⟩) 1 1 (bc (f.pins == 0)) rfl rfl X2.out.1 (bc_one _) (by simp only [maxLen]; omega) (by omega) ?_
                intro C2 cb2 V3 h3 p3
                have T3 := keep (two_put T2.out h3 p3)
                have Y3 := keep (Y2.out.put p3)
                have f3 := T3.out.fr
                clear h3 p3
                refine hK0.out _ _ f3 (fun _ => ?_)
                clear hK0 K
                try simp only [List.getElem_toArray, List.getElem_cons_succ, List.getElem_cons_zero, Act.put, List.setIfInBounds_toArray, List.set_cons_zero, List.set_cons_succ]
                refine wpAnyH_ready (rs := [16]) (by kernel_rfl) (by simp) ?_
                refine AllReadyH.cons rfl (fun K hK0 => ?_) AllReadyH.nil
                refine step_append_rw bool_elem bools_under (by decide) (wanted_plain16 rfl _) (.tmp 127) (.tmp 133) rfl R j rb (rows bc (rL j)) rfl T3.out.r.row (wr.drew.heap.size + 1) (some ⟨wr.drew.heap.size, 0, none⟩) 1 1 (bc f.ref) rfl rfl Y3.out.1 (bc_one _) (by simp only [maxLen]; omega) (by omega) ?_
                intro R2 rb2 V4 h4 p4
                have TE := keep (two_put T3.out.swap h4 p4).swap
                have f4 := TE.out.fr
                clear h4 p4
                refine hK0.out _ _ f4 (fun _ => ?_)
                clear hK0 K
                try simp only [List.getElem_toArray, List.getElem_cons_succ, List.getElem_cons_zero, Act.put, List.setIfInBounds_toArray, List.set_cons_zero, List.set_cons_succ]
                refine wpAnyH_take (i := 17) (v := ?_) rfl (by kernel_rfl) (by kernel_rfl) (by kernel_rfl) (fun _ _ _ h => h) (Or.inl ⟨by rfl, ?_⟩) (by assumption) ?_
                rotate_left
                · intro w' hSw
                  try dsimp only at hSw
                  go_simp
                  try with_reducible rfl
                try simp only [List.getElem_toArray, List.getElem_cons_succ, List.getElem_cons_zero, Act.put, List.setIfInBounds_toArray, List.set_cons_zero, List.set_cons_succ]
                refine wpAnyH_take (i := 18) (v := ?_) rfl (by kernel_rfl) (by kernel_rfl) (by kernel_rfl) (fun _ _ _ h => h) (Or.inl ⟨by rfl, ?_⟩) (by assumption) ?_
                rotate_left
                · intro w' hSw
                  try dsimp only at hSw
                  go_simp
                  try with_reducible rfl
                try simp only [List.getElem_toArray, List.getElem_cons_succ, List.getElem_cons_zero, Act.put, List.setIfInBounds_toArray, List.set_cons_zero, List.set_cons_succ]
                refine wpAnyH_done (by kernel_rfl) ?_ _
                refine NoPanic.normal ?_
                go_wp2_with fail
                go_roundg (gk - 1)
                case measure => omega
                case rel =>
                  refine ⟨j + 1, cb2, rb2, C2, R2, by omega, rfl, rfl, rfl, ?_⟩
                  rw [HCJ.out.1, HCJ.out.2]
                  exact keep TE.out
            · obtain rfl : j = 6 := by omega
              have HE := keep (show TwoB w9 wr C R 6 cb 6 rb (fs.map fun f => f.pins == 0) (fs.map fun f => f.ref) from by
                have := HI2.out
                rw [HcL.out, HrL.out] at this
                simp only [List.take_of_length_le (Nat.le_of_eq HFL.out)] at this
                exact this)
              clear hlt
              go_wp2_with fail
              go_meet
              exact ⟨cb, rb, C, R, rfl, rfl, HE⟩
        case rest =>
          obtain ⟨cb, rb, C, R, rfl, rfl, HT⟩ := hcut
          have hcan : canL fs = fs.map fun f => f.pins == 0 := by rw [HFS.out]; exact k_can _ _ _ _
          have hcl : (canL fs).length = 6 := by rw [hcan, List.length_map]; exact HFL.out
          have hrl : (refL fs).length = 6 := by unfold refL; rw [List.length_map]; exact HFL.out
          obtain ⟨hw1, hw2, hw3⟩ := ord_went (z := 1) hcl hrl (by decide)
          have hw3' : (ordL (canL fs) (refL fs) 1).length = 5 := by rw [hw3, HFS.out]; exact k_cnt _ _ _ hd2l
          have hsame := ord_same (canL fs) (refL fs) 1
          rw [hcl] at hsame
          have HHAS : Hid (Has wc wc.heap.size C (rows bc (canL fs)) ∧ Has wc wc.heap.size R (rows bc (refL fs))) := keep ⟨by rw [hcan]; exact HT.out.c.row.has, HT.out.r.row.has⟩
          have cO := keep (rorder_at (cc := cb) (rc := rb) (z := 1) HHAS.out.1 hcl HHAS.out.2 hrl (by decide))
          obtain ⟨os, hos⟩ : ∃ os, os = ordL (canL fs) (refL fs) 1 := ⟨_, rfl⟩
          rw [← hos] at hsame hw3' hw1 cO
          have HW1 := keep hw1
          have HW3 := keep hw3'
          have HU0 : Hid (∃ u : Ca RN, Own6 u.fs ∧ ordD (7 - 0) (canL u.fs) (refL u.fs) u.hand = os.drop 0 ∧ freeN u.fs = 0 ∧ QL w wc g 6 (300 + 0) u) := keep
            ⟨kS lfN (fun i => if i = d2 then true else r i) (fun i => if i = d2 then 1 else 0) 1, own6_k lfN (fun i => if i = d2 then true else r i) (fun i => if i = d2 then 1 else 0), by rw [List.drop_zero, ← hsame, HFS.out]; rfl, k_free _ _ _ _, (HS.out.more (by decide)).fr HT.out.fr⟩
          have HQR := keep (HQ.out.1.fr HT.out.fr)
          clear hcan hcl hrl hw1 hw2 hw3 hw3' hsame hos
          go_wp2_with (first
            | (go_at_call 26; (with_reducible refine cO.out.mono ?_); rintro e w20 ⟨O, ko, oc, rfl, H20⟩; have hko : ko = 5 := (by { have := H20.out.1.len; unfold oi at this; rw [List.length_map, HW3.out] at this; exact this.symm }); subst hko; obtain ⟨bO, oO, hO⟩ := H20.out.1.row.addr (by decide); subst hO; have H21 := keep (show (∃ u : Ca RN, Own6 u.fs ∧ ordD (7 - 0) (canL u.fs) (refL u.fs) u.hand = os.drop 0 ∧ freeN u.fs = 0 ∧ QL w w20 g 6 (300 + 0) u) ∧ Rw w20 49 13 (some ⟨bQ, oQ, none⟩) 6 qc (rows fac l') ∧ Rw w20 3 1 (some ⟨bO, oO, none⟩) 5 oc (rows ic (oi os)) from ⟨by { obtain ⟨u, a1, a2, a3, a4⟩ := HU0.out; exact ⟨u, a1, a2, a3, a4.fr H20.out.2⟩ }, HQR.out.fr H20.out.2, H20.out.1.row⟩))
            | fail)
          go_loopg [19] 5 (fun gg s19 wr => ∃ i : Nat, i + gg = 5 ∧ s19 = .int .i64 i ∧ Hid ((∃ u : Ca RN, Own6 u.fs ∧ ordD (7 - i) (canL u.fs) (refL u.fs) u.hand = os.drop i ∧ freeN u.fs = i ∧ QL w wr g 6 (300 + i) u) ∧ Rw wr 49 13 (some ⟨bQ, oQ, none⟩) 6 qc (rows fac l') ∧ Rw wr 3 1 (some ⟨bO, oO, none⟩) 5 oc (rows ic (oi os))))
          case atStart => exact ⟨0, by omega, rfl, H21⟩
          case round =>
            obtain ⟨i, hi, rfl, HJ⟩ := hrel
            obtain ⟨⟨u, u1, u2, u3, u4⟩, u5, u6⟩ := HJ.out
            have HQ5 := keep u5
            have HO5 := keep u6
            have HU4 := keep u4
            clear HJ u4 u5 u6 H21 HU0
            by_cases hlt : i < 5
            · have hiz : (i : Int) < 5 := by omega
              have wi : IntKind.i64.wrap ((i : Int) + 1) = (i : Int) + 1 := by rw [IntKind.wrap_i64]; omega
              obtain ⟨k, hk⟩ : ∃ k, os[i]? = some k := ⟨os[i]'(by rw [HW3.out]; exact hlt), List.getElem?_eq_getElem _⟩
              have hdr : os.drop i = k :: os.drop (i + 1) := by
                obtain ⟨h1, h2⟩ := List.getElem?_eq_some_iff.1 hk
                rw [← h2]
                exact List.drop_eq_getElem_cons h1
              obtain ⟨hk6, -⟩ := HW1.out k (List.mem_of_getElem? hk)
              rw [hdr, show 7 - i = (6 - i) + 1 by omega] at u2
              obtain ⟨f, u', v1, v2, v3, -, v5, v6, v7, -⟩ := ev_step u1 u2
              obtain ⟨f0, hf0, hf0b⟩ : ∃ f0, fs[k]? = some f0 ∧ f0.blk = (k : Int) := by
                obtain ⟨f0, h0⟩ : ∃ f0, fs[k]? = some f0 := ⟨fs[k]'(by rw [HFL.out]; exact hk6), List.getElem?_eq_getElem _⟩
                refine ⟨f0, h0, ?_⟩
                rw [HFS.out] at h0
                exact (own6_k lfN (fun i => if i = d2 then true else r i) (fun i => if i = d2 then 1 else 0) k f0 h0 (by match k, hk6, h0 with | 0, _, h | 1, _, h | 2, _, h | 3, _, h | 4, _, h | 5, _, h => injection h with h; rw [← h])).1
              have HF0 := keep hf0
              have HF0B := keep hf0b
              have HOK := keep (show (oi os)[i]? = some (k : Int) from by unfold oi; rw [List.getElem?_map, hk]; rfl)
              have hkz : (k : Int) < 6 := by omega
              have hkk : ((k : Int) != (k : Int)) = false := by simp
              have V1 := keep v1
              have V2 := keep v2
              have V3 := keep v3
              have V5 := keep (show Own6 u'.fs ∧ ordD (7 - (i + 1)) (canL u'.fs) (refL u'.fs) u'.hand = os.drop (i + 1) ∧ freeN u'.fs = i + 1 from ⟨v5, by rw [show 7 - (i + 1) = 6 - i by omega]; exact v6, by rw [v7, u3]⟩)
              have HLT := keep hlt
              clear hlt hk hdr u1 u2 u3 v1 v2 v3 v5 v6 v7 hf0 hf0b
              go_wp2_with (first
                | (go_at_call 18; (with_reducible refine (x_evict HU4.out V1.out V2.out V3.out).mono ?_); rintro e w22 ⟨v22, rfl, H22⟩)
                | (refine wpList_store_at (ds := v22.cells) node16_info rfl (.tmp 21) (.tmp 148) rfl w22.heap.size 0 rfl rfl rfl (nv_onex v22) (Arr.new w22 zeroNV.cells.toArray 41) (by decide) (splice_all _ _ (by show 5 ≤ 5; decide)) ?_; intro W23 hA23 hk23; have F23 := hk23.fr (fr_new (fr_refl w22) _) (Nat.le_refl _); have H23 := keep (H22.out.1.fr F23); have HQ6 := keep ((H22.out.2.rw HQ5.out (by decide) (by decide) (by decide)).fr F23); have HO6 := keep ((H22.out.2.rw HO5.out (by decide) (by decide) (by decide)).fr F23); have lO := ri_at HO6.out HOK.out; have lF := (told_cells HQ6.out HQ.out.2 HF0.out).2.1; rw [HF0B.out] at lF; clear hA23 hk23 F23)
                | fail)
              go_roundg (gk - 1)
              case measure => have := HLT.out; omega
              case rel => exact ⟨i + 1, by have := HLT.out; omega, rfl, keep ⟨⟨u', V5.out.1, V5.out.2.1, V5.out.2.2, H23.out⟩, HQ6.out, HO6.out⟩⟩
            · obtain rfl : i = 5 := by omega
              have he : evictC u = (none, u) := ev_end (m := 1) (by
                have h9 : os.drop 5 = [] := List.drop_eq_nil_of_le (Nat.le_of_eq HW3.out)
                rw [h9] at u2
                exact u2)
              have hfr := u3
              obtain ⟨wo2, rfl⟩ : ∃ x, x = wr := ⟨_, rfl⟩
              obtain ⟨gk2, rfl⟩ : ∃ x, x = gk := ⟨_, rfl⟩
              have HE := keep he
              have HFR := keep hfr
              clear hlt he hfr u1 u2 u3
              go_wp2_with (first
                | (go_at_call 18; (with_reducible refine (x_evict_no HU4.out HE.out).mono ?_); rintro e w24 ⟨rfl, H24⟩)
                | (refine wpList_store_at (ds := zeroNV.cells) node16_info rfl (.tmp 25) (.tmp 172) rfl w24.heap.size 0 rfl rfl rfl (nv_onex zeroNV) (Arr.new w24 zeroNV.cells.toArray 41) (by decide) (splice_all _ _ (by show 5 ≤ 5; decide)) ?_; intro W25 hA25 hk25; have H25 := keep (H24.out.1.fr (hk25.fr (fr_new (fr_refl w24) _) (Nat.le_refl _))); clear hA25 hk25)
                | (go_at_call 23; (with_reducible refine (x_free H25.out HFR.out (R := 5) rfl).mono ?_); rintro e w26 ⟨rfl, f26⟩; have H26 := keep (H25.out.fr f26); clear f26)
                | (go_at_call 9; (with_reducible refine (awake16 _).mono ?_); rintro e w27 ⟨rfl, f27⟩; have HZ := keep (fr_step H26.out.frw f27))
                | fail)
              go_ret
              exact ⟨rfl, HZ.out⟩
end Go.Proofs.Ytmoaddbpfekdbaa
