/- CacheLoads, walked. -/
import Derived.Test.YtmoaddbpfekdbaaPg13
import Derived.Test.YtmoaddbpfekdbaaM20
namespace Go.Proofs.Ytmoaddbpfekdbaa
set_option linter.unusedVariables false
set_option linter.unusedSimpArgs false
set_option linter.unusedSectionVars false
set_option maxRecDepth 100000
open Go.RowKit
attribute [local go_sem ↓] node16_ld
/-- The cache, and the row of those who came. -/
structure LoadS (w W : World) (g K : Nat) (b : Int) (C : Option Addr) (cC : Nat) (cm : List Int) : Prop where
  q : QL w W g 3 K (ldC b cm)
  row : Rw W 3 1 C cm.length cC (rows ic cm)
  new : ∀ k, At C k → w.heap.size ≤ k
  once : cm.Nodup
section
variable {w W W' : World} {g K K' cC : Nat} {b : Int} {C C' : Option Addr} {cm : List Int}
theorem LoadS.fr (h : LoadS w W g K b C cC cm) (f : Fr W W') : LoadS w W' g K b C cC cm := ⟨h.q.fr f, h.row.fr f, h.new, h.once⟩
theorem LoadS.more (h : LoadS w W g K b C cC cm) (k : K ≤ K') : LoadS w W g K' b C cC cm := ⟨h.q.more k, h.row, h.new, h.once⟩
theorem LoadS.turn (h : LoadS w W g K b C cC cm) (q : QL w W' g 3 K' (ldC b cm)) (k : KeepT W W') : LoadS w W' g K' b C cC cm := ⟨q, k.rw h.row (by decide) (by decide) (by decide), h.new, h.once⟩
theorem LoadS.zero {t0 : Int} {ts : List Int} (h : LoadS w W g K b C cC (t0 :: ts)) : ∃ bC oC, C = some ⟨bC, oC, none⟩ ∧ W.cell? ⟨bC, oC, none⟩ = some (.int .i64 t0) := by
  obtain ⟨bC, oC, rfl⟩ := h.row.addr (by simp)
  exact ⟨bC, oC, rfl, ri_at h.row (i := 0) rfl⟩
theorem LoadS.zero1 {t0 : Int} {ts : List Int} {bC oC : Nat} (h : LoadS w W g K b (some ⟨bC, oC, none⟩) cC (t0 :: ts)) : W.cell? ⟨bC, oC, none⟩ = some (.int .i64 t0) := ri_at h.row (i := 0) rfl
/-- One more has come: the cache is turned, the row is to grow. -/
structure LoadH (w W : World) (g K : Nat) (b t : Int) (C : Option Addr) (cC : Nat) (cm : List Int) : Prop where
  q : QL w W g 3 K (ldC b (cm ++ [t]))
  row : Rw W 3 1 C cm.length cC (rows ic cm)
  new : ∀ k, At C k → w.heap.size ≤ k
  once : (cm ++ [t]).Nodup
theorem LoadH.fr {t : Int} (h : LoadH w W g K b t C cC cm) (f : Fr W W') : LoadH w W' g K b t C cC cm := ⟨h.q.fr f, h.row.fr f, h.new, h.once⟩
theorem LoadS.come {t : Int} (h : LoadS w W g K b C cC cm) (hn : t ∉ cm) (q : QL w W' g 3 K' (ldC b (cm ++ [t]))) (k : KeepT W W') : LoadH w W' g K' b t C cC cm :=
  ⟨q, k.rw h.row (by decide) (by decide) (by decide), h.new, by rw [List.nodup_append]; exact ⟨h.once, by simp, fun a ha b hb => by rw [List.mem_singleton.1 hb]; exact fun e => hn (e ▸ ha)⟩⟩
theorem LoadH.push {t : Int} {c' : Nat} (h : LoadH w W g K b t C cC cm) (r : Rw W' 3 1 C' (cm.length + 1) c' (rows ic cm ++ ic t)) (p : Put W W' C C') : LoadS w W' g K b C' c' (cm ++ [t]) :=
  ⟨h.q.beside (ld_bare b _) p.chg fun i hi => ⟨h.new i hi, h.row.arrT hi⟩, by rw [List.length_append, rows_append, rows_single]; exact r, fun k hk => by
    rcases p.blk k hk with e | e
    · exact h.new k e
    · exact Nat.le_trans h.q.frw.size e, h.once⟩
end
/-- Those who waited, as the row tells them behind the first. -/
theorem ld_same {W : World} {C O A2 : Option Addr} {n1 cC c3 c2 : Nat} {t0 : Int} {ts : List Int} (hr : Rw W 3 1 C (t0 :: ts).length cC (rows ic (t0 :: ts))) (ho : Rw W 3 1 O n1 c3 (rows ic ts)) (hts : ts.length = n1) (hn : n1 + 1 ≤ 40) (h2 : ∀ b o, C = some ⟨b, o, none⟩ → 0 < n1 → n1 + 1 ≤ cC → A2 = some ⟨b, o + 1, none⟩) :
    Calls Try.prog 22 #[.slice O n1 c3, .slice A2 n1 c2] W fun e w' => e = .returned (.bool true) ∧ Fr W w' := by
  have hh : Has W W.heap.size A2 (ints ts) := fun j u hu => by
    have hj : j < n1 := by rw [← hts, ← ints_len ts]; exact (List.getElem?_eq_some_iff.1 hu).1
    have hcap := hr.cap
    rw [List.length_cons, hts] at hcap
    have hu' : (rows ic (t0 :: ts))[j + 1]? = some u := by rw [ic_ints]; exact hu
    obtain ⟨b, o, e1, e2, e3⟩ := hr.has (j + 1) u hu'
    refine ⟨b, o + 1, h2 b o e1 (by omega) hcap, e2, ?_⟩
    rw [show o + 1 + j = o + (j + 1) by omega]
    exact e3
  refine (sameints_at (l := ts) (l2 := ts) (by rw [← ic_ints]; exact ho.has) (Nat.le_refl _) hts (by omega) hh (Nat.le_refl _) hts (by omega) (fr_refl W)).mono ?_
  rintro e w' ⟨rfl, f⟩
  exact ⟨by simp, f⟩
theorem loads_mod {z : Int} (h : 0 ≤ z ∧ z ≤ 255) : ∃ d : Int, Int.tmod z 8 = d ∧ (0 ≤ d ∧ d < 8) := ⟨_, rfl, by rw [Int.tmod_eq_emod_of_nonneg (by omega)]; omega⟩
set_option maxHeartbeats 32000000 in
theorem loads_core {w : World} {A : Option Addr} {m cc : Nat} {l : List Int} {b : Int} (hb : -9223372036854775808 ≤ b ∧ b ≤ 9223372036854775807) (hl : l.length = m) (hm : m ≤ maxLen) (hB : Bytes l) (hA : Has w w.heap.size A (u8s l)) :
    Calls Try.prog 4 #[.int .i64 b, .slice A m cc] w fun e w' => e = .returned (.bool true) ∧ Fr w w' := by
  obtain ⟨bA, oA, hA⟩ := u8_at hA hl
  have HA := keep hA
  have HB := keep hB
  have hmm : m ≤ maxLen := hm
  obtain ⟨a, ha, hal⟩ : ∃ a : Int, b % 256 = a ∧ (0 ≤ a ∧ a < 256) := ⟨_, rfl, by omega, by omega⟩
  have hP : ∀ W, Calls Try.prog 19 #[.int .i64 b, .int .i64 256] W fun e w' => e = .returned (.int .i64 a) ∧ Fr W w' := fun W => by
    rw [← ha]
    exact law_place b 256 hb (by decide) (by decide) W
  have isa : W64 a := ⟨by omega, by omega⟩
  clear hA hl hB hm hb ha
  go_enter Try.func4, Try.ntmps4
  go_upto_block 0 with (first
    | (go_at_call 8; (with_reducible refine (x_new _ 3 (N := 3) rfl (by decide) (by decide)).mono ?_); rintro e w1 ⟨g, rfl, H1⟩; have HW1 := keep (show LoadS w w1 g 10 a none 0 [] from ⟨H1.out.more (by decide), Rw.nil _ _ _, (fun k hk => by cases hk), .nil⟩); clear H1)
    | (go_at_call 19; (with_reducible refine (hP _).mono ?_); rintro e w2 ⟨rfl, f2⟩; have H2 := keep (HW1.out.fr f2); clear f2)
    | fail)
  go_cut [8, 9] from 29 to 82 (fun s8 _ W => ∃ (C : Option Addr) (cC : Nat) (cm : List Int) (n : Nat), n ≤ 40 ∧ s8 = .slice C n cC ∧ Hid (n = cm.length ∧ LoadS w W g 500 a C cC cm))
  case first =>
    go_wp2_with fail
    go_loopg [8, 9] 40 (fun gg s8 s9 wr => ∃ (j n cC : Nat) (C : Option Addr) (cm : List Int), j + gg = 40 ∧ n = cm.length ∧ n ≤ j ∧ s8 = .slice C n cC ∧ s9 = .int .i64 j ∧ Hid (LoadS w wr g (10 + 10 * j) a C cC cm))
    case atStart => exact ⟨0, 0, 0, none, [], by omega, rfl, by omega, rfl, rfl, H2⟩
    case round =>
      obtain ⟨j, n, cC, C, cm, hj, hn, hnj, rfl, rfl, HI⟩ := hrel
      by_cases hjm : j < m
      · have hjz : (j : Int) < (m : Int) := by omega
        by_cases hj40 : j < 40
        · have hj40z : (j : Int) < 40 := by omega
          obtain ⟨e1, z, hz, e2⟩ := HA.out j hjm
          subst e1
          obtain ⟨d, hd, hdl⟩ := loads_mod (HB.out z (List.mem_of_getElem? hz))
          have lX := e2 wr HI.out.q.frw
          have wd : IntKind.i64.wrap d = d := by rw [IntKind.wrap_i64]; omega
          have isd : W64 d := ⟨by omega, by omega⟩
          have wi : IntKind.i64.wrap ((j : Int) + 1) = (j : Int) + 1 := by rw [IntKind.wrap_i64]; omega
          have hK : 10 + 10 * j ≤ 1000 := by omega
          have hK1 : 10 + 10 * j + 1 ≤ 1000 := by omega
          have hsm : n ≤ maxLen := by simp only [maxLen]; omega
          have hnn : n ≤ 40 := by omega
          have HJ := keep (show j + gk = 40 ∧ n ≤ j ∧ j < 40 from ⟨hj, hnj, hj40⟩)
          have cP := keep (rplace_int (W0 := wr) (w := wr) (v := d) (c := cC) (by rw [← ic_ints]; exact HI.out.row.has) (Nat.le_refl _) hn.symm hsm (fr_refl _))
          clear hjm hj40 hz e2 hj hnj
          by_cases hin : d ∈ cm
          · cases cm with
            | nil => simp at hin
            | cons t0 ts =>
              obtain ⟨p, hp⟩ : ∃ p, p = plc (t0 :: ts) d := ⟨_, rfl⟩
              have hp0 : 0 ≤ p := by rw [hp]; exact plc_nn.2 hin
              rw [← hp] at cP
              clear hp
              obtain ⟨n1, rfl⟩ : ∃ n1, n = n1 + 1 := ⟨ts.length, by rw [hn]; rfl⟩
              have hn0 : (((n1 + 1 : Nat) : Int) == 0) = false := by simp; omega
              obtain ⟨bC, oC, hC, lC⟩ := HI.out.zero
              subst hC
              by_cases hd0 : d = t0
              · subst hd0
                have hne : (d != d) = false := by simp
                have Hn := keep hn
                clear hin hn
                go_wp2_with (first
                  | (go_at_call 20; (with_reducible refine cP.out.mono ?_); rintro e w3 ⟨rfl, f3⟩; have H3 := keep (HI.out.fr f3); have lC3 := H3.out.zero1; clear f3)
                  | fail)
                go_roundg (gk - 1)
                case measure => have := HJ.out; omega
                case rel => exact ⟨j + 1, n1 + 1, cC, _, d :: ts, by have := HJ.out; omega, Hn.out, by have := HJ.out; omega, rfl, rfl, keep (H3.out.more (by omega))⟩

              · have hne : (d != t0) = true := by simpa using hd0
                have q1 := ld_again (V := RN) (b := a) (t0 := t0) (show d ∈ ts by simpa [hd0] using hin)
                have Hn := keep hn
                clear hin hn hd0
                go_wp2_with (first
                  | (go_at_call 20; (with_reducible refine cP.out.mono ?_); rintro e w3 ⟨rfl, f3⟩; have H3 := keep (HI.out.fr f3); have lC3 := H3.out.zero1; clear f3)
                  | (go_at_call 12; (with_reducible refine (x_pin H3.out.q hK q1).mono ?_); rintro e w4 ⟨rfl, H4⟩; have H5 := keep (H3.out.turn H4.out.1 H4.out.2))
                  | fail)
                go_roundg (gk - 1)
                case measure => have := HJ.out; omega
                case rel => exact ⟨j + 1, n1 + 1, cC, _, t0 :: ts, by have := HJ.out; omega, Hn.out, by have := HJ.out; omega, rfl, rfl, keep (H5.out.more (by omega))⟩

          · cases cm with
            | nil =>
              obtain rfl : n = 0 := hn
              rw [plc_miss hin] at cP
              have q1 : pinC (ldC (V := RN) a ([])) d a = (3, ldC a ([] ++ [d])) := ld_first hal hdl
              have q2 : mayC (ldC (V := RN) a ([] ++ [d])) d = _ := ld_may1 hdl
              have HIN := keep hin
              clear hin
              go_wp2_with (first
                | (go_at_call 20; (with_reducible refine cP.out.mono ?_); rintro e w3 ⟨rfl, f3⟩; have H3 := keep (HI.out.fr f3); clear f3)
                | (go_at_call 12; (with_reducible refine (x_pin H3.out.q hK q1).mono ?_); rintro e w4 ⟨rfl, H4⟩; have H5 := keep (H3.out.come HIN.out H4.out.1 H4.out.2))
                | (go_at_call 21; (with_reducible refine (x_may H5.out.q hK1 q2).mono ?_); rintro e w5 ⟨rfl, f5⟩; have HO := keep ((H5.out.fr f5).fr (fr_new (fr_refl w5) (.cells #[.int .i64 d] 3))); clear f5)
                | (refine wpList_append_rw int_elem ints_under (by decide) rfl (.tmp 79) (.tmp 81) rfl C 0 cC (rows ic ([])) rfl (HO.out.row) (w5.heap.size + 1) (some ⟨w5.heap.size, 0, none⟩) 1 1 (ic d) rfl rfl (has_new w5 (ic d) 3) (ic_one _) (by simp only [maxLen]; omega) (by omega) ?_; intro C2 c2 w6 h6 p6; have H6 := keep (HO.out.push (by skip; exact h6) p6); clear h6 p6)
                | fail)
              go_roundg (gk - 1)
              case measure => have := HJ.out; omega
              case rel => exact ⟨j + 1, 0 + 1, c2, C2, [] ++ [d], by have := HJ.out; omega, rfl, by have := HJ.out; omega, rfl, rfl, keep (H6.out.more (by omega))⟩
            | cons t0 ts =>
              obtain ⟨n1, rfl⟩ : ∃ n1, n = n1 + 1 := ⟨ts.length, by rw [hn]; rfl⟩
              have hn0 : (((n1 + 1 : Nat) : Int) == 0) = false := by simp; omega
              rw [plc_miss hin] at cP
              have q1 : pinC (ldC (V := RN) a (t0 :: ts)) d a = (2, ldC a (t0 :: ts ++ [d])) := ld_next hal hdl (fun h => hin (List.mem_cons_of_mem _ h))
              have q2 : mayC (ldC (V := RN) a (t0 :: ts ++ [d])) d = _ := ld_may2 (List.mem_append_right _ (List.mem_singleton.2 rfl))
              have HIN := keep hin
              have Hn := keep hn
              clear hin hn
              go_wp2_with (first
                | (go_at_call 20; (with_reducible refine cP.out.mono ?_); rintro e w3 ⟨rfl, f3⟩; have H3 := keep (HI.out.fr f3); clear f3)
                | (go_at_call 12; (with_reducible refine (x_pin H3.out.q hK q1).mono ?_); rintro e w4 ⟨rfl, H4⟩; have H5 := keep (H3.out.come HIN.out H4.out.1 H4.out.2))
                | (go_at_call 21; (with_reducible refine (x_may H5.out.q hK1 q2).mono ?_); rintro e w5 ⟨rfl, f5⟩; have HO := keep ((H5.out.fr f5).fr (fr_new (fr_refl w5) (.cells #[.int .i64 d] 3))); clear f5)
                | (refine wpList_append_rw int_elem ints_under (by decide) rfl (.tmp 79) (.tmp 81) rfl C (n1 + 1) cC (rows ic (t0 :: ts)) rfl (by rw [Hn.out]; exact HO.out.row) (w5.heap.size + 1) (some ⟨w5.heap.size, 0, none⟩) 1 1 (ic d) rfl rfl (has_new w5 (ic d) 3) (ic_one _) (by simp only [maxLen]; omega) (by omega) ?_; intro C2 c2 w6 h6 p6; have H6 := keep (HO.out.push (by rw [← Hn.out]; exact h6) p6); clear h6 p6)
                | fail)
              go_roundg (gk - 1)
              case measure => have := HJ.out; omega
              case rel => exact ⟨j + 1, (n1 + 1) + 1, c2, C2, t0 :: ts ++ [d], by have := HJ.out; omega, by rw [List.length_append, ← Hn.out]; rfl, by have := HJ.out; omega, rfl, rfl, keep (H6.out.more (by omega))⟩

        · have hj40z : ¬ (j : Int) < 40 := by omega
          have HE := keep (show n = cm.length ∧ LoadS w wr g 500 a C cC cm from ⟨hn, HI.out.more (by omega)⟩)
          have hn40 : n ≤ 40 := by omega
          clear hjm hj40 hn
          go_wp2_with fail
          go_meet
          exact ⟨C, cC, cm, n, hn40, rfl, HE⟩
      · have hjz : ¬ (j : Int) < (m : Int) := by omega
        have HE := keep (show n = cm.length ∧ LoadS w wr g 500 a C cC cm from ⟨hn, HI.out.more (by omega)⟩)
        have hn40 : n ≤ 40 := by omega
        clear hjm hn
        go_wp2_with fail
        go_meet
        exact ⟨C, cC, cm, n, hn40, rfl, HE⟩
  case rest =>
    obtain ⟨C, cC, cm, n, hn40, rfl, HC0⟩ := hcut
    obtain ⟨hn, hc0⟩ := HC0.out
    have HC := keep hc0
    clear HC0 hc0
    cases cm with
    | nil =>
      obtain rfl : n = 0 := hn
      have q1 : fillC (ldC (V := RN) a []) a lfX.n = ([], false, ldC a []) := ld_fill0 a lfX.n
      clear hn40 H2
      go_wp2_with (first
        | (go_at_call 13; (with_reducible refine (x_fill HC.out.q (by decide) isa lfX lf_val (lf_np _ (fun _ => True)) q1 rfl).mono ?_); rintro e w3 ⟨O3, c3, rfl, H3⟩)
        | (go_at_call 9; (with_reducible refine (awake16 _).mono ?_); rintro e w4 ⟨rfl, f4⟩; have HZ := keep (fr_step H3.out.2.1.frw f4))
        | fail)
      go_ret
      exact ⟨rfl, HZ.out⟩
    | cons t0 ts =>
      obtain ⟨n1, rfl⟩ : ∃ n1, n = n1 + 1 := ⟨ts.length, by rw [hn]; rfl⟩
      have hts : ts.length = n1 := by simpa using hn.symm
      have hn0 : (((n1 + 1 : Nat) : Int) == 0) = false := by simp; omega
      have q1 : fillC (ldC (V := RN) a (t0 :: ts)) a lfX.n = _ := ld_fill hal lfX.n
      have Hn := keep hn
      have Hts := keep hts
      have HN40 := keep hn40
      clear hn40 H2 hn hts
      go_wp2_with (first
        | (go_at_call 13; (with_reducible refine (x_fill HC.out.q (by decide) isa lfX lf_val (lf_np _ (fun _ => True)) q1 Hts.out).mono ?_); rintro e w3 ⟨O3, c3, rfl, H3⟩; have HR3 := keep (H3.out.2.2.rw HC.out.row (by decide) (by decide) (by decide)))
        | (go_at_call 10; (with_reducible refine (x_frames H3.out.2.1).mono ?_); rintro e w4 ⟨Q, qc, l', rfl, H4⟩; obtain ⟨bQ, oQ, hQ⟩ := H4.out.1.res.row.addr (by decide); subst hQ; have HR4 := keep (HR3.out.fr H4.out.2); have HI4 := keep (H3.out.1.row.fr H4.out.2); have H5 := keep (H3.out.2.1.fr H4.out.2); have HT := keep (show Rw w4 49 13 (some ⟨bQ, oQ, none⟩) 3 qc (rows fac l') ∧ l'.map (mF NX.n) = [⟨2, a, (ts.length : Int) + 1, true, false, lfX.n, 0⟩, freeF, freeF] from ⟨H4.out.1.res.row, H4.out.1.same⟩); have hpin : ((ts.length : Nat) : Int) + 1 = (n1 : Int) + 1 := by rw [Hts.out])
        | (go_at_call 22; (with_reducible refine (ld_same HR4.out HI4.out Hts.out HN40.out (by intro b o e h1 h2; first | (simp [e]; done) | (exfalso; simp at *; omega))).mono ?_); rintro e w5 ⟨rfl, f5⟩; have H6 := keep (H5.out.fr f5); have lT := told_cells (HT.out.1.fr f5) HT.out.2 (i := 0) rfl; have lP := lT.2.2.1; have lS := lT.1; simp only [Nat.zero_mul, Nat.add_zero] at lP lS; rw [hpin] at lP; clear lT f5)
        | (go_at_call 23; (with_reducible refine (x_free H6.out (ld_free _) (R := 2) rfl).mono ?_); rintro e w7 ⟨rfl, f7⟩; have H8 := keep (H6.out.fr f7); clear f7)
        | (go_at_call 9; (with_reducible refine (awake16 _).mono ?_); rintro e w9 ⟨rfl, f9⟩; have HZ := keep (fr_step H8.out.frw f9))
        | fail)
      all_goals (go_ret; exact ⟨rfl, HZ.out⟩)
end Go.Proofs.Ytmoaddbpfekdbaa
