/- KeyMaps, walked. -/
import Derived.Test.YtignnjflodkihaaKeyT
import Derived.RegionTactic
import Derived.BigRegion
namespace Go.Proofs.Ytignnjflodkihaa
open Go.RowKit Go.Maps
set_option linter.unusedVariables false
attribute [local go_sem ↓] key_ld
theorem has_key_new_at (w : World) (k : RK) (t : TypeId) {g : Nat} (hg : g = w.heap.size) : Has (w.alloc (.cells (kc k).toArray t)) (g + 1) (some ⟨g, 0, none⟩) (kc k) := by
  subst hg; exact has_key_new w k t
set_option maxRecDepth 100000 in
set_option maxHeartbeats 8000000 in
theorem keyMaps_core (A : Option Addr) (n c : Nat) (ss : List ByteArray) (w : World) (hl : ss.length = n) (hnm : n ≤ maxLen) (hsz : ∀ s ∈ ss, s.size ≤ maxLen) (hr : Has w w.heap.size A (ss.map Value.string)) :
    Calls Try.prog 3 #[.slice A n c] w fun e w' => e = .returned (.bool true) ∧ Below w.heap.size w w' := by
  unfold maxLen at hnm hsz
  have Hl := keep hl
  clear hl
  by_cases hn : n ≤ 40
  · have d1 : decide ((40 : Int) < (n : Int)) = false := by simp; omega
    have hmm := @run_makeMap Try.prog
    have hI0 := Inv.start w
    go_enter Try.func3, Try.ntmps3
    go_wp2_with fail
    go_loopg [7, 8] n (fun g v i wr => ∃ (j : Nat) (A' : Option Addr) (c' : Nat), j + g = n ∧ i = .int .i64 j ∧ v = .slice A' j c' ∧ Hid (∀ s ∈ ss.take j, Sm s) ∧ Inv w wr A' c' ((ss.take j).map ofS) (ss.take j) (ss.take j) (prs (ss.take j)) (prs (ss.take j)))
    case atStart => exact ⟨0, none, 0, by omega, rfl, rfl, keep (by simp), by simpa [prs] using hI0⟩
    case round =>
      clear hI0 hmm
      obtain ⟨j, A1, c1, hj, rfl, rfl, Hs, hI⟩ := hrel
      have Hj := keep hj
      by_cases hlt : j < n
      · obtain ⟨s, hs⟩ : ∃ s, ss[j]? = some s := ⟨ss[j]'(by have := Hl.out; omega), List.getElem?_eq_getElem _⟩
        obtain ⟨b, off, rfl, hct⟩ := text_in hr hs
        have hsm := hsz s (List.mem_of_getElem? hs)
        have hFr := hI.fr
        by_cases h8 : s.size ≤ 8
        · have cO := fun (W : World) => key_of_fits s h8 W
          have d8 : decide ((8 : Int) < (s.size : Int)) = false := by simp; omega
          have hlen : ((ss.take j).map ofS).length = j := by rw [List.length_map, List.length_take]; have := Hl.out; omega
          have htl : (ss.take j).length ≤ 40 := by rw [List.length_take]; omega
          have hpl := prs_len (ss.take j)
          have Ht := keep (take_snoc hs)
          have Hs2 : Hid (∀ x ∈ ss.take (j + 1), Sm x) := keep (by
            rw [Ht.out]
            intro x hx
            rcases List.mem_append.1 hx with e | e
            · exact Hs.out x e
            · simp at e; rw [e]; exact h8)
          obtain ⟨i0, hi0, hz0, hz1, hz2⟩ := info_parts info_key
          have Hlen := keep hlen
          have Htl := keep htl
          have Hpl := keep hpl
          have H8 := keep h8
          clear hj hs h8 hlen htl hpl
          go_wp2_with fail
          refine (cO _).mono ?_
          rintro e w1 ⟨rfl, hf1⟩
          have hI1 := (hI.keep hf1).keep (fr_new (fr_refl w1) (.cells (kc (ofS s)).toArray 30))
          have hB1 := Arr.new w1 (kc (ofS s)).toArray 30
          have hFz := hI1.fr
          have tok : Hid (0 < 1) := keep Nat.one_pos
          go_wp2_with (first
            | (clear tok
               refine wpList_store_new keyS rfl (.tmp 9) (.tmp 39) rfl w1.heap.size (kc (ofS s)) rfl rfl rfl (kc_one _) rfl rfl ?_
               generalize hX : World.alloc w1 _ = W1 at hI1 hB1 hFz
               clear hX
               have lB := fun W (h : Fr W1 W) => keyS.ld rfl (hB1.below h hB1.lt)
               have hW1 := fr_refl W1
               have hO := hI1.own
               rw [Hlen.out] at hO
               have hs4 := hI1.size4
               have hne : some w1.heap.size ≠ blk A1 := fun e => by have h1 := (hI.own.lt _ e.symm).2; have h2 := hf1.size; omega
               have tok2 : Hid (0 < 1) := keep Nat.one_pos)
            | (at_builtin
               clear tok2
               refine wpList_append_has _ rfl (.tmp 43) (.tmp 45) 27 rfl (w.heap.size + 4) 30 i0 _ 9 16 Try.underlying27 hi0 hz0 hz1 hz2 rfl (by omega) A1 j c1 (flat ((ss.take j).map ofS)) rfl (hO.alloc _) _ _ 1 1 (kc (ofS s)) rfl rfl (has_key_new_at _ _ _ rfl) (kc_one _) (by unfold maxLen; omega) (by omega) (by simp; omega) ?_
               intro A2 c2 w4 ho4 hg4 _
               rw [show flat ((ss.take j).map ofS) ++ kc (ofS s) = flat ((ss.take j).map ofS ++ [ofS s]) from by rw [flat_append]; simp [flat]] at ho4
               have hI4 := (hI1.keep (fr_new hW1 _)).row (by rw [Hlen.out]; exact ho4) hg4
               have hB4 := (hB1.alloc _).grownO hg4 hne
               clear lB hW1 hO ho4 hg4 hne hI1 hB1 hs4)
            | fail)
          have hB5 := hB4.below (fr_drew (fr_refl w4)) hB4.lt
          have lB := keyS.ld (P := Try.prog) rfl hB5
          obtain ⟨q0, st0, x1, x2, hq1, hq2, r1, r2, r3, r4, hI5, g5⟩ := (hI4.keep (fr_drew (fr_refl w4))).inc0 (s := s) H8.out (by have := Htl.out; omega)
          have hw0 := wrap_ok hq1 hq2
          have hb5 := hB5.grownO g5 (by intro e; injection e with e; have h1 := hI.size4; have h2 := hf1.size; omega)
          have ht5 := hct x2 hI5.fr
          obtain ⟨q1, x3, hq3, hq4, r5, r6, hI6, g6⟩ := hI5.inc1 (s := s) H8.out (by have := Htl.out; omega)
          have hw1 := wrap_ok hq3 hq4
          have hb6 := hb5.grownO g6 (by intro e; injection e with e; have h1 := hI.size4; have h2 := hf1.size; omega)
          by_cases hj0 : 0 < j
          · have d0 : decide ((0 : Int) < (j : Int)) = true := by simpa using hj0
            obtain ⟨p, Hp⟩ : ∃ p, Hid (j = p + 1) := ⟨j - 1, keep (by omega)⟩
            obtain ⟨sp, hsp⟩ : ∃ sp, ss[p]? = some sp := ⟨ss[p]'(by have := Hl.out; have := Hp.out; omega), List.getElem?_eq_getElem _⟩
            have hpj : p < j := by have := Hp.out; omega
            have hpn : p < n := by have := Hj.out; omega
            have hspm : sp ∈ ss.take j := List.mem_of_getElem? (by rw [List.getElem?_take_of_lt hpj]; exact hsp)
            have Hsp8 := keep (Hs.out sp hspm)
            have hkp : ((ss.take j).map ofS ++ [ofS s])[p]? = some (ofS sp) := by
              rw [List.getElem?_append_left (by rw [Hlen.out]; exact hpj), List.getElem?_map, List.getElem?_take_of_lt hpj, hsp]; rfl
            obtain ⟨gA, offA, rfl, hgA, hKA⟩ := hask_at hI6.own.has hkp
            have hKA2 := hKA.below (fr_drew (fr_refl x3)) hgA
            have lA := ld_key hKA2
            have hB7 := hb6.below (fr_drew (fr_refl x3)) hb6.lt
            have lB7 := keyS.ld (P := Try.prog) rfl hB7
            obtain ⟨q2, st2, y1, y2, hq5, hq6, r7, r8, r9, r10, hI7, g7⟩ := (hI6.keep (fr_drew (fr_refl x3))).inc2 (s := sp) (t := s) Hsp8.out H8.out (by have := Htl.out; have := Hpl.out; omega)
            have hw2 := wrap_ok hq5 hq6
            have hjp : (j : Int) - 1 = p := by have := Hp.out; omega
            have hwp : IntKind.i64.wrap (p : Int) = p := by rw [IntKind.wrap_i64]; omega
            obtain ⟨b', off', eb, hct2⟩ := text_in hr hsp
            obtain ⟨rfl, rfl⟩ : b = b' ∧ off = off' := by simpa using eb
            have hI8 := (hI7.keep (fr_new (fr_refl y2) (.cells #[.int .u8 (sp.size : Int)] 5))).keep (fr_drew (fr_refl _))
            have hcv : (convert 36 9 (.slice (some ⟨y2.heap.size, 0, none⟩) 1 1)).run Try.prog (y2.alloc (.cells #[.int .u8 (sp.size : Int)] 5)).drew = .ok (.string (strOfNums [(sp.size : Int)])) (y2.alloc (.cells #[.int .u8 (sp.size : Int)] 5)).drew :=
              run_convert_bytes_arg _ 36 5 Try.underlying36 Try.underlying5 y2.heap.size 0 1 1 [(sp.size : Int)] rfl (fun i hi => by
                obtain rfl : i = 0 := by omega
                exact (arr_at y2 #[.int .u8 (sp.size : Int)] 5 _ rfl).cell 0) 9 Try.underlying9
            obtain ⟨q3, y3, hq7, hq8, r11, r12, hI9⟩ := hI8.inc3 (s := sp) (t := s) Hsp8.out H8.out (by have := Htl.out; have := Hpl.out; omega)
            have hw3 := wrap_ok hq7 hq8
            have hu8 : IntKind.u8.wrap (sp.size : Int) = sp.size := by rw [IntKind.wrap_u8]; have : sp.size ≤ 8 := Hsp8.out; omega
            have hT1 : (strOfNums [(sp.size : Int)]).size = 1 := rfl
            have hc1 : (strOfNums [(sp.size : Int)]).size + sp.size ≤ 9223372036854775807 := by have : sp.size ≤ 8 := Hsp8.out; omega
            have hc3 : (strOfNums [(sp.size : Int)]).size + sp.size + s.size ≤ 9223372036854775807 := by have : sp.size ≤ 8 := Hsp8.out; have := H8.out; omega
            have hc2 : (strOfNums [(sp.size : Int)] ++ sp).size + s.size ≤ 9223372036854775807 := by rw [ByteArray.size_append]; exact hc3
            replace r11 : (Instr.lookup 25 (.map (some (w.heap.size + 1 + 1 + 1))) (.string (strOfNums [(sp.size : Int)] ++ sp ++ s)) false).run Try.prog _ = _ := r11
            replace r12 : (Instr.mapUpdate 25 (.map (some (w.heap.size + 1 + 1 + 1))) (.string (strOfNums [(sp.size : Int)] ++ sp ++ s)) (.int .i64 (q3 + 1))).run Try.prog _ = _ := r12
            clear hT1
            generalize strOfNums [(sp.size : Int)] = T1 at *
            have ht7 := hct (y2.alloc (.cells #[.int .u8 (sp.size : Int)] 5)).drew hI8.fr
            have ht8 := hct2 (y2.alloc (.cells #[.int .u8 (sp.size : Int)] 5)).drew hI8.fr
            have ht9 := hct y2.drew (fr_step hI7.fr (fr_drew (fr_refl y2)))
            have ht10 := hct2 y2.drew (fr_step hI7.fr (fr_drew (fr_refl y2)))
            have ht11 := hct x3.drew (fr_step hI6.fr (fr_drew (fr_refl x3)))
            have ht12 := hct2 x3.drew (fr_step hI6.fr (fr_drew (fr_refl x3)))
            have HIa := keep hI7
            have HIb := keep hI9
            have Hlp := keep hsp
            clear hI hI4 hI5 hI6 hI7 hI8 hI9 g5 g6 g7 hb5 hb6 hB4 hB5 hB7 hKA hKA2 hct hct2 hsp hspm hkp eb
            go_region
            go_wp2_with fail
            go_region
            go_wp2_with fail
            go_region
            go_wp2_with fail
            go_roundg (gk - 1)
            case measure => have := Hj.out; omega
            case rel =>
              have hpr : prs (ss.take (j + 1)) = prs (ss.take j) ++ [(sp, s)] := by
                rw [Ht.out, show ss.take j = ss.take p ++ [sp] from by rw [Hp.out]; exact take_snoc Hlp.out]
                exact prs_snoc sp s _
              exact ⟨j + 1, some ⟨gA, offA, none⟩, c2, by have := Hj.out; omega, by go_num, rfl, Hs2, by rw [hpr, Ht.out, List.map_append]; exact HIb.out⟩
          · have d0 : decide ((0 : Int) < (j : Int)) = false := by simp; omega
            have Hz : Hid (j = 0) := keep (by omega)
            have d0n : decide (0 < j) = false := by simpa using hj0
            clear hI hI4 hI5 g5 g6 hb5 hb6 hB4 hB5 hct
            go_region
            go_wp2_with fail
            go_roundg (gk - 1)
            case measure => have := Hj.out; omega
            case rel =>
              have e0 : ss.take j = [] := by rw [Hz.out, List.take_zero]
              exact ⟨j + 1, A2, c2, by have := Hj.out; omega, by go_num, rfl, Hs2, by rw [Ht.out]; rw [e0] at hI6 ⊢; simpa [prs] using hI6⟩
        · have d8 : decide ((8 : Int) < (s.size : Int)) = true := by simp; omega
          have ht := hct wr hFr
          go_wp2_with fail
          refine (awake_at hI.fr).mono ?_
          rintro e w1 ⟨rfl, hf1⟩
          go_wp2_with fail
          go_ret
          exact ⟨rfl, hf1⟩
      · obtain rfl : j = n := by omega
        have hx : ss.take j = ss := by rw [← Hl.out, List.take_length]
        rw [hx] at hI Hs
        have Hk := keep (kinds_len Hs.out)
        have Hlm : Hid ((ss.map ofS).length = j) := keep (by rw [List.length_map, Hl.out])
        clear hj hx
        go_wp2_with fail
        obtain ⟨gq, rfl⟩ : ∃ gq : Nat, gq = gk := ⟨_, rfl⟩
        go_loopg [11] j (fun g i wq => ∃ i' : Nat, i' + g = j ∧ i = .int .i64 i' ∧ Inv w wq A1 c1 (ss.map ofS) ss ss (prs ss) (prs ss))
        case atStart => exact ⟨0, by omega, rfl, hI⟩
        case round =>
          clear hI
          obtain ⟨i, hi, rfl, hI⟩ := hrel
          have Hi := keep hi
          by_cases hlt2 : i < j
          · obtain ⟨s, hs⟩ : ∃ s, ss[i]? = some s := ⟨ss[i]'(by have := Hl.out; omega), List.getElem?_eq_getElem _⟩
            have hsm := Hs.out s (List.mem_of_getElem? hs)
            obtain ⟨b, off, rfl, hct⟩ := text_in hr hs
            obtain ⟨gA, offA, rfl, hgA, hKA⟩ := hask_at (k := ofS s) hI.own.has (show (ss.map ofS)[i]? = some (ofS s) from by rw [List.getElem?_map, hs]; rfl)
            have hId := hI.keep (fr_drew (fr_refl _))
            obtain ⟨q, r1, r2⟩ := hId.look hsm (by have := Hl.out; omega)
            have hKA2 := hKA.below (fr_drew (fr_refl _)) hgA
            have lA := ld_key hKA2
            have ht := hct _ hId.fr
            have HId := keep hId
            clear hi hs hI hId hKA hKA2 hct
            go_wp2_with fail
            go_region
            go_wp2_with fail
            go_roundg (gk - 1)
            case measure => have := Hi.out; omega
            case rel => exact ⟨i + 1, by have := Hi.out; omega, by go_num, HId.out⟩
          · obtain rfl : i = j := by omega
            clear hi
            obtain ⟨D0, a0, b0⟩ := hI.m0
            obtain ⟨D1, a1, b1⟩ := hI.m1
            obtain ⟨D2, a2, b2⟩ := hI.m2
            obtain ⟨D3, a3, b3⟩ := hI.m3
            have S0 := b0.size_
            have S1 := b1.size_
            have S2 := b2.size_
            have S3 := b3.size_
            have hIo := hI.own
            rw [Hlm.out] at hIo
            have hFq := hI.fr
            have cK := key_kinds A1 i c1 (ss.map ofS) wr Hlm.out (by omega) (wfAll_map Hs.out) hIo.has
            rw [Hk.out] at cK
            generalize (tokens ss).length = N at *
            generalize (tokens (prs ss)).length = M at *
            have Z0 := keep S0
            have Z1 := keep S1
            have Z2 := keep S2
            have Z3 := keep S3
            clear S0 S1 S2 S3 b0 b1 b2 b3 hI hIo
            go_wp2_with (first
              | (at_len; refine wpList_len_ownG ?_ (.tmp 116) 24 rfl 30 3 Try.underlying24 _ w.heap.size ss.length D0 rfl a0 ?_
                 · go_simp
                 rw [Z0.out])
              | (at_len; refine wpList_len_ownG ?_ (.tmp 118) 25 rfl 9 3 Try.underlying25 _ (w.heap.size + 1) ss.length D1 rfl a1 ?_
                 · go_simp
                 rw [Z1.out])
              | fail)
            refine cK.mono ?_
            rintro e w1 ⟨rfl, hf1⟩
            have e0 := ownsMap_fr a0 hf1
            have e2 := ownsMap_fr a2 hf1
            have e3 := ownsMap_fr a3 hf1
            have hFe := fr_step hFq hf1
            clear a0 a1 a2 a3 cK hf1
            go_wp2_with (first
              | (at_len; refine wpList_len_ownG ?_ (.tmp 124) 24 rfl 30 3 Try.underlying24 _ (w.heap.size) _ D0 rfl e0 ?_
                 · go_simp
                 rw [Z0.out])
              | (at_len; refine wpList_len_ownG ?_ (.tmp 129) 26 rfl 35 3 Try.underlying26 _ (w.heap.size + 1 + 1) _ D2 rfl e2 ?_
                 · go_simp
                 rw [Z2.out])
              | (at_len; refine wpList_len_ownG ?_ (.tmp 131) 25 rfl 9 3 Try.underlying25 _ (w.heap.size + 1 + 1 + 1) _ D3 rfl e3 ?_
                 · go_simp
                 rw [Z3.out])
              | (go_at_call 9; refine (awake_at hFe).mono ?_; rintro e w4 ⟨rfl, hf4⟩)
              | fail)
            go_ret
            exact ⟨rfl, hf4⟩
  · have d1 : decide ((40 : Int) < (n : Int)) = true := by simp; omega
    go_enter Try.func3, Try.ntmps3
    go_wp2_with fail
    refine (awake _).mono ?_
    rintro e w1 ⟨rfl, hf1⟩
    go_wp2_with fail
    go_ret
    exact ⟨rfl, hf1⟩
end Go.Proofs.Ytignnjflodkihaa
