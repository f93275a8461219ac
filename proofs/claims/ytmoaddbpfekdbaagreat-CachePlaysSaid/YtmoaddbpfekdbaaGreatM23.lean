/- The document's cache: Fill. -/
import Derived.Test.YtmoaddbpfekdbaaGreatM22
namespace Go.Proofs.YtmoaddbpfekdbaaGreat
set_option linter.unusedSectionVars false
set_option linter.unusedVariables false
set_option linter.unusedSimpArgs false
set_option maxRecDepth 100000
open Go.RowKit
def outsL (x : Int) (l : List (Int × Int)) : List Int := (l.filter fun p => p.2 == x).map (·.1)
def leftL (x : Int) (l : List (Int × Int)) : List (Int × Int) := l.filter fun p => !(p.2 == x)
theorem outs_in {l : List (Int × Int)} {x : Int} {j : Nat} {m : Int × Int} (hm : l[j]? = some m) (hq : m.2 = x) : outsL x (l.take (j + 1)) = outsL x (l.take j) ++ [m.1] ∧ leftL x (l.take (j + 1)) = leftL x (l.take j) := by
  obtain ⟨hj, e⟩ := List.getElem?_eq_some_iff.1 hm
  rw [List.take_succ_eq_append_getElem hj, e]
  unfold outsL leftL
  rw [List.filter_append, List.filter_append]
  simp [hq]
theorem outs_out {l : List (Int × Int)} {x : Int} {j : Nat} {m : Int × Int} (hm : l[j]? = some m) (hq : ¬ m.2 = x) : outsL x (l.take (j + 1)) = outsL x (l.take j) ∧ leftL x (l.take (j + 1)) = leftL x (l.take j) ++ [m] := by
  obtain ⟨hj, e⟩ := List.getElem?_eq_some_iff.1 hm
  rw [List.take_succ_eq_append_getElem hj, e]
  unfold outsL leftL
  rw [List.filter_append, List.filter_append]
  simp [hq]
section
variable {V : Type} [NVal V]
attribute [local go_sem ↓] node16_ld stand_ld
set_option maxHeartbeats 16000000 in
theorem dfill_at {w : World} {g : Nat} {h : CH} {t : Ca V} (x : Int) (v : V) (k : DC w g h t) (hs : t.fs.length ≤ 100000) (hl2 : t.loads.length ≤ 100000) :
    Calls Tryz.prog 26 #[.pointer (some ⟨g, 0, none⟩), .int .i64 x, ncv v] w fun e w' => ∃ O n c, e = .returned (.tuple #[.slice O n c, .bool (fillC t x v).2.1]) ∧ Hid (ResI w w' O n c (fillC t x v).1 ∧ DTurn w w' (CHX g h) g (fillC t x v).2.2) := by
  obtain ⟨Z, hZ, hF, hZZ, hX, hS⟩ := node16_box w v
  have kZ := k.fr hF
  have cN := dfind_at x kZ hs
  have cX := dblock_at Z x
  have HK := keep kZ
  have HF0 := keep hF
  unfold ncv
  cases hO : okBl x with
  | false =>
    have e9 : fillC t x v = ([], false, t) := by unfold fillC loadI; rw [hO]; rfl
    rw [e9]
    rw [hO] at cX
    have CK0 := keep cX
    cases hfd : findB t.fs x with
    | none =>
      rw [hfd] at cN
      have CN := keep (show Calls _ _ _ _ fun e w' => e = .returned (.int .i64 (-1)) ∧ Z = w' from cN)
      clear cX cN k hs hO e9 kZ hF hX hfd
      go_enter Tryz.func26, Tryz.ntmps26
      go_wp2_with (first
        | (go_at_call 63; with_reducible refine CN.out.mono ?_; rintro e w2 ⟨rfl, rfl⟩)
        | (go_at_call 61; with_reducible refine CK0.out.mono ?_; rintro e w2 ⟨rfl, rfl⟩)
        | fail)
      go_ret2
      exact ⟨none, 0, 0, rfl, keep ⟨⟨Rw.nil _ _ _, rfl, fun k hk => by cases hk⟩, ⟨h, HK.out, .of_fr _ HF0.out, fun i hi => .inl hi⟩⟩⟩
    | some i =>
      rw [hfd] at cN
      have CN := keep (show Calls _ _ _ _ fun e w' => e = .returned (.int .i64 (i : Int)) ∧ Z = w' from cN)
      clear cX cN k hs hO e9 kZ hF hX hfd
      go_enter Tryz.func26, Tryz.ntmps26
      go_wp2_with (first
        | (go_at_call 63; with_reducible refine CN.out.mono ?_; rintro e w2 ⟨rfl, rfl⟩)
        | (go_at_call 61; with_reducible refine CK0.out.mono ?_; rintro e w2 ⟨rfl, rfl⟩)
        | fail)
      go_ret2
      exact ⟨none, 0, 0, rfl, keep ⟨⟨Rw.nil _ _ _, rfl, fun k hk => by cases hk⟩, ⟨h, HK.out, .of_fr _ HF0.out, fun i hi => .inl hi⟩⟩⟩
  | true =>
  rw [hO] at cX
  have CK0 := keep cX
  clear cX
  cases hfd : findB t.fs x with
  | none =>
    have e9 : fillC t x v = ([], false, t) := by unfold fillC loadI; rw [hO, hfd]; rfl
    rw [e9]
    rw [hfd] at cN
    have CN := keep (show Calls _ _ _ _ fun e w' => e = .returned (.int .i64 (-1)) ∧ Z = w' from cN)
    clear cN k hs hO e9 kZ hF hX hfd
    go_enter Tryz.func26, Tryz.ntmps26
    go_wp2_with (first
      | (go_at_call 63; with_reducible refine CN.out.mono ?_; rintro e w2 ⟨rfl, rfl⟩)
      | (go_at_call 61; with_reducible refine CK0.out.mono ?_; rintro e w2 ⟨rfl, rfl⟩)
      | fail)
    go_ret2
    exact ⟨none, 0, 0, rfl, keep ⟨⟨Rw.nil _ _ _, rfl, fun k hk => by cases hk⟩, ⟨h, HK.out, .of_fr _ HF0.out, fun i hi => .inl hi⟩⟩⟩
  | some i =>
    rw [hfd] at cN
    have CN := keep (show Calls _ _ _ _ fun e w' => e = .returned (.int .i64 (i : Int)) ∧ Z = w' from cN)
    obtain ⟨f, hfi, -⟩ := idx_at hfd
    have hi0 : ¬ ((i : Int) < 0) := by omega
    obtain ⟨b, off, hA, c0, hR, hiz⟩ := kZ.row hfi
    obtain ⟨b2, off2, hA2, -, hc⟩ := frame_cells kZ.fs.has (Nat.le_refl _) hfi
    rw [hA] at hA2
    injection hA2 with hA2
    injection hA2 with hA3 hA4
    subst hA3 hA4
    obtain ⟨lS, -⟩ := hc Z (fr_refl Z)
    by_cases h1 : f.st = 1
    · have hz : ((f.st : Int) != 1) = false := by simp; omega
      have e9 : fillC t x v = (outsL x t.loads, true, { t with fs := t.fs.set i { f with st := 2, node := v }, loads := leftL x t.loads }) := by
        unfold fillC loadI
        rw [hO, hfd]
        simp only [fr_of hfi, if_pos h1, if_true]
        rw [modify_set hfi]
        rfl
      have HE := keep e9
      have hbg : ¬ g = b := fun e => kZ.ng.1 (by rw [hA, e]; rfl)
      have hbx : ¬ w.heap.size = b := fun e => absurd (k.fs.lt b (by rw [hA]; rfl)) (by omega)
      have hnl := kZ.nlen
      have HNL := keep hnl
      have HR := keep hR
      have HF := keep hfi
      have HA := keep hA
      have HB := keep hbg
      have HBX := keep hbx
      have HSZ := keep kZ.box
      have HX := keep hX
      have hL1 := keep (NVal.len v)
      have hpl : h.p ≤ 100000 := by omega
      clear cN k hs hO e9 kZ hF hX hfd hA hR hfi hc hbg hbx h1 hnl hl2
      rw [HE.out]
      go_enter Tryz.func26, Tryz.ntmps26
      go_wp2_with (first
        | (go_at_call 63; with_reducible refine CN.out.mono ?_; rintro e w2 ⟨rfl, rfl⟩)
        | (go_at_call 61; with_reducible refine CK0.out.mono ?_; rintro e w2 ⟨rfl, rfl⟩)
        | (refine wpList_store_frp (cf := fc) (l := t.fs) (j := i) (x := f) (y := { f with st := 2 }) (tt := 0) (ds := [.int .i64 2]) int_info16 rfl (.tmp 39) (.const (.int .i64 2)) rfl rfl rfl rfl (.cons rfl .nil) HR.out (fc_wid _) HF.out (by simp) rfl ?_; intro W1 h1 h2; have H1 := keep (show Rw W1 _ _ _ _ _ _ ∧ Chg _ Z W1 from ⟨h1, h2⟩); have c0 : W1.cell? ⟨g, 0, none⟩ = some (.slice (some ⟨b, off, none⟩) h.n h.c) := by { rw [← HA.out]; have := (HSZ.out.chg h2 (fun e => HB.out e)).cell 0; simpa using this }; have lN : (ldS 41 (.pointer (some ⟨w.heap.size, 0, none⟩))).run Tryz.prog W1.drew = .ok (.agg (NVal.nc v).toArray) W1.drew := node16_ty.ld (w := W1.drew) (NVal.len v) (HX.out.chg h2 (fun e => HBX.out e)).drew; clear h1 h2)
        | fail)
      go_still_tail 8, (by kernel_rfl)
      change wpList _ _ _ _ _ W1.drew
      have HD := keep (H1.out.1.fr (fr_drew (fr_refl W1)))
      have HFD := keep (fr_drew (fr_refl W1))
      clear c0 lN lS
      generalize W1.drew = wd at *
      go_wp2_with (first
        | (refine wpList_store_frp (cf := fc) (l := t.fs.set i { f with st := 2 }) (j := i) (x := { f with st := 2 }) (y := { f with st := 2, node := v }) (tt := 5) (ds := NVal.nc v) node16_info rfl (.tmp 47) (.tmp 45) rfl rfl rfl hL1.out (NVal.one v) HD.out (fc_wid _) (List.getElem?_set_self (List.getElem?_eq_some_iff.1 HF.out).1) (by rw [hL1.out]; decide) (fc_put_node _ v) ?_; intro W2 h1 h2; have H2 := keep (show Rw W2 _ _ _ _ _ _ ∧ Chg _ wd W2 from ⟨h1, h2⟩); clear h1 h2)
        | fail)
      have hch : Chg (At h.A) Z W2 := ((H1.out.2.trans (.of_fr _ HFD.out)).trans H2.out.2).weak fun j _ hj => by rw [HA.out]; exact congrArg some hj.symm
      have hd2 : DC W2 g h { t with fs := t.fs.set i { f with st := 2, node := v } } := HK.out.frames (by rw [HA.out]; have := H2.out.1; rw [List.set_set] at this; exact this) hch
      have D2 := keep hd2
      have E2 := keep hch
      have HB2 := keep hd2.box.lt
      clear hch hd2
      go_loopg [9, 10, 11] h.p (fun gg s9 s10 s11 wr => ∃ (j ko bo kp bp : Nat) (O P : Option Addr), j + gg = h.p ∧ s9 = .slice O ko bo ∧ s10 = .slice P kp bp ∧ s11 = .int .i64 j ∧ ko ≤ j ∧ kp ≤ j ∧ Hid (ResI W2 wr O ko bo (outsL x (t.loads.take j)) ∧ ResS W2 wr P kp bp (leftL x (t.loads.take j)) ∧ Fr W2 wr))
      case atStart => exact ⟨0, 0, 0, 0, 0, none, none, by omega, rfl, rfl, rfl, Nat.le_refl _, Nat.le_refl _, keep ⟨⟨Rw.nil _ _ _, rfl, fun k hk => by cases hk⟩, ⟨Rw.nil _ _ _, rfl, fun k hk => by cases hk⟩, fr_refl W2⟩⟩
      case round =>
        obtain ⟨j, ko, bo, kp, bp, O, P, hj, rfl, rfl, rfl, hko, hkp, HI⟩ := hrel
        have c2 : wr.cell? ⟨g, 2, none⟩ = some (.slice h.L h.p h.e) := (HI.out.2.2.cell HB2.out).trans D2.out.cells.2.2.1
        by_cases hlt : j < h.p
        · have hm : t.loads[j]? = some (t.loads[j]'(by rw [HNL.out.2.2]; exact hlt)) := List.getElem?_eq_getElem _
          generalize t.loads[j]'(by rw [HNL.out.2.2]; exact hlt) = m at hm
          have hld : Has wr W2.heap.size h.L (rows sc t.loads) := D2.out.ld.has.fr (Nat.le_refl _) HI.out.2.2
          obtain ⟨bb, oo, hLL, hb1, hr⟩ := has_rows hld (sc_wid _) (by decide) (by intro e; rw [e] at hm; simp at hm)
          have hgw : bb < wr.heap.size := Nat.lt_of_lt_of_le hb1 HI.out.2.2.size
          have lX := elem_cell hr (sc_wid _) hgw (o := 1) hm (u := .int .i64 m.2) rfl wr (fr_refl wr)
          have lT := elem_cell0 hr (sc_wid _) hgw hm (u := .int .i64 m.1) rfl wr (fr_refl wr)
          have lR := elem_ld stand_ty hr (sc_wid _) hgw hm wr (fr_refl wr)
          unfold sc at lR
          rw [hLL] at c2
          have Hm := keep hm
          have hjz : (j : Int) < (h.p : Int) := by omega
          have wj : IntKind.i64.wrap ((j : Int) + 1) = (j : Int) + 1 := by rw [IntKind.wrap_i64]; omega
          clear hm hr hlt hld hLL hb1 hgw
          by_cases hq : m.2 = x
          · have hq2 : (m.2 == x) = true := by simpa using hq
            have HL := keep (outs_in Hm.out hq)
            have HO := keep (HI.out.1.row.fr (fr_new (fr_refl wr) (.cells #[.int .i64 m.1] 3)))
            clear hq
            go_wp2_with (first
              | (refine wpList_append_rw int_elem ints_und (by decide) rfl (.tmp 67) (.tmp 76) rfl O ko bo (rows ic (outsL x (t.loads.take j))) rfl HO.out (wr.heap.size + 1) (some ⟨wr.heap.size, 0, none⟩) 1 1 (ic m.1) rfl rfl (has_new wr (ic m.1) 3) (ic_one _) (by simp only [maxLen]; omega) (by omega) ?_; intro O' b' w3 h3 p3; have H3 := keep (show Rw w3 _ _ _ _ _ _ ∧ Put _ w3 _ _ from ⟨h3, p3⟩); clear h3 p3)
              | fail)
            go_roundg (gk - 1)
            case measure => omega
            case rel =>
              obtain ⟨h3, p3⟩ := H3.out
              obtain ⟨i1, i2, i3⟩ := HI.out
              have fN := fr_new (fr_refl wr) (.cells #[.int .i64 m.1] 3)
              refine ⟨j + 1, ko + 1, b', kp, bp, O', P, by omega, rfl, rfl, rfl, by omega, by omega, keep ⟨⟨?_, ?_, fun a ha => ?_⟩, ⟨?_, ?_, i2.new⟩, (fr_step i3 fN).step_chg p3.chg i1.new⟩⟩
              · rw [HL.out.1, rows_append, rows_single]; exact h3
              · rw [HL.out.1, List.length_append, i1.len]; rfl
              · rcases p3.blk a ha with e | e
                · exact i1.new a e
                · have := i3.size
                  simp at e
                  omega
              · rw [HL.out.2]
                exact (i2.row.fr fN).chg p3.chg fun a ha ho => (i2.row.fr fN).apart HO.out (by decide) a ha ho
              · rw [HL.out.2]; exact i2.len
          · have hq2 : (m.2 == x) = false := by simpa using hq
            have HL := keep (outs_out Hm.out hq)
            have HO := keep (HI.out.2.1.row.fr (fr_new (fr_refl wr) (.cells (sc m).toArray 103)))
            clear hq
            go_wp2_with (first
              | (refine wpList_append_rw stand_elem stands_und (by decide) rfl (.tmp 78) (.tmp 86) rfl P kp bp (rows sc (leftL x (t.loads.take j))) rfl HO.out (wr.heap.size + 1) (some ⟨wr.heap.size, 0, none⟩) 1 1 (sc m) rfl rfl (has_new wr (sc m) 103) (sc_one _) (by simp only [maxLen]; omega) (by omega) ?_; intro O' b' w3 h3 p3; have H3 := keep (show Rw w3 _ _ _ _ _ _ ∧ Put _ w3 _ _ from ⟨h3, p3⟩); clear h3 p3)
              | fail)
            go_roundg (gk - 1)
            case measure => omega
            case rel =>
              obtain ⟨h3, p3⟩ := H3.out
              obtain ⟨i1, i2, i3⟩ := HI.out
              have fN := fr_new (fr_refl wr) (.cells (sc m).toArray 103)
              refine ⟨j + 1, ko, bo, kp + 1, b', O, O', by omega, rfl, rfl, rfl, by omega, by omega, keep ⟨⟨?_, ?_, i1.new⟩, ⟨?_, ?_, fun a ha => ?_⟩, (fr_step i3 fN).step_chg p3.chg i2.new⟩⟩
              · rw [HL.out.1]
                exact (i1.row.fr fN).chg p3.chg fun a ha ho => (i1.row.fr fN).apart HO.out (by decide) a ha ho
              · rw [HL.out.1]; exact i1.len
              · rw [HL.out.2, rows_append, rows_single]; exact h3
              · rw [HL.out.2, List.length_append, i2.len]; rfl
              · rcases p3.blk a ha with e | e
                · exact i2.new a e
                · have := i3.size
                  simp at e
                  omega
        · have hjn : j = h.p := by omega
          have hjz : ¬ (j : Int) < (h.p : Int) := by omega
          have E9 := keep (show t.loads.take j = t.loads by rw [hjn, ← HNL.out.2.2, List.take_length])
          subst hjn
          clear hlt
          go_wp2_with (first
            | (refine wpList_store_chg stands_info rfl (.tmp 91) (.tmp 89) rfl g 2 rfl (ds := [.slice P kp bp]) rfl rfl (.cons rfl .nil) (D2.out.box.chg (.of_fr (fun _ => False) HI.out.2.2) id) (by simp) (cs' := [.slice h.A h.n h.c, .slice h.B h.m h.d, .slice P kp bp, .int .i64 t.hand]) rfl ?_; intro W6 h1 h2; have H6 := keep (show Arr W6 _ _ _ ∧ Chg _ wr W6 from ⟨h1, h2⟩); clear h1 h2)
            | fail)
          go_ret2
          obtain ⟨i1, i2, i3⟩ := HI.out
          obtain ⟨h1, h2⟩ := H6.out
          rw [E9.out] at i1 i2
          have hZ2 : Z.heap.size ≤ W2.heap.size := E2.out.size
          have hw2 : w.heap.size ≤ Z.heap.size := HF0.out.size
          refine ⟨O, ko, bo, rfl, keep ⟨⟨i1.row.chg h2 fun a ha e => ?_, i1.len, fun a ha => ?_⟩, ?_⟩⟩
          · have := i1.new a ha
            have := HB2.out
            omega
          · have := i1.new a ha
            omega
          · refine .step (t := { t with fs := t.fs.set i { f with st := 2, node := v } }) D2.out ((Chg.of_fr _ HF0.out).trans (E2.out.weak fun a _ ha => (show CHX g h a from .inr (.inl ha)))) (fun _ hk => .inl hk) ?_
            exact D2.out.loads i2.row (.of_fr _ i3) (fun a ha => .inr (i2.new a ha)) h1 h2
    · have hz : ((f.st : Int) != 1) = true := by simp; omega
      have e9 : fillC t x v = ([], false, t) := by
        unfold fillC loadI
        rw [hO, hfd]
        simp only [fr_of hfi, if_neg h1, if_true]
      rw [e9]
      rw [hA] at *
      clear cN k hs hO e9 kZ hF hX hfd hR hfi hc h1
      go_enter Tryz.func26, Tryz.ntmps26
      go_wp2_with (first
        | (go_at_call 63; with_reducible refine CN.out.mono ?_; rintro e w2 ⟨rfl, rfl⟩)
        | (go_at_call 61; with_reducible refine CK0.out.mono ?_; rintro e w2 ⟨rfl, rfl⟩)
        | fail)
      go_ret2
      exact ⟨none, 0, 0, rfl, keep ⟨⟨Rw.nil _ _ _, rfl, fun k hk => by cases hk⟩, ⟨h, HK.out, .of_fr _ HF0.out, fun i hi => .inl hi⟩⟩⟩
end
end Go.Proofs.YtmoaddbpfekdbaaGreat
/- The document's cache: Evict. -/
namespace Go.Proofs.YtmoaddbpfekdbaaGreat
set_option linter.unusedSectionVars false
set_option linter.unusedVariables false
set_option linter.unusedSimpArgs false
set_option maxRecDepth 100000
open Go.RowKit
theorem frame_ty : Sty Tryz.prog 63 11 := ⟨by kernel_rfl, ⟨_, Tryz.underlying63, rfl⟩⟩
theorem frame_ld (p : Value) : Instr.loadAt 63 p = ldS 63 p := rfl
theorem z11_one : One [Value.int .i64 0, .int .i64 0, .int .i64 0, .bool false, .bool false, .bool false, .slice none 0 0, .slice none 0 0, .slice none 0 0, .slice none 0 0, .int .i64 0] := .cons rfl (.cons rfl (.cons rfl (.cons rfl (.cons rfl (.cons rfl (.cons rfl (.cons rfl (.cons rfl (.cons rfl (.cons rfl .nil))))))))))
theorem frz_box (w : World) : ∃ W, w.alloc (.cells #[Value.int .i64 0, .int .i64 0, .int .i64 0, .bool false, .bool false, .bool false, .slice none 0 0, .slice none 0 0, .slice none 0 0, .slice none 0 0, .int .i64 0] 63) = W ∧ Fr w W ∧ Fr W W ∧ Arr W w.heap.size 63 [Value.int .i64 0, .int .i64 0, .int .i64 0, .bool false, .bool false, .bool false, .slice none 0 0, .slice none 0 0, .slice none 0 0, .slice none 0 0, .int .i64 0].toArray ∧ W.heap.size = w.heap.size + 1 := ⟨_, rfl, fr_new (fr_refl w) _, fr_refl _, Arr.new w _ _, by simp⟩
theorem Sty.result2' {P : Program} {T : TypeId} {n : Nat} {w : World} (S : Sty P T n) {fn : Func} {p t : Tmp} (h : fn.results = #[.tmp t, .cell p T]) (tmps : Array Value) (g : Nat) (hp : tmps.getD p undef = .pointer (some ⟨g, 0, none⟩)) {T' : Nat} {cs : List Value} (hl : cs.length = n) (ha : Arr w g T' cs.toArray) :
    (results fn tmps).run P w = .ok (.tuple #[tmps.getD t undef, .agg cs.toArray]) w := by
  have hp' : tmps[p]?.getD undef = .pointer (some ⟨g, 0, none⟩) := by simpa using hp
  simp [results, h, hp', asAddr, S.load hl ha]
section
variable {V : Type} [NVal V]
/-- The frame that Evict tells. -/
def evF (o : Option (Fra V)) : List Value := match o with | some f => fc f | none => [Value.int .i64 0, .int .i64 0, .int .i64 0, .bool false, .bool false, .bool false, .slice none 0 0, .slice none 0 0, .slice none 0 0, .slice none 0 0, .int .i64 0]
omit [NVal V] in
theorem can_in {l : List (Fra V)} {j : Nat} {m : Fra V} (hm : l[j]? = some m) : canL (l.take (j + 1)) = canL (l.take j) ++ [canE m] ∧ refL (l.take (j + 1)) = refL (l.take j) ++ [m.ref] := by
  obtain ⟨hj, e⟩ := List.getElem?_eq_some_iff.1 hm
  rw [List.take_succ_eq_append_getElem hj, e]
  unfold canL refL
  rw [List.map_append, List.map_append]
  exact ⟨rfl, rfl⟩
def rers (l : List (Fra V)) (m : List Bool) (j : Nat) : List (Fra V) := reref (l.take j) (m.take j) ++ l.drop j
omit [NVal V] in
theorem rr_len {l : List (Fra V)} {m : List Bool} (h : m.length = l.length) {j : Nat} (hj : j ≤ l.length) : (reref (l.take j) (m.take j)).length = j := by
  unfold reref
  rw [List.length_zipWith, List.length_take, List.length_take]
  omega
omit [NVal V] in
theorem rers_len {l : List (Fra V)} {m : List Bool} (h : m.length = l.length) {j : Nat} (hj : j ≤ l.length) : (rers l m j).length = l.length := by
  unfold rers
  rw [List.length_append, rr_len h hj, List.length_drop]
  omega
omit [NVal V] in
theorem rers_at {l : List (Fra V)} {m : List Bool} (h : m.length = l.length) {j : Nat} {x : Fra V} (hx : l[j]? = some x) : (rers l m j)[j]? = some x := by
  obtain ⟨hj, -⟩ := List.getElem?_eq_some_iff.1 hx
  unfold rers
  rw [List.getElem?_append_right (by rw [rr_len h (by omega)]; exact Nat.le_refl _), rr_len h (by omega), Nat.sub_self, List.getElem?_drop]
  exact hx
omit [NVal V] in
theorem rers_in {l : List (Fra V)} {m : List Bool} (h : m.length = l.length) {j : Nat} {x : Fra V} {b : Bool} (hx : l[j]? = some x) (hb : m[j]? = some b) : rers l m (j + 1) = (rers l m j).set j { x with ref := b } := by
  obtain ⟨hj, e⟩ := List.getElem?_eq_some_iff.1 hx
  obtain ⟨hj2, e2⟩ := List.getElem?_eq_some_iff.1 hb
  have h1 := rr_len h (j := j) (by omega)
  unfold rers
  rw [List.set_append_right _ _ (by omega), h1, Nat.sub_self, List.drop_eq_getElem_cons hj, List.set_cons_zero]
  unfold reref at *
  rw [List.take_succ_eq_append_getElem hj, List.take_succ_eq_append_getElem hj2, e, e2, List.zipWith_append (by rw [List.length_take, List.length_take]; omega), List.append_assoc]
  rfl
omit [NVal V] in
theorem rers_all {l : List (Fra V)} {m : List Bool} (h : m.length = l.length) : rers l m l.length = reref l m := by
  unfold rers
  rw [List.take_length, List.drop_length, List.append_nil, ← h, List.take_length]
/-- The marks grow by one; what lies elsewhere stays. -/
theorem app_one {w0 wr w3 : World} {C R C' : Option Addr} {i j rb cb' : Nat} {cl rl : List Bool} (hF : Fr w0 wr) (hn : ∀ k, At C k → w0.heap.size ≤ k) (hR : ResB w0 wr R j rb rl) (hap : ∀ k, At C k → ¬ At R k) {o : Obj} {x : Bool} (h3 : Rw w3 4 1 C' i cb' (rows bc cl ++ bc x)) (p3 : Put (wr.alloc o) w3 C C') :
    True ∧ (∀ k, At C' k → w0.heap.size ≤ k) ∧ ResB w0 w3 R j rb rl ∧ (∀ k, At C' k → ¬ At R k) ∧ Fr w0 w3 := by
  have fN := fr_new (fr_refl wr) o
  have hnew : ∀ k, At C' k → w0.heap.size ≤ k := fun k hk => by
    rcases p3.blk k hk with e | e
    · exact hn k e
    · have := hF.size
      simp at e
      omega
  refine ⟨trivial, hnew, ⟨(hR.row.fr fN).chg p3.chg fun a ha ho => hap a ho ha, hR.len, hR.new⟩, fun k hk hr => ?_, (fr_step hF fN).step_chg p3.chg hn⟩
  rcases p3.blk k hk with e | e
  · exact hap k e hr
  · have := hR.row.lt k hr
    simp at e
    omega
theorem DC.hand {w W : World} {g : Nat} {h : CH} {t : Ca V} {q : Int} (k : DC w g h t) (ha : Arr W g 61 #[.slice h.A h.n h.c, .slice h.B h.m h.d, .slice h.L h.p h.e, .int .i64 q]) (f : Chg (· = g) w W) : DC W g h { t with hand := q } :=
  ⟨ha, k.fs.chg f fun b hb e => k.ng.1 (e ▸ hb), k.ln.chg f fun b hb e => k.ng.2.1 (e ▸ hb), k.ld.chg f fun b hb e => k.ng.2.2 (e ▸ hb), k.ap⟩
end
end Go.Proofs.YtmoaddbpfekdbaaGreat
