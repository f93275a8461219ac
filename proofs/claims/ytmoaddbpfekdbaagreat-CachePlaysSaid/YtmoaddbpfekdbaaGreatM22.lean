/- The document's cache: Name, Give. -/
import Derived.Test.YtmoaddbpfekdbaaGreatM21
namespace Go.Proofs.YtmoaddbpfekdbaaGreat
set_option linter.unusedSectionVars false
set_option linter.unusedVariables false
set_option linter.unusedSimpArgs false
set_option maxRecDepth 100000
open Go.RowKit
section
variable {V : Type} [NVal V]
theorem nc_five (v : V) : ∃ a b c d e, NVal.nc v = [a, b, c, d, e] := by
  have := NVal.len v
  match hq : NVal.nc v with
  | [a, b, c, d, e] => exact ⟨a, b, c, d, e, rfl⟩
  | [] => rw [hq] at this; simp at this
  | [_] => rw [hq] at this; simp at this
  | [_, _] => rw [hq] at this; simp at this
  | [_, _, _] => rw [hq] at this; simp at this
  | [_, _, _, _] => rw [hq] at this; simp at this
  | _ :: _ :: _ :: _ :: _ :: _ :: _ => rw [hq] at this; simp at this
attribute [local go_sem ↓] node16_ld
set_option maxHeartbeats 8000000 in
theorem dname_at {w : World} {g : Nat} {h : CH} {t : Ca V} (tk x : Int) (v : V) (k : DC w g h t) (hs : t.fs.length ≤ 100000) :
    Calls Tryz.prog 32 #[.pointer (some ⟨g, 0, none⟩), .int .i64 tk, .int .i64 x, ncv v] w fun e w' => e = .returned (.bool (nameC t tk x v).1) ∧ Hid (DTurn w w' (CHX g h) g (nameC t tk x v).2) := by
  obtain ⟨Z, hZ, hF, hZZ, hX, hS⟩ := node16_box w v
  have kZ := k.fr hF
  have cN := dfind_at x kZ hs
  have cT := dtask_at Z tk
  have cX := dblock_at Z x
  have HK := keep kZ
  have HF0 := keep hF
  have lN : (ldS 41 (.pointer (some ⟨w.heap.size, 0, none⟩))).run Tryz.prog Z.drew = .ok (.agg (NVal.nc v).toArray) Z.drew := node16_ty.ld (w := Z.drew) (NVal.len v) hX.drew
  obtain ⟨n0, n1, n2, n3, n4, hv⟩ := nc_five v
  have HV := keep hv
  unfold ncv
  rw [hv] at hZ lN ⊢
  cases hT : okT tk with
  | false =>
    have e9 : nameC t tk x v = (false, t) := by unfold nameC; rw [hT]; rfl
    rw [e9]
    rw [hT] at cT
    have CT := keep cT
    clear cT cX cN k hs hT e9 kZ hF hX lN hv
    go_enter Tryz.func32, Tryz.ntmps32
    go_wp2_with (first
      | (go_at_call 60; with_reducible refine CT.out.mono ?_; rintro e w2 ⟨rfl, rfl⟩)
      | fail)
    go_ret
    exact ⟨rfl, keep ⟨h, HK.out, .of_fr _ HF0.out, fun i hi => .inl hi⟩⟩
  | true =>
  rw [hT] at cT
  have CT := keep cT
  clear cT
  cases hO : okBl x with
  | false =>
    have e9 : nameC t tk x v = (false, t) := by unfold nameC; rw [hT, hO]; rfl
    rw [e9]
    rw [hO] at cX
    have CK0 := keep cX
    clear cX cN k hs hT hO e9 kZ hF hX lN hv
    go_enter Tryz.func32, Tryz.ntmps32
    go_wp2_with (first
      | (go_at_call 60; with_reducible refine CT.out.mono ?_; rintro e w2 ⟨rfl, rfl⟩)
      | (go_at_call 61; with_reducible refine CK0.out.mono ?_; rintro e w2 ⟨rfl, rfl⟩)
      | fail)
    go_ret
    exact ⟨rfl, keep ⟨h, HK.out, .of_fr _ HF0.out, fun i hi => .inl hi⟩⟩
  | true =>
  rw [hO] at cX
  have CK0 := keep cX
  clear cX
  cases hfd : findB t.fs x with
  | some i =>
    rw [hfd] at cN
    have CN := keep (show Calls _ _ _ _ fun e w' => e = .returned (.int .i64 (i : Int)) ∧ Z = w' from cN)
    have hi0 : (i : Int) ≥ 0 := by omega
    have e9 : nameC t tk x v = (false, t) := by unfold nameC; rw [hT, hO, hfd]; rfl
    rw [e9]
    clear cN k hs hT hO e9 kZ hF hX lN hv hfd
    go_enter Tryz.func32, Tryz.ntmps32
    go_wp2_with (first
      | (go_at_call 60; with_reducible refine CT.out.mono ?_; rintro e w2 ⟨rfl, rfl⟩)
      | (go_at_call 61; with_reducible refine CK0.out.mono ?_; rintro e w2 ⟨rfl, rfl⟩)
      | (go_at_call 63; with_reducible refine CN.out.mono ?_; rintro e w2 ⟨rfl, rfl⟩)
      | fail)
    go_ret
    exact ⟨rfl, keep ⟨h, HK.out, .of_fr _ HF0.out, fun i hi => .inl hi⟩⟩
  | none =>
    rw [hfd] at cN
    have CN := keep (show Calls _ _ _ _ fun e w' => e = .returned (.int .i64 (-1)) ∧ Z = w' from cN)
    have e9 : nameC t tk x v = match t.fs.findIdx? (isC tk) with | some q => (true, { t with fs := t.fs.set q ⟨2, x, 0, true, true, v, 0⟩ }) | none => (false, t) := by unfold nameC; rw [hT, hO, hfd]; rfl
    have HE := keep e9
    obtain ⟨hn, -, -⟩ := k.nlen
    obtain ⟨c0, -, -, -⟩ := kZ.cells
    have Hn := keep hn
    have Hl := keep kZ.fs.has
    have hs' : h.n ≤ 100000 := by omega
    have fE : fc (⟨2, x, 0, true, true, v, 0⟩ : Fra V) = [.int .i64 2, .int .i64 x, .int .i64 0, .bool true, .bool true, n0, n1, n2, n3, n4, .int .i64 0] := by unfold fc; simp only [hv]; rfl
    have FE := keep fE
    clear cN k hs hT hO e9 kZ hF hX hv hfd hn fE
    rw [show nameC t tk x v = nameC t tk x v from rfl]
    go_enter Tryz.func32, Tryz.ntmps32
    go_wp2_with (first
      | (go_at_call 60; with_reducible refine CT.out.mono ?_; rintro e w2 ⟨rfl, rfl⟩)
      | (go_at_call 61; with_reducible refine CK0.out.mono ?_; rintro e w2 ⟨rfl, rfl⟩)
      | (go_at_call 63; with_reducible refine CN.out.mono ?_; rintro e w2 ⟨rfl, rfl⟩)
      | fail)
    go_loopg [9] h.n (fun gg s9 wr => ∃ j : Nat, j + gg = h.n ∧ s9 = .int .i64 j ∧ Z = wr ∧ Hid (∀ i (y : Fra V), i < j → t.fs[i]? = some y → isC tk y = false))
    case atStart => exact ⟨0, by omega, rfl, rfl, keep (fun t x h => by omega)⟩
    case round =>
      obtain ⟨j, hj, rfl, rfl, hno⟩ := hrel
      by_cases hlt : j < h.n
      · have hm : t.fs[j]? = some (t.fs[j]'(by rw [Hn.out]; exact hlt)) := List.getElem?_eq_getElem _
        generalize t.fs[j]'(by rw [Hn.out]; exact hlt) = m at hm
        obtain ⟨b, off, hA, c00, hR, hiz⟩ := HK.out.row hm
        obtain ⟨b2, off2, hA2, -, hc⟩ := frame_cells Hl.out (Nat.le_refl _) hm
        rw [hA] at hA2
        injection hA2 with hA2
        injection hA2 with hA3 hA4
        subst hA3 hA4
        obtain ⟨lS, -, -, -, -, lO⟩ := hc Z (fr_refl Z)
        have Hm := keep hm
        have HR := keep hR
        have HA := keep hA
        have wj : IntKind.i64.wrap ((j : Int) + 1) = (j : Int) + 1 := by rw [IntKind.wrap_i64]; omega
        rw [hA] at c0
        clear hm hlt hc hR hA c00
        by_cases h3 : m.st = 3
        · have hz : ((m.st : Int) == 3) = true := by simp; omega
          by_cases ho : m.own = tk
          · have hz2 : (m.own == tk) = true := by simpa using ho
            have e8 : nameC t tk x v = (true, { t with fs := t.fs.set j ⟨2, x, 0, true, true, v, 0⟩ }) := by
              rw [HE.out, idx_some hno.out Hm.out (by unfold isC; simp [h3, ho])]
            have E8 := keep e8
            clear h3 ho e8
            go_wp2_with fail
            go_still_tail 9, (by kernel_rfl)
            change wpList _ _ _ _ _ Z.drew
            have HD := keep (HR.out.fr (fr_drew (fr_refl Z)))
            have HFD := keep (fr_drew (fr_refl Z))
            clear c0 lN lS lO
            generalize Z.drew = wd at *
            go_wp2_with (first
              | (refine wpList_store_rw (cf := fc) (x := (⟨2, x, 0, true, true, v, 0⟩ : Fra V)) (j := j) frame_info rfl (.tmp 62) (.tmp 61) rfl rfl FE.out.symm (fc_len _) (fc_one _) HD.out (fc_wid _) Hn.out (by omega) ?_; intro W1 h1 h2; have H1 := keep (show Rw W1 _ _ _ _ _ _ ∧ Chg _ wd W1 from ⟨h1, h2⟩); clear h1 h2)
              | fail)
            go_ret
            rw [E8.out]
            refine ⟨rfl, keep ?_⟩
            exact DTurn.put (t := t) HK.out (.of_fr _ HF0.out) (fun _ hk => .inl hk) HA.out H1.out.1 ((Chg.of_fr _ HFD.out).trans H1.out.2)
          · have hz2 : (m.own == tk) = false := by simpa using ho
            have HU := keep (upto hno.out Hm.out (show isC tk m = false by unfold isC; simp [ho]))
            clear h3 ho
            go_wp2_with fail
            go_roundg (gk - 1)
            case measure => omega
            case rel => exact ⟨j + 1, by omega, rfl, rfl, HU⟩
        · have hz : ((m.st : Int) == 3) = false := by simp; omega
          have HU := keep (upto hno.out Hm.out (show isC tk m = false by unfold isC; simp [h3]))
          clear h3
          go_wp2_with fail
          go_roundg (gk - 1)
          case measure => omega
          case rel => exact ⟨j + 1, by omega, rfl, rfl, HU⟩
      · have hjn : j = h.n := by omega
        have hjz : ¬ (j : Int) < (h.n : Int) := by omega
        have e8 : nameC t tk x v = (false, t) := by rw [HE.out, idx_none (by rw [Hn.out, hjn]) hno.out]
        have E8 := keep e8
        subst hjn
        clear hlt e8
        go_wp2_with fail
        go_ret
        rw [E8.out]
        exact ⟨rfl, keep ⟨h, HK.out, .of_fr _ HF0.out, fun i hi => .inl hi⟩⟩
end
end Go.Proofs.YtmoaddbpfekdbaaGreat
/- The document's cache: Give. -/
namespace Go.Proofs.YtmoaddbpfekdbaaGreat
set_option linter.unusedSectionVars false
set_option linter.unusedVariables false
set_option linter.unusedSimpArgs false
set_option maxRecDepth 100000
open Go.RowKit
section
variable {V : Type} [NVal V]
def given (tk : Int) (f : Fra V) : Fra V := if isC tk f = true then freeF else f
def gives (tk : Int) (l : List (Fra V)) (j : Nat) : List (Fra V) := (l.take j).map (given tk) ++ l.drop j
theorem gives_len (tk : Int) (l : List (Fra V)) (j : Nat) : (gives tk l j).length = l.length := by
  unfold gives
  rw [List.length_append, List.length_map, List.length_take, List.length_drop]
  omega
theorem gives_at {tk : Int} {l : List (Fra V)} {j : Nat} {m : Fra V} (hm : l[j]? = some m) : (gives tk l j)[j]? = some m := by
  obtain ⟨hj, e⟩ := List.getElem?_eq_some_iff.1 hm
  unfold gives
  have h1 : ((l.take j).map (given tk)).length = j := by rw [List.length_map, List.length_take]; omega
  rw [List.getElem?_append_right (by omega), h1, Nat.sub_self, List.getElem?_drop]
  exact hm
theorem gives_yes {tk : Int} {l : List (Fra V)} {j : Nat} {m : Fra V} (hm : l[j]? = some m) (hc : isC tk m = true) : gives tk l (j + 1) = (gives tk l j).set j freeF := by
  obtain ⟨hj, e⟩ := List.getElem?_eq_some_iff.1 hm
  unfold gives
  have h1 : ((l.take j).map (given tk)).length = j := by rw [List.length_map, List.length_take]; omega
  rw [List.take_succ_eq_append_getElem hj, e, List.map_append, List.set_append_right _ _ (by omega), h1, Nat.sub_self, List.drop_eq_getElem_cons hj, List.set_cons_zero, List.append_assoc]
  simp [given, hc]
theorem gives_no {tk : Int} {l : List (Fra V)} {j : Nat} {m : Fra V} (hm : l[j]? = some m) (hc : isC tk m = false) : gives tk l (j + 1) = gives tk l j := by
  obtain ⟨hj, e⟩ := List.getElem?_eq_some_iff.1 hm
  unfold gives
  rw [List.take_succ_eq_append_getElem hj, e, List.map_append, List.append_assoc]
  have h2 : l.drop j = m :: l.drop (j + 1) := by rw [List.drop_eq_getElem_cons hj, e]
  rw [h2]
  simp [given, hc]
set_option maxHeartbeats 8000000 in
theorem dgive_at {w : World} {g : Nat} {h : CH} {t : Ca V} (tk : Int) (k : DC w g h t) (hs : t.fs.length ≤ 100000) :
    Calls Tryz.prog 30 #[.pointer (some ⟨g, 0, none⟩), .int .i64 tk] w fun e w' => e = .returned (.int .i64 ((giveC t tk).1 : Nat)) ∧ Hid (DTurn w w' (CHX g h) g (giveC t tk).2) := by
  have cT := fun W => dtask_at W tk
  obtain ⟨hn, -, -⟩ := k.nlen
  have HK := keep k
  have hs' : h.n ≤ 100000 := by omega
  cases hT : okT tk with
  | false =>
    have e9 : giveC t tk = (0, t) := by unfold giveC; rw [hT]; rfl
    rw [e9]
    rw [hT] at cT
    have CT := keep cT
    obtain ⟨c0, -, -, -⟩ := k.cells
    clear cT k hs hT e9 hn
    go_enter Tryz.func30, Tryz.ntmps30
    go_wp2_with fail
    go_loopg [5, 6] 1 (fun gg s5 s6 wr => s5 = .int .i64 0 ∧ s6 = .int .i64 0 ∧ w = wr)
    case atStart => exact ⟨rfl, rfl, rfl⟩
    case round =>
      obtain ⟨rfl, rfl, rfl⟩ := hrel
      by_cases h0 : (0 : Int) < (h.n : Int)
      · go_wp2_with (first
          | (go_at_call 60; (with_reducible refine (CT.out _).mono ?_); rintro e w2 ⟨rfl, rfl⟩)
          | fail)
        go_ret
        exact ⟨rfl, keep (.same HK.out (fr_refl w) fun _ => id)⟩
      · go_wp2_with (first
          | (go_at_call 60; (with_reducible refine (CT.out _).mono ?_); rintro e w2 ⟨rfl, rfl⟩)
          | fail)
        go_ret
        exact ⟨rfl, keep (.same HK.out (fr_refl w) fun _ => id)⟩
  | true =>
    have e9 : giveC t tk = (t.fs.countP (isC tk), { t with fs := t.fs.map (given tk) }) := by unfold giveC; rw [hT]; rfl
    have E9 := keep e9
    rw [hT] at cT
    have CT := keep cT
    have Hn := keep hn
    clear cT k hs hT e9 hn
    go_enter Tryz.func30, Tryz.ntmps30
    go_wp2_with fail
    go_loopg [5, 6] h.n (fun gg s5 s6 wr => ∃ j q : Nat, j + gg = h.n ∧ s5 = .int .i64 q ∧ s6 = .int .i64 j ∧ q ≤ j ∧ Hid (q = (t.fs.take j).countP (isC tk) ∧ DC wr g h { t with fs := gives tk t.fs j } ∧ Chg (At h.A) w wr))
    case atStart => exact ⟨0, 0, by omega, rfl, rfl, Nat.le_refl _, keep ⟨rfl, by unfold gives; exact HK.out, .refl _ _⟩⟩
    case round =>
      obtain ⟨j, q, hj, rfl, rfl, hqj, HI⟩ := hrel
      obtain ⟨c0, -, -, -⟩ := HI.out.2.1.cells
      by_cases hlt : j < h.n
      · have hm : t.fs[j]? = some (t.fs[j]'(by rw [Hn.out]; exact hlt)) := List.getElem?_eq_getElem _
        generalize t.fs[j]'(by rw [Hn.out]; exact hlt) = m at hm
        have hm2 := gives_at (tk := tk) hm
        obtain ⟨b, off, hA, c00, hR, hiz⟩ := HI.out.2.1.row hm2
        obtain ⟨b2, off2, hA2, -, hc⟩ := frame_cells HI.out.2.1.fs.has (Nat.le_refl _) hm2
        rw [hA] at hA2
        injection hA2 with hA2
        injection hA2 with hA3 hA4
        subst hA3 hA4
        obtain ⟨lS, -, -, -, -, lO⟩ := hc wr (fr_refl wr)
        have Hm := keep hm
        have HR := keep hR
        have HA := keep hA
        have HC := keep (count_upto (p := isC tk) hm)
        have wj : IntKind.i64.wrap ((j : Int) + 1) = (j : Int) + 1 := by rw [IntKind.wrap_i64]; omega
        have wq : IntKind.i64.wrap ((q : Int) + 1) = (q : Int) + 1 := by rw [IntKind.wrap_i64]; omega
        rw [hA] at c0
        clear hm hm2 hlt hc hR hA c00
        by_cases h3 : m.st = 3
        · have hz : ((m.st : Int) == 3) = true := by simp; omega
          by_cases ho : m.own = tk
          · have hz2 : (m.own == tk) = true := by simpa using ho
            have hC : isC tk m = true := by unfold isC; simp [h3, ho]
            have HG := keep (gives_yes Hm.out hC)
            have HC2 := keep (show (t.fs.take (j + 1)).countP (isC tk) = q + 1 by rw [HC.out, ← HI.out.1, if_pos hC])
            clear h3 ho hC
            go_wp2_with (first
              | (go_at_call 60; (with_reducible refine (CT.out _).mono ?_); rintro e w2 ⟨rfl, rfl⟩)
              | (refine wpList_store_rw (cf := fc) (x := (freeF : Fra V)) (j := j) frame_info rfl (.tmp 47) (.tmp 46) rfl rfl (fc_lit 0 (-1) 0 false false 0).symm (fc_len _) (fc_one _) HR.out (fc_wid _) ((gives_len _ _ _).trans Hn.out) (by omega) ?_; intro W1 h1 h2; have H1 := keep (show Rw W1 _ _ _ _ _ _ ∧ Chg _ wr W1 from ⟨h1, h2⟩); clear h1 h2)
              | fail)
            go_roundg (gk - 1)
            case measure => omega
            case rel =>
              have hch : Chg (At h.A) wr W1 := H1.out.2.weak fun j _ hj => by rw [HA.out]; exact congrArg some hj.symm
              refine ⟨j + 1, q + 1, by omega, rfl, rfl, by omega, keep ⟨HC2.out.symm, ?_, HI.out.2.2.trans hch⟩⟩
              rw [HG.out]
              exact HI.out.2.1.frames (by rw [HA.out]; exact H1.out.1) hch
          · have hz2 : (m.own == tk) = false := by simpa using ho
            have hC : isC tk m = false := by unfold isC; simp [ho]
            have HG := keep (gives_no Hm.out hC)
            have HC2 := keep (show (t.fs.take (j + 1)).countP (isC tk) = q by rw [HC.out, ← HI.out.1, hC]; rfl)
            clear h3 ho hC
            go_wp2_with (first
              | (go_at_call 60; (with_reducible refine (CT.out _).mono ?_); rintro e w2 ⟨rfl, rfl⟩)
              | fail)
            go_roundg (gk - 1)
            case measure => omega
            case rel => exact ⟨j + 1, q, by omega, rfl, rfl, by omega, keep ⟨HC2.out.symm, by rw [HG.out]; exact HI.out.2.1, HI.out.2.2⟩⟩
        · have hz : ((m.st : Int) == 3) = false := by simp; omega
          have hC : isC tk m = false := by unfold isC; simp [h3]
          have HG := keep (gives_no Hm.out hC)
          have HC2 := keep (show (t.fs.take (j + 1)).countP (isC tk) = q by rw [HC.out, ← HI.out.1, hC]; rfl)
          clear h3 hC
          go_wp2_with (first
            | (go_at_call 60; (with_reducible refine (CT.out _).mono ?_); rintro e w2 ⟨rfl, rfl⟩)
            | fail)
          go_roundg (gk - 1)
          case measure => omega
          case rel => exact ⟨j + 1, q, by omega, rfl, rfl, by omega, keep ⟨HC2.out.symm, by rw [HG.out]; exact HI.out.2.1, HI.out.2.2⟩⟩
      · have hjn : j = h.n := by omega
        have hjz : ¬ (j : Int) < (h.n : Int) := by omega
        subst hjn
        clear hlt
        go_wp2_with fail
        go_ret
        obtain ⟨h1, h2, h3⟩ := HI.out
        rw [E9.out]
        rw [← Hn.out, List.take_length] at h1
        have e8 : gives tk t.fs h.n = t.fs.map (given tk) := by unfold gives; rw [← Hn.out, List.take_length, List.drop_length, List.append_nil]
        rw [e8] at h2
        exact ⟨by show Ending.returned (Value.int .i64 (q : Int)) = _; rw [h1], keep (.of h2 (h3.weak fun i _ hi => .inr (.inl hi)))⟩
end
end Go.Proofs.YtmoaddbpfekdbaaGreat
