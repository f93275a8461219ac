/- LeafSplits, walked. -/
import Derived.Test.YtbdioipjgjbgmaaLSp0
namespace Go.Proofs.Ytbdioipjgjbgmaa
set_option maxRecDepth 100000
open Go.RowKit
set_option linter.unusedVariables false
attribute [local go_sem ↓] key_ld ent_ld val_ld msg_ld
theorem entsJ_most (ns : List Int) {most : Int} (h : 0 ≤ most) : ∀ j, bytsE (entsJ ns most j) ≤ most
  | 0 => by simpa [entsJ, bytsE] using h
  | j + 1 => by
    unfold entsJ
    split
    · assumption
    · exact entsJ_most ns h j
theorem entsL_most (ns : List Int) {most : Int} (h : 0 ≤ most) : bytsE (entsL ns most) ≤ most := entsJ_most ns h _
theorem last_lt {l : List RE} (ol : OkE l) {a b : RE} {i j : Nat} (ha : l[i]? = some a) (hb : l[j]? = some b) (hij : i < j) : code a.key < code b.key := by
  obtain ⟨h1, e1⟩ := List.getElem?_eq_some_iff.1 ha
  obtain ⟨h2, e2⟩ := List.getElem?_eq_some_iff.1 hb
  have := List.pairwise_iff_getElem.1 ol.asc i j h1 h2 hij
  rw [e1, e2] at this
  exact this
/-- Both halves fit: a leaf of so many bytes. -/
theorem halves_fit {l : List RE} (ol : OkE l) (h2 : 2 ≤ l.length) (hm : bytsE l ≤ 344) : bytsE (l.take (splE l)) ≤ 248 ∧ bytsE l - bytsE (l.take (splE l)) ≤ 248 := by
  have hb := splE_bd h2
  have hh := splE_half h2
  have hf := splE_few h2
  have e1 : bytsE l = bytsE (l.take (splE l)) + bytsE (l.drop (splE l)) := by rw [← bytsE_app, List.take_append_drop]
  have hd := bytsE_rng (ol.sub (List.drop_sublist (splE l) l)).sm
  have ht := bytsE_rng (ol.sub (List.take_sublist (splE l) l)).sm
  have hlast : l[splE l - 1]? = some (l[splE l - 1]'(by omega)) := List.getElem?_eq_getElem _
  have gl := bytE_bd (ol.good _ (emem_at hlast))
  have e2 := bytsE_take hlast
  rw [show splE l - 1 + 1 = splE l by omega] at e2
  rw [List.length_take] at ht
  rw [List.length_drop] at hd
  constructor
  · rcases hf with hf | hf
    · rw [hf] at ht ⊢
      omega
    · omega
  · rcases hh with hh | hh
    · omega
    · rw [hh] at hd
      omega
set_option maxHeartbeats 4000000 in
theorem leafSplits_no {w : World} {A0 : Option Addr} {n0 c0 : Nat} {ns : List Int} {mn : Int} (hl0 : Has w w.heap.size A0 (ns.map (Value.int .i64))) (hn0 : ns.length = n0) (hns : ∀ z ∈ ns, Is64 z) (hnm0 : n0 ≤ maxLen) (hmn : Is64 mn) (h2 : (entsL ns (100 + mn % 245)).length < 2) :
    Calls Try.prog 11 #[.slice A0 n0 c0, .int .i64 mn] w fun e w' => e = .returned (.bool true) ∧ Below w.heap.size w w' := by
  have hp0 := Int.emod_nonneg mn (show (245 : Int) ≠ 0 by decide)
  have hp1 := Int.emod_lt_of_pos mn (show (0 : Int) < 245 by decide)
  have cPl := fun W => law_place mn 245 hmn (by decide) (by decide) W
  have cE := fun W (h : Fr w W) => qents (W := W) (c := c0) (most := 100 + mn % 245) (hl0.fr (Nat.le_refl _) h) h.size hn0 hns (by omega) hnm0
  generalize hl : entsL ns (100 + mn % 245) = l at *
  simp only [show ((245 : Nat) : Int) = 245 from rfl] at cPl
  generalize mn % 245 = p at *
  obtain ⟨n, hn⟩ : ∃ n, l.length = n := ⟨_, rfl⟩
  rw [hn] at cE h2
  have h2z : ¬ (2 : Int) ≤ (n : Int) := by omega
  have hnd : decide ((2 : Int) ≤ (n : Int)) = false := decide_eq_false h2z
  have hw1 : IntKind.i64.wrap (100 + p) = 100 + p := by rw [IntKind.wrap_i64]; omega
  have cW := fun W0 W h => awake7_at (W0 := W0) (W := W) h
  have qz : ∀ W, (binOp .eql 27 (.agg (kc zeroK).toArray) (.agg #[.int .i64 0, .int .u8 0, .int .u8 0, .int .u8 0, .int .u8 0, .int .u8 0, .int .u8 0, .int .u8 0, .int .u8 0])).run Try.prog W = .ok (.bool true) W := fun W => key_self zeroK_wf W
  have rr := fr_refl w
  have top := fr_refl w
  clear hl0 hn0 hns hmn hl hn
  go_enter Try.func11, Try.ntmps11
  go_wp2_with fail
  refine (cPl _).mono ?_
  rintro e v1 ⟨rfl, f1⟩
  replace top := fr_step top f1
  have rr := fr_refl v1
  go_wp2_with fail
  refine (cE _ top).mono ?_
  rintro e v2 ⟨A, c, rfl, ho, f2⟩
  replace top := fr_step top f2
  have rr := fr_refl v2
  go_wp2_with fail
  refine (esplit_no h2).mono ?_
  rintro e v3 ⟨rfl, f3⟩
  replace top := fr_step top f3
  replace ho := keep (Own.below ho.out f3 (Nat.le_refl _))
  have rr := fr_refl v3
  have tok0 : Hid (0 < 1) := keep (by decide)
  go_wp2_with (first
    | (clear tok0; refine wpList_store_at (ds := kc zeroK) key_info rfl (.tmp 8) (.tmp 24) rfl v3.heap.size 0 rfl rfl (kc_len _) (kc_one _) (Arr.new v3 (kc zeroK).toArray 27) (by rw [kc_len]; decide) (splice_all _ _ (Nat.le_of_eq rfl)) ?_; intro v4 hM4 hk4
       have f4 := hk4.fr (fr_new rr _) (Nat.le_refl _)
       replace top := fr_step top f4
       replace ho := keep (Own.below ho.out f4 (Nat.le_refl _))
       have rr := fr_refl v4
       have lK : ∀ W, Fr v4 W → (ldS 27 (.pointer (some ⟨v3.heap.size, 0, none⟩))).run Try.prog W = .ok (.agg (kc zeroK).toArray) W := fun W h => keyS.ld (kc_len _) (hM4.below h hM4.lt)
       clear hM4 hk4)
    | fail)
  refine (cW _ _ rr).mono ?_
  rintro e v5 ⟨rfl, f5⟩
  replace top := fr_step top f5
  replace lK := fun (W : World) (h : Fr v5 W) => lK W (fr_step f5 h)
  replace ho := keep (Own.below ho.out f5 (Nat.le_refl _))
  have rr := fr_refl v5
  go_wp2_with fail
  go_ret
  exact ⟨rfl, top⟩
set_option maxHeartbeats 8000000 in
theorem leafSplits_yes {w : World} {A0 : Option Addr} {n0 c0 : Nat} {ns : List Int} {mn : Int} (hl0 : Has w w.heap.size A0 (ns.map (Value.int .i64))) (hn0 : ns.length = n0) (hns : ∀ z ∈ ns, Is64 z) (hnm0 : n0 ≤ maxLen) (hmn : Is64 mn) (h2 : 2 ≤ (entsL ns (100 + mn % 245)).length) :
    Calls Try.prog 11 #[.slice A0 n0 c0, .int .i64 mn] w fun e w' => e = .returned (.bool true) ∧ Below w.heap.size w w' := by
  have hp0 := Int.emod_nonneg mn (show (245 : Int) ≠ 0 by decide)
  have hp1 := Int.emod_lt_of_pos mn (show (0 : Int) < 245 by decide)
  have cPl := fun W => law_place mn 245 hmn (by decide) (by decide) W
  have cE := fun W (h : Fr w W) => qents (W := W) (c := c0) (most := 100 + mn % 245) (hl0.fr (Nat.le_refl _) h) h.size hn0 hns (by omega) hnm0
  have hmost := entsL_most ns (most := 100 + mn % 245) (by omega)
  have ol := entsL_ok ns (100 + mn % 245)
  have hlen := entsL_len ns (100 + mn % 245)
  generalize hl : entsL ns (100 + mn % 245) = l at *
  simp only [show ((245 : Nat) : Int) = 245 from rfl] at cPl
  generalize mn % 245 = p at *
  have hfit := halves_fit ol h2 (by omega)
  have hb := splE_bd h2
  have hh := splE_half h2
  have hf := splE_few h2
  have hpp : l[splE l]? = some (l[splE l]'hb.2) := List.getElem?_eq_getElem _
  have hll : l[splE l - 1]? = some (l[splE l - 1]'(by omega)) := List.getElem?_eq_getElem _
  have hlt := last_lt ol hll hpp (by omega)
  have gp := ol.good _ (emem_at hpp)
  have gl := ol.good _ (emem_at hll)
  generalize l[splE l]'hb.2 = pe at *
  generalize l[splE l - 1]'(by omega) = le at *
  have hspk := splK_at (l := l) (by omega) hpp
  have e1 : spl1 l = l.take (splE l) := by unfold spl1; rw [if_neg (by omega)]
  have e2 : spl2 l = l.drop (splE l) := by unfold spl2; rw [if_neg (by omega)]
  have e4 : splB l = true := by unfold splB; rw [if_neg (by omega)]
  have cSp := fun W A c (ho : Hid (OwnE W 0 A c l)) => qsplit ho (by omega) ol
  rw [e1, e2, e4, hspk, List.length_take, List.length_drop, Nat.min_eq_left (by omega)] at cSp
  obtain ⟨n, hn⟩ : ∃ n, l.length = n := ⟨_, rfl⟩
  obtain ⟨sp, hsp⟩ : ∃ sp, splE l = sp := ⟨_, rfl⟩
  rw [hsp] at hfit hb hh hf hpp hll cSp
  rw [hn] at hlen hb hh cE cSp h2
  obtain ⟨r, hr⟩ : ∃ r, n - sp = r := ⟨_, rfl⟩
  rw [hr] at cSp hh
  have hlt1 : (l.take sp).length = sp := by rw [List.length_take, hn]; omega
  have hld1 : (l.drop sp).length = r := by rw [List.length_drop, hn, hr]
  have o1 := ol.sub (List.take_sublist sp l)
  have o2 := ol.sub (List.drop_sublist sp l)
  have cB := fun W A c (ho : Hid (OwnE W 0 A c l)) => qrbytes ho (by omega) ol
  have cB1 := fun W A c (ho : Hid (OwnE W 0 A c (l.take sp))) => qrbytes ho (by omega) o1
  rw [hn] at cB
  rw [hlt1] at cB1
  have cB2 := fun W A c (ho : Hid (OwnE W 0 A c (l.take sp))) => ref_ebytes (c := c) (has_rows_take ho.out.has o1.wfe.wid (sp - 1)) (Nat.le_refl _) (n := sp - 1) (by rw [List.length_take, hlt1]; omega) (by omega) (fun x hx => o1.wfe x (List.mem_of_mem_take hx)) (o1.sm.sub (List.take_sublist _ _))
  rw [List.take_take, Nat.min_eq_left (by omega)] at cB2
  have bR := bytsE_rng ol.sm
  have bR1 := bytsE_rng o1.sm
  have bR2 := bytsE_rng (ol.sub (List.take_sublist (sp - 1) l)).sm
  rw [hn] at bR
  rw [hlt1] at bR1
  rw [List.length_take, hn] at bR2
  have cS := fun W A c A2 c2 (h : Hid (OwnE W 0 A c l)) (h' : Hid (OwnE W 0 A2 c2 l)) => qsame h (by omega) ol.wfe h' (by omega) ol.wfe
  rw [decide_eq_true rfl, hn] at cS
  have cK := fun W => rkcomp_at gl.wk gp.wk gl.ok gp.ok (fr_refl W)
  have hcm : cmpK le.key pe.key < 0 := cmpK_lt.2 hlt
  have qn := fun W => key_nself gp.wk W
  have cW := fun W0 W h => awake7_at (W0 := W0) (W := W) h
  have h2z : (2 : Int) ≤ (n : Int) := by omega
  have hw1 : IntKind.i64.wrap (100 + p) = 100 + p := by rw [IntKind.wrap_i64]; omega
  have hwid := ol.wfe.wid
  have Hol := keep ol
  have Hn := keep hn
  have HT := keep hlt1
  have HD := keep hld1
  have Hpp := keep hpp
  have Hll := keep hll
  have HL : Hid (l.take sp ++ l.drop sp = l) := keep (List.take_append_drop sp l)
  have hkey : ((ec pe).drop 0).take 9 = kc pe.key := ec_key pe
  have hkey2 : ((ec le).drop 0).take 9 = kc le.key := ec_key le
  generalize pe.key = pk at *
  generalize le.key = lk at *
  obtain ⟨q, hq⟩ : ∃ q, sp - 1 = q := ⟨_, rfl⟩
  rw [hq] at hf bR2 cB2 hll
  have Hll := keep hll
  have hq1 : q < sp := by omega
  have hs1 : IntKind.i64.wrap ((sp : Int) - 1) = (q : Int) := by rw [IntKind.wrap_i64]; omega
  generalize bytsE l = y at *
  generalize bytsE (l.take sp) = x at *
  generalize bytsE (l.take q) = z at *
  have hwx : IntKind.i64.wrap (2 * x) = 2 * x := by rw [IntKind.wrap_i64]; omega
  have hwz : IntKind.i64.wrap (2 * z) = 2 * z := by rw [IntKind.wrap_i64]; omega
  have hwy : IntKind.i64.wrap (y - x) = y - x := by rw [IntKind.wrap_i64]; omega
  have hwn : IntKind.i64.wrap ((sp : Int) + (r : Int)) = (n : Int) := by rw [IntKind.wrap_i64]; omega
  have hsp0 : ¬ ((sp : Int) = 0) := by omega
  have hr0 : ¬ ((r : Int) = 0) := by omega
  have hb1 : ((sp : Int) == 0) = false := beq_eq_false_iff_ne.2 hsp0
  have hb2 : ((r : Int) == 0) = false := beq_eq_false_iff_ne.2 hr0
  have hrp : 0 < r := by omega
  have hspr : sp + r = n := by omega
  have hn1 : sp ≤ 100000 := by omega
  have hn2 : r ≤ 100000 := by omega
  have w1 := keep o1.wfe
  have w2 := keep o2.wfe
  have H2z := keep h2z
  have Hhh := keep hh
  have Hhf := keep hf
  obtain ⟨hf1, hf2⟩ := hfit
  have rr := fr_refl w
  have top := fr_refl w
  clear hl0 hn0 hns hmost ol hl hspk e1 e2 e4 hsp hr hb hh hf hpp hll hlt gp gl o1 o2 bR bR1 bR2 hlen hwid hn hlt1 hld1 h2
  go_enter Try.func11, Try.ntmps11
  go_wp2_with fail
  refine (cPl _).mono ?_
  rintro e v1 ⟨rfl, f1⟩
  replace top := fr_step top f1
  have rr := fr_refl v1
  go_wp2_with fail
  refine (cE _ top).mono ?_
  rintro e v2 ⟨A, c, rfl, ho, f2⟩
  replace top := fr_step top f2
  have rr := fr_refl v2
  go_wp2_with fail
  refine (cSp _ _ _ ho).mono ?_
  rintro e v3 ⟨A1, c1, A2, c2, rfl, h1, h3, f3⟩
  replace top := fr_step top f3
  replace ho := keep (Own.below ho.out f3 (Nat.le_refl _))
  have rr := fr_refl v3
  have tok0 : Hid (0 < 1) := keep (by decide)
  go_wp2_with (first
    | (clear tok0; refine wpList_store_at (ds := kc pk) key_info rfl (.tmp 8) (.tmp 24) rfl v3.heap.size 0 rfl rfl (kc_len _) (kc_one _) (Arr.new v3 (kc zeroK).toArray 27) (by rw [kc_len]; decide) (splice_all _ _ (Nat.le_of_eq rfl)) ?_; intro v4 hM4 hk4
       have f4 := hk4.fr (fr_new rr _) (Nat.le_refl _)
       replace top := fr_step top f4
       replace ho := keep (Own.below ho.out f4 (Nat.le_refl _))
       replace h1 := keep (Own.below h1.out f4 (Nat.le_refl _))
       replace h3 := keep (Own.below h3.out f4 (Nat.le_refl _))
       have rr := fr_refl v4
       have lK : ∀ W, Fr v4 W → (ldS 27 (.pointer (some ⟨v3.heap.size, 0, none⟩))).run Try.prog W = .ok (.agg (kc pk).toArray) W := fun W h => keyS.ld (kc_len _) (hM4.below h hM4.lt)
       clear hM4 hk4)
    | fail)
  refine (cB _ _ _ ho).mono ?_
  rintro e v5 ⟨rfl, f5⟩
  replace top := fr_step top f5
  replace lK := fun (W : World) (h : Fr v5 W) => lK W (fr_step f5 h)
  replace ho := keep (Own.below ho.out f5 (Nat.le_refl _))
  replace h1 := keep (Own.below h1.out f5 (Nat.le_refl _))
  replace h3 := keep (Own.below h3.out f5 (Nat.le_refl _))
  have rr := fr_refl v5
  go_wp2_with fail
  refine (cB1 _ _ _ h1).mono ?_
  rintro e v6 ⟨rfl, f6⟩
  replace top := fr_step top f6
  replace lK := fun (W : World) (h : Fr v6 W) => lK W (fr_step f6 h)
  replace ho := keep (Own.below ho.out f6 (Nat.le_refl _))
  replace h1 := keep (Own.below h1.out f6 (Nat.le_refl _))
  replace h3 := keep (Own.below h3.out f6 (Nat.le_refl _))
  have rr := fr_refl v6
  go_wp2_with fail
  have hYD := fr_drew rr
  have hcap := h1.out.cap
  rw [HT.out] at hcap
  obtain ⟨g1, rfl⟩ := h1.out.addr (by rw [HT.out]; omega)
  obtain ⟨g3, rfl⟩ := h3.out.addr (by rw [HD.out]; omega)
  have hrA : v6.rangeAt g1 0 (rows ec (l.take sp)) := fun t v ht => by
    obtain ⟨b, off, e, -, hc⟩ := h1.out.has t v ht
    injection e with e
    injection e with e1 e2
    subst e1 e2
    exact hc
  have hrB : v6.rangeAt g3 0 (rows ec (l.drop sp)) := fun t v ht => by
    obtain ⟨b, off, e, -, hc⟩ := h3.out.has t v ht
    injection e with e
    injection e with e1 e2
    subst e1 e2
    exact hc
  have lA := elem_part (o := 0) (i := q) keyS hrA w1.out.wid (h1.out.lt g1 rfl).2 (by rw [List.getElem?_take, if_pos hq1]; exact Hll.out) hkey2 (kc_len _)
  have lB := elem_part (o := 0) (i := 0) keyS hrB w2.out.wid (h3.out.lt g3 rfl).2 (by rw [List.getElem?_drop]; exact Hpp.out) hkey (kc_len _)
  simp only [Nat.zero_mul, Nat.add_zero, Nat.zero_add] at lA lB
  have qs : ∀ W, (Instr.slice 53 (.slice (some ⟨g1, 0, none⟩) sp c1) none (some (.int .i64 (q : Int))) none).run Try.prog W = .ok (.slice (some ⟨g1, 0, none⟩) q c1) W := ents_slice_hi (some ⟨g1, 0, none⟩) sp c1 q (by omega)
  obtain ⟨A3, c3, Z1, A4, c4, Z2, hr1, hr2, h4, hz1', hz2'⟩ := two_app (Y := v6.drew) (c1 := c1) (c2 := c2) (n := n) (h1.out.has.fr (Nat.le_refl _) hYD) (h3.out.has.fr (Nat.le_refl _) hYD) HT.out HD.out hn1 hn2 hspr w1.out w2.out HL.out 53 53
  replace hr1 : (Builtin.append_ #[53, 53] 53 #[.slice (some ⟨v6.heap.size, 0, none⟩) 0 0, .slice (some ⟨g1, 0, none⟩) sp c1]).run Try.prog (v6.alloc (.cells #[] 69)).drew = .ok (.slice A3 sp c3) Z1 := hr1
  have hz1 := fr_step hYD hz1'
  have hz2 := fr_step hYD hz2'
  have cSm := cS Z2 A4 c4 A c h4 (keep (Own.below ho.out hz2 (Nat.le_refl _)))
  have cB2' := fun W (h : Fr v6 W) => cB2 W (some ⟨g1, 0, none⟩) c1 (keep (Own.below h1.out h (Nat.le_refl _)))
  have hcmp : ¬ (0 ≤ cmpK lk pk) := by omega
  clear hrA hrB cS cB2 cB cB1 cSp cE cPl h4 hz1' hz2' w1 w2 HL Hol
  refine wp_region_noPanic ?_
  refine wp_region_held_drew (S := fun w' => Fr v6 w') (by kernel_rfl) hYD (fun hHeld => ?_)
  change wpAnyH _ _ _ _ _ _ _ _ _
  refine wpAnyH_take (i := 0) (v := ?_) rfl (by kernel_rfl) (by kernel_rfl) (by kernel_rfl) (fun _ _ _ h => h) (Or.inl ⟨by rfl, ?_⟩) (by assumption) ?_
  rotate_left
  · intro w' hSw
    try dsimp only at hSw
    go_simp
    try with_reducible rfl
  try simp only [List.getElem_toArray, List.getElem_cons_zero, Act.put, List.setIfInBounds_toArray, List.set_cons_zero, List.set_cons_succ]
  refine wpAnyH_take (i := 1) (v := ?_) rfl (by kernel_rfl) (by kernel_rfl) (by kernel_rfl) (fun _ _ _ h => h) (Or.inl ⟨by rfl, ?_⟩) (by assumption) ?_
  rotate_left
  · intro w' hSw
    try dsimp only at hSw
    go_simp
    try with_reducible rfl
  try simp only [List.getElem_toArray, List.getElem_cons_succ, List.getElem_cons_zero, Act.put, List.setIfInBounds_toArray, List.set_cons_zero, List.set_cons_succ]
  refine wpAnyH_take (i := 2) (v := ?_) rfl (by kernel_rfl) (by kernel_rfl) (by kernel_rfl) (fun _ _ _ h => h) (Or.inl ⟨by rfl, ?_⟩) (by assumption) ?_
  rotate_left
  · intro w' hSw
    try dsimp only at hSw
    go_simp
    try with_reducible rfl
  try simp only [List.getElem_toArray, List.getElem_cons_succ, List.getElem_cons_zero, Act.put, List.setIfInBounds_toArray, List.set_cons_zero, List.set_cons_succ]
  refine wpAnyH_take (i := 3) (v := ?_) rfl (by kernel_rfl) (by kernel_rfl) (by kernel_rfl) (fun _ _ _ h => h) (Or.inl ⟨by rfl, ?_⟩) (by assumption) ?_
  rotate_left
  · intro w' hSw
    try dsimp only at hSw
    go_simp
    try with_reducible rfl
  try simp only [List.getElem_toArray, List.getElem_cons_succ, List.getElem_cons_zero, Act.put, List.setIfInBounds_toArray, List.set_cons_zero, List.set_cons_succ]
  refine wpAnyH_take (i := 4) (v := ?_) rfl (by kernel_rfl) (by kernel_rfl) (by kernel_rfl) (fun _ _ _ h => h) (Or.inl ⟨by rfl, ?_⟩) (by assumption) ?_
  rotate_left
  · intro w' hSw
    try dsimp only at hSw
    go_simp
    try with_reducible rfl
  try simp only [List.getElem_toArray, List.getElem_cons_succ, List.getElem_cons_zero, Act.put, List.setIfInBounds_toArray, List.set_cons_zero, List.set_cons_succ]
  refine wpAnyH_take (i := 5) (v := ?_) rfl (by kernel_rfl) (by kernel_rfl) (by kernel_rfl) (fun _ _ _ h => h) (Or.inl ⟨by rfl, ?_⟩) (by assumption) ?_
  rotate_left
  · intro w' hSw
    try dsimp only at hSw
    go_simp
    try with_reducible rfl
  try simp only [List.getElem_toArray, List.getElem_cons_succ, List.getElem_cons_zero, Act.put, List.setIfInBounds_toArray, List.set_cons_zero, List.set_cons_succ]
  refine wpAnyH_take (i := 6) (v := ?_) rfl (by kernel_rfl) (by kernel_rfl) (by kernel_rfl) (fun _ _ _ h => h) (Or.inl ⟨by rfl, ?_⟩) (by assumption) ?_
  rotate_left
  · intro w' hSw
    try dsimp only at hSw
    go_simp
    try with_reducible rfl
  try simp only [List.getElem_toArray, List.getElem_cons_succ, List.getElem_cons_zero, Act.put, List.setIfInBounds_toArray, List.set_cons_zero, List.set_cons_succ]
  refine wpAnyH_take (i := 7) (v := ?_) rfl (by kernel_rfl) (by kernel_rfl) (by kernel_rfl) (fun _ _ _ h => h) (Or.inl ⟨by rfl, ?_⟩) (by assumption) ?_
  rotate_left
  · intro w' hSw
    try dsimp only at hSw
    go_simp
    try with_reducible rfl
  try simp only [List.getElem_toArray, List.getElem_cons_succ, List.getElem_cons_zero, Act.put, List.setIfInBounds_toArray, List.set_cons_zero, List.set_cons_succ]
  refine wpAnyH_take (i := 8) (v := ?_) rfl (by kernel_rfl) (by kernel_rfl) (by kernel_rfl) (fun _ _ _ h => h) (Or.inl ⟨by rfl, ?_⟩) (by assumption) ?_
  rotate_left
  · intro w' hSw
    try dsimp only at hSw
    go_simp
    try with_reducible rfl
  try simp only [List.getElem_toArray, List.getElem_cons_succ, List.getElem_cons_zero, Act.put, List.setIfInBounds_toArray, List.set_cons_zero, List.set_cons_succ]
  refine wpAnyH_take (i := 9) (v := ?_) rfl (by kernel_rfl) (by kernel_rfl) (by kernel_rfl) (fun _ _ _ h => h) (Or.inl ⟨by rfl, ?_⟩) (by assumption) ?_
  rotate_left
  · intro w' hSw
    try dsimp only at hSw
    go_simp
    try with_reducible rfl
  try simp only [List.getElem_toArray, List.getElem_cons_succ, List.getElem_cons_zero, Act.put, List.setIfInBounds_toArray, List.set_cons_zero, List.set_cons_succ]
  refine wpAnyH_take (i := 10) (v := ?_) rfl (by kernel_rfl) (by kernel_rfl) (by kernel_rfl) (fun _ _ _ h => h) (Or.inl ⟨by rfl, ?_⟩) (by assumption) ?_
  rotate_left
  · intro w' hSw
    try dsimp only at hSw
    go_simp
    try with_reducible rfl
  try simp only [List.getElem_toArray, List.getElem_cons_succ, List.getElem_cons_zero, Act.put, List.setIfInBounds_toArray, List.set_cons_zero, List.set_cons_succ]
  refine wpAnyH_take (i := 11) (v := ?_) rfl (by kernel_rfl) (by kernel_rfl) (by kernel_rfl) (fun _ _ _ h => h) (Or.inl ⟨by rfl, ?_⟩) (by assumption) ?_
  rotate_left
  · intro w' hSw
    try dsimp only at hSw
    go_simp
    try with_reducible rfl
  try simp only [List.getElem_toArray, List.getElem_cons_succ, List.getElem_cons_zero, Act.put, List.setIfInBounds_toArray, List.set_cons_zero, List.set_cons_succ]
  refine wpAnyH_take (i := 12) (v := ?_) rfl (by kernel_rfl) (by kernel_rfl) (by kernel_rfl) (fun _ _ _ h => h) (Or.inl ⟨by rfl, ?_⟩) (by assumption) ?_
  rotate_left
  · intro w' hSw
    try dsimp only at hSw
    go_simp
    try with_reducible rfl
  try simp only [List.getElem_toArray, List.getElem_cons_succ, List.getElem_cons_zero, Act.put, List.setIfInBounds_toArray, List.set_cons_zero, List.set_cons_succ]
  refine wpAnyH_take (i := 13) (v := ?_) rfl (by kernel_rfl) (by kernel_rfl) (by kernel_rfl) (fun _ _ _ h => h) (Or.inl ⟨by rfl, ?_⟩) (by assumption) ?_
  rotate_left
  · intro w' hSw
    try dsimp only at hSw
    go_simp
    try with_reducible rfl
  try simp only [List.getElem_toArray, List.getElem_cons_succ, List.getElem_cons_zero, Act.put, List.setIfInBounds_toArray, List.set_cons_zero, List.set_cons_succ]
  refine wpAnyH_take (i := 14) (v := ?_) rfl (by kernel_rfl) (by kernel_rfl) (by kernel_rfl) (fun _ _ _ h => h) (Or.inl ⟨by rfl, ?_⟩) (by assumption) ?_
  rotate_left
  · intro w' hSw
    try dsimp only at hSw
    go_simp
    try with_reducible rfl
  try simp only [List.getElem_toArray, List.getElem_cons_succ, List.getElem_cons_zero, Act.put, List.setIfInBounds_toArray, List.set_cons_zero, List.set_cons_succ]
  refine wpAnyH_take (i := 15) (v := ?_) rfl (by kernel_rfl) (by kernel_rfl) (by kernel_rfl) (fun _ _ _ h => h) (Or.inl ⟨by rfl, ?_⟩) (by assumption) ?_
  rotate_left
  · intro w' hSw
    try dsimp only at hSw
    go_simp
    try with_reducible rfl
  try simp only [List.getElem_toArray, List.getElem_cons_succ, List.getElem_cons_zero, Act.put, List.setIfInBounds_toArray, List.set_cons_zero, List.set_cons_succ]
  refine wpAnyH_take (i := 16) (v := ?_) rfl (by kernel_rfl) (by kernel_rfl) (by kernel_rfl) (fun _ _ _ h => h) (Or.inl ⟨by rfl, ?_⟩) (by assumption) ?_
  rotate_left
  · intro w' hSw
    try dsimp only at hSw
    go_simp
    try with_reducible rfl
  try simp only [List.getElem_toArray, List.getElem_cons_succ, List.getElem_cons_zero, Act.put, List.setIfInBounds_toArray, List.set_cons_zero, List.set_cons_succ]
  refine wpAnyH_take (i := 17) (v := ?_) rfl (by kernel_rfl) (by kernel_rfl) (by kernel_rfl) (fun _ _ _ h => h) (Or.inl ⟨by rfl, ?_⟩) (by assumption) ?_
  rotate_left
  · intro w' hSw
    try dsimp only at hSw
    go_simp
    try with_reducible rfl
  try simp only [List.getElem_toArray, List.getElem_cons_succ, List.getElem_cons_zero, Act.put, List.setIfInBounds_toArray, List.set_cons_zero, List.set_cons_succ]
  refine wpAnyH_take (i := 18) (v := ?_) rfl (by kernel_rfl) (by kernel_rfl) (by kernel_rfl) (fun _ _ _ h => h) (Or.inl ⟨by rfl, ?_⟩) (by assumption) ?_
  rotate_left
  · intro w' hSw
    try dsimp only at hSw
    go_simp
    try with_reducible rfl
  try simp only [List.getElem_toArray, List.getElem_cons_succ, List.getElem_cons_zero, Act.put, List.setIfInBounds_toArray, List.set_cons_zero, List.set_cons_succ]
  refine wpAnyH_take (i := 20) (v := ?_) rfl (by kernel_rfl) (by kernel_rfl) (by kernel_rfl) (fun _ _ _ h => h) (Or.inl ⟨by rfl, ?_⟩) (by assumption) ?_
  rotate_left
  · intro w' hSw
    try dsimp only at hSw
    go_simp
    try with_reducible rfl
  try simp only [List.getElem_toArray, List.getElem_cons_succ, List.getElem_cons_zero, Act.put, List.setIfInBounds_toArray, List.set_cons_zero, List.set_cons_succ]
  refine wpAnyH_take (i := 22) (v := ?_) rfl (by kernel_rfl) (by kernel_rfl) (by kernel_rfl) (fun _ _ _ h => h) (Or.inl ⟨by rfl, ?_⟩) (by assumption) ?_
  rotate_left
  · intro w' hSw
    try dsimp only at hSw
    go_simp
    try with_reducible rfl
  try simp only [List.getElem_toArray, List.getElem_cons_succ, List.getElem_cons_zero, Act.put, List.setIfInBounds_toArray, List.set_cons_zero, List.set_cons_succ]
  refine wpAnyH_take (i := 24) (v := ?_) rfl (by kernel_rfl) (by kernel_rfl) (by kernel_rfl) (fun _ _ _ h => h) (Or.inl ⟨by rfl, ?_⟩) (by assumption) ?_
  rotate_left
  · intro w' hSw
    try dsimp only at hSw
    go_simp
    try with_reducible rfl
  try simp only [List.getElem_toArray, List.getElem_cons_succ, List.getElem_cons_zero, Act.put, List.setIfInBounds_toArray, List.set_cons_zero, List.set_cons_succ]
  refine wpAnyH_ready (rs := [19]) (by kernel_rfl) (by simp) ?_
  refine AllReadyH.cons rfl (fun K hK0 => ?_) AllReadyH.nil
  go_simp
  refine hK0.out _ _ (fr_drew (fr_new rr _)) (fun _ => ?_)
  clear hK0 K
  try simp only [List.getElem_toArray, List.getElem_cons_succ, List.getElem_cons_zero, Act.put, List.setIfInBounds_toArray, List.set_cons_zero, List.set_cons_succ]
  refine wpAnyH_ready (rs := [21]) (by kernel_rfl) (by simp) ?_
  refine AllReadyH.cons rfl (fun K hK0 => ?_) AllReadyH.nil
  refine step_append_run rfl (.tmp 72) (.tmp 73) 53 53 rfl _ _ ?_ ?_ hr1 ?_
  · rfl
  · rfl
  refine hK0.out _ _ hz1 (fun _ => ?_)
  clear hK0 K
  try simp only [List.getElem_toArray, List.getElem_cons_succ, List.getElem_cons_zero, Act.put, List.setIfInBounds_toArray, List.set_cons_zero, List.set_cons_succ]
  refine wpAnyH_ready (rs := [23]) (by kernel_rfl) (by simp) ?_
  refine AllReadyH.cons rfl (fun K hK0 => ?_) AllReadyH.nil
  refine step_append_run rfl (.tmp 74) (.tmp 75) 53 53 rfl _ _ ?_ ?_ hr2 ?_
  · rfl
  · rfl
  refine hK0.out _ _ hz2 (fun _ => ?_)
  clear hK0 K
  try simp only [List.getElem_toArray, List.getElem_cons_succ, List.getElem_cons_zero, Act.put, List.setIfInBounds_toArray, List.set_cons_zero, List.set_cons_succ]
  refine wpAnyH_ready (rs := [25]) (by kernel_rfl) (by simp) ?_
  refine AllReadyH.cons rfl (fun K hK0 => ?_) AllReadyH.nil
  go_simp
  refine cSm.mono ?_
  rintro e y3 ⟨rfl, z3⟩
  have k3 := fr_step hz2 z3
  go_simp
  refine hK0.out _ _ k3 (fun _ => ?_)
  clear hK0 K
  try simp only [List.getElem_toArray, List.getElem_cons_succ, List.getElem_cons_zero, Act.put, List.setIfInBounds_toArray, List.set_cons_zero, List.set_cons_succ]
  refine wpAnyH_take (i := 26) (v := ?_) rfl (by kernel_rfl) (by kernel_rfl) (by kernel_rfl) (fun _ _ _ h => h) (Or.inl ⟨by rfl, ?_⟩) (by assumption) ?_
  rotate_left
  · intro w' hSw
    try dsimp only at hSw
    go_simp
    try with_reducible rfl
  try simp only [List.getElem_toArray, List.getElem_cons_succ, List.getElem_cons_zero, Act.put, List.setIfInBounds_toArray, List.set_cons_zero, List.set_cons_succ]
  refine wpAnyH_take (i := 27) (v := ?_) rfl (by kernel_rfl) (by kernel_rfl) (by kernel_rfl) (fun _ _ _ h => h) (Or.inl ⟨by rfl, ?_⟩) (by assumption) ?_
  rotate_left
  · intro w' hSw
    try dsimp only at hSw
    go_simp
    try with_reducible rfl
  try simp only [List.getElem_toArray, List.getElem_cons_succ, List.getElem_cons_zero, Act.put, List.setIfInBounds_toArray, List.set_cons_zero, List.set_cons_succ]
  refine wpAnyH_take (i := 28) (v := ?_) rfl (by kernel_rfl) (by kernel_rfl) (by kernel_rfl) (fun _ _ _ h => h) (Or.inl ⟨by rfl, ?_⟩) (by assumption) ?_
  rotate_left
  · intro w' hSw
    try dsimp only at hSw
    go_simp
    try with_reducible rfl
  try simp only [List.getElem_toArray, List.getElem_cons_succ, List.getElem_cons_zero, Act.put, List.setIfInBounds_toArray, List.set_cons_zero, List.set_cons_succ]
  refine wpAnyH_take (i := 29) (v := ?_) rfl (by kernel_rfl) (by kernel_rfl) (by kernel_rfl) (fun _ _ _ h => h) (Or.inl ⟨by rfl, ?_⟩) (by assumption) ?_
  rotate_left
  · intro w' hSw
    try dsimp only at hSw
    go_simp
    try with_reducible rfl
  try simp only [List.getElem_toArray, List.getElem_cons_succ, List.getElem_cons_zero, Act.put, List.setIfInBounds_toArray, List.set_cons_zero, List.set_cons_succ]
  refine wpAnyH_take (i := 30) (v := ?_) rfl (by kernel_rfl) (by kernel_rfl) (by kernel_rfl) (fun _ _ _ h => h) (Or.inl ⟨by rfl, ?_⟩) (by assumption) ?_
  rotate_left
  · intro w' hSw
    try dsimp only at hSw
    go_simp
    try with_reducible rfl
  try simp only [List.getElem_toArray, List.getElem_cons_succ, List.getElem_cons_zero, Act.put, List.setIfInBounds_toArray, List.set_cons_zero, List.set_cons_succ]
  refine wpAnyH_take (i := 31) (v := ?_) rfl (by kernel_rfl) (by kernel_rfl) (by kernel_rfl) (fun _ _ _ h => h) (Or.inl ⟨by rfl, ?_⟩) (by assumption) ?_
  rotate_left
  · intro w' hSw
    try dsimp only at hSw
    go_simp
    try with_reducible rfl
  try simp only [List.getElem_toArray, List.getElem_cons_succ, List.getElem_cons_zero, Act.put, List.setIfInBounds_toArray, List.set_cons_zero, List.set_cons_succ]
  refine wpAnyH_take (i := 32) (v := ?_) rfl (by kernel_rfl) (by kernel_rfl) (by kernel_rfl) (fun _ _ _ h => h) (Or.inl ⟨by rfl, ?_⟩) (by assumption) ?_
  rotate_left
  · intro w' hSw
    try dsimp only at hSw
    go_simp
    try with_reducible rfl
  try simp only [List.getElem_toArray, List.getElem_cons_succ, List.getElem_cons_zero, Act.put, List.setIfInBounds_toArray, List.set_cons_zero, List.set_cons_succ]
  refine wpAnyH_take (i := 33) (v := ?_) rfl (by kernel_rfl) (by kernel_rfl) (by kernel_rfl) (fun _ _ _ h => h) (Or.inl ⟨by rfl, ?_⟩) (by assumption) ?_
  rotate_left
  · intro w' hSw
    try dsimp only at hSw
    go_simp
    try with_reducible rfl
  try simp only [List.getElem_toArray, List.getElem_cons_succ, List.getElem_cons_zero, Act.put, List.setIfInBounds_toArray, List.set_cons_zero, List.set_cons_succ]
  refine wpAnyH_take (i := 34) (v := ?_) rfl (by kernel_rfl) (by kernel_rfl) (by kernel_rfl) (fun _ _ _ h => h) (Or.inl ⟨by rfl, ?_⟩) (by assumption) ?_
  rotate_left
  · intro w' hSw
    try dsimp only at hSw
    go_simp
    try with_reducible rfl
  try simp only [List.getElem_toArray, List.getElem_cons_succ, List.getElem_cons_zero, Act.put, List.setIfInBounds_toArray, List.set_cons_zero, List.set_cons_succ]
  refine wpAnyH_take (i := 35) (v := ?_) rfl (by kernel_rfl) (by kernel_rfl) (by kernel_rfl) (fun _ _ _ h => h) (Or.inl ⟨by rfl, ?_⟩) (by assumption) ?_
  rotate_left
  · intro w' hSw
    try dsimp only at hSw
    go_simp
    try with_reducible rfl
  try simp only [List.getElem_toArray, List.getElem_cons_succ, List.getElem_cons_zero, Act.put, List.setIfInBounds_toArray, List.set_cons_zero, List.set_cons_succ]
  refine wpAnyH_take (i := 36) (v := ?_) rfl (by kernel_rfl) (by kernel_rfl) (by kernel_rfl) (fun _ _ _ h => h) (Or.inl ⟨by rfl, ?_⟩) (by assumption) ?_
  rotate_left
  · intro w' hSw
    try dsimp only at hSw
    go_simp
    try with_reducible rfl
  try simp only [List.getElem_toArray, List.getElem_cons_succ, List.getElem_cons_zero, Act.put, List.setIfInBounds_toArray, List.set_cons_zero, List.set_cons_succ]
  refine wpAnyH_take (i := 37) (v := ?_) rfl (by kernel_rfl) (by kernel_rfl) (by kernel_rfl) (fun _ _ _ h => h) (Or.inl ⟨by rfl, ?_⟩) (by assumption) ?_
  rotate_left
  · intro w' hSw
    try dsimp only at hSw
    go_simp
    try with_reducible rfl
  try simp only [List.getElem_toArray, List.getElem_cons_succ, List.getElem_cons_zero, Act.put, List.setIfInBounds_toArray, List.set_cons_zero, List.set_cons_succ]
  refine wpAnyH_take (i := 38) (v := ?_) rfl (by kernel_rfl) (by kernel_rfl) (by kernel_rfl) (fun _ _ _ h => h) (Or.inl ⟨by rfl, ?_⟩) (by assumption) ?_
  rotate_left
  · intro w' hSw
    try dsimp only at hSw
    go_simp
    try with_reducible rfl
  try simp only [List.getElem_toArray, List.getElem_cons_succ, List.getElem_cons_zero, Act.put, List.setIfInBounds_toArray, List.set_cons_zero, List.set_cons_succ]
  refine wpAnyH_take (i := 39) (v := ?_) rfl (by kernel_rfl) (by kernel_rfl) (by kernel_rfl) (fun _ _ _ h => h) (Or.inl ⟨by rfl, ?_⟩) (by assumption) ?_
  rotate_left
  · intro w' hSw
    try dsimp only at hSw
    go_simp
    try with_reducible rfl
  try simp only [List.getElem_toArray, List.getElem_cons_succ, List.getElem_cons_zero, Act.put, List.setIfInBounds_toArray, List.set_cons_zero, List.set_cons_succ]
  refine wpAnyH_take (i := 40) (v := ?_) rfl (by kernel_rfl) (by kernel_rfl) (by kernel_rfl) (fun _ _ _ h => h) (Or.inl ⟨by rfl, ?_⟩) (by assumption) ?_
  rotate_left
  · intro w' hSw
    try dsimp only at hSw
    go_simp
    try with_reducible rfl
  try simp only [List.getElem_toArray, List.getElem_cons_succ, List.getElem_cons_zero, Act.put, List.setIfInBounds_toArray, List.set_cons_zero, List.set_cons_succ]
  refine wpAnyH_take (i := 41) (v := ?_) rfl (by kernel_rfl) (by kernel_rfl) (by kernel_rfl) (fun _ _ _ h => h) (Or.inl ⟨by rfl, ?_⟩) (by assumption) ?_
  rotate_left
  · intro w' hSw
    try dsimp only at hSw
    go_simp
    try with_reducible rfl
  try simp only [List.getElem_toArray, List.getElem_cons_succ, List.getElem_cons_zero, Act.put, List.setIfInBounds_toArray, List.set_cons_zero, List.set_cons_succ]
  refine wpAnyH_take (i := 42) (v := ?_) rfl (by kernel_rfl) (by kernel_rfl) (by kernel_rfl) (fun _ _ _ h => h) (Or.inl ⟨by rfl, ?_⟩) (by assumption) ?_
  rotate_left
  · intro w' hSw
    try dsimp only at hSw
    go_simp
    try with_reducible rfl
  try simp only [List.getElem_toArray, List.getElem_cons_succ, List.getElem_cons_zero, Act.put, List.setIfInBounds_toArray, List.set_cons_zero, List.set_cons_succ]
  refine wpAnyH_take (i := 43) (v := ?_) rfl (by kernel_rfl) (by kernel_rfl) (by kernel_rfl) (fun _ _ _ h => h) (Or.inl ⟨by rfl, ?_⟩) (by assumption) ?_
  rotate_left
  · intro w' hSw
    try dsimp only at hSw
    go_simp
    try with_reducible rfl
  try simp only [List.getElem_toArray, List.getElem_cons_succ, List.getElem_cons_zero, Act.put, List.setIfInBounds_toArray, List.set_cons_zero, List.set_cons_succ]
  refine wpAnyH_take (i := 44) (v := ?_) rfl (by kernel_rfl) (by kernel_rfl) (by kernel_rfl) (fun _ _ _ h => h) (Or.inl ⟨by rfl, ?_⟩) (by assumption) ?_
  rotate_left
  · intro w' hSw
    try dsimp only at hSw
    go_simp
    try with_reducible rfl
  try simp only [List.getElem_toArray, List.getElem_cons_succ, List.getElem_cons_zero, Act.put, List.setIfInBounds_toArray, List.set_cons_zero, List.set_cons_succ]
  refine wpAnyH_ready (rs := [45]) (by kernel_rfl) (by simp) ?_
  refine AllReadyH.cons rfl (fun K hK0 => ?_) AllReadyH.nil
  go_simp
  refine (cK y3).mono ?_
  rintro e y4 ⟨rfl, z4⟩
  have k4 := fr_step k3 z4
  go_simp
  refine hK0.out _ _ k4 (fun _ => ?_)
  clear hK0 K
  try simp only [List.getElem_toArray, List.getElem_cons_succ, List.getElem_cons_zero, Act.put, List.setIfInBounds_toArray, List.set_cons_zero, List.set_cons_succ]
  refine wpAnyH_take (i := 46) (v := ?_) rfl (by kernel_rfl) (by kernel_rfl) (by kernel_rfl) (fun _ _ _ h => h) (Or.inl ⟨by rfl, ?_⟩) (by assumption) ?_
  rotate_left
  · intro w' hSw
    try dsimp only at hSw
    go_simp
    try with_reducible rfl
  try simp only [List.getElem_toArray, List.getElem_cons_succ, List.getElem_cons_zero, Act.put, List.setIfInBounds_toArray, List.set_cons_zero, List.set_cons_succ]
  refine wpAnyH_take (i := 47) (v := ?_) rfl (by kernel_rfl) (by kernel_rfl) (by kernel_rfl) (fun _ _ _ h => h) (Or.inl ⟨by rfl, ?_⟩) (by assumption) ?_
  rotate_left
  · intro w' hSw
    try dsimp only at hSw
    go_simp
    try with_reducible rfl
  try simp only [List.getElem_toArray, List.getElem_cons_succ, List.getElem_cons_zero, Act.put, List.setIfInBounds_toArray, List.set_cons_zero, List.set_cons_succ]
  refine wpAnyH_done (by kernel_rfl) ?_ _
  refine NoPanic.normal ?_
  all_goals
    by_cases hx2 : y ≤ 2 * x
    · by_cases hsi : sp = 1
      · have hsi2 : ((sp : Int) == 1) = true := by rw [hsi]; rfl
        go_wp2_with (first
          | (go_at_call 51; (with_reducible refine (cW _ _ (fr_refl _)).mono ?_); rintro e y6 ⟨rfl, z6⟩; have k6 : Fr v6 y6 := fr_step (by assumption) z6)
          | fail)
        go_ret
        exact ⟨rfl, fr_step top (by assumption)⟩
      · have hsi2 : ((sp : Int) == 1) = false := beq_eq_false_iff_ne.2 (by omega)
        have hf3 : 2 * z < y := Hhf.out.resolve_left hsi
        go_wp2_with (first
          | (go_at_call 47; (with_reducible refine (cB2' _ (by assumption)).mono ?_); rintro e y5 ⟨rfl, z5⟩; have k5 : Fr v6 y5 := fr_step (by assumption) z5)
          | (go_at_call 51; (with_reducible refine (cW _ _ (fr_refl _)).mono ?_); rintro e y6 ⟨rfl, z6⟩; have k6 : Fr v6 y6 := fr_step (by assumption) z6)
          | fail)
        go_ret
        exact ⟨rfl, fr_step top (by assumption)⟩
    · have hri : ((r : Int) == 1) = true := by rw [Hhh.out.resolve_left hx2]; rfl
      by_cases hsi : sp = 1
      · have hsi2 : ((sp : Int) == 1) = true := by rw [hsi]; rfl
        go_wp2_with (first
          | (go_at_call 51; (with_reducible refine (cW _ _ (fr_refl _)).mono ?_); rintro e y6 ⟨rfl, z6⟩; have k6 : Fr v6 y6 := fr_step (by assumption) z6)
          | fail)
        go_ret
        exact ⟨rfl, fr_step top (by assumption)⟩
      · have hsi2 : ((sp : Int) == 1) = false := beq_eq_false_iff_ne.2 (by omega)
        have hf3 : 2 * z < y := Hhf.out.resolve_left hsi
        go_wp2_with (first
          | (go_at_call 47; (with_reducible refine (cB2' _ (by assumption)).mono ?_); rintro e y5 ⟨rfl, z5⟩; have k5 : Fr v6 y5 := fr_step (by assumption) z5)
          | (go_at_call 51; (with_reducible refine (cW _ _ (fr_refl _)).mono ?_); rintro e y6 ⟨rfl, z6⟩; have k6 : Fr v6 y6 := fr_step (by assumption) z6)
          | fail)
        go_ret
        exact ⟨rfl, fr_step top (by assumption)⟩
theorem leafSplits_core {w : World} {A0 : Option Addr} {n0 c0 : Nat} {ns : List Int} {mn : Int} (hl0 : Has w w.heap.size A0 (ns.map (Value.int .i64))) (hn0 : ns.length = n0) (hns : ∀ z ∈ ns, Is64 z) (hnm0 : n0 ≤ maxLen) (hmn : Is64 mn) :
    Calls Try.prog 11 #[.slice A0 n0 c0, .int .i64 mn] w fun e w' => e = .returned (.bool true) ∧ Below w.heap.size w w' := by
  rcases Nat.lt_or_ge (entsL ns (100 + mn % 245)).length 2 with h | h
  · exact leafSplits_no hl0 hn0 hns hnm0 hmn h
  · exact leafSplits_yes hl0 hn0 hns hnm0 hmn h
end Go.Proofs.Ytbdioipjgjbgmaa
