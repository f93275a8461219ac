/- CachePlays: a step on both. -/
import Derived.Test.YtmoaddbpfekdbaaGreatPz2
namespace Go.Proofs.YtmoaddbpfekdbaaGreat
set_option linter.unusedVariables false
set_option linter.unusedSimpArgs false
set_option linter.unusedSectionVars false
set_option maxRecDepth 100000
open Go.RowKit
attribute [local go_sem ↓] node16_ld
/-- package 00's Leaf: what it holds lies in blocks of its own. -/
theorem q_leaf2 {w : World} {A : Option Addr} {n c B : Nat} {ns : List Int} (hl : Has w B A (ns.map (Value.int .i64))) (hB : B ≤ w.heap.size) (hn : ns.length = n) (hns : ∀ z ∈ ns, Is64 z) (hnm : n ≤ maxLen) :
    Calls Tryz.prog 18 #[.slice A n c] w fun e w' => ∃ v, e = .returned (nv v) ∧ Hid (NP w' (fun b => w.heap.size ≤ b) v (leafN ns)) ∧ Fr w w' := by
  obtain ⟨Z, hZ, hF, hZZ, hG⟩ : ∃ Z, w.alloc (.cells #[.bool false, .slice none 0 0, .slice none 0 0, .slice none 0 0, .slice none 0 0] 41) = Z ∧ Fr w Z ∧ Fr Z Z ∧ Arr Z w.heap.size 41 zeroNV.cells.toArray := ⟨_, rfl, fr_new (fr_refl w) _, fr_refl _, Arr.new _ _ _⟩
  have cE := law_ents (w := Z) (c := c) (most := 248) (hl.fr hB hF) (Nat.le_trans hB hF.size) hn hns (by omega) hnm
  have hlen := entsL_len ns 248
  have ho := entsL_ok ns 248
  unfold leafN
  generalize entsL ns 248 = l at *
  clear hl hns hn
  go_enter Tryz.func18, Tryz.ntmps18
  go_wp2_with fail
  refine cE.mono ?_
  rintro e v1 ⟨A1, d1, rfl, hO, f1⟩
  have hG1 := hG.below f1 hG.lt
  have hz := hF.size
  have hlt := hG.lt
  have tok : Hid (0 < 1) := keep (by decide)
  go_wp2_with (first
    | (clear tok; refine wpList_store_at (ds := NV.cells ⟨true, A1, l.length, d1, none, 0, 0, none, 0, 0, none, 0, 0⟩) nod_info rfl (.tmp 2) (.tmp 5) rfl w.heap.size 0 rfl rfl rfl (nv_one _) hG1 (by decide) (splice_all _ _ (Nat.le_of_eq rfl)) ?_; intro W8 hM8 hk8)
    | fail)
  refine bodyPost_ret (nodS.result rfl _ w.heap.size rfl rfl hM8) rfl ?_
  have hO8 := own_kept hO hk8 (by omega)
  refine ⟨⟨true, A1, l.length, d1, none, 0, 0, none, 0, 0, none, 0, 0⟩, rfl, keep ?_, hk8.fr (fr_step hF f1) (Nat.le_refl _)⟩
  exact ⟨rfl, Own.hasP hO8 (fun b hb => by omega), rfl, by simp only; omega, ho.wfe, HasP.nil, rfl, Nat.le_refl _, by simp, HasP.nil, rfl, by simp, by intro m hm; simp at hm, HasP.nil, rfl, Nat.le_refl _, by simp, by intro m hm; simp at hm⟩
theorem leaf_two (w : World) (z : Int) (hz : Is64 z) : Calls Tryz.prog 18 #[.slice (some ⟨w.heap.size, 0, none⟩) 1 1] (w.alloc (.cells #[.int .i64 z] 3)) fun e w' => ∃ v, e = .returned (nv v) ∧ Hid (NP w' (fun b => w.heap.size ≤ b) v (leafN [z])) ∧ Fr w w' := by
  refine (q_leaf2 (ns := [z]) (c := 1) (n := 1) (has_new w ([z].map (Value.int .i64)) 3) (by simp) rfl (by intro y hy; simp at hy; subst hy; exact hz) (by decide)).mono ?_
  rintro e w' ⟨v, rfl, h1, h2⟩
  exact ⟨v, rfl, keep (h1.out.weak fun b _ hb => by simp at hb; omega), fr_step (fr_new (fr_refl w) _) h2⟩
/-- Both caches, alike. -/
def PR (w0 W : World) (gp gd n K : Nat) (t d : Ca NX) : Prop := ∃ hp hd, PD w0 W gp hp gd hd n K t d ∧ Rl t d
theorem PR.go {w0 W W' : World} {gp gd n K : Nat} {t d : Ca NX} (h : PR w0 W gp gd n K t d) (f : Fr W W') : PR w0 W' gp gd n K t d := by
  obtain ⟨hp, hd, h1, h2⟩ := h
  exact ⟨hp, hd, h1.go f, h2⟩
theorem PR.frw {w0 W : World} {gp gd n K : Nat} {t d : Ca NX} (h : PR w0 W gp gd n K t d) : Fr w0 W := by
  obtain ⟨hp, hd, h1, h2⟩ := h
  exact h1.fr
theorem boxes_at {V : World} {bs bn : Nat} {a b c e : Int} {v : NV} (h : Arr V bs 32 [Value.int .i64 a, .int .i64 b, .int .i64 c, .int .i64 e].toArray) (k : Arr V bn 41 v.cells.toArray) :
    V.cell? ⟨bs, 1, none⟩ = some (.int .i64 b) ∧ V.cell? ⟨bs, 2, none⟩ = some (.int .i64 c) ∧ (ldS 41 (.pointer (some ⟨bn, 0, none⟩))).run Tryz.prog V = .ok (nv v) V := by
  refine ⟨(h.cell 1).trans rfl, (h.cell 2).trans rfl, ?_⟩
  exact node16_ty.ld (w := V) (show v.cells.length = 5 from rfl) k
theorem evF_one : One (evF (none : Option (Fra NX))) := .cons rfl (.cons rfl (.cons rfl (.cons rfl (.cons rfl (.cons rfl (.cons rfl (.cons rfl (.cons rfl (.cons rfl (.cons rfl .nil))))))))))
theorem fc_nodeP {V : World} {b : Nat} {f : Fra NX} (h : Arr V b 63 (fc f).toArray) : (ldS 41 (.pointer (some ⟨b, 5, none⟩))).run Tryz.prog V = .ok (nv f.node.v) V := node16_ty.ldMid (ds := f.node.v.cells) rfl (range_of_arr h rfl)
theorem fill_small {d : Ca NX} {x : Int} {v : NX} {l : List Int} {n K : Nat} (h : (fillC d x v).1 = l) (hb : Bd d n K) (hK : K ≤ 1000) : l.length ≤ 100000 := by
  subst h
  have h1 := hb.ld
  unfold fillC
  cases loadI d x with
  | none => exact Nat.zero_le _
  | some i =>
    simp only [List.length_map]
    have := List.length_filter_le (fun p : Int × Int => p.2 == x) d.loads
    omega
theorem resi_keep {w W W' : World} {O : Option Addr} {n c : Nat} {l : List Int} (h : ResI w W O n c l) (k : KeepA W W') : Rw W' 3 1 O n c (rows ic l) := by
  refine ⟨h.row.1, h.row.2.imp id fun ⟨g, p, r, e1, ha, q⟩ => ⟨g, p, r, e1, k g _ _ ha (by decide) (by decide) (by decide) (by decide) (by decide) (by decide), q⟩⟩
set_option maxHeartbeats 64000000 in
theorem does_core {w0 W : World} {gp gd n K : Nat} {t d : Ca NX} (h : PR w0 W gp gd n K t d) (hK : K ≤ 1000) {what tk id nz : Int} (isT : W64 tk) (isD : W64 id) (isN : Is64 nz) :
    Calls Tryz.prog 8 #[.pointer (some ⟨gp, 0, none⟩), .pointer (some ⟨gd, 0, none⟩), .agg #[.int .i64 what, .int .i64 tk, .int .i64 id, .int .i64 nz]] W fun e w' => e = .returned (.bool true) ∧ Hid (∃ t' d', PR w0 w' gp gd n (K + 1) t' d' ∧ KeepA W w') := by
  obtain ⟨hp, hd, hpd, hrl⟩ := h
  obtain ⟨Z, hZ, hF, hZA⟩ : ∃ Z, W.alloc (.cells #[.int .i64 what, .int .i64 tk, .int .i64 id, .int .i64 nz] 32) = Z ∧ Fr W Z ∧ Arr Z W.heap.size 32 [Value.int .i64 what, .int .i64 tk, .int .i64 id, .int .i64 nz].toArray := ⟨_, rfl, fr_new (fr_refl W) _, Arr.new W _ _⟩
  have z3 : Z.cell? ⟨W.heap.size, 3, none⟩ = some (.int .i64 nz) := (hZA.cell 3).trans rfl
  have HRL := keep hrl
  have HBD := keep (rl_bd hrl hpd.pn.bd)
  have HP0 := keep hpd
  have HF := keep hF
  have HZA := keep hZA
  clear hpd hrl hF hZA
  go_enter Tryz.func8, Tryz.ntmps8
  go_upto_block 0 with (first
    | (go_at_call 18; (with_reducible refine (leaf_two Z nz isN).mono ?_); rintro e w2 ⟨v, rfl, HV, f2⟩; have F2 := keep f2; clear f2)
    | (refine wpList_store_at (ds := v.cells) node16_info rfl (.tmp 7) (.tmp 21) rfl w2.heap.size 0 rfl rfl rfl (nv_onex v) (Arr.new w2 zeroNV.cells.toArray 41) (by decide) (splice_all _ _ (by show 5 ≤ 5; decide)) ?_; intro W3 hA3 hk3; have f3 := hk3.fr (fr_new (fr_refl w2) _) (Nat.le_refl _); have hWZ := HF.out.size; have HPRE0 := fr_step (fr_step HF.out F2.out) f3; have HPD := keep (HP0.out.go HPRE0); have HPRE := keep (KeepA.of_fr HPRE0); have HNV := keep ((HV.out.fr f3).weak (ok' := Apt gp hp gd hd) fun b _ hb => ⟨fun hx => by have := HP0.out.pn.pc.lt b hx; omega, fun hx => by have := HP0.out.dc.lt b hx; omega⟩); have HSD := keep (show Arr W3 _ _ _ ∧ Arr W3 _ _ _ from ⟨(HZA.out.below F2.out HZA.out.lt).below f3 (HZA.out.below F2.out HZA.out.lt).lt, hA3⟩); have d0 : W3.cell? ⟨W.heap.size, 0, none⟩ = some (.int .i64 what) := (HSD.out.1.cell 0).trans rfl; clear hA3 hk3 f3 HPRE0)
    | fail)
  have hTd := boxes_at (HSD.out.1.below (fr_drew (fr_refl _)) HSD.out.1.lt) (HSD.out.2.below (fr_drew (fr_refl _)) HSD.out.2.lt)
  have hT2 : W3.drew.cell? ⟨W.heap.size, 1, none⟩ = some (.int .i64 tk) ∧ W3.drew.cell? ⟨W.heap.size, 2, none⟩ = some (.int .i64 id) := ⟨hTd.1, hTd.2.1⟩
  have hTn := hTd
  clear hTd z3
  by_cases h3 : what ≤ 3
  · skip
    have c1 : what ≤ 3 := h3
    obtain ⟨q1, q2⟩ := rl_pin HRL.out tk id
    obtain ⟨r, hr⟩ : ∃ r, (pinC t tk id).1 = r := ⟨_, rfl⟩
    rw [hr] at q1
    have hrr : (r == r) = true := by simp
    go_wp2_with fail
    refine wp_region_noPanic ?_
    refine wp_region_held_drew (S := fun V => V.cell? ⟨W.heap.size, 1, none⟩ = some (.int .i64 tk) ∧ V.cell? ⟨W.heap.size, 2, none⟩ = some (.int .i64 id)) (by kernel_rfl) hT2 (fun hHeld => ?_)
    change wpAnyH _ _ _ _ _ _ _ _ _
    refine wpAnyH_take (i := 0) (v := ?_) rfl (by kernel_rfl) (by kernel_rfl) (by kernel_rfl) (fun _ _ _ h => h) (Or.inl ⟨by rfl, ?_⟩) (by assumption) ?_
    rotate_left
    · intro w' hSw
      try dsimp only at hSw
      go_simp
      try with_reducible rfl
    try simp only [List.getElem_toArray, List.getElem_cons_zero, Act.put, List.setIfInBounds_toArray, List.set_cons_zero, List.set_cons_succ]
    refine wpAnyH_take (i := 1) (v := ?_) rfl (by kernel_rfl) (by kernel_rfl) (by kernel_rfl) (fun _ _ _ h => h) (Or.inl ⟨by rfl, ?_⟩) (by assumption) ?_
    rotate_left
    · intro w' hSw
      try dsimp only at hSw
      go_simp
      try with_reducible rfl
    try simp only [List.getElem_toArray, List.getElem_cons_succ, List.getElem_cons_zero, Act.put, List.setIfInBounds_toArray, List.set_cons_zero, List.set_cons_succ]
    refine wpAnyH_take (i := 2) (v := ?_) rfl (by kernel_rfl) (by kernel_rfl) (by kernel_rfl) (fun _ _ _ h => h) (Or.inl ⟨by rfl, ?_⟩) (by assumption) ?_
    rotate_left
    · intro w' hSw
      try dsimp only at hSw
      go_simp
      try with_reducible rfl
    try simp only [List.getElem_toArray, List.getElem_cons_succ, List.getElem_cons_zero, Act.put, List.setIfInBounds_toArray, List.set_cons_zero, List.set_cons_succ]
    refine wpAnyH_take (i := 3) (v := ?_) rfl (by kernel_rfl) (by kernel_rfl) (by kernel_rfl) (fun _ _ _ h => h) (Or.inl ⟨by rfl, ?_⟩) (by assumption) ?_
    rotate_left
    · intro w' hSw
      try dsimp only at hSw
      go_simp
      try with_reducible rfl
    try simp only [List.getElem_toArray, List.getElem_cons_succ, List.getElem_cons_zero, Act.put, List.setIfInBounds_toArray, List.set_cons_zero, List.set_cons_succ]
    refine wpAnyH_take (i := 4) (v := ?_) rfl (by kernel_rfl) (by kernel_rfl) (by kernel_rfl) (fun _ _ _ h => h) (Or.inl ⟨by rfl, ?_⟩) (by assumption) ?_
    rotate_left
    · intro w' hSw
      try dsimp only at hSw
      go_simp
      try with_reducible rfl
    try simp only [List.getElem_toArray, List.getElem_cons_succ, List.getElem_cons_zero, Act.put, List.setIfInBounds_toArray, List.set_cons_zero, List.set_cons_succ]
    refine wpAnyH_take (i := 6) (v := ?_) rfl (by kernel_rfl) (by kernel_rfl) (by kernel_rfl) (fun _ _ _ h => h) (Or.inl ⟨by rfl, ?_⟩) (by assumption) ?_
    rotate_left
    · intro w' hSw
      try dsimp only at hSw
      go_simp
      try with_reducible rfl
    try simp only [List.getElem_toArray, List.getElem_cons_succ, List.getElem_cons_zero, Act.put, List.setIfInBounds_toArray, List.set_cons_zero, List.set_cons_succ]
    refine wpAnyH_take (i := 7) (v := ?_) rfl (by kernel_rfl) (by kernel_rfl) (by kernel_rfl) (fun _ _ _ h => h) (Or.inl ⟨by rfl, ?_⟩) (by assumption) ?_
    rotate_left
    · intro w' hSw
      try dsimp only at hSw
      go_simp
      try with_reducible rfl
    try simp only [List.getElem_toArray, List.getElem_cons_succ, List.getElem_cons_zero, Act.put, List.setIfInBounds_toArray, List.set_cons_zero, List.set_cons_succ]
    refine wpAnyH_take (i := 8) (v := ?_) rfl (by kernel_rfl) (by kernel_rfl) (by kernel_rfl) (fun _ _ _ h => h) (Or.inl ⟨by rfl, ?_⟩) (by assumption) ?_
    rotate_left
    · intro w' hSw
      try dsimp only at hSw
      go_simp
      try with_reducible rfl
    try simp only [List.getElem_toArray, List.getElem_cons_succ, List.getElem_cons_zero, Act.put, List.setIfInBounds_toArray, List.set_cons_zero, List.set_cons_succ]
    refine wpAnyH_take (i := 9) (v := ?_) rfl (by kernel_rfl) (by kernel_rfl) (by kernel_rfl) (fun _ _ _ h => h) (Or.inl ⟨by rfl, ?_⟩) (by assumption) ?_
    rotate_left
    · intro w' hSw
      try dsimp only at hSw
      go_simp
      try with_reducible rfl
    try simp only [List.getElem_toArray, List.getElem_cons_succ, List.getElem_cons_zero, Act.put, List.setIfInBounds_toArray, List.set_cons_zero, List.set_cons_succ]
    refine wpAnyH_take (i := 10) (v := ?_) rfl (by kernel_rfl) (by kernel_rfl) (by kernel_rfl) (fun _ _ _ h => h) (Or.inl ⟨by rfl, ?_⟩) (by assumption) ?_
    rotate_left
    · intro w' hSw
      try dsimp only at hSw
      go_simp
      try with_reducible rfl
    try simp only [List.getElem_toArray, List.getElem_cons_succ, List.getElem_cons_zero, Act.put, List.setIfInBounds_toArray, List.set_cons_zero, List.set_cons_succ]
    refine wpAnyH_ready (rs := [5]) (by kernel_rfl) (by simp) ?_
    refine AllReadyH.cons rfl (fun K hK0 => ?_) AllReadyH.nil
    go_simp
    with_reducible refine (b_pin (HPD.out.go (fr_drew (fr_refl _))) hK hr).mono ?_
    rintro e w1x ⟨rfl, h1x⟩
    obtain ⟨hp1, k1, g1⟩ := h1x.out
    have s1x := g1.keep _ _ _ (HSD.out.1.below (fr_drew (fr_refl _)) HSD.out.1.lt) (by decide) (by decide) (by decide) (by decide) (by decide) (by decide)
    have n1x := g1.keep _ _ _ (HSD.out.2.below (fr_drew (fr_refl _)) HSD.out.2.lt) (by decide) (by decide) (by decide) (by decide) (by decide) (by decide)
    have t1x := boxes_at s1x n1x
    have K1 := keep k1
    have G1 := keep g1
    clear k1 g1
    go_simp
    refine hK0.out _ _ ⟨t1x.1, t1x.2.1⟩ (fun hS1 => ?_)
    clear hK0 K
    try simp only [List.getElem_toArray, List.getElem_cons_succ, List.getElem_cons_zero, Act.put, List.setIfInBounds_toArray, List.set_cons_zero, List.set_cons_succ]
    refine wpAnyH_ready (rs := [11]) (by kernel_rfl) (by simp) ?_
    refine AllReadyH.cons rfl (fun K hK0 => ?_) AllReadyH.nil
    go_simp
    with_reducible refine (d_pin K1.out HBD.out hK q1).mono ?_
    rintro e w2x ⟨rfl, h2x⟩
    obtain ⟨hd2, k2, g2⟩ := h2x.out
    have s2x := g2.keep _ _ _ s1x (by decide) (by decide) (by decide) (by decide) (by decide) (by decide)
    have n2x := g2.keep _ _ _ n1x (by decide) (by decide) (by decide) (by decide) (by decide) (by decide)
    have t2x := boxes_at s2x n2x
    have K2 := keep (show PD _ _ _ _ _ _ _ _ _ _ ∧ KeepA w1x w2x from ⟨k2, g2.keep⟩)
    clear k2 g2
    go_simp
    refine hK0.out _ _ ⟨t2x.1, t2x.2.1⟩ (fun hS2 => ?_)
    clear hK0 K
    try simp only [List.getElem_toArray, List.getElem_cons_succ, List.getElem_cons_zero, Act.put, List.setIfInBounds_toArray, List.set_cons_zero, List.set_cons_succ]
    refine wpAnyH_take (i := 12) (v := .bool true) rfl (by kernel_rfl) (by kernel_rfl) (by kernel_rfl) (fun _ _ _ h => h) (Or.inl ⟨by rfl, ?_⟩) (by assumption) ?_
    · intro w' hSw
      try dsimp only at hSw
      try go_simp
      all_goals first | done | with_reducible rfl | omega | assumption | (simp; omega)
    try simp only [List.getElem_toArray, List.getElem_cons_succ, List.getElem_cons_zero, Act.put, List.setIfInBounds_toArray, List.set_cons_zero, List.set_cons_succ]
    refine wpAnyH_take (i := 13) (v := ?_) rfl (by kernel_rfl) (by kernel_rfl) (by kernel_rfl) (fun _ _ _ h => h) (Or.inl ⟨by rfl, ?_⟩) (by assumption) ?_
    rotate_left
    · intro w' hSw
      try dsimp only at hSw
      go_simp
      try with_reducible rfl
    try simp only [List.getElem_toArray, List.getElem_cons_succ, List.getElem_cons_zero, Act.put, List.setIfInBounds_toArray, List.set_cons_zero, List.set_cons_succ]
    refine wpAnyH_done (by kernel_rfl) ?_ _
    refine NoPanic.normal ?_
    go_wp2_with fail
    go_ret
    first
      | exact ⟨rfl, keep ⟨_, _, ⟨_, _, K2.out.1, q2⟩, ((HPRE.out.trans (.of_fr (fr_drew (fr_refl _)))).trans G1.out.keep).trans K2.out.2⟩⟩
      | exact ⟨rfl, keep ⟨⟨_, _, _, _, K2.out.1, q2⟩, ((HPRE.out.trans (.of_fr (fr_drew (fr_refl _)))).trans G1.out.keep).trans K2.out.2⟩⟩
  · by_cases h5 : what ≤ 5
    · skip
      have c1 : ¬ what ≤ 3 := h3
      have c2 : what ≤ 5 := h5
      obtain ⟨l, hl⟩ : ∃ l, (fillC d id ⟨v, leafN [nz]⟩).1 = l := ⟨_, rfl⟩
      obtain ⟨r, hr⟩ : ∃ r, (fillC d id ⟨v, leafN [nz]⟩).2.1 = r := ⟨_, rfl⟩
      have q1 : ∀ v' : NX, v'.n = leafN [nz] → (fillC t id v').1 = l ∧ (fillC t id v').2.1 = r := fun v' hv' => by
        obtain ⟨q3, q4, -⟩ := rl_fill HRL.out id (v := ⟨v, leafN [nz]⟩) hv'
        exact ⟨q3.symm.trans hl, q4.symm.trans hr⟩
      have hrr : (r == r) = true := by simp
      have hll : decide (l = l) = true := by simp
      obtain ⟨hT1, hT2, hTn⟩ := boxes_at HSD.out.1 HSD.out.2
      have q5 : (fillC d id ⟨v, leafN [nz]⟩).1 = l ∧ (fillC d id ⟨v, leafN [nz]⟩).2.1 = r := ⟨hl, hr⟩
      have hsm : l.length ≤ 100000 := fill_small hl (rl_bd HRL.out HPD.out.pn.bd) hK
      clear hl hr
      go_wp2_with (first
        | (go_at_call 17; (with_reducible refine (b_fill HPD.out hK isD ⟨v, leafN [nz]⟩ rfl HNV.out q1).mono ?_); rintro e w4 ⟨v4, O4, m4, c4, hv4, rfl, h4⟩; obtain ⟨a4, hp4, k4, g4⟩ := h4.out; have s4 := g4.keep _ _ _ HSD.out.1 (by decide) (by decide) (by decide) (by decide) (by decide) (by decide); have n4 := g4.keep _ _ _ HSD.out.2 (by decide) (by decide) (by decide) (by decide) (by decide) (by decide); obtain ⟨t41, t42, t4n⟩ := boxes_at s4 n4; have K4 := keep (show PD _ _ _ _ _ _ _ _ _ _ ∧ PTo _ _ _ _ _ _ _ _ from ⟨k4, g4⟩); have A4 := keep a4; clear a4 k4 g4)
        | (go_at_call 26; (with_reducible refine (d_fill K4.out.1 HBD.out hK ⟨v, leafN [nz]⟩ rfl (K4.out.2.nodes _ _ HNV.out) q5).mono ?_); rintro e w5 ⟨O5, m5, c5, rfl, h5x⟩; obtain ⟨a5, hd5, k5, g5⟩ := h5x.out; have A5 := keep a5; have K5 := keep (show PD _ _ _ _ _ _ _ _ _ _ ∧ PTo _ _ _ _ _ _ _ _ from ⟨k5, g5⟩); clear k5 g5 a5)
        | (go_at_call 27; (with_reducible refine (sameints_at (l := l) (l2 := l) (by rw [← ic_ints]; exact (resi_keep A4.out K5.out.2.keep).has) (Nat.le_refl _) A4.out.len (by rw [← A4.out.len]; exact hsm) (by rw [← ic_ints]; exact A5.out.row.has) (Nat.le_refl _) A5.out.len (by rw [← A5.out.len]; exact hsm) (fr_refl _)).mono ?_); rintro e w6 ⟨rfl, f6⟩; have H6 := keep (show PD w0 w6 _ _ _ _ _ _ _ _ ∧ KeepA w5 w6 from ⟨K5.out.1.go f6, .of_fr f6⟩); clear f6)
        | fail)
      go_ret
      exact ⟨rfl, keep ⟨_, _, ⟨_, _, H6.out.1, (rl_fill HRL.out id hv4).2.2⟩, ((HPRE.out.trans K4.out.2.keep).trans K5.out.2.keep).trans H6.out.2⟩⟩
    · by_cases h6 : what = 6
      · skip
        subst h6
        obtain ⟨q1, q2⟩ := rl_claim HRL.out tk
        obtain ⟨r, hr⟩ : ∃ r, (claimC t tk).1 = r := ⟨_, rfl⟩
        rw [hr] at q1
        have hrr : (r == r) = true := by simp
        go_wp2_with fail
        refine wp_region_noPanic ?_
        refine wp_region_held_drew (S := fun V => V.cell? ⟨W.heap.size, 1, none⟩ = some (.int .i64 tk) ∧ V.cell? ⟨W.heap.size, 2, none⟩ = some (.int .i64 id)) (by kernel_rfl) hT2 (fun hHeld => ?_)
        change wpAnyH _ _ _ _ _ _ _ _ _
        refine wpAnyH_take (i := 0) (v := ?_) rfl (by kernel_rfl) (by kernel_rfl) (by kernel_rfl) (fun _ _ _ h => h) (Or.inl ⟨by rfl, ?_⟩) (by assumption) ?_
        rotate_left
        · intro w' hSw
          try dsimp only at hSw
          go_simp
          try with_reducible rfl
        try simp only [List.getElem_toArray, List.getElem_cons_zero, Act.put, List.setIfInBounds_toArray, List.set_cons_zero, List.set_cons_succ]
        refine wpAnyH_take (i := 1) (v := ?_) rfl (by kernel_rfl) (by kernel_rfl) (by kernel_rfl) (fun _ _ _ h => h) (Or.inl ⟨by rfl, ?_⟩) (by assumption) ?_
        rotate_left
        · intro w' hSw
          try dsimp only at hSw
          go_simp
          try with_reducible rfl
        try simp only [List.getElem_toArray, List.getElem_cons_succ, List.getElem_cons_zero, Act.put, List.setIfInBounds_toArray, List.set_cons_zero, List.set_cons_succ]
        refine wpAnyH_take (i := 2) (v := ?_) rfl (by kernel_rfl) (by kernel_rfl) (by kernel_rfl) (fun _ _ _ h => h) (Or.inl ⟨by rfl, ?_⟩) (by assumption) ?_
        rotate_left
        · intro w' hSw
          try dsimp only at hSw
          go_simp
          try with_reducible rfl
        try simp only [List.getElem_toArray, List.getElem_cons_succ, List.getElem_cons_zero, Act.put, List.setIfInBounds_toArray, List.set_cons_zero, List.set_cons_succ]
        refine wpAnyH_take (i := 4) (v := ?_) rfl (by kernel_rfl) (by kernel_rfl) (by kernel_rfl) (fun _ _ _ h => h) (Or.inl ⟨by rfl, ?_⟩) (by assumption) ?_
        rotate_left
        · intro w' hSw
          try dsimp only at hSw
          go_simp
          try with_reducible rfl
        try simp only [List.getElem_toArray, List.getElem_cons_succ, List.getElem_cons_zero, Act.put, List.setIfInBounds_toArray, List.set_cons_zero, List.set_cons_succ]
        refine wpAnyH_take (i := 5) (v := ?_) rfl (by kernel_rfl) (by kernel_rfl) (by kernel_rfl) (fun _ _ _ h => h) (Or.inl ⟨by rfl, ?_⟩) (by assumption) ?_
        rotate_left
        · intro w' hSw
          try dsimp only at hSw
          go_simp
          try with_reducible rfl
        try simp only [List.getElem_toArray, List.getElem_cons_succ, List.getElem_cons_zero, Act.put, List.setIfInBounds_toArray, List.set_cons_zero, List.set_cons_succ]
        refine wpAnyH_take (i := 6) (v := ?_) rfl (by kernel_rfl) (by kernel_rfl) (by kernel_rfl) (fun _ _ _ h => h) (Or.inl ⟨by rfl, ?_⟩) (by assumption) ?_
        rotate_left
        · intro w' hSw
          try dsimp only at hSw
          go_simp
          try with_reducible rfl
        try simp only [List.getElem_toArray, List.getElem_cons_succ, List.getElem_cons_zero, Act.put, List.setIfInBounds_toArray, List.set_cons_zero, List.set_cons_succ]
        refine wpAnyH_ready (rs := [3]) (by kernel_rfl) (by simp) ?_
        refine AllReadyH.cons rfl (fun K hK0 => ?_) AllReadyH.nil
        go_simp
        with_reducible refine (b_claim (HPD.out.go (fr_drew (fr_refl _))) hK hr).mono ?_
        rintro e w1x ⟨rfl, h1x⟩
        obtain ⟨hp1, k1, g1⟩ := h1x.out
        have s1x := g1.keep _ _ _ (HSD.out.1.below (fr_drew (fr_refl _)) HSD.out.1.lt) (by decide) (by decide) (by decide) (by decide) (by decide) (by decide)
        have n1x := g1.keep _ _ _ (HSD.out.2.below (fr_drew (fr_refl _)) HSD.out.2.lt) (by decide) (by decide) (by decide) (by decide) (by decide) (by decide)
        have t1x := boxes_at s1x n1x
        have K1 := keep k1
        have G1 := keep g1
        clear k1 g1
        go_simp
        refine hK0.out _ _ ⟨t1x.1, t1x.2.1⟩ (fun hS1 => ?_)
        clear hK0 K
        try simp only [List.getElem_toArray, List.getElem_cons_succ, List.getElem_cons_zero, Act.put, List.setIfInBounds_toArray, List.set_cons_zero, List.set_cons_succ]
        refine wpAnyH_ready (rs := [7]) (by kernel_rfl) (by simp) ?_
        refine AllReadyH.cons rfl (fun K hK0 => ?_) AllReadyH.nil
        go_simp
        with_reducible refine (d_claim K1.out HBD.out hK q1).mono ?_
        rintro e w2x ⟨rfl, h2x⟩
        obtain ⟨hd2, k2, g2⟩ := h2x.out
        have s2x := g2.keep _ _ _ s1x (by decide) (by decide) (by decide) (by decide) (by decide) (by decide)
        have n2x := g2.keep _ _ _ n1x (by decide) (by decide) (by decide) (by decide) (by decide) (by decide)
        have t2x := boxes_at s2x n2x
        have K2 := keep (show PD _ _ _ _ _ _ _ _ _ _ ∧ KeepA w1x w2x from ⟨k2, g2.keep⟩)
        clear k2 g2
        go_simp
        refine hK0.out _ _ ⟨t2x.1, t2x.2.1⟩ (fun hS2 => ?_)
        clear hK0 K
        try simp only [List.getElem_toArray, List.getElem_cons_succ, List.getElem_cons_zero, Act.put, List.setIfInBounds_toArray, List.set_cons_zero, List.set_cons_succ]
        refine wpAnyH_take (i := 8) (v := .bool true) rfl (by kernel_rfl) (by kernel_rfl) (by kernel_rfl) (fun _ _ _ h => h) (Or.inl ⟨by rfl, ?_⟩) (by assumption) ?_
        · intro w' hSw
          try dsimp only at hSw
          try go_simp
          all_goals first | done | with_reducible rfl | omega | assumption | (simp; omega)
        try simp only [List.getElem_toArray, List.getElem_cons_succ, List.getElem_cons_zero, Act.put, List.setIfInBounds_toArray, List.set_cons_zero, List.set_cons_succ]
        refine wpAnyH_take (i := 9) (v := ?_) rfl (by kernel_rfl) (by kernel_rfl) (by kernel_rfl) (fun _ _ _ h => h) (Or.inl ⟨by rfl, ?_⟩) (by assumption) ?_
        rotate_left
        · intro w' hSw
          try dsimp only at hSw
          go_simp
          try with_reducible rfl
        try simp only [List.getElem_toArray, List.getElem_cons_succ, List.getElem_cons_zero, Act.put, List.setIfInBounds_toArray, List.set_cons_zero, List.set_cons_succ]
        refine wpAnyH_done (by kernel_rfl) ?_ _
        refine NoPanic.normal ?_
        go_wp2_with fail
        go_ret
        first
          | exact ⟨rfl, keep ⟨_, _, ⟨_, _, K2.out.1, q2⟩, ((HPRE.out.trans (.of_fr (fr_drew (fr_refl _)))).trans G1.out.keep).trans K2.out.2⟩⟩
          | exact ⟨rfl, keep ⟨⟨_, _, _, _, K2.out.1, q2⟩, ((HPRE.out.trans (.of_fr (fr_drew (fr_refl _)))).trans G1.out.keep).trans K2.out.2⟩⟩
      · by_cases h7 : what = 7
        · skip
          subst h7
          obtain ⟨q1, q2⟩ := rl_give HRL.out tk
          obtain ⟨r, hr⟩ : ∃ r : Int, ((giveC t tk).1 : Int) = r := ⟨_, rfl⟩
          have q3 : ((giveC d tk).1 : Int) = r := by rw [q1]; exact hr
          have hrr : (r == r) = true := by simp
          go_wp2_with fail
          refine wp_region_noPanic ?_
          refine wp_region_held_drew (S := fun V => V.cell? ⟨W.heap.size, 1, none⟩ = some (.int .i64 tk) ∧ V.cell? ⟨W.heap.size, 2, none⟩ = some (.int .i64 id)) (by kernel_rfl) hT2 (fun hHeld => ?_)
          change wpAnyH _ _ _ _ _ _ _ _ _
          refine wpAnyH_take (i := 0) (v := ?_) rfl (by kernel_rfl) (by kernel_rfl) (by kernel_rfl) (fun _ _ _ h => h) (Or.inl ⟨by rfl, ?_⟩) (by assumption) ?_
          rotate_left
          · intro w' hSw
            try dsimp only at hSw
            go_simp
            try with_reducible rfl
          try simp only [List.getElem_toArray, List.getElem_cons_zero, Act.put, List.setIfInBounds_toArray, List.set_cons_zero, List.set_cons_succ]
          refine wpAnyH_take (i := 1) (v := ?_) rfl (by kernel_rfl) (by kernel_rfl) (by kernel_rfl) (fun _ _ _ h => h) (Or.inl ⟨by rfl, ?_⟩) (by assumption) ?_
          rotate_left
          · intro w' hSw
            try dsimp only at hSw
            go_simp
            try with_reducible rfl
          try simp only [List.getElem_toArray, List.getElem_cons_succ, List.getElem_cons_zero, Act.put, List.setIfInBounds_toArray, List.set_cons_zero, List.set_cons_succ]
          refine wpAnyH_take (i := 2) (v := ?_) rfl (by kernel_rfl) (by kernel_rfl) (by kernel_rfl) (fun _ _ _ h => h) (Or.inl ⟨by rfl, ?_⟩) (by assumption) ?_
          rotate_left
          · intro w' hSw
            try dsimp only at hSw
            go_simp
            try with_reducible rfl
          try simp only [List.getElem_toArray, List.getElem_cons_succ, List.getElem_cons_zero, Act.put, List.setIfInBounds_toArray, List.set_cons_zero, List.set_cons_succ]
          refine wpAnyH_take (i := 4) (v := ?_) rfl (by kernel_rfl) (by kernel_rfl) (by kernel_rfl) (fun _ _ _ h => h) (Or.inl ⟨by rfl, ?_⟩) (by assumption) ?_
          rotate_left
          · intro w' hSw
            try dsimp only at hSw
            go_simp
            try with_reducible rfl
          try simp only [List.getElem_toArray, List.getElem_cons_succ, List.getElem_cons_zero, Act.put, List.setIfInBounds_toArray, List.set_cons_zero, List.set_cons_succ]
          refine wpAnyH_take (i := 5) (v := ?_) rfl (by kernel_rfl) (by kernel_rfl) (by kernel_rfl) (fun _ _ _ h => h) (Or.inl ⟨by rfl, ?_⟩) (by assumption) ?_
          rotate_left
          · intro w' hSw
            try dsimp only at hSw
            go_simp
            try with_reducible rfl
          try simp only [List.getElem_toArray, List.getElem_cons_succ, List.getElem_cons_zero, Act.put, List.setIfInBounds_toArray, List.set_cons_zero, List.set_cons_succ]
          refine wpAnyH_take (i := 6) (v := ?_) rfl (by kernel_rfl) (by kernel_rfl) (by kernel_rfl) (fun _ _ _ h => h) (Or.inl ⟨by rfl, ?_⟩) (by assumption) ?_
          rotate_left
          · intro w' hSw
            try dsimp only at hSw
            go_simp
            try with_reducible rfl
          try simp only [List.getElem_toArray, List.getElem_cons_succ, List.getElem_cons_zero, Act.put, List.setIfInBounds_toArray, List.set_cons_zero, List.set_cons_succ]
          refine wpAnyH_ready (rs := [3]) (by kernel_rfl) (by simp) ?_
          refine AllReadyH.cons rfl (fun K hK0 => ?_) AllReadyH.nil
          go_simp
          with_reducible refine (b_give (HPD.out.go (fr_drew (fr_refl _))) hK hr).mono ?_
          rintro e w1x ⟨rfl, h1x⟩
          obtain ⟨hp1, k1, g1⟩ := h1x.out
          have s1x := g1.keep _ _ _ (HSD.out.1.below (fr_drew (fr_refl _)) HSD.out.1.lt) (by decide) (by decide) (by decide) (by decide) (by decide) (by decide)
          have n1x := g1.keep _ _ _ (HSD.out.2.below (fr_drew (fr_refl _)) HSD.out.2.lt) (by decide) (by decide) (by decide) (by decide) (by decide) (by decide)
          have t1x := boxes_at s1x n1x
          have K1 := keep k1
          have G1 := keep g1
          clear k1 g1
          go_simp
          refine hK0.out _ _ ⟨t1x.1, t1x.2.1⟩ (fun hS1 => ?_)
          clear hK0 K
          try simp only [List.getElem_toArray, List.getElem_cons_succ, List.getElem_cons_zero, Act.put, List.setIfInBounds_toArray, List.set_cons_zero, List.set_cons_succ]
          refine wpAnyH_ready (rs := [7]) (by kernel_rfl) (by simp) ?_
          refine AllReadyH.cons rfl (fun K hK0 => ?_) AllReadyH.nil
          go_simp
          with_reducible refine (d_give K1.out HBD.out hK q3).mono ?_
          rintro e w2x ⟨rfl, h2x⟩
          obtain ⟨hd2, k2, g2⟩ := h2x.out
          have s2x := g2.keep _ _ _ s1x (by decide) (by decide) (by decide) (by decide) (by decide) (by decide)
          have n2x := g2.keep _ _ _ n1x (by decide) (by decide) (by decide) (by decide) (by decide) (by decide)
          have t2x := boxes_at s2x n2x
          have K2 := keep (show PD _ _ _ _ _ _ _ _ _ _ ∧ KeepA w1x w2x from ⟨k2, g2.keep⟩)
          clear k2 g2
          go_simp
          refine hK0.out _ _ ⟨t2x.1, t2x.2.1⟩ (fun hS2 => ?_)
          clear hK0 K
          try simp only [List.getElem_toArray, List.getElem_cons_succ, List.getElem_cons_zero, Act.put, List.setIfInBounds_toArray, List.set_cons_zero, List.set_cons_succ]
          refine wpAnyH_take (i := 8) (v := .bool true) rfl (by kernel_rfl) (by kernel_rfl) (by kernel_rfl) (fun _ _ _ h => h) (Or.inl ⟨by rfl, ?_⟩) (by assumption) ?_
          · intro w' hSw
            try dsimp only at hSw
            try go_simp
            all_goals first | done | with_reducible rfl | omega | assumption | (simp; omega)
          try simp only [List.getElem_toArray, List.getElem_cons_succ, List.getElem_cons_zero, Act.put, List.setIfInBounds_toArray, List.set_cons_zero, List.set_cons_succ]
          refine wpAnyH_take (i := 9) (v := ?_) rfl (by kernel_rfl) (by kernel_rfl) (by kernel_rfl) (fun _ _ _ h => h) (Or.inl ⟨by rfl, ?_⟩) (by assumption) ?_
          rotate_left
          · intro w' hSw
            try dsimp only at hSw
            go_simp
            try with_reducible rfl
          try simp only [List.getElem_toArray, List.getElem_cons_succ, List.getElem_cons_zero, Act.put, List.setIfInBounds_toArray, List.set_cons_zero, List.set_cons_succ]
          refine wpAnyH_done (by kernel_rfl) ?_ _
          refine NoPanic.normal ?_
          go_wp2_with fail
          go_ret
          first
            | exact ⟨rfl, keep ⟨_, _, ⟨_, _, K2.out.1, q2⟩, ((HPRE.out.trans (.of_fr (fr_drew (fr_refl _)))).trans G1.out.keep).trans K2.out.2⟩⟩
            | exact ⟨rfl, keep ⟨⟨_, _, _, _, K2.out.1, q2⟩, ((HPRE.out.trans (.of_fr (fr_drew (fr_refl _)))).trans G1.out.keep).trans K2.out.2⟩⟩
        · by_cases h8 : what = 8
          · skip
            subst h8
            obtain ⟨r, hr⟩ : ∃ r, (nameC d tk id ⟨v, leafN [nz]⟩).1 = r := ⟨_, rfl⟩
            have q1 : ∀ v' : NX, v'.n = leafN [nz] → (nameC t tk id v').1 = r := fun v' hv' => by rw [← hr]; exact ((rl_name HRL.out tk id (v := ⟨v, leafN [nz]⟩) hv').1).symm
            have hrr : (r == r) = true := by simp
            go_wp2_with fail
            refine wp_region_noPanic ?_
            refine wp_region_held_drew (S := fun V => V.cell? ⟨W.heap.size, 1, none⟩ = some (.int .i64 tk) ∧ V.cell? ⟨W.heap.size, 2, none⟩ = some (.int .i64 id) ∧ (ldS 41 (.pointer (some ⟨w2.heap.size, 0, none⟩))).run Tryz.prog V = .ok (nv v) V) (by kernel_rfl) hTn (fun hHeld => ?_)
            change wpAnyH _ _ _ _ _ _ _ _ _
            refine wpAnyH_take (i := 0) (v := ?_) rfl (by kernel_rfl) (by kernel_rfl) (by kernel_rfl) (fun _ _ _ h => h) (Or.inl ⟨by rfl, ?_⟩) (by assumption) ?_
            rotate_left
            · intro w' hSw
              try dsimp only at hSw
              go_simp
              try with_reducible rfl
            try simp only [List.getElem_toArray, List.getElem_cons_zero, Act.put, List.setIfInBounds_toArray, List.set_cons_zero, List.set_cons_succ]
            refine wpAnyH_take (i := 1) (v := ?_) rfl (by kernel_rfl) (by kernel_rfl) (by kernel_rfl) (fun _ _ _ h => h) (Or.inl ⟨by rfl, ?_⟩) (by assumption) ?_
            rotate_left
            · intro w' hSw
              try dsimp only at hSw
              go_simp
              try with_reducible rfl
            try simp only [List.getElem_toArray, List.getElem_cons_succ, List.getElem_cons_zero, Act.put, List.setIfInBounds_toArray, List.set_cons_zero, List.set_cons_succ]
            refine wpAnyH_take (i := 2) (v := ?_) rfl (by kernel_rfl) (by kernel_rfl) (by kernel_rfl) (fun _ _ _ h => h) (Or.inl ⟨by rfl, ?_⟩) (by assumption) ?_
            rotate_left
            · intro w' hSw
              try dsimp only at hSw
              go_simp
              try with_reducible rfl
            try simp only [List.getElem_toArray, List.getElem_cons_succ, List.getElem_cons_zero, Act.put, List.setIfInBounds_toArray, List.set_cons_zero, List.set_cons_succ]
            refine wpAnyH_take (i := 3) (v := ?_) rfl (by kernel_rfl) (by kernel_rfl) (by kernel_rfl) (fun _ _ _ h => h) (Or.inl ⟨by rfl, ?_⟩) (by assumption) ?_
            rotate_left
            · intro w' hSw
              try dsimp only at hSw
              go_simp
              try with_reducible rfl
            try simp only [List.getElem_toArray, List.getElem_cons_succ, List.getElem_cons_zero, Act.put, List.setIfInBounds_toArray, List.set_cons_zero, List.set_cons_succ]
            refine wpAnyH_take (i := 4) (v := ?_) rfl (by kernel_rfl) (by kernel_rfl) (by kernel_rfl) (fun _ _ _ h => h) (Or.inl ⟨by rfl, ?_⟩) (by assumption) ?_
            rotate_left
            · intro w' hSw
              try dsimp only at hSw
              go_simp
              try with_reducible rfl
            try simp only [List.getElem_toArray, List.getElem_cons_succ, List.getElem_cons_zero, Act.put, List.setIfInBounds_toArray, List.set_cons_zero, List.set_cons_succ]
            refine wpAnyH_take (i := 5) (v := ?_) rfl (by kernel_rfl) (by kernel_rfl) (by kernel_rfl) (fun _ _ _ h => h) (Or.inl ⟨by rfl, ?_⟩) (by assumption) ?_
            rotate_left
            · intro w' hSw
              try dsimp only at hSw
              go_simp
              try with_reducible rfl
            try simp only [List.getElem_toArray, List.getElem_cons_succ, List.getElem_cons_zero, Act.put, List.setIfInBounds_toArray, List.set_cons_zero, List.set_cons_succ]
            refine wpAnyH_take (i := 7) (v := ?_) rfl (by kernel_rfl) (by kernel_rfl) (by kernel_rfl) (fun _ _ _ h => h) (Or.inl ⟨by rfl, ?_⟩) (by assumption) ?_
            rotate_left
            · intro w' hSw
              try dsimp only at hSw
              go_simp
              try with_reducible rfl
            try simp only [List.getElem_toArray, List.getElem_cons_succ, List.getElem_cons_zero, Act.put, List.setIfInBounds_toArray, List.set_cons_zero, List.set_cons_succ]
            refine wpAnyH_take (i := 8) (v := ?_) rfl (by kernel_rfl) (by kernel_rfl) (by kernel_rfl) (fun _ _ _ h => h) (Or.inl ⟨by rfl, ?_⟩) (by assumption) ?_
            rotate_left
            · intro w' hSw
              try dsimp only at hSw
              go_simp
              try with_reducible rfl
            try simp only [List.getElem_toArray, List.getElem_cons_succ, List.getElem_cons_zero, Act.put, List.setIfInBounds_toArray, List.set_cons_zero, List.set_cons_succ]
            refine wpAnyH_take (i := 9) (v := ?_) rfl (by kernel_rfl) (by kernel_rfl) (by kernel_rfl) (fun _ _ _ h => h) (Or.inl ⟨by rfl, ?_⟩) (by assumption) ?_
            rotate_left
            · intro w' hSw
              try dsimp only at hSw
              go_simp
              try with_reducible rfl
            try simp only [List.getElem_toArray, List.getElem_cons_succ, List.getElem_cons_zero, Act.put, List.setIfInBounds_toArray, List.set_cons_zero, List.set_cons_succ]
            refine wpAnyH_take (i := 10) (v := ?_) rfl (by kernel_rfl) (by kernel_rfl) (by kernel_rfl) (fun _ _ _ h => h) (Or.inl ⟨by rfl, ?_⟩) (by assumption) ?_
            rotate_left
            · intro w' hSw
              try dsimp only at hSw
              go_simp
              try with_reducible rfl
            try simp only [List.getElem_toArray, List.getElem_cons_succ, List.getElem_cons_zero, Act.put, List.setIfInBounds_toArray, List.set_cons_zero, List.set_cons_succ]
            refine wpAnyH_take (i := 11) (v := ?_) rfl (by kernel_rfl) (by kernel_rfl) (by kernel_rfl) (fun _ _ _ h => h) (Or.inl ⟨by rfl, ?_⟩) (by assumption) ?_
            rotate_left
            · intro w' hSw
              try dsimp only at hSw
              go_simp
              try with_reducible rfl
            try simp only [List.getElem_toArray, List.getElem_cons_succ, List.getElem_cons_zero, Act.put, List.setIfInBounds_toArray, List.set_cons_zero, List.set_cons_succ]
            refine wpAnyH_take (i := 12) (v := ?_) rfl (by kernel_rfl) (by kernel_rfl) (by kernel_rfl) (fun _ _ _ h => h) (Or.inl ⟨by rfl, ?_⟩) (by assumption) ?_
            rotate_left
            · intro w' hSw
              try dsimp only at hSw
              go_simp
              try with_reducible rfl
            try simp only [List.getElem_toArray, List.getElem_cons_succ, List.getElem_cons_zero, Act.put, List.setIfInBounds_toArray, List.set_cons_zero, List.set_cons_succ]
            refine wpAnyH_ready (rs := [6]) (by kernel_rfl) (by simp) ?_
            refine AllReadyH.cons rfl (fun K hK0 => ?_) AllReadyH.nil
            go_simp
            with_reducible refine (b_name (HPD.out.go (fr_drew (fr_refl _))) hK isT isD ⟨v, leafN [nz]⟩ rfl (HNV.out.drew) q1).mono ?_
            rintro e w1x ⟨v1x, hv1, rfl, h1x⟩
            obtain ⟨hp1, k1, g1⟩ := h1x.out
            have s1x := g1.keep _ _ _ (HSD.out.1.below (fr_drew (fr_refl _)) HSD.out.1.lt) (by decide) (by decide) (by decide) (by decide) (by decide) (by decide)
            have n1x := g1.keep _ _ _ (HSD.out.2.below (fr_drew (fr_refl _)) HSD.out.2.lt) (by decide) (by decide) (by decide) (by decide) (by decide) (by decide)
            have t1x := boxes_at s1x n1x
            have K1 := keep k1
            have G1 := keep g1
            clear k1 g1
            go_simp
            refine hK0.out _ _ t1x (fun hS1 => ?_)
            clear hK0 K
            try simp only [List.getElem_toArray, List.getElem_cons_succ, List.getElem_cons_zero, Act.put, List.setIfInBounds_toArray, List.set_cons_zero, List.set_cons_succ]
            refine wpAnyH_ready (rs := [13]) (by kernel_rfl) (by simp) ?_
            refine AllReadyH.cons rfl (fun K hK0 => ?_) AllReadyH.nil
            go_simp
            with_reducible refine (d_name K1.out HBD.out hK ⟨v, leafN [nz]⟩ rfl (G1.out.nodes _ _ HNV.out.drew) hr).mono ?_
            rintro e w2x ⟨rfl, h2x⟩
            obtain ⟨hd2, k2, g2⟩ := h2x.out
            have s2x := g2.keep _ _ _ s1x (by decide) (by decide) (by decide) (by decide) (by decide) (by decide)
            have n2x := g2.keep _ _ _ n1x (by decide) (by decide) (by decide) (by decide) (by decide) (by decide)
            have t2x := boxes_at s2x n2x
            have K2 := keep (show PD _ _ _ _ _ _ _ _ _ _ ∧ KeepA w1x w2x from ⟨k2, g2.keep⟩)
            clear k2 g2
            go_simp
            refine hK0.out _ _ t2x (fun hS2 => ?_)
            clear hK0 K
            try simp only [List.getElem_toArray, List.getElem_cons_succ, List.getElem_cons_zero, Act.put, List.setIfInBounds_toArray, List.set_cons_zero, List.set_cons_succ]
            refine wpAnyH_take (i := 14) (v := .bool true) rfl (by kernel_rfl) (by kernel_rfl) (by kernel_rfl) (fun _ _ _ h => h) (Or.inl ⟨by rfl, ?_⟩) (by assumption) ?_
            · intro w' hSw
              try dsimp only at hSw
              try go_simp
              all_goals first | done | with_reducible rfl | omega | assumption | (simp; omega)
            try simp only [List.getElem_toArray, List.getElem_cons_succ, List.getElem_cons_zero, Act.put, List.setIfInBounds_toArray, List.set_cons_zero, List.set_cons_succ]
            refine wpAnyH_take (i := 15) (v := ?_) rfl (by kernel_rfl) (by kernel_rfl) (by kernel_rfl) (fun _ _ _ h => h) (Or.inl ⟨by rfl, ?_⟩) (by assumption) ?_
            rotate_left
            · intro w' hSw
              try dsimp only at hSw
              go_simp
              try with_reducible rfl
            try simp only [List.getElem_toArray, List.getElem_cons_succ, List.getElem_cons_zero, Act.put, List.setIfInBounds_toArray, List.set_cons_zero, List.set_cons_succ]
            refine wpAnyH_done (by kernel_rfl) ?_ _
            refine NoPanic.normal ?_
            go_wp2_with fail
            go_ret
            first
              | exact ⟨rfl, keep ⟨_, _, ⟨_, _, K2.out.1, (rl_name HRL.out tk id hv1).2⟩, ((HPRE.out.trans (.of_fr (fr_drew (fr_refl _)))).trans G1.out.keep).trans K2.out.2⟩⟩
              | exact ⟨rfl, keep ⟨⟨_, _, _, _, K2.out.1, (rl_name HRL.out tk id hv1).2⟩, ((HPRE.out.trans (.of_fr (fr_drew (fr_refl _)))).trans G1.out.keep).trans K2.out.2⟩⟩
          · by_cases h11 : what ≤ 11
            · skip
              have c1 : ¬ what ≤ 3 := h3
              have c2 : ¬ what ≤ 5 := h5
              have c3 : (what == 6) = false := by simpa using h6
              have c4 : (what == 7) = false := by simpa using h7
              have c5 : (what == 8) = false := by simpa using h8
              have c6 : what ≤ 11 := h11
              obtain ⟨q1, q2⟩ := rl_unpin HRL.out id
              obtain ⟨r, hr⟩ : ∃ r, (unpinC t id).1 = r := ⟨_, rfl⟩
              rw [hr] at q1
              have hrr : (r == r) = true := by simp
              go_wp2_with fail
              refine wp_region_noPanic ?_
              refine wp_region_held_drew (S := fun V => V.cell? ⟨W.heap.size, 1, none⟩ = some (.int .i64 tk) ∧ V.cell? ⟨W.heap.size, 2, none⟩ = some (.int .i64 id)) (by kernel_rfl) hT2 (fun hHeld => ?_)
              change wpAnyH _ _ _ _ _ _ _ _ _
              refine wpAnyH_take (i := 0) (v := ?_) rfl (by kernel_rfl) (by kernel_rfl) (by kernel_rfl) (fun _ _ _ h => h) (Or.inl ⟨by rfl, ?_⟩) (by assumption) ?_
              rotate_left
              · intro w' hSw
                try dsimp only at hSw
                go_simp
                try with_reducible rfl
              try simp only [List.getElem_toArray, List.getElem_cons_zero, Act.put, List.setIfInBounds_toArray, List.set_cons_zero, List.set_cons_succ]
              refine wpAnyH_take (i := 1) (v := ?_) rfl (by kernel_rfl) (by kernel_rfl) (by kernel_rfl) (fun _ _ _ h => h) (Or.inl ⟨by rfl, ?_⟩) (by assumption) ?_
              rotate_left
              · intro w' hSw
                try dsimp only at hSw
                go_simp
                try with_reducible rfl
              try simp only [List.getElem_toArray, List.getElem_cons_succ, List.getElem_cons_zero, Act.put, List.setIfInBounds_toArray, List.set_cons_zero, List.set_cons_succ]
              refine wpAnyH_take (i := 2) (v := ?_) rfl (by kernel_rfl) (by kernel_rfl) (by kernel_rfl) (fun _ _ _ h => h) (Or.inl ⟨by rfl, ?_⟩) (by assumption) ?_
              rotate_left
              · intro w' hSw
                try dsimp only at hSw
                go_simp
                try with_reducible rfl
              try simp only [List.getElem_toArray, List.getElem_cons_succ, List.getElem_cons_zero, Act.put, List.setIfInBounds_toArray, List.set_cons_zero, List.set_cons_succ]
              refine wpAnyH_take (i := 4) (v := ?_) rfl (by kernel_rfl) (by kernel_rfl) (by kernel_rfl) (fun _ _ _ h => h) (Or.inl ⟨by rfl, ?_⟩) (by assumption) ?_
              rotate_left
              · intro w' hSw
                try dsimp only at hSw
                go_simp
                try with_reducible rfl
              try simp only [List.getElem_toArray, List.getElem_cons_succ, List.getElem_cons_zero, Act.put, List.setIfInBounds_toArray, List.set_cons_zero, List.set_cons_succ]
              refine wpAnyH_take (i := 5) (v := ?_) rfl (by kernel_rfl) (by kernel_rfl) (by kernel_rfl) (fun _ _ _ h => h) (Or.inl ⟨by rfl, ?_⟩) (by assumption) ?_
              rotate_left
              · intro w' hSw
                try dsimp only at hSw
                go_simp
                try with_reducible rfl
              try simp only [List.getElem_toArray, List.getElem_cons_succ, List.getElem_cons_zero, Act.put, List.setIfInBounds_toArray, List.set_cons_zero, List.set_cons_succ]
              refine wpAnyH_take (i := 6) (v := ?_) rfl (by kernel_rfl) (by kernel_rfl) (by kernel_rfl) (fun _ _ _ h => h) (Or.inl ⟨by rfl, ?_⟩) (by assumption) ?_
              rotate_left
              · intro w' hSw
                try dsimp only at hSw
                go_simp
                try with_reducible rfl
              try simp only [List.getElem_toArray, List.getElem_cons_succ, List.getElem_cons_zero, Act.put, List.setIfInBounds_toArray, List.set_cons_zero, List.set_cons_succ]
              refine wpAnyH_ready (rs := [3]) (by kernel_rfl) (by simp) ?_
              refine AllReadyH.cons rfl (fun K hK0 => ?_) AllReadyH.nil
              go_simp
              with_reducible refine (b_unpin (HPD.out.go (fr_drew (fr_refl _))) hK isD hr).mono ?_
              rintro e w1x ⟨rfl, h1x⟩
              obtain ⟨hp1, k1, g1⟩ := h1x.out
              have s1x := g1.keep _ _ _ (HSD.out.1.below (fr_drew (fr_refl _)) HSD.out.1.lt) (by decide) (by decide) (by decide) (by decide) (by decide) (by decide)
              have n1x := g1.keep _ _ _ (HSD.out.2.below (fr_drew (fr_refl _)) HSD.out.2.lt) (by decide) (by decide) (by decide) (by decide) (by decide) (by decide)
              have t1x := boxes_at s1x n1x
              have K1 := keep k1
              have G1 := keep g1
              clear k1 g1
              go_simp
              refine hK0.out _ _ ⟨t1x.1, t1x.2.1⟩ (fun hS1 => ?_)
              clear hK0 K
              try simp only [List.getElem_toArray, List.getElem_cons_succ, List.getElem_cons_zero, Act.put, List.setIfInBounds_toArray, List.set_cons_zero, List.set_cons_succ]
              refine wpAnyH_ready (rs := [7]) (by kernel_rfl) (by simp) ?_
              refine AllReadyH.cons rfl (fun K hK0 => ?_) AllReadyH.nil
              go_simp
              with_reducible refine (d_unpin K1.out HBD.out hK q1).mono ?_
              rintro e w2x ⟨rfl, h2x⟩
              obtain ⟨hd2, k2, g2⟩ := h2x.out
              have s2x := g2.keep _ _ _ s1x (by decide) (by decide) (by decide) (by decide) (by decide) (by decide)
              have n2x := g2.keep _ _ _ n1x (by decide) (by decide) (by decide) (by decide) (by decide) (by decide)
              have t2x := boxes_at s2x n2x
              have K2 := keep (show PD _ _ _ _ _ _ _ _ _ _ ∧ KeepA w1x w2x from ⟨k2, g2.keep⟩)
              clear k2 g2
              go_simp
              refine hK0.out _ _ ⟨t2x.1, t2x.2.1⟩ (fun hS2 => ?_)
              clear hK0 K
              try simp only [List.getElem_toArray, List.getElem_cons_succ, List.getElem_cons_zero, Act.put, List.setIfInBounds_toArray, List.set_cons_zero, List.set_cons_succ]
              refine wpAnyH_take (i := 8) (v := .bool true) rfl (by kernel_rfl) (by kernel_rfl) (by kernel_rfl) (fun _ _ _ h => h) (Or.inl ⟨by rfl, ?_⟩) (by assumption) ?_
              · intro w' hSw
                try dsimp only at hSw
                try go_simp
                all_goals first | done | with_reducible rfl | omega | assumption | (simp; omega)
              try simp only [List.getElem_toArray, List.getElem_cons_succ, List.getElem_cons_zero, Act.put, List.setIfInBounds_toArray, List.set_cons_zero, List.set_cons_succ]
              refine wpAnyH_take (i := 9) (v := ?_) rfl (by kernel_rfl) (by kernel_rfl) (by kernel_rfl) (fun _ _ _ h => h) (Or.inl ⟨by rfl, ?_⟩) (by assumption) ?_
              rotate_left
              · intro w' hSw
                try dsimp only at hSw
                go_simp
                try with_reducible rfl
              try simp only [List.getElem_toArray, List.getElem_cons_succ, List.getElem_cons_zero, Act.put, List.setIfInBounds_toArray, List.set_cons_zero, List.set_cons_succ]
              refine wpAnyH_done (by kernel_rfl) ?_ _
              refine NoPanic.normal ?_
              go_wp2_with fail
              go_ret
              first
                | exact ⟨rfl, keep ⟨_, _, ⟨_, _, K2.out.1, q2⟩, ((HPRE.out.trans (.of_fr (fr_drew (fr_refl _)))).trans G1.out.keep).trans K2.out.2⟩⟩
                | exact ⟨rfl, keep ⟨⟨_, _, _, _, K2.out.1, q2⟩, ((HPRE.out.trans (.of_fr (fr_drew (fr_refl _)))).trans G1.out.keep).trans K2.out.2⟩⟩
            · by_cases h12 : what = 12
              · skip
                subst h12
                obtain ⟨r, hr⟩ : ∃ r, (setC d id ⟨v, leafN [nz]⟩).1 = r := ⟨_, rfl⟩
                have q1 : ∀ v' : NX, v'.n = leafN [nz] → (setC t id v').1 = r := fun v' hv' => by rw [← hr]; exact ((rl_set HRL.out id (v := ⟨v, leafN [nz]⟩) hv').1).symm
                have hrr : (r == r) = true := by simp
                go_wp2_with fail
                refine wp_region_noPanic ?_
                refine wp_region_held_drew (S := fun V => V.cell? ⟨W.heap.size, 1, none⟩ = some (.int .i64 tk) ∧ V.cell? ⟨W.heap.size, 2, none⟩ = some (.int .i64 id) ∧ (ldS 41 (.pointer (some ⟨w2.heap.size, 0, none⟩))).run Tryz.prog V = .ok (nv v) V) (by kernel_rfl) hTn (fun hHeld => ?_)
                change wpAnyH _ _ _ _ _ _ _ _ _
                refine wpAnyH_take (i := 0) (v := ?_) rfl (by kernel_rfl) (by kernel_rfl) (by kernel_rfl) (fun _ _ _ h => h) (Or.inl ⟨by rfl, ?_⟩) (by assumption) ?_
                rotate_left
                · intro w' hSw
                  try dsimp only at hSw
                  go_simp
                  try with_reducible rfl
                try simp only [List.getElem_toArray, List.getElem_cons_zero, Act.put, List.setIfInBounds_toArray, List.set_cons_zero, List.set_cons_succ]
                refine wpAnyH_take (i := 1) (v := ?_) rfl (by kernel_rfl) (by kernel_rfl) (by kernel_rfl) (fun _ _ _ h => h) (Or.inl ⟨by rfl, ?_⟩) (by assumption) ?_
                rotate_left
                · intro w' hSw
                  try dsimp only at hSw
                  go_simp
                  try with_reducible rfl
                try simp only [List.getElem_toArray, List.getElem_cons_succ, List.getElem_cons_zero, Act.put, List.setIfInBounds_toArray, List.set_cons_zero, List.set_cons_succ]
                refine wpAnyH_take (i := 2) (v := ?_) rfl (by kernel_rfl) (by kernel_rfl) (by kernel_rfl) (fun _ _ _ h => h) (Or.inl ⟨by rfl, ?_⟩) (by assumption) ?_
                rotate_left
                · intro w' hSw
                  try dsimp only at hSw
                  go_simp
                  try with_reducible rfl
                try simp only [List.getElem_toArray, List.getElem_cons_succ, List.getElem_cons_zero, Act.put, List.setIfInBounds_toArray, List.set_cons_zero, List.set_cons_succ]
                refine wpAnyH_take (i := 3) (v := ?_) rfl (by kernel_rfl) (by kernel_rfl) (by kernel_rfl) (fun _ _ _ h => h) (Or.inl ⟨by rfl, ?_⟩) (by assumption) ?_
                rotate_left
                · intro w' hSw
                  try dsimp only at hSw
                  go_simp
                  try with_reducible rfl
                try simp only [List.getElem_toArray, List.getElem_cons_succ, List.getElem_cons_zero, Act.put, List.setIfInBounds_toArray, List.set_cons_zero, List.set_cons_succ]
                refine wpAnyH_take (i := 5) (v := ?_) rfl (by kernel_rfl) (by kernel_rfl) (by kernel_rfl) (fun _ _ _ h => h) (Or.inl ⟨by rfl, ?_⟩) (by assumption) ?_
                rotate_left
                · intro w' hSw
                  try dsimp only at hSw
                  go_simp
                  try with_reducible rfl
                try simp only [List.getElem_toArray, List.getElem_cons_succ, List.getElem_cons_zero, Act.put, List.setIfInBounds_toArray, List.set_cons_zero, List.set_cons_succ]
                refine wpAnyH_take (i := 6) (v := ?_) rfl (by kernel_rfl) (by kernel_rfl) (by kernel_rfl) (fun _ _ _ h => h) (Or.inl ⟨by rfl, ?_⟩) (by assumption) ?_
                rotate_left
                · intro w' hSw
                  try dsimp only at hSw
                  go_simp
                  try with_reducible rfl
                try simp only [List.getElem_toArray, List.getElem_cons_succ, List.getElem_cons_zero, Act.put, List.setIfInBounds_toArray, List.set_cons_zero, List.set_cons_succ]
                refine wpAnyH_take (i := 7) (v := ?_) rfl (by kernel_rfl) (by kernel_rfl) (by kernel_rfl) (fun _ _ _ h => h) (Or.inl ⟨by rfl, ?_⟩) (by assumption) ?_
                rotate_left
                · intro w' hSw
                  try dsimp only at hSw
                  go_simp
                  try with_reducible rfl
                try simp only [List.getElem_toArray, List.getElem_cons_succ, List.getElem_cons_zero, Act.put, List.setIfInBounds_toArray, List.set_cons_zero, List.set_cons_succ]
                refine wpAnyH_take (i := 8) (v := ?_) rfl (by kernel_rfl) (by kernel_rfl) (by kernel_rfl) (fun _ _ _ h => h) (Or.inl ⟨by rfl, ?_⟩) (by assumption) ?_
                rotate_left
                · intro w' hSw
                  try dsimp only at hSw
                  go_simp
                  try with_reducible rfl
                try simp only [List.getElem_toArray, List.getElem_cons_succ, List.getElem_cons_zero, Act.put, List.setIfInBounds_toArray, List.set_cons_zero, List.set_cons_succ]
                refine wpAnyH_ready (rs := [4]) (by kernel_rfl) (by simp) ?_
                refine AllReadyH.cons rfl (fun K hK0 => ?_) AllReadyH.nil
                go_simp
                with_reducible refine (b_set (HPD.out.go (fr_drew (fr_refl _))) isD ⟨v, leafN [nz]⟩ rfl (HNV.out.drew) q1).mono ?_
                rintro e w1x ⟨v1x, hv1, rfl, h1x⟩
                obtain ⟨hp1, k1, g1⟩ := h1x.out
                have s1x := g1.keep _ _ _ (HSD.out.1.below (fr_drew (fr_refl _)) HSD.out.1.lt) (by decide) (by decide) (by decide) (by decide) (by decide) (by decide)
                have n1x := g1.keep _ _ _ (HSD.out.2.below (fr_drew (fr_refl _)) HSD.out.2.lt) (by decide) (by decide) (by decide) (by decide) (by decide) (by decide)
                have t1x := boxes_at s1x n1x
                have K1 := keep k1
                have G1 := keep g1
                clear k1 g1
                go_simp
                refine hK0.out _ _ t1x (fun hS1 => ?_)
                clear hK0 K
                try simp only [List.getElem_toArray, List.getElem_cons_succ, List.getElem_cons_zero, Act.put, List.setIfInBounds_toArray, List.set_cons_zero, List.set_cons_succ]
                refine wpAnyH_ready (rs := [9]) (by kernel_rfl) (by simp) ?_
                refine AllReadyH.cons rfl (fun K hK0 => ?_) AllReadyH.nil
                go_simp
                with_reducible refine (d_set K1.out HBD.out hK ⟨v, leafN [nz]⟩ rfl (G1.out.nodes _ _ HNV.out.drew) hr).mono ?_
                rintro e w2x ⟨rfl, h2x⟩
                obtain ⟨hd2, k2, g2⟩ := h2x.out
                have s2x := g2.keep _ _ _ s1x (by decide) (by decide) (by decide) (by decide) (by decide) (by decide)
                have n2x := g2.keep _ _ _ n1x (by decide) (by decide) (by decide) (by decide) (by decide) (by decide)
                have t2x := boxes_at s2x n2x
                have K2 := keep (show PD _ _ _ _ _ _ _ _ _ _ ∧ KeepA w1x w2x from ⟨k2, g2.keep⟩)
                clear k2 g2
                go_simp
                refine hK0.out _ _ t2x (fun hS2 => ?_)
                clear hK0 K
                try simp only [List.getElem_toArray, List.getElem_cons_succ, List.getElem_cons_zero, Act.put, List.setIfInBounds_toArray, List.set_cons_zero, List.set_cons_succ]
                refine wpAnyH_take (i := 10) (v := .bool true) rfl (by kernel_rfl) (by kernel_rfl) (by kernel_rfl) (fun _ _ _ h => h) (Or.inl ⟨by rfl, ?_⟩) (by assumption) ?_
                · intro w' hSw
                  try dsimp only at hSw
                  try go_simp
                  all_goals first | done | with_reducible rfl | omega | assumption | (simp; omega)
                try simp only [List.getElem_toArray, List.getElem_cons_succ, List.getElem_cons_zero, Act.put, List.setIfInBounds_toArray, List.set_cons_zero, List.set_cons_succ]
                refine wpAnyH_take (i := 11) (v := ?_) rfl (by kernel_rfl) (by kernel_rfl) (by kernel_rfl) (fun _ _ _ h => h) (Or.inl ⟨by rfl, ?_⟩) (by assumption) ?_
                rotate_left
                · intro w' hSw
                  try dsimp only at hSw
                  go_simp
                  try with_reducible rfl
                try simp only [List.getElem_toArray, List.getElem_cons_succ, List.getElem_cons_zero, Act.put, List.setIfInBounds_toArray, List.set_cons_zero, List.set_cons_succ]
                refine wpAnyH_done (by kernel_rfl) ?_ _
                refine NoPanic.normal ?_
                go_wp2_with fail
                go_ret
                first
                  | exact ⟨rfl, keep ⟨_, _, ⟨_, _, K2.out.1, (rl_set HRL.out id hv1).2⟩, ((HPRE.out.trans (.of_fr (fr_drew (fr_refl _)))).trans G1.out.keep).trans K2.out.2⟩⟩
                  | exact ⟨rfl, keep ⟨⟨_, _, _, _, K2.out.1, (rl_set HRL.out id hv1).2⟩, ((HPRE.out.trans (.of_fr (fr_drew (fr_refl _)))).trans G1.out.keep).trans K2.out.2⟩⟩
              · cases he : (evictC t).1 with
                | none =>
                  have c1 : ¬ what ≤ 3 := h3
                  have c2 : ¬ what ≤ 5 := h5
                  have c3 : (what == 6) = false := by simpa using h6
                  have c4 : (what == 7) = false := by simpa using h7
                  have c5 : (what == 8) = false := by simpa using h8
                  have c6 : ¬ what ≤ 11 := h11
                  have c7 : (what == 12) = false := by simpa using h12
                  obtain ⟨q1, q2⟩ := rl_evict HRL.out
                  have hs : (sweepC t).1 < 0 := by
                    unfold evictC at he
                    split at he
                    · assumption
                    · cases he
                  have hs2 : (sweepC d).1 < 0 := by rw [rl_sweep HRL.out]; exact hs
                  obtain ⟨z, hz⟩ : ∃ z, (sweepC d).1 = z := ⟨_, rfl⟩
                  rw [hz] at hs2
                  have q3 : evP (evictC t).1 = .tuple #[.int .i64 0, nv zeroNV, .bool false, .bool false] := by rw [he]; rfl
                  have q4 : (evictC d).1 = none := by
                    rw [he] at q1
                    cases h : (evictC d).1 with
                    | none => rfl
                    | some o => rw [h] at q1; cases q1
                  clear he hs
                  go_wp2_with (first
                    | (go_at_call 19; (with_reducible refine (b_evict HPD.out q3).mono ?_); rintro e w4 ⟨rfl, h4⟩; obtain ⟨hp4, k4, g4, -⟩ := h4.out; have K4 := keep (show PD _ _ _ _ _ _ _ _ _ _ ∧ KeepA _ w4 from ⟨k4, g4.keep⟩); clear k4 g4)
                    | (refine wpList_store_at (ds := zeroNV.cells) node16_info rfl (.tmp 13) (.tmp 144) rfl w4.heap.size 0 rfl rfl rfl (nv_onex zeroNV) (Arr.new w4 zeroNV.cells.toArray 41) (by decide) (splice_all _ _ (by show 5 ≤ 5; decide)) ?_; intro W5 hA5 hk5; have f5 := hk5.fr (fr_new (fr_refl w4) _) (Nat.le_refl _); have K5 := keep (show PD _ W5 _ _ _ _ _ _ _ _ ∧ KeepA w4 W5 from ⟨K4.out.1.go f5, .of_fr f5⟩); have X5 := keep hA5;  clear hA5 hk5 f5)
                    | (go_at_call 37; (with_reducible refine (d_evict K5.out.1 HBD.out hK).mono ?_); rintro e w6 ⟨rfl, h6x⟩; obtain ⟨hd6, k6, g6, -⟩ := h6x.out; rw [hz, q4]; have X6 := keep (g6.keep _ _ _ X5.out (by decide) (by decide) (by decide) (by decide) (by decide) (by decide)); have K6 := keep (show PD _ _ _ _ _ _ _ _ _ _ ∧ KeepA _ w6 from ⟨k6, g6.keep⟩); clear k6 g6)
                    | (refine wpList_store_at (ds := evF (none : Option (Fra NX))) frame_info rfl (.tmp 17) (.tmp 151) rfl w6.heap.size 0 rfl rfl rfl evF_one (Arr.new w6 (evF (none : Option (Fra NX))).toArray 63) (Nat.le_of_eq rfl) (splice_all _ _ (Nat.le_of_eq rfl)) ?_; intro W7 hA7 hk7; have f7 := hk7.fr (fr_new (fr_refl w6) _) (Nat.le_refl _); have K7 := keep (show PD _ W7 _ _ _ _ _ _ _ _ ∧ KeepA w6 W7 from ⟨K6.out.1.go f7, .of_fr f7⟩); have lX := node16_ty.ld (w := W7) (show zeroNV.cells.length = 5 from rfl) (X6.out.below f7 X6.out.lt); change (ldS 41 _).run Tryz.prog W7 = .ok (nv zeroNV) W7 at lX; have CS : Hid (Calls Tryz.prog 12 #[nv zeroNV, .agg #[.bool false, .slice none 0 0, .slice none 0 0, .slice none 0 0, .slice none 0 0]] W7 fun e w' => e = .returned (.bool true) ∧ Fr W7 w') := keep (same_nx (w := W7) (o1 := fun _ => True) (o2 := fun _ => True) zeroN_np zeroN_np W7 (fr_refl _)); clear hA7 hk7 f7)
                    | (go_at_call 12; (with_reducible refine CS.out.mono ?_); rintro e w8 ⟨rfl, f8⟩; have K8 := keep (show PD _ w8 _ _ _ _ _ _ _ _ ∧ KeepA W7 w8 from ⟨K7.out.1.go f8, .of_fr f8⟩); clear f8)
                    | fail)
                  go_ret
                  exact ⟨rfl, keep ⟨_, _, ⟨_, _, K8.out.1, q2⟩, ((((HPRE.out.trans K4.out.2).trans K5.out.2).trans K6.out.2).trans K7.out.2).trans K8.out.2⟩⟩
                | some o =>
                  have c1 : ¬ what ≤ 3 := h3
                  have c2 : ¬ what ≤ 5 := h5
                  have c3 : (what == 6) = false := by simpa using h6
                  have c4 : (what == 7) = false := by simpa using h7
                  have c5 : (what == 8) = false := by simpa using h8
                  have c6 : ¬ what ≤ 11 := h11
                  have c7 : (what == 12) = false := by simpa using h12
                  obtain ⟨q1, q2⟩ := rl_evict HRL.out
                  have hs : ¬ (sweepC t).1 < 0 := by
                    intro h
                    unfold evictC at he
                    rw [if_pos h] at he
                    cases he
                  have hs2 : ¬ (sweepC d).1 < 0 := by rw [rl_sweep HRL.out]; exact hs
                  obtain ⟨z, hz⟩ : ∃ z, (sweepC d).1 = z := ⟨_, rfl⟩
                  rw [hz] at hs2
                  have q3 : evP (evictC t).1 = .tuple #[.int .i64 o.blk, nv o.node.v, .bool o.dirty, .bool true] := by rw [he]; rfl
                  obtain ⟨oD, q4⟩ : ∃ oD, (evictC d).1 = some oD := by
                    rw [he] at q1
                    cases h : (evictC d).1 with
                    | none => rw [h] at q1; cases q1
                    | some o2 => exact ⟨o2, rfl⟩
                  have q5 : mF NX.n o = mF NX.n (nrmF oD) := by
                    rw [he, q4] at q1
                    exact Option.some.inj q1
                  obtain ⟨-, e2, -, -, e5, e6⟩ := mf_eq q5
                  have hb2 : (o.blk == oD.blk) = true := by simpa using e2
                  have hd2 : (o.dirty == oD.dirty) = true := by simpa using e5
                  have HE := keep he
                  have E6 := keep e6
                  clear he hs e2 e5 e6 q5
                  go_wp2_with (first
                    | (go_at_call 19; (with_reducible refine (b_evict HPD.out q3).mono ?_); rintro e w4 ⟨rfl, h4⟩; obtain ⟨hp4, k4, g4, e4⟩ := h4.out; have K4 := keep (show PD _ _ _ _ _ _ _ _ _ _ ∧ KeepA _ w4 from ⟨k4, g4.keep⟩); have N4 := keep (e4 o HE.out); clear k4 g4 e4)
                    | (refine wpList_store_at (ds := o.node.v.cells) node16_info rfl (.tmp 13) (.tmp 144) rfl w4.heap.size 0 rfl rfl rfl (nv_onex o.node.v) (Arr.new w4 zeroNV.cells.toArray 41) (by decide) (splice_all _ _ (by show 5 ≤ 5; decide)) ?_; intro W5 hA5 hk5; have f5 := hk5.fr (fr_new (fr_refl w4) _) (Nat.le_refl _); have K5 := keep (show PD _ W5 _ _ _ _ _ _ _ _ ∧ KeepA w4 W5 from ⟨K4.out.1.go f5, .of_fr f5⟩); have X5 := keep hA5; have N5 := keep (N4.out.fr f5); clear hA5 hk5 f5)
                    | (go_at_call 37; (with_reducible refine (d_evict K5.out.1 HBD.out hK).mono ?_); rintro e w6 ⟨rfl, h6x⟩; obtain ⟨hd6, k6, g6, e6⟩ := h6x.out; rw [hz, q4]; have X6 := keep (g6.keep _ _ _ X5.out (by decide) (by decide) (by decide) (by decide) (by decide) (by decide)); have K6 := keep (show PD _ _ _ _ _ _ _ _ _ _ ∧ KeepA _ w6 from ⟨k6, g6.keep⟩); have N6 := keep (g6.nodes _ _ N5.out); have M6 := keep (e6 oD q4); clear k6 g6 e6)
                    | (refine wpList_store_at (ds := fc oD) frame_info rfl (.tmp 17) (.tmp 151) rfl w6.heap.size 0 rfl rfl rfl (fc_one oD) (Arr.new w6 (evF (none : Option (Fra NX))).toArray 63) (Nat.le_of_eq rfl) (splice_all _ _ (Nat.le_of_eq rfl)) ?_; intro W7 hA7 hk7; have f7 := hk7.fr (fr_new (fr_refl w6) _) (Nat.le_refl _); have K7 := keep (show PD _ W7 _ _ _ _ _ _ _ _ ∧ KeepA w6 W7 from ⟨K6.out.1.go f7, .of_fr f7⟩); have lX := node16_ty.ld (w := W7) (show o.node.v.cells.length = 5 from rfl) (X6.out.below f7 X6.out.lt); change (ldS 41 _).run Tryz.prog W7 = .ok (nv o.node.v) W7 at lX; have y1 : W7.cell? ⟨w6.heap.size, 1, none⟩ = some (.int .i64 oD.blk) := (hA7.cell 1).trans rfl; have y5 := fc_nodeP hA7; have X7 := keep hA7; have NN := keep (same_nx (w := W7) (N6.out.fr f7) (by rw [E6.out]; exact M6.out.fr f7) W7 (fr_refl _)); clear hA7 hk7 f7)
                    | (go_at_call 12; (with_reducible refine NN.out.mono ?_); rintro e w8 ⟨rfl, f8⟩; have K8 := keep (show PD _ w8 _ _ _ _ _ _ _ _ ∧ KeepA W7 w8 from ⟨K7.out.1.go f8, .of_fr f8⟩); have z4 : w8.cell? ⟨w6.heap.size, 4, none⟩ = some (.bool oD.dirty) := ((X7.out.below f8 X7.out.lt).cell 4).trans rfl; clear f8)
                    | fail)
                  go_ret
                  exact ⟨rfl, keep ⟨_, _, ⟨_, _, K8.out.1, q2⟩, ((((HPRE.out.trans K4.out.2).trans K5.out.2).trans K6.out.2).trans K7.out.2).trans K8.out.2⟩⟩
end Go.Proofs.YtmoaddbpfekdbaaGreat
