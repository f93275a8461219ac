/- The program's cache with nodes in it: Evict. -/
import Derived.Test.YtmoaddbpfekdbaaGreatM34
import Derived.Test.YtmoaddbpfekdbaaGreatM41
namespace Go.Proofs.YtmoaddbpfekdbaaGreat
set_option linter.unusedVariables false
set_option linter.unusedSimpArgs false
set_option linter.unusedSectionVars false
set_option maxRecDepth 100000
open Go.RowKit
attribute [local go_sem ↓] want_ld pfr_ld node16_ld
theorem Sty.result4w {P : Program} {T : TypeId} {n : Nat} {w : World} (S : Sty P T n) {fn : Func} {a p c d : Tmp} (h : fn.results = #[.tmp a, .cell p T, .tmp c, .tmp d]) (tmps : Array Value) (g : Nat) (hp : tmps.getD p undef = .pointer (some ⟨g, 0, none⟩)) {T' : Nat} {cs : List Value} (hl : cs.length = n) (ha : Arr w g T' cs.toArray) :
    (results fn tmps).run P w = .ok (.tuple #[tmps.getD a undef, .agg cs.toArray, tmps.getD c undef, tmps.getD d undef]) w := by
  have hp' : tmps[p]?.getD undef = .pointer (some ⟨g, 0, none⟩) := by simpa using hp
  simp [results, h, hp', asAddr, S.load hl ha]
/-- What Evict tells. -/
def evP (o : Option (Fra NX)) : Value := match o with
  | some f => .tuple #[.int .i64 f.blk, nv f.node.v, .bool f.dirty, .bool true]
  | none => .tuple #[.int .i64 0, nv zeroNV, .bool false, .bool false]
theorem reref_same {V : Type} (l : List (Fra V)) : reref l (refL l) = l := by
  unfold reref refL
  refine List.ext_getElem? fun i => ?_
  rw [List.getElem?_zipWith, List.getElem?_map]
  cases l[i]? with
  | none => rfl
  | some f => rfl
set_option maxHeartbeats 16000000 in
theorem pevict_at {w : World} {g K : Nat} {h : PH} {t : Ca NX} (k : PC w g h K t) (p : PI t) (hs : t.fs.length ≤ 100000) (hn0 : 0 < t.fs.length) (hh : 0 ≤ t.hand ∧ t.hand < (t.fs.length : Int)) :
    Calls Tryz.prog 19 #[.pointer (some ⟨g, 0, none⟩)] w fun e w' => e = .returned (evP (evictC t).1) ∧ Hid (PC w' g h K (evictC t).2 ∧ Chg (PHX g h) w w') := by
  obtain ⟨Z, hZ, hF, hZZ, hX, hS⟩ := zero16_box w
  have kZ := k.fr hF
  have hsw := psweep_at kZ hs hn0
  have HK := keep k
  have HKZ := keep kZ
  have HF0 := keep hF
  have HX := keep hX
  have HS := keep hS
  have HW := k.lt
  have HNX : Hid (¬ (w.heap.size = g ∨ At h.A w.heap.size)) := keep (fun e => by rcases e with e | e; exact absurd k.box.lt (by omega); exact absurd (k.fs.lt _ e) (by omega))
  have hlc : (canL t.fs).length = t.fs.length := by simp [canL]
  have hlr : (refL t.fs).length = t.fs.length := by simp [refL]
  by_cases hneg : (sweepC t).1 < 0
  · have he : evictC t = (none, t) := by unfold evictC; rw [if_pos hneg]
    have hst : sweepC t = (-1, t.hand, refL t.fs) := swp_stay (by rw [hlc, hlr]) (by rw [hlc]; exact hn0) (by rw [hlc]; exact hh) hneg
    rw [hst, reref_same] at hsw
    rw [he]
    have HSW := keep hsw
    clear k kZ hF hX hs hn0 hh hlc hlr hneg he hst hsw p
    go_enter Tryz.func19, Tryz.ntmps19
    go_wp2_with (first
      | (go_at_call 58; (with_reducible refine HSW.out.mono ?_); rintro e W2 ⟨rfl, H2⟩; have k2 := H2.out.1; have HF2 := keep k2; have HX2 := keep (HX.out.chg H2.out.2 HNX.out))
      | (refine wpList_store_chg node16_info rfl (.tmp 3) (.tmp 12) rfl w.heap.size 0 rfl (ds := zeroNV.cells) rfl rfl (nv_onex zeroNV) HX2.out (by decide) (cs' := zeroNV.cells) (splice_all _ _ (by decide)) ?_; intro W5 h1 h2; have H5 := keep (And.intro h1 h2); clear h1 h2)
      | fail)
    refine bodyPost_ret (node16_ty.result4w rfl _ w.heap.size rfl rfl H5.out.1) rfl ⟨rfl, keep ⟨?_, ?_⟩⟩
    · exact HF2.out.chg H5.out.2 fun i hi e => by have := HW i hi; omega
    · refine (((Chg.of_fr _ HF0.out).trans' H2.out.2 fun i hi e => ?_).trans' H5.out.2 fun i hi e => by omega)
      rcases e with e | e
      · exact .inl e
      · exact .inr (.inl e)
  · rcases swp_cases (canL t.fs) (refL t.fs) t.hand with h1 | ⟨i, h1, hi, hcan⟩
    · exact absurd (show (sweepC t).1 < 0 by show (swpL _ _ _).1 < 0; rw [h1]; decide) hneg
    rw [hlc] at hi
    have hfi : t.fs[i]? = some (t.fs[i]'hi) := List.getElem?_eq_getElem _
    generalize t.fs[i]'hi = f0 at hfi
    have hce : canE f0 = true := by rw [← hcan]; exact (gd_of (by unfold canL; rw [List.getElem?_map, hfi]; rfl)).symm
    obtain ⟨q, hq⟩ : ∃ q, q = (sweepC t).2.1 := ⟨_, rfl⟩
    obtain ⟨l2, hl2⟩ : ∃ l, l = (sweepC t).2.2 := ⟨_, rfl⟩
    have hll : l2.length = t.fs.length := by rw [hl2]; exact sweep_left hneg
    obtain ⟨f, hf⟩ : ∃ f, (reref t.fs l2)[i]? = some f := ⟨_, List.getElem?_eq_getElem (by unfold reref; simp; omega)⟩
    obtain ⟨g0, hg0, r1, r2, r3, r4, r5, r6⟩ := reref_get hf
    rw [hfi] at hg0
    injection hg0 with hg0
    subst hg0
    have e1 : (sweepC t).1 = (i : Int) := h1
    have he : evictC t = (some f0, { t with fs := (reref t.fs l2).set i freeF, hand := q }) := by
      unfold evictC
      rw [if_neg hneg, hq, hl2, e1, Int.toNat_natCast, fr_of hfi]
    rw [e1, ← hq, ← hl2] at hsw
    have hbl : okBl f0.blk = true := (p.fr f0 (List.mem_of_getElem? hfi)).1 (.inr (by unfold canE at hce; simp at hce; exact hce.1))
    have HB64 : Hid (W64 f.blk) := keep (by rw [r2]; exact bl_64 hbl)
    have HEV : Hid (evP (some f0) = .tuple #[.int .i64 f.blk, nv f.node.v, .bool f.dirty, .bool true]) := keep (by unfold evP; rw [r2, r4, r5])
    have HFB : Hid (∀ c, findB ((reref t.fs l2).set i freeF) c = if c = f.blk then none else findB (reref t.fs l2) c) := keep (fun c => find_gone (by
      refine p.good.like (fun j x hx h0 => ?_) fun j x _ => by omega
      obtain ⟨y, y1, y2, y3, -⟩ := reref_get hx
      exact ⟨y, y1, y3.symm, by rw [y2]; exact id⟩) hf (by rw [r2]; exact (okBl_iff.1 hbl).1) rfl c)
    have HSW := keep hsw
    have HFK := keep hf
    obtain ⟨a, off, hA⟩ := kZ.fs.addr (show 0 < h.n by have := k.nlen.1; omega)
    have HA := keep hA
    have HAW := HA
    have HGA : Hid (g ≠ a) := keep (fun e => kZ.ng.1 (by rw [hA, e]; rfl))
    have HLN : Hid ((reref t.fs l2).length = h.n) := keep (by have := k.nlen.1; unfold reref; simp; omega)
    have HIX : Hid (i < h.n) := keep (by have := k.nlen.1; omega)
    have hix : i < h.n := HIX.out
    have hiz : (i : Int) < (h.n : Int) := by omega
    have hz : ((i : Int) == -1) = false := by first | (simp; omega) | simp
    rw [he]
    show Calls _ _ _ _ fun e w' => e = .returned (evP (some f0)) ∧ _
    rw [HEV.out]
    clear k kZ hF hX hs hn0 hh hlc hlr hneg he hsw h1 hi hcan hfi hce hq hl2 hll hf r1 r2 r3 r4 r5 r6 e1 hbl hA HEV p
    go_enter Tryz.func19, Tryz.ntmps19
    go_wp2_with (first
      | (go_at_call 58; (with_reducible refine HSW.out.mono ?_); rintro e W2 ⟨rfl, H2⟩; have k2 := H2.out.1; have HF2 := keep k2; have HX2 := keep (HX.out.chg H2.out.2 HNX.out); obtain ⟨a9, o9, hA9, hb9, hc9, hr9⟩ := pframe_cells k2.fs.has (Nat.le_refl _) HFK.out; have e5 := hA9.symm.trans HA.out; injection e5 with e5; injection e5 with e6 e7; subst e6 e7; have lF := elem_ld pfr_ty hr9 (pc_wid _) hb9 HFK.out W2 (fr_refl W2); have c0 : W2.cell? ⟨g, 0, none⟩ = some (.slice (some ⟨a9, o9, none⟩) h.n h.c) := by { rw [← HA.out]; exact k2.cells.1 }; obtain ⟨W3, hW3, hF3, hX3, hS3⟩ := zpc_box W2; have HX3 := keep hX3; have HF3 := keep hF3; clear k2 hA9 hb9 hc9 hr9 hX3 hF3)
      | (refine wpList_store_chg pfr_info rfl (.tmp 7) (.tmp 19) rfl W2.heap.size 0 rfl (ds := pc f) rfl rfl (pc_one f) HX3.out (by decide) (cs' := pc f) (splice_all _ _ (Nat.le_of_eq rfl)) ?_; intro W4 h1 h2; have H4 := keep (And.intro h1 h2); clear h1 h2 lF)
      | fail)
    have k4 : PC W4 g h K _ := (HF2.out.fr HF3.out).chg H4.out.2 fun j hj e => by have := HF2.out.lt j hj; omega
    have HKW := keep k4
    have hR := k4.fs
    rw [HAW.out] at hR
    have HRW := keep hR
    have sd : W4.drew.cell? ⟨g, 0, none⟩ = some (.slice (some ⟨a9, o9, none⟩) h.n h.c) := by rw [← HAW.out]; exact k4.cells.1
    have HN2 : Hid (W2.heap.size ≠ g ∧ W2.heap.size ≠ a9 ∧ W2.heap.size ≠ h.m) := keep ⟨fun e => by have := HF2.out.box.lt; omega, fun e => by have := HF2.out.fs.lt a9 (by rw [HAW.out]; rfl); omega, fun e => by have := HF2.out.mp.lt; omega⟩
    clear k4 hR
    refine wp_region_noPanic ?_
    refine wp_region_held_drew (S := fun U => U.cell? ⟨g, 0, none⟩ = some (Value.slice (some ⟨a9, o9, none⟩) h.n h.c)) (by kernel_rfl) sd (fun hHeld => ?_)
    change wpAnyH _ _ _ _ _ _ _ _ _
    refine wpAnyH_take (i := 0) (v := ?_) rfl (by kernel_rfl) (by kernel_rfl) (by kernel_rfl) (fun _ _ _ h => h) (Or.inl ⟨by rfl, ?_⟩) (by assumption) ?_
    rotate_left
    · intro w' hSw
      try dsimp only at hSw
      go_simp
      try with_reducible rfl
    try simp only [List.getElem_toArray, List.getElem_cons_zero, Act.put, List.setIfInBounds_toArray, List.set_cons_zero, List.set_cons_succ]
    refine wpAnyH_take (i := 1) (v := ?_) rfl (by kernel_rfl) (by kernel_rfl) (by kernel_rfl) (fun _ _ _ h => h) (Or.inl ⟨by rfl, ?_⟩) (by assumption) ?_
    rotate_left
    · intro w' hSw
      try dsimp only at hSw
      go_simp
      try with_reducible rfl
    try simp only [List.getElem_toArray, List.getElem_cons_succ, List.getElem_cons_zero, Act.put, List.setIfInBounds_toArray, List.set_cons_zero, List.set_cons_succ]
    refine wpAnyH_take (i := 2) (v := ?_) rfl (by kernel_rfl) (by kernel_rfl) (by kernel_rfl) (fun _ _ _ h => h) (Or.inl ⟨by rfl, ?_⟩) (by assumption) ?_
    rotate_left
    · intro w' hSw
      try dsimp only at hSw
      go_simp
      try with_reducible rfl
    try simp only [List.getElem_toArray, List.getElem_cons_succ, List.getElem_cons_zero, Act.put, List.setIfInBounds_toArray, List.set_cons_zero, List.set_cons_succ]
    refine wpAnyH_take (i := 3) (v := ?_) rfl (by kernel_rfl) (by kernel_rfl) (by kernel_rfl) (fun _ _ _ h => h) (Or.inl ⟨by rfl, ?_⟩) (by assumption) ?_
    rotate_left
    · intro w' hSw
      try dsimp only at hSw
      go_simp
      try with_reducible rfl
    try simp only [List.getElem_toArray, List.getElem_cons_succ, List.getElem_cons_zero, Act.put, List.setIfInBounds_toArray, List.set_cons_zero, List.set_cons_succ]
    refine wpAnyH_take (i := 4) (v := ?_) rfl (by kernel_rfl) (by kernel_rfl) (by kernel_rfl) (fun _ _ _ h => h) (Or.inl ⟨by rfl, ?_⟩) (by assumption) ?_
    rotate_left
    · intro w' hSw
      try dsimp only at hSw
      go_simp
      try with_reducible rfl
    try simp only [List.getElem_toArray, List.getElem_cons_succ, List.getElem_cons_zero, Act.put, List.setIfInBounds_toArray, List.set_cons_zero, List.set_cons_succ]
    refine wpAnyH_ready (rs := [5]) (by kernel_rfl) (by simp) ?_
    refine AllReadyH.cons rfl (fun K hK0 => ?_) AllReadyH.nil
    go_simp
    refine (freed_at (V := NX) _).mono ?_
    rintro e w4 ⟨rfl, f4⟩
    go_simp
    have s4 := (f4.cell (show (⟨g, 0, none⟩ : Addr).block < _ from HKW.out.box.lt)).trans sd
    refine hK0.out _ _ s4 (fun _ => ?_)
    clear hK0 K
    try simp only [List.getElem_toArray, List.getElem_cons_succ, List.getElem_cons_zero, Act.put, List.setIfInBounds_toArray, List.set_cons_zero, List.set_cons_succ]
    refine wpAnyH_take (i := 6) (v := ?_) rfl (by kernel_rfl) (by kernel_rfl) (by kernel_rfl) (fun _ _ _ h => h) (Or.inl ⟨by rfl, ?_⟩) (by assumption) ?_
    rotate_left
    · intro w' hSw
      try dsimp only at hSw
      go_simp
      try with_reducible rfl
    try simp only [List.getElem_toArray, List.getElem_cons_succ, List.getElem_cons_zero, Act.put, List.setIfInBounds_toArray, List.set_cons_zero, List.set_cons_succ]
    refine wpAnyH_ready (rs := [7]) (by kernel_rfl) (by simp) ?_
    refine AllReadyH.cons rfl (fun K hK0 => ?_) AllReadyH.nil
    refine step_store_rw (cf := pc) (x := freeF) (j := i) pfr_info (wanted_plain17 rfl _) (.tmp 26) (.tmp 25) rfl rfl rfl (pc_len _) (pc_one _) (HRW.out.fr (fr_step (fr_drew (fr_refl _)) f4)) (pc_wid _) HLN.out HIX.out ?_
    intro w5 h5 c5
    have s5 := (c5.cell (p := ⟨g, 0, none⟩) (by have := f4.size; have := HKW.out.box.lt; show g < _; exact Nat.lt_of_lt_of_le this f4.size) (fun e => HGA.out e)).trans s4
    have H5 := keep (show Rw w5 _ _ _ _ _ _ ∧ Chg _ w4 w5 ∧ Fr W4 w4 from ⟨h5, c5, fr_step (fr_drew (fr_refl _)) f4⟩)
    clear h5 c5
    refine hK0.out _ _ s5 (fun _ => ?_)
    clear hK0 K
    try simp only [List.getElem_toArray, List.getElem_cons_succ, List.getElem_cons_zero, Act.put, List.setIfInBounds_toArray, List.set_cons_zero, List.set_cons_succ]
    refine wpAnyH_done (by kernel_rfl) ?_ _
    refine NoPanic.normal ?_
    obtain ⟨h5, c5, f5⟩ := H5.out
    have hA5 : Chg (At h.A) w4 w5 := c5.weak fun j _ hj => by rw [HAW.out]; exact congrArg some hj.symm
    have k5 := HKW.out.fr f5
    have HE := keep (show Rw w5 52 14 h.A h.n h.c (rows pc ((reref t.fs l2).set i freeF)) ∧ Chg (At h.A) w4 w5 ∧ PC w4 g h K _ from ⟨by rw [HAW.out]; exact h5, hA5, k5⟩)
    have c1d : w5.drew.cell? ⟨g, 1, none⟩ = some (.map (some h.m)) := ((fr_drew (fr_refl w5)).cell (show (⟨g, 1, none⟩ : Addr).block < _ from Nat.lt_of_lt_of_le k5.box.lt hA5.size)).trans ((hA5.cell (p := ⟨g, 1, none⟩) k5.box.lt k5.ng.1).trans k5.cells.2.1)
    have hx5 : Arr w5 W2.heap.size 52 (pc f).toArray := (H4.out.1.below f5 H4.out.1.lt).chg c5 (fun e => HN2.out.2.1 e)
    have b1d : w5.drew.cell? ⟨W2.heap.size, 1, none⟩ = some (.int .i64 f.blk) := by have := hx5.drew.cell 1; simpa [pc_1] using this
    have HMD := keep (((k5.mp.chg hA5 fun ha => (k5.nA ha).2.2 rfl).chg (.of_fr (fun _ => False) (fr_drew (fr_refl w5))) id))
    have HX5 := keep hx5
    have HF5 := keep f5
    clear h5 c5 f5 k5 hA5 hx5
    go_wp2_with fail
    go_still_tail 7, (by kernel_rfl)
    change wpList _ _ _ _ _ w5.drew
    go_wp2_with (first
      | (refine wpList_del_pm rfl (.tmp 30) (.tmp 33) 54 rfl int_k map_k rfl HMD.out f.blk HB64.out rfl ?_; intro W9 m9 c9; have H9 := keep (And.intro m9 c9); have hx9 : Arr W9 W2.heap.size 52 (pc f).toArray := HX5.out.drew.chg c9 HN2.out.2.2; have HX9 := keep hx9; clear m9 c9 hx9)
      | fail)
    clear c1d b1d
    have fd9 : Fr W9 W9.drew := fr_drew (fr_refl _)
    have sd9 : Arr W9.drew W2.heap.size 52 (pc f).toArray := HX9.out.drew
    have l1 := fun U (hU : Arr U W2.heap.size 52 (pc f).toArray) => (show U.cell? ⟨W2.heap.size, 1, none⟩ = some (.int .i64 f.blk) by have := hU.cell 1; simpa [pc_1] using this)
    have l4 := fun U (hU : Arr U W2.heap.size 52 (pc f).toArray) => (show U.cell? ⟨W2.heap.size, 4, none⟩ = some (.bool f.dirty) by have := hU.cell 4; simpa [pc_4] using this)
    have lN := fun U (hU : Arr U W2.heap.size 52 (pc f).toArray) => (show (ldS 41 (.pointer (some ⟨W2.heap.size, 5, none⟩))).run Tryz.prog U = .ok (.agg f.node.v.cells.toArray) U from node16_ty.ldMid rfl (range_of_arr hU (pc_node f)))
    have hz2 := H2.out.2.size
    have hsz0 : Z.heap.size = w.heap.size + 1 := HS.out
    have HN5 : Hid (w.heap.size ≠ W2.heap.size ∧ ¬ At h.A w.heap.size ∧ w.heap.size ≠ h.m) := keep ⟨by omega, fun e => by have := HW _ (.inr (.inl e)); omega, fun e => by have := HW h.m (.inr (.inr (.inl rfl))); omega⟩
    have HXD := keep ((((((HX2.out.chg (.of_fr (fun _ => False) HF3.out) id).chg H4.out.2 HN5.out.1).chg (.of_fr (fun _ => False) HF5.out) id).chg HE.out.2.1 HN5.out.2.1).chg (.of_fr (fun _ => False) (fr_drew (fr_refl w5))) id).chg H9.out.2 HN5.out.2.2)
    refine wp_region_noPanic ?_
    refine wp_region_held_drew (S := fun U => Arr U W2.heap.size 52 (pc f).toArray) (by kernel_rfl) sd9 (fun hHeld => ?_)
    change wpAnyH _ _ _ _ _ _ _ _ _
    refine wpAnyH_take (i := 0) (v := ?_) rfl (by kernel_rfl) (by kernel_rfl) (by kernel_rfl) (fun _ _ _ h => h) (Or.inl ⟨by rfl, ?_⟩) (by assumption) ?_
    rotate_left
    · intro w' hSw
      try dsimp only at hSw
      go_simp
      try with_reducible rfl
    try simp only [List.getElem_toArray, List.getElem_cons_zero, Act.put, List.setIfInBounds_toArray, List.set_cons_zero, List.set_cons_succ]
    refine wpAnyH_take (i := 1) (v := ?_) rfl (by kernel_rfl) (by kernel_rfl) (by kernel_rfl) (fun _ _ _ h => h) (Or.inl ⟨by rfl, ?_⟩) (by assumption) ?_
    rotate_left
    · intro w' hSw
      try dsimp only at hSw
      go_simp
      try with_reducible rfl
    try simp only [List.getElem_toArray, List.getElem_cons_succ, List.getElem_cons_zero, Act.put, List.setIfInBounds_toArray, List.set_cons_zero, List.set_cons_succ]
    refine wpAnyH_take (i := 2) (v := ?_) rfl (by kernel_rfl) (by kernel_rfl) (by kernel_rfl) (fun _ _ _ h => h) (Or.inl ⟨by rfl, ?_⟩) (by assumption) ?_
    rotate_left
    · intro w' hSw
      try dsimp only at hSw
      go_simp
      try with_reducible rfl
    try simp only [List.getElem_toArray, List.getElem_cons_succ, List.getElem_cons_zero, Act.put, List.setIfInBounds_toArray, List.set_cons_zero, List.set_cons_succ]
    refine wpAnyH_take (i := 3) (v := ?_) rfl (by kernel_rfl) (by kernel_rfl) (by kernel_rfl) (fun _ _ _ h => h) (Or.inl ⟨by rfl, ?_⟩) (by assumption) ?_
    rotate_left
    · intro w' hSw
      try dsimp only at hSw
      go_simp
      try with_reducible rfl
    try simp only [List.getElem_toArray, List.getElem_cons_succ, List.getElem_cons_zero, Act.put, List.setIfInBounds_toArray, List.set_cons_zero, List.set_cons_succ]
    refine wpAnyH_take (i := 4) (v := ?_) rfl (by kernel_rfl) (by kernel_rfl) (by kernel_rfl) (fun _ _ _ h => h) (Or.inl ⟨by rfl, ?_⟩) (by assumption) ?_
    rotate_left
    · intro w' hSw
      try dsimp only at hSw
      go_simp
      try with_reducible rfl
    try simp only [List.getElem_toArray, List.getElem_cons_succ, List.getElem_cons_zero, Act.put, List.setIfInBounds_toArray, List.set_cons_zero, List.set_cons_succ]
    refine wpAnyH_take (i := 5) (v := ?_) rfl (by kernel_rfl) (by kernel_rfl) (by kernel_rfl) (fun _ _ _ h => h) (Or.inl ⟨by rfl, ?_⟩) (by assumption) ?_
    rotate_left
    · intro w' hSw
      try dsimp only at hSw
      go_simp
      try with_reducible rfl
    try simp only [List.getElem_toArray, List.getElem_cons_succ, List.getElem_cons_zero, Act.put, List.setIfInBounds_toArray, List.set_cons_zero, List.set_cons_succ]
    refine wpAnyH_take (i := 6) (v := ?_) rfl (by kernel_rfl) (by kernel_rfl) (by kernel_rfl) (fun _ _ _ h => h) (Or.inl ⟨by rfl, ?_⟩) (by assumption) ?_
    rotate_left
    · intro w' hSw
      try dsimp only at hSw
      go_simp
      try with_reducible rfl
    try simp only [List.getElem_toArray, List.getElem_cons_succ, List.getElem_cons_zero, Act.put, List.setIfInBounds_toArray, List.set_cons_zero, List.set_cons_succ]
    refine wpAnyH_take (i := 7) (v := ?_) rfl (by kernel_rfl) (by kernel_rfl) (by kernel_rfl) (fun _ _ _ h => h) (Or.inl ⟨by rfl, ?_⟩) (by assumption) ?_
    rotate_left
    · intro w' hSw
      try dsimp only at hSw
      go_simp
      try with_reducible rfl
    try simp only [List.getElem_toArray, List.getElem_cons_succ, List.getElem_cons_zero, Act.put, List.setIfInBounds_toArray, List.set_cons_zero, List.set_cons_succ]
    refine wpAnyH_take (i := 8) (v := ?_) rfl (by kernel_rfl) (by kernel_rfl) (by kernel_rfl) (fun _ _ _ h => h) (Or.inl ⟨by rfl, ?_⟩) (by assumption) ?_
    rotate_left
    · intro w' hSw
      try dsimp only at hSw
      go_simp
      try with_reducible rfl
    try simp only [List.getElem_toArray, List.getElem_cons_succ, List.getElem_cons_zero, Act.put, List.setIfInBounds_toArray, List.set_cons_zero, List.set_cons_succ]
    refine wpAnyH_take (i := 9) (v := ?_) rfl (by kernel_rfl) (by kernel_rfl) (by kernel_rfl) (fun _ _ _ h => h) (Or.inl ⟨by rfl, ?_⟩) (by assumption) ?_
    rotate_left
    · intro w' hSw
      try dsimp only at hSw
      go_simp
      try with_reducible rfl
    try simp only [List.getElem_toArray, List.getElem_cons_succ, List.getElem_cons_zero, Act.put, List.setIfInBounds_toArray, List.set_cons_zero, List.set_cons_succ]
    refine wpAnyH_ready (rs := [10]) (by kernel_rfl) (by simp) ?_
    refine AllReadyH.cons rfl (fun K hK0 => ?_) AllReadyH.nil
    refine step_store_chg node16_info (wanted_plain17 rfl _) (.tmp 3) (.tmp 39) rfl w.heap.size 0 rfl (ds := f.node.v.cells) rfl rfl (nv_onex _) (HXD.out.chg (.of_fr (fun _ => False) fd9) id) (by decide) (cs' := f.node.v.cells) (splice_all _ _ (by show 5 ≤ 5; decide)) ?_
    intro W10 h10 c10
    have H10 := keep (And.intro h10 c10)
    have s10 := sd9.chg c10 (fun e => HN5.out.1 e.symm)
    clear h10 c10
    refine hK0.out _ _ s10 (fun _ => ?_)
    clear hK0 K
    try simp only [List.getElem_toArray, List.getElem_cons_succ, List.getElem_cons_zero, Act.put, List.setIfInBounds_toArray, List.set_cons_zero, List.set_cons_succ]
    refine wpAnyH_take (i := 11) (v := ?_) rfl (by kernel_rfl) (by kernel_rfl) (by kernel_rfl) (fun _ _ _ h => h) (Or.inl ⟨by rfl, ?_⟩) (by assumption) ?_
    rotate_left
    · intro w' hSw
      try dsimp only at hSw
      go_simp
      try with_reducible rfl
    try simp only [List.getElem_toArray, List.getElem_cons_succ, List.getElem_cons_zero, Act.put, List.setIfInBounds_toArray, List.set_cons_zero, List.set_cons_succ]
    refine wpAnyH_take (i := 12) (v := ?_) rfl (by kernel_rfl) (by kernel_rfl) (by kernel_rfl) (fun _ _ _ h => h) (Or.inl ⟨by rfl, ?_⟩) (by assumption) ?_
    rotate_left
    · intro w' hSw
      try dsimp only at hSw
      go_simp
      try with_reducible rfl
    try simp only [List.getElem_toArray, List.getElem_cons_succ, List.getElem_cons_zero, Act.put, List.setIfInBounds_toArray, List.set_cons_zero, List.set_cons_succ]
    refine wpAnyH_done (by kernel_rfl) ?_ _
    refine NoPanic.normal ?_
    go_wp2_with fail
    refine bodyPost_ret (node16_ty.result4w rfl _ w.heap.size rfl rfl H10.out.1) rfl ⟨rfl, keep ⟨?_, ?_⟩⟩
    · have c59 : Chg (· = h.m) w5 W9 := (Chg.of_fr _ (fr_drew (fr_refl w5))).trans H9.out.2
      have kP := HE.out.2.2.placed HE.out.1 HE.out.2.1 H9.out.1 c59 HFB.out
      exact (kP.fr fd9).chg H10.out.2 fun j hj e => by have := HW j hj; omega
    · have c59 : Chg (· = h.m) w5 W9 := (Chg.of_fr _ (fr_drew (fr_refl w5))).trans H9.out.2
      refine ((((((((Chg.of_fr (PHX g h) HF0.out).trans' H2.out.2 fun j hj e => ?_).fr HF3.out).trans' H4.out.2 fun j hj e => ?_).fr HF5.out).trans' HE.out.2.1 fun j hj e => .inr (.inl e)).trans' c59 fun j hj e => .inr (.inr (.inl e))).fr fd9).trans' H10.out.2 fun j hj e => ?_
      · rcases e with e | e
        · exact .inl e
        · exact .inr (.inl e)
      · omega
      · omega
end Go.Proofs.YtmoaddbpfekdbaaGreat
