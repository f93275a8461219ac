/- The program's cache: Give. -/
import Derived.Test.YtmoaddbpfekdbaaGreatM32
import Derived.Test.YtmoaddbpfekdbaaGreatM13
namespace Go.Proofs.YtmoaddbpfekdbaaGreat
set_option linter.unusedVariables false
set_option linter.unusedSimpArgs false
set_option linter.unusedSectionVars false
set_option maxRecDepth 100000
open Go.RowKit
attribute [local go_sem ↓] want_ld pfr_ld
theorem wanted_plain17 {o : Oper} (h : o.guard = none) (f : Nat → Option Bool) : Region.wanted o f = true := by simp [Region.wanted, h]
section
variable {V : Type} [NVal V]
/-- What one claim less leaves. -/
def givF (x : Int) (f : Fra V) : Fra V := if isC x f = true then freeF else f
def givL (l : List (Fra V)) (x : Int) (j : Nat) : List (Fra V) := (l.take j).map (givF x) ++ l.drop j
theorem giv_at {l : List (Fra V)} {x : Int} {j : Nat} {m : Fra V} (hm : l[j]? = some m) : (givL l x j)[j]? = some m := by
  have hj := (List.getElem?_eq_some_iff.1 hm).1
  unfold givL
  rw [List.getElem?_append_right (by simp; omega)]
  simp [Nat.min_eq_left (Nat.le_of_lt hj), hm]
theorem giv_len {l : List (Fra V)} {x : Int} {j : Nat} : (givL l x j).length = l.length := by
  unfold givL
  simp
  omega
theorem giv_succ {l : List (Fra V)} {x : Int} {j : Nat} {m : Fra V} (hm : l[j]? = some m) : givL l x (j + 1) = (givL l x j).set j (givF x m) := by
  obtain ⟨hj, e⟩ := List.getElem?_eq_some_iff.1 hm
  unfold givL
  rw [List.take_succ_eq_append_getElem hj, e, List.map_append, List.set_append_right _ _ (by simp; omega)]
  have e1 : j - ((l.take j).map (givF x)).length = 0 := by simp; omega
  rw [e1, List.drop_eq_getElem_cons hj, e]
  simp
theorem give_set {l : List (Fra V)} {x : Int} {j : Nat} {m : Fra V} (hm : l[j]? = some m) (hq : isC x m = true) : givL l x (j + 1) = (givL l x j).set j freeF := by rw [giv_succ hm]; unfold givF; rw [if_pos hq]
theorem give_not {l : List (Fra V)} {x : Int} {j : Nat} {m : Fra V} (hm : l[j]? = some m) (hq : isC x m = false) : givL l x (j + 1) = givL l x j := by
  rw [giv_succ hm]
  unfold givF
  rw [hq]
  have h1 := giv_at (x := x) hm
  simp only [Bool.false_eq_true, if_false]
  refine List.ext_getElem? fun i => ?_
  rw [List.getElem?_set]
  by_cases e : j = i
  · subst e
    obtain ⟨h2, -⟩ := List.getElem?_eq_some_iff.1 h1
    rw [if_pos rfl, if_pos h2, h1]
  · rw [if_neg e]
theorem give_all {t : Ca V} (p : PI t) (x : Int) : giveC t x = (t.fs.countP (isC x), { t with fs := givL t.fs x t.fs.length }) := by
  have e1 : givL t.fs x t.fs.length = t.fs.map (givF x) := by unfold givL; simp
  rw [e1]
  unfold giveC
  split
  · rfl
  · next h =>
    have h9 : ∀ f ∈ t.fs, isC x f = false := fun f hf => by
      cases hc : isC x f with
      | false => rfl
      | true =>
        unfold isC at hc
        simp at hc
        exact absurd ((p.fr f hf).2 hc.1) (by rw [hc.2]; exact h)
    have e2 : t.fs.map (givF x) = t.fs := by
      rw [List.map_congr_left (g := id) fun f hf => by unfold givF; rw [h9 f hf]; rfl]
      simp
    have e3 : t.fs.countP (isC x) = 0 := List.countP_eq_zero.2 fun f hf => by simp [h9 f hf]
    rw [e2, e3]
theorem giv_find {l : List (Fra V)} {x b : Int} : findB (givL l x l.length) b = findB l b := by
  refine find_congr ?_
  unfold givL
  rw [List.take_length, List.drop_length, List.append_nil, List.map_map]
  refine List.map_congr_left fun f _ => ?_
  simp only [Function.comp, givF]
  split
  · next h =>
    unfold isC at h
    simp at h
    unfold isB
    simp [freeF, h.1]
  · rfl
theorem is_claim (f : Fra V) (x : Int) : isC x f = ((f.st : Int) == 3 && tk f == x) := by
  unfold isC tk
  by_cases h : f.st = 3
  · rw [if_pos h, h]; rfl
  · have h1 : (f.st == 3) = false := by simpa using h
    have h2 : ((f.st : Int) == 3) = false := by simp; omega
    rw [h1, h2]; rfl
set_option maxHeartbeats 8000000 in
theorem pgive_at {w : World} {g K : Nat} {h : PH} {t : Ca V} (x : Int) (k : PC w g h K t) (p : PI t) (hs : t.fs.length ≤ 100000) :
    Calls Tryz.prog 29 #[.pointer (some ⟨g, 0, none⟩), .int .i64 x] w fun e w' => e = .returned (.int .i64 ((giveC t x).1 : Nat)) ∧ Hid (PTurn w w' (PHX g h) g K (giveC t x).2) := by
  obtain ⟨hn, -, -⟩ := k.nlen
  obtain ⟨k0, -, -, -, -⟩ := k.cells
  rw [give_all p]
  obtain ⟨A, n, c, mm, B, bn, bc, L, ln, lc⟩ := h
  simp only at hn k0
  have HK := keep k
  have Hn := keep hn
  have HNG := keep k.ng.1
  have HGL := keep k.box.lt
  have hs' : n ≤ 100000 := by omega
  have HC0 := keep k0
  clear p hs k0
  go_enter Tryz.func29, Tryz.ntmps29
  have c0 := HC0.out
  go_wp2_with fail
  clear c0
  go_loopg [5, 13] n (fun gg s3 s4 wr => ∃ j q : Nat, j + gg = n ∧ s3 = .int .i64 q ∧ s4 = .int .i64 j ∧ q ≤ j ∧ Hid (Rw wr 52 14 A n c (rows pc (givL t.fs x j))) ∧ Hid (Chg (At A) w wr) ∧ Hid (q = (t.fs.take j).countP (isC x)))
  case atStart => exact ⟨0, 0, by omega, rfl, rfl, Nat.le_refl _, keep (by unfold givL; simpa using k.fs), keep (.refl _ w), keep rfl⟩
  case round =>
    obtain ⟨j, q, hj, rfl, rfl, hqj, HR, HC, hno⟩ := hrel
    by_cases hlt : j < n
    · have hm : t.fs[j]? = some (t.fs[j]'(by rw [Hn.out]; exact hlt)) := List.getElem?_eq_getElem _
      generalize t.fs[j]'(by rw [Hn.out]; exact hlt) = m at hm
      have hm2 := giv_at (x := x) hm
      obtain ⟨b, off, rfl, hb1, hr⟩ := has_rows HR.out.has (pc_wid _) (by decide) (by intro e; rw [e] at hm2; simp at hm2)
      have lX := elem_ld pfr_ty hr (pc_wid _) hb1 hm2
      have Hc := keep (count_upto (p := isC x) hm)
      have Hm := keep hm
      have hjz : (j : Int) < (n : Int) := by omega
      have wj : IntKind.i64.wrap ((j : Int) + 1) = (j : Int) + 1 := by rw [IntKind.wrap_i64]; omega
      have wq : IntKind.i64.wrap ((q : Int) + 1) = (q : Int) + 1 := by rw [IntKind.wrap_i64]; omega
      have hrr := fr_refl wr
      have HRB := HR
      have cG : ∀ U, Chg (At (some ⟨b, off, none⟩)) w U → U.cell? ⟨g, 0, none⟩ = some (.slice (some ⟨b, off, none⟩) n c) := fun U f => (f.cell HGL.out HNG.out).trans HC0.out
      have HGB : Hid (g ≠ b) := keep (fun e => HNG.out (by rw [e]; rfl))
      clear hm hm2 hr hlt hb1
      cases hq : isC x m with
      | true =>
        have Hq := keep hq
        rw [is_claim] at hq
        have h1 : ((m.st : Int) == 3) = true := by revert hq; cases ((m.st : Int) == 3) <;> simp
        have h2 : (tk m == x) = true := by rw [h1] at hq; simpa using hq
        have H1 := keep (show q + 1 = (t.fs.take (j + 1)).countP (isC x) by rw [Hc.out, ← hno.out, if_pos Hq.out])
        clear hq
        go_wp2_with (first | (refine wpList_store_at (ds := pc m) pfr_info rfl (.tmp 7) (.tmp 17) rfl wr.heap.size 0 rfl rfl (pc_len m) (pc_one m) (Arr.new wr zpc.toArray 52) (Nat.le_refl 14) (splice_all _ _ (Nat.le_of_eq (pc_len m).symm)) ?_; intro W5 hM5 hk5; have hF5 := keep (hk5.fr (fr_new hrr _) (Nat.le_refl _)); clear hk5; have d0 := hM5.cell 0; have d13 := hM5.cell 13; simp only [List.getElem?_toArray, pc_0, pc_13] at d0 d13; clear hM5) | fail)
        have HIX : Hid (j < n) := keep (by omega)
        have HLN : Hid ((givL t.fs x j).length = n) := keep (by rw [giv_len, Hn.out])
        have HRW := keep (HRB.out.fr hF5.out)
        have HGA := HGB
        have HKW := keep (HK.out)
        have gl5 : g < W5.heap.size := Nat.lt_of_lt_of_le HGL.out (Nat.le_trans HC.out.size hF5.out.size)
        have sd : W5.drew.cell? ⟨g, 0, none⟩ = some (.slice (some ⟨b, off, none⟩) n c) := cG _ ((HC.out.fr hF5.out).fr (fr_drew (fr_refl _)))
        refine wp_region_noPanic ?_
        refine wp_region_held_drew (S := fun U => U.cell? ⟨g, 0, none⟩ = some (Value.slice (some ⟨b, off, none⟩) n c)) (by kernel_rfl) sd (fun hHeld => ?_)
        change wpAnyH _ _ _ _ _ _ _ _ _
        refine wpAnyH_take (i := 0) (v := ?_) rfl (by kernel_rfl) (by kernel_rfl) (by kernel_rfl) (fun _ _ _ h => h) (Or.inl ⟨by rfl, ?_⟩) (by assumption) ?_
        rotate_left
        · intro w' hSw
          try dsimp only at hSw
          go_simp
          try with_reducible rfl
        try simp only [List.getElem_toArray, List.getElem_cons_zero, Act.put, List.setIfInBounds_toArray, List.set_cons_zero, List.set_cons_succ]
        refine wpAnyH_take (i := 1) (v := ?_) rfl (by kernel_rfl) (by kernel_rfl) (by kernel_rfl) (fun _ _ _ h => h) (Or.inl ⟨by rfl, ?_⟩) (by assumption) ?_
        rotate_left
        · intro w' hSw
          try dsimp only at hSw
          go_simp
          try with_reducible rfl
        try simp only [List.getElem_toArray, List.getElem_cons_succ, List.getElem_cons_zero, Act.put, List.setIfInBounds_toArray, List.set_cons_zero, List.set_cons_succ]
        refine wpAnyH_take (i := 2) (v := ?_) rfl (by kernel_rfl) (by kernel_rfl) (by kernel_rfl) (fun _ _ _ h => h) (Or.inl ⟨by rfl, ?_⟩) (by assumption) ?_
        rotate_left
        · intro w' hSw
          try dsimp only at hSw
          go_simp
          try with_reducible rfl
        try simp only [List.getElem_toArray, List.getElem_cons_succ, List.getElem_cons_zero, Act.put, List.setIfInBounds_toArray, List.set_cons_zero, List.set_cons_succ]
        refine wpAnyH_take (i := 3) (v := ?_) rfl (by kernel_rfl) (by kernel_rfl) (by kernel_rfl) (fun _ _ _ h => h) (Or.inl ⟨by rfl, ?_⟩) (by assumption) ?_
        rotate_left
        · intro w' hSw
          try dsimp only at hSw
          go_simp
          try with_reducible rfl
        try simp only [List.getElem_toArray, List.getElem_cons_succ, List.getElem_cons_zero, Act.put, List.setIfInBounds_toArray, List.set_cons_zero, List.set_cons_succ]
        refine wpAnyH_take (i := 4) (v := ?_) rfl (by kernel_rfl) (by kernel_rfl) (by kernel_rfl) (fun _ _ _ h => h) (Or.inl ⟨by rfl, ?_⟩) (by assumption) ?_
        rotate_left
        · intro w' hSw
          try dsimp only at hSw
          go_simp
          try with_reducible rfl
        try simp only [List.getElem_toArray, List.getElem_cons_succ, List.getElem_cons_zero, Act.put, List.setIfInBounds_toArray, List.set_cons_zero, List.set_cons_succ]
        refine wpAnyH_ready (rs := [5]) (by kernel_rfl) (by simp) ?_
        refine AllReadyH.cons rfl (fun K hK0 => ?_) AllReadyH.nil
        go_simp
        refine (freed_at (V := V) _).mono ?_
        rintro e w4 ⟨rfl, f4⟩
        go_simp
        have s4 := (f4.cell (show (⟨g, 0, none⟩ : Addr).block < _ from gl5)).trans sd
        refine hK0.out _ _ s4 (fun _ => ?_)
        clear hK0 K
        try simp only [List.getElem_toArray, List.getElem_cons_succ, List.getElem_cons_zero, Act.put, List.setIfInBounds_toArray, List.set_cons_zero, List.set_cons_succ]
        refine wpAnyH_take (i := 6) (v := ?_) rfl (by kernel_rfl) (by kernel_rfl) (by kernel_rfl) (fun _ _ _ h => h) (Or.inl ⟨by rfl, ?_⟩) (by assumption) ?_
        rotate_left
        · intro w' hSw
          try dsimp only at hSw
          go_simp
          try with_reducible rfl
        try simp only [List.getElem_toArray, List.getElem_cons_succ, List.getElem_cons_zero, Act.put, List.setIfInBounds_toArray, List.set_cons_zero, List.set_cons_succ]
        refine wpAnyH_ready (rs := [7]) (by kernel_rfl) (by simp) ?_
        refine AllReadyH.cons rfl (fun K hK0 => ?_) AllReadyH.nil
        refine step_store_rw (cf := pc) (x := freeF) (j := j) pfr_info (wanted_plain17 rfl _) (.tmp 34) (.tmp 33) rfl rfl rfl (pc_len _) (pc_one _) (HRW.out.fr (fr_step (fr_drew (fr_refl _)) f4)) (pc_wid _) HLN.out HIX.out ?_
        intro w5 h5 c5
        have s5 := (c5.cell (p := ⟨g, 0, none⟩) (by have := f4.size; show g < _; exact Nat.lt_of_lt_of_le gl5 f4.size) (fun e => HGA.out e)).trans s4
        have H5 := keep (show Rw w5 _ _ _ _ _ _ ∧ Chg _ w4 w5 ∧ Fr W5 w4 from ⟨h5, c5, fr_step (fr_drew (fr_refl _)) f4⟩)
        clear h5 c5
        refine hK0.out _ _ s5 (fun _ => ?_)
        clear hK0 K
        try simp only [List.getElem_toArray, List.getElem_cons_succ, List.getElem_cons_zero, Act.put, List.setIfInBounds_toArray, List.set_cons_zero, List.set_cons_succ]
        refine wpAnyH_done (by kernel_rfl) ?_ _
        refine NoPanic.normal ?_
        go_wp2_with fail
        obtain ⟨h5, c5, f4⟩ := H5.out
        go_roundg (gk - 1)
        case measure => omega
        case rel =>
          have hch : Chg (At (some ⟨b, off, none⟩)) w w5 := (((HC.out.fr hF5.out).fr f4).trans (c5.weak fun i _ hi => congrArg some hi.symm))
          exact ⟨j + 1, q + 1, by omega, rfl, rfl, by omega, keep (by rw [give_set Hm.out Hq.out]; exact h5), keep hch, H1⟩
      | false =>
        have Hq := keep hq
        rw [is_claim] at hq
        have H1 := keep (show q = (t.fs.take (j + 1)).countP (isC x) by rw [Hc.out, ← hno.out, if_neg (by rw [Hq.out]; simp)]; rfl)
        cases h1 : ((m.st : Int) == 3) with
        | true =>
          have h2 : (tk m == x) = false := by rw [h1] at hq; simpa using hq
          clear hq
          go_wp2_with (first | (refine wpList_store_at (ds := pc m) pfr_info rfl (.tmp 7) (.tmp 17) rfl wr.heap.size 0 rfl rfl (pc_len m) (pc_one m) (Arr.new wr zpc.toArray 52) (Nat.le_refl 14) (splice_all _ _ (Nat.le_of_eq (pc_len m).symm)) ?_; intro W5 hM5 hk5; have hF5 := keep (hk5.fr (fr_new hrr _) (Nat.le_refl _)); clear hk5; have d0 := hM5.cell 0; have d13 := hM5.cell 13; simp only [List.getElem?_toArray, pc_0, pc_13] at d0 d13; clear hM5) | fail)
          go_roundg (gk - 1)
          case measure => omega
          case rel => exact ⟨j + 1, q, by omega, rfl, rfl, by omega, keep (by rw [give_not Hm.out Hq.out]; exact HRB.out.fr hF5.out), keep (HC.out.fr hF5.out), H1⟩
        | false =>
          clear hq
          go_wp2_with (first | (refine wpList_store_at (ds := pc m) pfr_info rfl (.tmp 7) (.tmp 17) rfl wr.heap.size 0 rfl rfl (pc_len m) (pc_one m) (Arr.new wr zpc.toArray 52) (Nat.le_refl 14) (splice_all _ _ (Nat.le_of_eq (pc_len m).symm)) ?_; intro W5 hM5 hk5; have hF5 := keep (hk5.fr (fr_new hrr _) (Nat.le_refl _)); clear hk5; have d0 := hM5.cell 0; have d13 := hM5.cell 13; simp only [List.getElem?_toArray, pc_0, pc_13] at d0 d13; clear hM5) | fail)
          go_roundg (gk - 1)
          case measure => omega
          case rel => exact ⟨j + 1, q, by omega, rfl, rfl, by omega, keep (by rw [give_not Hm.out Hq.out]; exact HRB.out.fr hF5.out), keep (HC.out.fr hF5.out), H1⟩
    · have hjn : j = n := by omega
      have hjz : ¬ (j : Int) < (n : Int) := by omega
      have E9 := keep (show q = t.fs.countP (isC x) by rw [hno.out, hjn, ← Hn.out, List.take_length])
      have E8 := keep (show j = t.fs.length by rw [hjn, Hn.out])
      clear hlt
      go_wp2_with fail
      go_ret
      refine ⟨by show _ = Ending.returned (.int .i64 ((t.fs.countP (isC x) : Nat) : Int)); rw [← E9.out]; rfl, keep ?_⟩
      have hR := HR.out
      rw [E8.out] at hR
      have hT := HK.out.framesT (fs' := givL t.fs x t.fs.length) hR HC.out fun b => giv_find
      first | exact hT | (rw [Hn.out] at hT; exact hT)
end
end Go.Proofs.YtmoaddbpfekdbaaGreat
/- The program's cache with nodes in it: Set, Node. -/
namespace Go.Proofs.YtmoaddbpfekdbaaGreat
set_option linter.unusedVariables false
set_option linter.unusedSimpArgs false
set_option linter.unusedSectionVars false
set_option maxRecDepth 100000
open Go.RowKit
/-- A node: its value, and what it holds. -/
structure NX where
  v : NV
  n : RN
theorem nv_onex (v : NV) : One v.cells := .cons rfl (.cons rfl (.cons rfl (.cons rfl (.cons rfl .nil))))
instance : NVal NX where
  toInhabited := ⟨⟨zeroNV, zeroN⟩⟩
  nc x := x.v.cells
  len _ := rfl
  one x := nv_onex x.v
  zero := rfl
theorem nx_def : (default : NX) = ⟨zeroNV, zeroN⟩ := rfl
attribute [local go_sem ↓] want_ld pfr_ld node16_ld
section
variable {V : Type} [NVal V]
theorem pc_put_node (f : Fra V) (v : V) : splice (pc f) 5 (NVal.nc v) = pc { f with node := v } := by
  have h1 := NVal.len f.node
  have h2 := NVal.len v
  unfold splice
  rw [h2]
  show [Value.int .i64 (f.st : Int), .int .i64 f.blk, .int .i64 f.pins, .bool f.ref, .bool f.dirty] ++ (NVal.nc v ++ (NVal.nc f.node ++ [Value.slice none 0 0, .int .i64 (-1), .slice none 0 0, .int .i64 (tk f)]).drop 5) = _
  rw [← h1, List.drop_left]
  rfl
end
/-- A cache that had the blocks Y has turned into t; a node that is new in it, if there is one, lies apart. -/
def PTurnV (w w' : World) (Y : Nat → Prop) (g K : Nat) (t : Ca NX) (c : Bool) (v : NX) : Prop :=
  ∃ h, PC w' g h K t ∧ Chg Y w w' ∧ (∀ k, PHX g h k → Y k ∨ w.heap.size ≤ k) ∧ (c = true → NP w' (fun b => w.heap.size ≤ b ∧ ¬ PHX g h b) v.v v.n)
theorem PTurnV.same {w W : World} {Y : Nat → Prop} {g K : Nat} {h : PH} {t : Ca NX} {v : NX} (k : PC w g h K t) (f : Fr w W) (hy : ∀ i, PHX g h i → Y i) : PTurnV w W Y g K t false v := ⟨h, k.fr f, .of_fr _ f, fun i hi => .inl (hy i hi), fun e => by cases e⟩
theorem NP.chg {w W : World} {ok : Nat → Prop} {X : Nat → Prop} {v : NV} {n : RN} (h : NP w ok v n) (k : Chg X w W) (hx : ∀ b, ok b → ¬ X b) : NP W ok v n :=
  { h with h1 := h.h1.chg k hx, h2 := h.h2.chg k hx, h3 := h.h3.chg k hx, h4 := h.h4.chg k hx }
theorem own_agg {w : World} {ok : Nat → Prop} {v : NV} {n : RN} (h : NP w ok v n) :
    Calls Tryz.prog 44 #[.agg v.cells.toArray] w fun e w' => ∃ v', e = .returned (.agg v'.cells.toArray) ∧ Hid (NP w' (fun b => w.heap.size + 2 ≤ b) v' n) ∧ Fr w w' := own_new h
set_option maxHeartbeats 8000000 in
theorem pset_at {w : World} {g K : Nat} {h : PH} {t : Ca NX} {ok : Nat → Prop} (x : Int) (v : NX) (hx : W64 x) (k : PC w g h K t) (p : PI t) (hv : NP w ok v.v v.n) :
    Calls Tryz.prog 35 #[.pointer (some ⟨g, 0, none⟩), .int .i64 x, nv v.v] w fun e w' => ∃ v' : NX, v'.n = v.n ∧ e = .returned (.bool (setC t x v').1) ∧ Hid (PTurnV w w' (PHX g h) g K (setC t x v').2 (readyI t x).isSome v') := by
  obtain ⟨Z, hZ, hF, hZZ, hX, hS⟩ := node16_box w v
  change w.alloc (.cells v.v.cells.toArray 41) = Z at hZ
  have kZ := k.fr hF
  have HK := keep kZ
  have HF0 := keep hF
  unfold setC
  cases hr : readyI t x with
  | none =>
    have CR := keep (pfind_ready_no x hx kZ p hr)
    clear k hr kZ hF hX hv
    unfold nv
    go_enter Tryz.func35, Tryz.ntmps35
    go_wp2_with (first
      | (go_at_call 43; with_reducible refine CR.out.mono ?_; rintro e w2 ⟨rfl, rfl⟩)
      | fail)
    go_ret
    exact ⟨v, rfl, rfl, keep ⟨h, HK.out, .of_fr _ HF0.out, fun i hi => .inl hi, fun e => by cases e⟩⟩
  | some i =>
    obtain ⟨hfb, f, hfi, hst, -⟩ := ready_find p hr
    obtain ⟨b, off, hA, hb1, hc, -⟩ := pframe_cells kZ.fs.has (Nat.le_refl _) hfi
    have CR := keep (pfind_yes x 2 hx kZ hfb hfi (by omega) hA)
    have lN := node16_ty.ld (w := Z) (NVal.len v) hX
    change (ldS 41 _).run Tryz.prog Z = .ok (.agg v.v.cells.toArray) Z at lN
    have HV := keep (hv.fr hF)
    have hR := kZ.fs
    rw [hA] at hR
    have HR := keep hR
    have HF := keep hfi
    have HA := keep hA
    have HW := keep k.lt
    clear k hr hR hA hfi hc hb1 hst hX hF kZ hv hfb
    unfold nv
    go_enter Tryz.func35, Tryz.ntmps35
    go_wp2_with (first
      | (go_at_call 43; (with_reducible refine CR.out.mono ?_); rintro e w2 ⟨rfl, rfl⟩)
      | (go_at_call 44; (with_reducible refine (own_agg HV.out).mono ?_); rintro e W1 ⟨v1, rfl, H1, f1⟩; have HF1 := keep f1; have HO1 := keep (HR.out.fr f1); clear f1)
      | (refine wpList_store_frp (cf := pc) (l := t.fs) (j := i) (x := f) (y := { f with node := (⟨v1, v.n⟩ : NX) }) (tt := 5) (ds := v1.cells) node16_info rfl (.tmp 23) (.tmp 20) rfl rfl rfl rfl (nv_onex v1) HO1.out (pc_wid _) HF.out (by show 5 + 5 ≤ 14; decide) (pc_put_node f (⟨v1, v.n⟩ : NX)) ?_; intro W2 h1 h2; have H2 := keep (show Rw W2 _ _ _ _ _ _ ∧ Chg _ W1 W2 from ⟨h1, h2⟩); clear h1 h2)
      | (refine wpList_store_frp (cf := pc) (l := t.fs.set i { f with node := (⟨v1, v.n⟩ : NX) }) (j := i) (x := { f with node := (⟨v1, v.n⟩ : NX) }) (y := { f with node := (⟨v1, v.n⟩ : NX), dirty := true }) (tt := 4) (ds := [.bool true]) bool_info16 rfl (.tmp 26) (.const (.bool true)) rfl rfl rfl rfl (.cons rfl .nil) H2.out.1 (pc_wid _) (List.getElem?_set_self (List.getElem?_eq_some_iff.1 HF.out).1) (by simp) rfl ?_; intro W3 h1 h2; have H3 := keep (show Rw W3 _ _ _ _ _ _ ∧ Chg _ W2 W3 from ⟨h1, h2⟩); clear h1 h2)
      | fail)
    go_ret
    refine ⟨⟨v1, v.n⟩, rfl, rfl, keep ?_⟩
    obtain ⟨h3, c3⟩ := H3.out
    rw [modify_set HF.out]
    rw [List.set_set] at h3
    have hch : Chg (At h.A) W1 W3 := (H2.out.2.trans c3).weak fun j _ hj => by rw [HA.out]; exact congrArg some hj.symm
    have k3 := (HK.out.fr HF1.out).frames (fs' := t.fs.set i { f with node := (⟨v1, v.n⟩ : NX), dirty := true }) (by rw [HA.out]; exact h3) hch (fun c => find_set_other HF.out rfl)
    have hsz := HF0.out.size
    refine ⟨h, k3, (Chg.of_fr _ (fr_step HF0.out HF1.out)).trans (hch.weak fun i _ hi => .inr (.inl hi)), fun _ hi => .inl hi, fun _ => ?_⟩
    refine ((H1.out.weak (ok' := fun b => w.heap.size ≤ b ∧ ¬ PHX g h b) fun b _ hb => ⟨by have hb' : Z.heap.size + 2 ≤ b := hb; omega, fun hx => ?_⟩).chg (hch.weak fun i _ hi => (show PHX g h i from .inr (.inl hi))) fun b hb => hb.2)
    have hb' : Z.heap.size + 2 ≤ b := hb
    have := HW.out b hx
    omega
set_option maxHeartbeats 8000000 in
theorem pnode_at {w : World} {g K : Nat} {h : PH} {t : Ca NX} (x : Int) (hx : W64 x) (k : PC w g h K t) (p : PI t) (hN : ∀ f ∈ t.fs, NP w (fun b => ¬ PHX g h b) f.node.v f.node.n) :
    Calls Tryz.prog 10 #[.pointer (some ⟨g, 0, none⟩), .int .i64 x] w fun e w' => ∃ v' : NV, e = .returned (.tuple #[nv v', .bool (nodC t x).2]) ∧ Hid (NP w' (fun _ => True) v' (nodC t x).1.n) ∧ Fr w w' := by
  obtain ⟨Z, hZ, hF, hZZ, hX, hS⟩ := zero16_box w
  have kZ := k.fr hF
  have HX := keep hX
  have HF0 := keep hF
  unfold nodC
  cases hr : readyI t x with
  | none =>
    have CR := keep (pfind_ready_no x hx kZ p hr)
    clear k hr kZ hF hX hN
    go_enter Tryz.func10, Tryz.ntmps10
    go_wp2_with (first
      | (go_at_call 43; (with_reducible refine CR.out.mono ?_); rintro e w2 ⟨rfl, rfl⟩)
      | (refine wpList_store_at (ds := [Value.bool false, .slice none 0 0, .slice none 0 0, .slice none 0 0, .slice none 0 0]) node16_info rfl (.tmp 4) (.tmp 16) rfl w.heap.size 0 rfl rfl rfl (.cons rfl (.cons rfl (.cons rfl (.cons rfl (.cons rfl .nil))))) HX.out (by decide) (splice_all _ _ (by decide)) ?_; intro W5 hO5 hk5; have hF5 := keep (hk5.fr HF0.out (Nat.le_refl _)); clear hk5)
      | fail)
    exact bodyPost_ret (node16_ty.result2 rfl _ (w.heap.size) rfl rfl hO5) rfl ⟨zeroNV, rfl, keep zeroN_np, hF5.out⟩
  | some i =>
    obtain ⟨hfb, f, hfi, hst, -⟩ := ready_find p hr
    obtain ⟨b, off, hA, hb1, hc, hr2⟩ := pframe_cells kZ.fs.has (Nat.le_refl _) hfi
    have CR := keep (pfind_yes x 2 hx kZ hfb hfi (by omega) hA)
    have lX := elem_part node16_ty hr2 (pc_wid t.fs) hb1 hfi (pc_node f) (NVal.len _) Z hZZ
    change (ldS 41 _).run Tryz.prog Z = .ok (.agg f.node.v.cells.toArray) Z at lX
    have HV := keep ((hN f (List.mem_of_getElem? hfi)).fr hF)
    simp only [fr_of hfi]
    clear k hr hA hfi hc hb1 hst hX hF kZ hN hfb hr2
    go_enter Tryz.func10, Tryz.ntmps10
    go_wp2_with (first
      | (go_at_call 43; (with_reducible refine CR.out.mono ?_); rintro e w2 ⟨rfl, rfl⟩)
      | (go_at_call 44; (with_reducible refine (own_agg HV.out).mono ?_); rintro e W1 ⟨v1, rfl, H1, f1⟩; have HF1 := keep f1; have HX1 := keep (HX.out.below f1 HX.out.lt); clear f1)
      | (refine wpList_store_chg node16_info rfl (.tmp 4) (.tmp 22) rfl w.heap.size 0 rfl (ds := v1.cells) rfl rfl (nv_onex v1) HX1.out (by decide) (cs' := v1.cells) (splice_all _ _ (by show 5 ≤ 5; decide)) ?_; intro W5 hO5 hk5; have H5 := keep (show Arr W5 _ _ _ ∧ Chg _ W1 W5 from ⟨hO5, hk5⟩); clear hO5 hk5)
      | fail)
    have hs1 := HF1.out.size
    have hch : Chg (fun b => b = w.heap.size) W1 W5 := H5.out.2
    refine bodyPost_ret (node16_ty.result2 rfl _ (w.heap.size) rfl rfl H5.out.1) rfl ⟨v1, rfl, keep ((H1.out.chg hch fun b hb e => by omega).weak fun _ _ _ => trivial), (fr_step HF0.out HF1.out).step_chg hch fun i e => by omega⟩
end Go.Proofs.YtmoaddbpfekdbaaGreat
