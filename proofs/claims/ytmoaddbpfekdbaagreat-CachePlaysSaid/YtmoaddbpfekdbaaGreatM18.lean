/- The document's cache: a store of a part of a frame; what has turned; Unpin. -/
import Derived.Test.YtmoaddbpfekdbaaGreatM17
import Derived.StillTailTactics
namespace Go.Proofs.YtmoaddbpfekdbaaGreat
set_option linter.unusedSectionVars false
set_option linter.unusedVariables false
set_option linter.unusedSimpArgs false
set_option maxRecDepth 100000
open Go.RowKit
/-- A store of a part of one of a row. -/
theorem run_store_frp {P : Program} {α : Type} {cf : α → List Value} {T n' size e g o n c j tt : Nat} {w : World} {l : List α} {x y : α} {ds : List Value} (hs : (P.info? T).map (·.size) = some n') {v : Value} (hv : v.cells.toList = ds) (hl : ds.length = n') (h1 : One ds) (ho : Rw w e size (some ⟨g, o, none⟩) n c (rows cf l)) (hw : Wid cf size l) (hx : l[j]? = some x) (ht : tt + ds.length ≤ size) (hy : splice (cf x) tt ds = cf y) :
    ∃ W, (storeVar T ⟨g, o + j * size + tt, none⟩ v).run P w = .ok () W ∧ Rw W e size (some ⟨g, o, none⟩) n c (rows cf (l.set j y)) ∧ Chg (· = g) w W := by
  obtain ⟨hj, -⟩ := List.getElem?_eq_some_iff.1 hx
  have hn := ho.len
  rw [rows_len hw] at hn
  have h9 : (j + 1) * size ≤ n * size := by rw [← hn]; exact Nat.mul_le_mul_right _ hj
  have h2 : j * size + size = (j + 1) * size := (Nat.succ_mul j size).symm
  obtain ⟨W, hr, h3, h4⟩ := rw_cells (P := P) w ho (j * size + tt) ds h1 (by omega)
  have e1 := rows_patch hw hx ht hy
  refine ⟨W, ?_, ?_, h4⟩
  · have hz : (sizeOf T).run P w = .ok n' w := by
      cases hq : P.info? T with
      | none => simp [hq] at hs
      | some i =>
        have : i.size = n' := by simpa [hq] using hs
        simp [sizeOf, typeInfo, hq, this]
    have hsz : v.cells.size = n' := by rw [← Array.length_toList, hv, hl]
    simp only [storeVar, Sem.run_bind, hz, Result.andThen_ok, hsz, ne_eq, not_true, if_false, hv, Sem.run_pure]
    rw [Nat.add_assoc]
    exact hr
  · rw [← e1]
    unfold splice
    rw [← List.append_assoc]
    exact h3
theorem wpList_store_frp {P : Program} {α : Type} {cf : α → List Value} {w : World} {ops : Array Oper} {rest : List Oper} {o' : Oper} {a : Act} {Q : Exit → Act → World → Prop} {T n' size e g o n c j tt : Nat} {l : List α} {x y : α} {ds : List Value} (hs : (P.info? T).map (·.size) = some n') (hgd : o'.guard = none) (px py : Operand) (hop : o'.op = .store T px py)
    (hp : a.eval px = .pointer (some ⟨g, o + j * size + tt, none⟩)) (hv : (a.eval py).cells.toList = ds) (hl : ds.length = n') (h1 : One ds) (ho : Rw w e size (some ⟨g, o, none⟩) n c (rows cf l)) (hw : Wid cf size l) (hx : l[j]? = some x) (ht : tt + ds.length ≤ size) (hy : splice (cf x) tt ds = cf y)
    (h : ∀ W, Rw W e size (some ⟨g, o, none⟩) n c (rows cf (l.set j y)) → Chg (· = g) w W → wpList P ops Q rest (a.put o'.dst undef) W) : wpList P ops Q (o' :: rest) a w := by
  obtain ⟨W, hr, h2, h3⟩ := run_store_frp (P := P) hs hv hl h1 ho hw hx ht hy
  refine wpList_plain hgd fun K hK => ?_
  unfold Oper.wp execOp
  simp only [hop, hp, Instr.storeAt, Instr.sureAddr, Sem.run_bind, Sem.run_pure, Result.andThen_ok, hr]
  exact hK _ _ (h W h2 h3)
theorem modify_set {α : Type} {l : List α} {i : Nat} {x : α} (h : l[i]? = some x) (q : α → α) : l.modify i q = l.set i (q x) := by
  refine List.ext_getElem? fun j => ?_
  rw [List.getElem?_modify, List.getElem?_set]
  by_cases e : i = j
  · subst e
    obtain ⟨hj, -⟩ := List.getElem?_eq_some_iff.1 h
    rw [h]; simp [hj]
  · simp [e]
section
variable {V : Type} [NVal V]
/-- A cache that had the blocks Y has turned into t. -/
def DTurn (w w' : World) (Y : Nat → Prop) (g : Nat) (t : Ca V) : Prop :=
  ∃ h, DC w' g h t ∧ Chg Y w w' ∧ ∀ k, CHX g h k → Y k ∨ w.heap.size ≤ k
section
variable {w W : World} {g : Nat} {h : CH} {t u : Ca V} {Y : Nat → Prop}
theorem DTurn.trans {a b c : World} (k : DTurn a b Y g t) (f : ∀ h, DC b g h t → DTurn b c (CHX g h) g u) : DTurn a c Y g u := by
  obtain ⟨h1, k1, k2, k3⟩ := k
  obtain ⟨h2, l1, l2, l3⟩ := f h1 k1
  refine ⟨h2, l1, k2.trans' l2 fun i hi hx => ?_, fun i hi => ?_⟩
  · rcases k3 i hx with e | e
    · exact e
    · omega
  · rcases l3 i hi with e | e
    · exact k3 i e
    · exact .inr (Nat.le_trans k2.size e)
theorem DTurn.same (k : DC w g h t) (f : Fr w W) (hy : ∀ i, CHX g h i → Y i) : DTurn w W Y g t := ⟨h, k.fr f, .of_fr _ f, fun i hi => .inl (hy i hi)⟩
theorem DTurn.of (k : DC W g h t) (f : Chg (CHX g h) w W) : DTurn w W (CHX g h) g t := ⟨h, k, f, fun _ hk => .inl hk⟩
/-- Frames laid anew where they lay. -/
theorem DC.frames {fs' : List (Fra V)} (k : DC w g h t) (hr : Rw W 63 11 h.A h.n h.c (rows fc fs')) (f : Chg (At h.A) w W) : DC W g h { t with fs := fs' } :=
  ⟨k.box.chg f k.ng.1, hr, k.ln.chg f fun b hb ha => (k.nA ha).1 hb, k.ld.chg f fun b hb ha => (k.nA ha).2 hb, k.ap⟩
theorem DC.framesT {fs' : List (Fra V)} (k : DC w g h t) (hr : Rw W 63 11 h.A h.n h.c (rows fc fs')) (f : Chg (At h.A) w W) : DTurn w W (CHX g h) g { t with fs := fs' } :=
  .of (k.frames hr f) (f.weak fun i _ hi => .inr (.inl hi))
end
def PinsOk (t : Ca V) : Prop := ∀ f ∈ t.fs, 0 ≤ f.pins ∧ f.pins ≤ 4611686018427387904
omit [NVal V] in
theorem PinsOk.at {t : Ca V} (h : PinsOk t) {i : Nat} {f : Fra V} (hf : t.fs[i]? = some f) : 0 ≤ f.pins ∧ f.pins ≤ 4611686018427387904 := h f (List.mem_of_getElem? hf)
theorem int_info16 : (Tryz.prog.info? 3).map (·.size) = some 1 := by kernel_rfl
theorem ready_some {t : Ca V} {x : Int} {i : Nat} (h : readyI t x = some i) : ∃ f, t.fs[i]? = some f ∧ f.st = 2 ∧ f.blk = x := by
  unfold readyI at h
  split at h
  · cases hf : findB t.fs x with
    | none => rw [hf] at h; cases h
    | some j =>
      rw [hf] at h
      obtain ⟨f, h1, h2⟩ := idx_at hf
      simp only [fr_of h1] at h
      split at h
      · injection h with h
        subst h
        refine ⟨f, h1, by assumption, ?_⟩
        unfold isB at h2
        simp at h2
        exact h2.1
      · cases h
  · cases h
set_option maxHeartbeats 4000000 in
theorem dunpin_at {w : World} {g : Nat} {h : CH} {t : Ca V} (x : Int) (k : DC w g h t) (hs : t.fs.length ≤ 100000) (hp : PinsOk t) :
    Calls Tryz.prog 34 #[.pointer (some ⟨g, 0, none⟩), .int .i64 x] w fun e w' => e = .returned (.bool (unpinC t x).1) ∧ Hid (DTurn w w' (CHX g h) g (unpinC t x).2) := by
  have cR := dready_at x k hs
  have HK := keep k
  unfold unpinC
  cases hr : readyI t x with
  | none =>
    rw [hr] at cR
    have CR := keep (show Calls _ _ _ _ fun e w' => e = .returned (.int .i64 (-1)) ∧ w = w' from cR)
    clear cR k hs hr
    go_enter Tryz.func34, Tryz.ntmps34
    go_wp2_with (first
      | (go_at_call 45; with_reducible refine CR.out.mono ?_; rintro e w2 ⟨rfl, rfl⟩)
      | fail)
    go_ret
    exact ⟨rfl, keep (.same HK.out (fr_refl w) fun _ => id)⟩
  | some i =>
    rw [hr] at cR
    obtain ⟨f, hfi, -, -⟩ := ready_some hr
    have hpb := hp.at hfi
    obtain ⟨hn, -, -⟩ := k.nlen
    obtain ⟨c0, -, -, -⟩ := k.cells
    have hil : i < h.n := by rw [← hn]; exact (List.getElem?_eq_some_iff.1 hfi).1
    obtain ⟨b, off, hA, hb1, hc⟩ := frame_cells k.fs.has (Nat.le_refl _) hfi
    obtain ⟨-, -, lX, -⟩ := hc w (fr_refl w)
    have hR := k.fs
    rw [hA] at hR
    rw [hA] at c0
    have CR := keep (show Calls _ _ _ _ fun e w' => e = .returned (.int .i64 (i : Int)) ∧ w = w' from cR)
    have hi0 : ¬ ((i : Int) < 0) := by omega
    have hiz : (i : Int) < (h.n : Int) := by omega
    have HR := keep hR
    have HF := keep hfi
    have HA := keep hA
    simp only [fr_of hfi]
    clear cR k hs hr hR hA hn hfi hc hil hb1
    by_cases h0 : f.pins = 0
    · have hz : (f.pins == 0) = true := by simpa using h0
      rw [if_pos h0]
      clear h0
      go_enter Tryz.func34, Tryz.ntmps34
      go_wp2_with (first
        | (go_at_call 45; with_reducible refine CR.out.mono ?_; rintro e w2 ⟨rfl, rfl⟩)
        | fail)
      go_ret
      exact ⟨rfl, keep (.same HK.out (fr_refl w) fun _ => id)⟩
    · have hz : (f.pins == 0) = false := by simpa using h0
      have wp : IntKind.i64.wrap (f.pins - 1) = f.pins - 1 := by rw [IntKind.wrap_i64]; omega
      rw [if_neg h0]
      clear h0 hpb
      go_enter Tryz.func34, Tryz.ntmps34
      go_wp2_with (first
        | (go_at_call 45; with_reducible refine CR.out.mono ?_; rintro e w2 ⟨rfl, rfl⟩)
        | fail)
      go_still_tail 16, (by kernel_rfl)
      change wpList _ _ _ _ _ w.drew
      have HD := keep (HR.out.fr (fr_drew (fr_refl w)))
      generalize hwd : w.drew = wd at *
      go_wp2_with (first
        | (refine wpList_store_frp (cf := fc) (l := t.fs) (j := i) (x := f) (y := { f with pins := f.pins - 1 }) (tt := 2) (ds := [.int .i64 (f.pins - 1)]) int_info16 rfl (.tmp 37) (.tmp 35) rfl rfl rfl rfl (.cons rfl .nil) HD.out (fc_wid _) HF.out (by simp) rfl ?_; intro W1 h1 h2; have H1 := keep (show Rw W1 _ _ _ _ _ _ ∧ Chg _ wd W1 from ⟨h1, h2⟩); clear h1 h2)
        | fail)
      go_ret
      refine ⟨rfl, keep ?_⟩
      obtain ⟨h1, h2⟩ := H1.out
      have hF := fr_drew (fr_refl w)
      rw [hwd] at hF
      rw [modify_set HF.out]
      refine HK.out.framesT (by rw [HA.out]; exact h1) (((Chg.of_fr _ hF).trans h2).weak fun j _ hj => by rw [HA.out]; exact congrArg some hj.symm)
end
end Go.Proofs.YtmoaddbpfekdbaaGreat
/- The document's cache: Set. -/
namespace Go.Proofs.YtmoaddbpfekdbaaGreat
set_option linter.unusedSectionVars false
set_option linter.unusedVariables false
set_option linter.unusedSimpArgs false
set_option maxRecDepth 100000
open Go.RowKit
theorem node16_ty : Sty Tryz.prog 41 5 := ⟨by kernel_rfl, ⟨_, Tryz.underlying41, rfl⟩⟩
theorem node16_info : (Tryz.prog.info? 41).map (·.size) = some 5 := by kernel_rfl
theorem node16_ld (p : Value) : Instr.loadAt 41 p = ldS 41 p := rfl
theorem bool_info16 : (Tryz.prog.info? 4).map (·.size) = some 1 := by kernel_rfl
section
variable {V : Type} [NVal V]
/-- A node as a value. -/
def ncv (v : V) : Value := .agg (NVal.nc v).toArray
/-- A node that is boxed. -/
theorem node16_box (w : World) (v : V) : ∃ W, w.alloc (.cells (NVal.nc v).toArray 41) = W ∧ Fr w W ∧ Fr W W ∧ Arr W w.heap.size 41 (NVal.nc v).toArray ∧ W.heap.size = w.heap.size + 1 := ⟨_, rfl, fr_new (fr_refl w) _, fr_refl _, Arr.new w _ _, by simp⟩
theorem fc_put_node (f : Fra V) (v : V) : splice (fc f) 5 (NVal.nc v) = fc { f with node := v } := by
  have h1 := NVal.len f.node
  have h2 := NVal.len v
  unfold splice
  rw [h2]
  show [Value.int .i64 (f.st : Int), .int .i64 f.blk, .int .i64 f.pins, .bool f.ref, .bool f.dirty] ++ (NVal.nc v ++ (NVal.nc f.node ++ [Value.int .i64 f.own]).drop 5) = _
  rw [← h1, List.drop_left]
  rfl
attribute [local go_sem ↓] node16_ld
set_option maxHeartbeats 4000000 in
theorem dset_at {w : World} {g : Nat} {h : CH} {t : Ca V} (x : Int) (v : V) (k : DC w g h t) (hs : t.fs.length ≤ 100000) :
    Calls Tryz.prog 36 #[.pointer (some ⟨g, 0, none⟩), .int .i64 x, ncv v] w fun e w' => e = .returned (.bool (setC t x v).1) ∧ Hid (DTurn w w' (CHX g h) g (setC t x v).2) := by
  obtain ⟨Z, hZ, hF, hZZ, hX, hS⟩ := node16_box w v
  have kZ := k.fr hF
  have cR := dready_at x kZ hs
  have HK := keep kZ
  have HF0 := keep hF
  have lN : (ldS 41 (.pointer (some ⟨w.heap.size, 0, none⟩))).run Tryz.prog Z.drew = .ok (.agg (NVal.nc v).toArray) Z.drew := node16_ty.ld (w := Z.drew) (NVal.len v) hX.drew
  unfold setC
  cases hr : readyI t x with
  | none =>
    rw [hr] at cR
    have CR := keep (show Calls _ _ _ _ fun e w' => e = .returned (.int .i64 (-1)) ∧ Z = w' from cR)
    clear cR k hs hr kZ hF hX lN
    unfold ncv
    go_enter Tryz.func36, Tryz.ntmps36
    go_wp2_with (first
      | (go_at_call 45; with_reducible refine CR.out.mono ?_; rintro e w2 ⟨rfl, rfl⟩)
      | fail)
    go_ret
    exact ⟨rfl, keep ⟨h, HK.out, .of_fr _ HF0.out, fun i hi => .inl hi⟩⟩
  | some i =>
    rw [hr] at cR
    obtain ⟨f, hfi, -, -⟩ := ready_some hr
    obtain ⟨hn, -, -⟩ := k.nlen
    obtain ⟨c0, -, -, -⟩ := kZ.cells
    have hil : i < h.n := by rw [← hn]; exact (List.getElem?_eq_some_iff.1 hfi).1
    obtain ⟨b, off, hA, hb1, hc⟩ := frame_cells kZ.fs.has (Nat.le_refl _) hfi
    have hR := kZ.fs
    have hbg : ¬ g = b := fun e => kZ.ng.1 (by rw [hA, e]; rfl)
    have hbx : ¬ w.heap.size = b := fun e => absurd (k.fs.lt b (by rw [hA]; rfl)) (by omega)
    have hgx : Z.cell? ⟨g, 0, none⟩ = some (.slice h.A h.n h.c) := c0
    rw [hA] at hR c0
    have CR := keep (show Calls _ _ _ _ fun e w' => e = .returned (.int .i64 (i : Int)) ∧ Z = w' from cR)
    have hi0 : ¬ ((i : Int) < 0) := by omega
    have hiz : (i : Int) < (h.n : Int) := by omega
    have HR := keep hR
    have HF := keep hfi
    have HA := keep hA
    have HB := keep hbg
    have HS := keep kZ.box
    have hl1 := NVal.len v
    have hL1 := keep hl1
    clear cR k hs hr hR hA hn hil hb1 hc hgx hX hF hbx kZ hl1
    unfold ncv
    go_enter Tryz.func36, Tryz.ntmps36
    go_wp2_with (first
      | (go_at_call 45; with_reducible refine CR.out.mono ?_; rintro e w2 ⟨rfl, rfl⟩)
      | fail)
    go_still_tail 8, (by kernel_rfl)
    change wpList _ _ _ _ _ Z.drew
    have HD := keep (HR.out.fr (fr_drew (fr_refl Z)))
    have HFD := keep (fr_drew (fr_refl Z))
    have HSD := keep (HS.out.chg (.of_fr (fun _ => False) (fr_drew (fr_refl Z))) id)
    clear c0 lN
    generalize Z.drew = wd at *
    go_wp2_with (first
      | (refine wpList_store_frp (cf := fc) (l := t.fs) (j := i) (x := f) (y := { f with node := v }) (tt := 5) (ds := NVal.nc v) node16_info rfl (.tmp 20) (.tmp 18) rfl rfl rfl hL1.out (NVal.one v) HD.out (fc_wid _) HF.out (by rw [hL1.out]; decide) (fc_put_node f v) ?_; intro W1 h1 h2; have H1 := keep (show Rw W1 _ _ _ _ _ _ ∧ Chg _ wd W1 from ⟨h1, h2⟩); have c0 : W1.cell? ⟨g, 0, none⟩ = some (.slice (some ⟨b, off, none⟩) h.n h.c) := by { rw [← HA.out]; have := (HSD.out.chg h2 (fun e => HB.out e)).cell 0; simpa using this }; clear h1 h2)
      | (refine wpList_store_frp (cf := fc) (l := t.fs.set i { f with node := v }) (j := i) (x := { f with node := v }) (y := { f with node := v, dirty := true }) (tt := 4) (ds := [.bool true]) bool_info16 rfl (.tmp 27) (.const (.bool true)) rfl rfl rfl rfl (.cons rfl .nil) H1.out.1 (fc_wid _) (List.getElem?_set_self (List.getElem?_eq_some_iff.1 HF.out).1) (by simp) rfl ?_; intro W2 h1 h2; have H2 := keep (show Rw W2 _ _ _ _ _ _ ∧ Chg _ W1 W2 from ⟨h1, h2⟩); clear h1 h2)
      | fail)
    go_ret
    refine ⟨rfl, keep ?_⟩
    obtain ⟨h1, h2⟩ := H1.out
    obtain ⟨h3, h4⟩ := H2.out
    rw [modify_set HF.out]
    rw [List.set_set] at h3
    have hch : Chg (At h.A) Z W2 := (((Chg.of_fr _ HFD.out).trans h2).trans h4).weak fun j _ hj => by rw [HA.out]; exact congrArg some hj.symm
    have := HK.out.frames (W := W2) (by rw [HA.out]; exact h3) hch
    exact ⟨h, this, ((Chg.of_fr _ HF0.out).trans hch).weak fun i _ hi => .inr (.inl hi), fun _ hi => .inl hi⟩
end
end Go.Proofs.YtmoaddbpfekdbaaGreat
/- The document's cache: Node. -/
namespace Go.Proofs.YtmoaddbpfekdbaaGreat
set_option linter.unusedSectionVars false
set_option linter.unusedVariables false
set_option linter.unusedSimpArgs false
set_option maxRecDepth 100000
open Go.RowKit
section
variable {V : Type} [NVal V]
theorem zero16_box (w : World) : ∃ W, w.alloc (.cells #[.bool false, .slice none 0 0, .slice none 0 0, .slice none 0 0, .slice none 0 0] 41) = W ∧ Fr w W ∧ Fr W W ∧ Arr W w.heap.size 41 [Value.bool false, .slice none 0 0, .slice none 0 0, .slice none 0 0, .slice none 0 0].toArray ∧ W.heap.size = w.heap.size + 1 := ⟨_, rfl, fr_new (fr_refl w) _, fr_refl _, Arr.new w _ _, by simp⟩
attribute [local go_sem ↓] node16_ld
set_option maxHeartbeats 4000000 in
theorem dnode_at {w : World} {g : Nat} {h : CH} {t : Ca V} (x : Int) (k : DC w g h t) (hs : t.fs.length ≤ 100000) :
    Calls Tryz.prog 11 #[.pointer (some ⟨g, 0, none⟩), .int .i64 x] w fun e w' => e = .returned (.tuple #[ncv (nodC t x).1, .bool (nodC t x).2]) ∧ Fr w w' := by
  obtain ⟨Z, hZ, hF, hZZ, hX, hS⟩ := zero16_box w
  have kZ := k.fr hF
  have cR := dready_at x kZ hs
  have HX := keep hX
  have HF0 := keep hF
  unfold nodC
  cases hr : readyI t x with
  | none =>
    rw [hr] at cR
    have CR := keep (show Calls _ _ _ _ fun e w' => e = .returned (.int .i64 (-1)) ∧ Z = w' from cR)
    clear cR k hs hr kZ hF hX
    go_enter Tryz.func11, Tryz.ntmps11
    go_wp2_with (first
      | (go_at_call 45; with_reducible refine CR.out.mono ?_; rintro e w2 ⟨rfl, rfl⟩)
      | (refine wpList_store_at (ds := [Value.bool false, .slice none 0 0, .slice none 0 0, .slice none 0 0, .slice none 0 0]) node16_info rfl (.tmp 4) (.tmp 12) rfl w.heap.size 0 rfl rfl rfl (.cons rfl (.cons rfl (.cons rfl (.cons rfl (.cons rfl .nil))))) HX.out (by decide) (splice_all _ _ (by decide)) ?_; intro W5 hO5 hk5; have hF5 := keep (hk5.fr HF0.out (Nat.le_refl _)); clear hk5)
      | fail)
    refine bodyPost_ret (node16_ty.result2 rfl _ (w.heap.size) rfl rfl hO5) rfl ⟨?_, hF5.out⟩
    unfold ncv
    rw [NVal.zero]
    rfl
  | some i =>
    rw [hr] at cR
    obtain ⟨f, hfi, -, -⟩ := ready_some hr
    obtain ⟨hn, -, -⟩ := k.nlen
    obtain ⟨c0, -, -, -⟩ := kZ.cells
    have hil : i < h.n := by rw [← hn]; exact (List.getElem?_eq_some_iff.1 hfi).1
    obtain ⟨b, off, hA, hb1, hr2⟩ := has_rows kZ.fs.has (fc_wid t.fs) (by decide) (by intro e; rw [e] at hfi; simp at hfi)
    have lX := elem_part node16_ty hr2 (fc_wid t.fs) hb1 hfi (fc_node f) (NVal.len _) Z hZZ
    rw [hA] at c0
    have CR := keep (show Calls _ _ _ _ fun e w' => e = .returned (.int .i64 (i : Int)) ∧ Z = w' from cR)
    have hi0 : ¬ ((i : Int) < 0) := by omega
    have hiz : (i : Int) < (h.n : Int) := by omega
    simp only [fr_of hfi]
    have hl := NVal.len f.node
    have HL := keep hl
    clear cR k hs hr hA hn hil hb1 hr2 hX hF kZ hfi hl
    go_enter Tryz.func11, Tryz.ntmps11
    go_wp2_with (first
      | (go_at_call 45; with_reducible refine CR.out.mono ?_; rintro e w2 ⟨rfl, rfl⟩)
      | (refine wpList_store_at (ds := NVal.nc f.node) node16_info rfl (.tmp 4) (.tmp 20) rfl w.heap.size 0 rfl rfl HL.out (NVal.one _) HX.out (by decide) (splice_all _ _ (by rw [HL.out]; decide)) ?_; intro W5 hO5 hk5; have hF5 := keep (hk5.fr HF0.out (Nat.le_refl _)); clear hk5)
      | fail)
    exact bodyPost_ret (node16_ty.result2 rfl _ (w.heap.size) rfl HL.out hO5) rfl ⟨rfl, hF5.out⟩
end
end Go.Proofs.YtmoaddbpfekdbaaGreat
