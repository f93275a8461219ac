/- The program's cache: Free, Line. -/
import Derived.Test.YtmoaddbpfekdbaaGreatM31
namespace Go.Proofs.YtmoaddbpfekdbaaGreat
set_option linter.unusedVariables false
set_option linter.unusedSimpArgs false
set_option linter.unusedSectionVars false
set_option maxRecDepth 100000
open Go.RowKit
attribute [local go_sem ↓] want_ld pfr_ld
/-- The cells of a frame as they are made. -/
def zpc : List Value := [.int .i64 0, .int .i64 0, .int .i64 0, .bool false, .bool false, .bool false, .slice none 0 0, .slice none 0 0, .slice none 0 0, .slice none 0 0, .slice none 0 0, .int .i64 0, .slice none 0 0, .int .i64 0]
section
variable {V : Type} [NVal V]
set_option maxHeartbeats 4000000 in
theorem pfreen_at {w : World} {g K : Nat} {h : PH} {t : Ca V} (k : PC w g h K t) (hs : t.fs.length ≤ 100000) :
    Calls Tryz.prog 23 #[.pointer (some ⟨g, 0, none⟩)] w fun e w' => e = .returned (.int .i64 (freeN t.fs : Nat)) ∧ Fr w w' := by
  obtain ⟨hn, -, -⟩ := k.nlen
  obtain ⟨c0, -, -, -, -⟩ := k.cells
  have Hn := keep hn
  have HR := keep k.fs
  have hs' : h.n ≤ 100000 := by omega
  generalize t.fs = l at *
  obtain ⟨A, n, c, m, B, bn, bc, L, ln, lc⟩ := h
  simp only at *
  clear hn k hs
  go_enter Tryz.func23, Tryz.ntmps23
  go_wp2_with fail
  go_loopg [3, 11] n (fun gg s3 s4 wr => ∃ j q : Nat, j + gg = n ∧ s3 = .int .i64 q ∧ s4 = .int .i64 j ∧ q ≤ j ∧ Hid (Fr w wr) ∧ Hid (q = (l.take j).countP fun f => f.st == 0))
  case atStart => exact ⟨0, 0, by omega, rfl, rfl, Nat.le_refl _, keep (fr_refl w), keep rfl⟩
  case round =>
    obtain ⟨j, q, hj, rfl, rfl, hqj, hz, hno⟩ := hrel
    by_cases hlt : j < n
    · have hm : l[j]? = some (l[j]'(by rw [Hn.out]; exact hlt)) := List.getElem?_eq_getElem _
      generalize l[j]'(by rw [Hn.out]; exact hlt) = m at hm
      have hR := HR.out.fr hz.out
      obtain ⟨b, off, rfl, hb1, hr⟩ := has_rows hR.has (pc_wid l) (by decide) (by intro e; rw [e] at hm; simp at hm)
      have lX := elem_ld pfr_ty hr (pc_wid l) hb1 hm
      have Hc := keep (count_upto (p := fun f : Fra V => f.st == 0) hm)
      have hjz : (j : Int) < (n : Int) := by omega
      have wj : IntKind.i64.wrap ((j : Int) + 1) = (j : Int) + 1 := by rw [IntKind.wrap_i64]; omega
      have wq : IntKind.i64.wrap ((q : Int) + 1) = (q : Int) + 1 := by rw [IntKind.wrap_i64]; omega
      have hrr := fr_refl wr
      clear hm hr hlt hR hb1
      by_cases hq : m.st = 0
      · have hzz : ((m.st : Int) == 0) = true := by simp; omega
        have H1 := keep (show q + 1 = (l.take (j + 1)).countP fun f => f.st == 0 by rw [Hc.out, ← hno.out, if_pos (by simpa using hq)])
        clear hq
        go_wp2_with (first
          | (refine wpList_store_at (ds := pc m) pfr_info rfl (.tmp 5) (.tmp 14) rfl wr.heap.size 0 rfl rfl (pc_len m) (pc_one m) (Arr.new wr zpc.toArray 52) (Nat.le_refl 14) (splice_all _ _ (Nat.le_of_eq (pc_len m).symm)) ?_; intro W5 hM5 hk5; have hF5 := keep (hk5.fr (fr_new hrr _) (Nat.le_refl _)); clear hk5; have d0 := hM5.cell 0; simp only [List.getElem?_toArray, pc_0] at d0; clear hM5)
          | fail)
        go_roundg (gk - 1)
        case measure => omega
        case rel => exact ⟨j + 1, q + 1, by omega, rfl, rfl, by omega, keep (fr_step hz.out hF5.out), H1⟩
      · have hzz : ((m.st : Int) == 0) = false := by simp; omega
        have H1 := keep (show q = (l.take (j + 1)).countP fun f => f.st == 0 by rw [Hc.out, ← hno.out, if_neg (by simpa using hq)]; rfl)
        clear hq
        go_wp2_with (first
          | (refine wpList_store_at (ds := pc m) pfr_info rfl (.tmp 5) (.tmp 14) rfl wr.heap.size 0 rfl rfl (pc_len m) (pc_one m) (Arr.new wr zpc.toArray 52) (Nat.le_refl 14) (splice_all _ _ (Nat.le_of_eq (pc_len m).symm)) ?_; intro W5 hM5 hk5; have hF5 := keep (hk5.fr (fr_new hrr _) (Nat.le_refl _)); clear hk5; have d0 := hM5.cell 0; simp only [List.getElem?_toArray, pc_0] at d0; clear hM5)
          | fail)
        go_roundg (gk - 1)
        case measure => omega
        case rel => exact ⟨j + 1, q, by omega, rfl, rfl, by omega, keep (fr_step hz.out hF5.out), H1⟩
    · have hjn : j = n := by omega
      have hjz : ¬ (j : Int) < (n : Int) := by omega
      subst hjn
      have E9 := keep (show q = freeN l by rw [hno.out, ← Hn.out, List.take_length]; rfl)
      clear hlt
      go_wp2_with fail
      go_ret
      rw [← E9.out]
      exact ⟨rfl, hz.out⟩
theorem zsc_new (w : World) : Arr (w.alloc (.cells #[.int .i64 0, .int .i64 0] 93)) w.heap.size 93 (sc (0, 0)).toArray := Arr.new w _ _
set_option maxHeartbeats 4000000 in
theorem pline_at {w : World} {g K : Nat} {h : PH} {t : Ca V} (k : PC w g h K t) (hl : t.line.length ≤ 100000) :
    Calls Tryz.prog 21 #[.pointer (some ⟨g, 0, none⟩)] w fun e w' => ∃ O c, e = .returned (.slice O t.line.length c) ∧ Hid (ResI w w' O t.line.length c (lineC t) ∧ Fr w w') := by
  obtain ⟨-, hm, -⟩ := k.nlen
  obtain ⟨-, -, c2, -, -⟩ := k.cells
  have Hn := keep hm
  have HR := keep k.ln
  rw [hm] at hl ⊢
  unfold lineC
  generalize t.line = l at *
  obtain ⟨A, nn, c, m, B, n, bc, L, ln, lc⟩ := h
  simp only at *
  clear hm k
  go_enter Tryz.func21, Tryz.ntmps21
  go_wp2_with fail
  go_loopg [3, 11] n (fun gg s3 s4 wr => ∃ (j b : Nat) (O : Option Addr), j + gg = n ∧ s3 = .slice O j b ∧ s4 = .int .i64 j ∧ Hid (ResI w wr O j b ((l.take j).map (·.1)) ∧ Fr w wr))
  case atStart => exact ⟨0, 0, none, by omega, rfl, rfl, keep ⟨⟨Rw.nil _ _ _, rfl, fun k hk => by cases hk⟩, fr_refl w⟩⟩
  case round =>
    obtain ⟨j, b, O, hj, rfl, rfl, HI⟩ := hrel
    by_cases hlt : j < n
    · have hm : l[j]? = some (l[j]'(by rw [Hn.out]; exact hlt)) := List.getElem?_eq_getElem _
      generalize l[j]'(by rw [Hn.out]; exact hlt) = m at hm
      have hR := HR.out.fr HI.out.2
      obtain ⟨g', off, rfl, hb1, hr⟩ := has_rows hR.has (sc_wid l) (by decide) (by intro e; rw [e] at hm; simp at hm)
      have lX := elem_ld want_ty hr (sc_wid l) hb1 hm
      have Hm := keep (show (l.take (j + 1)).map (·.1) = (l.take j).map (·.1) ++ [m.1] by rw [List.take_add_one, hm]; simp)
      have hjz : (j : Int) < (n : Int) := by omega
      have wj : IntKind.i64.wrap ((j : Int) + 1) = (j : Int) + 1 := by rw [IntKind.wrap_i64]; omega
      have hrr := fr_refl wr
      clear hm hr hlt hR hb1
      go_wp2_with (first
        | (refine wpList_store_at (ds := sc m) want_info rfl (.tmp 5) (.tmp 14) rfl wr.heap.size 0 rfl rfl rfl (sc_one _) (zsc_new wr) (Nat.le_refl 2) (splice_all _ _ (Nat.le_refl 2)) ?_; intro W5 hM5 hk5; have hF5 := keep (hk5.fr (fr_new hrr _) (Nat.le_refl _)); clear hk5; have d0 := hM5.cell 0; simp only [List.getElem?_toArray, sc, List.getElem?_cons_zero] at d0; clear hM5; have HO := keep (HI.out.1.row.fr (fr_new hF5.out (.cells #[.int .i64 m.1] 3))))
        | (refine wpList_append_rw int_elem ints_under (by decide) rfl (.tmp 15) (.tmp 18) rfl O j b _ rfl HO.out (W5.heap.size + 1) (some ⟨W5.heap.size, 0, none⟩) 1 1 [.int .i64 m.1] rfl rfl (has_new W5 [.int .i64 m.1] 3) (.cons rfl .nil) (by simp only [maxLen]; omega) (by omega) ?_; intro O' b' w3 h3 p3; have H3 := keep (show Rw w3 _ _ _ _ _ _ ∧ Put _ w3 _ _ from ⟨h3, p3⟩); clear h3 p3)
        | fail)
      go_roundg (gk - 1)
      case measure => omega
      case rel =>
        obtain ⟨h3, p3⟩ := H3.out
        have hq := fr_new hF5.out (.cells #[.int .i64 m.1] 3)
        refine ⟨j + 1, b', O', by omega, rfl, rfl, keep ⟨⟨?_, ?_, fun i hi => ?_⟩, ?_⟩⟩
        · rw [Hm.out, rows_append, rows_single]; exact h3
        · rw [Hm.out, List.length_append, HI.out.1.len]; rfl
        · rcases p3.blk i hi with e | e
          · exact HI.out.1.new i e
          · have := HI.out.2.size
            have := hF5.out.size
            simp at e
            omega
        · exact (fr_step HI.out.2 hq).step_chg p3.chg HI.out.1.new
    · have hjn : j = n := by omega
      have hjz : ¬ (j : Int) < (n : Int) := by omega
      subst hjn
      have E9 := keep (show l.take j = l by rw [← Hn.out, List.take_length])
      clear hlt
      go_wp2_with fail
      go_ret
      refine ⟨O, b, rfl, keep ?_⟩
      have := HI.out
      rw [E9.out] at this
      exact this
end
end Go.Proofs.YtmoaddbpfekdbaaGreat
/- The program's cache: freed, loading, claimed; Unpin; asks. -/
namespace Go.Proofs.YtmoaddbpfekdbaaGreat
set_option linter.unusedVariables false
set_option linter.unusedSimpArgs false
set_option linter.unusedSectionVars false
set_option maxRecDepth 100000
open Go.RowKit
attribute [local go_sem ↓] want_ld pfr_ld
theorem zpc_box (w : World) : ∃ Z, w.alloc (.cells #[.int .i64 0, .int .i64 0, .int .i64 0, .bool false, .bool false, .bool false, .slice none 0 0, .slice none 0 0, .slice none 0 0, .slice none 0 0, .slice none 0 0, .int .i64 0, .slice none 0 0, .int .i64 0] 52) = Z ∧ Fr w Z ∧ Arr Z w.heap.size 52 zpc.toArray ∧ Z.heap.size = w.heap.size + 1 := ⟨_, rfl, fr_new (fr_refl w) _, Arr.new w _ _, by simp⟩
section
variable {V : Type} [NVal V]
/-- A frame with no node in it, cell by cell. -/
theorem pc_at0 (s : Nat) (b p : Int) (r d : Bool) (o : Int) : pc (⟨s, b, p, r, d, default, o⟩ : Fra V) = [.int .i64 (s : Int), .int .i64 b, .int .i64 p, .bool r, .bool d, .bool false, .slice none 0 0, .slice none 0 0, .slice none 0 0, .slice none 0 0, .slice none 0 0, .int .i64 (-1), .slice none 0 0, .int .i64 (if s = 3 then o else -1)] := by
  show _ :: _ :: _ :: _ :: _ :: (NVal.nc (default : V) ++ _) = _
  rw [NVal.zero]
  rfl
set_option maxHeartbeats 2000000 in
theorem freed_at (w : World) : Calls Tryz.prog 14 #[] w fun e w' => e = .returned (pv (freeF : Fra V)) ∧ Fr w w' := by
  obtain ⟨Z, hZ, hF, hX, hS⟩ := zpc_box w
  have HF := keep hF
  unfold pv
  rw [show pc (freeF : Fra V) = _ from pc_at0 _ _ _ _ _ _]
  clear hF
  go_enter Tryz.func14, Tryz.ntmps14
  go_wp2_with (first
    | (refine wpList_store_at (ds := [.int .i64 0, .int .i64 (-1), .int .i64 0, .bool false, .bool false, .bool false, .slice none 0 0, .slice none 0 0, .slice none 0 0, .slice none 0 0, .slice none 0 0, .int .i64 (-1), .slice none 0 0, .int .i64 (-1)]) pfr_info rfl (.tmp 0) (.tmp 2) rfl w.heap.size 0 rfl rfl rfl (.cons rfl (.cons rfl (.cons rfl (.cons rfl (.cons rfl (.cons rfl (.cons rfl (.cons rfl (.cons rfl (.cons rfl (.cons rfl (.cons rfl (.cons rfl (.cons rfl .nil)))))))))))))) hX (by decide) (splice_all _ _ (Nat.le_refl 14)) ?_; intro W5 hO5 hk5; have hF5 := keep (hk5.fr HF.out (Nat.le_refl _)); clear hk5)
    | fail)
  exact bodyPost_ret (pfr_ty.result rfl _ w.heap.size rfl rfl hO5) rfl ⟨rfl, hF5.out⟩
set_option maxHeartbeats 2000000 in
theorem loading_at (w : World) (b : Int) : Calls Tryz.prog 55 #[.int .i64 b] w fun e w' => e = .returned (pv (⟨1, b, 1, true, false, default, 0⟩ : Fra V)) ∧ Fr w w' := by
  obtain ⟨Z, hZ, hF, hX, hS⟩ := zpc_box w
  have HF := keep hF
  unfold pv
  rw [pc_at0]
  clear hF
  go_enter Tryz.func55, Tryz.ntmps55
  go_wp2_with (first
    | (refine wpList_store_at (ds := [.int .i64 1, .int .i64 b, .int .i64 1, .bool true, .bool false, .bool false, .slice none 0 0, .slice none 0 0, .slice none 0 0, .slice none 0 0, .slice none 0 0, .int .i64 (-1), .slice none 0 0, .int .i64 (-1)]) pfr_info rfl (.tmp 2) (.tmp 5) rfl w.heap.size 0 rfl rfl rfl (.cons rfl (.cons rfl (.cons rfl (.cons rfl (.cons rfl (.cons rfl (.cons rfl (.cons rfl (.cons rfl (.cons rfl (.cons rfl (.cons rfl (.cons rfl (.cons rfl .nil)))))))))))))) hX (by decide) (splice_all _ _ (Nat.le_refl 14)) ?_; intro W5 hO5 hk5; have hF5 := keep (hk5.fr HF.out (Nat.le_refl _)); clear hk5)
    | fail)
  exact bodyPost_ret (pfr_ty.result rfl _ w.heap.size rfl rfl hO5) rfl ⟨rfl, hF5.out⟩
set_option maxHeartbeats 2000000 in
theorem claimed_at (w : World) (x : Int) : Calls Tryz.prog 56 #[.int .i64 x] w fun e w' => e = .returned (pv (⟨3, -1, 1, false, false, default, x⟩ : Fra V)) ∧ Fr w w' := by
  obtain ⟨Z, hZ, hF, hX, hS⟩ := zpc_box w
  have HF := keep hF
  unfold pv
  rw [pc_at0]
  clear hF
  go_enter Tryz.func56, Tryz.ntmps56
  go_wp2_with (first
    | (refine wpList_store_at (ds := [.int .i64 3, .int .i64 (-1), .int .i64 1, .bool false, .bool false, .bool false, .slice none 0 0, .slice none 0 0, .slice none 0 0, .slice none 0 0, .slice none 0 0, .int .i64 (-1), .slice none 0 0, .int .i64 x]) pfr_info rfl (.tmp 2) (.tmp 5) rfl w.heap.size 0 rfl rfl rfl (.cons rfl (.cons rfl (.cons rfl (.cons rfl (.cons rfl (.cons rfl (.cons rfl (.cons rfl (.cons rfl (.cons rfl (.cons rfl (.cons rfl (.cons rfl (.cons rfl .nil)))))))))))))) hX (by decide) (splice_all _ _ (Nat.le_refl 14)) ?_; intro W5 hO5 hk5; have hF5 := keep (hk5.fr HF.out (Nat.le_refl _)); clear hk5)
    | fail)
  exact bodyPost_ret (pfr_ty.result rfl _ w.heap.size rfl rfl hO5) rfl ⟨rfl, hF5.out⟩
/-- Where a block's frame is, as the plain functions ask. -/
theorem ready_iff {t : Ca V} {x : Int} (p : PI t) : readyI t x = match findB t.fs x with | some i => if (fr t.fs i).st = 2 then some i else none | none => none := by
  unfold readyI
  split
  · rfl
  · next h =>
    cases hf : findB t.fs x with
    | none => rfl
    | some i =>
      obtain ⟨f, h1, h2⟩ := idx_at hf
      unfold isB at h2
      simp at h2
      exact absurd ((p.fr f (List.mem_of_getElem? h1)).1 h2.2) (by rw [h2.1]; exact h)
theorem load_iff {t : Ca V} {x : Int} (p : PI t) : loadI t x = match findB t.fs x with | some i => if (fr t.fs i).st = 1 then some i else none | none => none := by
  unfold loadI
  split
  · rfl
  · next h =>
    cases hf : findB t.fs x with
    | none => rfl
    | some i =>
      obtain ⟨f, h1, h2⟩ := idx_at hf
      unfold isB at h2
      simp at h2
      exact absurd ((p.fr f (List.mem_of_getElem? h1)).1 h2.2) (by rw [h2.1]; exact h)
/-- 'find' of what is ready, both ways. -/
theorem pfind_ready_no {w : World} {g K : Nat} {h : PH} {t : Ca V} (x : Int) (hx : W64 x) (k : PC w g h K t) (p : PI t) (hr : readyI t x = none) :
    Calls Tryz.prog 43 #[.pointer (some ⟨g, 0, none⟩), .int .i64 x, .int .i64 2] w fun e w' => e = .returned (.tuple #[.pointer none, .bool false]) ∧ w = w' := by
  rw [ready_iff p] at hr
  cases hf : findB t.fs x with
  | none => exact pfind_none x 2 hx k hf
  | some i =>
    obtain ⟨f, h1, -⟩ := idx_at hf
    rw [hf] at hr
    simp only [fr_of h1] at hr
    refine pfind_not x 2 hx k hf h1 fun e => ?_
    have : f.st = 2 := by omega
    rw [if_pos this] at hr
    cases hr
theorem ready_find {t : Ca V} {x : Int} {i : Nat} (p : PI t) (hr : readyI t x = some i) : findB t.fs x = some i ∧ ∃ f, t.fs[i]? = some f ∧ f.st = 2 ∧ f.blk = x := by
  have h9 := ready_some hr
  rw [ready_iff p] at hr
  cases hf : findB t.fs x with
  | none => rw [hf] at hr; cases hr
  | some j =>
    rw [hf] at hr
    simp only at hr
    split at hr
    · injection hr with hr
      subst hr
      exact ⟨rfl, h9⟩
    · cases hr
theorem load_find {t : Ca V} {x : Int} {i : Nat} (p : PI t) (hr : loadI t x = some i) : findB t.fs x = some i ∧ ∃ f, t.fs[i]? = some f ∧ f.st = 1 ∧ f.blk = x := by
  have h9 := load_some hr
  rw [load_iff p] at hr
  cases hf : findB t.fs x with
  | none => rw [hf] at hr; cases hr
  | some j =>
    rw [hf] at hr
    simp only at hr
    split at hr
    · injection hr with hr
      subst hr
      exact ⟨rfl, h9⟩
    · cases hr
theorem pfind_load_no {w : World} {g K : Nat} {h : PH} {t : Ca V} (x : Int) (hx : W64 x) (k : PC w g h K t) (p : PI t) (hr : loadI t x = none) :
    Calls Tryz.prog 43 #[.pointer (some ⟨g, 0, none⟩), .int .i64 x, .int .i64 1] w fun e w' => e = .returned (.tuple #[.pointer none, .bool false]) ∧ w = w' := by
  rw [load_iff p] at hr
  cases hf : findB t.fs x with
  | none => exact pfind_none x 1 hx k hf
  | some i =>
    obtain ⟨f, h1, -⟩ := idx_at hf
    rw [hf] at hr
    simp only [fr_of h1] at hr
    refine pfind_not x 1 hx k hf h1 fun e => ?_
    have : f.st = 1 := by omega
    rw [if_pos this] at hr
    cases hr
end
end Go.Proofs.YtmoaddbpfekdbaaGreat
/- A store of one of a row in a region that draws; who asks for a claim. -/
namespace Go.Proofs.YtmoaddbpfekdbaaGreat
set_option linter.unusedVariables false
set_option linter.unusedSimpArgs false
set_option linter.unusedSectionVars false
set_option maxRecDepth 100000
open Go.RowKit
theorem step_store_rw {P : Program} {α : Type} {cf : α → List Value} {w : World} {ops : Array Oper} {o' : Oper} {a : Act} {K : Act → World → Prop} {Q : Exit → Act → World → Prop} {E : Prop} {T size e g o n c j : Nat} {l : List α} {x : α} (hs : (P.info? T).map (·.size) = some size) (hw0 : Region.wanted o' (yielded ops a.tmps) = true) (px py : Operand) (hop : o'.op = .store T px py)
    (hx : a.eval px = .pointer (some ⟨g, o + j * size, none⟩)) (hv : (a.eval py).cells.toList = cf x) (hl : (cf x).length = size) (h1 : One (cf x)) (ho : Rw w e size (some ⟨g, o, none⟩) n c (rows cf l)) (hw : Wid cf size l) (hn : l.length = n) (hj : j < n)
    (hK : ∀ W, Rw W e size (some ⟨g, o, none⟩) n c (rows cf (l.set j x)) → Chg (· = g) w W → K (a.put o'.dst undef) W) : if Region.wanted o' (yielded ops a.tmps) = true then Oper.wp P o' a w K Q else E := by
  obtain ⟨W, hr, h2, h3⟩ := run_store_rw (P := P) hs hv hl h1 ho hw hn hj
  rw [if_pos hw0]
  unfold Oper.wp execOp
  simp only [hop, hx, Instr.storeAt, Instr.sureAddr, Sem.run_bind, Sem.run_pure, Result.andThen_ok, hr]
  exact hK W h2 h3
section
variable {V : Type} [NVal V]
theorem PI.wok {t : Ca V} (p : PI t) : ∀ q ∈ t.line, WOk q := fun q hq => by
  obtain ⟨h1, h2⟩ := p.ln q hq
  refine ⟨tk_64 h1, ?_⟩
  rcases h2 with e | e
  · rw [e]; exact ⟨by decide, by decide⟩
  · exact bl_64 e
theorem ask_claim {t : Ca V} (p : PI t) (x : Int) : unasked t x = !busy t x (-1) := by
  unfold unasked busy
  cases h : stand t.line x with
  | none => simp
  | some q =>
    have hq := (p.ln q (List.mem_of_find?_eq_some h)).2
    have e : decide (q.2 < 0) = (q.2 == -1) := by
      rcases hq with e | e
      · rw [e]; rfl
      · obtain ⟨h1, h2⟩ := okBl_iff.1 e
        have e1 : ¬ q.2 < 0 := by omega
        have e2 : ¬ q.2 = -1 := by omega
        simp [e1, e2]
    show (!(stand t.loads x).isSome && decide (q.2 < 0)) = !((stand t.loads x).isSome || !(q.2 == -1))
    rw [e]
    cases (stand t.loads x).isSome <;> cases q.2 == -1 <;> rfl
end
end Go.Proofs.YtmoaddbpfekdbaaGreat
