/- The document's cache: Frames. -/
import Derived.Test.YtmoaddbpfekdbaaGreatM24
import Derived.StillTailTactics
namespace Go.Proofs.YtmoaddbpfekdbaaGreat
set_option linter.unusedVariables false
set_option linter.unusedSimpArgs false
set_option linter.unusedSectionVars false
set_option maxRecDepth 100000
open Go.RowKit
theorem aframe_elem : Elem Tryz.prog 50 13 192 := Elem.of (z := .agg #[.int .i64 0, .int .i64 0, .int .i64 0, .bool false, .bool false, .bool false, .slice none 0 0, .slice none 0 0, .slice none 0 0, .slice none 0 0, .slice none 0 0, .int .i64 0, .slice none 0 0]) (by kernel_rfl) (by kernel_rfl) (by kernel_rfl) rfl
theorem aframes_und : Tryz.prog.underlying 71 = some (.slice 50) := Tryz.underlying71
section
variable {V : Type} [NVal V]
/-- A frame as it is told: its thirteen cells. -/
def fac (f : Fra V) : List Value := .int .i64 (f.st : Int) :: .int .i64 f.blk :: .int .i64 f.pins :: .bool f.ref :: .bool f.dirty :: (NVal.nc f.node ++ [.slice none 0 0, .int .i64 (-1), .slice none 0 0])
theorem fac_len (f : Fra V) : (fac f).length = 13 := by simp [fac, NVal.len]
theorem fac_wid (l : List (Fra V)) : Wid fac 13 l := fun f _ => fac_len f
theorem fac_one (f : Fra V) : One (fac f) := .cons rfl (.cons rfl (.cons rfl (.cons rfl (.cons rfl (.app (NVal.one _) (.cons rfl (.cons rfl (.cons rfl .nil))))))))
structure ResA (w W : World) (O : Option Addr) (n c : Nat) (l : List (Fra V)) : Prop where
  row : Rw W 50 13 O n c (rows fac l)
  len : l.length = n
  new : ∀ k, At O k → w.heap.size ≤ k
attribute [local go_sem ↓] frame_ld node16_ld
set_option maxHeartbeats 16000000 in
theorem dframes_at {w : World} {g : Nat} {h : CH} {t : Ca V} (k : DC w g h t) (hs : t.fs.length ≤ 100000) :
    Calls Tryz.prog 38 #[.pointer (some ⟨g, 0, none⟩)] w fun e w' => ∃ O n c, e = .returned (.slice O n c) ∧ Hid (ResA w w' O n c t.fs ∧ Fr w w') := by
  obtain ⟨hn, -, -⟩ := k.nlen
  obtain ⟨c0, -, -, -⟩ := k.cells
  have HK := keep k
  have Hn := keep hn
  have HGW := keep k.box.lt
  have HC0 := keep c0
  have hs' : h.n ≤ 100000 := by omega
  clear k hn hs c0
  go_enter Tryz.func38, Tryz.ntmps38
  go_wp2_with fail
  go_loopg [3, 4] h.n (fun gg s3 s4 wr => ∃ (j b : Nat) (O : Option Addr), j + gg = h.n ∧ s3 = .slice O j b ∧ s4 = .int .i64 j ∧ Hid (ResA w wr O j b (t.fs.take j) ∧ Fr w wr))
  case atStart => exact ⟨0, 0, none, by omega, rfl, rfl, keep ⟨⟨Rw.nil _ _ _, rfl, fun k hk => by cases hk⟩, fr_refl w⟩⟩
  case round =>
    obtain ⟨j, b, O, hj, rfl, rfl, HI⟩ := hrel
    have c0 : wr.cell? ⟨g, 0, none⟩ = some (.slice h.A h.n h.c) := (HI.out.2.cell HGW.out).trans HC0.out
    by_cases hlt : j < h.n
    · have hm : t.fs[j]? = some (t.fs[j]'(by rw [Hn.out]; exact hlt)) := List.getElem?_eq_getElem _
      generalize t.fs[j]'(by rw [Hn.out]; exact hlt) = m at hm
      obtain ⟨bb, off, hA, hb1, hr⟩ := has_rows (HK.out.fr HI.out.2).fs.has (fc_wid t.fs) (by decide) (by intro e; rw [e] at hm; simp at hm)
      have lF := elem_ld frame_ty hr (fc_wid t.fs) hb1 hm wr (fr_refl wr)
      obtain ⟨n0, n1, n2, n3, n4, hv⟩ := nc_five m.node
      have hfc : fc m = [.int .i64 (m.st : Int), .int .i64 m.blk, .int .i64 m.pins, .bool m.ref, .bool m.dirty, n0, n1, n2, n3, n4, .int .i64 m.own] := by unfold fc; rw [hv]; rfl
      have hfa : fac m = [.int .i64 (m.st : Int), .int .i64 m.blk, .int .i64 m.pins, .bool m.ref, .bool m.dirty, n0, n1, n2, n3, n4, .slice none 0 0, .int .i64 (-1), .slice none 0 0] := by unfold fac; rw [hv]; rfl
      have HFC := keep hfc
      have HFA := keep hfa
      obtain ⟨Z3, hZ3, hF3, -, hX3, hS3⟩ := frz_box wr
      have HX3 := keep hX3
      have HF3 := keep hF3
      have hzb : wr.heap.size < Z3.heap.size := by omega
      have HZB := keep hzb
      have HN := keep (show [n0, n1, n2, n3, n4].length = 5 from rfl)
      have HL := keep (show t.fs.take (j + 1) = t.fs.take j ++ [m] by
        obtain ⟨hj2, e⟩ := List.getElem?_eq_some_iff.1 hm
        rw [List.take_succ_eq_append_getElem hj2, e])
      have hjz : (j : Int) < (h.n : Int) := by omega
      have wj : IntKind.i64.wrap ((j : Int) + 1) = (j : Int) + 1 := by rw [IntKind.wrap_i64]; omega
      have hone : One [Value.int .i64 (m.st : Int), .int .i64 m.blk, .int .i64 m.pins, .bool m.ref, .bool m.dirty, n0, n1, n2, n3, n4, .int .i64 m.own] := by rw [← hfc]; exact fc_one m
      have HO1 := keep hone
      rw [hfc] at lF
      rw [hA] at c0
      clear hm hr hlt hb1 hv hfc hfa hX3 hF3 hzb hone hA
      go_wp2_with (first
        | (refine wpList_store_chg frame_info rfl (.tmp 5) (.tmp 21) rfl wr.heap.size 0 rfl (ds := [.int .i64 (m.st : Int), .int .i64 m.blk, .int .i64 m.pins, .bool m.ref, .bool m.dirty, n0, n1, n2, n3, n4, .int .i64 m.own]) rfl rfl HO1.out HX3.out (by simp) (cs' := [.int .i64 (m.st : Int), .int .i64 m.blk, .int .i64 m.pins, .bool m.ref, .bool m.dirty, n0, n1, n2, n3, n4, .int .i64 m.own]) (splice_all _ _ (by simp)) ?_; intro W4 h1 h2; have H4 := keep (And.intro h1 h2); have e0 : W4.cell? ⟨wr.heap.size, 0, none⟩ = some (.int .i64 (m.st : Int)) := h1.cell 0; have e1 : W4.cell? ⟨wr.heap.size, 1, none⟩ = some (.int .i64 m.blk) := h1.cell 1; have e2 : W4.cell? ⟨wr.heap.size, 2, none⟩ = some (.int .i64 m.pins) := h1.cell 2; have e3 : W4.cell? ⟨wr.heap.size, 3, none⟩ = some (.bool m.ref) := h1.cell 3; have e4 : W4.cell? ⟨wr.heap.size, 4, none⟩ = some (.bool m.dirty) := h1.cell 4; have e5 : (ldS 41 (.pointer (some ⟨wr.heap.size, 5, none⟩))).run Tryz.prog W4 = .ok (.agg #[n0, n1, n2, n3, n4]) W4 := node16_ty.ldMid rfl (range_of_arr h1 (o := 5) (ds := [n0, n1, n2, n3, n4]) rfl); have HO4 := keep (((HI.out.1.row.fr HF3.out).chg h2 (fun a ha e => by have := HI.out.1.row.lt a ha; omega)).fr (fr_new (fr_refl W4) (.cells (fac m).toArray 50))); rw [HFA.out] at HO4; clear h1 h2 c0 lF)
        | (refine wpList_append_rw aframe_elem aframes_und (by decide) rfl (.tmp 22) (.tmp 36) rfl O j b (rows fac (t.fs.take j)) rfl HO4.out (W4.heap.size + 1) (some ⟨W4.heap.size, 0, none⟩) 1 1 (fac m) rfl (fac_len m) (by rw [HFA.out]; exact has_new W4 _ 50) (fac_one m) (by simp only [maxLen]; omega) (by omega) ?_; intro O' b' w5 h3 p3; have H5 := keep (And.intro h3 p3); clear h3 p3)
        | fail)
      go_roundg (gk - 1)
      case measure => omega
      case rel =>
        obtain ⟨h3, p3⟩ := H5.out
        obtain ⟨i1, i2⟩ := HI.out
        have s1 := H4.out.2.size
        have s2 := HF3.out.size
        have s3 := i2.size
        have f4 : Fr w W4 := (fr_step i2 HF3.out).step_chg H4.out.2 fun i e => by rw [e]; exact s3
        refine ⟨j + 1, b', O', by omega, rfl, rfl, keep ⟨⟨?_, ?_, fun a ha => ?_⟩, ?_⟩⟩
        · rw [HL.out, rows_append, rows_single]; exact h3
        · rw [HL.out, List.length_append, i1.len]; rfl
        · rcases p3.blk a ha with e | e
          · exact i1.new a e
          · simp at e
            omega
        · exact (fr_new f4 _).step_chg p3.chg i1.new
    · have hjn : j = h.n := by omega
      have hjz : ¬ (j : Int) < (h.n : Int) := by omega
      subst hjn
      have E9 := keep (show t.fs.take h.n = t.fs by rw [← Hn.out, List.take_length])
      clear hlt
      go_wp2_with fail
      go_ret
      refine ⟨O, h.n, b, rfl, keep ?_⟩
      have := HI.out
      rw [E9.out] at this
      exact this
end
end Go.Proofs.YtmoaddbpfekdbaaGreat
/- The document's cache: SameFrame, of frames that are alike. -/
namespace Go.Proofs.YtmoaddbpfekdbaaGreat
set_option linter.unusedVariables false
set_option linter.unusedSimpArgs false
set_option linter.unusedSectionVars false
set_option maxRecDepth 100000
open Go.RowKit
section
variable {V : Type} [NVal V]
attribute [local go_sem ↓] node16_ld
set_option maxHeartbeats 4000000 in
theorem dsame_at {w : World} {f1 f2 : Fra V} (h1 : f1.st = f2.st) (h2 : f1.blk = f2.blk) (h3 : f1.pins = f2.pins) (h4 : f1.ref = f2.ref) (h5 : f1.dirty = f2.dirty)
    (cS : ∀ W, Fr w W → Calls Tryz.prog 12 #[ncv f1.node, ncv f2.node] W fun e w' => e = .returned (.bool true) ∧ Fr w w') :
    Calls Tryz.prog 41 #[.agg (fac f1).toArray, .agg (fac f2).toArray] w fun e w' => e = .returned (.bool true) ∧ Fr w w' := by
  obtain ⟨m0, m1, m2, m3, m4, hv⟩ := nc_five f1.node
  obtain ⟨n0, n1, n2, n3, n4, hu⟩ := nc_five f2.node
  unfold ncv at cS
  have hf1 : fac f1 = [.int .i64 (f2.st : Int), .int .i64 f2.blk, .int .i64 f2.pins, .bool f2.ref, .bool f2.dirty, m0, m1, m2, m3, m4, .slice none 0 0, .int .i64 (-1), .slice none 0 0] := by unfold fac; rw [hv, h1, h2, h3, h4, h5]; rfl
  have hf2 : fac f2 = [.int .i64 (f2.st : Int), .int .i64 f2.blk, .int .i64 f2.pins, .bool f2.ref, .bool f2.dirty, n0, n1, n2, n3, n4, .slice none 0 0, .int .i64 (-1), .slice none 0 0] := by unfold fac; rw [hu]; rfl
  rw [hf1, hf2]
  rw [hv, hu] at cS
  obtain ⟨st, bk, ps, rf, dt, nn, oo⟩ := f2
  simp only at *
  obtain ⟨Y, hY, hF1, hA1, hs1⟩ : ∃ Y, w.alloc (.cells [Value.int .i64 (st : Int), .int .i64 bk, .int .i64 ps, .bool rf, .bool dt, m0, m1, m2, m3, m4, .slice none 0 0, .int .i64 (-1), .slice none 0 0].toArray 50) = Y ∧ Fr w Y ∧ Arr Y w.heap.size 50 [Value.int .i64 (st : Int), .int .i64 bk, .int .i64 ps, .bool rf, .bool dt, m0, m1, m2, m3, m4, .slice none 0 0, .int .i64 (-1), .slice none 0 0].toArray ∧ Y.heap.size = w.heap.size + 1 := ⟨_, rfl, fr_new (fr_refl _) _, Arr.new _ _ _, by simp⟩
  obtain ⟨X, hX, hF2, hA2, hs2⟩ : ∃ X, Y.alloc (.cells [Value.int .i64 (st : Int), .int .i64 bk, .int .i64 ps, .bool rf, .bool dt, n0, n1, n2, n3, n4, .slice none 0 0, .int .i64 (-1), .slice none 0 0].toArray 50) = X ∧ Fr Y X ∧ Arr X (w.heap.size + 1) 50 [Value.int .i64 (st : Int), .int .i64 bk, .int .i64 ps, .bool rf, .bool dt, n0, n1, n2, n3, n4, .slice none 0 0, .int .i64 (-1), .slice none 0 0].toArray ∧ X.heap.size = w.heap.size + 2 := ⟨_, rfl, fr_new (fr_refl _) _, by rw [← hs1]; exact Arr.new _ _ _, by simp [hs1]⟩
  have hA3 := hA1.chg (.of_fr (fun _ => False) hF2) id
  have a0 : X.cell? ⟨w.heap.size, 0, none⟩ = some (.int .i64 (st : Int)) := hA3.cell 0
  have a1 : X.cell? ⟨w.heap.size, 1, none⟩ = some (.int .i64 bk) := hA3.cell 1
  have a2 : X.cell? ⟨w.heap.size, 2, none⟩ = some (.int .i64 ps) := hA3.cell 2
  have a3 : X.cell? ⟨w.heap.size, 3, none⟩ = some (.bool rf) := hA3.cell 3
  have a4 : X.cell? ⟨w.heap.size, 4, none⟩ = some (.bool dt) := hA3.cell 4
  have a5 : (ldS 41 (.pointer (some ⟨w.heap.size, 5, none⟩))).run Tryz.prog X = .ok (.agg #[m0, m1, m2, m3, m4]) X := node16_ty.ldMid rfl (range_of_arr hA3 (o := 5) (ds := [m0, m1, m2, m3, m4]) rfl)
  have b0 : X.cell? ⟨w.heap.size + 1, 0, none⟩ = some (.int .i64 (st : Int)) := hA2.cell 0
  have b1 : X.cell? ⟨w.heap.size + 1, 1, none⟩ = some (.int .i64 bk) := hA2.cell 1
  have b2 : X.cell? ⟨w.heap.size + 1, 2, none⟩ = some (.int .i64 ps) := hA2.cell 2
  have b3 : X.cell? ⟨w.heap.size + 1, 3, none⟩ = some (.bool rf) := hA2.cell 3
  have b4 : X.cell? ⟨w.heap.size + 1, 4, none⟩ = some (.bool dt) := hA2.cell 4
  have b5 : (ldS 41 (.pointer (some ⟨w.heap.size + 1, 5, none⟩))).run Tryz.prog X = .ok (.agg #[n0, n1, n2, n3, n4]) X := node16_ty.ldMid rfl (range_of_arr hA2 (o := 5) (ds := [n0, n1, n2, n3, n4]) rfl)
  have CS := keep (cS X (fr_step hF1 hF2))
  clear cS hA1 hA2 hA3 hF1 hF2 h1 h2 h3 h4 h5 hv hu hf1 hf2 hs2
  go_enter Tryz.func41, Tryz.ntmps41
  go_wp2_with (first
    | (go_at_call 12; with_reducible refine CS.out.mono ?_; rintro e w2 ⟨rfl, hz⟩; have HZ := keep hz; clear hz)
    | fail)
  go_ret
  exact ⟨rfl, HZ.out⟩
end
end Go.Proofs.YtmoaddbpfekdbaaGreat
/- The laws of the cache: few. -/
namespace Go.Proofs.YtmoaddbpfekdbaaGreat
set_option linter.unusedVariables false
set_option linter.unusedSimpArgs false
set_option linter.unusedSectionVars false
set_option maxRecDepth 100000
open Go.RowKit
def I64 (z : Int) : Prop := -9223372036854775808 ≤ z ∧ z ≤ 9223372036854775807
set_option maxHeartbeats 1000000 in
theorem place16 (v : Int) (n : Nat) (hv : I64 v) (hn : 0 < n) (hn2 : (n : Int) ≤ 1099511627776) (w : World) : Calls Tryz.prog 24 #[.int .i64 v, .int .i64 n] w fun e w' => e = .returned (.int .i64 (v % n)) ∧ w = w' := by
  have he : v % (n : Int) = (v.tmod n) % n := by
    conv => lhs; rw [← Int.mul_tdiv_add_tmod v n]
    exact Int.mul_add_emod_self_left _ _ _
  unfold I64 at hv
  have hn0 : ((n : Int) == 0) = false := by simp; omega
  rcases tmod_cases v n (by omega) with ⟨k, e, h1, h2⟩ | ⟨k, e, h2⟩
  · rw [e] at he
    have hr : v % (n : Int) = -(k : Int) + n := by
      rw [he, ← Int.add_emod_right, Int.emod_eq_of_lt (by omega) (by omega)]
    rw [hr]
    clear he hr
    go_enter Tryz.func24, Tryz.ntmps24
    go_wp2_with fail
    go_ret
    exact ⟨rfl, rfl⟩
  · rw [e, Int.emod_eq_of_lt (a := (k : Int)) (by omega) (by omega)] at he
    rw [he]
    clear he
    go_enter Tryz.func24, Tryz.ntmps24
    go_wp2_with fail
    go_ret
    exact ⟨rfl, rfl⟩
/-- A step of the laws: what, a task, a block, a number. -/
structure Sp where
  what : Int
  t : Int
  id : Int
  n : Int
def spc (s : Sp) : List Value := [.int .i64 s.what, .int .i64 s.t, .int .i64 s.id, .int .i64 s.n]
def spv (s : Sp) : Value := .agg (spc s).toArray
def fewC (s : Sp) (i : Nat) : Sp := if i % 9 > 0 then { s with t := s.t % 6, id := s.id % 8 } else s
theorem step16_ty : Sty Tryz.prog 32 4 := ⟨by kernel_rfl, ⟨_, Tryz.underlying32, rfl⟩⟩
theorem step16_info : (Tryz.prog.info? 32).map (·.size) = some 4 := by kernel_rfl
theorem step16_ld (p : Value) : Instr.loadAt 32 p = ldS 32 p := rfl
attribute [local go_sem ↓] step16_ld
set_option maxHeartbeats 4000000 in
theorem few_at (w : World) (s : Sp) (i : Nat) (hi : i ≤ 100000) (ht : I64 s.t) (hd : I64 s.id) :
    Calls Tryz.prog 7 #[spv s, .int .i64 (i : Int)] w fun e w' => e = .returned (spv (fewC s i)) ∧ Fr w w' := by
  obtain ⟨a, b, c, d⟩ := s
  obtain ⟨Y, hY, hF1, hA1, hs1⟩ : ∃ Y, w.alloc (.cells [Value.int .i64 a, .int .i64 b, .int .i64 c, .int .i64 d].toArray 32) = Y ∧ Fr w Y ∧ Arr Y w.heap.size 32 [Value.int .i64 a, .int .i64 b, .int .i64 c, .int .i64 d].toArray ∧ Y.heap.size = w.heap.size + 1 := ⟨_, rfl, fr_new (fr_refl _) _, Arr.new _ _ _, by simp⟩
  obtain ⟨X, hX, hF2, hA2, hs2⟩ : ∃ X, Y.alloc (.cells [Value.int .i64 0, .int .i64 0, .int .i64 0, .int .i64 0].toArray 32) = X ∧ Fr Y X ∧ Arr X (w.heap.size + 1) 32 [Value.int .i64 0, .int .i64 0, .int .i64 0, .int .i64 0].toArray ∧ X.heap.size = w.heap.size + 2 := ⟨_, rfl, fr_new (fr_refl _) _, by rw [← hs1]; exact Arr.new _ _ _, by simp [hs1]⟩
  have hA3 := hA1.chg (.of_fr (fun _ => False) hF2) id
  have HF := keep (fr_step hF1 hF2)
  have HA2 := keep hA2
  have HA3 := keep hA3
  unfold spv spc fewC
  simp only at *
  by_cases hp : i % 9 > 0
  · have hpz : (i : Int) % 9 > 0 := by omega
    rw [if_pos hp]
    have p1 := fun W => place16 b 6 ht (by decide) (by decide) W
    have p2 := fun W => place16 c 8 hd (by decide) (by decide) W
    have cT : X.drew.cell? ⟨w.heap.size, 1, none⟩ = some (.int .i64 b) := hA3.drew.cell 1
    have cI : X.drew.cell? ⟨w.heap.size, 2, none⟩ = some (.int .i64 c) := hA3.drew.cell 2
    clear hp hA1 hA2 hA3 hF1 hF2 hs2
    go_enter Tryz.func7, Tryz.ntmps7
    go_wp2_with fail
    go_still_tail 7, (by kernel_rfl)
    still_call ((p1 X.drew).mono fun _ _ ⟨e1, e2⟩ => ⟨e1, e2.symm⟩)
    repeat still_step
    still_call ((p2 X.drew).mono fun _ _ ⟨e1, e2⟩ => ⟨e1, e2.symm⟩)
    repeat still_step
    refine wpStill_nil ?_
    change wpList _ _ _ _ _ X.drew
    have HA2 := keep HA2.out.drew
    have HA3 := keep HA3.out.drew
    have HF := keep (fr_drew HF.out)
    clear cT cI p1 p2
    generalize X.drew = wd at *
    go_wp2_with (first
      | (refine wpList_store_chg int_info16 rfl (.tmp 14) (.tmp 10) rfl w.heap.size 1 rfl (ds := [Value.int .i64 (b % 6)]) rfl rfl (.cons rfl .nil) HA3.out (by simp) (cs' := [Value.int .i64 a, .int .i64 (b % 6), .int .i64 c, .int .i64 d]) rfl ?_; intro W3 h1 h2; have H3 := keep (And.intro h1 h2); clear h1 h2)
      | (refine wpList_store_chg int_info16 rfl (.tmp 15) (.tmp 13) rfl w.heap.size 2 rfl (ds := [Value.int .i64 (c % 8)]) rfl rfl (.cons rfl .nil) H3.out.1 (by simp) (cs' := [Value.int .i64 a, .int .i64 (b % 6), .int .i64 (c % 8), .int .i64 d]) rfl ?_; intro W4 h1 h2; have H4 := keep (And.intro h1 h2); have lS := step16_ty.ld (by rfl) h1; clear h1 h2)
      | (refine wpList_store_chg step16_info rfl (.tmp 4) (.tmp 16) rfl (w.heap.size + 1) 0 rfl (ds := [Value.int .i64 a, .int .i64 (b % 6), .int .i64 (c % 8), .int .i64 d]) rfl rfl (.cons rfl (.cons rfl (.cons rfl (.cons rfl .nil)))) ((HA2.out.chg H3.out.2 (fun e => by omega)).chg H4.out.2 (fun e => by omega)) (by simp) (cs' := [Value.int .i64 a, .int .i64 (b % 6), .int .i64 (c % 8), .int .i64 d]) rfl ?_; intro W5 h1 h2; have H5 := keep (And.intro h1 h2); clear h1 h2)
      | fail)
    exact bodyPost_ret (step16_ty.result rfl _ (w.heap.size + 1) rfl rfl H5.out.1) rfl ⟨rfl, ((HF.out.step_chg H3.out.2 fun i e => by rw [e]; exact Nat.le_refl _).step_chg H4.out.2 fun i e => by rw [e]; exact Nat.le_refl _).step_chg H5.out.2 fun i e => by rw [e]; omega⟩
  · have hpz : ¬ (i : Int) % 9 > 0 := by omega
    rw [if_neg hp]
    have lS := step16_ty.ld (by rfl) hA3
    clear hp hA1 hA2 hA3 hF1 hF2 hs2
    go_enter Tryz.func7, Tryz.ntmps7
    go_wp2_with (first
      | (refine wpList_store_chg step16_info rfl (.tmp 4) (.tmp 16) rfl (w.heap.size + 1) 0 rfl (ds := [Value.int .i64 a, .int .i64 b, .int .i64 c, .int .i64 d]) rfl rfl (.cons rfl (.cons rfl (.cons rfl (.cons rfl .nil)))) HA2.out (by simp) (cs' := [Value.int .i64 a, .int .i64 b, .int .i64 c, .int .i64 d]) rfl ?_; intro W3 h1 h2; have H3 := keep (And.intro h1 h2); clear h1 h2)
      | fail)
    exact bodyPost_ret (step16_ty.result rfl _ (w.heap.size + 1) rfl rfl H3.out.1) rfl ⟨rfl, HF.out.step_chg H3.out.2 fun i e => by rw [e]; omega⟩
end Go.Proofs.YtmoaddbpfekdbaaGreat
