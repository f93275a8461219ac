/- Keys that came in. -/
import Derived.Test.YtcdcaanmmbopbaaKeyA
import Derived.Deep.Slices
import Derived.ProofKit
import Derived.OpenShut
import Derived.SliceStrings
import Derived.Test.YtcdcaanmmbopbaaValA
import Derived.Test.YtcdcaanmmbopbaaMsg0
import Derived.Test.YtcdcaanmmbopbaaValC
import Derived.ChangeSlices
import Derived.ChangeArms
import Derived.Test.YtcdcaanmmbopbaaBufM
namespace Go.Proofs.Ytcdcaanmmbopbaa
set_option maxRecDepth 100000
open Go.RowKit Go.ChangeShapes Go.WideShapes Go.Deep
set_option linter.unusedVariables false
section
variable {H : Type} {enc : TypeId × Value → H} {w : World} {base : Nat} {spare : Nat → Bool} {held : Bool}
theorem byt_of {z : Int} (h : (Lit.int .u8 z).wf = true) : Byt z := by
  unfold Byt
  simpa [Lit.wf, IntKind.min, IntKind.max, IntKind.signed, IntKind.bits] using h
theorem i64_of {z : Int} (h : (Lit.int .i64 z).wf = true) : -9223372036854775808 ≤ z ∧ z ≤ 9223372036854775807 := by
  simpa [Lit.wf, IntKind.min, IntKind.max, IntKind.signed, IntKind.bits] using h
/-- What reads as a key is nine cells. -/
theorem trod_key {fuel : Nat} {cs : List Value} {x : DataW H × List MemPlace} (h : DataW.trod enc Try.prog w base spare held fuel 40 cs = some x) : ∃ k : RK, cs = kc k ∧ k.wf := by
  obtain ⟨xs, n, _, _, hlen, hxs, hf⟩ := DataW.trod_struct Try.underlying40 h
  rw [key_cells] at hlen
  match cs, hlen with
  | [c0, c1, c2, c3, c4, c5, c6, c7, c8], _ =>
    match xs, hxs with
    | [y0, y1], _ =>
      have h0 : DataW.trod enc Try.prog w base spare held n 3 (([c0, c1, c2, c3, c4, c5, c6, c7, c8].drop 0).take (Try.prog.cellsOf 3)) = some y0 := hf 0 _ rfl
      have h1 : DataW.trod enc Try.prog w base spare held n 38 (([c0, c1, c2, c3, c4, c5, c6, c7, c8].drop 1).take (Try.prog.cellsOf 38)) = some y1 := hf 1 _ rfl
      rw [int_cells] at h0
      rw [arr_cells] at h1
      obtain ⟨m, e0, _, w0⟩ := DataW.trod_int Try.underlying3 (show DataW.trod enc Try.prog w base spare held n 3 [c0] = some y0 from h0)
      obtain ⟨zs, q, _, _, _, hzs, hi⟩ := DataW.trod_array Try.underlying38 (show DataW.trod enc Try.prog w base spare held n 38 [c1, c2, c3, c4, c5, c6, c7, c8] = some y1 from h1)
      match zs, hzs with
      | [z0, z1, z2, z3, z4, z5, z6, z7], _ =>
        simp only [u8_cells] at hi
        obtain ⟨b0, f0, _, v0⟩ := DataW.trod_int Try.underlying5 (show DataW.trod enc Try.prog w base spare held q 5 [c1] = some z0 from hi 0 (by omega))
        obtain ⟨b1, f1, _, v1⟩ := DataW.trod_int Try.underlying5 (show DataW.trod enc Try.prog w base spare held q 5 [c2] = some z1 from hi 1 (by omega))
        obtain ⟨b2, f2, _, v2⟩ := DataW.trod_int Try.underlying5 (show DataW.trod enc Try.prog w base spare held q 5 [c3] = some z2 from hi 2 (by omega))
        obtain ⟨b3, f3, _, v3⟩ := DataW.trod_int Try.underlying5 (show DataW.trod enc Try.prog w base spare held q 5 [c4] = some z3 from hi 3 (by omega))
        obtain ⟨b4, f4, _, v4⟩ := DataW.trod_int Try.underlying5 (show DataW.trod enc Try.prog w base spare held q 5 [c5] = some z4 from hi 4 (by omega))
        obtain ⟨b5, f5, _, v5⟩ := DataW.trod_int Try.underlying5 (show DataW.trod enc Try.prog w base spare held q 5 [c6] = some z5 from hi 5 (by omega))
        obtain ⟨b6, f6, _, v6⟩ := DataW.trod_int Try.underlying5 (show DataW.trod enc Try.prog w base spare held q 5 [c7] = some z6 from hi 6 (by omega))
        obtain ⟨b7, f7, _, v7⟩ := DataW.trod_int Try.underlying5 (show DataW.trod enc Try.prog w base spare held q 5 [c8] = some z7 from hi 7 (by omega))
        simp only [List.cons.injEq, and_true] at e0 f0 f1 f2 f3 f4 f5 f6 f7
        subst e0 f0 f1 f2 f3 f4 f5 f6 f7
        exact ⟨⟨m, b0, b1, b2, b3, b4, b5, b6, b7⟩, rfl, i64_of w0, byt_of v0, byt_of v1, byt_of v2, byt_of v3, byt_of v4, byt_of v5, byt_of v6, byt_of v7⟩
theorem open_key {r : Reach} {b0 : Nat} {v : Value} {d : DataW H} {p : List MemPlace} (hv : Value.okWide Try.prog w r b0 40 v) (h : DataW.Trod enc Try.prog w base spare held 40 v d p) : ∃ k : RK, v = kv k ∧ k.wf := by
  obtain ⟨cs, rfl, _⟩ := okWide_struct Try.underlying40 hv
  obtain ⟨fuel, hf⟩ := h
  obtain ⟨k, hk, wk⟩ := trod_key hf
  refine ⟨k, ?_, wk⟩
  have hk : cs.toList = kc k := hk
  rw [show cs = (kc k).toArray from by rw [← hk]]
theorem add_spot {a : Addr} {v : Value} (h : w.cell? a = some v) : a.spot = none := World.cell?_spot h
end
end Go.Proofs.Ytcdcaanmmbopbaa
/- Values that came in. -/
namespace Go.Proofs.Ytcdcaanmmbopbaa
set_option maxRecDepth 100000
open Go.RowKit Go.ChangeShapes Go.WideShapes Go.Deep
set_option linter.unusedVariables false
section
variable {H : Type} {enc : TypeId × Value → H} {w : World} {base : Nat} {spare : Nat → Bool} {held : Bool}
theorem bytes_row : ∀ {cs : List Value}, (∀ i, i < cs.length → ∃ z, cs[i]? = some (.int .u8 z) ∧ 0 ≤ z ∧ z ≤ 255) → ∃ bs, cs = u8s bs ∧ Bytes bs
  | [], _ => ⟨[], rfl, fun _ h => by simp at h⟩
  | c :: cs, h => by
    obtain ⟨z, h1, h2⟩ := h 0 (by simp)
    obtain ⟨bs, h3, h4⟩ := bytes_row (cs := cs) fun i hi => by simpa using h (i + 1) (by simpa using hi)
    simp at h1
    refine ⟨z :: bs, by rw [h1, h3]; rfl, fun y hy => ?_⟩
    rcases List.mem_cons.1 hy with rfl | hy
    · exact h2
    · exact h4 y hy
/-- What reads as a value is seventeen cells. -/
theorem trod_val {fuel : Nat} {cs : List Value} {x : DataW H × List MemPlace} (h : DataW.trod enc Try.prog w base spare held fuel 43 cs = some x) : ∃ v : RV, cs = vc v ∧ v.wf := by
  obtain ⟨xs, n, _, _, hlen, hxs, hf⟩ := DataW.trod_struct Try.underlying43 h
  rw [val_cells] at hlen
  match cs, hlen with
  | c0 :: r, hlen =>
    match xs, hxs with
    | [y0, y1], _ =>
      have h0 : DataW.trod enc Try.prog w base spare held n 3 (((c0 :: r).drop 0).take (Try.prog.cellsOf 3)) = some y0 := hf 0 _ rfl
      have h1 : DataW.trod enc Try.prog w base spare held n 41 (((c0 :: r).drop 1).take (Try.prog.cellsOf 41)) = some y1 := hf 1 _ rfl
      have hr : r.length = 16 := by simpa using hlen
      rw [int_cells] at h0
      rw [arr16_cells, List.drop_succ_cons, List.drop_zero, List.take_of_length_le (by omega)] at h1
      obtain ⟨m, e0, _, w0⟩ := DataW.trod_int Try.underlying3 (show DataW.trod enc Try.prog w base spare held n 3 [c0] = some y0 from h0)
      obtain ⟨zs, q, _, _, _, hzs, hi⟩ := DataW.trod_array Try.underlying41 h1
      obtain ⟨bs, hb1, hb2⟩ := bytes_row (cs := r) fun i hi' => by
        have h2 := hi i (by omega)
        rw [u8_cells, Nat.mul_one] at h2
        have e : (r.drop i).take 1 = [r[i]] := by rw [List.drop_eq_getElem_cons hi']; rfl
        rw [e, List.getElem?_eq_getElem (by omega)] at h2
        obtain ⟨z, f0, _, v0⟩ := DataW.trod_int Try.underlying5 h2
        simp only [List.cons.injEq, and_true] at f0
        have hz : 0 ≤ z ∧ z ≤ 255 := by simpa [Lit.wf, IntKind.min, IntKind.max, IntKind.signed, IntKind.bits] using v0
        exact ⟨z, by rw [List.getElem?_eq_getElem hi', f0], hz⟩
      simp only [List.cons.injEq, and_true] at e0
      subst e0 hb1
      exact ⟨⟨m, bs⟩, rfl, by simpa [Lit.wf, IntKind.min, IntKind.max, IntKind.signed, IntKind.bits] using w0, by simpa using hr, hb2⟩
theorem open_val {r : Reach} {b0 : Nat} {v : Value} {d : DataW H} {p : List MemPlace} (hv : Value.okWide Try.prog w r b0 43 v) (h : DataW.Trod enc Try.prog w base spare held 43 v d p) : ∃ k : RV, v = vv k ∧ k.wf := by
  obtain ⟨cs, rfl, _⟩ := okWide_struct Try.underlying43 hv
  obtain ⟨fuel, hf⟩ := h
  obtain ⟨k, hk, wk⟩ := trod_val hf
  refine ⟨k, ?_, wk⟩
  have hk : cs.toList = vc k := hk
  rw [show cs = (vc k).toArray from by rw [← hk]]
end
end Go.Proofs.Ytcdcaanmmbopbaa
/- Messages that came in; a row of 64-bit numbers that came in. -/
namespace Go.Proofs.Ytcdcaanmmbopbaa
set_option maxRecDepth 100000
open Go.RowKit Go.ChangeShapes Go.WideShapes Go.Deep
set_option linter.unusedVariables false
theorem parts29 (cs : List Value) (h : cs.length = 29) : cs = cs.take 1 ++ ((cs.drop 1).take 1 ++ ((cs.drop 2).take 9 ++ ((cs.drop 11).take 17 ++ (cs.drop 28).take 1))) := by
  have e0 : cs = cs.take 1 ++ cs.drop 1 := (List.take_append_drop 1 cs).symm
  have e1 : cs.drop 1 = (cs.drop 1).take 1 ++ cs.drop 2 := by
    have := (List.take_append_drop 1 (cs.drop 1)).symm
    rwa [List.drop_drop] at this
  have e2 : cs.drop 2 = (cs.drop 2).take 9 ++ cs.drop 11 := by
    have := (List.take_append_drop 9 (cs.drop 2)).symm
    rwa [List.drop_drop] at this
  have e3 : cs.drop 11 = (cs.drop 11).take 17 ++ cs.drop 28 := by
    have := (List.take_append_drop 17 (cs.drop 11)).symm
    rwa [List.drop_drop] at this
  have e4 : cs.drop 28 = (cs.drop 28).take 1 := (List.take_of_length_le (by simp [h])).symm
  rw [← e4, ← e3, ← e2, ← e1]
  exact e0
section
variable {H : Type} {enc : TypeId × Value → H} {w : World} {base : Nat} {spare : Nat → Bool} {held : Bool}
theorem us64_of {z : Int} (h : (Lit.int .u64 z).wf = true) : Us64 z := by
  have := bd_u64 h
  unfold Us64; omega
/-- What reads as a message is 29 cells. -/
theorem trod_msg {fuel : Nat} {cs : List Value} {x : DataW H × List MemPlace} (h : DataW.trod enc Try.prog w base spare held fuel 48 cs = some x) : ∃ m : RM, cs = mc m ∧ m.wf := by
  obtain ⟨xs, n, _, _, hlen, hxs, hf⟩ := DataW.trod_struct Try.underlying48 h
  rw [msg_cells] at hlen
  match xs, hxs with
  | [y0, y1, y2, y3, y4], _ =>
    have h0 : DataW.trod enc Try.prog w base spare held n 3 ((cs.drop 0).take (Try.prog.cellsOf 3)) = some y0 := hf 0 _ rfl
    have h1 : DataW.trod enc Try.prog w base spare held n 46 ((cs.drop 1).take (Try.prog.cellsOf 46)) = some y1 := hf 1 _ rfl
    have h2 : DataW.trod enc Try.prog w base spare held n 40 ((cs.drop 2).take (Try.prog.cellsOf 40)) = some y2 := hf 2 _ rfl
    have h3 : DataW.trod enc Try.prog w base spare held n 43 ((cs.drop 11).take (Try.prog.cellsOf 43)) = some y3 := hf 3 _ rfl
    have h4 : DataW.trod enc Try.prog w base spare held n 46 ((cs.drop 28).take (Try.prog.cellsOf 46)) = some y4 := hf 4 _ rfl
    rw [int_cells, List.drop_zero] at h0
    rw [u64_cells] at h1 h4
    rw [key_cells] at h2
    rw [val_cells] at h3
    obtain ⟨z0, e0, _, w0⟩ := DataW.trod_int Try.underlying3 h0
    obtain ⟨z1, e1, _, w1⟩ := DataW.trod_int Try.underlying46 h1
    obtain ⟨k, e2, wk⟩ := trod_key h2
    obtain ⟨v, e3, wv⟩ := trod_val h3
    obtain ⟨z4, e4, _, w4⟩ := DataW.trod_int Try.underlying46 h4
    refine ⟨⟨z0, z1, k, v, z4⟩, ?_, ⟨i64_of w0, us64_of w1, wk, wv, us64_of w4⟩⟩
    rw [parts29 cs hlen, e0, e1, e2, e3, e4]
    rfl
theorem open_msg {r : Reach} {b0 : Nat} {v : Value} {d : DataW H} {p : List MemPlace} (hv : Value.okWide Try.prog w r b0 48 v) (h : DataW.Trod enc Try.prog w base spare held 48 v d p) : ∃ m : RM, v = mm m ∧ m.wf := by
  obtain ⟨cs, rfl, _⟩ := okWide_struct Try.underlying48 hv
  obtain ⟨fuel, hf⟩ := h
  obtain ⟨m, hm, wm⟩ := trod_msg hf
  refine ⟨m, ?_, wm⟩
  have hm : cs.toList = mc m := hm
  rw [show cs = (mc m).toArray from by rw [← hm]]
theorem open_flag {r : Reach} {b0 : Nat} {t : TypeId} {v : Value} {d : DataW H} {ps : List MemPlace} (ht : Try.prog.underlying t = some .bool) (hv : Value.okWide Try.prog w r b0 t v) (h : DataW.Trod enc Try.prog w base spare held t v d ps) : ∃ b, v = .bool b := okWide_bool ht hv
end
end Go.Proofs.Ytcdcaanmmbopbaa
/- Messages, and numbers, in rows that came in. -/
namespace Go.Proofs.Ytcdcaanmmbopbaa
set_option maxRecDepth 100000
open Go.RowKit Go.ChangeShapes Go.WideShapes Go.Deep
set_option linter.unusedVariables false
section
variable {H : Type} {enc : TypeId × Value → H} {w : World} {base : Nat} {spare : Nat → Bool} {held : Bool}
/-- A slice of messages that came in. -/
theorem open_msgs {r : Reach} {b0 : Nat} {v : Value} {d : DataW H} {p : List MemPlace} (hv : Value.okWide Try.prog w r b0 25 v) (h : DataW.Trod enc Try.prog w 0 spare held 25 v d p) :
    ∃ (A : Option Addr) (n c : Nat) (ks : List RM), v = .slice A n c ∧ ks.length = n ∧ n ≤ c ∧ n ≤ maxLen ∧ WfM ks ∧ Has w w.heap.size A (rows mc ks) := by
  obtain ⟨A, n, c, rfl⟩ := okWide_slice Try.underlying25 hv
  obtain ⟨fuel, hf⟩ := h
  rcases open_slice Try.underlying25 hf with ⟨hcs, _⟩ | ⟨a, len, cap, m, q, D, Pl, hcs, _, hl, hcm, hm, _, hi⟩
  · simp [Value.cells] at hcs
    obtain ⟨rfl, rfl, rfl⟩ := hcs
    exact ⟨none, 0, 0, [], rfl, rfl, Nat.le_refl _, Nat.zero_le _, by simp [WfM], Has.nil⟩
  · simp [Value.cells] at hcs
    obtain ⟨rfl, rfl, rfl⟩ := hcs
    have hmm : n ≤ m := by rw [hm]; split <;> omega
    have hk : ∀ i, i < n → ∃ k : RM, k.wf ∧ ∀ j v, (mc k)[j]? = some v → w.cell? (a.add (i * 29 + j)) = some v := fun i hin => by
      obtain ⟨cs', hc, ht⟩ := hi i (by omega)
      rw [msg_cells] at hc
      obtain ⟨k, rfl, wk⟩ := trod_msg ht
      obtain ⟨_, _, hat⟩ := World.cells?_some hc
      refine ⟨k, wk, fun j v hj => ?_⟩
      have hj9 : j < 29 := by rw [← mc_len wk.val.hl]; exact (List.getElem?_eq_some_iff.1 hj).1
      have := hat j hj9
      rw [Go.Deep.add_add] at this
      rw [this]; exact hj
    have hall : ∀ l, l ≤ n → ∃ ks : List RM, ks.length = l ∧ WfM ks ∧ ∀ i k, ks[i]? = some k → ∀ j v, (mc k)[j]? = some v → w.cell? (a.add (i * 29 + j)) = some v := by
      intro l
      induction l with
      | zero => intro _; exact ⟨[], rfl, by simp [WfM], fun i k h => by simp at h⟩
      | succ l ih =>
        intro hl2
        obtain ⟨ks, h1, h2, h3⟩ := ih (by omega)
        obtain ⟨k, wk, hkc⟩ := hk l (by omega)
        refine ⟨ks ++ [k], by simp [h1], fun x hx => ?_, fun i x hx => ?_⟩
        · rcases List.mem_append.1 hx with e | e
          · exact h2 x e
          · simp at e; rw [e]; exact wk
        · by_cases e : i < ks.length
          · rw [List.getElem?_append_left e] at hx; exact h3 i x hx
          · have hi2 := (List.getElem?_eq_some_iff.1 hx).1
            simp at hi2
            have e2 : i = ks.length := by omega
            subst e2
            simp at hx
            subst hx
            rw [h1]; exact hkc
    obtain ⟨ks, h1, h2, h3⟩ := hall n (Nat.le_refl _)
    refine ⟨some a, n, c, ks, rfl, h1, hl, Nat.le_trans hl hcm, h2, fun j u hu => ?_⟩
    have hj : j < (rows mc ks).length := (List.getElem?_eq_some_iff.1 hu).1
    rw [rows_len h2.wid] at hj
    obtain ⟨k, hk⟩ : ∃ k, ks[j / 29]? = some k := ⟨ks[j / 29]'(by omega), List.getElem?_eq_getElem _⟩
    have hg := rows_get h2.wid hk (j % 29) (Nat.mod_lt _ (by omega))
    rw [show j / 29 * 29 + j % 29 = j from by omega, hu] at hg
    have hcell := h3 (j / 29) k hk (j % 29) u hg.symm
    rw [show j / 29 * 29 + j % 29 = j from by omega] at hcell
    have hs : a.spot = none := by
      obtain ⟨k1, hk1⟩ : ∃ k1, ks[0]? = some k1 := ⟨ks[0]'(by omega), List.getElem?_eq_getElem _⟩
      have h0 := h3 0 k1 hk1 0 _ rfl
      exact World.cell?_spot (by simpa [Addr.add] using h0)
    obtain ⟨b, off, sp⟩ := a
    simp only at hs
    subst hs
    rw [Addr.add_lit] at hcell
    exact ⟨b, off, rfl, World.block_lt_of_cell? w _ hcell, hcell⟩
theorem open_row {r : Reach} {b0 : Nat} {v : Value} {d : DataW H} {p : List MemPlace} (hv : Value.okWide Try.prog w r b0 22 v) (h : DataW.Trod enc Try.prog w 0 (fun _ => true) held 22 v d p) :
    ∃ (A : Option Addr) (n c : Nat) (ys : List Int), v = .slice A n c ∧ ys.length = n ∧ n ≤ c ∧ n ≤ maxLen ∧ (∀ z ∈ ys, Is64 z) ∧ Has w w.heap.size A (ys.map (Value.int .i64)) := by
  obtain ⟨A, n, c, rfl⟩ := okWide_slice Try.underlying22 hv
  obtain ⟨fuel, hf⟩ := h
  rcases open_ints Try.underlying22 Try.underlying3 int_cells hf with ⟨hcs, _⟩ | ⟨a, len, cap, zs, hcs, _, hl, hm, hz, _, hc, hw⟩
  · simp [Value.cells] at hcs
    obtain ⟨rfl, rfl, rfl⟩ := hcs
    exact ⟨none, 0, 0, [], rfl, rfl, Nat.le_refl _, Nat.zero_le _, by simp, Has.nil⟩
  · simp [Value.cells] at hcs
    obtain ⟨rfl, rfl, rfl⟩ := hcs
    obtain ⟨ys, e1, e2, e3, e4, _⟩ := has_of_row (.inr ⟨a, rfl, hl, hm, by simpa using hz, hc, hw⟩)
    exact ⟨some a, n, c, ys, rfl, e1, e2, Nat.le_trans hl hm, fun z hz => i64_of (e3 z hz), e4⟩
end
end Go.Proofs.Ytcdcaanmmbopbaa
