/- Nodes that came in, with their room. -/
import Derived.Test.YtnbbjieblgpjfaaCodK
import Derived.Test.YtnbbjieblgpjfaaOpn
import Derived.Deep.Slices
import Derived.ProofKit
import Derived.OpenShut
import Derived.SliceStrings
import Derived.ChangeSlices
import Derived.ChangeArms
namespace Go.Proofs.Ytnbbjieblgpjfaa.OpnN
set_option linter.unusedVariables false
set_option linter.unusedSimpArgs false
set_option maxRecDepth 100000
open Go.RowKit Go.ChangeShapes Go.WideShapes Go.Deep
theorem zei : Try.prog.cellsOf 69 = 9 := by kernel_rfl
theorem zej : Try.prog.cellsOf 72 = 17 := by kernel_rfl
theorem ziQ : Try.prog.cellsOf 77 = 29 := by kernel_rfl
theorem zjf : Try.prog.cellsOf 74 = 26 := by kernel_rfl
theorem zoE : Try.prog.cellsOf 48 = 1 := by kernel_rfl
theorem zcT : Try.prog.cellsOf 3 = 1 := by kernel_rfl
theorem zjl : Try.prog.cellsOf 67 = 8 := by kernel_rfl
theorem zhc : Try.prog.cellsOf 70 = 16 := by kernel_rfl
theorem zgs : Try.prog.cellsOf 5 = 1 := by kernel_rfl
section
variable {H : Type} {enc : TypeId × Value → H} {w : World} {base : Nat} {spare : Nat → Bool} {held : Bool}
theorem byt_of {z : Int} (h : (Lit.int .u8 z).wf = true) : Byt z := by
  unfold Byt
  simpa [Lit.wf, IntKind.min, IntKind.max, IntKind.signed, IntKind.bits] using h
theorem i64_of {z : Int} (h : (Lit.int .i64 z).wf = true) : -9223372036854775808 ≤ z ∧ z ≤ 9223372036854775807 := by
  simpa [Lit.wf, IntKind.min, IntKind.max, IntKind.signed, IntKind.bits] using h
theorem trod_key {fuel : Nat} {cs : List Value} {x : DataW H × List MemPlace} (h : DataW.trod enc Try.prog w base spare held fuel 69 cs = some x) : ∃ k : RK, cs = kc k ∧ k.wf := by
  obtain ⟨xs, n, _, _, hlen, hxs, hf⟩ := DataW.trod_struct Try.underlying69 h
  rw [zei] at hlen
  match cs, hlen with
  | [c0, c1, c2, c3, c4, c5, c6, c7, c8], _ =>
    match xs, hxs with
    | [y0, y1], _ =>
      have h0 : DataW.trod enc Try.prog w base spare held n 3 (([c0, c1, c2, c3, c4, c5, c6, c7, c8].drop 0).take (Try.prog.cellsOf 3)) = some y0 := hf 0 _ rfl
      have h1 : DataW.trod enc Try.prog w base spare held n 67 (([c0, c1, c2, c3, c4, c5, c6, c7, c8].drop 1).take (Try.prog.cellsOf 67)) = some y1 := hf 1 _ rfl
      rw [zcT] at h0
      rw [zjl] at h1
      obtain ⟨m, e0, _, w0⟩ := DataW.trod_int Try.underlying3 (show DataW.trod enc Try.prog w base spare held n 3 [c0] = some y0 from h0)
      obtain ⟨zs, q, _, _, _, hzs, hi⟩ := DataW.trod_array Try.underlying67 (show DataW.trod enc Try.prog w base spare held n 67 [c1, c2, c3, c4, c5, c6, c7, c8] = some y1 from h1)
      match zs, hzs with
      | [z0, z1, z2, z3, z4, z5, z6, z7], _ =>
        simp only [zgs] at hi
        obtain ⟨b0, f0, _, v0⟩ := DataW.trod_int Try.underlying5 (show DataW.trod enc Try.prog w base spare held q 5 [c1] = some z0 from hi 0 (by omega))
        obtain ⟨b1, f1, _, v1⟩ := DataW.trod_int Try.underlying5 (show DataW.trod enc Try.prog w base spare held q 5 [c2] = some z1 from hi 1 (by omega))
        obtain ⟨b2, f2, _, v2⟩ := DataW.trod_int Try.underlying5 (show DataW.trod enc Try.prog w base spare held q 5 [c3] = some z2 from hi 2 (by omega))
        obtain ⟨b3, f3, _, v3⟩ := DataW.trod_int Try.underlying5 (show DataW.trod enc Try.prog w base spare held q 5 [c4] = some z3 from hi 3 (by omega))
        obtain ⟨b4, f4, _, v4⟩ := DataW.trod_int Try.underlying5 (show DataW.trod enc Try.prog w base spare held q 5 [c5] = some z4 from hi 4 (by omega))
        obtain ⟨b5, f5, _, v5⟩ := DataW.trod_int Try.underlying5 (show DataW.trod enc Try.prog w base spare held q 5 [c6] = some z5 from hi 5 (by omega))
        obtain ⟨b6, f6, _, v6⟩ := DataW.trod_int Try.underlying5 (show DataW.trod enc Try.prog w base spare held q 5 [c7] = some z6 from hi 6 (by omega))
        obtain ⟨b7, f7, _, v7⟩ := DataW.trod_int Try.underlying5 (show DataW.trod enc Try.prog w base spare held q 5 [c8] = some z7 from hi 7 (by omega))
        simp only [List.cons.injEq, and_true] at e0 f0 f1 f2 f3 f4 f5 f6 f7
        subst e0 f0 f1 f2 f3 f4 f5 f6 f7
        exact ⟨⟨m, b0, b1, b2, b3, b4, b5, b6, b7⟩, rfl, i64_of w0, byt_of v0, byt_of v1, byt_of v2, byt_of v3, byt_of v4, byt_of v5, byt_of v6, byt_of v7⟩
theorem add_spot {a : Addr} {v : Value} (h : w.cell? a = some v) : a.spot = none := World.cell?_spot h
theorem bytes_row : ∀ {cs : List Value}, (∀ i, i < cs.length → ∃ z, cs[i]? = some (.int .u8 z) ∧ 0 ≤ z ∧ z ≤ 255) → ∃ bs, cs = u8s bs ∧ zdi bs
  | [], _ => ⟨[], rfl, fun _ h => by simp at h⟩
  | c :: cs, h => by
    obtain ⟨z, h1, h2⟩ := h 0 (by simp)
    obtain ⟨bs, h3, h4⟩ := bytes_row (cs := cs) fun i hi => by simpa using h (i + 1) (by simpa using hi)
    simp at h1
    refine ⟨z :: bs, by rw [h1, h3]; rfl, fun y hy => ?_⟩
    rcases List.mem_cons.1 hy with rfl | hy
    · exact h2
    · exact h4 y hy
theorem trod_val {fuel : Nat} {cs : List Value} {x : DataW H × List MemPlace} (h : DataW.trod enc Try.prog w base spare held fuel 72 cs = some x) : ∃ v : RV, cs = vc v ∧ v.wf := by
  obtain ⟨xs, n, _, _, hlen, hxs, hf⟩ := DataW.trod_struct Try.underlying72 h
  rw [zej] at hlen
  match cs, hlen with
  | c0 :: r, hlen =>
    match xs, hxs with
    | [y0, y1], _ =>
      have h0 : DataW.trod enc Try.prog w base spare held n 3 (((c0 :: r).drop 0).take (Try.prog.cellsOf 3)) = some y0 := hf 0 _ rfl
      have h1 : DataW.trod enc Try.prog w base spare held n 70 (((c0 :: r).drop 1).take (Try.prog.cellsOf 70)) = some y1 := hf 1 _ rfl
      have hr : r.length = 16 := by simpa using hlen
      rw [zcT] at h0
      rw [zhc, List.drop_succ_cons, List.drop_zero, List.take_of_length_le (by omega)] at h1
      obtain ⟨m, e0, _, w0⟩ := DataW.trod_int Try.underlying3 (show DataW.trod enc Try.prog w base spare held n 3 [c0] = some y0 from h0)
      obtain ⟨zs, q, _, _, _, hzs, hi⟩ := DataW.trod_array Try.underlying70 h1
      obtain ⟨bs, hb1, hb2⟩ := bytes_row (cs := r) fun i hi' => by
        have h2 := hi i (by omega)
        rw [zgs, Nat.mul_one] at h2
        have e : (r.drop i).take 1 = [r[i]] := by rw [List.drop_eq_getElem_cons hi']; rfl
        rw [e, List.getElem?_eq_getElem (by omega)] at h2
        obtain ⟨z, f0, _, v0⟩ := DataW.trod_int Try.underlying5 h2
        simp only [List.cons.injEq, and_true] at f0
        have hz : 0 ≤ z ∧ z ≤ 255 := by simpa [Lit.wf, IntKind.min, IntKind.max, IntKind.signed, IntKind.bits] using v0
        exact ⟨z, by rw [List.getElem?_eq_getElem hi', f0], hz⟩
      simp only [List.cons.injEq, and_true] at e0
      subst e0 hb1
      exact ⟨⟨m, bs⟩, rfl, by simpa [Lit.wf, IntKind.min, IntKind.max, IntKind.signed, IntKind.bits] using w0, by simpa using hr, hb2⟩
end
set_option linter.unusedVariables false
theorem parts29 (cs : List Value) (h : cs.length = 29) : cs = cs.take 1 ++ ((cs.drop 1).take 1 ++ ((cs.drop 2).take 9 ++ ((cs.drop 11).take 17 ++ (cs.drop 28).take 1))) := by
  have e0 : cs = cs.take 1 ++ cs.drop 1 := (List.take_append_drop 1 cs).symm
  have e1 : cs.drop 1 = (cs.drop 1).take 1 ++ cs.drop 2 := by
    have := (List.take_append_drop 1 (cs.drop 1)).symm
    rwa [List.drop_drop] at this
  have e2 : cs.drop 2 = (cs.drop 2).take 9 ++ cs.drop 11 := by
    have := (List.take_append_drop 9 (cs.drop 2)).symm
    rwa [List.drop_drop] at this
  have e3 : cs.drop 11 = (cs.drop 11).take 17 ++ cs.drop 28 := by
    have := (List.take_append_drop 17 (cs.drop 11)).symm
    rwa [List.drop_drop] at this
  have e4 : cs.drop 28 = (cs.drop 28).take 1 := (List.take_of_length_le (by simp [h])).symm
  rw [← e4, ← e3, ← e2, ← e1]
  exact e0
section
variable {H : Type} {enc : TypeId × Value → H} {w : World} {base : Nat} {spare : Nat → Bool} {held : Bool}
theorem us64_of {z : Int} (h : (Lit.int .u64 z).wf = true) : zeb z := by
  have h2 : 0 ≤ z ∧ z ≤ 18446744073709551615 := by simpa [Lit.wf, IntKind.min, IntKind.max, IntKind.signed, IntKind.bits] using h
  unfold zeb
  omega
theorem trod_msg {fuel : Nat} {cs : List Value} {x : DataW H × List MemPlace} (h : DataW.trod enc Try.prog w base spare held fuel 77 cs = some x) : ∃ m : RM, cs = mc m ∧ m.wf := by
  obtain ⟨xs, n, _, _, hlen, hxs, hf⟩ := DataW.trod_struct Try.underlying77 h
  rw [ziQ] at hlen
  match xs, hxs with
  | [y0, y1, y2, y3, y4], _ =>
    have h0 : DataW.trod enc Try.prog w base spare held n 3 ((cs.drop 0).take (Try.prog.cellsOf 3)) = some y0 := hf 0 _ rfl
    have h1 : DataW.trod enc Try.prog w base spare held n 48 ((cs.drop 1).take (Try.prog.cellsOf 48)) = some y1 := hf 1 _ rfl
    have h2 : DataW.trod enc Try.prog w base spare held n 69 ((cs.drop 2).take (Try.prog.cellsOf 69)) = some y2 := hf 2 _ rfl
    have h3 : DataW.trod enc Try.prog w base spare held n 72 ((cs.drop 11).take (Try.prog.cellsOf 72)) = some y3 := hf 3 _ rfl
    have h4 : DataW.trod enc Try.prog w base spare held n 48 ((cs.drop 28).take (Try.prog.cellsOf 48)) = some y4 := hf 4 _ rfl
    rw [zcT, List.drop_zero] at h0
    rw [zoE] at h1 h4
    rw [zei] at h2
    rw [zej] at h3
    obtain ⟨z0, e0, _, w0⟩ := DataW.trod_int Try.underlying3 h0
    obtain ⟨z1, e1, _, w1⟩ := DataW.trod_int Try.underlying48 h1
    obtain ⟨k, e2, wk⟩ := trod_key h2
    obtain ⟨v, e3, wv⟩ := trod_val h3
    obtain ⟨z4, e4, _, w4⟩ := DataW.trod_int Try.underlying48 h4
    refine ⟨⟨z0, z1, k, v, z4⟩, ?_, ⟨i64_of w0, us64_of w1, wk, wv, us64_of w4⟩⟩
    rw [parts29 cs hlen, e0, e1, e2, e3, e4]
    rfl
end
section
variable {H : Type} {enc : TypeId × Value → H} {w : World} {base : Nat} {spare : Nat → Bool} {held : Bool}
theorem trod_ent {fuel : Nat} {cs : List Value} {x : DataW H × List MemPlace} (h : DataW.trod enc Try.prog w base spare held fuel 74 cs = some x) : ∃ m : RE, cs = ec m ∧ m.wf := by
  obtain ⟨xs, n, _, _, hlen, hxs, hf⟩ := DataW.trod_struct Try.underlying74 h
  rw [zjf] at hlen
  match xs, hxs with
  | [y2, y3], _ =>
    have h2 : DataW.trod enc Try.prog w base spare held n 69 ((cs.drop 0).take (Try.prog.cellsOf 69)) = some y2 := hf 0 _ rfl
    have h3 : DataW.trod enc Try.prog w base spare held n 72 ((cs.drop 9).take (Try.prog.cellsOf 72)) = some y3 := hf 1 _ rfl
    rw [zei, List.drop_zero] at h2
    rw [zej] at h3
    obtain ⟨k, e2, wk⟩ := trod_key h2
    obtain ⟨v, e3, wv⟩ := trod_val h3
    refine ⟨⟨k, v⟩, ?_, ⟨wk, wv⟩⟩
    have e4 : (cs.drop 9).take 17 = cs.drop 9 := List.take_of_length_le (by simp [hlen])
    rw [e4] at e3
    have e5 : cs = cs.take 9 ++ cs.drop 9 := (List.take_append_drop 9 cs).symm
    rw [e5, e2, e3]
    rfl
end
structure NR (W : World) (B : Nat) (v : NV) (n : RN) : Prop where
  lf : v.lf = n.lf
  hB : B ≤ W.heap.size
  h1 : Has W B v.A1 (zm ec n.es)
  l1 : n.es.length = v.n1
  s1 : v.n1 ≤ maxLen
  w1 : WfE n.es
  h2 : Has W B v.A2 (zS n.ks)
  l2 : n.ks.length = v.n2
  k2 : v.n2 ≤ v.c2
  s2 : v.n2 ≤ maxLen
  h3 : Has W B v.A3 (zm kc n.ps)
  l3 : n.ps.length = v.n3
  s3 : v.n3 ≤ maxLen
  w3 : WfK n.ps
  h4 : Has W B v.A4 (zm mc n.ms)
  l4 : n.ms.length = v.n4
  k4 : v.n4 ≤ v.c4
  s4 : v.n4 ≤ maxLen
  w4 : WfM n.ms
structure NRk (W : World) (B : Nat) (v : NV) (n : RN) : Prop extends NR W B v n where
  k1 : v.n1 ≤ v.c1
  k3 : v.n3 ≤ v.c3
section
variable {H : Type} {enc : TypeId × Value → H} {w : World} {base : Nat} {spare : Nat → Bool} {held : Bool}
theorem trod_msgs {fuel : Nat} {cs : List Value} {x : DataW H × List MemPlace} (hf : DataW.trod enc Try.prog w 0 spare held fuel 25 cs = some x) :
    ∃ (A : Option Addr) (n c : Nat) (ks : List RM), cs = [.slice A n c] ∧ ks.length = n ∧ n ≤ c ∧ n ≤ maxLen ∧ WfM ks ∧ Has w w.heap.size A (zm mc ks) := by
  rcases open_slice Try.underlying25 hf with ⟨hcs, _⟩ | ⟨a, n, c, m, q, D, Pl, hcs, _, hl, hcm, hm, _, hi⟩
  · exact ⟨none, 0, 0, [], hcs, rfl, Nat.le_refl _, Nat.zero_le _, by simp [WfM], Has.nil⟩
  · have hmm : n ≤ m := by rw [hm]; split <;> omega
    have hk : ∀ i, i < n → ∃ k : RM, k.wf ∧ ∀ j v, (mc k)[j]? = some v → w.cell? (a.add (i * 29 + j)) = some v := fun i hin => by
      obtain ⟨cs', hc, ht⟩ := hi i (by omega)
      rw [ziQ] at hc
      obtain ⟨k, rfl, wk⟩ := trod_msg ht
      obtain ⟨_, _, hat⟩ := World.cells?_some hc
      refine ⟨k, wk, fun j v hj => ?_⟩
      have hj9 : j < 29 := by rw [← zP wk.val.hl]; exact (List.getElem?_eq_some_iff.1 hj).1
      have := hat j hj9
      rw [Go.Deep.add_add] at this
      rw [this]; exact hj
    have hall : ∀ l, l ≤ n → ∃ ks : List RM, ks.length = l ∧ WfM ks ∧ ∀ i k, ks[i]? = some k → ∀ j v, (mc k)[j]? = some v → w.cell? (a.add (i * 29 + j)) = some v := by
      intro l
      induction l with
      | zero => intro _; exact ⟨[], rfl, by simp [WfM], fun i k h => by simp at h⟩
      | succ l ih =>
        intro hl2
        obtain ⟨ks, h1, h2, h3⟩ := ih (by omega)
        obtain ⟨k, wk, hkc⟩ := hk l (by omega)
        refine ⟨ks ++ [k], by simp [h1], fun x hx => ?_, fun i x hx => ?_⟩
        · rcases List.mem_append.1 hx with e | e
          · exact h2 x e
          · simp at e; rw [e]; exact wk
        · by_cases e : i < ks.length
          · rw [List.getElem?_append_left e] at hx; exact h3 i x hx
          · have hi2 := (List.getElem?_eq_some_iff.1 hx).1
            simp at hi2
            have e2 : i = ks.length := by omega
            subst e2
            simp at hx
            subst hx
            rw [h1]; exact hkc
    obtain ⟨ks, h1, h2, h3⟩ := hall n (Nat.le_refl _)
    refine ⟨some a, n, c, ks, hcs, h1, hl, Nat.le_trans hl hcm, h2, fun j u hu => ?_⟩
    have hj : j < (zm mc ks).length := (List.getElem?_eq_some_iff.1 hu).1
    rw [zaa h2.wid] at hj
    obtain ⟨k, hk⟩ : ∃ k, ks[j / 29]? = some k := ⟨ks[j / 29]'(by omega), List.getElem?_eq_getElem _⟩
    have hg := rows_get h2.wid hk (j % 29) (Nat.mod_lt _ (by omega))
    rw [show j / 29 * 29 + j % 29 = j from by omega, hu] at hg
    have hcell := h3 (j / 29) k hk (j % 29) u hg.symm
    rw [show j / 29 * 29 + j % 29 = j from by omega] at hcell
    have hs : a.spot = none := by
      obtain ⟨k1, hk1⟩ : ∃ k1, ks[0]? = some k1 := ⟨ks[0]'(by omega), List.getElem?_eq_getElem _⟩
      have h0 := h3 0 k1 hk1 0 _ rfl
      exact World.cell?_spot (by simpa [Addr.add] using h0)
    obtain ⟨b, off, sp⟩ := a
    simp only at hs
    subst hs
    rw [Addr.add_lit] at hcell
    exact ⟨b, off, rfl, World.block_lt_of_cell? w _ hcell, hcell⟩
theorem trod_ents {fuel : Nat} {cs : List Value} {x : DataW H × List MemPlace} (hf : DataW.trod enc Try.prog w 0 spare held fuel 22 cs = some x) :
    ∃ (A : Option Addr) (n c : Nat) (ks : List RE), cs = [.slice A n c] ∧ ks.length = n ∧ n ≤ c ∧ n ≤ maxLen ∧ WfE ks ∧ Has w w.heap.size A (zm ec ks) := by
  rcases open_slice Try.underlying22 hf with ⟨hcs, _⟩ | ⟨a, n, c, m, q, D, Pl, hcs, _, hl, hcm, hm, _, hi⟩
  · exact ⟨none, 0, 0, [], hcs, rfl, Nat.le_refl _, Nat.zero_le _, by simp [WfE], Has.nil⟩
  · have hmm : n ≤ m := by rw [hm]; split <;> omega
    have hk : ∀ i, i < n → ∃ k : RE, k.wf ∧ ∀ j v, (ec k)[j]? = some v → w.cell? (a.add (i * 26 + j)) = some v := fun i hin => by
      obtain ⟨cs', hc, ht⟩ := hi i (by omega)
      rw [zjf] at hc
      obtain ⟨k, rfl, wk⟩ := trod_ent ht
      obtain ⟨_, _, hat⟩ := World.cells?_some hc
      refine ⟨k, wk, fun j v hj => ?_⟩
      have hj9 : j < 26 := by rw [← zbT wk.val.hl]; exact (List.getElem?_eq_some_iff.1 hj).1
      have := hat j hj9
      rw [Go.Deep.add_add] at this
      rw [this]; exact hj
    have hall : ∀ l, l ≤ n → ∃ ks : List RE, ks.length = l ∧ WfE ks ∧ ∀ i k, ks[i]? = some k → ∀ j v, (ec k)[j]? = some v → w.cell? (a.add (i * 26 + j)) = some v := by
      intro l
      induction l with
      | zero => intro _; exact ⟨[], rfl, by simp [WfE], fun i k h => by simp at h⟩
      | succ l ih =>
        intro hl2
        obtain ⟨ks, h1, h2, h3⟩ := ih (by omega)
        obtain ⟨k, wk, hkc⟩ := hk l (by omega)
        refine ⟨ks ++ [k], by simp [h1], fun x hx => ?_, fun i x hx => ?_⟩
        · rcases List.mem_append.1 hx with e | e
          · exact h2 x e
          · simp at e; rw [e]; exact wk
        · by_cases e : i < ks.length
          · rw [List.getElem?_append_left e] at hx; exact h3 i x hx
          · have hi2 := (List.getElem?_eq_some_iff.1 hx).1
            simp at hi2
            have e2 : i = ks.length := by omega
            subst e2
            simp at hx
            subst hx
            rw [h1]; exact hkc
    obtain ⟨ks, h1, h2, h3⟩ := hall n (Nat.le_refl _)
    refine ⟨some a, n, c, ks, hcs, h1, hl, Nat.le_trans hl hcm, h2, fun j u hu => ?_⟩
    have hj : j < (zm ec ks).length := (List.getElem?_eq_some_iff.1 hu).1
    rw [zaa h2.wid] at hj
    obtain ⟨k, hk⟩ : ∃ k, ks[j / 26]? = some k := ⟨ks[j / 26]'(by omega), List.getElem?_eq_getElem _⟩
    have hg := rows_get h2.wid hk (j % 26) (Nat.mod_lt _ (by omega))
    rw [show j / 26 * 26 + j % 26 = j from by omega, hu] at hg
    have hcell := h3 (j / 26) k hk (j % 26) u hg.symm
    rw [show j / 26 * 26 + j % 26 = j from by omega] at hcell
    have hs : a.spot = none := by
      obtain ⟨k1, hk1⟩ : ∃ k1, ks[0]? = some k1 := ⟨ks[0]'(by omega), List.getElem?_eq_getElem _⟩
      have h0 := h3 0 k1 hk1 0 _ rfl
      exact World.cell?_spot (by simpa [Addr.add] using h0)
    obtain ⟨b, off, sp⟩ := a
    simp only at hs
    subst hs
    rw [Addr.add_lit] at hcell
    exact ⟨b, off, rfl, World.block_lt_of_cell? w _ hcell, hcell⟩
theorem trod_keys {fuel : Nat} {cs : List Value} {x : DataW H × List MemPlace} (hf : DataW.trod enc Try.prog w 0 spare held fuel 24 cs = some x) :
    ∃ (A : Option Addr) (n c : Nat) (ks : List RK), cs = [.slice A n c] ∧ ks.length = n ∧ n ≤ c ∧ n ≤ maxLen ∧ WfAll ks ∧ Has w w.heap.size A (zbv ks) := by
  rcases open_slice Try.underlying24 hf with ⟨hcs, _⟩ | ⟨a, n, c, m, q, D, Pl, hcs, _, hl, hcm, hm, _, hi⟩
  · exact ⟨none, 0, 0, [], hcs, rfl, Nat.le_refl _, Nat.zero_le _, by simp [WfAll], by intro j u hu; simp [zbv] at hu⟩
  · have hmm : n ≤ m := by rw [hm]; split <;> omega
    have hk : ∀ i, i < n → ∃ k : RK, k.wf ∧ ∀ j v, (kc k)[j]? = some v → w.cell? (a.add (i * 9 + j)) = some v := fun i hin => by
      obtain ⟨cs', hc, ht⟩ := hi i (by omega)
      rw [zei] at hc
      obtain ⟨k, rfl, wk⟩ := trod_key ht
      obtain ⟨_, _, hat⟩ := World.cells?_some hc
      refine ⟨k, wk, fun j v hj => ?_⟩
      have hj9 : j < 9 := (List.getElem?_eq_some_iff.1 hj).1
      have := hat j hj9
      rw [Go.Deep.add_add] at this
      rw [this]; exact hj
    have hall : ∀ l, l ≤ n → ∃ ks : List RK, ks.length = l ∧ WfAll ks ∧ ∀ i k, ks[i]? = some k → ∀ j v, (kc k)[j]? = some v → w.cell? (a.add (i * 9 + j)) = some v := by
      intro l
      induction l with
      | zero => intro _; exact ⟨[], rfl, by simp [WfAll], fun i k h => by simp at h⟩
      | succ l ih =>
        intro hl2
        obtain ⟨ks, h1, h2, h3⟩ := ih (by omega)
        obtain ⟨k, wk, hkc⟩ := hk l (by omega)
        refine ⟨ks ++ [k], by simp [h1], fun x hx => ?_, fun i x hx => ?_⟩
        · rcases List.mem_append.1 hx with e | e
          · exact h2 x e
          · simp at e; rw [e]; exact wk
        · by_cases e : i < ks.length
          · rw [List.getElem?_append_left e] at hx; exact h3 i x hx
          · have hi2 := (List.getElem?_eq_some_iff.1 hx).1
            simp at hi2
            have e2 : i = ks.length := by omega
            subst e2
            simp at hx
            subst hx
            rw [h1]; exact hkc
    obtain ⟨ks, h1, h2, h3⟩ := hall n (Nat.le_refl _)
    refine ⟨some a, n, c, ks, hcs, h1, hl, Nat.le_trans hl hcm, h2, fun j u hu => ?_⟩
    have hj : j < (zbv ks).length := (List.getElem?_eq_some_iff.1 hu).1
    rw [zd4] at hj
    obtain ⟨k, hk⟩ : ∃ k, ks[j / 9]? = some k := ⟨ks[j / 9]'(by omega), List.getElem?_eq_getElem _⟩
    have hg := flat_get hk (j % 9) (Nat.mod_lt _ (by omega))
    rw [show j / 9 * 9 + j % 9 = j from by omega, hu] at hg
    have hcell := h3 (j / 9) k hk (j % 9) u hg.symm
    rw [show j / 9 * 9 + j % 9 = j from by omega] at hcell
    have hs : a.spot = none := by
      obtain ⟨k1, hk1⟩ : ∃ k1, ks[0]? = some k1 := ⟨ks[0]'(by omega), List.getElem?_eq_getElem _⟩
      have h0 := h3 0 k1 hk1 0 _ rfl
      exact World.cell?_spot (by simpa [Addr.add] using h0)
    obtain ⟨b, off, sp⟩ := a
    simp only at hs
    subst hs
    rw [Addr.add_lit] at hcell
    exact ⟨b, off, rfl, World.block_lt_of_cell? w _ hcell, hcell⟩
theorem trod_row {fuel : Nat} {cs : List Value} {x : DataW H × List MemPlace} (hf : DataW.trod enc Try.prog w 0 (fun _ => true) held fuel 23 cs = some x) :
    ∃ (A : Option Addr) (n c : Nat) (ys : List Int), cs = [.slice A n c] ∧ ys.length = n ∧ n ≤ c ∧ n ≤ maxLen ∧ (∀ z ∈ ys, zal z) ∧ Has w w.heap.size A (ys.map (Value.int .i64)) := by
  rcases open_ints Try.underlying23 Try.underlying3 zcT hf with ⟨hcs, _⟩ | ⟨a, n, c, zs, hcs, _, hl, hm, hz, _, hc, hw⟩
  · exact ⟨none, 0, 0, [], hcs, rfl, Nat.le_refl _, Nat.zero_le _, by simp, Has.nil⟩
  · obtain ⟨ys, e1, e2, e3, e4, _⟩ := zhQ (.inr ⟨a, rfl, hl, hm, by simpa using hz, hc, hw⟩)
    exact ⟨some a, n, c, ys, hcs, e1, e2, Nat.le_trans hl hm, fun z hz => i64_of (e3 z hz), e4⟩
theorem nod_cells : Try.prog.cellsOf 27 = 5 := by kernel_rfl
theorem bool_cells : Try.prog.cellsOf 4 = 1 := by kernel_rfl
theorem sl_cells1 : Try.prog.cellsOf 22 = 1 := by kernel_rfl
theorem sl_cells2 : Try.prog.cellsOf 23 = 1 := by kernel_rfl
theorem sl_cells3 : Try.prog.cellsOf 24 = 1 := by kernel_rfl
theorem sl_cells4 : Try.prog.cellsOf 25 = 1 := by kernel_rfl
theorem parts5 (cs : List Value) (h : cs.length = 5) : cs = cs.take 1 ++ ((cs.drop 1).take 1 ++ ((cs.drop 2).take 1 ++ ((cs.drop 3).take 1 ++ (cs.drop 4).take 1))) := by
  rcases cs with _ | ⟨a, _ | ⟨b, _ | ⟨c, _ | ⟨d, _ | ⟨e, _ | ⟨f, r⟩⟩⟩⟩⟩⟩ <;> simp at h
  rfl
/-- A node that came in. -/
theorem open_node {r : Reach} {b0 : Nat} {v : Value} {d : DataW H} {p : List MemPlace} (hv : Value.okWide Try.prog w r b0 27 v) (h : DataW.Trod enc Try.prog w 0 (fun _ => true) held 27 v d p) :
    ∃ (x : NV) (n : RN), v = nv x ∧ NRk w w.heap.size x n := by
  obtain ⟨cs, rfl, _⟩ := okWide_struct Try.underlying27 hv
  obtain ⟨fuel, hf⟩ := h
  obtain ⟨xs, m, _, _, hlen, hxs, hfs⟩ := DataW.trod_struct Try.underlying27 hf
  rw [nod_cells] at hlen
  match xs, hxs with
  | [y0, y1, y2, y3, y4], _ =>
    have h0 : DataW.trod enc Try.prog w 0 (fun _ => true) held m 4 ((cs.toList.drop 0).take (Try.prog.cellsOf 4)) = some y0 := hfs 0 _ rfl
    have h1 : DataW.trod enc Try.prog w 0 (fun _ => true) held m 22 ((cs.toList.drop 1).take (Try.prog.cellsOf 22)) = some y1 := hfs 1 _ rfl
    have h2 : DataW.trod enc Try.prog w 0 (fun _ => true) held m 23 ((cs.toList.drop 2).take (Try.prog.cellsOf 23)) = some y2 := hfs 2 _ rfl
    have h3 : DataW.trod enc Try.prog w 0 (fun _ => true) held m 24 ((cs.toList.drop 3).take (Try.prog.cellsOf 24)) = some y3 := hfs 3 _ rfl
    have h4 : DataW.trod enc Try.prog w 0 (fun _ => true) held m 25 ((cs.toList.drop 4).take (Try.prog.cellsOf 25)) = some y4 := hfs 4 _ rfl
    rw [bool_cells, List.drop_zero] at h0
    rw [sl_cells1] at h1
    rw [sl_cells2] at h2
    rw [sl_cells3] at h3
    rw [sl_cells4] at h4
    obtain ⟨b, e0, _⟩ := DataW.trod_bool Try.underlying4 h0
    obtain ⟨A1, n1, c1, es, e1, l1, k1, s1, w1, r1⟩ := trod_ents h1
    obtain ⟨A2, n2, c2, ks, e2, l2, k2, s2, w2, r2⟩ := trod_row h2
    obtain ⟨A3, n3, c3, ps, e3, l3, k3, s3, w3, r3⟩ := trod_keys h3
    obtain ⟨A4, n4, c4, ms, e4, l4, k4, s4, w4, r4⟩ := trod_msgs h4
    refine ⟨⟨b, A1, n1, c1, A2, n2, c2, A3, n3, c3, A4, n4, c4⟩, ⟨b, es, ks, ps, ms⟩, ?_, ⟨⟨rfl, Nat.le_refl _, r1, l1, s1, w1, r2, l2, k2, s2, r3, l3, s3, w3, r4, l4, k4, s4, w4⟩, k1, k3⟩⟩
    have e5 : cs.toList = [.bool b, .slice A1 n1 c1, .slice A2 n2 c2, .slice A3 n3 c3, .slice A4 n4 c4] := by
      rw [parts5 cs.toList hlen, e0, e1, e2, e3, e4]
      rfl
    unfold nv NV.cells
    rw [← e5]
end
end Go.Proofs.Ytnbbjieblgpjfaa.OpnN
