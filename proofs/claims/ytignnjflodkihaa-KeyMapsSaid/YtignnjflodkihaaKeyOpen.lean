/- Keys that came in. -/
import Derived.Test.YtignnjflodkihaaKeyM0
import Derived.Deep.Slices
import Derived.ProofKit
import Derived.OpenShut
import Derived.SliceStrings
namespace Go.Proofs.Ytignnjflodkihaa
open Go.RowKit Go.ChangeShapes Go.WideShapes Go.Deep
set_option linter.unusedVariables false
section
variable {H : Type} {enc : TypeId × Value → H} {w : World} {base : Nat} {spare : Nat → Bool} {held : Bool}
theorem byt_of {z : Int} (h : (Lit.int .u8 z).wf = true) : Byt z := by
  unfold Byt
  simpa [Lit.wf, IntKind.min, IntKind.max, IntKind.signed, IntKind.bits] using h
theorem i64_of {z : Int} (h : (Lit.int .i64 z).wf = true) : -9223372036854775808 ≤ z ∧ z ≤ 9223372036854775807 := by
  simpa [Lit.wf, IntKind.min, IntKind.max, IntKind.signed, IntKind.bits] using h
/-- What reads as a key is nine cells. -/
theorem trod_key {fuel : Nat} {cs : List Value} {x : DataW H × List MemPlace} (h : DataW.trod enc Try.prog w base spare held fuel 30 cs = some x) : ∃ k : RK, cs = kc k ∧ k.wf := by
  obtain ⟨xs, n, _, _, hlen, hxs, hf⟩ := DataW.trod_struct Try.underlying30 h
  rw [key_cells] at hlen
  match cs, hlen with
  | [c0, c1, c2, c3, c4, c5, c6, c7, c8], _ =>
    match xs, hxs with
    | [y0, y1], _ =>
      have h0 : DataW.trod enc Try.prog w base spare held n 3 (([c0, c1, c2, c3, c4, c5, c6, c7, c8].drop 0).take (Try.prog.cellsOf 3)) = some y0 := hf 0 _ rfl
      have h1 : DataW.trod enc Try.prog w base spare held n 28 (([c0, c1, c2, c3, c4, c5, c6, c7, c8].drop 1).take (Try.prog.cellsOf 28)) = some y1 := hf 1 _ rfl
      rw [int_cells] at h0
      rw [arr_cells] at h1
      obtain ⟨m, e0, _, w0⟩ := DataW.trod_int Try.underlying3 (show DataW.trod enc Try.prog w base spare held n 3 [c0] = some y0 from h0)
      obtain ⟨zs, q, _, _, _, hzs, hi⟩ := DataW.trod_array Try.underlying28 (show DataW.trod enc Try.prog w base spare held n 28 [c1, c2, c3, c4, c5, c6, c7, c8] = some y1 from h1)
      match zs, hzs with
      | [z0, z1, z2, z3, z4, z5, z6, z7], _ =>
        simp only [u8_cells] at hi
        obtain ⟨b0, f0, _, v0⟩ := DataW.trod_int Try.underlying5 (show DataW.trod enc Try.prog w base spare held q 5 [c1] = some z0 from hi 0 (by omega))
        obtain ⟨b1, f1, _, v1⟩ := DataW.trod_int Try.underlying5 (show DataW.trod enc Try.prog w base spare held q 5 [c2] = some z1 from hi 1 (by omega))
        obtain ⟨b2, f2, _, v2⟩ := DataW.trod_int Try.underlying5 (show DataW.trod enc Try.prog w base spare held q 5 [c3] = some z2 from hi 2 (by omega))
        obtain ⟨b3, f3, _, v3⟩ := DataW.trod_int Try.underlying5 (show DataW.trod enc Try.prog w base spare held q 5 [c4] = some z3 from hi 3 (by omega))
        obtain ⟨b4, f4, _, v4⟩ := DataW.trod_int Try.underlying5 (show DataW.trod enc Try.prog w base spare held q 5 [c5] = some z4 from hi 4 (by omega))
        obtain ⟨b5, f5, _, v5⟩ := DataW.trod_int Try.underlying5 (show DataW.trod enc Try.prog w base spare held q 5 [c6] = some z5 from hi 5 (by omega))
        obtain ⟨b6, f6, _, v6⟩ := DataW.trod_int Try.underlying5 (show DataW.trod enc Try.prog w base spare held q 5 [c7] = some z6 from hi 6 (by omega))
        obtain ⟨b7, f7, _, v7⟩ := DataW.trod_int Try.underlying5 (show DataW.trod enc Try.prog w base spare held q 5 [c8] = some z7 from hi 7 (by omega))
        simp only [List.cons.injEq, and_true] at e0 f0 f1 f2 f3 f4 f5 f6 f7
        subst e0 f0 f1 f2 f3 f4 f5 f6 f7
        exact ⟨⟨m, b0, b1, b2, b3, b4, b5, b6, b7⟩, rfl, i64_of w0, byt_of v0, byt_of v1, byt_of v2, byt_of v3, byt_of v4, byt_of v5, byt_of v6, byt_of v7⟩
theorem open_key {r : Reach} {b0 : Nat} {v : Value} {d : DataW H} {p : List MemPlace} (hv : Value.okWide Try.prog w r b0 30 v) (h : DataW.Trod enc Try.prog w base spare held 30 v d p) : ∃ k : RK, v = kv k ∧ k.wf := by
  obtain ⟨cs, rfl, _⟩ := okWide_struct Try.underlying30 hv
  obtain ⟨fuel, hf⟩ := h
  obtain ⟨k, hk, wk⟩ := trod_key hf
  refine ⟨k, ?_, wk⟩
  have hk : cs.toList = kc k := hk
  rw [show cs = (kc k).toArray from by rw [← hk]]
theorem add_spot {a : Addr} {v : Value} (h : w.cell? a = some v) : a.spot = none := World.cell?_spot h
/-- A slice of keys that came in. -/
theorem open_keys {r : Reach} {b0 : Nat} {v : Value} {d : DataW H} {p : List MemPlace} (hv : Value.okWide Try.prog w r b0 27 v) (h : DataW.Trod enc Try.prog w 0 spare held 27 v d p) :
    ∃ (A : Option Addr) (n c : Nat) (ks : List RK), v = .slice A n c ∧ ks.length = n ∧ n ≤ maxLen ∧ WfAll ks ∧ Has w w.heap.size A (flat ks) := by
  obtain ⟨A, n, c, rfl⟩ := okWide_slice Try.underlying27 hv
  obtain ⟨fuel, hf⟩ := h
  rcases open_slice Try.underlying27 hf with ⟨hcs, _⟩ | ⟨a, len, cap, m, q, D, Pl, hcs, _, hl, hcm, hm, _, hi⟩
  · simp [Value.cells] at hcs
    obtain ⟨rfl, rfl, rfl⟩ := hcs
    exact ⟨none, 0, 0, [], rfl, rfl, Nat.zero_le _, by simp [WfAll], by intro j u hu; simp [flat] at hu⟩
  · simp [Value.cells] at hcs
    obtain ⟨rfl, rfl, rfl⟩ := hcs
    have hmm : n ≤ m := by rw [hm]; split <;> omega
    have hk : ∀ i, i < n → ∃ k : RK, k.wf ∧ ∀ j v, (kc k)[j]? = some v → w.cell? (a.add (i * 9 + j)) = some v := fun i hin => by
      obtain ⟨cs', hc, ht⟩ := hi i (by omega)
      rw [key_cells] at hc
      obtain ⟨k, rfl, wk⟩ := trod_key ht
      obtain ⟨_, _, hat⟩ := World.cells?_some hc
      refine ⟨k, wk, fun j v hj => ?_⟩
      have hj9 : j < 9 := (List.getElem?_eq_some_iff.1 hj).1
      have := hat j hj9
      rw [Go.Deep.add_add] at this
      rw [this]; exact hj
    have hall : ∀ l, l ≤ n → ∃ ks : List RK, ks.length = l ∧ WfAll ks ∧ ∀ i k, ks[i]? = some k → ∀ j v, (kc k)[j]? = some v → w.cell? (a.add (i * 9 + j)) = some v := by
      intro l
      induction l with
      | zero => intro _; exact ⟨[], rfl, by simp [WfAll], fun i k h => by simp at h⟩
      | succ l ih =>
        intro hl2
        obtain ⟨ks, h1, h2, h3⟩ := ih (by omega)
        obtain ⟨k, wk, hkc⟩ := hk l (by omega)
        refine ⟨ks ++ [k], by simp [h1], fun x hx => ?_, fun i x hx => ?_⟩
        · rcases List.mem_append.1 hx with e | e
          · exact h2 x e
          · simp at e; rw [e]; exact wk
        · by_cases e : i < ks.length
          · rw [List.getElem?_append_left e] at hx; exact h3 i x hx
          · have hi2 := (List.getElem?_eq_some_iff.1 hx).1
            simp at hi2
            have e2 : i = ks.length := by omega
            subst e2
            simp at hx
            subst hx
            rw [h1]; exact hkc
    obtain ⟨ks, h1, h2, h3⟩ := hall n (Nat.le_refl _)
    refine ⟨some a, n, c, ks, rfl, h1, Nat.le_trans hl hcm, h2, fun j u hu => ?_⟩
    have hj : j < (flat ks).length := (List.getElem?_eq_some_iff.1 hu).1
    rw [flat_len] at hj
    obtain ⟨k, hk⟩ : ∃ k, ks[j / 9]? = some k := ⟨ks[j / 9]'(by omega), List.getElem?_eq_getElem _⟩
    have hg := flat_get hk (j % 9) (Nat.mod_lt _ (by omega))
    rw [show j / 9 * 9 + j % 9 = j from by omega, hu] at hg
    have hcell := h3 (j / 9) k hk (j % 9) u hg.symm
    rw [show j / 9 * 9 + j % 9 = j from by omega] at hcell
    have hs : a.spot = none := by
      obtain ⟨k1, hk1⟩ : ∃ k1, ks[0]? = some k1 := ⟨ks[0]'(by omega), List.getElem?_eq_getElem _⟩
      have h0 := h3 0 k1 hk1 0 _ rfl
      exact World.cell?_spot (by simpa [Addr.add] using h0)
    obtain ⟨b, off, sp⟩ := a
    simp only at hs
    subst hs
    rw [Addr.add_lit] at hcell
    exact ⟨b, off, rfl, World.block_lt_of_cell? w _ hcell, hcell⟩
/-- A slice of texts that came in. -/
theorem open_texts {r : Reach} {b0 : Nat} {v : Value} {d : DataW H} {p : List MemPlace} (hv : Value.okWide Try.prog w r b0 22 v) (h : DataW.Trod enc Try.prog w 0 spare held 22 v d p) :
    ∃ (A : Option Addr) (n c : Nat) (ss : List ByteArray), v = .slice A n c ∧ ss.length = n ∧ n ≤ maxLen ∧ (∀ s ∈ ss, s.size ≤ maxLen) ∧ Has w w.heap.size A (ss.map Value.string) := by
  obtain ⟨A, n, c, rfl⟩ := okWide_slice Try.underlying22 hv
  obtain ⟨fuel, hf⟩ := h
  rcases open_strings Try.underlying22 Try.underlying9 (by kernel_rfl) hf with ⟨hcs, _⟩ | ⟨a, len, cap, ss, hcs, _, hl, hcm, hss, _, hc, hsz⟩
  · simp [Value.cells] at hcs
    obtain ⟨rfl, rfl, rfl⟩ := hcs
    exact ⟨none, 0, 0, [], rfl, rfl, Nat.zero_le _, by simp, Has.nil⟩
  · simp [Value.cells] at hcs
    obtain ⟨rfl, rfl, rfl⟩ := hcs
    have hmm : n ≤ ss.length := by rw [hss]; split <;> omega
    refine ⟨some a, n, c, ss.take n, rfl, by simp; omega, Nat.le_trans hl hcm, fun s hs => hsz s (List.mem_of_mem_take hs), fun j u hu => ?_⟩
    have hj : j < n := by
      have := (List.getElem?_eq_some_iff.1 hu).1
      simp at this; omega
    have hcj := hc j (by omega)
    have hc0 := hc 0 (by omega)
    have hs : a.spot = none := World.cell?_spot (by simpa [Addr.add] using hc0)
    obtain ⟨b, off, sp⟩ := a
    simp only at hs
    subst hs
    rw [Addr.add_lit] at hcj
    refine ⟨b, off, rfl, World.block_lt_of_cell? w _ hcj, ?_⟩
    rw [hcj, ← hu, List.getElem?_map, List.getElem?_take_of_lt hj, List.getElem?_eq_getElem (by omega)]
    simp [List.getD, List.getElem?_eq_getElem (show j < ss.length by omega)]
end
end Go.Proofs.Ytignnjflodkihaa
