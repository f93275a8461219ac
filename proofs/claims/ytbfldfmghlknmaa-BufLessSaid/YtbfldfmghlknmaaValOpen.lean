/- Values that came in. -/
import Derived.Test.YtbfldfmghlknmaaVal0
import Derived.Deep.Slices
import Derived.ProofKit
import Derived.OpenShut
namespace Go.Proofs.Ytbfldfmghlknmaa
set_option maxRecDepth 100000
open Go.RowKit Go.ChangeShapes Go.WideShapes Go.Deep
set_option linter.unusedVariables false
section
variable {H : Type} {enc : TypeId × Value → H} {w : World} {base : Nat} {spare : Nat → Bool} {held : Bool}
theorem bytes_row : ∀ {cs : List Value}, (∀ i, i < cs.length → ∃ z, cs[i]? = some (.int .u8 z) ∧ 0 ≤ z ∧ z ≤ 255) → ∃ bs, cs = u8s bs ∧ Bytes bs
  | [], _ => ⟨[], rfl, fun _ h => by simp at h⟩
  | c :: cs, h => by
    obtain ⟨z, h1, h2⟩ := h 0 (by simp)
    obtain ⟨bs, h3, h4⟩ := bytes_row (cs := cs) fun i hi => by simpa using h (i + 1) (by simpa using hi)
    simp at h1
    refine ⟨z :: bs, by rw [h1, h3]; rfl, fun y hy => ?_⟩
    rcases List.mem_cons.1 hy with rfl | hy
    · exact h2
    · exact h4 y hy
/-- What reads as a value is seventeen cells. -/
theorem trod_val {fuel : Nat} {cs : List Value} {x : DataW H × List MemPlace} (h : DataW.trod enc Try.prog w base spare held fuel 34 cs = some x) : ∃ v : RV, cs = vc v ∧ v.wf := by
  obtain ⟨xs, n, _, _, hlen, hxs, hf⟩ := DataW.trod_struct Try.underlying34 h
  rw [val_cells] at hlen
  match cs, hlen with
  | c0 :: r, hlen =>
    match xs, hxs with
    | [y0, y1], _ =>
      have h0 : DataW.trod enc Try.prog w base spare held n 3 (((c0 :: r).drop 0).take (Try.prog.cellsOf 3)) = some y0 := hf 0 _ rfl
      have h1 : DataW.trod enc Try.prog w base spare held n 32 (((c0 :: r).drop 1).take (Try.prog.cellsOf 32)) = some y1 := hf 1 _ rfl
      have hr : r.length = 16 := by simpa using hlen
      rw [int_cells] at h0
      rw [arr16_cells, List.drop_succ_cons, List.drop_zero, List.take_of_length_le (by omega)] at h1
      obtain ⟨m, e0, _, w0⟩ := DataW.trod_int Try.underlying3 (show DataW.trod enc Try.prog w base spare held n 3 [c0] = some y0 from h0)
      obtain ⟨zs, q, _, _, _, hzs, hi⟩ := DataW.trod_array Try.underlying32 h1
      obtain ⟨bs, hb1, hb2⟩ := bytes_row (cs := r) fun i hi' => by
        have h2 := hi i (by omega)
        rw [u8_cells, Nat.mul_one] at h2
        have e : (r.drop i).take 1 = [r[i]] := by rw [List.drop_eq_getElem_cons hi']; rfl
        rw [e, List.getElem?_eq_getElem (by omega)] at h2
        obtain ⟨z, f0, _, v0⟩ := DataW.trod_int Try.underlying5 h2
        simp only [List.cons.injEq, and_true] at f0
        have hz : 0 ≤ z ∧ z ≤ 255 := by simpa [Lit.wf, IntKind.min, IntKind.max, IntKind.signed, IntKind.bits] using v0
        exact ⟨z, by rw [List.getElem?_eq_getElem hi', f0], hz⟩
      simp only [List.cons.injEq, and_true] at e0
      subst e0 hb1
      exact ⟨⟨m, bs⟩, rfl, by simpa [Lit.wf, IntKind.min, IntKind.max, IntKind.signed, IntKind.bits] using w0, by simpa using hr, hb2⟩
theorem open_val {r : Reach} {b0 : Nat} {v : Value} {d : DataW H} {p : List MemPlace} (hv : Value.okWide Try.prog w r b0 34 v) (h : DataW.Trod enc Try.prog w base spare held 34 v d p) : ∃ k : RV, v = vv k ∧ k.wf := by
  obtain ⟨cs, rfl, _⟩ := okWide_struct Try.underlying34 hv
  obtain ⟨fuel, hf⟩ := h
  obtain ⟨k, hk, wk⟩ := trod_val hf
  refine ⟨k, ?_, wk⟩
  have hk : cs.toList = vc k := hk
  rw [show cs = (vc k).toArray from by rw [← hk]]
end
end Go.Proofs.Ytbfldfmghlknmaa
