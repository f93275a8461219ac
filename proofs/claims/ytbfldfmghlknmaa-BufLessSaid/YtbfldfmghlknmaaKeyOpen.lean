/- Keys that came in. -/
import Derived.Test.YtbfldfmghlknmaaKey1
import Derived.Deep.Slices
import Derived.ProofKit
import Derived.OpenShut
import Derived.SliceStrings
namespace Go.Proofs.Ytbfldfmghlknmaa
set_option maxRecDepth 100000
open Go.RowKit Go.ChangeShapes Go.WideShapes Go.Deep
set_option linter.unusedVariables false
section
variable {H : Type} {enc : TypeId × Value → H} {w : World} {base : Nat} {spare : Nat → Bool} {held : Bool}
theorem byt_of {z : Int} (h : (Lit.int .u8 z).wf = true) : Byt z := by
  unfold Byt
  simpa [Lit.wf, IntKind.min, IntKind.max, IntKind.signed, IntKind.bits] using h
theorem i64_of {z : Int} (h : (Lit.int .i64 z).wf = true) : -9223372036854775808 ≤ z ∧ z ≤ 9223372036854775807 := by
  simpa [Lit.wf, IntKind.min, IntKind.max, IntKind.signed, IntKind.bits] using h
/-- What reads as a key is nine cells. -/
theorem trod_key {fuel : Nat} {cs : List Value} {x : DataW H × List MemPlace} (h : DataW.trod enc Try.prog w base spare held fuel 27 cs = some x) : ∃ k : RK, cs = kc k ∧ k.wf := by
  obtain ⟨xs, n, _, _, hlen, hxs, hf⟩ := DataW.trod_struct Try.underlying27 h
  rw [key_cells] at hlen
  match cs, hlen with
  | [c0, c1, c2, c3, c4, c5, c6, c7, c8], _ =>
    match xs, hxs with
    | [y0, y1], _ =>
      have h0 : DataW.trod enc Try.prog w base spare held n 3 (([c0, c1, c2, c3, c4, c5, c6, c7, c8].drop 0).take (Try.prog.cellsOf 3)) = some y0 := hf 0 _ rfl
      have h1 : DataW.trod enc Try.prog w base spare held n 25 (([c0, c1, c2, c3, c4, c5, c6, c7, c8].drop 1).take (Try.prog.cellsOf 25)) = some y1 := hf 1 _ rfl
      rw [int_cells] at h0
      rw [arr_cells] at h1
      obtain ⟨m, e0, _, w0⟩ := DataW.trod_int Try.underlying3 (show DataW.trod enc Try.prog w base spare held n 3 [c0] = some y0 from h0)
      obtain ⟨zs, q, _, _, _, hzs, hi⟩ := DataW.trod_array Try.underlying25 (show DataW.trod enc Try.prog w base spare held n 25 [c1, c2, c3, c4, c5, c6, c7, c8] = some y1 from h1)
      match zs, hzs with
      | [z0, z1, z2, z3, z4, z5, z6, z7], _ =>
        simp only [u8_cells] at hi
        obtain ⟨b0, f0, _, v0⟩ := DataW.trod_int Try.underlying5 (show DataW.trod enc Try.prog w base spare held q 5 [c1] = some z0 from hi 0 (by omega))
        obtain ⟨b1, f1, _, v1⟩ := DataW.trod_int Try.underlying5 (show DataW.trod enc Try.prog w base spare held q 5 [c2] = some z1 from hi 1 (by omega))
        obtain ⟨b2, f2, _, v2⟩ := DataW.trod_int Try.underlying5 (show DataW.trod enc Try.prog w base spare held q 5 [c3] = some z2 from hi 2 (by omega))
        obtain ⟨b3, f3, _, v3⟩ := DataW.trod_int Try.underlying5 (show DataW.trod enc Try.prog w base spare held q 5 [c4] = some z3 from hi 3 (by omega))
        obtain ⟨b4, f4, _, v4⟩ := DataW.trod_int Try.underlying5 (show DataW.trod enc Try.prog w base spare held q 5 [c5] = some z4 from hi 4 (by omega))
        obtain ⟨b5, f5, _, v5⟩ := DataW.trod_int Try.underlying5 (show DataW.trod enc Try.prog w base spare held q 5 [c6] = some z5 from hi 5 (by omega))
        obtain ⟨b6, f6, _, v6⟩ := DataW.trod_int Try.underlying5 (show DataW.trod enc Try.prog w base spare held q 5 [c7] = some z6 from hi 6 (by omega))
        obtain ⟨b7, f7, _, v7⟩ := DataW.trod_int Try.underlying5 (show DataW.trod enc Try.prog w base spare held q 5 [c8] = some z7 from hi 7 (by omega))
        simp only [List.cons.injEq, and_true] at e0 f0 f1 f2 f3 f4 f5 f6 f7
        subst e0 f0 f1 f2 f3 f4 f5 f6 f7
        exact ⟨⟨m, b0, b1, b2, b3, b4, b5, b6, b7⟩, rfl, i64_of w0, byt_of v0, byt_of v1, byt_of v2, byt_of v3, byt_of v4, byt_of v5, byt_of v6, byt_of v7⟩
theorem open_key {r : Reach} {b0 : Nat} {v : Value} {d : DataW H} {p : List MemPlace} (hv : Value.okWide Try.prog w r b0 27 v) (h : DataW.Trod enc Try.prog w base spare held 27 v d p) : ∃ k : RK, v = kv k ∧ k.wf := by
  obtain ⟨cs, rfl, _⟩ := okWide_struct Try.underlying27 hv
  obtain ⟨fuel, hf⟩ := h
  obtain ⟨k, hk, wk⟩ := trod_key hf
  refine ⟨k, ?_, wk⟩
  have hk : cs.toList = kc k := hk
  rw [show cs = (kc k).toArray from by rw [← hk]]
theorem add_spot {a : Addr} {v : Value} (h : w.cell? a = some v) : a.spot = none := World.cell?_spot h
end
end Go.Proofs.Ytbfldfmghlknmaa
