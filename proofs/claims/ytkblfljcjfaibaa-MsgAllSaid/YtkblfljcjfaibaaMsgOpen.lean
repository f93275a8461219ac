/- Messages that came in; a row of 64-bit numbers that came in. -/
import Derived.Test.YtkblfljcjfaibaaMsg0
import Derived.Test.YtkblfljcjfaibaaOpen
import Derived.Test.YtkblfljcjfaibaaKeyOpen
import Derived.Test.YtkblfljcjfaibaaValOpen
import Derived.ChangeSlices
import Derived.ChangeArms
namespace Go.Proofs.Ytkblfljcjfaibaa
open Go.RowKit Go.ChangeShapes Go.WideShapes Go.Deep
set_option linter.unusedVariables false
theorem parts29 (cs : List Value) (h : cs.length = 29) : cs = cs.take 1 ++ ((cs.drop 1).take 1 ++ ((cs.drop 2).take 9 ++ ((cs.drop 11).take 17 ++ (cs.drop 28).take 1))) := by
  have e0 : cs = cs.take 1 ++ cs.drop 1 := (List.take_append_drop 1 cs).symm
  have e1 : cs.drop 1 = (cs.drop 1).take 1 ++ cs.drop 2 := by
    have := (List.take_append_drop 1 (cs.drop 1)).symm
    rwa [List.drop_drop] at this
  have e2 : cs.drop 2 = (cs.drop 2).take 9 ++ cs.drop 11 := by
    have := (List.take_append_drop 9 (cs.drop 2)).symm
    rwa [List.drop_drop] at this
  have e3 : cs.drop 11 = (cs.drop 11).take 17 ++ cs.drop 28 := by
    have := (List.take_append_drop 17 (cs.drop 11)).symm
    rwa [List.drop_drop] at this
  have e4 : cs.drop 28 = (cs.drop 28).take 1 := (List.take_of_length_le (by simp [h])).symm
  rw [← e4, ← e3, ← e2, ← e1]
  exact e0
section
variable {H : Type} {enc : TypeId × Value → H} {w : World} {base : Nat} {spare : Nat → Bool} {held : Bool}
theorem us64_of {z : Int} (h : (Lit.int .u64 z).wf = true) : Us64 z := by
  have := bd_u64 h
  unfold Us64; omega
/-- What reads as a message is 29 cells. -/
theorem trod_msg {fuel : Nat} {cs : List Value} {x : DataW H × List MemPlace} (h : DataW.trod enc Try.prog w base spare held fuel 30 cs = some x) : ∃ m : RM, cs = mc m ∧ m.wf := by
  obtain ⟨xs, n, _, _, hlen, hxs, hf⟩ := DataW.trod_struct Try.underlying30 h
  rw [msg_cells] at hlen
  match xs, hxs with
  | [y0, y1, y2, y3, y4], _ =>
    have h0 : DataW.trod enc Try.prog w base spare held n 3 ((cs.drop 0).take (Try.prog.cellsOf 3)) = some y0 := hf 0 _ rfl
    have h1 : DataW.trod enc Try.prog w base spare held n 22 ((cs.drop 1).take (Try.prog.cellsOf 22)) = some y1 := hf 1 _ rfl
    have h2 : DataW.trod enc Try.prog w base spare held n 25 ((cs.drop 2).take (Try.prog.cellsOf 25)) = some y2 := hf 2 _ rfl
    have h3 : DataW.trod enc Try.prog w base spare held n 28 ((cs.drop 11).take (Try.prog.cellsOf 28)) = some y3 := hf 3 _ rfl
    have h4 : DataW.trod enc Try.prog w base spare held n 22 ((cs.drop 28).take (Try.prog.cellsOf 22)) = some y4 := hf 4 _ rfl
    rw [int_cells, List.drop_zero] at h0
    rw [u64_cells] at h1 h4
    rw [key_cells] at h2
    rw [val_cells] at h3
    obtain ⟨z0, e0, _, w0⟩ := DataW.trod_int Try.underlying3 h0
    obtain ⟨z1, e1, _, w1⟩ := DataW.trod_int Try.underlying22 h1
    obtain ⟨k, e2, wk⟩ := trod_key h2
    obtain ⟨v, e3, wv⟩ := trod_val h3
    obtain ⟨z4, e4, _, w4⟩ := DataW.trod_int Try.underlying22 h4
    refine ⟨⟨z0, z1, k, v, z4⟩, ?_, ⟨i64_of w0, us64_of w1, wk, wv, us64_of w4⟩⟩
    rw [parts29 cs hlen, e0, e1, e2, e3, e4]
    rfl
theorem open_msg {r : Reach} {b0 : Nat} {v : Value} {d : DataW H} {p : List MemPlace} (hv : Value.okWide Try.prog w r b0 30 v) (h : DataW.Trod enc Try.prog w base spare held 30 v d p) : ∃ m : RM, v = mm m ∧ m.wf := by
  obtain ⟨cs, rfl, _⟩ := okWide_struct Try.underlying30 hv
  obtain ⟨fuel, hf⟩ := h
  obtain ⟨m, hm, wm⟩ := trod_msg hf
  refine ⟨m, ?_, wm⟩
  have hm : cs.toList = mc m := hm
  rw [show cs = (mc m).toArray from by rw [← hm]]
theorem open_flag {r : Reach} {b0 : Nat} {t : TypeId} {v : Value} {d : DataW H} {ps : List MemPlace} (ht : Try.prog.underlying t = some .bool) (hv : Value.okWide Try.prog w r b0 t v) (h : DataW.Trod enc Try.prog w base spare held t v d ps) : ∃ b, v = .bool b := okWide_bool ht hv
theorem open_u64s {r : Reach} {b0 : Nat} {v : Value} {d : DataW H} {p : List MemPlace} (hv : Value.okWide Try.prog w r b0 44 v) (h : DataW.Trod enc Try.prog w 0 (fun _ => true) held 44 v d p) :
    ∃ (A : Option Addr) (n c : Nat) (ys : List Int), v = .slice A n c ∧ ys.length = n ∧ n ≤ c ∧ n ≤ maxLen ∧ (∀ z ∈ ys, Us64 z) ∧ Has w w.heap.size A (ys.map (Value.int .u64)) := by
  obtain ⟨A, n, c, rfl⟩ := okWide_slice Try.underlying44 hv
  obtain ⟨fuel, hf⟩ := h
  rcases open_ints Try.underlying44 Try.underlying22 u64_cells hf with ⟨hcs, _⟩ | ⟨a, len, cap, zs, hcs, _, hl, hm, hz, _, hc, hw⟩
  · simp [Value.cells] at hcs
    obtain ⟨rfl, rfl, rfl⟩ := hcs
    exact ⟨none, 0, 0, [], rfl, rfl, Nat.le_refl _, Nat.zero_le _, by simp, Has.nil⟩
  · simp [Value.cells] at hcs
    obtain ⟨rfl, rfl, rfl⟩ := hcs
    obtain ⟨ys, e1, e2, e3, e4, _⟩ := has_of_row (.inr ⟨a, rfl, hl, hm, by simpa using hz, hc, hw⟩)
    exact ⟨some a, n, c, ys, rfl, e1, e2, Nat.le_trans hl hm, fun z hz => us64_of (e3 z hz), e4⟩
end
end Go.Proofs.Ytkblfljcjfaibaa
