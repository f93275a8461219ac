/- Steps, marks that came in, as the laws of package latch take them. -/
import Derived.Test.YtbnphkiipjgfaaaLaQ
import Derived.Test.YtbnphkiipjgfaaaOpen
import Derived.Deep.Slices
import Derived.ProofKit
import Derived.OpenShut
namespace Go.Proofs.Ytbnphkiipjgfaaa
set_option linter.unusedVariables false
set_option linter.unusedSimpArgs false
open Go.RowKit Go.ChangeShapes Go.WideShapes Go.Deep
structure RStep where
  what : Int
  t : Int
  wr : Bool
def stepC (s : RStep) : List Value := [.int .i64 s.what, .int .i64 s.t, .bool s.wr]
def RStep.wf (s : RStep) : Prop := Is64 s.what ∧ Is64 s.t
def bls (l : List Bool) : List Value := l.map Value.bool
theorem bls_len (l : List Bool) : (bls l).length = l.length := by simp [bls]
theorem bls_get {l : List Bool} {j : Nat} {b : Bool} (h : l[j]? = some b) : (bls l)[j]? = some (.bool b) := by simp [bls, h]
theorem stepC_wid (l : List RStep) : Wid stepC 3 l := fun _ _ => rfl
theorem step_ty : Sty Try.prog 29 3 := ⟨by kernel_rfl, ⟨_, Try.underlying29, rfl⟩⟩
theorem step_cells : Try.prog.cellsOf 29 = 3 := by kernel_rfl
theorem int_cells' : Try.prog.cellsOf 3 = 1 := by kernel_rfl
theorem bool_cells' : Try.prog.cellsOf 4 = 1 := by kernel_rfl
section
variable {H : Type} {enc : TypeId × Value → H} {w : World} {base : Nat} {spare : Nat → Bool} {held : Bool}
theorem i64_of {z : Int} (h : (Lit.int .i64 z).wf = true) : Is64 z := bd_i64 h
theorem trod_step {fuel : Nat} {cs : List Value} {x : DataW H × List MemPlace} (h : DataW.trod enc Try.prog w base spare held fuel 29 cs = some x) : ∃ s : RStep, cs = stepC s ∧ s.wf := by
  obtain ⟨xs, n, _, _, hlen, hxs, hf⟩ := DataW.trod_struct Try.underlying29 h
  rw [step_cells] at hlen
  match cs, hlen with
  | [c0, c1, c2], _ =>
    match xs, hxs with
    | [y0, y1, y2], _ =>
      have h0 : DataW.trod enc Try.prog w base spare held n 3 (([c0, c1, c2].drop 0).take (Try.prog.cellsOf 3)) = some y0 := hf 0 _ rfl
      have h1 : DataW.trod enc Try.prog w base spare held n 3 (([c0, c1, c2].drop 1).take (Try.prog.cellsOf 3)) = some y1 := hf 1 _ rfl
      have h2 : DataW.trod enc Try.prog w base spare held n 4 (([c0, c1, c2].drop 2).take (Try.prog.cellsOf 4)) = some y2 := hf 2 _ rfl
      rw [int_cells'] at h0 h1
      rw [bool_cells'] at h2
      obtain ⟨m0, e0, _, w0⟩ := DataW.trod_int Try.underlying3 (show DataW.trod enc Try.prog w base spare held n 3 [c0] = some y0 from h0)
      obtain ⟨m1, e1, _, w1⟩ := DataW.trod_int Try.underlying3 (show DataW.trod enc Try.prog w base spare held n 3 [c1] = some y1 from h1)
      obtain ⟨m2, e2, _⟩ := DataW.trod_bool Try.underlying4 (show DataW.trod enc Try.prog w base spare held n 4 [c2] = some y2 from h2)
      simp only [List.cons.injEq, and_true] at e0 e1 e2
      subst e0 e1 e2
      exact ⟨⟨m0, m1, m2⟩, rfl, i64_of w0, i64_of w1⟩
theorem trod_mark {fuel : Nat} {cs : List Value} {x : DataW H × List MemPlace} (h : DataW.trod enc Try.prog w base spare held fuel 4 cs = some x) : ∃ b : Bool, cs = [Value.bool b] ∧ True := by
  obtain ⟨m2, e2, _⟩ := DataW.trod_bool Try.underlying4 h
  exact ⟨m2, e2, trivial⟩
/-- A slice of structs that came in, by what reads as one. -/
theorem open_rows {α : Type} {c : α → List Value} {wf : α → Prop} {sT eT n : Nat} (hu : Try.prog.underlying sT = some (.slice eT)) (hn : Try.prog.cellsOf eT = n) (hn0 : 0 < n) (hlen : ∀ a, (c a).length = n)
    (hone : ∀ {fuel : Nat} {cs : List Value} {x : DataW H × List MemPlace}, DataW.trod enc Try.prog w 0 spare held fuel eT cs = some x → ∃ s : α, cs = c s ∧ wf s)
    {r : Reach} {b0 : Nat} {v : Value} {d : DataW H} {p : List MemPlace} (hv : Value.okWide Try.prog w r b0 sT v) (h : DataW.Trod enc Try.prog w 0 spare held sT v d p) :
    ∃ (A : Option Addr) (m cc : Nat) (ks : List α), v = .slice A m cc ∧ ks.length = m ∧ m ≤ maxLen ∧ (∀ k ∈ ks, wf k) ∧ Has w w.heap.size A (rows c ks) := by
  obtain ⟨A, m, cc, rfl⟩ := okWide_slice hu hv
  obtain ⟨fuel, hf⟩ := h
  rcases open_slice hu hf with ⟨hcs, _⟩ | ⟨a, len, cap, m', q, D, Pl, hcs, _, hl, hcm, hm, _, hi⟩
  · simp [Value.cells] at hcs
    obtain ⟨rfl, rfl, rfl⟩ := hcs
    exact ⟨none, 0, 0, [], rfl, rfl, Nat.zero_le _, by simp, by intro j u hu; simp [rows] at hu⟩
  · simp [Value.cells] at hcs
    obtain ⟨rfl, rfl, rfl⟩ := hcs
    have hmm : m ≤ m' := by rw [hm]; split <;> omega
    have hk : ∀ i, i < m → ∃ k : α, wf k ∧ ∀ j v, (c k)[j]? = some v → w.cell? (a.add (i * n + j)) = some v := fun i hin => by
      obtain ⟨cs', hc, ht⟩ := hi i (by omega)
      rw [hn] at hc
      obtain ⟨k, rfl, wk⟩ := hone ht
      obtain ⟨_, _, hat⟩ := World.cells?_some hc
      refine ⟨k, wk, fun j v hj => ?_⟩
      have hj9 : j < n := by rw [← hlen k]; exact (List.getElem?_eq_some_iff.1 hj).1
      have := hat j hj9
      rw [Go.Deep.add_add] at this
      rw [this]; exact hj
    have hall : ∀ l, l ≤ m → ∃ ks : List α, ks.length = l ∧ (∀ k ∈ ks, wf k) ∧ ∀ i k, ks[i]? = some k → ∀ j v, (c k)[j]? = some v → w.cell? (a.add (i * n + j)) = some v := by
      intro l
      induction l with
      | zero => intro _; exact ⟨[], rfl, by simp, fun i k h => by simp at h⟩
      | succ l ih =>
        intro hl2
        obtain ⟨ks, h1, h2, h3⟩ := ih (by omega)
        obtain ⟨k, wk, hkc⟩ := hk l (by omega)
        refine ⟨ks ++ [k], by simp [h1], fun x hx => ?_, fun i x hx => ?_⟩
        · rcases List.mem_append.1 hx with e | e
          · exact h2 x e
          · simp at e; rw [e]; exact wk
        · by_cases e : i < ks.length
          · rw [List.getElem?_append_left e] at hx; exact h3 i x hx
          · have hi2 := (List.getElem?_eq_some_iff.1 hx).1
            simp at hi2
            have e2 : i = ks.length := by omega
            subst e2
            simp at hx
            subst hx
            rw [h1]; exact hkc
    obtain ⟨ks, h1, h2, h3⟩ := hall m (Nat.le_refl _)
    refine ⟨some a, m, cc, ks, rfl, h1, Nat.le_trans hl hcm, h2, fun j u hu => ?_⟩
    have hw : Wid c n ks := fun x _ => hlen x
    have hj : j < (rows c ks).length := (List.getElem?_eq_some_iff.1 hu).1
    rw [rows_len hw] at hj
    have hjq : j / n < ks.length := Nat.div_lt_of_lt_mul (by rw [Nat.mul_comm]; exact hj)
    have hjr : j % n < n := Nat.mod_lt _ hn0
    have hjj : j / n * n + j % n = j := by rw [Nat.mul_comm]; exact Nat.div_add_mod j n
    obtain ⟨k, hk⟩ : ∃ k, ks[j / n]? = some k := ⟨ks[j / n]'hjq, List.getElem?_eq_getElem _⟩
    have hg := rows_get hw hk (j % n) hjr
    rw [hjj, hu] at hg
    have hcell := h3 (j / n) k hk (j % n) u hg.symm
    rw [hjj] at hcell
    have hs : a.spot = none := by
      obtain ⟨k1, hk1⟩ : ∃ k1, ks[0]? = some k1 := ⟨ks[0]'(Nat.lt_of_le_of_lt (Nat.zero_le _) hjq), List.getElem?_eq_getElem _⟩
      obtain ⟨v0, hv0⟩ : ∃ v0, (c k1)[0]? = some v0 := ⟨_, List.getElem?_eq_getElem (by rw [hlen]; exact hn0)⟩
      have h0 := h3 0 k1 hk1 0 _ hv0
      exact World.cell?_spot (by simpa [Addr.add] using h0)
    obtain ⟨b, off, sp⟩ := a
    simp only at hs
    subst hs
    rw [Addr.add_lit] at hcell
    exact ⟨b, off, rfl, World.block_lt_of_cell? w _ hcell, hcell⟩
theorem open_steps {r : Reach} {b0 : Nat} {v : Value} {d : DataW H} {p : List MemPlace} (hv : Value.okWide Try.prog w r b0 22 v) (h : DataW.Trod enc Try.prog w 0 spare held 22 v d p) :
    ∃ (A : Option Addr) (m cc : Nat) (ks : List RStep), v = .slice A m cc ∧ ks.length = m ∧ m ≤ maxLen ∧ (∀ k ∈ ks, k.wf) ∧ Has w w.heap.size A (rows stepC ks) :=
  open_rows Try.underlying22 step_cells (by decide) (fun _ => rfl) trod_step hv h
theorem open_bools {r : Reach} {b0 : Nat} {v : Value} {d : DataW H} {p : List MemPlace} (hv : Value.okWide Try.prog w r b0 52 v) (h : DataW.Trod enc Try.prog w 0 spare held 52 v d p) :
    ∃ (A : Option Addr) (m cc : Nat) (ks : List Bool), v = .slice A m cc ∧ ks.length = m ∧ m ≤ maxLen ∧ Has w w.heap.size A (bls ks) := by
  obtain ⟨A, m, cc, ks, e, h1, h2, h3, h4⟩ := open_rows (c := fun z => [Value.bool z]) (wf := fun _ => True) Try.underlying52 bool_cells' (by decide) (fun _ => rfl) trod_mark hv h
  have e4 : rows (fun z => [Value.bool z]) ks = bls ks := rows_map _ _
  rw [e4] at h4
  exact ⟨A, m, cc, ks, e, h1, h2, h4⟩
end
end Go.Proofs.Ytbnphkiipjgfaaa
