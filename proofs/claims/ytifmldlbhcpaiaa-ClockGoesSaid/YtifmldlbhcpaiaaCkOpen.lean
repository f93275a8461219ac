/- Marks that came in, as the laws of package clock take them. -/
import Derived.Test.YtifmldlbhcpaiaaCkS
import Derived.Test.YtifmldlbhcpaiaaOpen
import Derived.Deep.Slices
import Derived.ProofKit
import Derived.OpenShut
namespace Go.Proofs.Ytifmldlbhcpaiaa
set_option linter.unusedVariables false
set_option linter.unusedSimpArgs false
open Go.RowKit Go.ChangeShapes Go.WideShapes Go.Deep
theorem bool_cells' : Try.prog.cellsOf 4 = 1 := by kernel_rfl
section
variable {H : Type} {enc : TypeId × Value → H} {w : World} {base : Nat} {spare : Nat → Bool} {held : Bool}
theorem trod_mark {fuel : Nat} {cs : List Value} {x : DataW H × List MemPlace} (h : DataW.trod enc Try.prog w base spare held fuel 4 cs = some x) : ∃ b : Bool, cs = [Value.bool b] ∧ True := by
  obtain ⟨m2, e2, _⟩ := DataW.trod_bool Try.underlying4 h
  exact ⟨m2, e2, trivial⟩
/-- A slice of structs that came in, by what reads as one. -/
theorem open_rows {α : Type} {c : α → List Value} {wf : α → Prop} {sT eT n : Nat} (hu : Try.prog.underlying sT = some (.slice eT)) (hn : Try.prog.cellsOf eT = n) (hn0 : 0 < n) (hlen : ∀ a, (c a).length = n)
    (hone : ∀ {fuel : Nat} {cs : List Value} {x : DataW H × List MemPlace}, DataW.trod enc Try.prog w 0 spare held fuel eT cs = some x → ∃ s : α, cs = c s ∧ wf s)
    {r : Reach} {b0 : Nat} {v : Value} {d : DataW H} {p : List MemPlace} (hv : Value.okWide Try.prog w r b0 sT v) (h : DataW.Trod enc Try.prog w 0 spare held sT v d p) :
    ∃ (A : Option Addr) (m cc : Nat) (ks : List α), v = .slice A m cc ∧ ks.length = m ∧ m ≤ maxLen ∧ (∀ k ∈ ks, wf k) ∧ Has w w.heap.size A (rows c ks) := by
  obtain ⟨A, m, cc, rfl⟩ := okWide_slice hu hv
  obtain ⟨fuel, hf⟩ := h
  rcases open_slice hu hf with ⟨hcs, _⟩ | ⟨a, len, cap, m', q, D, Pl, hcs, _, hl, hcm, hm, _, hi⟩
  · simp [Value.cells] at hcs
    obtain ⟨rfl, rfl, rfl⟩ := hcs
    exact ⟨none, 0, 0, [], rfl, rfl, Nat.zero_le _, by simp, by intro j u hu; simp [rows] at hu⟩
  · simp [Value.cells] at hcs
    obtain ⟨rfl, rfl, rfl⟩ := hcs
    have hmm : m ≤ m' := by rw [hm]; split <;> omega
    have hk : ∀ i, i < m → ∃ k : α, wf k ∧ ∀ j v, (c k)[j]? = some v → w.cell? (a.add (i * n + j)) = some v := fun i hin => by
      obtain ⟨cs', hc, ht⟩ := hi i (by omega)
      rw [hn] at hc
      obtain ⟨k, rfl, wk⟩ := hone ht
      obtain ⟨_, _, hat⟩ := World.cells?_some hc
      refine ⟨k, wk, fun j v hj => ?_⟩
      have hj9 : j < n := by rw [← hlen k]; exact (List.getElem?_eq_some_iff.1 hj).1
      have := hat j hj9
      rw [Go.Deep.add_add] at this
      rw [this]; exact hj
    have hall : ∀ l, l ≤ m → ∃ ks : List α, ks.length = l ∧ (∀ k ∈ ks, wf k) ∧ ∀ i k, ks[i]? = some k → ∀ j v, (c k)[j]? = some v → w.cell? (a.add (i * n + j)) = some v := by
      intro l
      induction l with
      | zero => intro _; exact ⟨[], rfl, by simp, fun i k h => by simp at h⟩
      | succ l ih =>
        intro hl2
        obtain ⟨ks, h1, h2, h3⟩ := ih (by omega)
        obtain ⟨k, wk, hkc⟩ := hk l (by omega)
        refine ⟨ks ++ [k], by simp [h1], fun x hx => ?_, fun i x hx => ?_⟩
        · rcases List.mem_append.1 hx with e | e
          · exact h2 x e
          · simp at e; rw [e]; exact wk
        · by_cases e : i < ks.length
          · rw [List.getElem?_append_left e] at hx; exact h3 i x hx
          · have hi2 := (List.getElem?_eq_some_iff.1 hx).1
            simp at hi2
            have e2 : i = ks.length := by omega
            subst e2
            simp at hx
            subst hx
            rw [h1]; exact hkc
    obtain ⟨ks, h1, h2, h3⟩ := hall m (Nat.le_refl _)
    refine ⟨some a, m, cc, ks, rfl, h1, Nat.le_trans hl hcm, h2, fun j u hu => ?_⟩
    have hw : Wid c n ks := fun x _ => hlen x
    have hj : j < (rows c ks).length := (List.getElem?_eq_some_iff.1 hu).1
    rw [rows_len hw] at hj
    have hjq : j / n < ks.length := Nat.div_lt_of_lt_mul (by rw [Nat.mul_comm]; exact hj)
    have hjr : j % n < n := Nat.mod_lt _ hn0
    have hjj : j / n * n + j % n = j := by rw [Nat.mul_comm]; exact Nat.div_add_mod j n
    obtain ⟨k, hk⟩ : ∃ k, ks[j / n]? = some k := ⟨ks[j / n]'hjq, List.getElem?_eq_getElem _⟩
    have hg := rows_get hw hk (j % n) hjr
    rw [hjj, hu] at hg
    have hcell := h3 (j / n) k hk (j % n) u hg.symm
    rw [hjj] at hcell
    have hs : a.spot = none := by
      obtain ⟨k1, hk1⟩ : ∃ k1, ks[0]? = some k1 := ⟨ks[0]'(Nat.lt_of_le_of_lt (Nat.zero_le _) hjq), List.getElem?_eq_getElem _⟩
      obtain ⟨v0, hv0⟩ : ∃ v0, (c k1)[0]? = some v0 := ⟨_, List.getElem?_eq_getElem (by rw [hlen]; exact hn0)⟩
      have h0 := h3 0 k1 hk1 0 _ hv0
      exact World.cell?_spot (by simpa [Addr.add] using h0)
    obtain ⟨b, off, sp⟩ := a
    simp only at hs
    subst hs
    rw [Addr.add_lit] at hcell
    exact ⟨b, off, rfl, World.block_lt_of_cell? w _ hcell, hcell⟩
theorem open_bools {r : Reach} {b0 : Nat} {v : Value} {d : DataW H} {p : List MemPlace} (hv : Value.okWide Try.prog w r b0 22 v) (h : DataW.Trod enc Try.prog w 0 spare held 22 v d p) :
    ∃ (A : Option Addr) (m cc : Nat) (ks : List Bool), v = .slice A m cc ∧ ks.length = m ∧ m ≤ maxLen ∧ Has w w.heap.size A (bls ks) := by
  obtain ⟨A, m, cc, ks, e, h1, h2, h3, h4⟩ := open_rows (c := fun z => [Value.bool z]) (wf := fun _ => True) Try.underlying22 bool_cells' (by decide) (fun _ => rfl) trod_mark hv h
  have e4 : rows (fun z => [Value.bool z]) ks = bls ks := rows_map _ _
  rw [e4] at h4
  exact ⟨A, m, cc, ks, e, h1, h2, h4⟩
end
end Go.Proofs.Ytifmldlbhcpaiaa
