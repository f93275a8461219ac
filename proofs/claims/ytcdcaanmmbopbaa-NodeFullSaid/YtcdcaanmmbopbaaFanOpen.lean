/- Rows of keys that came in; rows of numbers with their room. -/
import Derived.Test.YtcdcaanmmbopbaaOrP
import Derived.Test.YtcdcaanmmbopbaaLfM
import Derived.Deep.Slices
import Derived.ProofKit
import Derived.OpenShut
import Derived.ChangeSlices
import Derived.ChangeArms
import Derived.SizedLaws
namespace Go.Proofs.Ytcdcaanmmbopbaa
set_option maxRecDepth 100000
open Go.RowKit Go.ChangeShapes Go.WideShapes Go.Deep
set_option linter.unusedVariables false
theorem int_bytes : Try.prog.bytesOf 3 = 8 := by kernel_rfl
section
variable {H : Type} {enc : TypeId × Value → H} {w : World} {base : Nat} {spare : Nat → Bool} {held : Bool}
/-- A slice of keys that came in. -/
theorem open_keys {r : Reach} {b0 : Nat} {v : Value} {d : DataW H} {p : List MemPlace} (hv : Value.okWide Try.prog w r b0 24 v) (h : DataW.Trod enc Try.prog w 0 spare held 24 v d p) :
    ∃ (A : Option Addr) (n c : Nat) (ks : List RK), v = .slice A n c ∧ ks.length = n ∧ n ≤ maxLen ∧ WfAll ks ∧ Has w w.heap.size A (flat ks) := by
  obtain ⟨A, n, c, rfl⟩ := okWide_slice Try.underlying24 hv
  obtain ⟨fuel, hf⟩ := h
  rcases open_slice Try.underlying24 hf with ⟨hcs, _⟩ | ⟨a, len, cap, m, q, D, Pl, hcs, _, hl, hcm, hm, _, hi⟩
  · simp [Value.cells] at hcs
    obtain ⟨rfl, rfl, rfl⟩ := hcs
    exact ⟨none, 0, 0, [], rfl, rfl, Nat.zero_le _, by simp [WfAll], by intro j u hu; simp [flat] at hu⟩
  · simp [Value.cells] at hcs
    obtain ⟨rfl, rfl, rfl⟩ := hcs
    have hmm : n ≤ m := by rw [hm]; split <;> omega
    have hk : ∀ i, i < n → ∃ k : RK, k.wf ∧ ∀ j v, (kc k)[j]? = some v → w.cell? (a.add (i * 9 + j)) = some v := fun i hin => by
      obtain ⟨cs', hc, ht⟩ := hi i (by omega)
      rw [key_cells] at hc
      obtain ⟨k, rfl, wk⟩ := trod_key ht
      obtain ⟨_, _, hat⟩ := World.cells?_some hc
      refine ⟨k, wk, fun j v hj => ?_⟩
      have hj9 : j < 9 := (List.getElem?_eq_some_iff.1 hj).1
      have := hat j hj9
      rw [Go.Deep.add_add] at this
      rw [this]; exact hj
    have hall : ∀ l, l ≤ n → ∃ ks : List RK, ks.length = l ∧ WfAll ks ∧ ∀ i k, ks[i]? = some k → ∀ j v, (kc k)[j]? = some v → w.cell? (a.add (i * 9 + j)) = some v := by
      intro l
      induction l with
      | zero => intro _; exact ⟨[], rfl, by simp [WfAll], fun i k h => by simp at h⟩
      | succ l ih =>
        intro hl2
        obtain ⟨ks, h1, h2, h3⟩ := ih (by omega)
        obtain ⟨k, wk, hkc⟩ := hk l (by omega)
        refine ⟨ks ++ [k], by simp [h1], fun x hx => ?_, fun i x hx => ?_⟩
        · rcases List.mem_append.1 hx with e | e
          · exact h2 x e
          · simp at e; rw [e]; exact wk
        · by_cases e : i < ks.length
          · rw [List.getElem?_append_left e] at hx; exact h3 i x hx
          · have hi2 := (List.getElem?_eq_some_iff.1 hx).1
            simp at hi2
            have e2 : i = ks.length := by omega
            subst e2
            simp at hx
            subst hx
            rw [h1]; exact hkc
    obtain ⟨ks, h1, h2, h3⟩ := hall n (Nat.le_refl _)
    refine ⟨some a, n, c, ks, rfl, h1, Nat.le_trans hl hcm, h2, fun j u hu => ?_⟩
    have hj : j < (flat ks).length := (List.getElem?_eq_some_iff.1 hu).1
    rw [flat_len] at hj
    obtain ⟨k, hk⟩ : ∃ k, ks[j / 9]? = some k := ⟨ks[j / 9]'(by omega), List.getElem?_eq_getElem _⟩
    have hg := flat_get hk (j % 9) (Nat.mod_lt _ (by omega))
    rw [show j / 9 * 9 + j % 9 = j from by omega, hu] at hg
    have hcell := h3 (j / 9) k hk (j % 9) u hg.symm
    rw [show j / 9 * 9 + j % 9 = j from by omega] at hcell
    have hs : a.spot = none := by
      obtain ⟨k1, hk1⟩ : ∃ k1, ks[0]? = some k1 := ⟨ks[0]'(by omega), List.getElem?_eq_getElem _⟩
      have h0 := h3 0 k1 hk1 0 _ rfl
      exact World.cell?_spot (by simpa [Addr.add] using h0)
    obtain ⟨b, off, sp⟩ := a
    simp only at hs
    subst hs
    rw [Addr.add_lit] at hcell
    exact ⟨b, off, rfl, World.block_lt_of_cell? w _ hcell, hcell⟩
theorem open_rowz {r : Reach} {b0 : Nat} {v : Value} {d : DataW H} {p : List MemPlace} (hv : Value.okWide Try.prog w r b0 22 v) (h : DataW.Trod enc Try.prog w 0 (fun _ => true) held 22 v d p) (hz : ∀ e sp, d = .slice e sp → (e.length + sp.length) * 8 ≤ 140737488351232) :
    ∃ (A : Option Addr) (n c : Nat) (ys : List Int), v = .slice A n c ∧ ys.length = n ∧ n ≤ c ∧ n * 8 ≤ 140737488351232 ∧ (∀ z ∈ ys, Is64 z) ∧ Has w w.heap.size A (ys.map (Value.int .i64)) := by
  obtain ⟨A, n, c, rfl⟩ := okWide_slice Try.underlying22 hv
  obtain ⟨fuel, hf⟩ := h
  rcases open_ints Try.underlying22 Try.underlying3 int_cells hf with ⟨hcs, _⟩ | ⟨a, len, cap, zs, hcs, _, hl, hm, hzl, hx, hc, hw⟩
  · simp [Value.cells] at hcs
    obtain ⟨rfl, rfl, rfl⟩ := hcs
    exact ⟨none, 0, 0, [], rfl, rfl, Nat.le_refl _, by omega, by simp, Has.nil⟩
  · simp [Value.cells] at hcs
    obtain ⟨rfl, rfl, rfl⟩ := hcs
    injection hx with hd _
    have hzl' : zs.length = c := by simpa using hzl
    have h8 := hz _ _ hd
    simp only [lits, List.length_map, List.length_take, List.length_drop, hzl'] at h8
    obtain ⟨ys, e1, e2, e3, e4, _⟩ := has_of_row (.inr ⟨a, rfl, hl, hm, hzl', hc, hw⟩)
    exact ⟨some a, n, c, ys, rfl, e1, e2, by omega, fun z hz => i64_of (e3 z hz), e4⟩
end
end Go.Proofs.Ytcdcaanmmbopbaa
