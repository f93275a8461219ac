/- Rows of numbers that came in, and with their room. -/
import Derived.Test.YtmjjjdikpnhpiaaGreatKeyA
import Derived.Test.YtmjjjdikpnhpiaaGreatValA
import Derived.Test.YtmjjjdikpnhpiaaGreatMsg0
import Derived.Deep.Slices
import Derived.ProofKit
import Derived.OpenShut
import Derived.ChangeSlices
import Derived.ChangeArms
import Derived.SizedLaws
namespace Go.Proofs.YtmjjjdikpnhpiaaGreat
set_option linter.unusedVariables false
set_option linter.unusedSimpArgs false
set_option maxRecDepth 100000
open Go.RowKit
open Go.ChangeShapes Go.WideShapes Go.Deep
theorem zhQ {k : IntKind} {w : World} {a : Option Addr} {len cap : Nat} {zs : List Int}
 (h : (a = none ∧ len = 0 ∧ cap = 0 ∧ zs = []) ∨ ∃ x, a = some x ∧ len ≤ cap ∧ cap ≤ maxLen ∧ zs.length = cap ∧ (∀ i, i < zs.length → w.cell? (x.add i) = some (.int k (zs.getD i 0))) ∧ ∀ n ∈ zs, (Lit.int k n).wf = true) :
 ∃ ys : List Int, ys.length = len ∧ len ≤ cap ∧ (∀ z ∈ ys, (Lit.int k z).wf = true) ∧ Has w w.heap.size a (ys.map (Value.int k)) ∧ ((a = none ∧ cap = 0) ∨ (∃ b off, a = some ⟨b, off, none⟩) ∨ cap = 0) := by
 rcases h with ⟨rfl, rfl, rfl, rfl⟩ | ⟨x, rfl, hl, hm, hz, hc, hw⟩
 ·exact ⟨[], rfl, Nat.le_refl _, by simp, Has.nil, .inl ⟨rfl, rfl⟩⟩
 ·have hs : 0 < cap → x.spot = none := fun h => by
   have h0 := hc 0 (by omega);exact World.cell?_spot (by simpa [Addr.add] using h0)
  refine ⟨zs.take len, by simp; omega, hl, fun z hz => hw z (List.mem_of_mem_take hz), fun j u hu => ?_, ?_⟩
  ·have hj : j < len ∧ j < zs.length := by
    have := (List.getElem?_eq_some_iff.1 hu).1;simp at this;omega
   have hcj := hc j hj.2;have hs := hs (by omega);obtain ⟨b, off, sp⟩ := x;simp only at hs;subst hs;rw [Addr.add_lit] at hcj;refine ⟨b, off, rfl, World.block_lt_of_cell? w _ hcj, ?_⟩;rw [hcj];simp [hj.1, hj.2] at hu ⊢;exact hu
  ·by_cases h0 : cap = 0
   ·exact .inr (.inr h0)
   ·have hs := hs (by omega)
    obtain ⟨b, off, sp⟩ := x;simp only at hs;subst hs;exact .inr (.inl ⟨b, off, rfl⟩)
theorem i64_of {z : Int} (h : (Lit.int .i64 z).wf = true) : -9223372036854775808 ≤ z ∧ z ≤ 9223372036854775807 := by
 simpa [Lit.wf, IntKind.min, IntKind.max, IntKind.signed, IntKind.bits] using h
theorem int_bytes : Tryz.prog.bytesOf 3 = 8 := by kernel_rfl
section
variable {H : Type} {enc : TypeId × Value → H} {w : World} {base : Nat} {spare : Nat → Bool} {held : Bool}
theorem open_row {r : Reach} {b0 : Nat} {v : Value} {d : DataW H} {p : List MemPlace} (hv : Value.okWide Tryz.prog w r b0 22 v) (h : DataW.Trod enc Tryz.prog w 0 (fun _ => true) held 22 v d p) :
 ∃ (A : Option Addr) (n c : Nat) (ys : List Int), v = .slice A n c ∧ ys.length = n ∧ n ≤ c ∧ n ≤ maxLen ∧ (∀ z ∈ ys, zal z) ∧ Has w w.heap.size A (ys.map (Value.int .i64)) := by
 obtain ⟨A, n, c, rfl⟩ := okWide_slice Tryz.underlying22 hv;obtain ⟨fuel, hf⟩ := h
 rcases open_ints Tryz.underlying22 Tryz.underlying3 zcT hf with ⟨hcs, _⟩ | ⟨a, len, cap, zs, hcs, _, hl, hm, hz, _, hc, hw⟩
 ·simp [Value.cells] at hcs
  obtain ⟨rfl, rfl, rfl⟩ := hcs;exact ⟨none, 0, 0, [], rfl, rfl, Nat.le_refl _, Nat.zero_le _, by simp, Has.nil⟩
 ·simp [Value.cells] at hcs
  obtain ⟨rfl, rfl, rfl⟩ := hcs;obtain ⟨ys, e1, e2, e3, e4, _⟩ := zhQ (.inr ⟨a, rfl, hl, hm, by simpa using hz, hc, hw⟩);exact ⟨some a, n, c, ys, rfl, e1, e2, Nat.le_trans hl hm, fun z hz => i64_of (e3 z hz), e4⟩
theorem open_rowz {r : Reach} {b0 : Nat} {v : Value} {d : DataW H} {p : List MemPlace} (hv : Value.okWide Tryz.prog w r b0 22 v) (h : DataW.Trod enc Tryz.prog w 0 (fun _ => true) held 22 v d p) (hz : ∀ e sp, d = .slice e sp → (e.length + sp.length) * 8 ≤ 140737488351232) :
 ∃ (A : Option Addr) (n c : Nat) (ys : List Int), v = .slice A n c ∧ ys.length = n ∧ n ≤ c ∧ n * 8 ≤ 140737488351232 ∧ (∀ z ∈ ys, zal z) ∧ Has w w.heap.size A (ys.map (Value.int .i64)) := by
 obtain ⟨A, n, c, rfl⟩ := okWide_slice Tryz.underlying22 hv;obtain ⟨fuel, hf⟩ := h
 rcases open_ints Tryz.underlying22 Tryz.underlying3 zcT hf with ⟨hcs, _⟩ | ⟨a, len, cap, zs, hcs, _, hl, hm, hzl, hx, hc, hw⟩
 ·simp [Value.cells] at hcs
  obtain ⟨rfl, rfl, rfl⟩ := hcs;exact ⟨none, 0, 0, [], rfl, rfl, Nat.le_refl _, by omega, by simp, Has.nil⟩
 ·simp [Value.cells] at hcs
  obtain ⟨rfl, rfl, rfl⟩ := hcs
  injection hx with hd _
  have hzl' : zs.length = c := by simpa using hzl
  have h8 := hz _ _ hd;simp only [lits, List.length_map, List.length_take, List.length_drop, hzl'] at h8;obtain ⟨ys, e1, e2, e3, e4, _⟩ := zhQ (.inr ⟨a, rfl, hl, hm, hzl', hc, hw⟩);exact ⟨some a, n, c, ys, rfl, e1, e2, by omega, fun z hz => i64_of (e3 z hz), e4⟩
end
end Go.Proofs.YtmjjjdikpnhpiaaGreat
