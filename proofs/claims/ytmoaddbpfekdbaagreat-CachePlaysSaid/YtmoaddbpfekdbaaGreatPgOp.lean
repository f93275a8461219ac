/- Steps, marks, bytes that came in, as the laws of package cache take them. -/
import Derived.Test.YtmoaddbpfekdbaaGreatM44
import Derived.Test.YtmoaddbpfekdbaaGreatM25
import Derived.Deep.Slices
import Derived.ProofKit
import Derived.OpenShut
namespace Go.Proofs.YtmoaddbpfekdbaaGreat
set_option linter.unusedVariables false
set_option linter.unusedSimpArgs false
set_option maxRecDepth 100000
open Go.RowKit Go.ChangeShapes Go.WideShapes Go.Deep
def bls (l : List Bool) : List Value := l.map Value.bool
theorem bls_rows (l : List Bool) : rows bc l = bls l := rows_map _ _
def Sp.wf (s : Sp) : Prop := I64 s.what ∧ I64 s.t ∧ I64 s.id ∧ I64 s.n
theorem spc_wid (l : List Sp) : Wid spc 4 l := fun _ _ => rfl
theorem spc_cells : Tryz.prog.cellsOf 32 = 4 := by kernel_rfl
theorem int_cells' : Tryz.prog.cellsOf 3 = 1 := by kernel_rfl
theorem bool_cells' : Tryz.prog.cellsOf 4 = 1 := by kernel_rfl
theorem u8_cells' : Tryz.prog.cellsOf 5 = 1 := by kernel_rfl
section
variable {H : Type} {enc : TypeId × Value → H} {w : World} {base : Nat} {spare : Nat → Bool} {held : Bool}
theorem trod_step {fuel : Nat} {cs : List Value} {x : DataW H × List MemPlace} (h : DataW.trod enc Tryz.prog w base spare held fuel 32 cs = some x) : ∃ s : Sp, cs = spc s ∧ s.wf := by
  obtain ⟨xs, n, _, _, hlen, hxs, hf⟩ := DataW.trod_struct Tryz.underlying32 h
  rw [spc_cells] at hlen
  match cs, hlen with
  | [c0, c1, c2, c3], _ =>
    match xs, hxs with
    | [y0, y1, y2, y3], _ =>
      have h0 : DataW.trod enc Tryz.prog w base spare held n 3 (([c0, c1, c2, c3].drop 0).take (Tryz.prog.cellsOf 3)) = some y0 := hf 0 _ rfl
      have h1 : DataW.trod enc Tryz.prog w base spare held n 3 (([c0, c1, c2, c3].drop 1).take (Tryz.prog.cellsOf 3)) = some y1 := hf 1 _ rfl
      have h2 : DataW.trod enc Tryz.prog w base spare held n 3 (([c0, c1, c2, c3].drop 2).take (Tryz.prog.cellsOf 3)) = some y2 := hf 2 _ rfl
      have h3 : DataW.trod enc Tryz.prog w base spare held n 3 (([c0, c1, c2, c3].drop 3).take (Tryz.prog.cellsOf 3)) = some y3 := hf 3 _ rfl
      rw [int_cells'] at h0 h1 h2 h3
      obtain ⟨m0, e0, _, w0⟩ := DataW.trod_int Tryz.underlying3 (show DataW.trod enc Tryz.prog w base spare held n 3 [c0] = some y0 from h0)
      obtain ⟨m1, e1, _, w1⟩ := DataW.trod_int Tryz.underlying3 (show DataW.trod enc Tryz.prog w base spare held n 3 [c1] = some y1 from h1)
      obtain ⟨m2, e2, _, w2⟩ := DataW.trod_int Tryz.underlying3 (show DataW.trod enc Tryz.prog w base spare held n 3 [c2] = some y2 from h2)
      obtain ⟨m3, e3, _, w3⟩ := DataW.trod_int Tryz.underlying3 (show DataW.trod enc Tryz.prog w base spare held n 3 [c3] = some y3 from h3)
      simp only [List.cons.injEq, and_true] at e0 e1 e2 e3
      subst e0 e1 e2 e3
      exact ⟨⟨m0, m1, m2, m3⟩, rfl, bd_i64 w0, bd_i64 w1, bd_i64 w2, bd_i64 w3⟩
theorem trod_mark {fuel : Nat} {cs : List Value} {x : DataW H × List MemPlace} (h : DataW.trod enc Tryz.prog w base spare held fuel 4 cs = some x) : ∃ b : Bool, cs = [Value.bool b] ∧ True := by
  obtain ⟨m2, e2, _⟩ := DataW.trod_bool Tryz.underlying4 h
  exact ⟨m2, e2, trivial⟩
theorem trod_byte {fuel : Nat} {cs : List Value} {x : DataW H × List MemPlace} (h : DataW.trod enc Tryz.prog w base spare held fuel 5 cs = some x) : ∃ z : Int, cs = [Value.int .u8 z] ∧ (0 ≤ z ∧ z ≤ 255) := by
  obtain ⟨m0, e0, _, w0⟩ := DataW.trod_int Tryz.underlying5 h
  exact ⟨m0, e0, bd_u8 w0⟩
/-- A slice of structs that came in, by what reads as one. -/
theorem open_rows {α : Type} {c : α → List Value} {wf : α → Prop} {sT eT n : Nat} (hu : Tryz.prog.underlying sT = some (.slice eT)) (hn : Tryz.prog.cellsOf eT = n) (hn0 : 0 < n) (hlen : ∀ a, (c a).length = n)
    (hone : ∀ {fuel : Nat} {cs : List Value} {x : DataW H × List MemPlace}, DataW.trod enc Tryz.prog w 0 spare held fuel eT cs = some x → ∃ s : α, cs = c s ∧ wf s)
    {r : Reach} {b0 : Nat} {v : Value} {d : DataW H} {p : List MemPlace} (hv : Value.okWide Tryz.prog w r b0 sT v) (h : DataW.Trod enc Tryz.prog w 0 spare held sT v d p) :
    ∃ (A : Option Addr) (m cc : Nat) (ks : List α), v = .slice A m cc ∧ ks.length = m ∧ m ≤ maxLen ∧ (∀ k ∈ ks, wf k) ∧ Has w w.heap.size A (rows c ks) := by
  obtain ⟨A, m, cc, rfl⟩ := okWide_slice hu hv
  obtain ⟨fuel, hf⟩ := h
  rcases open_slice hu hf with ⟨hcs, _⟩ | ⟨a, len, cap, m', q, D, Pl, hcs, _, hl, hcm, hm, _, hi⟩
  · simp [Value.cells] at hcs
    obtain ⟨rfl, rfl, rfl⟩ := hcs
    exact ⟨none, 0, 0, [], rfl, rfl, Nat.zero_le _, by simp, by intro j u hu; simp [rows] at hu⟩
  · simp [Value.cells] at hcs
    obtain ⟨rfl, rfl, rfl⟩ := hcs
    have hmm : m ≤ m' := by rw [hm]; split <;> omega
    have hk : ∀ i, i < m → ∃ k : α, wf k ∧ ∀ j v, (c k)[j]? = some v → w.cell? (a.add (i * n + j)) = some v := fun i hin => by
      obtain ⟨cs', hc, ht⟩ := hi i (by omega)
      rw [hn] at hc
      obtain ⟨k, rfl, wk⟩ := hone ht
      obtain ⟨_, _, hat⟩ := World.cells?_some hc
      refine ⟨k, wk, fun j v hj => ?_⟩
      have hj9 : j < n := by rw [← hlen k]; exact (List.getElem?_eq_some_iff.1 hj).1
      have := hat j hj9
      rw [Go.Deep.add_add] at this
      rw [this]; exact hj
    have hall : ∀ l, l ≤ m → ∃ ks : List α, ks.length = l ∧ (∀ k ∈ ks, wf k) ∧ ∀ i k, ks[i]? = some k → ∀ j v, (c k)[j]? = some v → w.cell? (a.add (i * n + j)) = some v := by
      intro l
      induction l with
      | zero => intro _; exact ⟨[], rfl, by simp, fun i k h => by simp at h⟩
      | succ l ih =>
        intro hl2
        obtain ⟨ks, h1, h2, h3⟩ := ih (by omega)
        obtain ⟨k, wk, hkc⟩ := hk l (by omega)
        refine ⟨ks ++ [k], by simp [h1], fun x hx => ?_, fun i x hx => ?_⟩
        · rcases List.mem_append.1 hx with e | e
          · exact h2 x e
          · simp at e; rw [e]; exact wk
        · by_cases e : i < ks.length
          · rw [List.getElem?_append_left e] at hx; exact h3 i x hx
          · have hi2 := (List.getElem?_eq_some_iff.1 hx).1
            simp at hi2
            have e2 : i = ks.length := by omega
            subst e2
            simp at hx
            subst hx
            rw [h1]; exact hkc
    obtain ⟨ks, h1, h2, h3⟩ := hall m (Nat.le_refl _)
    refine ⟨some a, m, cc, ks, rfl, h1, Nat.le_trans hl hcm, h2, fun j u hu => ?_⟩
    have hw : Wid c n ks := fun x _ => hlen x
    have hj : j < (rows c ks).length := (List.getElem?_eq_some_iff.1 hu).1
    rw [rows_len hw] at hj
    have hjq : j / n < ks.length := Nat.div_lt_of_lt_mul (by rw [Nat.mul_comm]; exact hj)
    have hjr : j % n < n := Nat.mod_lt _ hn0
    have hjj : j / n * n + j % n = j := by rw [Nat.mul_comm]; exact Nat.div_add_mod j n
    obtain ⟨k, hk⟩ : ∃ k, ks[j / n]? = some k := ⟨ks[j / n]'hjq, List.getElem?_eq_getElem _⟩
    have hg := rows_get hw hk (j % n) hjr
    rw [hjj, hu] at hg
    have hcell := h3 (j / n) k hk (j % n) u hg.symm
    rw [hjj] at hcell
    have hs : a.spot = none := by
      obtain ⟨k1, hk1⟩ : ∃ k1, ks[0]? = some k1 := ⟨ks[0]'(Nat.lt_of_le_of_lt (Nat.zero_le _) hjq), List.getElem?_eq_getElem _⟩
      obtain ⟨v0, hv0⟩ : ∃ v0, (c k1)[0]? = some v0 := ⟨_, List.getElem?_eq_getElem (by rw [hlen]; exact hn0)⟩
      have h0 := h3 0 k1 hk1 0 _ hv0
      exact World.cell?_spot (by simpa [Addr.add] using h0)
    obtain ⟨b, off, sp⟩ := a
    simp only at hs
    subst hs
    rw [Addr.add_lit] at hcell
    exact ⟨b, off, rfl, World.block_lt_of_cell? w _ hcell, hcell⟩
theorem open_steps {r : Reach} {b0 : Nat} {v : Value} {d : DataW H} {p : List MemPlace} (hv : Value.okWide Tryz.prog w r b0 22 v) (h : DataW.Trod enc Tryz.prog w 0 spare held 22 v d p) :
    ∃ (A : Option Addr) (m cc : Nat) (ks : List Sp), v = .slice A m cc ∧ ks.length = m ∧ m ≤ maxLen ∧ (∀ k ∈ ks, k.wf) ∧ Has w w.heap.size A (rows spc ks) :=
  open_rows Tryz.underlying22 spc_cells (by decide) (fun _ => rfl) trod_step hv h
theorem open_bools {r : Reach} {b0 : Nat} {v : Value} {d : DataW H} {p : List MemPlace} (hv : Value.okWide Tryz.prog w r b0 106 v) (h : DataW.Trod enc Tryz.prog w 0 spare held 106 v d p) :
    ∃ (A : Option Addr) (m cc : Nat) (ks : List Bool), v = .slice A m cc ∧ ks.length = m ∧ m ≤ maxLen ∧ Has w w.heap.size A (bls ks) := by
  obtain ⟨A, m, cc, ks, e, h1, h2, h3, h4⟩ := open_rows (c := fun z => [Value.bool z]) (wf := fun _ => True) Tryz.underlying106 bool_cells' (by decide) (fun _ => rfl) trod_mark hv h
  have e4 : rows (fun z => [Value.bool z]) ks = bls ks := rows_map _ _
  rw [e4] at h4
  exact ⟨A, m, cc, ks, e, h1, h2, h4⟩
theorem open_bytes {r : Reach} {b0 : Nat} {v : Value} {d : DataW H} {p : List MemPlace} (hv : Value.okWide Tryz.prog w r b0 144 v) (h : DataW.Trod enc Tryz.prog w 0 spare held 144 v d p) :
    ∃ (A : Option Addr) (m cc : Nat) (ks : List Int), v = .slice A m cc ∧ ks.length = m ∧ m ≤ maxLen ∧ Bytes ks ∧ Has w w.heap.size A (u8s ks) := by
  obtain ⟨A, m, cc, ks, e, h1, h2, h3, h4⟩ := open_rows (c := fun z => [Value.int .u8 z]) (wf := fun z => 0 ≤ z ∧ z ≤ 255) Tryz.underlying144 u8_cells' (by decide) (fun _ => rfl) trod_byte hv h
  rw [rows_map] at h4
  exact ⟨A, m, cc, ks, e, h1, h2, h3, h4⟩
end
end Go.Proofs.YtmoaddbpfekdbaaGreat
