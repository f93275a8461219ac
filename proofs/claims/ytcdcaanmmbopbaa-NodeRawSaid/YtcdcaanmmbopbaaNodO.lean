/- Nodes that came in. -/
import Derived.Test.YtcdcaanmmbopbaaNodH
import Derived.Deep.Slices
import Derived.ProofKit
import Derived.OpenShut
import Derived.ChangeSlices
import Derived.ChangeArms
namespace Go.Proofs.Ytcdcaanmmbopbaa
set_option maxRecDepth 100000
open Go.RowKit Go.ChangeShapes Go.WideShapes Go.Deep
set_option linter.unusedVariables false
section
variable {H : Type} {enc : TypeId × Value → H} {w : World} {base : Nat} {spare : Nat → Bool} {held : Bool}
theorem trod_msgs {fuel : Nat} {cs : List Value} {x : DataW H × List MemPlace} (hf : DataW.trod enc Try.prog w 0 spare held fuel 25 cs = some x) :
    ∃ (A : Option Addr) (n c : Nat) (ks : List RM), cs = [.slice A n c] ∧ ks.length = n ∧ n ≤ c ∧ n ≤ maxLen ∧ WfM ks ∧ Has w w.heap.size A (rows mc ks) := by
  rcases open_slice Try.underlying25 hf with ⟨hcs, _⟩ | ⟨a, n, c, m, q, D, Pl, hcs, _, hl, hcm, hm, _, hi⟩
  · exact ⟨none, 0, 0, [], hcs, rfl, Nat.le_refl _, Nat.zero_le _, by simp [WfM], Has.nil⟩
  · have hmm : n ≤ m := by rw [hm]; split <;> omega
    have hk : ∀ i, i < n → ∃ k : RM, k.wf ∧ ∀ j v, (mc k)[j]? = some v → w.cell? (a.add (i * 29 + j)) = some v := fun i hin => by
      obtain ⟨cs', hc, ht⟩ := hi i (by omega)
      rw [msg_cells] at hc
      obtain ⟨k, rfl, wk⟩ := trod_msg ht
      obtain ⟨_, _, hat⟩ := World.cells?_some hc
      refine ⟨k, wk, fun j v hj => ?_⟩
      have hj9 : j < 29 := by rw [← mc_len wk.val.hl]; exact (List.getElem?_eq_some_iff.1 hj).1
      have := hat j hj9
      rw [Go.Deep.add_add] at this
      rw [this]; exact hj
    have hall : ∀ l, l ≤ n → ∃ ks : List RM, ks.length = l ∧ WfM ks ∧ ∀ i k, ks[i]? = some k → ∀ j v, (mc k)[j]? = some v → w.cell? (a.add (i * 29 + j)) = some v := by
      intro l
      induction l with
      | zero => intro _; exact ⟨[], rfl, by simp [WfM], fun i k h => by simp at h⟩
      | succ l ih =>
        intro hl2
        obtain ⟨ks, h1, h2, h3⟩ := ih (by omega)
        obtain ⟨k, wk, hkc⟩ := hk l (by omega)
        refine ⟨ks ++ [k], by simp [h1], fun x hx => ?_, fun i x hx => ?_⟩
        · rcases List.mem_append.1 hx with e | e
          · exact h2 x e
          · simp at e; rw [e]; exact wk
        · by_cases e : i < ks.length
          · rw [List.getElem?_append_left e] at hx; exact h3 i x hx
          · have hi2 := (List.getElem?_eq_some_iff.1 hx).1
            simp at hi2
            have e2 : i = ks.length := by omega
            subst e2
            simp at hx
            subst hx
            rw [h1]; exact hkc
    obtain ⟨ks, h1, h2, h3⟩ := hall n (Nat.le_refl _)
    refine ⟨some a, n, c, ks, hcs, h1, hl, Nat.le_trans hl hcm, h2, fun j u hu => ?_⟩
    have hj : j < (rows mc ks).length := (List.getElem?_eq_some_iff.1 hu).1
    rw [rows_len h2.wid] at hj
    obtain ⟨k, hk⟩ : ∃ k, ks[j / 29]? = some k := ⟨ks[j / 29]'(by omega), List.getElem?_eq_getElem _⟩
    have hg := rows_get h2.wid hk (j % 29) (Nat.mod_lt _ (by omega))
    rw [show j / 29 * 29 + j % 29 = j from by omega, hu] at hg
    have hcell := h3 (j / 29) k hk (j % 29) u hg.symm
    rw [show j / 29 * 29 + j % 29 = j from by omega] at hcell
    have hs : a.spot = none := by
      obtain ⟨k1, hk1⟩ : ∃ k1, ks[0]? = some k1 := ⟨ks[0]'(by omega), List.getElem?_eq_getElem _⟩
      have h0 := h3 0 k1 hk1 0 _ rfl
      exact World.cell?_spot (by simpa [Addr.add] using h0)
    obtain ⟨b, off, sp⟩ := a
    simp only at hs
    subst hs
    rw [Addr.add_lit] at hcell
    exact ⟨b, off, rfl, World.block_lt_of_cell? w _ hcell, hcell⟩
theorem trod_ents {fuel : Nat} {cs : List Value} {x : DataW H × List MemPlace} (hf : DataW.trod enc Try.prog w 0 spare held fuel 23 cs = some x) :
    ∃ (A : Option Addr) (n c : Nat) (ks : List RE), cs = [.slice A n c] ∧ ks.length = n ∧ n ≤ c ∧ n ≤ maxLen ∧ WfE ks ∧ Has w w.heap.size A (rows ec ks) := by
  rcases open_slice Try.underlying23 hf with ⟨hcs, _⟩ | ⟨a, n, c, m, q, D, Pl, hcs, _, hl, hcm, hm, _, hi⟩
  · exact ⟨none, 0, 0, [], hcs, rfl, Nat.le_refl _, Nat.zero_le _, by simp [WfE], Has.nil⟩
  · have hmm : n ≤ m := by rw [hm]; split <;> omega
    have hk : ∀ i, i < n → ∃ k : RE, k.wf ∧ ∀ j v, (ec k)[j]? = some v → w.cell? (a.add (i * 26 + j)) = some v := fun i hin => by
      obtain ⟨cs', hc, ht⟩ := hi i (by omega)
      rw [ent_cells] at hc
      obtain ⟨k, rfl, wk⟩ := trod_ent ht
      obtain ⟨_, _, hat⟩ := World.cells?_some hc
      refine ⟨k, wk, fun j v hj => ?_⟩
      have hj9 : j < 26 := by rw [← ec_len wk.val.hl]; exact (List.getElem?_eq_some_iff.1 hj).1
      have := hat j hj9
      rw [Go.Deep.add_add] at this
      rw [this]; exact hj
    have hall : ∀ l, l ≤ n → ∃ ks : List RE, ks.length = l ∧ WfE ks ∧ ∀ i k, ks[i]? = some k → ∀ j v, (ec k)[j]? = some v → w.cell? (a.add (i * 26 + j)) = some v := by
      intro l
      induction l with
      | zero => intro _; exact ⟨[], rfl, by simp [WfE], fun i k h => by simp at h⟩
      | succ l ih =>
        intro hl2
        obtain ⟨ks, h1, h2, h3⟩ := ih (by omega)
        obtain ⟨k, wk, hkc⟩ := hk l (by omega)
        refine ⟨ks ++ [k], by simp [h1], fun x hx => ?_, fun i x hx => ?_⟩
        · rcases List.mem_append.1 hx with e | e
          · exact h2 x e
          · simp at e; rw [e]; exact wk
        · by_cases e : i < ks.length
          · rw [List.getElem?_append_left e] at hx; exact h3 i x hx
          · have hi2 := (List.getElem?_eq_some_iff.1 hx).1
            simp at hi2
            have e2 : i = ks.length := by omega
            subst e2
            simp at hx
            subst hx
            rw [h1]; exact hkc
    obtain ⟨ks, h1, h2, h3⟩ := hall n (Nat.le_refl _)
    refine ⟨some a, n, c, ks, hcs, h1, hl, Nat.le_trans hl hcm, h2, fun j u hu => ?_⟩
    have hj : j < (rows ec ks).length := (List.getElem?_eq_some_iff.1 hu).1
    rw [rows_len h2.wid] at hj
    obtain ⟨k, hk⟩ : ∃ k, ks[j / 26]? = some k := ⟨ks[j / 26]'(by omega), List.getElem?_eq_getElem _⟩
    have hg := rows_get h2.wid hk (j % 26) (Nat.mod_lt _ (by omega))
    rw [show j / 26 * 26 + j % 26 = j from by omega, hu] at hg
    have hcell := h3 (j / 26) k hk (j % 26) u hg.symm
    rw [show j / 26 * 26 + j % 26 = j from by omega] at hcell
    have hs : a.spot = none := by
      obtain ⟨k1, hk1⟩ : ∃ k1, ks[0]? = some k1 := ⟨ks[0]'(by omega), List.getElem?_eq_getElem _⟩
      have h0 := h3 0 k1 hk1 0 _ rfl
      exact World.cell?_spot (by simpa [Addr.add] using h0)
    obtain ⟨b, off, sp⟩ := a
    simp only at hs
    subst hs
    rw [Addr.add_lit] at hcell
    exact ⟨b, off, rfl, World.block_lt_of_cell? w _ hcell, hcell⟩
theorem trod_keys {fuel : Nat} {cs : List Value} {x : DataW H × List MemPlace} (hf : DataW.trod enc Try.prog w 0 spare held fuel 24 cs = some x) :
    ∃ (A : Option Addr) (n c : Nat) (ks : List RK), cs = [.slice A n c] ∧ ks.length = n ∧ n ≤ maxLen ∧ WfAll ks ∧ Has w w.heap.size A (flat ks) := by
  rcases open_slice Try.underlying24 hf with ⟨hcs, _⟩ | ⟨a, n, c, m, q, D, Pl, hcs, _, hl, hcm, hm, _, hi⟩
  · exact ⟨none, 0, 0, [], hcs, rfl, Nat.zero_le _, by simp [WfAll], by intro j u hu; simp [flat] at hu⟩
  · have hmm : n ≤ m := by rw [hm]; split <;> omega
    have hk : ∀ i, i < n → ∃ k : RK, k.wf ∧ ∀ j v, (kc k)[j]? = some v → w.cell? (a.add (i * 9 + j)) = some v := fun i hin => by
      obtain ⟨cs', hc, ht⟩ := hi i (by omega)
      rw [key_cells] at hc
      obtain ⟨k, rfl, wk⟩ := trod_key ht
      obtain ⟨_, _, hat⟩ := World.cells?_some hc
      refine ⟨k, wk, fun j v hj => ?_⟩
      have hj9 : j < 9 := (List.getElem?_eq_some_iff.1 hj).1
      have := hat j hj9
      rw [Go.Deep.add_add] at this
      rw [this]; exact hj
    have hall : ∀ l, l ≤ n → ∃ ks : List RK, ks.length = l ∧ WfAll ks ∧ ∀ i k, ks[i]? = some k → ∀ j v, (kc k)[j]? = some v → w.cell? (a.add (i * 9 + j)) = some v := by
      intro l
      induction l with
      | zero => intro _; exact ⟨[], rfl, by simp [WfAll], fun i k h => by simp at h⟩
      | succ l ih =>
        intro hl2
        obtain ⟨ks, h1, h2, h3⟩ := ih (by omega)
        obtain ⟨k, wk, hkc⟩ := hk l (by omega)
        refine ⟨ks ++ [k], by simp [h1], fun x hx => ?_, fun i x hx => ?_⟩
        · rcases List.mem_append.1 hx with e | e
          · exact h2 x e
          · simp at e; rw [e]; exact wk
        · by_cases e : i < ks.length
          · rw [List.getElem?_append_left e] at hx; exact h3 i x hx
          · have hi2 := (List.getElem?_eq_some_iff.1 hx).1
            simp at hi2
            have e2 : i = ks.length := by omega
            subst e2
            simp at hx
            subst hx
            rw [h1]; exact hkc
    obtain ⟨ks, h1, h2, h3⟩ := hall n (Nat.le_refl _)
    refine ⟨some a, n, c, ks, hcs, h1, Nat.le_trans hl hcm, h2, fun j u hu => ?_⟩
    have hj : j < (flat ks).length := (List.getElem?_eq_some_iff.1 hu).1
    rw [flat_len] at hj
    obtain ⟨k, hk⟩ : ∃ k, ks[j / 9]? = some k := ⟨ks[j / 9]'(by omega), List.getElem?_eq_getElem _⟩
    have hg := flat_get hk (j % 9) (Nat.mod_lt _ (by omega))
    rw [show j / 9 * 9 + j % 9 = j from by omega, hu] at hg
    have hcell := h3 (j / 9) k hk (j % 9) u hg.symm
    rw [show j / 9 * 9 + j % 9 = j from by omega] at hcell
    have hs : a.spot = none := by
      obtain ⟨k1, hk1⟩ : ∃ k1, ks[0]? = some k1 := ⟨ks[0]'(by omega), List.getElem?_eq_getElem _⟩
      have h0 := h3 0 k1 hk1 0 _ rfl
      exact World.cell?_spot (by simpa [Addr.add] using h0)
    obtain ⟨b, off, sp⟩ := a
    simp only at hs
    subst hs
    rw [Addr.add_lit] at hcell
    exact ⟨b, off, rfl, World.block_lt_of_cell? w _ hcell, hcell⟩
theorem trod_row {fuel : Nat} {cs : List Value} {x : DataW H × List MemPlace} (hf : DataW.trod enc Try.prog w 0 (fun _ => true) held fuel 22 cs = some x) :
    ∃ (A : Option Addr) (n c : Nat) (ys : List Int), cs = [.slice A n c] ∧ ys.length = n ∧ n ≤ c ∧ n ≤ maxLen ∧ (∀ z ∈ ys, Is64 z) ∧ Has w w.heap.size A (ys.map (Value.int .i64)) := by
  rcases open_ints Try.underlying22 Try.underlying3 int_cells hf with ⟨hcs, _⟩ | ⟨a, n, c, zs, hcs, _, hl, hm, hz, _, hc, hw⟩
  · exact ⟨none, 0, 0, [], hcs, rfl, Nat.le_refl _, Nat.zero_le _, by simp, Has.nil⟩
  · obtain ⟨ys, e1, e2, e3, e4, _⟩ := has_of_row (.inr ⟨a, rfl, hl, hm, by simpa using hz, hc, hw⟩)
    exact ⟨some a, n, c, ys, hcs, e1, e2, Nat.le_trans hl hm, fun z hz => i64_of (e3 z hz), e4⟩
theorem nod_cells : Try.prog.cellsOf 27 = 5 := by kernel_rfl
theorem bool_cells : Try.prog.cellsOf 4 = 1 := by kernel_rfl
theorem sl_cells1 : Try.prog.cellsOf 23 = 1 := by kernel_rfl
theorem sl_cells2 : Try.prog.cellsOf 22 = 1 := by kernel_rfl
theorem sl_cells3 : Try.prog.cellsOf 24 = 1 := by kernel_rfl
theorem sl_cells4 : Try.prog.cellsOf 25 = 1 := by kernel_rfl
theorem parts5 (cs : List Value) (h : cs.length = 5) : cs = cs.take 1 ++ ((cs.drop 1).take 1 ++ ((cs.drop 2).take 1 ++ ((cs.drop 3).take 1 ++ (cs.drop 4).take 1))) := by
  rcases cs with _ | ⟨a, _ | ⟨b, _ | ⟨c, _ | ⟨d, _ | ⟨e, _ | ⟨f, r⟩⟩⟩⟩⟩⟩ <;> simp at h
  rfl
/-- A node that came in. -/
theorem open_node {r : Reach} {b0 : Nat} {v : Value} {d : DataW H} {p : List MemPlace} (hv : Value.okWide Try.prog w r b0 27 v) (h : DataW.Trod enc Try.prog w 0 (fun _ => true) held 27 v d p) :
    ∃ (x : NV) (n : RN), v = nv x ∧ NR w w.heap.size x n := by
  obtain ⟨cs, rfl, _⟩ := okWide_struct Try.underlying27 hv
  obtain ⟨fuel, hf⟩ := h
  obtain ⟨xs, m, _, _, hlen, hxs, hfs⟩ := DataW.trod_struct Try.underlying27 hf
  rw [nod_cells] at hlen
  match xs, hxs with
  | [y0, y1, y2, y3, y4], _ =>
    have h0 : DataW.trod enc Try.prog w 0 (fun _ => true) held m 4 ((cs.toList.drop 0).take (Try.prog.cellsOf 4)) = some y0 := hfs 0 _ rfl
    have h1 : DataW.trod enc Try.prog w 0 (fun _ => true) held m 23 ((cs.toList.drop 1).take (Try.prog.cellsOf 23)) = some y1 := hfs 1 _ rfl
    have h2 : DataW.trod enc Try.prog w 0 (fun _ => true) held m 22 ((cs.toList.drop 2).take (Try.prog.cellsOf 22)) = some y2 := hfs 2 _ rfl
    have h3 : DataW.trod enc Try.prog w 0 (fun _ => true) held m 24 ((cs.toList.drop 3).take (Try.prog.cellsOf 24)) = some y3 := hfs 3 _ rfl
    have h4 : DataW.trod enc Try.prog w 0 (fun _ => true) held m 25 ((cs.toList.drop 4).take (Try.prog.cellsOf 25)) = some y4 := hfs 4 _ rfl
    rw [bool_cells, List.drop_zero] at h0
    rw [sl_cells1] at h1
    rw [sl_cells2] at h2
    rw [sl_cells3] at h3
    rw [sl_cells4] at h4
    obtain ⟨b, e0, _⟩ := DataW.trod_bool Try.underlying4 h0
    obtain ⟨A1, n1, c1, es, e1, l1, k1, s1, w1, r1⟩ := trod_ents h1
    obtain ⟨A2, n2, c2, ks, e2, l2, k2, s2, w2, r2⟩ := trod_row h2
    obtain ⟨A3, n3, c3, ps, e3, l3, s3, w3, r3⟩ := trod_keys h3
    obtain ⟨A4, n4, c4, ms, e4, l4, k4, s4, w4, r4⟩ := trod_msgs h4
    refine ⟨⟨b, A1, n1, c1, A2, n2, c2, A3, n3, c3, A4, n4, c4⟩, ⟨b, es, ks, ps, ms⟩, ?_, ⟨rfl, Nat.le_refl _, r1, l1, s1, w1, r2, l2, k2, s2, r3, l3, s3, w3, r4, l4, k4, s4, w4⟩⟩
    have e5 : cs.toList = [.bool b, .slice A1 n1 c1, .slice A2 n2 c2, .slice A3 n3 c3, .slice A4 n4 c4] := by
      rw [parts5 cs.toList hlen, e0, e1, e2, e3, e4]
      rfl
    unfold nv NV.cells
    rw [← e5]
end
end Go.Proofs.Ytcdcaanmmbopbaa
