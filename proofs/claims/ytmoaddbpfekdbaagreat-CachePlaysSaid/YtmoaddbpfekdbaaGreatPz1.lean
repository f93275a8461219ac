/- CachePlays: how the program's cache and the document's are alike. No program text of their own. -/
import Derived.Test.YtmoaddbpfekdbaaGreatM44
import Derived.Test.YtmoaddbpfekdbaaGreatM27
import Derived.Test.YtmoaddbpfekdbaaGreatM28
namespace Go.Proofs.YtmoaddbpfekdbaaGreat
set_option linter.unusedVariables false
set_option linter.unusedSimpArgs false
set_option linter.unusedSectionVars false
set_option maxRecDepth 100000
open Go.RowKit
instance : Inhabited RN := ⟨zeroN⟩
theorem nq_def : NX.n default = default := rfl
/-- Alike, by what the nodes hold; the document keeps who loaded a frame. -/
def Rl (t d : Ca NX) : Prop := mC NX.n t = mC NX.n (nrmC d)
section
variable {t d : Ca NX}
theorem rl_new (n : Nat) : Rl (newC n) (newC n) := by unfold Rl; rw [nf_new]
theorem rl_pin (h : Rl t d) (x b : Int) : (pinD d x b).1 = (pinC t x b).1 ∧ Rl (pinC t x b).2 (pinD d x b).2 := by
  have e1 := mc_pin nq_def t x b
  have e2 := mc_pin nq_def (nrmC d) x b
  rw [← h, e1, nf_pin, Prod.mk.injEq] at e2
  exact ⟨e2.1.symm, e2.2⟩
theorem rl_claim (h : Rl t d) (x : Int) : (claimC d x).1 = (claimC t x).1 ∧ Rl (claimC t x).2 (claimC d x).2 := by
  have e1 := mc_claim nq_def t x
  have e2 := mc_claim nq_def (nrmC d) x
  rw [← h, e1, nf_claim, Prod.mk.injEq] at e2
  exact ⟨e2.1.symm, e2.2⟩
theorem rl_give (h : Rl t d) (x : Int) : (giveC d x).1 = (giveC t x).1 ∧ Rl (giveC t x).2 (giveC d x).2 := by
  have e1 := mc_give nq_def t x
  have e2 := mc_give nq_def (nrmC d) x
  rw [← h, e1, nf_give, Prod.mk.injEq] at e2
  exact ⟨e2.1.symm, e2.2⟩
theorem rl_unpin (h : Rl t d) (x : Int) : (unpinC d x).1 = (unpinC t x).1 ∧ Rl (unpinC t x).2 (unpinC d x).2 := by
  have e1 := mc_unpin nq_def t x
  have e2 := mc_unpin nq_def (nrmC d) x
  rw [← h, e1, nf_unpin, Prod.mk.injEq] at e2
  exact ⟨e2.1.symm, e2.2⟩
theorem rl_set (h : Rl t d) (x : Int) {v v' : NX} (hv : v'.n = v.n) : (setC d x v).1 = (setC t x v').1 ∧ Rl (setC t x v').2 (setC d x v).2 := by
  have e1 := mc_set nq_def t x v'
  have e2 := mc_set nq_def (nrmC d) x v
  rw [← h, ← hv, e1, nf_set, Prod.mk.injEq] at e2
  exact ⟨e2.1.symm, e2.2⟩
theorem rl_name (h : Rl t d) (x b : Int) {v v' : NX} (hv : v'.n = v.n) : (nameC d x b v).1 = (nameC t x b v').1 ∧ Rl (nameC t x b v').2 (nameC d x b v).2 := by
  have e1 := mc_name nq_def t x b v'
  have e2 := mc_name nq_def (nrmC d) x b v
  rw [← h, ← hv, e1, nf_name, Prod.mk.injEq] at e2
  exact ⟨e2.1.symm, e2.2⟩
theorem rl_fill (h : Rl t d) (x : Int) {v v' : NX} (hv : v'.n = v.n) : (fillC d x v).1 = (fillC t x v').1 ∧ (fillC d x v).2.1 = (fillC t x v').2.1 ∧ Rl (fillC t x v').2.2 (fillC d x v).2.2 := by
  have e1 := mc_fill nq_def t x v'
  have e2 := mc_fill nq_def (nrmC d) x v
  rw [← h, ← hv, e1, nf_fill, Prod.mk.injEq, Prod.mk.injEq] at e2
  exact ⟨e2.1.symm, e2.2.1.symm, e2.2.2⟩
theorem rl_sweep (h : Rl t d) : sweepC d = sweepC t := by
  have e1 := mc_sweep nq_def t
  have e2 := mc_sweep nq_def (nrmC d)
  rw [← h, e1, nf_sweep] at e2
  exact e2.symm
theorem rl_evict (h : Rl t d) : (evictC t).1.map (mF NX.n) = ((evictC d).1.map nrmF).map (mF NX.n) ∧ Rl (evictC t).2 (evictC d).2 := by
  have e1 := mc_evict nq_def t
  have e2 := mc_evict nq_def (nrmC d)
  rw [← h, e1, nf_evict, Prod.mk.injEq] at e2
  exact e2
theorem rl_node (h : Rl t d) (x : Int) : (nodC d x).1.n = (nodC t x).1.n ∧ (nodC d x).2 = (nodC t x).2 := by
  have e1 := mc_node nq_def t x
  have e2 := mc_node nq_def (nrmC d) x
  rw [← h, e1, nf_node, Prod.mk.injEq] at e2
  exact ⟨e2.1.symm, e2.2.symm⟩
theorem rl_line (h : Rl t d) : lineC d = lineC t := by
  have e := congrArg (fun c => lineC c) h
  exact e.symm
theorem rl_may (h : Rl t d) (x : Int) : mayC d x = mayC t x := by
  have e1 := mc_may nq_def t x
  have e2 := mc_may nq_def (nrmC d) x
  rw [← h, e1, nf_may] at e2
  exact e2.symm
theorem rl_free (h : Rl t d) : freeN d.fs = freeN t.fs := by
  have e := congrArg (fun c : Ca RN => freeN c.fs) h
  simp only [mC, mf_freeN] at e
  rw [e]
  exact (nf_freeN d.fs).symm
theorem rl_get (h : Rl t d) {j : Nat} {f2 : Fra NX} (h2 : d.fs[j]? = some f2) : ∃ f1, t.fs[j]? = some f1 ∧ mF NX.n f1 = mF NX.n (nrmF f2) := by
  have e := congrArg (fun c : Ca RN => c.fs[j]?) h
  simp only [mC, nrmC, List.getElem?_map, h2, Option.map_some] at e
  cases h1 : t.fs[j]? with
  | none => rw [h1] at e; simp at e
  | some f1 => rw [h1] at e; exact ⟨f1, rfl, Option.some.inj e⟩
theorem rl_len (h : Rl t d) : d.fs.length = t.fs.length ∧ d.line = t.line ∧ d.loads = t.loads := by
  have e1 := congrArg (fun c : Ca RN => c.fs.length) h
  have e2 := congrArg (fun c : Ca RN => c.line) h
  have e3 := congrArg (fun c : Ca RN => c.loads) h
  simp only [mC, nrmC, List.length_map] at e1 e2 e3
  exact ⟨e1.symm, e2.symm, e3.symm⟩
theorem mf_eq {f1 f2 : Fra NX} (h : mF NX.n f1 = mF NX.n (nrmF f2)) : f1.st = f2.st ∧ f1.blk = f2.blk ∧ f1.pins = f2.pins ∧ f1.ref = f2.ref ∧ f1.dirty = f2.dirty ∧ f1.node.n = f2.node.n := by
  obtain ⟨k1, k2, k3, k4, k5, k6⟩ := nf_same f2
  simp only [mF, Fra.mk.injEq, k1, k2, k3, k4, k5, k6] at h
  exact ⟨h.1, h.2.1, h.2.2.1, h.2.2.2.1, h.2.2.2.2.1, h.2.2.2.2.2.1⟩
theorem rl_bd {n K : Nat} (h : Rl t d) (b : Bd t n K) : Bd d n K := by
  obtain ⟨e1, e2, e3⟩ := rl_len h
  refine ⟨e1.trans b.len, fun f hf => ?_, by rw [e2]; exact b.ln, by rw [e3]; exact b.ld⟩
  obtain ⟨j, hj⟩ := List.mem_iff_getElem?.1 hf
  obtain ⟨f1, h1, h2⟩ := rl_get h hj
  have := b.pin f1 (List.mem_of_getElem? h1)
  rw [← (mf_eq h2).2.2.1]
  exact this
end
theorem nod_pinD (t : Ca NX) (x b : Int) : NodIn t.fs (pinD t x b).2.fs := by
  unfold pinD
  split
  · cases findB t.fs b with
    | some i => simp only; split <;> exact nod_modify fun _ => rfl
    | none =>
      cases takeI t x with
      | some k => exact nod_set rfl
      | none => exact nod_same _
  · exact nod_same _
end Go.Proofs.YtmoaddbpfekdbaaGreat
