/- Buffers in memory, one: what comparing comes to from a base world; 'sort.Search' with a closure; 'place'. -/
import Derived.Test.YtmjjjdikpnhpiaaBuf0
import Derived.Test.YtmjjjdikpnhpiaaKeyE
import Derived.Test.YtmjjjdikpnhpiaaOwn
import Derived.Deep.LoopGhost
import Derived.Deep.RegionWith
import Derived.Deep.RegionHeld3
import Derived.Deep.Cut
import Derived.BigQuiet
import Derived.Deep.QuietTactic
import Derived.Laws.Externs
import Derived.Lib.LazyBuf
import Derived.Deep.RegionLaw
import Derived.Lib.SlBuf
import Derived.Test.YtmjjjdikpnhpiaaMsgF
namespace Go.Proofs.Ytmjjjdikpnhpiaa
set_option linter.unusedVariables false
set_option linter.unusedSimpArgs false
set_option maxRecDepth 100000
open Go.RowKit
section
attribute [local go_sem ↓] zt zw
section
variable {W0 W : World} {a b : RK}
theorem zeT (wa : a.wf) (wb : b.wf) (oa : okB a = true) (ob : okB b = true) (hb : Fr W0 W) : Calls Try.prog 79 #[kv a, kv b] W fun e w' => e = .returned (.int .i64 (zaB a b)) ∧ Fr W0 w' := (zkq a b wa wb (za1 oa) (za1 ob) W).mono fun _ _ ⟨he, hw⟩ => ⟨he, za hb (hw.fr)⟩
theorem zcF (wa : a.wf) (wb : b.wf) (oa : okB a = true) (ob : okB b = true) (hb : Fr W0 W) : Calls Try.prog 87 #[kv a, kv b] W fun e w' => e = .returned (.int .i64 (zaB a b)) ∧ Fr W0 w' := (zdQ a b wa wb oa ob W).mono fun _ _ ⟨he, hw⟩ => ⟨he, za hb hw⟩
theorem zbE : 0 ≤ zaB a b ↔ zu b ≤ zu a := by
 unfold zaB
 rcases zcD (zu a) (zu b) with ⟨h, h2⟩ | ⟨h, h2⟩ | ⟨h, h2⟩ <;> omega
end
def WfM (l : List RM) : Prop := ∀ m ∈ l, m.wf
theorem WfM.wid {l : List RM} (h : WfM l) : Wid mc 29 l := fun a ha => zP (h a ha).val.hl
theorem za8 {l : List RM} {j : Nat} {m : RM} (h : l[j]? = some m) : m ∈ l := by
 obtain ⟨_, e⟩ := List.getElem?_eq_some_iff.1 h;rw [← e]; exact List.getElem_mem _
end
section
attribute [local go_sem ↓] zt zw
end
section
attribute [local go_sem ↓] zt zw
theorem ze3 : zgM Try.prog 81 29 64 := zgM.of (z := mm za0) (by kernel_rfl) (by kernel_rfl) (by kernel_rfl) rfl
theorem za9 : Try.prog.underlying 27 = some (.slice 81) := Try.underlying27
abbrev zaC (w : World) (B : Nat) (A : Option Addr) (c : Nat) (l : List RM) : Prop := Own w B 81 29 A l.length c (zm mc l)
def zia (A : Option Addr) (m t : Nat) : Option Addr := if m = t then A else A.map (·.add (t * 29))
end
section
attribute [local go_sem ↓] zt zw
end
section
attribute [local go_sem ↓] zt zw
end
section
attribute [local go_sem ↓] zt zw zaX
theorem zep : ∀ (cs : List Value) (k : Nat) (z : Array Value), k + cs.length = z.size → List.foldl (fun (cs : Array Value) (x : Value × Nat) => cs.setIfInBounds x.snd x.fst) z (cs.zipIdx k) = (z.toList.take k ++ cs).toArray
 | [], k, z, h => by
  simp at h;subst h;simp [List.take_of_length_le]
 | v :: cs, k, z, h => by
  simp only [List.length_cons] at h;rw [List.zipIdx_cons, List.foldl_cons, zep cs (k + 1) _ (by simp; omega)]
  congr 1
  simp only [Array.toList_setIfInBounds];rw [show v :: cs = [v] ++ cs from rfl, ← List.append_assoc]
  congr 1
  apply List.ext_getElem?;intro j;simp only [List.getElem?_take, List.getElem?_set, List.getElem?_append, List.length_take, Array.length_toList]
  by_cases h1 : j < k
  ·have : min k z.size = k := by omega
   simp [h1, this, show j < k + 1 by omega, Nat.ne_of_gt h1]
  ·by_cases h2 : j = k
   ·subst h2
    have : min j z.size = j := by omega
    have : j < z.size := by omega
    simp [*]
   ·have : min k z.size = k := by omega
    simp [h1, this, show ¬ j < k + 1 by omega];omega
theorem zlw {m : RM} (hl : (mc m).length = 29) : List.foldl (fun (cs : Array Value) (x : Value × Nat) => cs.setIfInBounds x.snd x.fst) (mc za0).toArray (mc m).zipIdx = (mc m).toArray := by
 have := zep (mc m) 0 (mc za0).toArray (by rw [hl]; rfl)
 simpa using this
end
end Go.Proofs.Ytmjjjdikpnhpiaa
