/- Nodes whose cells lie in blocks that a call's own stores leave alone. -/
import Derived.Test.YtmjjjdikpnhpiaaNodD
import Derived.Test.YtmjjjdikpnhpiaaLfL
import Derived.Test.YtmjjjdikpnhpiaaShort
import Derived.Test.YtmjjjdikpnhpiaaBufQ
import Derived.Test.YtmjjjdikpnhpiaaOrP
import Derived.Test.YtmjjjdikpnhpiaaActM
import Derived.Deep.CutBlock
import Derived.Deep.RegionHeld3

namespace Go.Proofs.Ytmjjjdikpnhpiaa
set_option linter.unusedVariables false
set_option linter.unusedSimpArgs false
set_option maxRecDepth 100000
open Go.RowKit
section
def zR (w : World) (ok : Nat → Prop) (A : Option Addr) (xs : List Value) : Prop :=
 ∀ j u, xs[j]? = some u → ∃ b off, A = some ⟨b, off, none⟩ ∧ ok b ∧ w.cell? ⟨b, off + j, none⟩ = some u
structure zic (w W : World) (g : Nat) : Prop extends Kept w W g where
 cell : ∀ p : Addr, p.block ≠ g → W.cell? p = w.cell? p
section
variable {w W : World} {ok ok' : Nat → Prop} {A : Option Addr} {xs : List Value} {B g : Nat}
theorem zR.move (h : zR w ok A xs) (hc : ∀ p : Addr, ok p.block → p.block < w.heap.size → W.cell? p = w.cell? p) : zR W ok A xs := fun j u hu => by
 obtain ⟨b, off, h1, h2, h3⟩ := h j u hu;exact ⟨b, off, h1, h2, (hc _ h2 (World.block_lt_of_cell? _ _ h3)).trans h3⟩
theorem zR.fr (h : zR w ok A xs) (f : Fr w W) : zR W ok A xs := h.move fun p _ hp => f.cell hp
theorem zR.kept (h : zR w ok A xs) (k : zic w W g) (hg : ¬ ok g) : zR W ok A xs := h.move fun p hp _ => k.cell p (fun e => hg (e ▸ hp))
theorem zR.weak (h : zR w ok A xs) (hk : ∀ b, b < w.heap.size → ok b → ok' b) : zR w ok' A xs := fun j u hu => by
 obtain ⟨b, off, h1, h2, h3⟩ := h j u hu;exact ⟨b, off, h1, hk b (World.block_lt_of_cell? _ _ h3) h2, h3⟩
theorem zR.has (h : zR w ok A xs) : Has w w.heap.size A xs := fun j u hu => by
 obtain ⟨b, off, h1, h2, h3⟩ := h j u hu;exact ⟨b, off, h1, World.block_lt_of_cell? _ _ h3, h3⟩
theorem zR.drew (h : zR w ok A xs) : zR w.drew ok A xs := h
theorem zR.nil : zR w ok A [] := fun j u h => by simp at h
theorem Has.hasP (h : Has w B A xs) (hk : ∀ b, b < B → ok b) : zR w ok A xs := fun j u hu => by
 obtain ⟨b, off, h1, h2, h3⟩ := h j u hu;exact ⟨b, off, h1, hk b h2, h3⟩
theorem Own.hasP {e size n c : Nat} (h : Own w B e size A n c xs) (hk : ∀ b, B ≤ b → ok b) : zR w ok A xs := fun j u hu => by
 obtain ⟨b, off, h1, h2, h3⟩ := h.has j u hu;exact ⟨b, off, h1, hk b (h.lt b (by rw [h1]; rfl)).1, h3⟩
theorem zR.take (h : zR w ok A xs) (k : Nat) : zR w ok A (xs.take k) := fun j u hu => by
 refine h j u ?_;rw [List.getElem?_take] at hu
 split at hu
 ·exact hu
 ·cases hu
end
structure NP (W : World) (ok : Nat → Prop) (v : NV) (n : RN) : Prop where
 lf : v.lf = n.lf
 h1 : zR W ok v.A1 (zm ec n.es)
 l1 : n.es.length = v.n1
 k1 : v.n1 ≤ v.c1
 s1 : v.n1 ≤ 100000
 w1 : WfE n.es
 h2 : zR W ok v.A2 (zS n.ks)
 l2 : n.ks.length = v.n2
 k2 : v.n2 ≤ v.c2
 s2 : v.n2 ≤ 100000
 h3 : zR W ok v.A3 (zm kc n.ps)
 l3 : n.ps.length = v.n3
 k3 : v.n3 ≤ v.c3
 s3 : v.n3 ≤ 100000
 w3 : WfK n.ps
 h4 : zR W ok v.A4 (zm mc n.ms)
 l4 : n.ms.length = v.n4
 k4 : v.n4 ≤ v.c4
 s4 : v.n4 ≤ 100000
 w4 : WfM n.ms
section
variable {w W : World} {ok ok' : Nat → Prop} {v : NV} {n : RN} {B g : Nat}
theorem NP.fr (h : NP w ok v n) (f : Fr w W) : NP W ok v n := { h with h1 := h.h1.fr f, h2 := h.h2.fr f, h3 := h.h3.fr f, h4 := h.h4.fr f }
theorem NP.drew (h : NP w ok v n) : NP w.drew ok v n := { h with }
theorem NP.kept (h : NP w ok v n) (k : zic w W g) (hg : ¬ ok g) : NP W ok v n := { h with h1 := h.h1.kept k hg, h2 := h.h2.kept k hg, h3 := h.h3.kept k hg, h4 := h.h4.kept k hg }
theorem NP.weak (h : NP w ok v n) (hk : ∀ b, b < w.heap.size → ok b → ok' b) : NP w ok' v n := { h with h1 := h.h1.weak hk, h2 := h.h2.weak hk, h3 := h.h3.weak hk, h4 := h.h4.weak hk }
theorem NP.nh (h : NP w ok v n) : NH w w.heap.size v n := { h with hB := Nat.le_refl _, h1 := h.h1.has, h2 := h.h2.has, h3 := h.h3.has, h4 := h.h4.has }
theorem NH.np (h : NH w B v n) (hk : ∀ b, b < B → ok b) : NP w ok v n := { h with h1 := h.h1.hasP hk, h2 := h.h2.hasP hk, h3 := h.h3.hasP hk, h4 := h.h4.hasP hk }
theorem zbb : NP w ok zh zce := ⟨rfl, zR.nil, rfl, Nat.le_refl _, by decide, by intro m hm; simp [zce] at hm, zR.nil, rfl, Nat.le_refl _, by decide, zR.nil, rfl, Nat.le_refl _, by decide, by intro m hm; simp [zce] at hm, zR.nil, rfl, Nat.le_refl _, by decide, by intro m hm; simp [zce] at hm⟩
end
def NV.set1 (v : NV) (A : Option Addr) (n c : Nat) : NV := { v with A1 := A, n1 := n, c1 := c }
def NV.set2 (v : NV) (A : Option Addr) (n c : Nat) : NV := { v with A2 := A, n2 := n, c2 := c }
def NV.set3 (v : NV) (A : Option Addr) (n c : Nat) : NV := { v with A3 := A, n3 := n, c3 := c }
def NV.set4 (v : NV) (A : Option Addr) (n c : Nat) : NV := { v with A4 := A, n4 := n, c4 := c }
section
variable {P : Program} {w : World} {fn : Func} {a b c d : Tmp} (tmps : Array Value) (ga gb gc : Nat) {T1 T2 T3 : Nat} {ca cb cc : List Value} {Ta Tb Tc na nb nc : Nat}
end
end
section
attribute [local go_sem ↓] zaP
end
section
attribute [local go_sem ↓] zaP
end
end Go.Proofs.Ytmjjjdikpnhpiaa
