/- NodeRaw, walked. -/
import Derived.Test.YtmjjjdikpnhpiaaNodD
import Derived.Test.YtmjjjdikpnhpiaaActF
import Derived.Test.YtmjjjdikpnhpiaaShort
namespace Go.Proofs.Ytmjjjdikpnhpiaa
set_option linter.unusedVariables false
set_option linter.unusedSimpArgs false
set_option maxRecDepth 100000
open Go.RowKit
section
structure NR (W : World) (B : Nat) (v : NV) (n : RN) : Prop where
 lf : v.lf = n.lf
 hB : B ≤ W.heap.size
 h1 : Has W B v.A1 (zm ec n.es)
 l1 : n.es.length = v.n1
 s1 : v.n1 ≤ maxLen
 w1 : WfE n.es
 h2 : Has W B v.A2 (zS n.ks)
 l2 : n.ks.length = v.n2
 k2 : v.n2 ≤ v.c2
 s2 : v.n2 ≤ maxLen
 h3 : Has W B v.A3 (zm kc n.ps)
 l3 : n.ps.length = v.n3
 s3 : v.n3 ≤ maxLen
 w3 : WfK n.ps
 h4 : Has W B v.A4 (zm mc n.ms)
 l4 : n.ms.length = v.n4
 k4 : v.n4 ≤ v.c4
 s4 : v.n4 ≤ maxLen
 w4 : WfM n.ms
def fewV (v : NV) : Prop := v.n1 ≤ 80 ∧ v.n2 ≤ 20 ∧ v.n3 ≤ 20 ∧ v.n4 ≤ 60
section
variable {A1 : Option Addr} {n1 c1 : Nat} {A2 : Option Addr} {n2 c2 : Nat} {A3 : Option Addr} {n3 c3 : Nat} {A4 : Option Addr} {n4 c4 : Nat}
end
attribute [local go_sem ↓] zaP
end
section
attribute [local go_sem ↓] zaP
def zaJ (p : RN) (i : Nat) : List RM := zfE (zah p.ms p.ps i)
def zeu (p : RN) (i : Nat) : RN := { p with ms := zaL p.ms (zaJ p i) }
def zbo (p c : RN) (i : Nat) : RN := zaQ c (zaJ p i)
def OkC (c : RN) : Prop := (c.lf = true ∧ OkE c.es ∨ c.lf = false ∧ OkL c.ms) ∧ c.es.length ≤ 5000 ∧ c.ms.length ≤ 5000
end
end Go.Proofs.Ytmjjjdikpnhpiaa
