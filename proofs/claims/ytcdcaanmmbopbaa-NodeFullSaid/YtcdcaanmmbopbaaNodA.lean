/- Nodes as values: their five cells, what they hold in memory, what is valid; the kind of a node. -/
import Derived.Test.YtcdcaanmmbopbaaFnJ
import Derived.Test.YtcdcaanmmbopbaaLfO
import Derived.Handy
namespace Go.Proofs.Ytcdcaanmmbopbaa
set_option maxRecDepth 100000
open Go.RowKit
set_option linter.unusedVariables false
attribute [local go_sem ↓] key_ld msg_ld
/-- What a node holds. -/
structure RN where
  lf : Bool
  es : List RE
  ks : List Int
  ps : List RK
  ms : List RM
/-- The five cells of a node. -/
structure NV where
  lf : Bool
  A1 : Option Addr
  n1 : Nat
  c1 : Nat
  A2 : Option Addr
  n2 : Nat
  c2 : Nat
  A3 : Option Addr
  n3 : Nat
  c3 : Nat
  A4 : Option Addr
  n4 : Nat
  c4 : Nat
def NV.cells (v : NV) : List Value := [.bool v.lf, .slice v.A1 v.n1 v.c1, .slice v.A2 v.n2 v.c2, .slice v.A3 v.n3 v.c3, .slice v.A4 v.n4 v.c4]
def nv (v : NV) : Value := .agg v.cells.toArray
/-- The cells of v hold what n holds, in blocks below B. -/
structure NH (W : World) (B : Nat) (v : NV) (n : RN) : Prop where
  lf : v.lf = n.lf
  hB : B ≤ W.heap.size
  h1 : Has W B v.A1 (rows ec n.es)
  l1 : n.es.length = v.n1
  s1 : v.n1 ≤ 100000
  w1 : WfE n.es
  h2 : Has W B v.A2 (ints n.ks)
  l2 : n.ks.length = v.n2
  k2 : v.n2 ≤ v.c2
  s2 : v.n2 ≤ 100000
  h3 : Has W B v.A3 (rows kc n.ps)
  l3 : n.ps.length = v.n3
  s3 : v.n3 ≤ 100000
  w3 : WfK n.ps
  h4 : Has W B v.A4 (rows mc n.ms)
  l4 : n.ms.length = v.n4
  k4 : v.n4 ≤ v.c4
  s4 : v.n4 ≤ 100000
  w4 : WfM n.ms
theorem NH.fr {W W' : World} {B : Nat} {v : NV} {n : RN} (h : NH W B v n) (hF : Fr W W') : NH W' B v n :=
  { h with hB := Nat.le_trans h.hB hF.size, h1 := h.h1.fr h.hB hF, h2 := h.h2.fr h.hB hF, h3 := h.h3.fr h.hB hF, h4 := h.h4.fr h.hB hF }
/-- Is a node valid? -/
def OkN (n : RN) : Prop := (n.lf = true ∧ n.ks = [] ∧ n.ps = [] ∧ n.ms = [] ∧ OkE n.es) ∨ (n.lf = false ∧ n.es = [] ∧ KidsOk n.ks ∧ n.ps.length + 1 = n.ks.length ∧ OkP n.ps ∧ OkL n.ms)
def bytN (n : RN) : Int := if n.lf then bytsE n.es else bytL n.ms
def rmN (n : RN) : Int := if n.lf then 248 else 205
theorem chkB_iff {ks : List Int} {ps : List RK} (wp : WfK ps) : chkB ks ps = true ↔ KidsOk ks ∧ ps.length + 1 = ks.length ∧ OkP ps := by
  unfold chkB
  rw [Bool.and_eq_true, Bool.and_eq_true, blkB_iff, ladB_iff wp, decide_eq_true_iff, and_assoc]
theorem nod_info : (Try.prog.info? 27).map (·.size) = some 5 := by kernel_rfl
theorem nodS : Sty Try.prog 27 5 := ⟨nod_info, _, Try.underlying27, rfl⟩
theorem nod_ld (p : Value) : Instr.loadAt 27 p = ldS 27 p := rfl
theorem as_ll (v : Value) (W : World) : (Instr.typeAssert (.iface 64 v) 60 64 true).run Try.prog W = .ok (.tuple #[v, .bool true]) W := by kernel_rfl
theorem as_ii (v : Value) (W : World) : (Instr.typeAssert (.iface 62 v) 60 62 true).run Try.prog W = .ok (.tuple #[v, .bool true]) W := by kernel_rfl
theorem as_li (v : Value) (W : World) : (Instr.typeAssert (.iface 64 v) 60 62 true).run Try.prog W = .ok (.tuple #[.agg #[.bool false, .slice none 0 0, .slice none 0 0, .slice none 0 0, .slice none 0 0], .bool false]) W := by kernel_rfl
theorem as_il (v : Value) (W : World) : (Instr.typeAssert (.iface 62 v) 60 64 true).run Try.prog W = .ok (.tuple #[.agg #[.bool false, .slice none 0 0, .slice none 0 0, .slice none 0 0, .slice none 0 0], .bool false]) W := by kernel_rfl
attribute [local go_sem] as_ll as_ii as_li as_il
section
variable {A1 : Option Addr} {n1 c1 : Nat} {A2 : Option Addr} {n2 c2 : Nat} {A3 : Option Addr} {n3 c3 : Nat} {A4 : Option Addr} {n4 c4 : Nat}
theorem kind_leaf {W0 W : World} (hb : Fr W0 W) :
    Calls Try.prog 36 #[.agg #[.bool true, .slice A1 n1 c1, .slice A2 n2 c2, .slice A3 n3 c3, .slice A4 n4 c4]] W fun e w' => e = .returned (.iface 64 (.agg #[.bool true, .slice A1 n1 c1, .slice A2 n2 c2, .slice A3 n3 c3, .slice A4 n4 c4])) ∧ Fr W0 w' := by
  go_enter Try.func36, Try.ntmps36
  go_wp2_with fail
  go_ret
  exact ⟨rfl, fr_new hb _⟩
theorem kind_inner {W0 W : World} (hb : Fr W0 W) :
    Calls Try.prog 36 #[.agg #[.bool false, .slice A1 n1 c1, .slice A2 n2 c2, .slice A3 n3 c3, .slice A4 n4 c4]] W fun e w' => e = .returned (.iface 62 (.agg #[.bool false, .slice A1 n1 c1, .slice A2 n2 c2, .slice A3 n3 c3, .slice A4 n4 c4])) ∧ Fr W0 w' := by
  go_enter Try.func36, Try.ntmps36
  go_wp2_with fail
  go_ret
  exact ⟨rfl, fr_new hb _⟩
theorem room_leaf {W0 W : World} (hb : Fr W0 W) : Calls Try.prog 110 #[.agg #[.bool true, .slice A1 n1 c1, .slice A2 n2 c2, .slice A3 n3 c3, .slice A4 n4 c4]] W fun e w' => e = .returned (.int .i64 248) ∧ Fr W0 w' := by
  go_enter Try.func110, Try.ntmps110
  go_wp2_with fail
  go_ret
  exact ⟨rfl, fr_new hb _⟩
theorem room_inner {W0 W : World} (hb : Fr W0 W) : Calls Try.prog 45 #[.agg #[.bool false, .slice A1 n1 c1, .slice A2 n2 c2, .slice A3 n3 c3, .slice A4 n4 c4]] W fun e w' => e = .returned (.int .i64 205) ∧ Fr W0 w' := by
  go_enter Try.func45, Try.ntmps45
  go_wp2_with fail
  go_ret
  exact ⟨rfl, fr_new hb _⟩
end
end Go.Proofs.Ytcdcaanmmbopbaa
