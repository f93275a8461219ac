/- Nodes as values: their five cells, what they hold in memory, what is valid; the kind of a node. -/
import Derived.Test.YtmjjjdikpnhpiaaGreatFnJ
import Derived.Handy
import Derived.Deep.LoopGhost
import Derived.Deep.RegionHeld3
import Derived.Test.YtmjjjdikpnhpiaaGreatShort
namespace Go.Proofs.YtmjjjdikpnhpiaaGreat
set_option linter.unusedVariables false
set_option linter.unusedSimpArgs false
set_option maxRecDepth 100000
open Go.RowKit
section
attribute [local go_sem ↓] zt zw
structure RN where
 lf : Bool
 es : List RE
 ks : List Int
 ps : List RK
 ms : List RM
structure NV where
 lf : Bool
 A1 : Option Addr
 n1 : Nat
 c1 : Nat
 A2 : Option Addr
 n2 : Nat
 c2 : Nat
 A3 : Option Addr
 n3 : Nat
 c3 : Nat
 A4 : Option Addr
 n4 : Nat
 c4 : Nat
def NV.cells (v : NV) : List Value := [.bool v.lf, .slice v.A1 v.n1 v.c1, .slice v.A2 v.n2 v.c2, .slice v.A3 v.n3 v.c3, .slice v.A4 v.n4 v.c4]
def nv (v : NV) : Value := .agg v.cells.toArray
structure NH (W : World) (B : Nat) (v : NV) (n : RN) : Prop where
 lf : v.lf = n.lf
 hB : B ≤ W.heap.size
 h1 : Has W B v.A1 (zm ec n.es)
 l1 : n.es.length = v.n1
 k1 : v.n1 ≤ v.c1
 s1 : v.n1 ≤ 100000
 w1 : WfE n.es
 h2 : Has W B v.A2 (zS n.ks)
 l2 : n.ks.length = v.n2
 k2 : v.n2 ≤ v.c2
 s2 : v.n2 ≤ 100000
 h3 : Has W B v.A3 (zm kc n.ps)
 l3 : n.ps.length = v.n3
 k3 : v.n3 ≤ v.c3
 s3 : v.n3 ≤ 100000
 w3 : WfK n.ps
 h4 : Has W B v.A4 (zm mc n.ms)
 l4 : n.ms.length = v.n4
 k4 : v.n4 ≤ v.c4
 s4 : v.n4 ≤ 100000
 w4 : WfM n.ms
theorem NH.fr {W W' : World} {B : Nat} {v : NV} {n : RN} (h : NH W B v n) (hF : Fr W W') : NH W' B v n :=
 { h with hB := Nat.le_trans h.hB hF.size, h1 := h.h1.fr h.hB hF, h2 := h.h2.fr h.hB hF, h3 := h.h3.fr h.hB hF, h4 := h.h4.fr h.hB hF }
def OkN (n : RN) : Prop := (n.lf = true ∧ n.ks = [] ∧ n.ps = [] ∧ n.ms = [] ∧ OkE n.es) ∨ (n.lf = false ∧ n.es = [] ∧ zcZ n.ks ∧ n.ps.length + 1 = n.ks.length ∧ OkP n.ps ∧ OkL n.ms)
def zcW (n : RN) : Int := if n.lf then zQ n.es else zbB n.ms
def rmN (n : RN) : Int := if n.lf then 248 else 205
theorem zkD {ks : List Int} {ps : List RK} (wp : WfK ps) : zed ks ps = true ↔ zcZ ks ∧ ps.length + 1 = ks.length ∧ OkP ps := by
 unfold zed;rw [Bool.and_eq_true, Bool.and_eq_true, zeL, zio wp, decide_eq_true_iff, and_assoc]
theorem zaw : (Tryz.prog.info? 27).map (·.size) = some 5 := by kernel_rfl
theorem zq : Sty Tryz.prog 27 5 := ⟨zaw, _, Tryz.underlying27, rfl⟩
theorem zaP (p : Value) : Instr.loadAt 27 p = ldS 27 p := rfl
theorem as_ll (v : Value) (W : World) : (Instr.typeAssert (.iface 123 v) 97 123 true).run Tryz.prog W = .ok (.tuple #[v, .bool true]) W := by kernel_rfl
theorem as_ii (v : Value) (W : World) : (Instr.typeAssert (.iface 124 v) 97 124 true).run Tryz.prog W = .ok (.tuple #[v, .bool true]) W := by kernel_rfl
theorem as_li (v : Value) (W : World) : (Instr.typeAssert (.iface 123 v) 97 124 true).run Tryz.prog W = .ok (.tuple #[.agg #[.bool false, .slice none 0 0, .slice none 0 0, .slice none 0 0, .slice none 0 0], .bool false]) W := by kernel_rfl
theorem as_il (v : Value) (W : World) : (Instr.typeAssert (.iface 124 v) 97 123 true).run Tryz.prog W = .ok (.tuple #[.agg #[.bool false, .slice none 0 0, .slice none 0 0, .slice none 0 0, .slice none 0 0], .bool false]) W := by kernel_rfl
attribute [local go_sem] as_ll as_ii as_li as_il
section
variable {A1 : Option Addr} {n1 c1 : Nat} {A2 : Option Addr} {n2 c2 : Nat} {A3 : Option Addr} {n3 c3 : Nat} {A4 : Option Addr} {n4 c4 : Nat}
theorem zgP {W0 W : World} (hb : Fr W0 W) :
 Calls Tryz.prog 56 #[.agg #[.bool true, .slice A1 n1 c1, .slice A2 n2 c2, .slice A3 n3 c3, .slice A4 n4 c4]] W fun e w' => e = .returned (.iface 123 (.agg #[.bool true, .slice A1 n1 c1, .slice A2 n2 c2, .slice A3 n3 c3, .slice A4 n4 c4])) ∧ Fr W0 w' := by
 go_enter Tryz.func56, Tryz.ntmps56;go_wp2_with fail;go_ret;exact ⟨rfl, zf hb _⟩
theorem zfG {W0 W : World} (hb : Fr W0 W) :
 Calls Tryz.prog 56 #[.agg #[.bool false, .slice A1 n1 c1, .slice A2 n2 c2, .slice A3 n3 c3, .slice A4 n4 c4]] W fun e w' => e = .returned (.iface 124 (.agg #[.bool false, .slice A1 n1 c1, .slice A2 n2 c2, .slice A3 n3 c3, .slice A4 n4 c4])) ∧ Fr W0 w' := by
 go_enter Tryz.func56, Tryz.ntmps56;go_wp2_with fail;go_ret;exact ⟨rfl, zf hb _⟩
theorem zoJ {W0 W : World} (hb : Fr W0 W) : Calls Tryz.prog 161 #[.agg #[.bool true, .slice A1 n1 c1, .slice A2 n2 c2, .slice A3 n3 c3, .slice A4 n4 c4]] W fun e w' => e = .returned (.int .i64 248) ∧ Fr W0 w' := by
 go_enter Tryz.func161, Tryz.ntmps161;go_wp2_with fail;go_ret;exact ⟨rfl, zf hb _⟩
theorem zme {W0 W : World} (hb : Fr W0 W) : Calls Tryz.prog 162 #[.agg #[.bool false, .slice A1 n1 c1, .slice A2 n2 c2, .slice A3 n3 c3, .slice A4 n4 c4]] W fun e w' => e = .returned (.int .i64 205) ∧ Fr W0 w' := by
 go_enter Tryz.func162, Tryz.ntmps162;go_wp2_with fail;go_ret;exact ⟨rfl, zf hb _⟩
end
end
section
attribute [local go_sem] as_ll as_ii as_li as_il
section
variable {A1 : Option Addr} {n1 c1 : Nat} {A2 : Option Addr} {n2 c2 : Nat} {A3 : Option Addr} {n3 c3 : Nat} {A4 : Option Addr} {n4 c4 : Nat}
theorem zbR {Q : Prop} (h : ¬ Q) : (false = true ↔ Q) := ⟨fun h => (by cases h), fun k => absurd k h⟩
theorem zkW {w : World} {P : Prop} {Q : Prop} (hQ : Q ↔ n2 = 0 ∧ n3 = 0 ∧ n4 = 0 ∧ P)
 (cL : ∀ W, Fr w W → Calls Tryz.prog 81 #[.slice A1 n1 c1] W fun e w' => (∃ b, e = .returned (.bool b) ∧ (b = true ↔ P)) ∧ Fr w w') :
 Calls Tryz.prog 54 #[.agg #[.bool true, .slice A1 n1 c1, .slice A2 n2 c2, .slice A3 n3 c3, .slice A4 n4 c4]] w fun e w' => (∃ b, e = .returned (.bool b) ∧ (b = true ↔ Q)) ∧ Fr w w' := by
 have hw := ze w;have cK := fun W h => zgP (A1 := A1) (n1 := n1) (c1 := c1) (A2 := A2) (n2 := n2) (c2 := c2) (A3 := A3) (n3 := n3) (c3 := c3) (A4 := A4) (n4 := n4) (c4 := c4) (W0 := w) (W := W) h
 rcases Nat.eq_zero_or_pos n2 with e2 | p2
 ·rcases Nat.eq_zero_or_pos n3 with e3 | p3
  ·rcases Nat.eq_zero_or_pos n4 with e4 | p4
   ·have H : Hid (P ↔ Q) := zb (by rw [hQ]; simp [e2, e3, e4])
    subst e2 e3 e4;clear hQ;go_enter Tryz.func54, Tryz.ntmps54;go_wp2_with fail;refine (cK _ (zf hw _)).mono ?_;rintro e v1 ⟨rfl, f1⟩;clear cK;go_wp2_with fail;refine (cL _ (zf f1 _)).mono ?_;rintro e v2 ⟨⟨b, rfl, hb⟩, f2⟩;go_wp2_with fail;go_ret;exact ⟨⟨b, rfl, hb.trans H.out⟩, f2⟩
   ·have H : Hid (¬ Q) := zb (by rw [hQ]; omega)
    have q : ((n4 : Int) == 0) = false := by simp; omega
    subst e2 e3;clear hQ;go_enter Tryz.func54, Tryz.ntmps54;go_wp2_with fail;refine (cK _ (zf hw _)).mono ?_;rintro e v1 ⟨rfl, f1⟩;clear cK;go_wp2_with fail;go_ret;refine ⟨?_, zf f1 _⟩;exact ⟨false, rfl, zbR H.out⟩
  ·have H : Hid (¬ Q) := zb (by rw [hQ]; omega)
   have q : ((n3 : Int) == 0) = false := by simp; omega
   subst e2;clear hQ;go_enter Tryz.func54, Tryz.ntmps54;go_wp2_with fail;refine (cK _ (zf hw _)).mono ?_;rintro e v1 ⟨rfl, f1⟩;clear cK;go_wp2_with fail;go_ret;refine ⟨?_, zf f1 _⟩;exact ⟨false, rfl, zbR H.out⟩
 ·have H : Hid (¬ Q) := zb (by rw [hQ]; omega)
  have q : ((n2 : Int) == 0) = false := by simp; omega
  clear hQ;go_enter Tryz.func54, Tryz.ntmps54;go_wp2_with fail;refine (cK _ (zf hw _)).mono ?_;rintro e v1 ⟨rfl, f1⟩;clear cK;go_wp2_with fail;go_ret;refine ⟨?_, zf f1 _⟩;exact ⟨false, rfl, zbR H.out⟩
theorem zjC {w : World} {P R : Prop} {Q : Prop} (hQ : Q ↔ n1 = 0 ∧ P ∧ R)
 (cF : ∀ W, Fr w W → Calls Tryz.prog 82 #[.slice A2 n2 c2, .slice A3 n3 c3] W fun e w' => (∃ b, e = .returned (.bool b) ∧ (b = true ↔ P)) ∧ Fr W w')
 (cB : ∀ W, Fr w W → Calls Tryz.prog 83 #[.slice A4 n4 c4] W fun e w' => (∃ b, e = .returned (.bool b) ∧ (b = true ↔ R)) ∧ Fr w w') :
 Calls Tryz.prog 54 #[.agg #[.bool false, .slice A1 n1 c1, .slice A2 n2 c2, .slice A3 n3 c3, .slice A4 n4 c4]] w fun e w' => (∃ b, e = .returned (.bool b) ∧ (b = true ↔ Q)) ∧ Fr w w' := by
 have hw := ze w;have cK := fun W h => zfG (A1 := A1) (n1 := n1) (c1 := c1) (A2 := A2) (n2 := n2) (c2 := c2) (A3 := A3) (n3 := n3) (c3 := c3) (A4 := A4) (n4 := n4) (c4 := c4) (W0 := w) (W := W) h
 rcases Nat.eq_zero_or_pos n1 with e1 | p1
 ·have H : Hid (Q ↔ P ∧ R) := zb (by rw [hQ]; simp [e1])
  subst e1;clear hQ;go_enter Tryz.func54, Tryz.ntmps54;go_wp2_with fail;refine (cK _ (zf hw _)).mono ?_;rintro e v1 ⟨rfl, f1⟩;clear cK;go_wp2_with fail;refine (cF _ (zf f1 _)).mono ?_;rintro e v2 ⟨⟨b, rfl, hb⟩, f2⟩;have a4 : v2.cell? ⟨v1.heap.size, 4, none⟩ = some (.slice A4 n4 c4) := ((Arr.new v1 _ _).below f2 (by simp)).cell 4;replace f2 := za (zf f1 _) f2;clear cF
  cases b
  ·have Hb := zb hb
   clear hb;go_wp2_with fail;go_ret;refine ⟨?_, f2⟩;have HQ : ¬ Q := fun h => by have := Hb.out.2 (H.out.1 h).1; cases this
   exact ⟨false, rfl, zbR HQ⟩
  ·have HP := zb (hb.1 rfl)
   clear hb;go_wp2_with fail;refine (cB _ f2).mono ?_;rintro e v3 ⟨⟨b, rfl, hb⟩, f3⟩;go_wp2_with fail;go_ret;exact ⟨⟨b, rfl, hb.trans ⟨fun h => H.out.2 ⟨HP.out, h⟩, fun h => (H.out.1 h).2⟩⟩, f3⟩
 ·have H : Hid (¬ Q) := zb (by rw [hQ]; omega)
  have q : ((n1 : Int) == 0) = false := by simp; omega
  clear hQ;go_enter Tryz.func54, Tryz.ntmps54;go_wp2_with fail;refine (cK _ (zf hw _)).mono ?_;rintro e v1 ⟨rfl, f1⟩;clear cK;go_wp2_with fail;go_ret;refine ⟨?_, zf f1 _⟩;exact ⟨false, rfl, zbR H.out⟩
theorem zlF {w : World} {x : Int} (cL : ∀ W, Fr w W → Calls Tryz.prog 84 #[.slice A1 n1 c1] W fun e w' => e = .returned (.int .i64 x) ∧ Fr w w') :
 Calls Tryz.prog 55 #[.agg #[.bool true, .slice A1 n1 c1, .slice A2 n2 c2, .slice A3 n3 c3, .slice A4 n4 c4]] w fun e w' => e = .returned (.int .i64 x) ∧ Fr w w' := by
 have hw := ze w;have cK := fun W h => zgP (A1 := A1) (n1 := n1) (c1 := c1) (A2 := A2) (n2 := n2) (c2 := c2) (A3 := A3) (n3 := n3) (c3 := c3) (A4 := A4) (n4 := n4) (c4 := c4) (W0 := w) (W := W) h;go_enter Tryz.func55, Tryz.ntmps55;go_wp2_with fail;refine (cK _ (zf hw _)).mono ?_;rintro e v1 ⟨rfl, f1⟩;clear cK;go_wp2_with fail;refine (cL _ (zf f1 _)).mono ?_;rintro e v2 ⟨rfl, f2⟩;go_wp2_with fail;go_ret;exact ⟨rfl, f2⟩
theorem zjT {w : World} {x : Int} (cL : ∀ W, Fr w W → Calls Tryz.prog 85 #[.slice A4 n4 c4] W fun e w' => e = .returned (.int .i64 x) ∧ Fr w w') :
 Calls Tryz.prog 55 #[.agg #[.bool false, .slice A1 n1 c1, .slice A2 n2 c2, .slice A3 n3 c3, .slice A4 n4 c4]] w fun e w' => e = .returned (.int .i64 x) ∧ Fr w w' := by
 have hw := ze w;have cK := fun W h => zfG (A1 := A1) (n1 := n1) (c1 := c1) (A2 := A2) (n2 := n2) (c2 := c2) (A3 := A3) (n3 := n3) (c3 := c3) (A4 := A4) (n4 := n4) (c4 := c4) (W0 := w) (W := W) h;go_enter Tryz.func55, Tryz.ntmps55;go_wp2_with fail;refine (cK _ (zf hw _)).mono ?_;rintro e v1 ⟨rfl, f1⟩;clear cK;go_wp2_with fail;refine (cL _ (zf f1 _)).mono ?_;rintro e v2 ⟨rfl, f2⟩;go_wp2_with fail;go_ret;exact ⟨rfl, f2⟩
section
theorem zkX (f : Nat) (v : Value) (W : World) : (method (f + 1) 123 v "orangery/node.room").run Tryz.prog W = .ok (161, v) W := by kernel_rfl
attribute [local go_sem] zkX
attribute [local go_sem ↓] zaP
theorem zmA {w : World} {P Q : Prop} {x : Int} (hQ : Q ↔ P ∧ x ≤ 248)
 (cC : ∀ W, Fr w W → Calls Tryz.prog 54 #[.agg #[.bool true, .slice A1 n1 c1, .slice A2 n2 c2, .slice A3 n3 c3, .slice A4 n4 c4]] W fun e w' => (∃ b, e = .returned (.bool b) ∧ (b = true ↔ P)) ∧ Fr W w')
 (cB : P → ∀ W, Fr w W → Calls Tryz.prog 55 #[.agg #[.bool true, .slice A1 n1 c1, .slice A2 n2 c2, .slice A3 n3 c3, .slice A4 n4 c4]] W fun e w' => e = .returned (.int .i64 x) ∧ Fr W w') :
 Calls Tryz.prog 33 #[.agg #[.bool true, .slice A1 n1 c1, .slice A2 n2 c2, .slice A3 n3 c3, .slice A4 n4 c4]] w fun e w' => (∃ b, e = .returned (.bool b) ∧ (b = true ↔ Q)) ∧ Fr w w' := by
 have hw := ze w;obtain ⟨Z, hZ, hF, hZZ, hG⟩ : ∃ Z, w.alloc (.cells #[.bool true, .slice A1 n1 c1, .slice A2 n2 c2, .slice A3 n3 c3, .slice A4 n4 c4] 27) = Z ∧ Fr w Z ∧ Fr Z Z ∧ Arr Z w.heap.size 27 [.bool true, .slice A1 n1 c1, .slice A2 n2 c2, .slice A3 n3 c3, .slice A4 n4 c4].toArray := ⟨_, rfl, zf (ze w) _, ze _, Arr.new _ _ _⟩;have lN : ∀ W, Fr Z W → (ldS 27 (.pointer (some ⟨w.heap.size, 0, none⟩))).run Tryz.prog W = .ok (.agg #[.bool true, .slice A1 n1 c1, .slice A2 n2 c2, .slice A3 n3 c3, .slice A4 n4 c4]) W := fun W h => zq.ld rfl (hG.below h hG.lt);have cK : ∀ W, Fr Z W → Calls Tryz.prog 56 #[.agg #[.bool true, .slice A1 n1 c1, .slice A2 n2 c2, .slice A3 n3 c3, .slice A4 n4 c4]] W fun e w' => e = .returned (.iface 123 (.agg #[.bool true, .slice A1 n1 c1, .slice A2 n2 c2, .slice A3 n3 c3, .slice A4 n4 c4])) ∧ Fr Z w' := fun W h => zgP h;have cR : ∀ W, Fr Z W → Calls Tryz.prog 161 #[.agg #[.bool true, .slice A1 n1 c1, .slice A2 n2 c2, .slice A3 n3 c3, .slice A4 n4 c4]] W fun e w' => e = .returned (.int .i64 248) ∧ Fr Z w' := fun W h => zoJ h
 by_cases hP : P
 ·have cC1 : ∀ W, Fr Z W → Calls Tryz.prog 54 #[.agg #[.bool true, .slice A1 n1 c1, .slice A2 n2 c2, .slice A3 n3 c3, .slice A4 n4 c4]] W fun e w' => e = .returned (.bool true) ∧ Fr Z w' := fun W h => (cC W (za hF h)).mono fun e w' h => by
   obtain ⟨⟨b, h1, h2⟩, h3⟩ := h;rw [h2.2 hP] at h1;exact ⟨h1, za h h3⟩
  have cB1 : ∀ W, Fr Z W → Calls Tryz.prog 55 #[.agg #[.bool true, .slice A1 n1 c1, .slice A2 n2 c2, .slice A3 n3 c3, .slice A4 n4 c4]] W fun e w' => e = .returned (.int .i64 x) ∧ Fr Z w' := fun W h => (cB hP W (za hF h)).mono fun _ _ ⟨h1, h2⟩ => ⟨h1, za h h2⟩;have H : Hid (decide (x ≤ 248) = true ↔ Q) := zb (by rw [hQ, decide_eq_true_iff]; simp [hP]);clear hQ cC cB hG;go_enter Tryz.func33, Tryz.ntmps33;go_wp2_with fail;refine wp_region_noPanic ?_;refine wp_region_held_drew (S := fun w' => Fr Z w') (by kernel_rfl) (zn hZZ) (fun hHeld => ?_);change wpAnyH _ _ _ _ _ _ _ _ _;refine xto 0 ?_;refine xr 1 fun K hK0 => ?_;go_simp;refine (cC1 _ (by assumption)).mono ?_;rintro e w3 ⟨rfl, zw3⟩;go_simp;refine xk hK0 zw3 ?_;clear hK0 K
  try simp only [xs, Act.put]
  refine xtb 2 true ?_;refine xto 3 ?_;refine xto 5 ?_;refine xr 4 fun K hK0 => ?_;go_simp;refine (cB1 _ (by assumption)).mono ?_;rintro e w4 ⟨rfl, zw4⟩;go_simp;refine xk hK0 zw4 ?_;clear hK0 K;refine xr 6 fun K hK0 => ?_;go_simp;refine (cK _ (by assumption)).mono ?_;rintro e w5 ⟨rfl, zw5⟩;go_simp;refine xk hK0 zw5 ?_;clear hK0 K;refine xr 7 fun K hK0 => ?_;go_simp;refine (cR _ (by assumption)).mono ?_;rintro e w6 ⟨rfl, zw6⟩;go_simp;refine xk hK0 zw6 ?_;clear hK0 K
  try simp only [xs, Act.put]
  refine xto 8 ?_;refine xto 9 ?_;refine xto 10 ?_;refine wpAnyH_done (by kernel_rfl) ?_ _;refine NoPanic.normal ?_;go_wp2_with fail;go_ret;exact ⟨⟨_, rfl, H.out⟩, za hF (by assumption)⟩
 ·have H : Hid (¬ Q) := zb (by rw [hQ]; simp [hP])
  have cC1 : ∀ W, Fr Z W → Calls Tryz.prog 54 #[.agg #[.bool true, .slice A1 n1 c1, .slice A2 n2 c2, .slice A3 n3 c3, .slice A4 n4 c4]] W fun e w' => e = .returned (.bool false) ∧ Fr Z w' := fun W h => (cC W (za hF h)).mono fun e w' h' => by
   obtain ⟨⟨b, h1, h2⟩, h3⟩ := h'
   cases b
   ·exact ⟨h1, za h h3⟩
   ·exact absurd (h2.1 rfl) hP
  clear hQ cC cB hG cK cR;go_enter Tryz.func33, Tryz.ntmps33;go_wp2_with fail;refine wp_region_noPanic ?_;refine wp_region_held_drew (S := fun w' => Fr Z w') (by kernel_rfl) (zn hZZ) (fun hHeld => ?_);change wpAnyH _ _ _ _ _ _ _ _ _;refine xto 0 ?_;refine xr 1 fun K hK0 => ?_;go_simp;refine (cC1 _ (by assumption)).mono ?_;rintro e w3 ⟨rfl, zw3⟩;go_simp;refine xk hK0 zw3 ?_;clear hK0 K
  try simp only [xs, Act.put]
  refine xtb 2 false ?_;refine xtn 3 ?_;refine xtn 4 ?_;refine xtn 5 ?_;refine xtn 6 ?_;refine xtn 7 ?_;refine xtn 8 ?_;refine xtb 9 false ?_;refine xto 10 ?_;refine wpAnyH_done (by kernel_rfl) ?_ _;refine NoPanic.normal ?_;go_wp2_with fail;go_ret;exact ⟨⟨false, rfl, zbR H.out⟩, za hF (by assumption)⟩
end
section
theorem zjN (f : Nat) (v : Value) (W : World) : (method (f + 1) 124 v "orangery/node.room").run Tryz.prog W = .ok (162, v) W := by kernel_rfl
attribute [local go_sem] zjN
attribute [local go_sem ↓] zaP
theorem zlI {w : World} {P Q : Prop} {x : Int} (hQ : Q ↔ P ∧ x ≤ 205)
 (cC : ∀ W, Fr w W → Calls Tryz.prog 54 #[.agg #[.bool false, .slice A1 n1 c1, .slice A2 n2 c2, .slice A3 n3 c3, .slice A4 n4 c4]] W fun e w' => (∃ b, e = .returned (.bool b) ∧ (b = true ↔ P)) ∧ Fr W w')
 (cB : P → ∀ W, Fr w W → Calls Tryz.prog 55 #[.agg #[.bool false, .slice A1 n1 c1, .slice A2 n2 c2, .slice A3 n3 c3, .slice A4 n4 c4]] W fun e w' => e = .returned (.int .i64 x) ∧ Fr W w') :
 Calls Tryz.prog 33 #[.agg #[.bool false, .slice A1 n1 c1, .slice A2 n2 c2, .slice A3 n3 c3, .slice A4 n4 c4]] w fun e w' => (∃ b, e = .returned (.bool b) ∧ (b = true ↔ Q)) ∧ Fr w w' := by
 have hw := ze w;obtain ⟨Z, hZ, hF, hZZ, hG⟩ : ∃ Z, w.alloc (.cells #[.bool false, .slice A1 n1 c1, .slice A2 n2 c2, .slice A3 n3 c3, .slice A4 n4 c4] 27) = Z ∧ Fr w Z ∧ Fr Z Z ∧ Arr Z w.heap.size 27 [.bool false, .slice A1 n1 c1, .slice A2 n2 c2, .slice A3 n3 c3, .slice A4 n4 c4].toArray := ⟨_, rfl, zf (ze w) _, ze _, Arr.new _ _ _⟩;have lN : ∀ W, Fr Z W → (ldS 27 (.pointer (some ⟨w.heap.size, 0, none⟩))).run Tryz.prog W = .ok (.agg #[.bool false, .slice A1 n1 c1, .slice A2 n2 c2, .slice A3 n3 c3, .slice A4 n4 c4]) W := fun W h => zq.ld rfl (hG.below h hG.lt);have cK : ∀ W, Fr Z W → Calls Tryz.prog 56 #[.agg #[.bool false, .slice A1 n1 c1, .slice A2 n2 c2, .slice A3 n3 c3, .slice A4 n4 c4]] W fun e w' => e = .returned (.iface 124 (.agg #[.bool false, .slice A1 n1 c1, .slice A2 n2 c2, .slice A3 n3 c3, .slice A4 n4 c4])) ∧ Fr Z w' := fun W h => zfG h;have cR : ∀ W, Fr Z W → Calls Tryz.prog 162 #[.agg #[.bool false, .slice A1 n1 c1, .slice A2 n2 c2, .slice A3 n3 c3, .slice A4 n4 c4]] W fun e w' => e = .returned (.int .i64 205) ∧ Fr Z w' := fun W h => zme h
 by_cases hP : P
 ·have cC1 : ∀ W, Fr Z W → Calls Tryz.prog 54 #[.agg #[.bool false, .slice A1 n1 c1, .slice A2 n2 c2, .slice A3 n3 c3, .slice A4 n4 c4]] W fun e w' => e = .returned (.bool true) ∧ Fr Z w' := fun W h => (cC W (za hF h)).mono fun e w' h => by
   obtain ⟨⟨b, h1, h2⟩, h3⟩ := h;rw [h2.2 hP] at h1;exact ⟨h1, za h h3⟩
  have cB1 : ∀ W, Fr Z W → Calls Tryz.prog 55 #[.agg #[.bool false, .slice A1 n1 c1, .slice A2 n2 c2, .slice A3 n3 c3, .slice A4 n4 c4]] W fun e w' => e = .returned (.int .i64 x) ∧ Fr Z w' := fun W h => (cB hP W (za hF h)).mono fun _ _ ⟨h1, h2⟩ => ⟨h1, za h h2⟩;have H : Hid (decide (x ≤ 205) = true ↔ Q) := zb (by rw [hQ, decide_eq_true_iff]; simp [hP]);clear hQ cC cB hG;go_enter Tryz.func33, Tryz.ntmps33;go_wp2_with fail;refine wp_region_noPanic ?_;refine wp_region_held_drew (S := fun w' => Fr Z w') (by kernel_rfl) (zn hZZ) (fun hHeld => ?_);change wpAnyH _ _ _ _ _ _ _ _ _;refine xto 0 ?_;refine xr 1 fun K hK0 => ?_;go_simp;refine (cC1 _ (by assumption)).mono ?_;rintro e w3 ⟨rfl, zw3⟩;go_simp;refine xk hK0 zw3 ?_;clear hK0 K
  try simp only [xs, Act.put]
  refine xtb 2 true ?_;refine xto 3 ?_;refine xto 5 ?_;refine xr 4 fun K hK0 => ?_;go_simp;refine (cB1 _ (by assumption)).mono ?_;rintro e w4 ⟨rfl, zw4⟩;go_simp;refine xk hK0 zw4 ?_;clear hK0 K;refine xr 6 fun K hK0 => ?_;go_simp;refine (cK _ (by assumption)).mono ?_;rintro e w5 ⟨rfl, zw5⟩;go_simp;refine xk hK0 zw5 ?_;clear hK0 K;refine xr 7 fun K hK0 => ?_;go_simp;refine (cR _ (by assumption)).mono ?_;rintro e w6 ⟨rfl, zw6⟩;go_simp;refine xk hK0 zw6 ?_;clear hK0 K
  try simp only [xs, Act.put]
  refine xto 8 ?_;refine xto 9 ?_;refine xto 10 ?_;refine wpAnyH_done (by kernel_rfl) ?_ _;refine NoPanic.normal ?_;go_wp2_with fail;go_ret;exact ⟨⟨_, rfl, H.out⟩, za hF (by assumption)⟩
 ·have H : Hid (¬ Q) := zb (by rw [hQ]; simp [hP])
  have cC1 : ∀ W, Fr Z W → Calls Tryz.prog 54 #[.agg #[.bool false, .slice A1 n1 c1, .slice A2 n2 c2, .slice A3 n3 c3, .slice A4 n4 c4]] W fun e w' => e = .returned (.bool false) ∧ Fr Z w' := fun W h => (cC W (za hF h)).mono fun e w' h' => by
   obtain ⟨⟨b, h1, h2⟩, h3⟩ := h'
   cases b
   ·exact ⟨h1, za h h3⟩
   ·exact absurd (h2.1 rfl) hP
  clear hQ cC cB hG cK cR;go_enter Tryz.func33, Tryz.ntmps33;go_wp2_with fail;refine wp_region_noPanic ?_;refine wp_region_held_drew (S := fun w' => Fr Z w') (by kernel_rfl) (zn hZZ) (fun hHeld => ?_);change wpAnyH _ _ _ _ _ _ _ _ _;refine xto 0 ?_;refine xr 1 fun K hK0 => ?_;go_simp;refine (cC1 _ (by assumption)).mono ?_;rintro e w3 ⟨rfl, zw3⟩;go_simp;refine xk hK0 zw3 ?_;clear hK0 K
  try simp only [xs, Act.put]
  refine xtb 2 false ?_;refine xtn 3 ?_;refine xtn 4 ?_;refine xtn 5 ?_;refine xtn 6 ?_;refine xtn 7 ?_;refine xtn 8 ?_;refine xtb 9 false ?_;refine xto 10 ?_;refine wpAnyH_done (by kernel_rfl) ?_ _;refine NoPanic.normal ?_;go_wp2_with fail;go_ret;exact ⟨⟨false, rfl, zbR H.out⟩, za hF (by assumption)⟩
end
def wJ (wt : Nat → Int) (n j : Nat) : List Int := (List.range n).map fun i => if i < j then wt i else 0
def TopI (l : List Int) (j : Nat) (f m : Int) : Prop :=
 (f = -1 ∧ m = 0 ∧ ∀ i x, i < j → l[i]? = some x → x ≤ 0) ∨ (∃ a : Nat, f = (a : Int) ∧ a < j ∧ l[a]? = some m ∧ 0 < m ∧ (∀ i x, i < j → l[i]? = some x → x ≤ m) ∧ (∀ i x, i < a → l[i]? = some x → x < m))
section
theorem inn_ld (p : Value) : Instr.loadAt 124 p = ldS 124 p := rfl
attribute [local go_sem ↓] inn_ld
end
end
end
section
attribute [local go_sem] as_ll as_ii as_li as_il
section
variable {A1 : Option Addr} {n1 c1 : Nat} {A2 : Option Addr} {n2 c2 : Nat} {A3 : Option Addr} {n3 c3 : Nat} {A4 : Option Addr} {n4 c4 : Nat}
section
variable {B1 : Option Addr} {m1 d1 : Nat} {B2 : Option Addr} {m2 d2 : Nat} {B3 : Option Addr} {m3 d3 : Nat} {B4 : Option Addr} {m4 d4 : Nat}
theorem rnsame {w : World} {lf lf2 b1 b2 b3 b4 : Bool}
 (e1 : ∀ W, Fr w W → Calls Tryz.prog 64 #[.slice A1 n1 c1, .slice B1 m1 d1] W fun e w' => e = .returned (.bool b1) ∧ Fr W w')
 (e2 : ∀ W, Fr w W → Calls Tryz.prog 65 #[.slice A2 n2 c2, .slice B2 m2 d2] W fun e w' => e = .returned (.bool b2) ∧ Fr W w')
 (e3 : ∀ W, Fr w W → Calls Tryz.prog 66 #[.slice A3 n3 c3, .slice B3 m3 d3] W fun e w' => e = .returned (.bool b3) ∧ Fr W w')
 (e4 : ∀ W, Fr w W → Calls Tryz.prog 67 #[.slice A4 n4 c4, .slice B4 m4 d4] W fun e w' => e = .returned (.bool b4) ∧ Fr W w') :
 Calls Tryz.prog 37 #[.agg #[.bool lf, .slice A1 n1 c1, .slice A2 n2 c2, .slice A3 n3 c3, .slice A4 n4 c4], .agg #[.bool lf2, .slice B1 m1 d1, .slice B2 m2 d2, .slice B3 m3 d3, .slice B4 m4 d4]] w fun e w' => e = .returned (.bool (lf == lf2 && (b1 && (b2 && (b3 && b4))))) ∧ Fr w w' := by
 obtain ⟨Z, hZ, hF, hZZ, hG, hG2⟩ : ∃ Z, (w.alloc (.cells #[.bool lf, .slice A1 n1 c1, .slice A2 n2 c2, .slice A3 n3 c3, .slice A4 n4 c4] 27)).alloc (.cells #[.bool lf2, .slice B1 m1 d1, .slice B2 m2 d2, .slice B3 m3 d3, .slice B4 m4 d4] 27) = Z ∧ Fr w Z ∧ Fr Z Z ∧ Arr Z w.heap.size 27 #[.bool lf, .slice A1 n1 c1, .slice A2 n2 c2, .slice A3 n3 c3, .slice A4 n4 c4] ∧ Arr Z (w.heap.size + 1) 27 #[.bool lf2, .slice B1 m1 d1, .slice B2 m2 d2, .slice B3 m3 d3, .slice B4 m4 d4] :=
  ⟨_, rfl, zf (zf (ze w) _) _, ze _, (Arr.new w _ _).alloc _, by have := Arr.new (w.alloc (.cells #[.bool lf, .slice A1 n1 c1, .slice A2 n2 c2, .slice A3 n3 c3, .slice A4 n4 c4] 27)) #[.bool lf2, .slice B1 m1 d1, .slice B2 m2 d2, .slice B3 m3 d3, .slice B4 m4 d4] 27; simpa using this⟩
 have l0 : ∀ W, Fr Z W → W.cell? ⟨w.heap.size, 0, none⟩ = some (.bool lf) := fun W h => ((hG.below h hG.lt).cell 0);have k0 : ∀ W, Fr Z W → W.cell? ⟨w.heap.size + 1, 0, none⟩ = some (.bool lf2) := fun W h => ((hG2.below h hG2.lt).cell 0);have l1 : ∀ W, Fr Z W → W.cell? ⟨w.heap.size, 1, none⟩ = some (.slice A1 n1 c1) := fun W h => ((hG.below h hG.lt).cell 1);have k1 : ∀ W, Fr Z W → W.cell? ⟨w.heap.size + 1, 1, none⟩ = some (.slice B1 m1 d1) := fun W h => ((hG2.below h hG2.lt).cell 1);have l2 : ∀ W, Fr Z W → W.cell? ⟨w.heap.size, 2, none⟩ = some (.slice A2 n2 c2) := fun W h => ((hG.below h hG.lt).cell 2);have k2 : ∀ W, Fr Z W → W.cell? ⟨w.heap.size + 1, 2, none⟩ = some (.slice B2 m2 d2) := fun W h => ((hG2.below h hG2.lt).cell 2);have l3 : ∀ W, Fr Z W → W.cell? ⟨w.heap.size, 3, none⟩ = some (.slice A3 n3 c3) := fun W h => ((hG.below h hG.lt).cell 3);have k3 : ∀ W, Fr Z W → W.cell? ⟨w.heap.size + 1, 3, none⟩ = some (.slice B3 m3 d3) := fun W h => ((hG2.below h hG2.lt).cell 3);have l4 : ∀ W, Fr Z W → W.cell? ⟨w.heap.size, 4, none⟩ = some (.slice A4 n4 c4) := fun W h => ((hG.below h hG.lt).cell 4);have k4 : ∀ W, Fr Z W → W.cell? ⟨w.heap.size + 1, 4, none⟩ = some (.slice B4 m4 d4) := fun W h => ((hG2.below h hG2.lt).cell 4);replace e1 := fun W h => e1 W (za hF h);replace e2 := fun W h => e2 W (za hF h);replace e3 := fun W h => e3 W (za hF h);replace e4 := fun W h => e4 W (za hF h);clear hG hG2
 cases lf <;> cases lf2
 ·go_enter Tryz.func37, Tryz.ntmps37
  go_wp2_with fail;refine (e1 _ hZZ).mono ?_;rintro e v1 ⟨rfl, f1⟩;replace f1 := za hZZ f1;clear e1
  cases b1
  ·go_wp2_with fail
   go_ret;exact ⟨rfl, za hF f1⟩
  ·go_wp2_with fail
   refine (e2 _ f1).mono ?_;rintro e v2 ⟨rfl, f2⟩;replace f2 := za f1 f2;clear e2
   cases b2
   ·go_wp2_with fail
    go_ret;exact ⟨rfl, za hF f2⟩
   ·go_wp2_with fail
    refine (e3 _ f2).mono ?_;rintro e v3 ⟨rfl, f3⟩;replace f3 := za f2 f3;clear e3
    cases b3
    ·go_wp2_with fail
     go_ret;exact ⟨rfl, za hF f3⟩
    ·go_wp2_with fail
     refine (e4 _ f3).mono ?_;rintro e v4 ⟨rfl, f4⟩;replace f4 := za f3 f4;clear e4;go_wp2_with fail;go_ret;exact ⟨by cases b4 <;> rfl, za hF f4⟩
 ·go_enter Tryz.func37, Tryz.ntmps37
  go_wp2_with fail;go_ret;exact ⟨rfl, hF⟩
 ·go_enter Tryz.func37, Tryz.ntmps37
  go_wp2_with fail;go_ret;exact ⟨rfl, hF⟩
 ·go_enter Tryz.func37, Tryz.ntmps37
  go_wp2_with fail;refine (e1 _ hZZ).mono ?_;rintro e v1 ⟨rfl, f1⟩;replace f1 := za hZZ f1;clear e1
  cases b1
  ·go_wp2_with fail
   go_ret;exact ⟨rfl, za hF f1⟩
  ·go_wp2_with fail
   refine (e2 _ f1).mono ?_;rintro e v2 ⟨rfl, f2⟩;replace f2 := za f1 f2;clear e2
   cases b2
   ·go_wp2_with fail
    go_ret;exact ⟨rfl, za hF f2⟩
   ·go_wp2_with fail
    refine (e3 _ f2).mono ?_;rintro e v3 ⟨rfl, f3⟩;replace f3 := za f2 f3;clear e3
    cases b3
    ·go_wp2_with fail
     go_ret;exact ⟨rfl, za hF f3⟩
    ·go_wp2_with fail
     refine (e4 _ f3).mono ?_;rintro e v4 ⟨rfl, f4⟩;replace f4 := za f3 f4;clear e4;go_wp2_with fail;go_ret;exact ⟨by cases b4 <;> rfl, za hF f4⟩
end
section
attribute [local go_sem ↓] zaP
end
end
end
end Go.Proofs.YtmjjjdikpnhpiaaGreat
