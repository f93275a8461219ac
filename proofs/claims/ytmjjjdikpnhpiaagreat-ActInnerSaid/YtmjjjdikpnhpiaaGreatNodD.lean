/- What the functions of nodes tell, of the program and of the document. -/
import Derived.Test.YtmjjjdikpnhpiaaGreatNodA
import Derived.Test.YtmjjjdikpnhpiaaGreatFnA
import Derived.Test.YtmjjjdikpnhpiaaGreatLfF
import Derived.Test.YtmjjjdikpnhpiaaGreatLfL
import Derived.Test.YtmjjjdikpnhpiaaGreatShort
import Derived.Test.YtmjjjdikpnhpiaaGreatOrP
import Derived.Test.YtmjjjdikpnhpiaaGreatKeyA
import Derived.Deep.Slices
import Derived.ProofKit
import Derived.OpenShut
import Derived.SliceStrings
import Derived.Test.YtmjjjdikpnhpiaaGreatValA
import Derived.Test.YtmjjjdikpnhpiaaGreatMsg0
import Derived.Test.YtmjjjdikpnhpiaaGreatValC
import Derived.ChangeSlices
import Derived.ChangeArms
import Derived.Test.YtmjjjdikpnhpiaaGreatBufL
import Derived.SizedLaws
namespace Go.Proofs.YtmjjjdikpnhpiaaGreat
set_option linter.unusedVariables false
set_option linter.unusedSimpArgs false
set_option maxRecDepth 100000
open Go.RowKit
section
theorem zcd {n : RN} (h : n.lf = true) : OkN n ↔ n.ks.length = 0 ∧ n.ps.length = 0 ∧ n.ms.length = 0 ∧ OkE n.es := by
 unfold OkN;simp [h]
theorem zaI {n : RN} (h : n.lf = false) : OkN n ↔ n.es.length = 0 ∧ (zcZ n.ks ∧ n.ps.length + 1 = n.ks.length ∧ OkP n.ps) ∧ OkL n.ms := by
 unfold OkN;simp [h, and_assoc]
def wtN (n : RN) (i : Nat) : Int := zbB (zah n.ms n.ps i)
def wtsN (n : RN) : List Int := if n.lf then [] else (List.range n.ks.length).map (wtN n)
section
variable {W : World} {B : Nat} {v : NV} {n : RN}
theorem q_check (h : NH W B v n) : Calls Tryz.prog 54 #[nv v] W fun e w' => (∃ b, e = .returned (.bool b) ∧ (b = true ↔ OkN n)) ∧ Fr W w' := by
 have hlf := h.lf
 cases v with | mk lf A1 n1 c1 A2 n2 c2 A3 n3 c3 A4 n4 c4
 cases lf
 ·refine zjC (P := zcZ n.ks ∧ n.ps.length + 1 = n.ks.length ∧ OkP n.ps) (R := OkL n.ms) (by rw [zaI hlf.symm, h.l1]) (fun V hF => ?_) (fun V hF => ?_)
  ·have k := h.fr hF
   exact (zoz (c := c3) k.h2 k.hB k.l2 k.s2 k.k2 k.h3 k.hB k.l3 k.s3 k.w3).mono fun e w' ⟨h1, h2⟩ => ⟨⟨_, h1, zkD k.w3⟩, h2⟩
  ·have k := h.fr hF
   exact (zoD (c := c4) k.h4 k.hB k.l4 k.s4 k.w4).mono fun e w' ⟨h1, h2⟩ => ⟨h1, za hF h2⟩
 ·refine zkW (P := OkE n.es) (by rw [zcd hlf.symm, h.l2, h.l3, h.l4]) (fun V hF => ?_)
  have k := h.fr hF;exact (zoe (c := c1) k.h1 k.hB k.l1 k.s1 k.w1).mono fun e w' ⟨h1, h2⟩ => ⟨h1, za hF h2⟩
theorem q_bytes (h : NH W B v n) (hs : n.lf = true → SmE n.es) : Calls Tryz.prog 55 #[nv v] W fun e w' => e = .returned (.int .i64 (zcW n)) ∧ Fr W w' := by
 have hlf := h.lf;unfold zcW
 cases v with | mk lf A1 n1 c1 A2 n2 c2 A3 n3 c3 A4 n4 c4
 cases lf
 ·rw [if_neg (by rw [← hlf]; exact Bool.false_ne_true)]
  refine zjT (fun V hF => ?_);have k := h.fr hF;exact (bytes_at (c := c4) k.h4 k.hB k.l4 k.s4 k.w4).mono fun e w' ⟨h1, h2⟩ => ⟨h1, za hF h2⟩
 ·rw [if_pos (by rw [← hlf])]
  refine zlF (fun V hF => ?_);have k := h.fr hF;exact (zjt (c := c1) k.h1 k.hB k.l1 k.s1 k.w1 (hs hlf.symm)).mono fun e w' ⟨h1, h2⟩ => ⟨h1, za hF h2⟩
theorem OkN.sm (h : OkN n) : n.lf = true → SmE n.es := fun hl => ((zcd hl).1 h).2.2.2.sm
theorem zlH (h : n.lf = true) : rmN n = 248 := by unfold rmN; rw [h]; rfl
theorem zjb (h : n.lf = false) : rmN n = 205 := by unfold rmN; rw [h]; rfl
theorem q_fits (h : NH W B v n) : Calls Tryz.prog 33 #[nv v] W fun e w' => (∃ b, e = .returned (.bool b) ∧ (b = true ↔ OkN n ∧ zcW n ≤ rmN n)) ∧ Fr W w' := by
 have hlf := h.lf;have cC := fun V (hF : Fr W V) => q_check (h.fr hF);have cB := fun (ok : OkN n) V (hF : Fr W V) => q_bytes (h.fr hF) ok.sm
 cases v with | mk lf A1 n1 c1 A2 n2 c2 A3 n3 c3 A4 n4 c4
 cases lf
 ·exact zlI (by rw [zjb hlf.symm]) cC cB
 ·exact zmA (by rw [zlH hlf.symm]) cC cB
def hvN (n : RN) : Bool := if n.lf then false else decide (205 ≤ 2 * zbB n.ms)
def smN (a b : RN) : Bool := a.lf == b.lf && (decide (a.es = b.es) && (decide (a.ks = b.ks) && (decide (a.ps = b.ps) && decide (a.ms = b.ms))))
theorem q_rsame {B2 : Nat} {v2 : NV} {n2 : RN} (h : NH W B v n) (h2 : NH W B2 v2 n2) : Calls Tryz.prog 37 #[nv v, nv v2] W fun e w' => e = .returned (.bool (smN n n2)) ∧ Fr W w' := by
 unfold smN;rw [← h.lf, ← h2.lf];refine rnsame (fun V hF => ?_) (fun V hF => ?_) (fun V hF => ?_) (fun V hF => ?_)
 all_goals have k := h.fr hF
 all_goals have k2 := h2.fr hF
 ·exact zn2 k.h1 k.hB k.l1 k.s1 k.w1 k2.h1 k2.hB k2.l1 k2.s1 k2.w1
 ·exact zkT k.h2 k.hB k.l2 k.s2 k2.h2 k2.hB k2.l2 k2.s2 (ze V)
 ·exact zlr k.h3 k.hB k.l3 k.s3 k.w3 k2.h3 k2.hB k2.l3 k2.s3 k2.w3 (ze V)
 ·exact ref_same k.h4 k.hB k.l4 k.s4 k.w4 k2.h4 k2.hB k2.l4 k2.s4 k2.w4
end
end
section
def zcp (ns : List Int) : RN := ⟨true, zef ns 248, [], [], []⟩
def zdY (ns : List Int) (f : Int) (ms : List Int) : RN := ⟨false, [], zco (zca (16 :: ns) 3).length f, zca (16 :: ns) 3, zdS ms 205⟩
theorem za6 (v : NV) : One v.cells := fun x hx => by
 simp only [NV.cells, List.mem_cons, List.not_mem_nil, or_false] at hx
 rcases hx with rfl | rfl | rfl | rfl | rfl <;> rfl
def zh : NV := ⟨false, none, 0, 0, none, 0, 0, none, 0, 0, none, 0, 0⟩
def zce : RN := ⟨false, [], [], [], []⟩
attribute [local go_sem ↓] zt zw zaP
theorem q_leaf {w : World} {A : Option Addr} {n c B : Nat} {ns : List Int} (hl : Has w B A (ns.map (Value.int .i64))) (hB : B ≤ w.heap.size) (hn : ns.length = n) (hns : ∀ z ∈ ns, zal z) (hnm : n ≤ maxLen) :
 Calls Tryz.prog 20 #[.slice A n c] w fun e w' => ∃ v, e = .returned (nv v) ∧ Hid (NH w' w'.heap.size v (zcp ns)) ∧ Fr w w' := by
 obtain ⟨Z, hZ, hF, hZZ, hG⟩ : ∃ Z, w.alloc (.cells #[.bool false, .slice none 0 0, .slice none 0 0, .slice none 0 0, .slice none 0 0] 27) = Z ∧ Fr w Z ∧ Fr Z Z ∧ Arr Z w.heap.size 27 zh.cells.toArray := ⟨_, rfl, zf (ze w) _, ze _, Arr.new _ _ _⟩;have cE := zkJ (w := Z) (c := c) (most := 248) (hl.fr hB hF) (Nat.le_trans hB hF.size) hn hns (by omega) hnm;have hlen := zfe ns 248;have ho := zeX ns 248;unfold zcp;generalize zef ns 248 = l at *;clear hl hns hn;go_enter Tryz.func20, Tryz.ntmps20;go_wp2_with fail;refine cE.mono ?_;rintro e v1 ⟨A1, d1, rfl, hO, f1⟩;have hG1 := hG.below f1 hG.lt;have hz := hF.size;have hlt := hG.lt;have tok : Hid (0 < 1) := zb (by decide)
 go_wp2_with (first
  | (clear tok; refine zi (ds := NV.cells ⟨true, A1, l.length, d1, none, 0, 0, none, 0, 0, none, 0, 0⟩) zaw rfl (.tmp 2) (.tmp 5) rfl w.heap.size 0 rfl rfl rfl (za6 _) hG1 (by decide) (zk _ _ (Nat.le_of_eq rfl)) ?_; intro W8 hM8 hk8)
  | fail)
 refine bodyPost_ret (zq.result rfl _ w.heap.size rfl rfl hM8) rfl ?_;have hO8 := zde hO hk8 (by omega);refine ⟨⟨true, A1, l.length, d1, none, 0, 0, none, 0, 0, none, 0, 0⟩, rfl, zb ?_, hk8.fr (za hF f1) (Nat.le_refl _)⟩;exact ⟨rfl, Nat.le_refl _, hO8.has, rfl, hO8.cap, by simp only; omega, ho.wfe, Has.nil, rfl, Nat.le_refl _, by simp, Has.nil, rfl, Nat.le_refl _, by simp, by intro m hm; simp at hm, Has.nil, rfl, Nat.le_refl _, by simp, by intro m hm; simp at hm⟩
end
end Go.Proofs.YtmjjjdikpnhpiaaGreat
