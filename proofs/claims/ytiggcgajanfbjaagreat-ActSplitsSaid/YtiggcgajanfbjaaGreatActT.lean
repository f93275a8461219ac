/- The document's 'may', its halves of an inner node. -/
import Derived.Test.YtiggcgajanfbjaaGreatActK
import Derived.Test.YtiggcgajanfbjaaGreatRs
import Derived.Test.YtiggcgajanfbjaaGreatShort
namespace Go.Proofs.YtiggcgajanfbjaaGreat
set_option linter.unusedVariables false
set_option linter.unusedSimpArgs false
set_option maxRecDepth 100000
open Go.RowKit
attribute [local go_sem ↓] zaP zt
set_option maxHeartbeats 4000000 in
theorem zno {w : World} {v : NV} {n : RN} {i id : Int} (hl : v.lf = n.lf) (h2 : n.ks.length = v.n2) (hs : v.n2 ≤ 100000) (hp : Has w w.heap.size v.A2 (zS n.ks)) : Calls Tryz.prog 48 #[nv v, .int .i64 i, .int .i64 id] w fun e w' => e = .returned (.bool (zcL n i && zdl n id)) ∧ Fr w w' := by
 unfold nv;obtain ⟨Z, hZ, hF, hZZ, hG⟩ := box1 w v;have cP := fun W (h : Fr Z W) => zif (c := v.c2) (v := id) (hp.fr (Nat.le_refl _) (za hF h)) (Nat.le_trans hF.size h.size) h2 (by unfold maxLen; omega) h;have c0 : ∀ W, Fr Z W → W.cell? ⟨w.heap.size, 0, none⟩ = some (.bool v.lf) := fun W h => (hG.below h hG.lt).cell 0;have c2 : ∀ W, Fr Z W → W.cell? ⟨w.heap.size, 2, none⟩ = some (.slice v.A2 v.n2 v.c2) := fun W h => (hG.below h hG.lt).cell 2;obtain ⟨x, hx⟩ : ∃ x, plc n.ks id = x := ⟨_, rfl⟩;rw [hx] at cP
 have R : (zcL n i && zdl n id) = ((!v.lf && (decide (0 ≤ i) && decide (i < (v.n2 : Int)))) && (decide (v.n2 < 4) && (decide (1 ≤ id ∧ id < 256) && decide (x < 0)))) := by
  unfold zcL zdl zdH;rw [hl, h2, hx]
 rw [R];clear R hG hl h2 hp hs hx
 cases hv : v.lf
 all_goals rw [hv] at c0
 ·rcases Nat.lt_or_ge v.n2 4 with a1 | a1
  ·have b1 : (v.n2 : Int) < 4 := by omega
   rcases Int.lt_or_le i 0 with a2 | a2
   ·have b2 : ¬ (0 : Int) ≤ i := by omega
    go_enter Tryz.func48, Tryz.ntmps48;go_wp2_with fail;go_ret;refine ⟨?_, hF⟩;simp;omega
   ·rcases Int.lt_or_le i v.n2 with a3 | a3
    ·rcases Int.lt_or_le id 1 with a4 | a4
     ·have b4 : ¬ (1 : Int) ≤ id := by omega
      go_enter Tryz.func48, Tryz.ntmps48;go_wp2_with fail;go_ret;refine ⟨?_, hF⟩;simp;omega
     ·rcases Int.lt_or_le id 256 with a5 | a5
      ·rcases Int.lt_or_le x 0 with a6 | a6
       all_goals go_enter Tryz.func48, Tryz.ntmps48
       all_goals go_wp2_with fail
       all_goals refine (cP _ hZZ).mono ?_
       all_goals rintro e w1 ⟨rfl, f1⟩
       all_goals go_wp2_with fail
       all_goals go_ret
       all_goals refine ⟨?_, za hF f1⟩
       all_goals have q1 : decide (0 ≤ i) = true := decide_eq_true (by omega)
       all_goals have q2 : decide (i < (v.n2 : Int)) = true := decide_eq_true (by omega)
       all_goals have q3 : decide (v.n2 < 4) = true := decide_eq_true (by omega)
       all_goals have q4 : decide (1 ≤ id ∧ id < 256) = true := decide_eq_true (by omega)
       all_goals rw [q1, q2, q3, q4]
       all_goals simp
       all_goals omega
      ·have b5 : ¬ id < 256 := by omega
       go_enter Tryz.func48, Tryz.ntmps48;go_wp2_with fail;go_ret;refine ⟨?_, hF⟩;simp;omega
    ·have b3 : ¬ i < (v.n2 : Int) := by omega
     go_enter Tryz.func48, Tryz.ntmps48;go_wp2_with fail;go_ret;refine ⟨?_, hF⟩;simp;omega
  ·have b1 : ¬ (v.n2 : Int) < 4 := by omega
   go_enter Tryz.func48, Tryz.ntmps48;go_wp2_with fail;go_ret;refine ⟨?_, hF⟩;simp;omega
 ·go_enter Tryz.func48, Tryz.ntmps48
  go_wp2_with fail;go_ret;exact ⟨rfl, hF⟩
def HalfZ0 (w : World) (e : Ending) (w' : World) : Prop := ∃ k, e = .returned (.tuple #[nv zh, nv zh, kv k, .bool false]) ∧ Fr w w'
set_option maxHeartbeats 2000000 in
theorem rhal_no {w : World} {ok : Nat → Prop} {v : NV} {n : RN} (hu : ∀ b, w.heap.size ≤ b → ok b) (h : NP w ok v n) (hl : n.lf = false) (ho : OkN n) (h2 : n.ks.length < 4) :
 Calls Tryz.prog 51 #[nv v] w (HalfZ0 w) := by
 unfold nv HalfZ0;obtain ⟨Y, hY, h0, hy, hA⟩ := zaz [(v.cells.toArray, 37), (zh.cells.toArray, 37), (zh.cells.toArray, 37), ((kc zr).toArray, 26)] w;have a0 : Arr Y (w.heap.size) 37 v.cells.toArray := hA 0 _ rfl;have a1 : Arr Y (w.heap.size + 1) 37 zh.cells.toArray := hA 1 _ rfl;have a2 : Arr Y (w.heap.size + 2) 37 zh.cells.toArray := hA 2 _ rfl;have a3 : Arr Y (w.heap.size + 3) 26 (kc zr).toArray := hA 3 _ rfl;change ((((w).alloc (.cells v.cells.toArray 37)).alloc (.cells #[.bool false, .slice none 0 0, .slice none 0 0, .slice none 0 0, .slice none 0 0] 37)).alloc (.cells #[.bool false, .slice none 0 0, .slice none 0 0, .slice none 0 0, .slice none 0 0] 37)).alloc (.cells (kc zr).toArray 26) = Y at hY;rw [zH] at hY;have hYY := ze Y;have hyn : Hid (w.heap.size + 4 ≤ Y.heap.size) := zb (by have := hy.out; simp only [List.length_cons, List.length_nil] at this; omega);clear hA hy;have c2 : ∀ W, Fr Y W → W.cell? ⟨w.heap.size, 2, none⟩ = some (.slice v.A2 v.n2 v.c2) := fun W h => (a0.below h a0.lt).cell 2;have c3 : ∀ W, Fr Y W → W.cell? ⟨w.heap.size, 3, none⟩ = some (.slice v.A3 v.n3 v.c3) := fun W h => (a0.below h a0.lt).cell 3;have c4 : ∀ W, Fr Y W → W.cell? ⟨w.heap.size, 4, none⟩ = some (.slice v.A4 v.n4 v.c4) := fun W h => (a0.below h a0.lt).cell 4;obtain ⟨_, ⟨kok, kpl, op⟩, ol⟩ := (zaI hl).1 ho
 have s4 := h.s4;have l4 := h.l4;have cA := zl1 (A := v.A2) (n := v.n2) (c := v.c2) (A2 := v.A3) (n2 := v.n3) (c2 := v.c3) (w := Y) (W0 := Y) (by have := h.l2; omega) hYY;unfold zgH at cA;obtain ⟨k, hk⟩ : ∃ k, zr = k := ⟨_, rfl⟩;rw [hk] at cA;have K0 := zb a0;have K1 := zb a1;have K2 := zb a2;have K3 := zb a3;clear a0 a1 a2 a3 h ho h2 kok kpl ol s4 l4;go_enter Tryz.func51, Tryz.ntmps51;go_wp2_with fail;refine cA.mono ?_;rintro e w1 ⟨rfl, f1⟩;have F1 := za h0 f1;obtain ⟨V, hV, fV, aV⟩ : ∃ V, w1.alloc (.cells (kc zr).toArray 26) = V ∧ Fr w1 V ∧ Arr V w1.heap.size 26 (kc zr).toArray := ⟨_, rfl, zf (ze _) _, Arr.new _ _ _⟩;rw [zH] at hV;have f1V := za f1 fV;have k0 := K0.out.below f1V K0.out.lt;have k1 := K1.out.below f1V K1.out.lt;have k2 := K2.out.below f1V K2.out.lt;have k3 := K3.out.below f1V K3.out.lt;have FV := za F1 fV;have N : Hid (w.heap.size + 4 ≤ w1.heap.size) := zb (Nat.le_trans hyn.out f1.size);have zN := N.out;clear K0 K1 K2 K3 cA c2 c3 c4;have tok : Hid (0 < 1) := zb (by decide)
 go_upto_region 2 with (first
  | (clear tok; refine zp (ds := kc k) zC rfl (.tmp 8) (.tmp 23) rfl w1.heap.size 0 rfl rfl (zl _) (zU _) aV (zbA _) (zaE _ _) ?_; intro W2 b8 u0
     have F2 := u0.fr FV (by omega);have b0 := u0.other k0 (by omega);have b1 := u0.other k1 (by omega);have b2 := u0.other k2 (by omega);have b3 := u0.other k3 (by omega);have lk : ∀ W, Fr W2 W → (ldS 26 (.pointer (some ⟨w1.heap.size, 0, none⟩))).run Tryz.prog W = .ok (.agg (kc k).toArray) W := fun W h => zaf.ld (zl _) (b8.below h b8.lt);have r2 := ze W2;have zW : Hid (w1.heap.size < W2.heap.size) := zb b8.lt;clear k0 k1 k2 k3)
  | fail)
 clear lk;go_wp2_with fail;have hS0 := i2 (zn F2) (Arr.drew b8);have lS0 : ∀ W, Fr w W ∧ Arr W (w1.heap.size) 26 (kc k).toArray → (ldS 26 (.pointer (some ⟨w1.heap.size, 0, none⟩))).run Tryz.prog W = .ok (.agg (kc k).toArray) W := fun W h => zaf.ld (zl _) h.2;have t0_0 : Arr W2.drew (w.heap.size + 1) 37 zh.cells.toArray := Arr.drew b1;have t1_0 : Arr W2.drew (w.heap.size + 2) 37 zh.cells.toArray := Arr.drew b2;have t2_0 : Arr W2.drew (w.heap.size + 3) 26 (kc zr).toArray := Arr.drew b3;refine wp_region_noPanic ?_;refine wp_region_held_drew (S := fun w' => Fr w w' ∧ Arr w' (w1.heap.size) 26 (kc k).toArray) (by kernel_rfl) hS0 (fun hHeld => ?_);change wpAnyH _ _ _ _ _ _ _ _ _;refine xto 0 ?_;refine xto 1 ?_;refine xto 2 ?_;refine xr 3 fun K hK0 => ?_;refine tN zh 2 29 (w.heap.size + 1) t0_0 ?_;intro x1 k0_0 q1;have hS1 := i2 (q1.fr hS0.1 (by omega)) (q1.other hS0.2 (by omega));have t1_1 := q1.other t1_0 (by omega);have t2_1 := q1.other t2_0 (by omega);refine xk hK0 hS1 ?_;clear hK0 K;refine xr 4 fun K hK0 => ?_
 refine tN zh 3 30 (w.heap.size + 2) t1_1 ?_;intro x2 k1_1 q2;have hS2 := i2 (q2.fr hS1.1 (by omega)) (q2.other hS1.2 (by omega));have t2_2 := q2.other t2_1 (by omega);have k0_1 := q2.other k0_0 (by omega);refine xk hK0 hS2 ?_;clear hK0 K;refine xr 5 fun K hK0 => ?_;refine zy (ds := (kc k)) zC (by rfl) (.tmp 4) (.tmp 31) rfl (w.heap.size + 3) 0 rfl rfl (zl _) (zU _) t2_2 (zbA _) (zaE _ _) ?_;intro x3 k2_2 q3;have hS3 := i2 (q3.fr hS2.1 (by omega)) (q3.other hS2.2 (by omega));have k0_2 := q3.other k0_1 (by omega);have k1_2 := q3.other k1_1 (by omega);refine xk hK0 hS3 ?_;clear hK0 K
 try simp only [xs, Act.put]
 refine xto 6 ?_;refine wpAnyH_done (by kernel_rfl) ?_ _;refine NoPanic.normal ?_;go_wp2_with fail;refine bodyPost_ret (zaY _ (w.heap.size + 1) (w.heap.size + 2) (w.heap.size + 3) zq zq zaf rfl rfl rfl rfl rfl rfl (zl _) k0_2 k1_2 k2_2) rfl ?_;exact ⟨k, rfl, hS3.1⟩
end Go.Proofs.YtiggcgajanfbjaaGreat
