/- Package 00's leaf and inner node, in memory of their own. -/
import Derived.Test.YtmjjjdikpnhpiaaGreatActA
import Derived.Test.YtmjjjdikpnhpiaaGreatFnJ
import Derived.Test.YtmjjjdikpnhpiaaGreatActV
import Derived.Test.YtmjjjdikpnhpiaaGreatOrP
import Derived.Test.YtmjjjdikpnhpiaaGreatKeyA
import Derived.Deep.Slices
import Derived.ProofKit
import Derived.OpenShut
import Derived.SliceStrings
import Derived.Test.YtmjjjdikpnhpiaaGreatValA
import Derived.Test.YtmjjjdikpnhpiaaGreatMsg0
import Derived.Test.YtmjjjdikpnhpiaaGreatValC
import Derived.ChangeSlices
import Derived.ChangeArms
import Derived.Test.YtmjjjdikpnhpiaaGreatBufL
import Derived.SizedLaws
namespace Go.Proofs.YtmjjjdikpnhpiaaGreat
set_option linter.unusedVariables false
set_option linter.unusedSimpArgs false
set_option maxRecDepth 100000
open Go.RowKit
section
section
attribute [local go_sem ↓] zt zw zfl
attribute [local go_sem ↓] zt zw zfl
def zoH (W0 : World) (ks : List Int) (ps : List RK) (q : List RM) (e : Ending) (w' : World) : Prop := ∃ A c A2 c2 A3 c3, e = .returned (.agg (zeD (.slice A ks.length c) (.slice A2 ps.length c2) (.slice A3 q.length c3)).toArray) ∧ Hid (OwnI w' W0.heap.size A c ks) ∧ Hid (OwnK w' W0.heap.size A2 c2 ps) ∧ Hid (zaC w' W0.heap.size A3 c3 q) ∧ Fr W0 w'
set_option maxHeartbeats 4000000 in
theorem zmr {w : World} {A A2 : Option Addr} {n c B n2 c2 B2 : Nat} {ns ms : List Int} {f : Int} (hl : Has w B A (ns.map (Value.int .i64))) (hB : B ≤ w.heap.size) (hn : ns.length = n) (hns : ∀ z ∈ ns, zal z) (hnm : n < maxLen) (hf : zal f)
 (hl2 : Has w B2 A2 (ms.map (Value.int .i64))) (hB2 : B2 ≤ w.heap.size) (hn2 : ms.length = n2) (hms : ∀ z ∈ ms, zal z) (hnm2 : n2 ≤ maxLen) (hby : (1 + n) * 8 ≤ 140737488355328) :
 Calls Tryz.prog 5 #[.slice A n c, .int .i64 f, .slice A2 n2 c2] w (zoH w (zco (zca (16 :: ns) 3).length f) (zca (16 :: ns) 3) (zdS ms 205)) := by
 have hlen := zfa (16 :: ns) 3 (by omega) (min (16 :: ns).length 20);change ((zca (16 :: ns) 3).length : Int) ≤ 3 at hlen
 have h16 : ∀ z ∈ (16 :: ns), zal z := fun z hz => by
  rcases List.mem_cons.1 hz with rfl | hz
  ·unfold zal; omega
  ·exact hns z hz
 obtain ⟨Z, hZ, hF, hZZ, hG⟩ : ∃ Z, w.alloc (.cells #[.bool false, .slice none 0 0, .slice none 0 0, .slice none 0 0, .slice none 0 0] 27) = Z ∧ Fr w Z ∧ Fr Z Z ∧ Arr Z w.heap.size 27 #[.bool false, .slice none 0 0, .slice none 0 0, .slice none 0 0, .slice none 0 0] := ⟨_, rfl, zf (ze w) _, ze _, Arr.new _ _ _⟩;have cPv := fun W A' c' (hW : Fr Z W) (ho : Own W Z.heap.size 3 1 A' (1 + n) c' (zS [16] ++ zS ns)) => zlM (w := W) (A := A') (n := 1 + n) (c := c') (ns := 16 :: ns) (most := 3) (by simpa [zS] using ho.has) (Nat.le_refl _) (by simp; omega) h16 (by omega) (by omega);have cMs := fun W (hW : Fr w W) => zkB (w := W) (c := c2) (most := 205) (hl2.fr hB2 hW) (Nat.le_trans hB2 hW.size) hn2 hms (by omega) hnm2;have cPl := fun W => zgS f 200 hf (by omega) (by omega) W;have hql := zcS ms 205;generalize hps : zca (16 :: ns) 3 = ps at *;generalize hqs : zdS ms 205 = qs at *;generalize hnp : ps.length = np at *;obtain ⟨q, hq⟩ : ∃ q, f % 200 = q := ⟨_, rfl⟩;have hq0 : 0 ≤ q ∧ q < 200 := by omega
 have hq1 := hq0.1;have hq2 := hq0.2
 have cPl2 : ∀ W, Calls Tryz.prog 6 #[.int .i64 f, .int .i64 200] W fun e w' => e = .returned (.int .i64 q) ∧ Fr W w' := fun W => by
  have := cPl W;rw [show f % ((200 : Nat) : Int) = q from hq] at this;exact this
 have hst : Hid (∀ j, j ≤ np → (zco np f).take (j + 1) = (zco np f).take j ++ [1 + q + 7 * (j : Int)]) := zb (fun j hj => by rw [zh9 hj, hq]);have hkl : Hid ((zco np f).length = np + 1) := zb (zch np f);have HG := zb hG;have hlZ := zb (hl.fr hB hF);have Hn := zb hn;have hB3 := Nat.le_trans hB hF.size;have hF1 := zb hF;have Hnp := zb hnp;clear hps hqs hnp hq hq0 cPl hn hn2 hns hms h16 hl hl2 hf hG hF;generalize zco np f = kl at *;go_enter Tryz.func5, Tryz.ntmps5;have tok : Hid (0 < 1) := zb (by decide)
 go_wp2_with (first
  | (clear tok; refine zL (w0 := Z) zcf zbP (by decide) rfl (.tmp 10) (.tmp 11) rfl (zf hZZ _) (some ⟨Z.heap.size, 0, none⟩) 1 1 (zS [16]) rfl (Own.lit Z Z.heap.size 3 #[.int .i64 16] 1 1 (Nat.le_refl _) (by decide) rfl) B A n c (zS ns) rfl (by rw [zeP, Hn.out, Nat.mul_one]) (hlZ.out.fr hB3 (zf hZZ _)) (zbZ _) (by omega) hby ?_; intro A5 c5 w1 o1 f1)
  | fail)
 refine (cPv _ _ _ f1 o1).mono ?_;rintro e w2 ⟨A6, c6, rfl, o2, f2⟩;have o2h := zb o2;clear o1 cPv o2;go_wp2_with fail;refine (cMs _ (za hF1.out (za f1 f2))).mono ?_;rintro e v ⟨A7, c7, rfl, o3, f3⟩;have o3h := zb (o3.mono (Nat.le_trans f1.size f2.size));replace o2h := zb ((Own.below o2h.out f3 (Nat.le_refl _)).mono f1.size);have f4 : Fr Z v := za (za f1 f2) f3;have HF4 := zb (za hF1.out f4);have vv := ze v;clear cMs o3 f1 f2 f3;have tok2 : Hid (0 < 1) := zb (by decide)
 go_wp2_with (first
  | (clear tok2; refine zi (ds := zeD (.slice none 0 0) (.slice A6 np c6) (.slice A7 qs.length c7)) zd8 rfl (.tmp 7) (.tmp 16) rfl v.heap.size 0 rfl rfl rfl (zfn _ _ _ _ _ _ _ _ _) (Arr.new v #[.bool false, .slice none 0 0, .slice none 0 0, .slice none 0 0, .slice none 0 0] 27) (by decide) (zk _ _ (Nat.le_of_eq rfl)) ?_; intro W5 hM5 hk5; have hF5 := hk5.fr (zf vv _) (Nat.le_refl _); clear hk5)
  | fail)
 refine (cPl2 _).mono ?_;rintro e W6 ⟨rfl, f6⟩;replace hM5 := hM5.below f6 hM5.lt;replace hF5 := za hF5 f6;clear cPl2 f6;go_wp2_with fail
 go_loopg [9] (np + 1) (fun g s9 wr => ∃ (j : Nat) (D : Option Addr) (d : Nat), j + g = np + 1 ∧ s9 = .int .i64 j ∧ Hid (Arr wr v.heap.size 27 (zeD (.slice D j d) (.slice A6 np c6) (.slice A7 qs.length c7)).toArray) ∧ Hid (Own wr (v.heap.size + 1) 3 1 D j d (zS (kl.take j))) ∧ Hid (Fr v wr))
 case atStart => exact ⟨0, none, 0, by omega, rfl, zb hM5, zb (by rw [List.take_zero]; exact Own.nil _ _ _ _), zb hF5⟩
 case round =>
  obtain ⟨j, D, d, hj, rfl, hM, hO, hW⟩ := hrel;have hWW := hW.out;have cl2 : wr.cell? ⟨v.heap.size, 2, none⟩ = some (.slice D j d) := hM.out.cell 2;have cl3 : wr.cell? ⟨v.heap.size, 3, none⟩ = some (.slice A6 np c6) := hM.out.cell 3
  by_cases hlt : j ≤ np
  ·have hjz : (j : Int) ≤ (np : Int) := by omega
   have hs := zb (hst.out j hlt);have tok3 : Hid (0 < 1) := zb (by decide)
   go_wp2_with (first
    | (clear tok3; refine zc6 (w0 := v) zcf zbP (by decide) rfl (.tmp 28) (.tmp 33) rfl (zf hWW _) rfl (hM.out.alloc _) D j d (zS (kl.take j)) rfl (hO.out.alloc _) (wr.heap.size + 1) (some ⟨wr.heap.size, 0, none⟩) 1 1 (zS [1 + q + 7 * (j : Int)]) rfl rfl (zev wr _ _) (zbZ _) (by unfold maxLen; omega) (by omega) ?_; intro D2 d2 w7 o7 f7 m7; have z2 : w7.cell? ⟨v.heap.size, 2, none⟩ = some (.slice D j d) := m7.cell 2; have z3 := m7.free 2)
    | fail)
   go_roundg (gk - 1)
   case measure => omega
   case rel => exact ⟨j + 1, D2, d2, by omega, rfl, zb (m7.set 2 _), by rw [hs.out, zd9]; exact zb (zhe o7 _ (Nat.lt_succ_self _) _), zb (f7.setCell (Nat.le_refl _) _)⟩
  ·have hjn : j = np + 1 := by omega
   subst hjn;have hjz : ¬ ((np : Int) + 1 ≤ (np : Int)) := by omega
   have hall : kl.take (np + 1) = kl := List.take_of_length_le (by rw [hkl.out]; omega);rw [hall] at hO;have lN : (ldS 27 (.pointer (some ⟨v.heap.size, 0, none⟩))).run Tryz.prog wr = .ok (.agg (zeD (.slice D (np + 1) d) (.slice A6 np c6) (.slice A7 qs.length c7)).toArray) wr := nodeS.ld rfl hM.out;have hG2 := HG.out.below (za f4 hWW) HG.out.lt;clear hlt hj hall;have tok4 : Hid (0 < 1) := zb (by decide)
   go_wp2_with (first
    | (clear tok4; refine zi (ds := zeD (.slice D (np + 1) d) (.slice A6 np c6) (.slice A7 qs.length c7)) zd8 rfl (.tmp 6) (.tmp 36) rfl w.heap.size 0 rfl rfl rfl (zfn _ _ _ _ _ _ _ _ _) hG2 (by decide) (zk _ _ (Nat.le_of_eq rfl)) ?_; intro W8 hM8 hk8)
    | fail)
   have hz : w.heap.size < Z.heap.size := HG.out.lt;have hv : Z.heap.size ≤ v.heap.size := f4.size;refine bodyPost_ret (nodeS.result rfl _ w.heap.size rfl rfl hM8) rfl ?_;exact ⟨D, d, A6, c6, A7, c7, by rw [hkl.out, Hnp.out], by unfold OwnI; rw [hkl.out]; exact zb ((zde hO.out hk8 (by omega)).mono (by omega)), zb ((zde (Own.below o2h.out hWW (Nat.le_refl _)) hk8 hz).mono (by omega)), zb ((zde (Own.below o3h.out hWW (Nat.le_refl _)) hk8 hz).mono (by omega)), hk8.fr (za HF4.out hWW) (Nat.le_refl _)⟩
end
attribute [local go_sem ↓] zaP
theorem zjw {w : World} {A A2 : Option Addr} {n c B n2 c2 B2 : Nat} {ns ms : List Int} {f : Int} (hl : Has w B A (ns.map (Value.int .i64))) (hB : B ≤ w.heap.size) (hn : ns.length = n) (hns : ∀ z ∈ ns, zal z) (hf : zal f)
 (hl2 : Has w B2 A2 (ms.map (Value.int .i64))) (hB2 : B2 ≤ w.heap.size) (hn2 : ms.length = n2) (hms : ∀ z ∈ ms, zal z) (hnm2 : n2 ≤ maxLen) (hby : n * 8 ≤ 140737488351232) :
 Calls Tryz.prog 5 #[.slice A n c, .int .i64 f, .slice A2 n2 c2] w fun e w' => ∃ v, e = .returned (nv v) ∧ Hid (NP w' (fun b => w.heap.size ≤ b) v (zdY ns f ms)) ∧ Fr w w' :=
 (zmr (c := c) (c2 := c2) hl hB hn hns (by unfold maxLen; omega) hf hl2 hB2 hn2 hms hnm2 (by omega)).mono fun e w' h => by
  obtain ⟨A1, d1, A3, d3, A4, d4, e1, h1, h2, h3, hF⟩ := h;have hp := zfB ns;have hk := zch (zca (16 :: ns) 3).length f;have hm := zcS ms 205;refine ⟨⟨false, none, 0, 0, A1, _, d1, A3, _, d3, A4, _, d4⟩, e1, zb ?_, hF⟩;exact ⟨rfl, zR.nil, rfl, Nat.le_refl _, Nat.zero_le _, by intro m hm; simp [zdY] at hm, (h1.out.hasP fun _ h => h), rfl, h1.out.cap, by simp only; omega, (h2.out.hasP fun _ h => h), rfl, h2.out.cap, by simp only; omega, (zh1 _ _).wfk, (h3.out.hasP fun _ h => h), rfl, h3.out.cap, by simp only; omega, (fun m hm => ((zgC ms 205).good m hm).1)⟩
theorem zoV {w : World} {A : Option Addr} {n c B : Nat} {ns : List Int} (hl : Has w B A (ns.map (Value.int .i64))) (hB : B ≤ w.heap.size) (hn : ns.length = n) (hns : ∀ z ∈ ns, zal z) (hnm : n ≤ maxLen) :
 Calls Tryz.prog 20 #[.slice A n c] w fun e w' => ∃ v, e = .returned (nv v) ∧ Hid (NP w' (fun b => w.heap.size ≤ b) v (zcp ns)) ∧ Fr w w' := by
 obtain ⟨Z, hZ, hF, hZZ, hG⟩ : ∃ Z, w.alloc (.cells #[.bool false, .slice none 0 0, .slice none 0 0, .slice none 0 0, .slice none 0 0] 27) = Z ∧ Fr w Z ∧ Fr Z Z ∧ Arr Z w.heap.size 27 zh.cells.toArray := ⟨_, rfl, zf (ze w) _, ze _, Arr.new _ _ _⟩;have cE := zkJ (w := Z) (c := c) (most := 248) (hl.fr hB hF) (Nat.le_trans hB hF.size) hn hns (by omega) hnm;have hlen := zfe ns 248;have ho := zeX ns 248;unfold zcp;generalize zef ns 248 = l at *;clear hl hns hn;go_enter Tryz.func20, Tryz.ntmps20;go_wp2_with fail;refine cE.mono ?_;rintro e v1 ⟨A1, d1, rfl, hO, f1⟩;have hG1 := hG.below f1 hG.lt;have hz := hF.size;have hlt := hG.lt;have tok : Hid (0 < 1) := zb (by decide)
 go_wp2_with (first
  | (clear tok; refine zi (ds := NV.cells ⟨true, A1, l.length, d1, none, 0, 0, none, 0, 0, none, 0, 0⟩) zaw rfl (.tmp 2) (.tmp 5) rfl w.heap.size 0 rfl rfl rfl (za6 _) hG1 (by decide) (zk _ _ (Nat.le_of_eq rfl)) ?_; intro W8 hM8 hk8)
  | fail)
 refine bodyPost_ret (zq.result rfl _ w.heap.size rfl rfl hM8) rfl ?_;have hO8 := zde hO hk8 (by omega);refine ⟨⟨true, A1, l.length, d1, none, 0, 0, none, 0, 0, none, 0, 0⟩, rfl, zb ?_, hk8.fr (za hF f1) (Nat.le_refl _)⟩;exact ⟨rfl, (hO8.hasP fun b hb => by omega), rfl, hO8.cap, by simp only; omega, ho.wfe, zR.nil, rfl, Nat.le_refl _, by simp, zR.nil, rfl, Nat.le_refl _, by simp, by intro m hm; simp at hm, zR.nil, rfl, Nat.le_refl _, by simp, by intro m hm; simp at hm⟩
end
section
attribute [local go_sem ↓] zaP zw
end
end Go.Proofs.YtmjjjdikpnhpiaaGreat
