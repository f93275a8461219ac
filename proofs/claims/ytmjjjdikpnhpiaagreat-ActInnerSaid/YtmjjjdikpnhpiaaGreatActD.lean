/- The kind of a node, the table of what is done, small tests. -/
import Derived.Test.YtmjjjdikpnhpiaaGreatActA
import Derived.Test.YtmjjjdikpnhpiaaGreatShort
namespace Go.Proofs.YtmjjjdikpnhpiaaGreat
set_option linter.unusedVariables false
set_option linter.unusedSimpArgs false
set_option maxRecDepth 100000
open Go.RowKit
section
attribute [local go_sem ↓] zaP
theorem box1 (w : World) (v : NV) : ∃ Z, w.alloc (.cells v.cells.toArray 27) = Z ∧ Fr w Z ∧ Fr Z Z ∧ Arr Z w.heap.size 27 v.cells.toArray :=
 ⟨_, rfl, zf (ze w) _, ze _, Arr.new _ _ _⟩
def kdI (b : Bool) : Int := if b then 0 else 1
theorem zj3 {w : World} {v : NV} : Calls Tryz.prog 61 #[nv v] w fun e w' => e = .returned (.int .i64 (kdI v.lf)) ∧ Fr w w' := by
 unfold nv;obtain ⟨Z, hZ, hF, hZZ, hG⟩ := box1 w v;have c0 : ∀ W, Fr Z W → W.cell? ⟨w.heap.size, 0, none⟩ = some (.bool v.lf) := fun W h => (hG.below h hG.lt).cell 0;clear hG
 cases hv : v.lf
 all_goals rw [hv] at c0
 all_goals go_enter Tryz.func61, Tryz.ntmps61
 all_goals go_wp2_with fail
 all_goals go_ret
 all_goals exact ⟨rfl, hF⟩
def zcL (n : RN) (i : Int) : Bool := !n.lf && (decide (0 ≤ i) && decide (i < n.ks.length))
theorem zgN {w : World} {v : NV} {n : RN} {i : Int} (hl : v.lf = n.lf) (h2 : n.ks.length = v.n2) : Calls Tryz.prog 31 #[nv v, .int .i64 i] w fun e w' => e = .returned (.bool (zcL n i)) ∧ Fr w w' := by
 unfold nv zcL;rw [← hl, h2];clear hl h2;obtain ⟨Z, hZ, hF, hZZ, hG⟩ := box1 w v;have c0 : ∀ W, Fr Z W → W.cell? ⟨w.heap.size, 0, none⟩ = some (.bool v.lf) := fun W h => (hG.below h hG.lt).cell 0;have c2 : ∀ W, Fr Z W → W.cell? ⟨w.heap.size, 2, none⟩ = some (.slice v.A2 v.n2 v.c2) := fun W h => (hG.below h hG.lt).cell 2;clear hG
 cases hv : v.lf
 all_goals rw [hv] at c0
 ·rcases Int.lt_or_le i 0 with h0 | h0
  ·have h0' : ¬ 0 ≤ i := by omega
   go_enter Tryz.func31, Tryz.ntmps31;go_wp2_with fail;go_ret;refine ⟨?_, hF⟩;simp;omega
  ·rcases Int.lt_or_le i v.n2 with h1 | h1
   all_goals go_enter Tryz.func31, Tryz.ntmps31
   all_goals go_wp2_with fail
   all_goals go_ret
   all_goals refine ⟨?_, hF⟩
   all_goals simp
   all_goals omega
 ·go_enter Tryz.func31, Tryz.ntmps31
  go_wp2_with fail;go_ret;exact ⟨by simp, hF⟩
def zdH (id : Int) : Bool := decide (1 ≤ id ∧ id < 256)
theorem zh2 {w : World} {id : Int} : Calls Tryz.prog 46 #[.int .i64 id] w fun e w' => e = .returned (.bool (zdH id)) ∧ Fr w w' := by
 unfold zdH
 rcases Int.lt_or_le 0 id with h0 | h0
 all_goals rcases Int.lt_or_le id 256 with h1 | h1
 all_goals go_enter Tryz.func46, Tryz.ntmps46
 all_goals go_wp2_with fail
 all_goals go_ret
 all_goals refine ⟨?_, ze w⟩
 all_goals simp
 all_goals omega
def zdl (n : RN) (id : Int) : Bool := decide (n.ks.length < 4) && (zdH id && decide (plc n.ks id < 0))
theorem zkU {w : World} {v : NV} {n : RN} {id : Int} (h2 : n.ks.length = v.n2) (hs : v.n2 ≤ 100000) (hp : Has w w.heap.size v.A2 (zS n.ks)) : Calls Tryz.prog 62 #[nv v, .int .i64 id] w fun e w' => e = .returned (.bool (zdl n id)) ∧ Fr w w' := by
 unfold nv zdl;obtain ⟨Z, hZ, hF, hZZ, hG⟩ := box1 w v;have cP := fun W (h : Fr Z W) => zjg (c := v.c2) (v := id) (hp.fr (Nat.le_refl _) (za hF h)) (Nat.le_trans hF.size h.size) h2 (by unfold maxLen; omega) h;have cB := fun W (h : Fr Z W) => (zh2 (w := W) (id := id)).mono fun e w' ⟨h1, h2⟩ => And.intro h1 (za h h2);have c2 : ∀ W, Fr Z W → W.cell? ⟨w.heap.size, 2, none⟩ = some (.slice v.A2 v.n2 v.c2) := fun W h => (hG.below h hG.lt).cell 2;rw [h2];generalize plc n.ks id = x at *;generalize zdH id = b at *;clear hG h2 hp hs
 rcases Nat.lt_or_ge v.n2 4 with h1 | h1
 ·have h1' : ((v.n2 : Int)) < 4 := by omega
  cases b
  ·go_enter Tryz.func62, Tryz.ntmps62
   go_wp2_with fail;refine (cB _ hZZ).mono ?_;rintro e w1 ⟨rfl, f1⟩;go_wp2_with fail;go_ret;exact ⟨by simp, za hF f1⟩
  ·rcases Int.lt_or_le x 0 with hx | hx
   all_goals go_enter Tryz.func62, Tryz.ntmps62
   all_goals go_wp2_with fail
   all_goals refine (cB _ hZZ).mono ?_
   all_goals rintro e w1 ⟨rfl, f1⟩
   all_goals go_wp2_with fail
   all_goals refine (cP _ f1).mono ?_
   all_goals rintro e w2 ⟨rfl, f2⟩
   all_goals go_wp2_with fail
   all_goals go_ret
   all_goals refine ⟨?_, za hF f2⟩
   all_goals simp
   all_goals omega
 ·have h1' : ¬ ((v.n2 : Int)) < 4 := by omega
  go_enter Tryz.func62, Tryz.ntmps62;go_wp2_with fail;go_ret;refine ⟨?_, hF⟩;simp;omega
def zdU (lf : Bool) : List Value := if lf then [Value.func (.func 93) #[] #[], .func (.func 32) #[] #[], .func (.func 94) #[] #[]] else [Value.func (.func 95) #[] #[], .func (.func 96) #[] #[], .func (.func 97) #[] #[]]
theorem zgy : (Tryz.prog.info? 89).map (·.size) = some 3 := by kernel_rfl
theorem actS : Sty Tryz.prog 89 3 := ⟨zgy, _, Tryz.underlying89, rfl⟩
theorem zje : (Tryz.prog.info? 116).map (·.size) = some 6 := by kernel_rfl
theorem act2S : Sty Tryz.prog 116 6 := ⟨zje, _, Tryz.underlying116, rfl⟩
theorem zgq (b : Bool) : One (zdU b) := by
 intro x hx
 cases b
 all_goals simp [zdU] at hx
 all_goals rcases hx with rfl | rfl | rfl <;> rfl
theorem act2_one : One (zdU true ++ zdU false) := fun x hx => by
 rcases List.mem_append.1 hx with h | h
 ·exact zgq _ x h
 ·exact zgq _ x h
theorem table_at {w : World} : Calls Tryz.prog 74 #[] w fun e w' => e = .returned (.agg (zdU true ++ zdU false).toArray) ∧ Fr w w' := by
 obtain ⟨Z, hZ, hF, hG⟩ : ∃ Z, w.alloc (.cells #[.nilFunc, .nilFunc, .nilFunc, .nilFunc, .nilFunc, .nilFunc] 116) = Z ∧ Fr w Z ∧ Arr Z w.heap.size 116 [Value.nilFunc, .nilFunc, .nilFunc, .nilFunc, .nilFunc, .nilFunc].toArray := ⟨_, rfl, zf (ze w) _, Arr.new _ _ _⟩;go_enter Tryz.func74, Tryz.ntmps74
 go_wp2_with (first
  | (refine zp (ds := zdU true ++ zdU false) zje rfl (.tmp 0) (.tmp 3) rfl w.heap.size 0 rfl rfl rfl act2_one hG (by decide) (zk _ _ (Nat.le_of_eq rfl)) ?_; intro W3 k3 q3)
  | fail)
 refine bodyPost_ret (act2S.result rfl _ w.heap.size rfl rfl k3) rfl ?_;exact ⟨rfl, q3.fr hF (Nat.le_refl _)⟩
theorem act_idx (b : Bool) (W : World) : (Instr.index 116 (.agg (zdU true ++ zdU false).toArray) (.int .i64 (kdI b))).run Tryz.prog W = .ok (.agg (zdU b).toArray) W := by
 cases b <;> kernel_rfl
set_option maxHeartbeats 1000000 in
theorem zdL {w : World} {v : NV} : Calls Tryz.prog 45 #[nv v] w fun e w' => e = .returned (.agg (zdU v.lf).toArray) ∧ Fr w w' := by
 unfold nv;obtain ⟨Y, hY, h0, hy, hA⟩ := zaz [(v.cells.toArray, 27), (#[.nilFunc, .nilFunc, .nilFunc], 89)] w;have hG : Arr Y w.heap.size 27 v.cells.toArray := hA 0 _ rfl;have hK : Arr Y (w.heap.size + 1) 89 [Value.nilFunc, .nilFunc, .nilFunc].toArray := hA 1 _ rfl;change (w.alloc (.cells v.cells.toArray 27)).alloc (.cells #[.nilFunc, .nilFunc, .nilFunc] 89) = Y at hY;have hYd : Fr w Y.drew ∧ Arr Y.drew w.heap.size 27 v.cells.toArray := ⟨zn h0, hG⟩;have hKd : Arr Y.drew (w.heap.size + 1) 89 [Value.nilFunc, .nilFunc, .nilFunc].toArray := hK;have cT := fun W => table_at (w := W);have cK := fun W => zj3 (w := W) (v := v);have hI := act_idx v.lf;have lN : ∀ W, Fr w W ∧ Arr W w.heap.size 27 v.cells.toArray → (ldS 27 (.pointer (some ⟨w.heap.size, 0, none⟩))).run Tryz.prog W = .ok (.agg v.cells.toArray) W := fun W h => zq.ld rfl h.2;have o1 := zgq v.lf;have l1 : (zdU v.lf).length = 3 := by cases v.lf <;> rfl
 have zz : Hid (([Value.nilFunc, .nilFunc, .nilFunc] : List Value).length ≤ (zdU v.lf).length) := zb (by rw [l1]; decide);unfold nv at cK;generalize hb : zdU v.lf = ac at *;clear hA hG hK hy hb;go_enter Tryz.func45, Tryz.ntmps45;go_wp2_with fail;refine wp_region_noPanic ?_;refine wp_region_held_drew (S := fun w' => Fr w w' ∧ Arr w' w.heap.size 27 v.cells.toArray) (by kernel_rfl) hYd (fun hHeld => ?_);change wpAnyH _ _ _ _ _ _ _ _ _;refine xto 1 ?_;refine xr 0 fun K hK0 => ?_;go_simp;refine (cT _).mono ?_;rintro e w1 ⟨rfl, f1⟩;go_simp;have h1 := And.intro (za hYd.1 f1) (hYd.2.below f1 hYd.2.lt);have k1 := hKd.below f1 hKd.lt;refine xk hK0 h1 ?_;clear hK0 K;refine xr 2 fun K hK0 => ?_;go_simp;refine (cK _).mono ?_;rintro e w2 ⟨rfl, f2⟩;go_simp;have h2 := And.intro (za h1.1 f2) (h1.2.below f2 h1.2.lt);have k2 := k1.below f2 k1.lt;refine xk hK0 h2 ?_;clear hK0 K
 try simp only [xs, Act.put]
 refine xto 3 ?_;refine xr 4 fun K hK0 => ?_;refine zy (ds := ac) zgy (by rfl) (.tmp 2) (.tmp 6) rfl (w.heap.size + 1) 0 rfl rfl l1 o1 k2 (by decide) (zk _ _ zz.out) ?_;intro w3 k3 q3;refine xk hK0 ⟨q3.fr h2.1 (by omega), q3.other h2.2 (by omega)⟩ ?_;clear hK0 K
 try simp only [xs, Act.put]
 refine wpAnyH_done (by kernel_rfl) ?_ _;refine NoPanic.normal ?_;go_wp2_with fail;refine bodyPost_ret (actS.result rfl _ (w.heap.size + 1) rfl l1 k3) rfl ?_;exact ⟨rfl, q3.fr h2.1 (by omega)⟩
end
section
attribute [local go_sem ↓] zaP zt
def okX (ok : Nat → Prop) (B k : Nat) : Nat → Prop := fun b => ok b ∧ (b < B ∨ B + k ≤ b)
section
variable {w W : World} {ok : Nat → Prop} {k i B : Nat} {v : NV} {n : RN}
theorem zaT (hu : ∀ b, w.heap.size ≤ b → ok b) (h : w.heap.size + k ≤ W.heap.size) : ∀ b, W.heap.size ≤ b → okX ok w.heap.size k b := fun b hb => ⟨hu b (by omega), .inr (by omega)⟩
theorem zj (h : i < k) : ¬ okX ok B k (B + i) := fun h => by have := h.2; omega
theorem zo (h : 0 < k) : ¬ okX ok B k B := fun h => by have := h.2; omega
theorem NP.inn (h : NP w ok v n) (k : Nat) : NP w (okX ok w.heap.size k) v n := h.weak fun b hb ho => ⟨ho, .inl hb⟩
theorem NP.out (h : NP w (okX ok B k) v n) : NP w ok v n := h.weak fun b _ ho => ho.1
end
def zaQ (n : RN) (g : List RM) : RN := if n.lf then { n with es := zbI n.es g } else { n with ms := zcg n.ms g }
theorem zcY {n : RN} (h : n.lf = true) (g : List RM) : zaQ n g = { n with es := zbI n.es g } := by unfold zaQ; rw [if_pos h]
theorem zfI {n : RN} (h : n.lf = false) (g : List RM) : zaQ n g = { n with ms := zcg n.ms g } := by unfold zaQ; rw [h]; rfl
set_option maxHeartbeats 1000000 in
theorem zhg {w : World} {ok : Nat → Prop} {v : NV} {n : RN} {Ag : Option Addr} {ng cg : Nat} {g : List RM} (hu : ∀ b, w.heap.size ≤ b → ok b) (h : NP w ok v n) (hl : n.lf = true) (ho : OkE n.es) (hs : v.n1 ≤ 10000) (hg : Has w w.heap.size Ag (zm mc g)) (hgl : g.length = ng) (hgs : ng ≤ 10000) (gm : zcq g) :
 Calls Tryz.prog 93 #[nv v, .slice Ag ng cg] w fun e w' => ∃ v', e = .returned (nv v') ∧ Hid (NP w' ok v' (zaQ n g)) ∧ Fr w w' := by
 unfold nv;obtain ⟨Y, hY, h0, hy, hA⟩ := zaz [(v.cells.toArray, 27), (zh.cells.toArray, 27)] w;have a0 : Arr Y (w.heap.size) 27 v.cells.toArray := hA 0 _ rfl;have a1 : Arr Y (w.heap.size + 1) 27 zh.cells.toArray := hA 1 _ rfl;change ((w).alloc (.cells v.cells.toArray 27)).alloc (.cells #[.bool false, .slice none 0 0, .slice none 0 0, .slice none 0 0, .slice none 0 0] 27) = Y at hY;have hYY := ze Y;have hyn : Hid (w.heap.size + 2 ≤ Y.heap.size) := zb (by have := hy.out; simp only [List.length_cons, List.length_nil] at this; omega);clear hA hy;have c1 : ∀ W, Fr Y W → W.cell? ⟨w.heap.size, 1, none⟩ = some (.slice v.A1 v.n1 v.c1) := fun W h => (a0.below h a0.lt).cell 1;have cA := eall_at (w := Y) (c := v.c1) (c2 := cg) (h.h1.fr h0).has (Nat.le_refl _) h.l1 hs ho (hg.fr (Nat.le_refl _) h0) h0.size hgl hgs gm;rw [zcY hl];have hle : Hid ((zbI n.es g).length ≤ 100000) := zb (by have := zgB g n.es; have := h.l1; omega);have hwf : Hid (WfE (zbI n.es g)) := zb (zbW ho gm).wfe;have HG := zb a0;have HK := zb a1;have HH := zb h;generalize (zbI n.es g) = y at *;clear a0 a1 h hg hgl ho gm hs;go_enter Tryz.func93, Tryz.ntmps93;go_wp2_with fail;refine cA.mono ?_;rintro e w1 ⟨A', c', rfl, hO, f1⟩;have g1 := HG.out.below f1 HG.out.lt;have k1 := HK.out.below f1 HK.out.lt;have HO := zb hO;clear HG HK c1 cA hO
 have tok : Hid (0 < 1) := zb (by decide);have tok2 : Hid (0 < 1) := zb (by decide)
 go_wp2_with (first
  | (clear tok; refine zp (ds := [.slice A' y.length c']) sl_e rfl (.tmp 9) (.tmp 8) rfl w.heap.size 1 rfl rfl rfl (zaV _ _ _) g1 (zaD _ (by decide)) (cs' := (v.set1 A' y.length c').cells) rfl ?_; intro W2 g2 q2
     have l2 : ∀ W, Fr W2 W → (ldS 27 (.pointer (some ⟨w.heap.size, 0, none⟩))).run Tryz.prog W = .ok (.agg (v.set1 A' y.length c').cells.toArray) W := fun W h => zq.ld rfl (g2.below h g2.lt);have r2 := ze W2;have k2 := q2.other k1 (by omega);clear g1)
  | (clear tok2; refine sN (v.set1 A' y.length c') 4 10 (w.heap.size + 1) k2 ?_; intro W3 k3 q3)
  | fail)
 refine bodyPost_ret (zq.result rfl _ (w.heap.size + 1) rfl rfl k3) rfl ?_;refine ⟨_, rfl, zb ?_, q3.fr (q2.fr (za h0 f1) (Nat.le_refl _)) (by omega)⟩;have F := q3.fr (q2.fr (za h0 f1) (Nat.le_refl _)) (by omega);have H := HH.out.fr F;have hn := hyn.out;have o1 : zR w1 (fun b => Y.heap.size ≤ b) A' _ := HO.out.hasP fun _ h => h;have o3 := ((o1.kept q2 (by omega)).kept q3 (by omega)).weak (ok' := ok) (fun b _ h => hu b (by omega));exact { H with h1 := o3, l1 := rfl, k1 := HO.out.cap, s1 := hle.out, w1 := hwf.out }
set_option maxHeartbeats 1000000 in
theorem zgt {w : World} {ok : Nat → Prop} {v : NV} {n : RN} {Ag : Option Addr} {ng cg : Nat} {g : List RM} (hu : ∀ b, w.heap.size ≤ b → ok b) (h : NP w ok v n) (hl : n.lf = false) (ho : OkL n.ms) (hs : v.n4 ≤ 10000) (hg : Has w w.heap.size Ag (zm mc g)) (hgl : g.length = ng) (hgs : ng ≤ 10000) (gm : zcq g) :
 Calls Tryz.prog 95 #[nv v, .slice Ag ng cg] w fun e w' => ∃ v', e = .returned (nv v') ∧ Hid (NP w' ok v' (zaQ n g)) ∧ Fr w w' := by
 unfold nv;obtain ⟨Y, hY, h0, hy, hA⟩ := zaz [(v.cells.toArray, 27), (zh.cells.toArray, 27)] w;have a0 : Arr Y (w.heap.size) 27 v.cells.toArray := hA 0 _ rfl;have a1 : Arr Y (w.heap.size + 1) 27 zh.cells.toArray := hA 1 _ rfl;change ((w).alloc (.cells v.cells.toArray 27)).alloc (.cells #[.bool false, .slice none 0 0, .slice none 0 0, .slice none 0 0, .slice none 0 0] 27) = Y at hY;have hYY := ze Y;have hyn : Hid (w.heap.size + 2 ≤ Y.heap.size) := zb (by have := hy.out; simp only [List.length_cons, List.length_nil] at this; omega);clear hA hy;have c1 : ∀ W, Fr Y W → W.cell? ⟨w.heap.size, 4, none⟩ = some (.slice v.A4 v.n4 v.c4) := fun W h => (a0.below h a0.lt).cell 4;have cA := all_at (w := Y) (c := v.c4) (c2 := cg) (h.h4.fr h0).has (Nat.le_refl _) h.l4 hs ho (hg.fr (Nat.le_refl _) h0) h0.size hgl hgs gm;rw [zfI hl];have hle : Hid ((zcg n.ms g).length ≤ 100000) := zb (by have := zfR g n.ms; have := h.l4; omega);have hwf : Hid (WfM (zcg n.ms g)) := zb (fun m hm => ((zgA ho gm).good m hm).1);have HG := zb a0;have HK := zb a1;have HH := zb h;generalize (zcg n.ms g) = y at *;clear a0 a1 h hg hgl ho gm hs;go_enter Tryz.func95, Tryz.ntmps95;go_wp2_with fail;refine cA.mono ?_;rintro e w1 ⟨A', c', rfl, hO, f1⟩;have g1 := HG.out.below f1 HG.out.lt;have k1 := HK.out.below f1 HK.out.lt;have HO := zb hO;clear HG HK c1 cA hO
 have tok : Hid (0 < 1) := zb (by decide);have tok2 : Hid (0 < 1) := zb (by decide)
 go_wp2_with (first
  | (clear tok; refine zp (ds := [.slice A' y.length c']) sl_m rfl (.tmp 9) (.tmp 8) rfl w.heap.size 4 rfl rfl rfl (zaV _ _ _) g1 (zaD _ (by decide)) (cs' := (v.set4 A' y.length c').cells) rfl ?_; intro W2 g2 q2
     have l2 : ∀ W, Fr W2 W → (ldS 27 (.pointer (some ⟨w.heap.size, 0, none⟩))).run Tryz.prog W = .ok (.agg (v.set4 A' y.length c').cells.toArray) W := fun W h => zq.ld rfl (g2.below h g2.lt);have r2 := ze W2;have k2 := q2.other k1 (by omega);clear g1)
  | (clear tok2; refine sN (v.set4 A' y.length c') 4 10 (w.heap.size + 1) k2 ?_; intro W3 k3 q3)
  | fail)
 refine bodyPost_ret (zq.result rfl _ (w.heap.size + 1) rfl rfl k3) rfl ?_;refine ⟨_, rfl, zb ?_, q3.fr (q2.fr (za h0 f1) (Nat.le_refl _)) (by omega)⟩;have F := q3.fr (q2.fr (za h0 f1) (Nat.le_refl _)) (by omega);have H := HH.out.fr F;have hn := hyn.out;have o1 : zR w1 (fun b => Y.heap.size ≤ b) A' _ := HO.out.hasP fun _ h => h;have o3 := ((o1.kept q2 (by omega)).kept q3 (by omega)).weak (ok' := ok) (fun b _ h => hu b (by omega));exact { H with h4 := o3, l4 := rfl, k4 := HO.out.cap, s4 := hle.out, w4 := hwf.out }
end
end Go.Proofs.YtmjjjdikpnhpiaaGreat
