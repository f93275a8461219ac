/- The document's Insert, down, Push. -/
import Derived.Test.YtiggcgajanfbjaaGreatActJ
import Derived.Test.YtiggcgajanfbjaaGreatRf
namespace Go.Proofs.YtiggcgajanfbjaaGreat
set_option linter.unusedVariables false
set_option linter.unusedSimpArgs false
set_option maxRecDepth 100000
open Go.RowKit
attribute [local go_sem ↓] zaP zw
set_option maxHeartbeats 4000000 in
theorem zgK {w : World} {ok : Nat → Prop} {v : NV} {n : RN} {m : RM} {fb : Bool} (hu : ∀ b, w.heap.size ≤ b → ok b) (h : NP w ok v n) (hl : n.lf = true) (ho : OkE n.es) (hs : n.es.length ≤ 5000) (wm : m.wf) (om : okM m = true) (hfb : fb = true ↔ OkN (zaQ n [m]) ∧ zcW (zaQ n [m]) ≤ rmN (zaQ n [m])) :
 Calls Tryz.prog 12 #[nv v, mm m] w (zdz ok w fb n m) := by
 unfold nv zdz nv;obtain ⟨Y, hY, h0, hy, hA⟩ := zaz [(v.cells.toArray, 37), ((mc m).toArray, 31), (zh.cells.toArray, 37)] w;have a0 : Arr Y (w.heap.size) 37 v.cells.toArray := hA 0 _ rfl;have a1 : Arr Y (w.heap.size + 1) 31 (mc m).toArray := hA 1 _ rfl;have a2 : Arr Y (w.heap.size + 2) 37 zh.cells.toArray := hA 2 _ rfl;change (((w).alloc (.cells v.cells.toArray 37)).alloc (.cells (mc m).toArray 31)).alloc (.cells #[.bool false, .slice none 0 0, .slice none 0 0, .slice none 0 0, .slice none 0 0] 37) = Y at hY;have hYY := ze Y;have hyn : Hid (w.heap.size + 3 ≤ Y.heap.size) := zb (by have := hy.out; simp only [List.length_cons, List.length_nil] at this; omega);clear hA hy;have hv : v.lf = true := h.lf.trans hl;have c0 : ∀ W, Fr Y W → W.cell? ⟨w.heap.size, 0, none⟩ = some (.bool true) := fun W k => by rw [← hv]; exact (a0.below k a0.lt).cell 0
 have c1 : ∀ W, Fr Y W → W.cell? ⟨w.heap.size, 1, none⟩ = some (.slice v.A1 v.n1 v.c1) := fun W k => (a0.below k a0.lt).cell 1;have l0 : ∀ W, Fr Y W → (ldS 37 (.pointer (some ⟨w.heap.size, 0, none⟩))).run Tryz.prog W = .ok (.agg v.cells.toArray) W := fun W k => zq.ld rfl (a0.below k a0.lt);have lm : ∀ W, Fr Y W → (ldS 31 (.pointer (some ⟨w.heap.size + 1, 0, none⟩))).run Tryz.prog W = .ok (.agg (mc m).toArray) W := fun W k => za4.ld (zP wm.val.hl) (a1.below k a1.lt);have cP : ∀ W, Fr Y W → Calls Tryz.prog 37 #[.slice v.A1 v.n1 v.c1, .agg (mc m).toArray] W fun e w' => ∃ A' c', e = .returned (.slice A' (zba n.es m).length c') ∧ zau w' W.heap.size A' c' (zba n.es m) ∧ Fr W w' := fun W k => zig (h.h1.fr (za h0 k)).has (Nat.le_refl _) h.l1 (by have := h.s1; omega) ho wm om;have ht : zaQ n [m] = { n with es := zba n.es m } := zcY hl [m];have Ht := zb ht;have hq : Hid ((zba n.es m).length ≤ 100000 ∧ WfE (zba n.es m)) := zb ⟨by have := zj2 n.es m; omega, (zfk ho wm om).wfe⟩;have HH := zb h;have K0 := zb a0;have K2 := zb a2;have Hfb := zb hfb;generalize zba n.es m = q at *;clear a0 a1 a2 h hl ho hs hfb ht hv om;go_enter Tryz.func12, Tryz.ntmps12
 obtain ⟨V, hV, fV, aV⟩ : ∃ V, Y.alloc (.cells #[.bool false, .slice none 0 0, .slice none 0 0, .slice none 0 0, .slice none 0 0] 37) = V ∧ Fr Y V ∧ Arr V Y.heap.size 37 zh.cells.toArray := ⟨_, rfl, zf (ze _) _, Arr.new _ _ _⟩;have zY := hyn.out;have FV := za h0 fV;have tok : Hid (0 < 1) := zb (by decide)
 go_wp2_with (first
  | (clear tok; refine sN v 6 7 Y.heap.size aV ?_; intro W1 g6 u1
     have F1 := u1.fr FV (by omega);have G1 := u1.fr fV (Nat.le_refl _);have r1 := ze W1;have k0 := u1.other (K0.out.below fV K0.out.lt) (by omega);have k2 := u1.other (K2.out.below fV K2.out.lt) (by omega);clear aV)
  | fail)
 refine (cP _ G1).mono ?_;rintro e w2 ⟨A', d', rfl, hO, f2⟩;have F2 := za F1 f2;have g2 := g6.below f2 g6.lt;have k20 := k0.below f2 k0.lt;have k22 := k2.below f2 k2.lt;have HO := zb hO;have z1 := zb (u1.size);have zV : Hid (Y.heap.size < V.heap.size) := zb (by have := g6.lt; have := u1.size; omega);clear g6 k0 k2 cP lm c0 c1 l0 K0 K2 hO;have tok : Hid (0 < 1) := zb (by decide)
 go_upto_region 5 with (first
  | (clear tok; refine zp (ds := [.slice A' q.length d']) sl_e rfl (.tmp 14) (.tmp 13) rfl Y.heap.size 1 rfl rfl rfl (zaV _ _ _) g2 (zaD _ (by decide)) (cs' := (v.set1 A' q.length d').cells) rfl ?_; intro W3 g3 u3
     have F3 := u3.fr F2 (by omega);have m0 := u3.other k20 (by omega);have m2 := u3.other k22 (by omega);clear g2 k20 k22)
  | fail)
 have hP : Hid (NP W3 (okX ok w.heap.size 3) (v.set1 A' q.length d') (zaQ n [m])) := by
  have H := (HH.out.inn 3).fr F3;have o1 : zR w2 (fun b => W1.heap.size ≤ b) A' _ := HO.out.hasP fun _ h => h;have o3 := (o1.kept u3 (by have := z1.out; have := zV.out; omega)).weak (ok' := okX ok w.heap.size 3) (fun b _ h => ⟨hu b (by have := z1.out; have := zV.out; omega), .inr (by have := z1.out; have := zV.out; omega)⟩);rw [Ht.out];exact zb { H with h1 := o3, l1 := rfl, k1 := HO.out.cap, s1 := hq.out.1, w1 := hq.out.2 }
 have l0 : ∀ W, Fr W3 W → (ldS 37 (.pointer (some ⟨w.heap.size, 0, none⟩))).run Tryz.prog W = .ok (.agg v.cells.toArray) W := fun W k => zq.ld rfl (m0.below k m0.lt);have l6 : ∀ W, Fr W3 W → (ldS 37 (.pointer (some ⟨Y.heap.size, 0, none⟩))).run Tryz.prog W = .ok (.agg (v.set1 A' q.length d').cells.toArray) W := fun W k => zq.ld rfl (g3.below k g3.lt);have cF : ∀ W, Fr W3 W → Calls Tryz.prog 15 #[nv (v.set1 A' q.length d')] W fun e w' => e = .returned (.bool fb) ∧ Fr W w' := fun W f => zdB (hP.out.fr f).nh Hfb.out;unfold nv at cF;have rr := ze W3;have M2 := zb m2;clear m0 m2 g3 Hfb hY hV
 cases fb
 all_goals go_wp2_with fail
 all_goals refine (cF _ rr).mono ?_
 all_goals rintro e w6 ⟨rfl, f6⟩
 all_goals have n2 := M2.out.below f6 M2.out.lt
 all_goals have F6 := za F3 f6
 all_goals clear M2 cF
 all_goals have tok : Hid (0 < 1) := zb (by decide)
 ·go_wp2_with (first
   | (clear tok; refine sN v 4 23 (w.heap.size + 2) n2 ?_; intro W8 k8 u8)
   | fail)
  exact bodyPost_ret (zq.result2 rfl _ (w.heap.size + 2) rfl rfl k8) rfl ⟨v, false, n, rfl, zb ⟨rfl, rfl⟩, zb (((HH.out.inn 3).fr F6).kept u8 (zj (by decide))).out, u8.fr F6 (by omega)⟩
 ·go_wp2_with (first
   | (clear tok; refine sN (v.set1 A' q.length d') 4 24 (w.heap.size + 2) n2 ?_; intro W8 k8 u8)
   | fail)
  exact bodyPost_ret (zq.result2 rfl _ (w.heap.size + 2) rfl rfl k8) rfl ⟨_, true, zaQ n [m], rfl, zb ⟨rfl, rfl⟩, zb ((hP.out.fr f6).kept u8 (zj (by decide))).out, u8.fr F6 (by omega)⟩
set_option maxHeartbeats 4000000 in
theorem zfD {w : World} {ok : Nat → Prop} {v : NV} {n : RN} {m : RM} {fb : Bool} (hu : ∀ b, w.heap.size ≤ b → ok b) (h : NP w ok v n) (hl : n.lf = false) (ho : OkL n.ms) (hs : n.ms.length ≤ 5000) (wm : m.wf) (om : okM m = true) (hfb : fb = true ↔ OkN (zaQ n [m]) ∧ zcW (zaQ n [m]) ≤ rmN (zaQ n [m])) :
 Calls Tryz.prog 12 #[nv v, mm m] w (zdz ok w fb n m) := by
 unfold nv zdz nv;obtain ⟨Y, hY, h0, hy, hA⟩ := zaz [(v.cells.toArray, 37), ((mc m).toArray, 31), (zh.cells.toArray, 37)] w;have a0 : Arr Y (w.heap.size) 37 v.cells.toArray := hA 0 _ rfl;have a1 : Arr Y (w.heap.size + 1) 31 (mc m).toArray := hA 1 _ rfl;have a2 : Arr Y (w.heap.size + 2) 37 zh.cells.toArray := hA 2 _ rfl;change (((w).alloc (.cells v.cells.toArray 37)).alloc (.cells (mc m).toArray 31)).alloc (.cells #[.bool false, .slice none 0 0, .slice none 0 0, .slice none 0 0, .slice none 0 0] 37) = Y at hY;have hYY := ze Y;have hyn : Hid (w.heap.size + 3 ≤ Y.heap.size) := zb (by have := hy.out; simp only [List.length_cons, List.length_nil] at this; omega);clear hA hy;have hv : v.lf = false := h.lf.trans hl;have c0 : ∀ W, Fr Y W → W.cell? ⟨w.heap.size, 0, none⟩ = some (.bool false) := fun W k => by rw [← hv]; exact (a0.below k a0.lt).cell 0
 have c1 : ∀ W, Fr Y W → W.cell? ⟨w.heap.size, 4, none⟩ = some (.slice v.A4 v.n4 v.c4) := fun W k => (a0.below k a0.lt).cell 4;have l0 : ∀ W, Fr Y W → (ldS 37 (.pointer (some ⟨w.heap.size, 0, none⟩))).run Tryz.prog W = .ok (.agg v.cells.toArray) W := fun W k => zq.ld rfl (a0.below k a0.lt);have lm : ∀ W, Fr Y W → (ldS 31 (.pointer (some ⟨w.heap.size + 1, 0, none⟩))).run Tryz.prog W = .ok (.agg (mc m).toArray) W := fun W k => za4.ld (zP wm.val.hl) (a1.below k a1.lt);have cP : ∀ W, Fr Y W → Calls Tryz.prog 38 #[.slice v.A4 v.n4 v.c4, .agg (mc m).toArray] W fun e w' => ∃ A' c', e = .returned (.slice A' (zaK n.ms m).length c') ∧ zaC w' W.heap.size A' c' (zaK n.ms m) ∧ Fr W w' := fun W k => zkh (h.h4.fr (za h0 k)).has (Nat.le_refl _) h.l4 (by have := h.s4; omega) ho wm om;have ht : zaQ n [m] = { n with ms := zaK n.ms m } := zfI hl [m];have Ht := zb ht;have hq : Hid ((zaK n.ms m).length ≤ 100000 ∧ WfM (zaK n.ms m)) := zb ⟨by have := zhq n.ms m; omega, (fun x hx => ((zdP ho wm om).good x hx).1)⟩;have HH := zb h;have K0 := zb a0;have K2 := zb a2;have Hfb := zb hfb;generalize zaK n.ms m = q at *;clear a0 a1 a2 h hl ho hs hfb ht hv om;go_enter Tryz.func12, Tryz.ntmps12
 obtain ⟨V, hV, fV, aV⟩ : ∃ V, Y.alloc (.cells #[.bool false, .slice none 0 0, .slice none 0 0, .slice none 0 0, .slice none 0 0] 37) = V ∧ Fr Y V ∧ Arr V Y.heap.size 37 zh.cells.toArray := ⟨_, rfl, zf (ze _) _, Arr.new _ _ _⟩;have zY := hyn.out;have FV := za h0 fV;have tok : Hid (0 < 1) := zb (by decide)
 go_wp2_with (first
  | (clear tok; refine sN v 6 7 Y.heap.size aV ?_; intro W1 g6 u1
     have F1 := u1.fr FV (by omega);have G1 := u1.fr fV (Nat.le_refl _);have r1 := ze W1;have k0 := u1.other (K0.out.below fV K0.out.lt) (by omega);have k2 := u1.other (K2.out.below fV K2.out.lt) (by omega);clear aV)
  | fail)
 refine (cP _ G1).mono ?_;rintro e w2 ⟨A', d', rfl, hO, f2⟩;have F2 := za F1 f2;have g2 := g6.below f2 g6.lt;have k20 := k0.below f2 k0.lt;have k22 := k2.below f2 k2.lt;have HO := zb hO;have z1 := zb (u1.size);have zV : Hid (Y.heap.size < V.heap.size) := zb (by have := g6.lt; have := u1.size; omega);clear g6 k0 k2 cP lm c0 c1 l0 K0 K2 hO;have tok : Hid (0 < 1) := zb (by decide)
 go_upto_region 5 with (first
  | (clear tok; refine zp (ds := [.slice A' q.length d']) sl_m rfl (.tmp 19) (.tmp 18) rfl Y.heap.size 4 rfl rfl rfl (zaV _ _ _) g2 (zaD _ (by decide)) (cs' := (v.set4 A' q.length d').cells) rfl ?_; intro W3 g3 u3
     have F3 := u3.fr F2 (by omega);have m0 := u3.other k20 (by omega);have m2 := u3.other k22 (by omega);clear g2 k20 k22)
  | fail)
 have hP : Hid (NP W3 (okX ok w.heap.size 3) (v.set4 A' q.length d') (zaQ n [m])) := by
  have H := (HH.out.inn 3).fr F3;have o1 : zR w2 (fun b => W1.heap.size ≤ b) A' _ := HO.out.hasP fun _ h => h;have o3 := (o1.kept u3 (by have := z1.out; have := zV.out; omega)).weak (ok' := okX ok w.heap.size 3) (fun b _ h => ⟨hu b (by have := z1.out; have := zV.out; omega), .inr (by have := z1.out; have := zV.out; omega)⟩);rw [Ht.out];exact zb { H with h4 := o3, l4 := rfl, k4 := HO.out.cap, s4 := hq.out.1, w4 := hq.out.2 }
 have l0 : ∀ W, Fr W3 W → (ldS 37 (.pointer (some ⟨w.heap.size, 0, none⟩))).run Tryz.prog W = .ok (.agg v.cells.toArray) W := fun W k => zq.ld rfl (m0.below k m0.lt);have l6 : ∀ W, Fr W3 W → (ldS 37 (.pointer (some ⟨Y.heap.size, 0, none⟩))).run Tryz.prog W = .ok (.agg (v.set4 A' q.length d').cells.toArray) W := fun W k => zq.ld rfl (g3.below k g3.lt);have cF : ∀ W, Fr W3 W → Calls Tryz.prog 15 #[nv (v.set4 A' q.length d')] W fun e w' => e = .returned (.bool fb) ∧ Fr W w' := fun W f => zdB (hP.out.fr f).nh Hfb.out;unfold nv at cF;have rr := ze W3;have M2 := zb m2;clear m0 m2 g3 Hfb hY hV
 cases fb
 all_goals go_wp2_with fail
 all_goals refine (cF _ rr).mono ?_
 all_goals rintro e w6 ⟨rfl, f6⟩
 all_goals have n2 := M2.out.below f6 M2.out.lt
 all_goals have F6 := za F3 f6
 all_goals clear M2 cF
 all_goals have tok : Hid (0 < 1) := zb (by decide)
 ·go_wp2_with (first
   | (clear tok; refine sN v 4 23 (w.heap.size + 2) n2 ?_; intro W8 k8 u8)
   | fail)
  exact bodyPost_ret (zq.result2 rfl _ (w.heap.size + 2) rfl rfl k8) rfl ⟨v, false, n, rfl, zb ⟨rfl, rfl⟩, zb (((HH.out.inn 3).fr F6).kept u8 (zj (by decide))).out, u8.fr F6 (by omega)⟩
 ·go_wp2_with (first
   | (clear tok; refine sN (v.set4 A' q.length d') 4 24 (w.heap.size + 2) n2 ?_; intro W8 k8 u8)
   | fail)
  exact bodyPost_ret (zq.result2 rfl _ (w.heap.size + 2) rfl rfl k8) rfl ⟨_, true, zaQ n [m], rfl, zb ⟨rfl, rfl⟩, zb ((hP.out.fr f6).kept u8 (zj (by decide))).out, u8.fr F6 (by omega)⟩
end Go.Proofs.YtiggcgajanfbjaaGreat
