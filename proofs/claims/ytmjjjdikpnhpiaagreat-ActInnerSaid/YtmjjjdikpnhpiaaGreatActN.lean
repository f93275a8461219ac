/- Children divided: the calls. -/
import Derived.Test.YtmjjjdikpnhpiaaGreatActK
namespace Go.Proofs.YtmjjjdikpnhpiaaGreat
set_option linter.unusedVariables false
set_option linter.unusedSimpArgs false
set_option maxRecDepth 100000
open Go.RowKit
attribute [local go_sem ↓] zaP
set_option maxHeartbeats 2000000 in
theorem zjH {w : World} {ok : Nat → Prop} {vp vc : NV} {p c : RN} {i id : Int} (hu : ∀ b, w.heap.size ≤ b → ok b) (hp : NP w ok vp p) (hc : NP w ok vc c) (op : OkN p) (oc : OkN c) (ocs : OkC c) (hs : p.ms.length ≤ 5000) (hi : zal i) :
 Calls Tryz.prog 14 #[nv vp, nv vc, .int .i64 i, .int .i64 id] w (zfp ok w true p c i id) := by
 unfold nv zfp nv;obtain ⟨Y, hY, h0, hy, hA⟩ := zaz [(vp.cells.toArray, 27), (vc.cells.toArray, 27), (zh.cells.toArray, 27), (zh.cells.toArray, 27), (zh.cells.toArray, 27)] w;have a0 : Arr Y (w.heap.size) 27 vp.cells.toArray := hA 0 _ rfl;have a1 : Arr Y (w.heap.size + 1) 27 vc.cells.toArray := hA 1 _ rfl;have a2 : Arr Y (w.heap.size + 2) 27 zh.cells.toArray := hA 2 _ rfl;have a3 : Arr Y (w.heap.size + 3) 27 zh.cells.toArray := hA 3 _ rfl;have a4 : Arr Y (w.heap.size + 4) 27 zh.cells.toArray := hA 4 _ rfl;change (((((w).alloc (.cells vp.cells.toArray 27)).alloc (.cells vc.cells.toArray 27)).alloc (.cells #[.bool false, .slice none 0 0, .slice none 0 0, .slice none 0 0, .slice none 0 0] 27)).alloc (.cells #[.bool false, .slice none 0 0, .slice none 0 0, .slice none 0 0, .slice none 0 0] 27)).alloc (.cells #[.bool false, .slice none 0 0, .slice none 0 0, .slice none 0 0, .slice none 0 0] 27) = Y at hY;have hYY := ze Y;have hyn : Hid (w.heap.size + 5 ≤ Y.heap.size) := zb (by have := hy.out; simp only [List.length_cons, List.length_nil] at this; omega);clear hA hy;have cS := zl5 (i := i) (id := id) (zaT (W := Y) hu hyn.out) ((hp.inn 5).fr h0) ((hc.inn 5).fr h0) op oc ocs hs hi;unfold nv zfp nv at cS
 have l0 : ∀ W, Fr Y W → (ldS 27 (.pointer (some ⟨w.heap.size, 0, none⟩))).run Tryz.prog W = .ok (.agg vp.cells.toArray) W := fun W h => zq.ld rfl (a0.below h a0.lt);have l1 : ∀ W, Fr Y W → (ldS 27 (.pointer (some ⟨w.heap.size + 1, 0, none⟩))).run Tryz.prog W = .ok (.agg vc.cells.toArray) W := fun W h => zq.ld rfl (a1.below h a1.lt);have K2 := zb a2;have K3 := zb a3;have K4 := zb a4;clear a0 a1 a2 a3 a4 hp hc op oc ocs hs;go_enter Tryz.func14, Tryz.ntmps14;go_wp2_with fail;refine cS.mono ?_;rintro e w1 ⟨v1, v2, v3, b, p', c', n', rfl, hR, h1, h2, h3, f1⟩;have F1 := za h0 f1;have c2 := K2.out.below f1 K2.out.lt;have c3 := K3.out.below f1 K3.out.lt;have c4 := K4.out.below f1 K4.out.lt;clear K2 K3 K4 cS l0 l1;have tok : Hid (0 < 1) := zb (by decide);have tok2 : Hid (0 < 1) := zb (by decide);have tok3 : Hid (0 < 1) := zb (by decide)
 go_wp2_with (first
  | (clear tok; refine sN v1 8 17 (w.heap.size + 2) c2 ?_; intro W3 d2 u1
     have F3 := u1.fr F1 (by omega);have d3 := u1.other c3 (by omega);have d4 := u1.other c4 (by omega);clear c2 c3 c4)
  | (clear tok2; refine sN v2 9 18 (w.heap.size + 3) d3 ?_; intro W4 e3 u2
     have F4 := u2.fr F3 (by omega);have e2 := u2.other d2 (by omega);have e4 := u2.other d4 (by omega);clear d2 d3 d4)
  | (clear tok3; refine sN v3 10 19 (w.heap.size + 4) e4 ?_; intro W5 k4 u3
     have F5 := u3.fr F4 (by omega);have k2 := u3.other e2 (by omega);have k3 := u3.other e3 (by omega);clear e2 e3 e4)
  | fail)
 refine bodyPost_ret (zaY _ (w.heap.size + 2) (w.heap.size + 3) (w.heap.size + 4) zq zq zq rfl rfl rfl rfl rfl rfl rfl k2 k3 k4) rfl ?_;have mv : ∀ {vv : NV} {nn : RN}, NP w1 (okX ok w.heap.size 5) vv nn → NP W5 ok vv nn := fun h => (((h.kept u1 (zj (by decide))).kept u2 (zj (by decide))).kept u3 (zj (by decide))).out;exact ⟨_, _, _, b, p', c', n', rfl, hR, zb (mv h1.out), zb (mv h2.out), zb (mv h3.out), F5⟩
set_option maxHeartbeats 2000000 in
theorem ziE {w : World} {ok : Nat → Prop} {vp vc : NV} {p c : RN} {i id : Int} (hu : ∀ b, w.heap.size ≤ b → ok b) (hp : NP w ok vp p) (hc : NP w ok vc c) (op : OkN p) (oc : OkN c) (ocs : OkC c) (hs : p.ms.length ≤ 5000) (hi : zal i) :
 Calls Tryz.prog 17 #[nv vp, nv vc, .int .i64 i, .int .i64 id] w (zfp ok w false p c i id) := by
 unfold nv zfp nv;obtain ⟨Y, hY, h0, hy, hA⟩ := zaz [(vp.cells.toArray, 27), (vc.cells.toArray, 27), (zh.cells.toArray, 27), (zh.cells.toArray, 27), (zh.cells.toArray, 27)] w;have a0 : Arr Y (w.heap.size) 27 vp.cells.toArray := hA 0 _ rfl;have a1 : Arr Y (w.heap.size + 1) 27 vc.cells.toArray := hA 1 _ rfl;have a2 : Arr Y (w.heap.size + 2) 27 zh.cells.toArray := hA 2 _ rfl;have a3 : Arr Y (w.heap.size + 3) 27 zh.cells.toArray := hA 3 _ rfl;have a4 : Arr Y (w.heap.size + 4) 27 zh.cells.toArray := hA 4 _ rfl;change (((((w).alloc (.cells vp.cells.toArray 27)).alloc (.cells vc.cells.toArray 27)).alloc (.cells #[.bool false, .slice none 0 0, .slice none 0 0, .slice none 0 0, .slice none 0 0] 27)).alloc (.cells #[.bool false, .slice none 0 0, .slice none 0 0, .slice none 0 0, .slice none 0 0] 27)).alloc (.cells #[.bool false, .slice none 0 0, .slice none 0 0, .slice none 0 0, .slice none 0 0] 27) = Y at hY;have hYY := ze Y;have hyn : Hid (w.heap.size + 5 ≤ Y.heap.size) := zb (by have := hy.out; simp only [List.length_cons, List.length_nil] at this; omega);clear hA hy;have cS := zlg (i := i) (id := id) (zaT (W := Y) hu hyn.out) ((hp.inn 5).fr h0) ((hc.inn 5).fr h0) op oc ocs hs hi;unfold nv zfp nv at cS
 have l0 : ∀ W, Fr Y W → (ldS 27 (.pointer (some ⟨w.heap.size, 0, none⟩))).run Tryz.prog W = .ok (.agg vp.cells.toArray) W := fun W h => zq.ld rfl (a0.below h a0.lt);have l1 : ∀ W, Fr Y W → (ldS 27 (.pointer (some ⟨w.heap.size + 1, 0, none⟩))).run Tryz.prog W = .ok (.agg vc.cells.toArray) W := fun W h => zq.ld rfl (a1.below h a1.lt);have K2 := zb a2;have K3 := zb a3;have K4 := zb a4;clear a0 a1 a2 a3 a4 hp hc op oc ocs hs;go_enter Tryz.func17, Tryz.ntmps17;go_wp2_with fail;refine cS.mono ?_;rintro e w1 ⟨v1, v2, v3, b, p', c', n', rfl, hR, h1, h2, h3, f1⟩;have F1 := za h0 f1;have c2 := K2.out.below f1 K2.out.lt;have c3 := K3.out.below f1 K3.out.lt;have c4 := K4.out.below f1 K4.out.lt;clear K2 K3 K4 cS l0 l1;have tok : Hid (0 < 1) := zb (by decide);have tok2 : Hid (0 < 1) := zb (by decide);have tok3 : Hid (0 < 1) := zb (by decide)
 go_wp2_with (first
  | (clear tok; refine sN v1 8 17 (w.heap.size + 2) c2 ?_; intro W3 d2 u1
     have F3 := u1.fr F1 (by omega);have d3 := u1.other c3 (by omega);have d4 := u1.other c4 (by omega);clear c2 c3 c4)
  | (clear tok2; refine sN v2 9 18 (w.heap.size + 3) d3 ?_; intro W4 e3 u2
     have F4 := u2.fr F3 (by omega);have e2 := u2.other d2 (by omega);have e4 := u2.other d4 (by omega);clear d2 d3 d4)
  | (clear tok3; refine sN v3 10 19 (w.heap.size + 4) e4 ?_; intro W5 k4 u3
     have F5 := u3.fr F4 (by omega);have k2 := u3.other e2 (by omega);have k3 := u3.other e3 (by omega);clear e2 e3 e4)
  | fail)
 refine bodyPost_ret (zaY _ (w.heap.size + 2) (w.heap.size + 3) (w.heap.size + 4) zq zq zq rfl rfl rfl rfl rfl rfl rfl k2 k3 k4) rfl ?_;have mv : ∀ {vv : NV} {nn : RN}, NP w1 (okX ok w.heap.size 5) vv nn → NP W5 ok vv nn := fun h => (((h.kept u1 (zj (by decide))).kept u2 (zj (by decide))).kept u3 (zj (by decide))).out;exact ⟨_, _, _, b, p', c', n', rfl, hR, zb (mv h1.out), zb (mv h2.out), zb (mv h3.out), F5⟩
end Go.Proofs.YtmjjjdikpnhpiaaGreat
