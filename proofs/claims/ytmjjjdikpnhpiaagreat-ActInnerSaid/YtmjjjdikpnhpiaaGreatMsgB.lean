/- What the functions of layer 5 come to, two: 'Bytes'. -/
import Derived.Test.YtmjjjdikpnhpiaaGreatMsg0
import Derived.Test.YtmjjjdikpnhpiaaGreatOwn
namespace Go.Proofs.YtmjjjdikpnhpiaaGreat
set_option linter.unusedVariables false
set_option linter.unusedSimpArgs false
set_option maxRecDepth 100000
open Go.RowKit
section
attribute [local go_sem ↓] zae zt zw
theorem zbp {m : RM} (h : okM m = true) : (m.kind = 1 ∨ m.kind = 2 ∨ m.kind = 3) ∧ okB m.key = true ∧ (m.kind = 1 → m.inc = 0 ∧ okV m.val = true) ∧ (m.kind = 2 → m.inc = 0) ∧ (m.kind ≠ 1 → m.val = zE) := by
 unfold okM at h
 split at h
 ·rename_i e
  simp only [Bool.and_eq_true, decide_eq_true_iff] at h;exact ⟨.inl e, h.2.1, fun _ => ⟨h.1, h.2.2⟩, fun k => by omega, fun k => absurd e k⟩
 ·split at h
  ·rename_i e
   simp only [Bool.and_eq_true, decide_eq_true_iff] at h;exact ⟨.inr (.inl e), h.2.1, fun k => by omega, fun _ => h.1, fun _ => h.2.2⟩
  ·split at h
   ·rename_i e
    simp only [Bool.and_eq_true, decide_eq_true_iff] at h;exact ⟨.inr (.inr e), h.1, fun k => by omega, fun k => by omega, fun _ => h.2⟩
   ·cases h
def zc9 (m : RM) : Int := if okM m = true then (if m.kind = 1 then 11 + m.key.n + m.val.n else if m.kind = 3 then 18 + m.key.n else 10 + m.key.n) else 0
set_option maxRecDepth 100000 in
set_option maxHeartbeats 4000000 in
theorem zou (m : RM) (wm : m.wf) (w : World) : Calls Tryz.prog 75 #[mm m] w fun e w' => e = .returned (.int .i64 (zc9 m)) ∧ Fr w w' := by
 have cC : ∀ Z W, Fr Z W → Calls Tryz.prog 98 #[mm m] W fun e w' => e = .returned (.bool (okM m)) ∧ Fr Z w' := fun Z W h => (ziY m wm W).mono fun _ _ ⟨he, hw⟩ => ⟨he, za h hw⟩;obtain ⟨Z, hZ, hF, hZZ, hA, c0, -, -, lM, -, -⟩ := zff w m wm.val.hl;have c2 := zbt hA 2 (mc_2 m);have c11 := zbt hA 11 (mc_11 m);unfold zc9
 cases ho : okM m
 ·rw [ho] at cC
  clear ho hA;rw [if_neg (by decide)];go_enter Tryz.func75, Tryz.ntmps75
  go_wp2_with (first
   | (go_at_call 98; refine (cC Z _ (by assumption)).mono ?_; rintro e w1 ⟨rfl, hz1⟩)
   | fail)
  go_ret;exact ⟨rfl, za hF (by assumption)⟩
 ·obtain ⟨hk, hkey, hp⟩ := zbp ho
  obtain ⟨n, hn, en, -⟩ := zi4 hkey;rw [ho] at cC;rw [if_pos rfl, en];rw [en] at c2;clear ho hA hkey
  rcases hk with hk | hk | hk
  ·obtain ⟨l, hl, el, -⟩ := ziC (hp.1 hk).2
   rw [hk] at c0;rw [if_pos hk, el];rw [el] at c11;clear hk hp en el;go_enter Tryz.func75, Tryz.ntmps75
   go_wp2_with (first
    | (go_at_call 98; refine (cC Z _ (by assumption)).mono ?_; rintro e w1 ⟨rfl, hz1⟩)
    | fail)
   go_ret;exact ⟨zbM (by go_num), za hF (by assumption)⟩
  ·rw [hk] at c0
   rw [if_neg (by omega), if_neg (by omega)];clear hk hp en;go_enter Tryz.func75, Tryz.ntmps75
   go_wp2_with (first
    | (go_at_call 98; refine (cC Z _ (by assumption)).mono ?_; rintro e w1 ⟨rfl, hz1⟩)
    | fail)
   go_ret;exact ⟨zbM (by go_num), za hF (by assumption)⟩
  ·rw [hk] at c0
   rw [if_neg (by omega), if_pos hk];clear hk hp en;go_enter Tryz.func75, Tryz.ntmps75
   go_wp2_with (first
    | (go_at_call 98; refine (cC Z _ (by assumption)).mono ?_; rintro e w1 ⟨rfl, hz1⟩)
    | fail)
   go_ret;exact ⟨zbM (by go_num), za hF (by assumption)⟩
set_option maxRecDepth 100000 in
set_option maxHeartbeats 4000000 in
theorem zmf (m : RM) (wm : m.wf) (w : World) : Calls Tryz.prog 70 #[mm m] w fun e w' => e = .returned (.int .i64 (zc9 m)) ∧ Fr w w' := by
 have cC : ∀ Z W, Fr Z W → Calls Tryz.prog 88 #[mm m] W fun e w' => e = .returned (.bool (okM m)) ∧ Fr Z w' := fun Z W h => (zhM m wm W).mono fun _ _ ⟨he, hw⟩ => ⟨he, za h hw⟩;obtain ⟨Z, hZ, hF, hZZ, hA, c0, -, -, lM, -, -⟩ := zff w m wm.val.hl;have c2 := zbt hA 2 (mc_2 m);have c11 := zbt hA 11 (mc_11 m);unfold zc9
 cases ho : okM m
 ·rw [ho] at cC
  clear ho hA;rw [if_neg (by decide)];go_enter Tryz.func70, Tryz.ntmps70
  go_wp2_with (first
   | (go_at_call 88; refine (cC Z _ (by assumption)).mono ?_; rintro e w1 ⟨rfl, hz1⟩)
   | fail)
  go_ret;exact ⟨rfl, za hF (by assumption)⟩
 ·obtain ⟨hk, hkey, hp⟩ := zbp ho
  obtain ⟨n, hn, en, -⟩ := zi4 hkey;rw [ho] at cC;rw [if_pos rfl, en];rw [en] at c2;clear ho hA hkey
  rcases hk with hk | hk | hk
  ·obtain ⟨l, hl, el, -⟩ := ziC (hp.1 hk).2
   rw [hk] at c0;rw [if_pos hk, el];rw [el] at c11;clear hk hp en el;go_enter Tryz.func70, Tryz.ntmps70
   go_wp2_with (first
    | (go_at_call 88; refine (cC Z _ (by assumption)).mono ?_; rintro e w1 ⟨rfl, hz1⟩)
    | fail)
   go_ret;exact ⟨zbM (by go_num), za hF (by assumption)⟩
  ·rw [hk] at c0
   rw [if_neg (by omega), if_neg (by omega)];clear hk hp en;go_enter Tryz.func70, Tryz.ntmps70
   go_wp2_with (first
    | (go_at_call 88; refine (cC Z _ (by assumption)).mono ?_; rintro e w1 ⟨rfl, hz1⟩)
    | fail)
   go_ret;exact ⟨zbM (by go_num), za hF (by assumption)⟩
  ·rw [hk] at c0
   rw [if_neg (by omega), if_pos hk];clear hk hp en;go_enter Tryz.func70, Tryz.ntmps70
   go_wp2_with (first
    | (go_at_call 88; refine (cC Z _ (by assumption)).mono ?_; rintro e w1 ⟨rfl, hz1⟩)
    | fail)
   go_ret;exact ⟨zbM (by go_num), za hF (by assumption)⟩
end
section
attribute [local go_sem ↓] zae zt zw
def za7 (a b : RM) : RM :=
 if b.kind ≠ 3 ∨ a.key ≠ b.key then b
 else if a.kind = 1 then { b with kind := 1, val := zbJ a.val b.inc, inc := 0 }
 else if a.kind = 2 then { b with kind := 1, val := zaO b.inc, inc := 0 }
 else { b with inc := IntKind.u64.wrap (a.inc + b.inc) }
theorem zdM : (mc za0).toArray = #[.int .i64 0, .int .u64 0, .int .i64 0, .int .u8 0, .int .u8 0, .int .u8 0, .int .u8 0, .int .u8 0, .int .u8 0, .int .u8 0, .int .u8 0, .int .i64 0, .int .u8 0, .int .u8 0, .int .u8 0, .int .u8 0, .int .u8 0, .int .u8 0, .int .u8 0, .int .u8 0, .int .u8 0, .int .u8 0, .int .u8 0, .int .u8 0, .int .u8 0, .int .u8 0, .int .u8 0, .int .u8 0, .int .u64 0] := rfl
theorem zhP : (Tryz.prog.info? 3).map (·.size) = some 1 := by kernel_rfl
theorem zeY : (Tryz.prog.info? 62).map (·.size) = some 1 := by kernel_rfl
theorem ziV {n : Int} (h : zeb n) : zbJ (zaO 0) n = zaO n := by
 rw [zgL (by omega) (by omega), Int.zero_add, zeB];unfold zeb at h;rw [show n % 18446744073709551616 = n by omega]
theorem zin (w : World) (a b : RM) (ha : a.val.bs.length = 16) (hb : b.val.bs.length = 16) : ∃ Z, ((w.alloc (.cells (mc a).toArray 64)).alloc (.cells (mc b).toArray 64)).alloc (.cells #[.int .i64 0, .int .u64 0, .int .i64 0, .int .u8 0, .int .u8 0, .int .u8 0, .int .u8 0, .int .u8 0, .int .u8 0, .int .u8 0, .int .u8 0, .int .i64 0, .int .u8 0, .int .u8 0, .int .u8 0, .int .u8 0, .int .u8 0, .int .u8 0, .int .u8 0, .int .u8 0, .int .u8 0, .int .u8 0, .int .u8 0, .int .u8 0, .int .u8 0, .int .u8 0, .int .u8 0, .int .u8 0, .int .u64 0] 64) = Z ∧ Fr w Z ∧ Fr Z Z ∧
 Arr Z w.heap.size 64 (mc a).toArray ∧ Arr Z (w.heap.size + 1) 64 (mc b).toArray ∧ Arr Z (w.heap.size + 1 + 1) 64 (mc za0).toArray ∧ Z.heap.size = w.heap.size + 1 + 1 + 1 := by
 refine ⟨_, rfl, zf (zf (zf (ze w) _) _) _, ze _, Arr.alloc (Arr.alloc (Arr.new w _ _) _) _, Arr.alloc (zbr _ _ _ _ (by simp)) _, zbr _ _ _ _ (by simp), by simp⟩
set_option maxRecDepth 100000 in
set_option maxHeartbeats 4000000 in
theorem zk0 (a b : RM) (wa : a.wf) (wb : b.wf) (oa : okM a = true) (ob : okM b = true) (w : World) : Calls Tryz.prog 128 #[mm a, mm b] w fun e w' => e = .returned (mm (za7 a b)) ∧ Fr w w' := by
 obtain ⟨Z, hZ, hF, hZZ, hA, hB, hO, hS⟩ := zin w a b wa.val.hl wb.val.hl;have a0 := zbt hA 0 (zhl a);have a28 := zbt hA 28 (zdT wa.val.hl);have b0 := zbt hB 0 (zhl b);have b1 := zbt hB 1 (mc_1 b);have b28 := zbt hB 28 (zdT wb.val.hl);have laK := zaN hA;have lbK := zaN hB;have laV := zcG hA wa.val.hl;have lbM := zbg hB wb.val.hl;have hne := zjI wa.key wb.key;obtain ⟨ka, -, pa, -, -⟩ := zbp oa;have hib := wb.hi;have Hlb := zb (zP wb.val.hl);have HlB := zb wb.val.hl;have HlA := zb wa.val.hl;unfold za7
 by_cases h3 : b.kind = 3
 ·rw [h3] at b0
  by_cases hk : a.key = b.key
  ·rw [if_neg (by simp [h3, hk])]
   have hk' : decide (a.key = b.key) = true := by simpa using hk
   rw [hk'] at hne;simp only [Bool.not_true] at hne
   rcases ka with ka | ka | ka
   ·rw [ka] at a0
    rw [if_pos ka];have cP := fun W h => zhB (W0 := Z) (W := W) wa.val (pa ka).2 b.inc h;have wv := (zaR (IntKind.u64.wrap (zfF a.val + b.inc)));have ev : zbJ a.val b.inc = zaO (IntKind.u64.wrap (zfF a.val + b.inc)) := rfl;rw [← ev] at wv;have Hv := zb wv.hl;generalize zbJ a.val b.inc = v at *;clear ka pa hk hk' h3 ev wv wa wb oa ob hib;go_enter Tryz.func128, Tryz.ntmps128;have HlR := zb (zP (m := { b with kind := 1, val := v, inc := 0 }) Hv.out)
    go_wp2_with (first
     | (go_at_call 130; refine (cP _ (by assumption)).mono ?_; rintro e w1 ⟨rfl, hz1⟩; have hB1 := hB.below hz1 hB.lt; have hO1 := hO.below hz1 hO.lt; have hF1 := za hF hz1)
     | (refine zi zhP rfl (.tmp 31) _ rfl (w.heap.size + 1) 0 rfl rfl rfl (zdv _ rfl) hB1 (by rw [Hlb.out]; decide) ((zbl _ _ _ (by rw [Hlb.out]; decide)).trans (zkg b 1)) ?_; intro W2 hB2 hk2; have hO2 := hk2.other hO1 (by omega); have hF2 := hk2.fr hF1 (by omega); clear hk2)
     | (refine zi zad rfl (.tmp 32) _ rfl (w.heap.size + 1) 11 rfl rfl (zD Hv.out) (zar v) hB2 (by rw [zP (by exact HlB.out)]; decide) (zcb (by exact HlB.out) Hv.out) ?_; intro W3 hB3 hk3; have hO3 := hk3.other hO2 (by omega); have hF3 := hk3.fr hF2 (by omega); clear hk3)
     | (refine zi zeY rfl (.tmp 33) _ rfl (w.heap.size + 1) 28 rfl rfl rfl (zdv _ rfl) hB3 (by rw [zP (by exact Hv.out)]; decide) ((zbl _ _ _ (by rw [zP (by exact Hv.out)]; decide)).trans (zeQ (by exact Hv.out) 0)) ?_; intro W4 hB4 hk4; have hO4 := hk4.other hO3 (by omega); have hF4 := hk4.fr hF3 (by omega); clear hk4)
     | (refine zB za4 rfl (.tmp 3) rfl (w.heap.size + 1) rfl HlR.out hB4 ?_)
     | (refine zi (ds := mc { b with kind := 1, val := v, inc := 0 }) zX rfl (.tmp 4) (.tmp 40) rfl (w.heap.size + 1 + 1) 0 rfl rfl HlR.out (zay _) hO4 (by decide) (zk _ _ (by rw [HlR.out]; decide)) ?_; intro W5 hO5 hk5; have hF5 := hk5.fr hF4 (by omega); clear hk5)
     | fail)
    exact bodyPost_ret (za4.result rfl _ (w.heap.size + 1 + 1) rfl HlR.out hO5) rfl ⟨rfl, hF5⟩
   ·rw [ka] at a0
    rw [if_neg (by omega), if_pos ka];have cF := fun W h => znf (W0 := Z) (W := W) (n := 0) (by decide) h;have cP := fun W0 W h => zhB (W0 := W0) (W := W) (zaR 0) (zd3 0) b.inc h;rw [ziV hib] at cP;have Hf0 := zb (zaR 0).hl;have Hv := zb (zaR b.inc).hl;generalize zaO b.inc = v at *;generalize zaO 0 = f0 at *;clear ka pa hk hk' h3 wa wb oa ob hib;go_enter Tryz.func128, Tryz.ntmps128;have HlR := zb (zP (m := { b with kind := 1, val := v, inc := 0 }) Hv.out)
    go_wp2_with (first
     | (go_at_call 129; refine (cF _ (by assumption)).mono ?_; rintro e w1 ⟨rfl, hz1⟩; have hA1 := hA.below hz1 hA.lt; have hB1 := hB.below hz1 hB.lt; have hO1 := hO.below hz1 hO.lt; have hF1 := za hF hz1; have hs1 := hz1.size; clear hA hB hO hF a0 a28 b0 b1 b28 laK lbK laV lbM cF)
     | (refine zi zad rfl (.tmp 25) _ rfl w.heap.size 11 rfl rfl (zD Hf0.out) (zar f0) hA1 (by rw [zP HlA.out]; decide) (zcb HlA.out Hf0.out) ?_; intro Y hAy hky; have hBy := hky.other hB1 (by omega); have hOy := hky.other hO1 (by omega); have hFy := hky.fr hF1 (by omega); clear hky hB1 hO1 hF1 hA1
        have laV := zcG hAy Hf0.out;have b28 := zbt hBy 28 (zdT HlB.out);have hYY := ze Y)
     | (go_at_call 130; refine (cP Y _ (by assumption)).mono ?_; rintro e w1 ⟨rfl, hz2⟩; have hB1 := hBy.below hz2 hBy.lt; have hO1 := hOy.below hz2 hOy.lt; have hF1 := za hFy hz2)
     | (refine zi zhP rfl (.tmp 31) _ rfl (w.heap.size + 1) 0 rfl rfl rfl (zdv _ rfl) hB1 (by rw [Hlb.out]; decide) ((zbl _ _ _ (by rw [Hlb.out]; decide)).trans (zkg b 1)) ?_; intro W2 hB2 hk2; have hO2 := hk2.other hO1 (by omega); have hF2 := hk2.fr hF1 (by omega); clear hk2)
     | (refine zi zad rfl (.tmp 32) _ rfl (w.heap.size + 1) 11 rfl rfl (zD Hv.out) (zar v) hB2 (by rw [zP (by exact HlB.out)]; decide) (zcb (by exact HlB.out) Hv.out) ?_; intro W3 hB3 hk3; have hO3 := hk3.other hO2 (by omega); have hF3 := hk3.fr hF2 (by omega); clear hk3)
     | (refine zi zeY rfl (.tmp 33) _ rfl (w.heap.size + 1) 28 rfl rfl rfl (zdv _ rfl) hB3 (by rw [zP (by exact Hv.out)]; decide) ((zbl _ _ _ (by rw [zP (by exact Hv.out)]; decide)).trans (zeQ (by exact Hv.out) 0)) ?_; intro W4 hB4 hk4; have hO4 := hk4.other hO3 (by omega); have hF4 := hk4.fr hF3 (by omega); clear hk4)
     | (refine zB za4 rfl (.tmp 3) rfl (w.heap.size + 1) rfl HlR.out hB4 ?_)
     | (refine zi (ds := mc { b with kind := 1, val := v, inc := 0 }) zX rfl (.tmp 4) (.tmp 40) rfl (w.heap.size + 1 + 1) 0 rfl rfl HlR.out (zay _) hO4 (by decide) (zk _ _ (by rw [HlR.out]; decide)) ?_; intro W5 hO5 hk5; have hF5 := hk5.fr hF4 (by omega); clear hk5)
     | fail)
    exact bodyPost_ret (za4.result rfl _ (w.heap.size + 1 + 1) rfl HlR.out hO5) rfl ⟨rfl, hF5⟩
   ·rw [ka] at a0
    rw [if_neg (by omega), if_neg (by omega)];have HlR := zb (zP (m := { b with inc := IntKind.u64.wrap (a.inc + b.inc) }) HlB.out);clear ka pa hk hk' h3 wa wb oa ob hib;go_enter Tryz.func128, Tryz.ntmps128
    go_wp2_with (first
     | (refine zi (ds := [.int .u64 (IntKind.u64.wrap (a.inc + b.inc))]) zeY rfl (.tmp 39) _ rfl (w.heap.size + 1) 28 rfl (by rw [Int.add_comm a.inc]; rfl) rfl (zdv _ rfl) hB (by rw [zP HlB.out]; decide) ((zbl _ _ _ (by rw [zP HlB.out]; decide)).trans (zeQ HlB.out _)) ?_; intro W4 hB4 hk4; have hO4 := hk4.other hO (by omega); have hF4 := hk4.fr hF (by omega); clear hk4)
     | (refine zB za4 rfl (.tmp 3) rfl (w.heap.size + 1) rfl HlR.out hB4 ?_)
     | (refine zi (ds := mc { b with inc := IntKind.u64.wrap (a.inc + b.inc) }) zX rfl (.tmp 4) (.tmp 40) rfl (w.heap.size + 1 + 1) 0 rfl rfl HlR.out (zay _) hO4 (by decide) (zk _ _ (by rw [HlR.out]; decide)) ?_; intro W5 hO5 hk5; have hF5 := hk5.fr hF4 (by omega); clear hk5)
     | fail)
    exact bodyPost_ret (za4.result rfl _ (w.heap.size + 1 + 1) rfl HlR.out hO5) rfl ⟨rfl, hF5⟩
  ·rw [if_pos (Or.inr hk)]
   have hk' : decide (a.key = b.key) = false := by simpa using hk
   rw [hk'] at hne;simp only [Bool.not_false] at hne;clear hk hk' h3 ka pa wa wb oa ob hib;go_enter Tryz.func128, Tryz.ntmps128
   go_wp2_with (first
    | (refine zi (ds := mc b) zX rfl (.tmp 4) (.tmp 15) rfl (w.heap.size + 1 + 1) 0 rfl rfl Hlb.out (zay b) hO (by decide) (zk _ _ (by rw [Hlb.out]; decide)) ?_; intro W2 hO2 hk2; have hF2 := hk2.fr hF (by omega); clear hk2)
    | fail)
   exact bodyPost_ret (za4.result rfl _ (w.heap.size + 1 + 1) rfl Hlb.out hO2) rfl ⟨rfl, hF2⟩
 ·rw [if_pos (Or.inl h3)]
  have h3' : (b.kind != 3) = true := by simpa using h3
  clear h3 ka pa wa wb oa ob hib;go_enter Tryz.func128, Tryz.ntmps128
  go_wp2_with (first
   | (refine zi (ds := mc b) zX rfl (.tmp 4) (.tmp 15) rfl (w.heap.size + 1 + 1) 0 rfl rfl Hlb.out (zay b) hO (by decide) (zk _ _ (by rw [Hlb.out]; decide)) ?_; intro W2 hO2 hk2; have hF2 := hk2.fr hF (by omega); clear hk2)
   | fail)
  exact bodyPost_ret (za4.result rfl _ (w.heap.size + 1 + 1) rfl Hlb.out hO2) rfl ⟨rfl, hF2⟩
end
section
attribute [local go_sem ↓] zae zt zw
theorem ziZ {W0 W : World} {n : Int} (hn : zeb n) (hb : Fr W0 W) : Calls Tryz.prog 43 #[.int .u64 n] W fun e w' => e = .returned (vv (zaO n)) ∧ Fr W0 w' := rfrom_at hn.1 hn.2 hb
set_option maxRecDepth 100000 in
set_option maxHeartbeats 4000000 in
theorem zkG (a b : RM) (wa : a.wf) (wb : b.wf) (oa : okM a = true) (ob : okM b = true) (w : World) : Calls Tryz.prog 69 #[mm a, mm b] w fun e w' => e = .returned (mm (za7 a b)) ∧ Fr w w' := by
 obtain ⟨Z, hZ, hF, hZZ, hA, hB, hO, hS⟩ := zin w a b wa.val.hl wb.val.hl;have a0 := zbt hA 0 (zhl a);have a28 := zbt hA 28 (zdT wa.val.hl);have b0 := zbt hB 0 (zhl b);have b1 := zbt hB 1 (mc_1 b);have b28 := zbt hB 28 (zdT wb.val.hl);have laK := zaN hA;have lbK := zaN hB;have laV := zcG hA wa.val.hl;have lbM := zbg hB wb.val.hl;have hne := zjI wa.key wb.key;obtain ⟨ka, -, pa, -, -⟩ := zbp oa;have hib := wb.hi;have Hlb := zb (zP wb.val.hl);have HlB := zb wb.val.hl;have HlA := zb wa.val.hl;unfold za7;obtain ⟨-, -, -, -, pb⟩ := zbp ob;have HlD := zb (zP (m := ⟨1, b.seq, b.key, zE, 0⟩) rfl);have HlE := zb (zP (m := ⟨3, b.seq, b.key, zE, 0⟩) rfl)
 by_cases h3 : b.kind = 3
 ·rw [h3] at b0
  by_cases hk : a.key = b.key
  ·rw [if_neg (by simp [h3, hk])]
   have hk' : decide (a.key = b.key) = true := by simpa using hk
   rw [hk'] at hne;simp only [Bool.not_true] at hne
   rcases ka with ka | ka | ka
   ·rw [ka] at a0
    rw [if_pos ka];have cP := fun W0 W h => zli (W0 := W0) (W := W) wa.val b.inc h;have wv := (zaR (IntKind.u64.wrap (zfF a.val + b.inc)));have ev : zbJ a.val b.inc = zaO (IntKind.u64.wrap (zfF a.val + b.inc)) := rfl;rw [← ev] at wv;have Hv := zb wv.hl;generalize zbJ a.val b.inc = v at *;clear ka pa hk hk' h3 ev wv wa wb oa ob hib pb;have HlR := zb (zP (m := ⟨1, b.seq, b.key, v, 0⟩) Hv.out);go_enter Tryz.func69, Tryz.ntmps69
    go_wp2_with (first
     | (refine zi (ds := mc ⟨1, b.seq, b.key, zE, 0⟩) zX rfl (.tmp 5) (.tmp 21) rfl (w.heap.size + 1 + 1 + 1) 0 rfl rfl HlD.out (zay _) (zbr Z (mc za0).toArray 64 _ hS) (by decide) (zk _ _ (by rw [HlD.out]; decide)) ?_; intro Y hD hky
        have hOy := hky.other (hO.alloc _) (by omega);have hzY := hky.fr (zf hZZ _) (by omega);have hYY := ze Y;clear hky)
     | (go_at_call 44; refine (cP Y _ (by assumption)).mono ?_; rintro e w1 ⟨rfl, hz1⟩; have hD1 := hD.below hz1 hD.lt; have hO1 := hOy.below hz1 hOy.lt; have hF1 := za (za hF hzY) hz1)
     | (refine zi zad rfl (.tmp 38) _ rfl (w.heap.size + 1 + 1 + 1) 11 rfl rfl (zD Hv.out) (zar v) hD1 (by rw [HlD.out]; decide) (zcb (m := ⟨1, b.seq, b.key, zE, 0⟩) rfl Hv.out) ?_; intro W3 hB3 hk3; have hO3 := hk3.other hO1 (by omega); have hF3 := hk3.fr hF1 (by omega); clear hk3)
     | (refine zB za4 rfl (.tmp 5) rfl (w.heap.size + 1 + 1 + 1) rfl HlR.out hB3 ?_)
     | (refine zi (ds := mc ⟨1, b.seq, b.key, v, 0⟩) zX rfl (.tmp 4) (.tmp 45) rfl (w.heap.size + 1 + 1) 0 rfl rfl HlR.out (zay _) hO3 (by decide) (zk _ _ (by rw [HlR.out]; decide)) ?_; intro W5 hO5 hk5; have hF5 := hk5.fr hF3 (by omega); clear hk5)
     | fail)
    exact bodyPost_ret (za4.result rfl _ (w.heap.size + 1 + 1) rfl HlR.out hO5) rfl ⟨rfl, hF5⟩
   ·rw [ka] at a0
    rw [if_neg (by omega), if_pos ka];have cP := fun W0 W h => ziZ (W0 := W0) (W := W) hib h;have Hv := zb (zaR b.inc).hl;generalize zaO b.inc = v at *;clear ka pa hk hk' h3 wa wb oa ob hib pb;have HlR := zb (zP (m := ⟨1, b.seq, b.key, v, 0⟩) Hv.out);go_enter Tryz.func69, Tryz.ntmps69
    go_wp2_with (first
     | (refine zi (ds := mc ⟨1, b.seq, b.key, zE, 0⟩) zX rfl (.tmp 5) (.tmp 21) rfl (w.heap.size + 1 + 1 + 1) 0 rfl rfl HlD.out (zay _) (zbr Z (mc za0).toArray 64 _ hS) (by decide) (zk _ _ (by rw [HlD.out]; decide)) ?_; intro Y hD hky
        have hOy := hky.other (hO.alloc _) (by omega);have hzY := hky.fr (zf hZZ _) (by omega);have hYY := ze Y;clear hky)
     | (go_at_call 43; refine (cP Y _ (by assumption)).mono ?_; rintro e w1 ⟨rfl, hz1⟩; have hD1 := hD.below hz1 hD.lt; have hO1 := hOy.below hz1 hOy.lt; have hF1 := za (za hF hzY) hz1)
     | (refine zi zad rfl (.tmp 44) _ rfl (w.heap.size + 1 + 1 + 1) 11 rfl rfl (zD Hv.out) (zar v) hD1 (by rw [HlD.out]; decide) (zcb (m := ⟨1, b.seq, b.key, zE, 0⟩) rfl Hv.out) ?_; intro W3 hB3 hk3; have hO3 := hk3.other hO1 (by omega); have hF3 := hk3.fr hF1 (by omega); clear hk3)
     | (refine zB za4 rfl (.tmp 5) rfl (w.heap.size + 1 + 1 + 1) rfl HlR.out hB3 ?_)
     | (refine zi (ds := mc ⟨1, b.seq, b.key, v, 0⟩) zX rfl (.tmp 4) (.tmp 45) rfl (w.heap.size + 1 + 1) 0 rfl rfl HlR.out (zay _) hO3 (by decide) (zk _ _ (by rw [HlR.out]; decide)) ?_; intro W5 hO5 hk5; have hF5 := hk5.fr hF3 (by omega); clear hk5)
     | fail)
    exact bodyPost_ret (za4.result rfl _ (w.heap.size + 1 + 1) rfl HlR.out hO5) rfl ⟨rfl, hF5⟩
   ·rw [ka] at a0
    rw [if_neg (by omega), if_neg (by omega)];have eR : { b with inc := IntKind.u64.wrap (a.inc + b.inc) } = (⟨3, b.seq, b.key, zE, IntKind.u64.wrap (a.inc + b.inc)⟩ : RM) := by rw [h3, pb (by omega)]
    rw [eR];have HlR := zb (zP (m := ⟨3, b.seq, b.key, zE, IntKind.u64.wrap (a.inc + b.inc)⟩) rfl);have y28 := fun (Y : World) (g : Nat) (h : Arr Y g 64 (mc ⟨1, b.seq, b.key, zE, 0⟩).toArray) => h;clear ka pa hk hk' h3 wa wb oa ob hib pb eR;go_enter Tryz.func69, Tryz.ntmps69
    go_wp2_with (first
     | (refine zi (ds := mc ⟨1, b.seq, b.key, zE, 0⟩) zX rfl (.tmp 5) (.tmp 21) rfl (w.heap.size + 1 + 1 + 1) 0 rfl rfl HlD.out (zay _) (zbr Z (mc za0).toArray 64 _ hS) (by decide) (zk _ _ (by rw [HlD.out]; decide)) ?_; intro Y hD hky
        have hOy := hky.other (hO.alloc _) (by omega);have hzY := hky.fr (zf hZZ _) (by omega);have hYY := ze Y;clear hky)
     | (refine zi zhP rfl (.tmp 24) _ rfl (w.heap.size + 1 + 1 + 1) 0 rfl rfl rfl (zdv _ rfl) hD (by rw [HlD.out]; decide) ((zbl _ _ _ (by rw [HlD.out]; decide)).trans (zkg ⟨1, b.seq, b.key, zE, 0⟩ 3)) ?_; intro W3 hD3 hk3
        have hO3 := hk3.other hOy (by omega);have hA3 := hk3.other (hA.below hzY hA.lt) (by omega);have hB3 := hk3.other (hB.below hzY hB.lt) (by omega);have hF3 := hk3.fr (za hF hzY) (by omega);have hW3 := ze W3;have c28 := zbt hA3 28 (zdT HlA.out);have d28 := zbt hB3 28 (zdT HlB.out);clear hk3)
     | (refine zi zeY rfl (.tmp 30) _ rfl (w.heap.size + 1 + 1 + 1) 28 rfl rfl rfl (zdv _ rfl) hD3 (by rw [HlE.out]; decide) ((zbl _ _ _ (by rw [HlE.out]; decide)).trans (zeQ (m := ⟨3, b.seq, b.key, zE, 0⟩) rfl _)) ?_; intro W4 hB4 hk4; have hO4 := hk4.other hO3 (by omega); have hF4 := hk4.fr hF3 (by omega); clear hk4)
     | (refine zB za4 rfl (.tmp 5) rfl (w.heap.size + 1 + 1 + 1) rfl HlR.out hB4 ?_)
     | (refine zi (ds := mc ⟨3, b.seq, b.key, zE, IntKind.u64.wrap (a.inc + b.inc)⟩) zX rfl (.tmp 4) (.tmp 45) rfl (w.heap.size + 1 + 1) 0 rfl rfl HlR.out (zay _) hO4 (by decide) (zk _ _ (by rw [HlR.out]; decide)) ?_; intro W5 hO5 hk5; have hF5 := hk5.fr hF4 (by omega); clear hk5)
     | fail)
    exact bodyPost_ret (za4.result rfl _ (w.heap.size + 1 + 1) rfl HlR.out hO5) rfl ⟨rfl, hF5⟩
  ·rw [if_pos (Or.inr hk)]
   have hk' : decide (a.key = b.key) = false := by simpa using hk
   rw [hk'] at hne;simp only [Bool.not_false] at hne;clear hk hk' h3 ka pa wa wb oa ob hib pb;go_enter Tryz.func69, Tryz.ntmps69
   go_wp2_with (first
    | (refine zi (ds := mc b) zX rfl (.tmp 4) (.tmp 16) rfl (w.heap.size + 1 + 1) 0 rfl rfl Hlb.out (zay b) hO (by decide) (zk _ _ (by rw [Hlb.out]; decide)) ?_; intro W2 hO2 hk2; have hF2 := hk2.fr hF (by omega); clear hk2)
    | fail)
   exact bodyPost_ret (za4.result rfl _ (w.heap.size + 1 + 1) rfl Hlb.out hO2) rfl ⟨rfl, hF2⟩
 ·rw [if_pos (Or.inl h3)]
  have h3' : (b.kind != 3) = true := by simpa using h3
  clear h3 ka pa wa wb oa ob hib pb;go_enter Tryz.func69, Tryz.ntmps69
  go_wp2_with (first
   | (refine zi (ds := mc b) zX rfl (.tmp 4) (.tmp 16) rfl (w.heap.size + 1 + 1) 0 rfl rfl Hlb.out (zay b) hO (by decide) (zk _ _ (by rw [Hlb.out]; decide)) ?_; intro W2 hO2 hk2; have hF2 := hk2.fr hF (by omega); clear hk2)
   | fail)
  exact bodyPost_ret (za4.result rfl _ (w.heap.size + 1 + 1) rfl Hlb.out hO2) rfl ⟨rfl, hF2⟩
end
section
attribute [local go_sem ↓] zae zt zw
def zbx (v : RV) (there : Bool) (m : RM) : RV := if m.kind = 1 then m.val else if m.kind = 2 then zE else if there = true then zbJ v m.inc else zaO m.inc
def zcy (m : RM) : Bool := decide (m.kind ≠ 2)
theorem ziX (w : World) (v : RV) (m : RM) (hm : m.val.bs.length = 16) : ∃ Z, ((w.alloc (.cells (vc v).toArray 37)).alloc (.cells (mc m).toArray 64)).alloc (.cells #[.int .i64 0, .int .u8 0, .int .u8 0, .int .u8 0, .int .u8 0, .int .u8 0, .int .u8 0, .int .u8 0, .int .u8 0, .int .u8 0, .int .u8 0, .int .u8 0, .int .u8 0, .int .u8 0, .int .u8 0, .int .u8 0, .int .u8 0] 37) = Z ∧ Fr w Z ∧ Fr Z Z ∧
 Arr Z w.heap.size 37 (vc v).toArray ∧ Arr Z (w.heap.size + 1) 64 (mc m).toArray ∧ Arr Z (w.heap.size + 1 + 1) 37 (vc zE).toArray ∧ Z.heap.size = w.heap.size + 1 + 1 + 1 := by
 refine ⟨_, rfl, zf (zf (zf (ze w) _) _) _, ze _, Arr.alloc (Arr.alloc (Arr.new w _ _) _) _, Arr.alloc (zbr _ _ _ _ (by simp)) _, zbr _ _ _ _ (by simp), by simp⟩
set_option maxRecDepth 100000 in
set_option maxHeartbeats 4000000 in
theorem zob (v : RV) (there : Bool) (m : RM) (wv : v.wf) (ov : there = true → okV v = true) (wm : m.wf) (om : okM m = true) (w : World) : Calls Tryz.prog 25 #[vv v, .bool there, mm m] w fun e w' => e = .returned (.tuple #[vv (zbx v there m), .bool (zcy m)]) ∧ Fr w w' := by
 obtain ⟨Z, hZ, hF, hZZ, hV, hM, hO, hS⟩ := ziX w v m wm.val.hl;have m0 := zbt hM 0 (zhl m);have m28 := zbt hM 28 (zdT wm.val.hl);have lmV := zcG hM wm.val.hl;have lv := zee hV (zD wv.hl);have him := wm.hi;have HlM := zb wm.val.hl;have HlV := zb wv.hl;obtain ⟨km, -, -, -, -⟩ := zbp om;unfold zbx zcy
 rcases km with km | km | km
 ·rw [if_pos km, show decide (m.kind ≠ 2) = true by simp; omega]
  rw [km] at m0;clear km wm om wv ov him;go_enter Tryz.func25, Tryz.ntmps25
  go_wp2_with (first
   | (refine zi (ds := vc m.val) zad rfl (.tmp 6) (.tmp 13) rfl (w.heap.size + 1 + 1) 0 rfl rfl (zD HlM.out) (zar _) hO (by decide) (zk _ _ (by rw [zD HlM.out]; decide)) ?_; intro W5 hO5 hk5; have hF5 := hk5.fr hF (by omega); clear hk5)
   | fail)
  exact bodyPost_ret (zbs.result2 rfl _ (w.heap.size + 1 + 1) rfl (zD HlM.out) hO5) rfl ⟨rfl, hF5⟩
 ·rw [if_neg (by omega), if_pos km, show decide (m.kind ≠ 2) = false by simp; omega]
  rw [km] at m0;clear km wm om wv ov him;go_enter Tryz.func25, Tryz.ntmps25
  go_wp2_with (first
   | (refine zi (ds := vc zE) zad rfl (.tmp 6) (.tmp 16) rfl (w.heap.size + 1 + 1) 0 rfl rfl rfl (zar _) hO (by decide) (zk _ _ (by decide)) ?_; intro W5 hO5 hk5; have hF5 := hk5.fr hF (by omega); clear hk5)
   | fail)
  exact bodyPost_ret (zbs.result2 rfl _ (w.heap.size + 1 + 1) rfl rfl hO5) rfl ⟨rfl, hF5⟩
 ·rw [if_neg (by omega), if_neg (by omega), show decide (m.kind ≠ 2) = true by simp; omega]
  rw [km] at m0
  cases there
  ·rw [if_neg (by decide)]
   have cP := fun W0 W h => ziZ (W0 := W0) (W := W) him h;have Hr := zb (zaR m.inc).hl;generalize zaO m.inc = r at *;clear km wm om wv ov him;go_enter Tryz.func25, Tryz.ntmps25
   go_wp2_with (first
    | (go_at_call 43; refine (cP Z _ (by assumption)).mono ?_; rintro e w2 ⟨rfl, hz2⟩; have hO2 := hO.below hz2 hO.lt; have hF2 := za hF hz2; clear hV hM hO hF m28 lv cP)
    | (refine zi (ds := vc r) zad rfl (.tmp 6) (.tmp 21) rfl (w.heap.size + 1 + 1) 0 rfl rfl (zD Hr.out) (zar _) hO2 (by decide) (zk _ _ (by rw [zD Hr.out]; decide)) ?_; intro W5 hO5 hk5; have hF5 := hk5.fr hF2 (by omega); clear hk5)
    | fail)
   exact bodyPost_ret (zbs.result2 rfl _ (w.heap.size + 1 + 1) rfl (zD Hr.out) hO5) rfl ⟨rfl, hF5⟩
  ·rw [if_pos rfl]
   have cP := fun W0 W h => zli (W0 := W0) (W := W) wv m.inc h;have Hr := zb (show (zbJ v m.inc).bs.length = 16 from (zaR _).hl);generalize zbJ v m.inc = r at *;clear km wm om wv ov him;go_enter Tryz.func25, Tryz.ntmps25
   go_wp2_with (first
    | (go_at_call 44; refine (cP Z _ (by assumption)).mono ?_; rintro e w2 ⟨rfl, hz2⟩; have hO2 := hO.below hz2 hO.lt; have hF2 := za hF hz2; clear hV hM hO hF m28 lv cP)
    | (refine zi (ds := vc r) zad rfl (.tmp 6) (.tmp 25) rfl (w.heap.size + 1 + 1) 0 rfl rfl (zD Hr.out) (zar _) hO2 (by decide) (zk _ _ (by rw [zD Hr.out]; decide)) ?_; intro W5 hO5 hk5; have hF5 := hk5.fr hF2 (by omega); clear hk5)
    | fail)
   exact bodyPost_ret (zbs.result2 rfl _ (w.heap.size + 1 + 1) rfl (zD Hr.out) hO5) rfl ⟨rfl, hF5⟩
end
end Go.Proofs.YtmjjjdikpnhpiaaGreat
