/- What the functions of the laws' package 00 come to: a place, a key, a value, a message by a number. -/
import Derived.Test.YtmjjjdikpnhpiaaGreatMsgB
import Derived.Laws.MakeOwn
namespace Go.Proofs.YtmjjjdikpnhpiaaGreat
set_option linter.unusedVariables false
set_option linter.unusedSimpArgs false
set_option maxRecDepth 100000
open Go.RowKit
section
attribute [local go_sem ↓] zae zt zw
theorem zjz (v : Int) (n : Nat) : v % (n : Int) = (v.tmod n) % n := by
 conv => lhs; rw [← Int.mul_tdiv_add_tmod v n]
 exact Int.mul_add_emod_self_left _ _ _
set_option maxRecDepth 100000 in
set_option maxHeartbeats 1000000 in
theorem zgS (v : Int) (n : Nat) (hv : zal v) (hn : 0 < n) (hn2 : (n : Int) ≤ 1099511627776) (w : World) : Calls Tryz.prog 6 #[.int .i64 v, .int .i64 n] w fun e w' => e = .returned (.int .i64 (v % n)) ∧ Fr w w' := by
 have he := zjz v n;unfold zal at hv;have hn0 : ((n : Int) == 0) = false := by simp; omega
 rcases zl6 v n (by omega) with ⟨k, e, h1, h2⟩ | ⟨k, e, h2⟩
 ·rw [e] at he
  have hr : v % (n : Int) = -(k : Int) + n := by
   rw [he, ← Int.add_emod_right, Int.emod_eq_of_lt (by omega) (by omega)]
  rw [hr];clear he hr;go_enter Tryz.func6, Tryz.ntmps6;go_wp2_with fail;go_ret;exact ⟨rfl, ze w⟩
 ·rw [e, Int.emod_eq_of_lt (a := (k : Int)) (by omega) (by omega)] at he
  rw [he];clear he;go_enter Tryz.func6, Tryz.ntmps6;go_wp2_with fail;go_ret;exact ⟨rfl, ze w⟩
def pl (v : Int) : Nat := (v % 1099511627776).toNat
theorem zdC (v : Int) : pl v < 1099511627776 := by unfold pl; omega
theorem zdg {W0 W : World} {v : Int} (hv : zal v) (hb : Fr W0 W) : Calls Tryz.prog 6 #[.int .i64 v, .int .i64 1099511627776] W fun e w' => e = .returned (.int .i64 (pl v : Nat)) ∧ Fr W0 w' :=
 (zgS v 1099511627776 hv (by decide) (by decide) W).mono fun _ _ ⟨he, hw⟩ => ⟨by rw [he]; exact zbM (by unfold pl; omega), za hb hw⟩
def zcE (K : Nat) : List Int :=
 if K % 8 ≤ 2 then [97 + ((K / 8 % 6 : Nat) : Int)]
 else if K % 8 ≤ 4 then [97 + ((K / 8 % 5 : Nat) : Int), 97 + ((K / 40 % 4 : Nat) : Int)]
 else if K % 8 = 5 then [97 + ((K / 8 % 4 : Nat) : Int), 0, ((K / 32 % 256 : Nat) : Int), ((K / 8192 % 4 : Nat) : Int), 255, 120, 121, 97 + ((K / 32768 % 3 : Nat) : Int)]
 else if K % 8 = 6 then [98 + ((K / 8 % 3 : Nat) : Int), 108, 111, 110, 103, 101, 114, 48 + ((K / 24 % 9 : Nat) : Int)]
 else [((K / 8 % 256 : Nat) : Int), ((K / 2048 % 256 : Nat) : Int)].take (K / 524288 % 3)
theorem zot (K : Nat) : (zcE K).length ≤ 8 := by
 unfold zcE
 split
 ·simp
 ·split
  ·simp
  ·split
   ·simp
   ·split
    ·simp
    ·simp; omega
def zbL (v : Int) : RK := ofS (strOfNums (zcE (pl v)))
theorem zbQ (K : Nat) : (strOfNums (zcE K)).size ≤ 8 := by rw [zfP]; exact zot K
theorem zfj (v : Int) : (zbL v).wf := ofS_wf _ (zbQ _)
theorem zhz (v : Int) : okB (zbL v) = true := ofS_ok _ (zbQ _)
theorem zbO {W : World} {g n c : Nat} {zs : List Int} (hl : zs.length = n) (ha : Arr W g 5 (u8s zs).toArray) : (convert 58 9 (.slice (some ⟨g, 0, none⟩) n c)).run Tryz.prog W = .ok (.string (strOfNums zs)) W :=
 run_convert_bytes_arg W 58 5 Tryz.underlying58 Tryz.underlying5 g 0 n c zs hl (fun i hi => by
  rw [Nat.zero_add, ha.cell];have h : i < zs.length := by omega
  simp [u8s, h]) 9 Tryz.underlying9
theorem zH : (kc zr).toArray = #[.int .i64 0, .int .u8 0, .int .u8 0, .int .u8 0, .int .u8 0, .int .u8 0, .int .u8 0, .int .u8 0, .int .u8 0] := rfl
set_option maxRecDepth 100000 in
set_option maxHeartbeats 4000000 in
theorem znz (v : Int) (hv : zal v) (hr : pl v % 8 = 0) (w : World) : Calls Tryz.prog 8 #[.int .i64 v] w fun e w' => e = .returned (kv (zbL v)) ∧ Fr w w' := by
 have cP := fun W0 W h => zdg (W0 := W0) (W := W) hv h;have hO := zbK _ (zbQ (pl v));have hKB : zcE (pl v) = [97 + ((pl v / 8 % 6 : Nat) : Int)] := by simp [zcE, hr]
 have cO := fun (W : World) => hO W;unfold zbL;have hlt := zdC v;generalize pl v = K at *;rw [hKB] at cO ⊢
 have hr' : (K : Int).tmod 8 = 0 := by
  have h : (K : Int).tmod 8 = ((K % 8 : Nat) : Int) := rfl;rw [h, hr]; rfl
 have q1 : (K : Int).tdiv 8 = ((K / 8 : Nat) : Int) := rfl;have m1 : ((K / 8 : Nat) : Int).tmod 6 = ((K / 8 % 6 : Nat) : Int) := rfl;have b1 : K / 8 % 6 < 6 := Nat.mod_lt _ (by decide);clear hO hKB hr;generalize K / 8 % 6 = y1 at *;have u1 : (97 + (y1 : Int)) % 256 = 97 + (y1 : Int) := by omega
 have g1 : K / 8 < 1099511627776 := by omega
 generalize K / 8 = x1 at *;obtain ⟨Z, hZ, hZO, hZF⟩ : ∃ Z, w.alloc (.cells #[.int .i64 0, .int .u8 0, .int .u8 0, .int .u8 0, .int .u8 0, .int .u8 0, .int .u8 0, .int .u8 0, .int .u8 0] 33) = Z ∧ Arr Z w.heap.size 33 (kc zr).toArray ∧ Fr w Z := ⟨_, rfl, Arr.new w _ _, zf (ze w) _⟩;have hZZ := ze Z;have hcv := fun (W : World) => zbO (W := W.alloc (.cells #[.int .u8 (97 + (y1 : Int))] 5)) (g := W.heap.size) (n := 1) (c := 1) (zs := [97 + (y1 : Int)]) rfl (Arr.new W _ _);generalize strOfNums [97 + (y1 : Int)] = T at *;generalize ofS T = k at *;go_enter Tryz.func8, Tryz.ntmps8
 go_wp2_with (first
  | (go_at_call 6; refine (cP Z _ hZZ).mono ?_; rintro e w1 ⟨rfl, hz1⟩
     have hOw := (hZO.below hz1 hZO.lt).alloc (.cells #[.int .u8 (97 + (y1 : Int))] 5);have hFw := zf (za hZF hz1) (.cells #[.int .u8 (97 + (y1 : Int))] 5))
  | (go_at_call 22; refine (cO _).mono ?_; rintro e w2 ⟨rfl, hz2⟩
     have hZ2 : Arr w2 w.heap.size 33 (kc zr).toArray := hOw.below hz2 hOw.lt;have hF2 := za hFw hz2;clear hOw hFw)
  | (refine zi (ds := kc k) zC rfl (.tmp 5) (.tmp 90) rfl w2.heap.size 0 rfl rfl (zl k) (zU _) (Arr.new w2 (kc zr).toArray 33) (by rw [zl]; decide) (zk _ _ (by rw [zl, zl]; decide)) ?_; intro X h3 hkx
     have h4 := hkx.other (hZ2.alloc _) (by have := hZ2.lt; omega);have hF3 := hkx.fr (zf hF2 _) hF2.size;clear hkx hZ2 hF2)
  | (refine zB zaf rfl (.tmp 5) rfl w2.heap.size rfl (zl k) h3 ?_)
  | (refine zi (ds := kc k) zC rfl (.tmp 2) (.tmp 92) rfl w.heap.size 0 rfl rfl (zl k) (zU _) h4 (by rw [zl]; decide) (zk _ _ (by rw [zl, zl]; decide)) ?_; intro W5 hO5 hk5; have hF5 := hk5.fr hF3 (by omega); clear hk5)
  | fail)
 exact bodyPost_ret (zaf.result rfl _ w.heap.size rfl (zl k) hO5) rfl ⟨rfl, hF5⟩
set_option maxRecDepth 100000 in
set_option maxHeartbeats 4000000 in
theorem zoy (v : Int) (hv : zal v) (hr : pl v % 8 = 1) (w : World) : Calls Tryz.prog 8 #[.int .i64 v] w fun e w' => e = .returned (kv (zbL v)) ∧ Fr w w' := by
 have cP := fun W0 W h => zdg (W0 := W0) (W := W) hv h;have hO := zbK _ (zbQ (pl v));have hKB : zcE (pl v) = [97 + ((pl v / 8 % 6 : Nat) : Int)] := by simp [zcE, hr]
 have cO := fun (W : World) => hO W;unfold zbL;have hlt := zdC v;generalize pl v = K at *;rw [hKB] at cO ⊢
 have hr' : (K : Int).tmod 8 = 1 := by
  have h : (K : Int).tmod 8 = ((K % 8 : Nat) : Int) := rfl;rw [h, hr]; rfl
 have q1 : (K : Int).tdiv 8 = ((K / 8 : Nat) : Int) := rfl;have m1 : ((K / 8 : Nat) : Int).tmod 6 = ((K / 8 % 6 : Nat) : Int) := rfl;have b1 : K / 8 % 6 < 6 := Nat.mod_lt _ (by decide);clear hO hKB hr;generalize K / 8 % 6 = y1 at *;have u1 : (97 + (y1 : Int)) % 256 = 97 + (y1 : Int) := by omega
 have g1 : K / 8 < 1099511627776 := by omega
 generalize K / 8 = x1 at *;obtain ⟨Z, hZ, hZO, hZF⟩ : ∃ Z, w.alloc (.cells #[.int .i64 0, .int .u8 0, .int .u8 0, .int .u8 0, .int .u8 0, .int .u8 0, .int .u8 0, .int .u8 0, .int .u8 0] 33) = Z ∧ Arr Z w.heap.size 33 (kc zr).toArray ∧ Fr w Z := ⟨_, rfl, Arr.new w _ _, zf (ze w) _⟩;have hZZ := ze Z;have hcv := fun (W : World) => zbO (W := W.alloc (.cells #[.int .u8 (97 + (y1 : Int))] 5)) (g := W.heap.size) (n := 1) (c := 1) (zs := [97 + (y1 : Int)]) rfl (Arr.new W _ _);generalize strOfNums [97 + (y1 : Int)] = T at *;generalize ofS T = k at *;go_enter Tryz.func8, Tryz.ntmps8
 go_wp2_with (first
  | (go_at_call 6; refine (cP Z _ hZZ).mono ?_; rintro e w1 ⟨rfl, hz1⟩
     have hOw := (hZO.below hz1 hZO.lt).alloc (.cells #[.int .u8 (97 + (y1 : Int))] 5);have hFw := zf (za hZF hz1) (.cells #[.int .u8 (97 + (y1 : Int))] 5))
  | (go_at_call 22; refine (cO _).mono ?_; rintro e w2 ⟨rfl, hz2⟩
     have hZ2 : Arr w2 w.heap.size 33 (kc zr).toArray := hOw.below hz2 hOw.lt;have hF2 := za hFw hz2;clear hOw hFw)
  | (refine zi (ds := kc k) zC rfl (.tmp 5) (.tmp 90) rfl w2.heap.size 0 rfl rfl (zl k) (zU _) (Arr.new w2 (kc zr).toArray 33) (by rw [zl]; decide) (zk _ _ (by rw [zl, zl]; decide)) ?_; intro X h3 hkx
     have h4 := hkx.other (hZ2.alloc _) (by have := hZ2.lt; omega);have hF3 := hkx.fr (zf hF2 _) hF2.size;clear hkx hZ2 hF2)
  | (refine zB zaf rfl (.tmp 5) rfl w2.heap.size rfl (zl k) h3 ?_)
  | (refine zi (ds := kc k) zC rfl (.tmp 2) (.tmp 92) rfl w.heap.size 0 rfl rfl (zl k) (zU _) h4 (by rw [zl]; decide) (zk _ _ (by rw [zl, zl]; decide)) ?_; intro W5 hO5 hk5; have hF5 := hk5.fr hF3 (by omega); clear hk5)
  | fail)
 exact bodyPost_ret (zaf.result rfl _ w.heap.size rfl (zl k) hO5) rfl ⟨rfl, hF5⟩
set_option maxRecDepth 100000 in
set_option maxHeartbeats 4000000 in
theorem znR (v : Int) (hv : zal v) (hr : pl v % 8 = 2) (w : World) : Calls Tryz.prog 8 #[.int .i64 v] w fun e w' => e = .returned (kv (zbL v)) ∧ Fr w w' := by
 have cP := fun W0 W h => zdg (W0 := W0) (W := W) hv h;have hO := zbK _ (zbQ (pl v));have hKB : zcE (pl v) = [97 + ((pl v / 8 % 6 : Nat) : Int)] := by simp [zcE, hr]
 have cO := fun (W : World) => hO W;unfold zbL;have hlt := zdC v;generalize pl v = K at *;rw [hKB] at cO ⊢
 have hr' : (K : Int).tmod 8 = 2 := by
  have h : (K : Int).tmod 8 = ((K % 8 : Nat) : Int) := rfl;rw [h, hr]; rfl
 have q1 : (K : Int).tdiv 8 = ((K / 8 : Nat) : Int) := rfl;have m1 : ((K / 8 : Nat) : Int).tmod 6 = ((K / 8 % 6 : Nat) : Int) := rfl;have b1 : K / 8 % 6 < 6 := Nat.mod_lt _ (by decide);clear hO hKB hr;generalize K / 8 % 6 = y1 at *;have u1 : (97 + (y1 : Int)) % 256 = 97 + (y1 : Int) := by omega
 have g1 : K / 8 < 1099511627776 := by omega
 generalize K / 8 = x1 at *;obtain ⟨Z, hZ, hZO, hZF⟩ : ∃ Z, w.alloc (.cells #[.int .i64 0, .int .u8 0, .int .u8 0, .int .u8 0, .int .u8 0, .int .u8 0, .int .u8 0, .int .u8 0, .int .u8 0] 33) = Z ∧ Arr Z w.heap.size 33 (kc zr).toArray ∧ Fr w Z := ⟨_, rfl, Arr.new w _ _, zf (ze w) _⟩;have hZZ := ze Z;have hcv := fun (W : World) => zbO (W := W.alloc (.cells #[.int .u8 (97 + (y1 : Int))] 5)) (g := W.heap.size) (n := 1) (c := 1) (zs := [97 + (y1 : Int)]) rfl (Arr.new W _ _);generalize strOfNums [97 + (y1 : Int)] = T at *;generalize ofS T = k at *;go_enter Tryz.func8, Tryz.ntmps8
 go_wp2_with (first
  | (go_at_call 6; refine (cP Z _ hZZ).mono ?_; rintro e w1 ⟨rfl, hz1⟩
     have hOw := (hZO.below hz1 hZO.lt).alloc (.cells #[.int .u8 (97 + (y1 : Int))] 5);have hFw := zf (za hZF hz1) (.cells #[.int .u8 (97 + (y1 : Int))] 5))
  | (go_at_call 22; refine (cO _).mono ?_; rintro e w2 ⟨rfl, hz2⟩
     have hZ2 : Arr w2 w.heap.size 33 (kc zr).toArray := hOw.below hz2 hOw.lt;have hF2 := za hFw hz2;clear hOw hFw)
  | (refine zi (ds := kc k) zC rfl (.tmp 5) (.tmp 90) rfl w2.heap.size 0 rfl rfl (zl k) (zU _) (Arr.new w2 (kc zr).toArray 33) (by rw [zl]; decide) (zk _ _ (by rw [zl, zl]; decide)) ?_; intro X h3 hkx
     have h4 := hkx.other (hZ2.alloc _) (by have := hZ2.lt; omega);have hF3 := hkx.fr (zf hF2 _) hF2.size;clear hkx hZ2 hF2)
  | (refine zB zaf rfl (.tmp 5) rfl w2.heap.size rfl (zl k) h3 ?_)
  | (refine zi (ds := kc k) zC rfl (.tmp 2) (.tmp 92) rfl w.heap.size 0 rfl rfl (zl k) (zU _) h4 (by rw [zl]; decide) (zk _ _ (by rw [zl, zl]; decide)) ?_; intro W5 hO5 hk5; have hF5 := hk5.fr hF3 (by omega); clear hk5)
  | fail)
 exact bodyPost_ret (zaf.result rfl _ w.heap.size rfl (zl k) hO5) rfl ⟨rfl, hF5⟩
set_option maxRecDepth 100000 in
set_option maxHeartbeats 4000000 in
theorem zoi (v : Int) (hv : zal v) (hr : pl v % 8 = 3) (w : World) : Calls Tryz.prog 8 #[.int .i64 v] w fun e w' => e = .returned (kv (zbL v)) ∧ Fr w w' := by
 have cP := fun W0 W h => zdg (W0 := W0) (W := W) hv h;have hO := zbK _ (zbQ (pl v));have hKB : zcE (pl v) = [97 + ((pl v / 8 % 5 : Nat) : Int), 97 + ((pl v / 40 % 4 : Nat) : Int)] := by simp [zcE, hr]
 have cO := fun (W : World) => hO W;unfold zbL;have hlt := zdC v;generalize pl v = K at *;rw [hKB] at cO ⊢
 have hr' : (K : Int).tmod 8 = 3 := by
  have h : (K : Int).tmod 8 = ((K % 8 : Nat) : Int) := rfl;rw [h, hr]; rfl
 have q1 : (K : Int).tdiv 8 = ((K / 8 : Nat) : Int) := rfl;have m1 : ((K / 8 : Nat) : Int).tmod 5 = ((K / 8 % 5 : Nat) : Int) := rfl;have b1 : K / 8 % 5 < 5 := Nat.mod_lt _ (by decide);have q2 : (K : Int).tdiv 40 = ((K / 40 : Nat) : Int) := rfl;have m2 : ((K / 40 : Nat) : Int).tmod 4 = ((K / 40 % 4 : Nat) : Int) := rfl;have b2 : K / 40 % 4 < 4 := Nat.mod_lt _ (by decide);clear hO hKB hr;generalize K / 8 % 5 = y1 at *;have u1 : (97 + (y1 : Int)) % 256 = 97 + (y1 : Int) := by omega
 generalize K / 40 % 4 = y2 at *;have u2 : (97 + (y2 : Int)) % 256 = 97 + (y2 : Int) := by omega
 have g1 : K / 8 < 1099511627776 := by omega
 generalize K / 8 = x1 at *;have g2 : K / 40 < 1099511627776 := by omega
 generalize K / 40 = x2 at *;obtain ⟨Z, hZ, hZO, hZF⟩ : ∃ Z, w.alloc (.cells #[.int .i64 0, .int .u8 0, .int .u8 0, .int .u8 0, .int .u8 0, .int .u8 0, .int .u8 0, .int .u8 0, .int .u8 0] 33) = Z ∧ Arr Z w.heap.size 33 (kc zr).toArray ∧ Fr w Z := ⟨_, rfl, Arr.new w _ _, zf (ze w) _⟩;have hZZ := ze Z;have hcv := fun (W : World) => zbO (W := W.alloc (.cells #[.int .u8 (97 + (y1 : Int)), .int .u8 (97 + (y2 : Int))] 5)) (g := W.heap.size) (n := 2) (c := 2) (zs := [97 + (y1 : Int), 97 + (y2 : Int)]) rfl (Arr.new W _ _);generalize strOfNums [97 + (y1 : Int), 97 + (y2 : Int)] = T at *;generalize ofS T = k at *;go_enter Tryz.func8, Tryz.ntmps8
 go_wp2_with (first
  | (go_at_call 6; refine (cP Z _ hZZ).mono ?_; rintro e w1 ⟨rfl, hz1⟩
     have hOw := (hZO.below hz1 hZO.lt).alloc (.cells #[.int .u8 (97 + (y1 : Int)), .int .u8 (97 + (y2 : Int))] 5);have hFw := zf (za hZF hz1) (.cells #[.int .u8 (97 + (y1 : Int)), .int .u8 (97 + (y2 : Int))] 5))
  | (go_at_call 22; refine (cO _).mono ?_; rintro e w2 ⟨rfl, hz2⟩
     have hZ2 : Arr w2 w.heap.size 33 (kc zr).toArray := hOw.below hz2 hOw.lt;have hF2 := za hFw hz2;clear hOw hFw)
  | (refine zi (ds := kc k) zC rfl (.tmp 5) (.tmp 90) rfl w2.heap.size 0 rfl rfl (zl k) (zU _) (Arr.new w2 (kc zr).toArray 33) (by rw [zl]; decide) (zk _ _ (by rw [zl, zl]; decide)) ?_; intro X h3 hkx
     have h4 := hkx.other (hZ2.alloc _) (by have := hZ2.lt; omega);have hF3 := hkx.fr (zf hF2 _) hF2.size;clear hkx hZ2 hF2)
  | (refine zB zaf rfl (.tmp 5) rfl w2.heap.size rfl (zl k) h3 ?_)
  | (refine zi (ds := kc k) zC rfl (.tmp 2) (.tmp 92) rfl w.heap.size 0 rfl rfl (zl k) (zU _) h4 (by rw [zl]; decide) (zk _ _ (by rw [zl, zl]; decide)) ?_; intro W5 hO5 hk5; have hF5 := hk5.fr hF3 (by omega); clear hk5)
  | fail)
 exact bodyPost_ret (zaf.result rfl _ w.heap.size rfl (zl k) hO5) rfl ⟨rfl, hF5⟩
set_option maxRecDepth 100000 in
set_option maxHeartbeats 4000000 in
theorem zof (v : Int) (hv : zal v) (hr : pl v % 8 = 4) (w : World) : Calls Tryz.prog 8 #[.int .i64 v] w fun e w' => e = .returned (kv (zbL v)) ∧ Fr w w' := by
 have cP := fun W0 W h => zdg (W0 := W0) (W := W) hv h;have hO := zbK _ (zbQ (pl v));have hKB : zcE (pl v) = [97 + ((pl v / 8 % 5 : Nat) : Int), 97 + ((pl v / 40 % 4 : Nat) : Int)] := by simp [zcE, hr]
 have cO := fun (W : World) => hO W;unfold zbL;have hlt := zdC v;generalize pl v = K at *;rw [hKB] at cO ⊢
 have hr' : (K : Int).tmod 8 = 4 := by
  have h : (K : Int).tmod 8 = ((K % 8 : Nat) : Int) := rfl;rw [h, hr]; rfl
 have q1 : (K : Int).tdiv 8 = ((K / 8 : Nat) : Int) := rfl;have m1 : ((K / 8 : Nat) : Int).tmod 5 = ((K / 8 % 5 : Nat) : Int) := rfl;have b1 : K / 8 % 5 < 5 := Nat.mod_lt _ (by decide);have q2 : (K : Int).tdiv 40 = ((K / 40 : Nat) : Int) := rfl;have m2 : ((K / 40 : Nat) : Int).tmod 4 = ((K / 40 % 4 : Nat) : Int) := rfl;have b2 : K / 40 % 4 < 4 := Nat.mod_lt _ (by decide);clear hO hKB hr;generalize K / 8 % 5 = y1 at *;have u1 : (97 + (y1 : Int)) % 256 = 97 + (y1 : Int) := by omega
 generalize K / 40 % 4 = y2 at *;have u2 : (97 + (y2 : Int)) % 256 = 97 + (y2 : Int) := by omega
 have g1 : K / 8 < 1099511627776 := by omega
 generalize K / 8 = x1 at *;have g2 : K / 40 < 1099511627776 := by omega
 generalize K / 40 = x2 at *;obtain ⟨Z, hZ, hZO, hZF⟩ : ∃ Z, w.alloc (.cells #[.int .i64 0, .int .u8 0, .int .u8 0, .int .u8 0, .int .u8 0, .int .u8 0, .int .u8 0, .int .u8 0, .int .u8 0] 33) = Z ∧ Arr Z w.heap.size 33 (kc zr).toArray ∧ Fr w Z := ⟨_, rfl, Arr.new w _ _, zf (ze w) _⟩;have hZZ := ze Z;have hcv := fun (W : World) => zbO (W := W.alloc (.cells #[.int .u8 (97 + (y1 : Int)), .int .u8 (97 + (y2 : Int))] 5)) (g := W.heap.size) (n := 2) (c := 2) (zs := [97 + (y1 : Int), 97 + (y2 : Int)]) rfl (Arr.new W _ _);generalize strOfNums [97 + (y1 : Int), 97 + (y2 : Int)] = T at *;generalize ofS T = k at *;go_enter Tryz.func8, Tryz.ntmps8
 go_wp2_with (first
  | (go_at_call 6; refine (cP Z _ hZZ).mono ?_; rintro e w1 ⟨rfl, hz1⟩
     have hOw := (hZO.below hz1 hZO.lt).alloc (.cells #[.int .u8 (97 + (y1 : Int)), .int .u8 (97 + (y2 : Int))] 5);have hFw := zf (za hZF hz1) (.cells #[.int .u8 (97 + (y1 : Int)), .int .u8 (97 + (y2 : Int))] 5))
  | (go_at_call 22; refine (cO _).mono ?_; rintro e w2 ⟨rfl, hz2⟩
     have hZ2 : Arr w2 w.heap.size 33 (kc zr).toArray := hOw.below hz2 hOw.lt;have hF2 := za hFw hz2;clear hOw hFw)
  | (refine zi (ds := kc k) zC rfl (.tmp 5) (.tmp 90) rfl w2.heap.size 0 rfl rfl (zl k) (zU _) (Arr.new w2 (kc zr).toArray 33) (by rw [zl]; decide) (zk _ _ (by rw [zl, zl]; decide)) ?_; intro X h3 hkx
     have h4 := hkx.other (hZ2.alloc _) (by have := hZ2.lt; omega);have hF3 := hkx.fr (zf hF2 _) hF2.size;clear hkx hZ2 hF2)
  | (refine zB zaf rfl (.tmp 5) rfl w2.heap.size rfl (zl k) h3 ?_)
  | (refine zi (ds := kc k) zC rfl (.tmp 2) (.tmp 92) rfl w.heap.size 0 rfl rfl (zl k) (zU _) h4 (by rw [zl]; decide) (zk _ _ (by rw [zl, zl]; decide)) ?_; intro W5 hO5 hk5; have hF5 := hk5.fr hF3 (by omega); clear hk5)
  | fail)
 exact bodyPost_ret (zaf.result rfl _ w.heap.size rfl (zl k) hO5) rfl ⟨rfl, hF5⟩
set_option maxRecDepth 100000 in
set_option maxHeartbeats 4000000 in
theorem zn8 (v : Int) (hv : zal v) (hr : pl v % 8 = 5) (w : World) : Calls Tryz.prog 8 #[.int .i64 v] w fun e w' => e = .returned (kv (zbL v)) ∧ Fr w w' := by
 have cP := fun W0 W h => zdg (W0 := W0) (W := W) hv h;have hO := zbK _ (zbQ (pl v));have hKB : zcE (pl v) = [97 + ((pl v / 8 % 4 : Nat) : Int), 0, ((pl v / 32 % 256 : Nat) : Int), ((pl v / 8192 % 4 : Nat) : Int), 255, 120, 121, 97 + ((pl v / 32768 % 3 : Nat) : Int)] := by simp [zcE, hr]
 have cO := fun (W : World) => hO W;unfold zbL;have hlt := zdC v;generalize pl v = K at *;rw [hKB] at cO ⊢
 have hr' : (K : Int).tmod 8 = 5 := by
  have h : (K : Int).tmod 8 = ((K % 8 : Nat) : Int) := rfl;rw [h, hr]; rfl
 have q1 : (K : Int).tdiv 8 = ((K / 8 : Nat) : Int) := rfl;have m1 : ((K / 8 : Nat) : Int).tmod 4 = ((K / 8 % 4 : Nat) : Int) := rfl;have b1 : K / 8 % 4 < 4 := Nat.mod_lt _ (by decide);have q2 : (K : Int).tdiv 32 = ((K / 32 : Nat) : Int) := rfl;have m2 : ((K / 32 : Nat) : Int).tmod 256 = ((K / 32 % 256 : Nat) : Int) := rfl;have b2 : K / 32 % 256 < 256 := Nat.mod_lt _ (by decide);have q3 : (K : Int).tdiv 8192 = ((K / 8192 : Nat) : Int) := rfl;have m3 : ((K / 8192 : Nat) : Int).tmod 4 = ((K / 8192 % 4 : Nat) : Int) := rfl;have b3 : K / 8192 % 4 < 4 := Nat.mod_lt _ (by decide);have q4 : (K : Int).tdiv 32768 = ((K / 32768 : Nat) : Int) := rfl;have m4 : ((K / 32768 : Nat) : Int).tmod 3 = ((K / 32768 % 3 : Nat) : Int) := rfl;have b4 : K / 32768 % 3 < 3 := Nat.mod_lt _ (by decide);clear hO hKB hr;generalize K / 8 % 4 = y1 at *;have u1 : (97 + (y1 : Int)) % 256 = 97 + (y1 : Int) := by omega
 generalize K / 32 % 256 = y2 at *;have u2 : ((y2 : Int)) % 256 = (y2 : Int) := by omega
 generalize K / 8192 % 4 = y3 at *;have u3 : ((y3 : Int)) % 256 = (y3 : Int) := by omega
 generalize K / 32768 % 3 = y4 at *;have u4 : (97 + (y4 : Int)) % 256 = 97 + (y4 : Int) := by omega
 have g1 : K / 8 < 1099511627776 := by omega
 generalize K / 8 = x1 at *;have g2 : K / 32 < 1099511627776 := by omega
 generalize K / 32 = x2 at *;have g3 : K / 8192 < 1099511627776 := by omega
 generalize K / 8192 = x3 at *;have g4 : K / 32768 < 1099511627776 := by omega
 generalize K / 32768 = x4 at *;obtain ⟨Z, hZ, hZO, hZF⟩ : ∃ Z, w.alloc (.cells #[.int .i64 0, .int .u8 0, .int .u8 0, .int .u8 0, .int .u8 0, .int .u8 0, .int .u8 0, .int .u8 0, .int .u8 0] 33) = Z ∧ Arr Z w.heap.size 33 (kc zr).toArray ∧ Fr w Z := ⟨_, rfl, Arr.new w _ _, zf (ze w) _⟩;have hZZ := ze Z;have hcv := fun (W : World) => zbO (W := W.alloc (.cells #[.int .u8 (97 + (y1 : Int)), .int .u8 0, .int .u8 ((y2 : Int)), .int .u8 ((y3 : Int)), .int .u8 255, .int .u8 120, .int .u8 121, .int .u8 (97 + (y4 : Int))] 5)) (g := W.heap.size) (n := 8) (c := 8) (zs := [97 + (y1 : Int), 0, (y2 : Int), (y3 : Int), 255, 120, 121, 97 + (y4 : Int)]) rfl (Arr.new W _ _);generalize strOfNums [97 + (y1 : Int), 0, (y2 : Int), (y3 : Int), 255, 120, 121, 97 + (y4 : Int)] = T at *;generalize ofS T = k at *;go_enter Tryz.func8, Tryz.ntmps8
 go_wp2_with (first
  | (go_at_call 6; refine (cP Z _ hZZ).mono ?_; rintro e w1 ⟨rfl, hz1⟩
     have hOw := (hZO.below hz1 hZO.lt).alloc (.cells #[.int .u8 (97 + (y1 : Int)), .int .u8 0, .int .u8 ((y2 : Int)), .int .u8 ((y3 : Int)), .int .u8 255, .int .u8 120, .int .u8 121, .int .u8 (97 + (y4 : Int))] 5);have hFw := zf (za hZF hz1) (.cells #[.int .u8 (97 + (y1 : Int)), .int .u8 0, .int .u8 ((y2 : Int)), .int .u8 ((y3 : Int)), .int .u8 255, .int .u8 120, .int .u8 121, .int .u8 (97 + (y4 : Int))] 5))
  | (go_at_call 22; refine (cO _).mono ?_; rintro e w2 ⟨rfl, hz2⟩
     have hZ2 : Arr w2 w.heap.size 33 (kc zr).toArray := hOw.below hz2 hOw.lt;have hF2 := za hFw hz2;clear hOw hFw)
  | (refine zi (ds := kc k) zC rfl (.tmp 5) (.tmp 90) rfl w2.heap.size 0 rfl rfl (zl k) (zU _) (Arr.new w2 (kc zr).toArray 33) (by rw [zl]; decide) (zk _ _ (by rw [zl, zl]; decide)) ?_; intro X h3 hkx
     have h4 := hkx.other (hZ2.alloc _) (by have := hZ2.lt; omega);have hF3 := hkx.fr (zf hF2 _) hF2.size;clear hkx hZ2 hF2)
  | (refine zB zaf rfl (.tmp 5) rfl w2.heap.size rfl (zl k) h3 ?_)
  | (refine zi (ds := kc k) zC rfl (.tmp 2) (.tmp 92) rfl w.heap.size 0 rfl rfl (zl k) (zU _) h4 (by rw [zl]; decide) (zk _ _ (by rw [zl, zl]; decide)) ?_; intro W5 hO5 hk5; have hF5 := hk5.fr hF3 (by omega); clear hk5)
  | fail)
 exact bodyPost_ret (zaf.result rfl _ w.heap.size rfl (zl k) hO5) rfl ⟨rfl, hF5⟩
set_option maxRecDepth 100000 in
set_option maxHeartbeats 4000000 in
theorem znI (v : Int) (hv : zal v) (hr : pl v % 8 = 6) (w : World) : Calls Tryz.prog 8 #[.int .i64 v] w fun e w' => e = .returned (kv (zbL v)) ∧ Fr w w' := by
 have cP := fun W0 W h => zdg (W0 := W0) (W := W) hv h;have hO := zbK _ (zbQ (pl v));have hKB : zcE (pl v) = [98 + ((pl v / 8 % 3 : Nat) : Int), 108, 111, 110, 103, 101, 114, 48 + ((pl v / 24 % 9 : Nat) : Int)] := by simp [zcE, hr]
 have cO := fun (W : World) => hO W;unfold zbL;have hlt := zdC v;generalize pl v = K at *;rw [hKB] at cO ⊢
 have hr' : (K : Int).tmod 8 = 6 := by
  have h : (K : Int).tmod 8 = ((K % 8 : Nat) : Int) := rfl;rw [h, hr]; rfl
 have q1 : (K : Int).tdiv 8 = ((K / 8 : Nat) : Int) := rfl;have m1 : ((K / 8 : Nat) : Int).tmod 3 = ((K / 8 % 3 : Nat) : Int) := rfl;have b1 : K / 8 % 3 < 3 := Nat.mod_lt _ (by decide);have q2 : (K : Int).tdiv 24 = ((K / 24 : Nat) : Int) := rfl;have m2 : ((K / 24 : Nat) : Int).tmod 9 = ((K / 24 % 9 : Nat) : Int) := rfl;have b2 : K / 24 % 9 < 9 := Nat.mod_lt _ (by decide);clear hO hKB hr;generalize K / 8 % 3 = y1 at *;have u1 : (98 + (y1 : Int)) % 256 = 98 + (y1 : Int) := by omega
 generalize K / 24 % 9 = y2 at *;have u2 : (48 + (y2 : Int)) % 256 = 48 + (y2 : Int) := by omega
 have g1 : K / 8 < 1099511627776 := by omega
 generalize K / 8 = x1 at *;have g2 : K / 24 < 1099511627776 := by omega
 generalize K / 24 = x2 at *;obtain ⟨Z, hZ, hZO, hZF⟩ : ∃ Z, w.alloc (.cells #[.int .i64 0, .int .u8 0, .int .u8 0, .int .u8 0, .int .u8 0, .int .u8 0, .int .u8 0, .int .u8 0, .int .u8 0] 33) = Z ∧ Arr Z w.heap.size 33 (kc zr).toArray ∧ Fr w Z := ⟨_, rfl, Arr.new w _ _, zf (ze w) _⟩;have hZZ := ze Z;have hcv := fun (W : World) => zbO (W := W.alloc (.cells #[.int .u8 (98 + (y1 : Int)), .int .u8 108, .int .u8 111, .int .u8 110, .int .u8 103, .int .u8 101, .int .u8 114, .int .u8 (48 + (y2 : Int))] 5)) (g := W.heap.size) (n := 8) (c := 8) (zs := [98 + (y1 : Int), 108, 111, 110, 103, 101, 114, 48 + (y2 : Int)]) rfl (Arr.new W _ _);generalize strOfNums [98 + (y1 : Int), 108, 111, 110, 103, 101, 114, 48 + (y2 : Int)] = T at *;generalize ofS T = k at *;go_enter Tryz.func8, Tryz.ntmps8
 go_wp2_with (first
  | (go_at_call 6; refine (cP Z _ hZZ).mono ?_; rintro e w1 ⟨rfl, hz1⟩
     have hOw := (hZO.below hz1 hZO.lt).alloc (.cells #[.int .u8 (98 + (y1 : Int)), .int .u8 108, .int .u8 111, .int .u8 110, .int .u8 103, .int .u8 101, .int .u8 114, .int .u8 (48 + (y2 : Int))] 5);have hFw := zf (za hZF hz1) (.cells #[.int .u8 (98 + (y1 : Int)), .int .u8 108, .int .u8 111, .int .u8 110, .int .u8 103, .int .u8 101, .int .u8 114, .int .u8 (48 + (y2 : Int))] 5))
  | (go_at_call 22; refine (cO _).mono ?_; rintro e w2 ⟨rfl, hz2⟩
     have hZ2 : Arr w2 w.heap.size 33 (kc zr).toArray := hOw.below hz2 hOw.lt;have hF2 := za hFw hz2;clear hOw hFw)
  | (refine zi (ds := kc k) zC rfl (.tmp 5) (.tmp 90) rfl w2.heap.size 0 rfl rfl (zl k) (zU _) (Arr.new w2 (kc zr).toArray 33) (by rw [zl]; decide) (zk _ _ (by rw [zl, zl]; decide)) ?_; intro X h3 hkx
     have h4 := hkx.other (hZ2.alloc _) (by have := hZ2.lt; omega);have hF3 := hkx.fr (zf hF2 _) hF2.size;clear hkx hZ2 hF2)
  | (refine zB zaf rfl (.tmp 5) rfl w2.heap.size rfl (zl k) h3 ?_)
  | (refine zi (ds := kc k) zC rfl (.tmp 2) (.tmp 92) rfl w.heap.size 0 rfl rfl (zl k) (zU _) h4 (by rw [zl]; decide) (zk _ _ (by rw [zl, zl]; decide)) ?_; intro W5 hO5 hk5; have hF5 := hk5.fr hF3 (by omega); clear hk5)
  | fail)
 exact bodyPost_ret (zaf.result rfl _ w.heap.size rfl (zl k) hO5) rfl ⟨rfl, hF5⟩
end
section
attribute [local go_sem ↓] zae zt zw
set_option maxRecDepth 100000 in
set_option maxHeartbeats 4000000 in
theorem znY (v : Int) (hv : zal v) (hr : pl v % 8 = 7) (w : World) : Calls Tryz.prog 8 #[.int .i64 v] w fun e w' => e = .returned (kv (zbL v)) ∧ Fr w w' := by
 have cP := fun W0 W h => zdg (W0 := W0) (W := W) hv h;have hO := zbK _ (zbQ (pl v));have hKB : zcE (pl v) = [((pl v / 8 % 256 : Nat) : Int), ((pl v / 2048 % 256 : Nat) : Int)].take (pl v / 524288 % 3) := by simp [zcE, hr]
 have cO := fun (W : World) => hO W;unfold zbL;have hlt := zdC v;generalize pl v = K at *;rw [hKB] at cO ⊢
 have hr' : (K : Int).tmod 8 = 7 := by
  have h : (K : Int).tmod 8 = ((K % 8 : Nat) : Int) := rfl;rw [h, hr]; rfl
 have q1 : (K : Int).tdiv 8 = ((K / 8 : Nat) : Int) := rfl;have m1 : ((K / 8 : Nat) : Int).tmod 256 = ((K / 8 % 256 : Nat) : Int) := rfl;have b1 : K / 8 % 256 < 256 := Nat.mod_lt _ (by decide);have q2 : (K : Int).tdiv 2048 = ((K / 2048 : Nat) : Int) := rfl;have m2 : ((K / 2048 : Nat) : Int).tmod 256 = ((K / 2048 % 256 : Nat) : Int) := rfl;have b2 : K / 2048 % 256 < 256 := Nat.mod_lt _ (by decide);have q3 : (K : Int).tdiv 524288 = ((K / 524288 : Nat) : Int) := rfl;have m3 : ((K / 524288 : Nat) : Int).tmod 3 = ((K / 524288 % 3 : Nat) : Int) := rfl;have b3 : K / 524288 % 3 < 3 := Nat.mod_lt _ (by decide);clear hO hKB hr;generalize K / 8 % 256 = y1 at *;generalize K / 2048 % 256 = y2 at *;generalize K / 524288 % 3 = y3 at *;have u1 : (y1 : Int) % 256 = (y1 : Int) := by omega
 have u2 : (y2 : Int) % 256 = (y2 : Int) := by omega
 have g1 : K / 8 < 1099511627776 := by omega
 generalize K / 8 = x1 at *;have g2 : K / 2048 < 1099511627776 := by omega
 generalize K / 2048 = x2 at *;have g3 : K / 524288 < 1099511627776 := by omega
 generalize K / 524288 = x3 at *;obtain ⟨Z, hZ, hZO, hZF⟩ : ∃ Z, w.alloc (.cells #[.int .i64 0, .int .u8 0, .int .u8 0, .int .u8 0, .int .u8 0, .int .u8 0, .int .u8 0, .int .u8 0, .int .u8 0] 33) = Z ∧ Arr Z w.heap.size 33 (kc zr).toArray ∧ Fr w Z := ⟨_, rfl, Arr.new w _ _, zf (ze w) _⟩;have hZZ := ze Z;have hcv := fun (W : World) => zbO (W := W.alloc (.cells #[.int .u8 (y1 : Int), .int .u8 (y2 : Int)] 5)) (g := W.heap.size) (n := 2) (c := 2) (zs := [(y1 : Int), (y2 : Int)]) rfl (Arr.new W _ _);have hsz : (strOfNums [(y1 : Int), (y2 : Int)]).size = 2 := by rw [zfP]; rfl
 have hsl : (strOfNums [(y1 : Int), (y2 : Int)]).extract 0 y3 = strOfNums ([(y1 : Int), (y2 : Int)].take y3) := by
  rcases y3 with _|_|_|y3
  ·rfl
  ·rfl
  ·rfl
  ·omega
 generalize strOfNums [(y1 : Int), (y2 : Int)] = T at *;generalize strOfNums ([(y1 : Int), (y2 : Int)].take y3) = T2 at *;generalize ofS T2 = k at *;go_enter Tryz.func8, Tryz.ntmps8
 go_wp2_with (first
  | (go_at_call 6; refine (cP Z _ hZZ).mono ?_; rintro e w1 ⟨rfl, hz1⟩
     have hOw := (hZO.below hz1 hZO.lt).alloc (.cells #[.int .u8 (y1 : Int), .int .u8 (y2 : Int)] 5);have hFw := zf (za hZF hz1) (.cells #[.int .u8 (y1 : Int), .int .u8 (y2 : Int)] 5))
  | (go_at_call 22; refine (cO _).mono ?_; rintro e w2 ⟨rfl, hz2⟩
     have hZ2 : Arr w2 w.heap.size 33 (kc zr).toArray := hOw.below hz2 hOw.lt;have hF2 := za hFw hz2;clear hOw hFw)
  | (refine zi (ds := kc k) zC rfl (.tmp 5) (.tmp 90) rfl w2.heap.size 0 rfl rfl (zl k) (zU _) (Arr.new w2 (kc zr).toArray 33) (by rw [zl]; decide) (zk _ _ (by rw [zl, zl]; decide)) ?_; intro X h3 hkx
     have h4 := hkx.other (hZ2.alloc _) (by have := hZ2.lt; omega);have hF3 := hkx.fr (zf hF2 _) hF2.size;clear hkx hZ2 hF2)
  | (refine zB zaf rfl (.tmp 5) rfl w2.heap.size rfl (zl k) h3 ?_)
  | (refine zi (ds := kc k) zC rfl (.tmp 2) (.tmp 92) rfl w.heap.size 0 rfl rfl (zl k) (zU _) h4 (by rw [zl]; decide) (zk _ _ (by rw [zl, zl]; decide)) ?_; intro W5 hO5 hk5; have hF5 := hk5.fr hF3 (by omega); clear hk5)
  | fail)
 exact bodyPost_ret (zaf.result rfl _ w.heap.size rfl (zl k) hO5) rfl ⟨rfl, hF5⟩
theorem law_key (v : Int) (hv : zal v) (w : World) : Calls Tryz.prog 8 #[.int .i64 v] w fun e w' => e = .returned (kv (zbL v)) ∧ Fr w w' := by
 rcases h : pl v % 8 with _|_|_|_|_|_|_|_|k
 ·exact znz v hv h w
 ·exact zoy v hv h w
 ·exact znR v hv h w
 ·exact zoi v hv h w
 ·exact zof v hv h w
 ·exact zn8 v hv h w
 ·exact znI v hv h w
 ·exact znY v hv h w
 ·omega
theorem zex {W0 W : World} {v : Int} (hv : zal v) (hb : Fr W0 W) : Calls Tryz.prog 8 #[.int .i64 v] W fun e w' => e = .returned (kv (zbL v)) ∧ Fr W0 w' := (law_key v hv W).mono fun _ _ ⟨he, hw⟩ => ⟨he, za hb hw⟩
def zi1 (K i : Nat) : Int := (((K / 17 + i * (K / 4352)) % 256 : Nat) : Int)
def zhZ (K : Nat) : List Int := (List.range (K % 17)).map (zi1 K)
theorem znC (K : Nat) : (zhZ K).length = K % 17 := by simp [zhZ]
theorem zg0 (K : Nat) : (strOfNums (zhZ K)).size ≤ 16 := by
 have : K % 17 < 17 := Nat.mod_lt _ (by decide);rw [zfP, znC]; omega
def zgW (v : Int) : RV := ofV (strOfNums (zhZ (pl v)))
theorem zgE (v : Int) : (zgW v).wf := zjS (zg0 _)
theorem zni (v : Int) : okV (zgW v) = true := ofV_ok (zg0 _)
def zdj (K n j : Nat) : List Int := (List.range j).map (zi1 K) ++ List.replicate (n - j) 0
theorem zox (K n j : Nat) (h : j ≤ n) : (zdj K n j).length = n := by simp [zdj]; omega
theorem znK (K n j : Nat) (h : j < n) : (u8s (zdj K n j)).toArray.setIfInBounds j (.int .u8 (zi1 K j)) = (u8s (zdj K n (j + 1))).toArray := by
 apply Array.ext';rw [Array.toList_setIfInBounds]
 show (u8s (zdj K n j)).set j (.int .u8 (zi1 K j)) = u8s (zdj K n (j + 1))
 unfold u8s zdj;rw [← List.map_set, List.range_succ]
 congr 1
 obtain ⟨d, hd⟩ : ∃ d, n - j = d + 1 := ⟨n - j - 1, by omega⟩;rw [hd, List.replicate_succ, List.set_append_right _ _ (by simp), show n - (j + 1) = d by omega];simp
theorem zmn (K n : Nat) : (u8s (zdj K n 0)).toArray = Array.replicate n (.int .u8 0) := by
 apply Array.ext';simp [zdj, u8s]
theorem zoo (n K : Nat) (h : n = K % 17) : zdj K n n = zhZ K := by simp [zdj, zhZ, h]
theorem u8_row : ∃ i, Tryz.prog.info? 5 = some i ∧ i.zero = some (.int .u8 0) ∧ i.size = 1 ∧ i.bytes = 1 := by
 have e1 : (Tryz.prog.info? 5).bind (·.zero) = some (.int .u8 0) := by kernel_rfl
 have e2 : (Tryz.prog.info? 5).map (·.size) = some 1 := by kernel_rfl
 have e3 : (Tryz.prog.info? 5).map (·.bytes) = some 1 := by kernel_rfl
 cases h : Tryz.prog.info? 5 with
 | none => rw [h] at e2; cases e2
 | some i =>
  rw [h] at e1 e2 e3;exact ⟨i, rfl, by simpa using e1, by simpa using e2, by simpa using e3⟩
theorem zlZ (n : Nat) (hn : n ≤ 1048576) (W : World) : (Instr.makeSlice 58 (.int .i64 (n : Int)) (.int .i64 (n : Int))).run Tryz.prog W = .ok (.slice (some ⟨W.heap.size, 0, none⟩) n n) (W.alloc (.cells (Array.replicate n (.int .u8 0)) 5)) := by
 obtain ⟨i, hi, hz, hs, hb⟩ := u8_row;have h := run_make (P := Tryz.prog) W 58 5 i _ Tryz.underlying58 hi hz .i64 .i64 n n (by omega) (Int.le_refl _) (by rw [hb]; omega) (by omega);rw [h, hs]
 congr 3
 apply Array.ext';simp [madeCells, Value.cells];apply List.ext_getElem (by simp);intro j h1 h2;simp [Nat.mod_one]
set_option maxRecDepth 100000 in
set_option maxHeartbeats 4000000 in
theorem zos (v : Int) (hv : zal v) (w : World) : Calls Tryz.prog 16 #[.int .i64 v] w fun e w' => e = .returned (vv (zgW v)) ∧ Fr w w' := by
 have cP := fun W0 W h => zdg (W0 := W0) (W := W) hv h;have cO := fun (W : World) => zj1 _ (zg0 (pl v)) W;have Hlv := zb (zD (zgE v).hl);unfold zgW at Hlv ⊢;have hlt := zdC v;generalize pl v = K at *;have m1 : (K : Int).tmod 17 = ((K % 17 : Nat) : Int) := rfl;have b1 : K % 17 < 17 := Nat.mod_lt _ (by decide);have hend := fun n => zoo n K;have hset := fun n j h => znK K n j h;have hlen := fun n j h => zox K n j h;have q1 : (K : Int).tdiv 17 = ((K / 17 : Nat) : Int) := rfl;have q2 : (K : Int).tdiv 4352 = ((K / 4352 : Nat) : Int) := rfl;have hb : ∀ j : Nat, zi1 K j = (((K / 17 + j * (K / 4352)) % 256 : Nat) : Int) := fun j => rfl;have hn17 : ∀ n, n = K % 17 → K % 17 = n := fun n h => h.symm;have Hend := zb (hend _ rfl);have Hset := zb (hset (K % 17));have Hlen := zb (hlen (K % 17));clear hend hset hlen hn17;have g1 : K / 17 < 1099511627776 := by omega
 have g2 : K / 4352 < 1099511627776 := by omega
 generalize K / 17 = x1 at *;generalize K / 4352 = x2 at *;generalize zhZ K = B at *;generalize hN : K % 17 = n at *;clear hN;have hmk := zlZ n (by omega);obtain ⟨Z, hZ, hZO, hZF⟩ : ∃ Z, w.alloc (.cells #[.int .i64 0, .int .u8 0, .int .u8 0, .int .u8 0, .int .u8 0, .int .u8 0, .int .u8 0, .int .u8 0, .int .u8 0, .int .u8 0, .int .u8 0, .int .u8 0, .int .u8 0, .int .u8 0, .int .u8 0, .int .u8 0, .int .u8 0] 37) = Z ∧ Arr Z w.heap.size 37 (vc zE).toArray ∧ Fr w Z := ⟨_, rfl, Arr.new w _ _, zf (ze w) _⟩;have hZZ := ze Z;have hcv := fun (W : World) (g : Nat) (ha : Arr W g 5 (u8s (zdj K n n)).toArray) => zbO (c := n) (Hlen.out n (Nat.le_refl _)) ha;rw [Hend.out] at hcv;generalize strOfNums B = T at *;generalize ofV T = k at *;go_enter Tryz.func16, Tryz.ntmps16
 go_wp2_with (first
  | (go_at_call 6; refine (cP Z _ hZZ).mono ?_; rintro e w1 ⟨rfl, hz1⟩
     have hOw := (hZO.below hz1 hZO.lt).alloc (.cells (Array.replicate n (.int .u8 0)) 5);have hFw := zf (za hZF hz1) (.cells (Array.replicate n (.int .u8 0)) 5);have hBw : Arr (w1.alloc (.cells (Array.replicate n (.int .u8 0)) 5)) w1.heap.size 5 (u8s (zdj K n 0)).toArray := by rw [zmn]; exact Arr.new w1 _ _
     have hne : w.heap.size < w1.heap.size := by have := hZO.lt; have := hz1.size; omega)
  | fail)
 go_loopg [6] n (fun g i wr => ∃ j : Nat, j + g = n ∧ i = .int .i64 j ∧ Arr wr w1.heap.size 5 (u8s (zdj K n j)).toArray ∧ Arr wr w.heap.size 37 (vc zE).toArray ∧ Fr w wr)
 case atStart => exact ⟨0, by omega, rfl, hBw, hOw, hFw⟩
 case round =>
  clear hBw hOw hFw;obtain ⟨j, hj, rfl, h3, h4, hF⟩ := hrel;have Hj := zb hj
  by_cases hlt : j < n
  ·have hc : wr.cell? ⟨w1.heap.size, j, none⟩ = some (.int .u8 ((zdj K n j).getD j 0)) := by
    have hl : (zdj K n j).length = n := Hlen.out j (by omega);rw [h3.cell, List.getElem?_toArray];simp [u8s, List.getD, hl, hlt]
   have hf := h3.free j;have hp : (j : Int) * (x2 : Int) = ((j * x2 : Nat) : Int) := (Int.natCast_mul j x2).symm
   have hpb : j * x2 < 20 * 1099511627776 := by
    have h1 : j * x2 ≤ j * 1099511627776 := Nat.mul_le_mul_left _ (by omega);have h2 : j * 1099511627776 ≤ 17 * 1099511627776 := Nat.mul_le_mul_right _ (by omega);omega
   have hv' := hb j;generalize j * x2 = p at *;have hw : ((x1 : Int) + (p : Int)) % 256 = zi1 K j := by rw [hv']; omega
   clear hb hv' hj;go_wp2_with fail
   go_roundg (gk - 1)
   case measure => have := Hj.out; omega
   case rel => exact ⟨j + 1, by have := Hj.out; omega, by go_num, by rw [← Hset.out j hlt]; exact h3.set _ _, h4.other _ (by simp; omega) _, hF.setCell (by simp; omega) _⟩
  ·obtain rfl : j = n := by omega
   have hcv' := hcv _ _ (by rw [← Hend.out]; exact h3);clear hb hj
   go_wp2_with (first
    | (go_at_call 38; refine (cO _).mono ?_; rintro e w2 ⟨rfl, hz2⟩
       have hO2 := h4.below hz2 h4.lt;have hF2 := za hF hz2)
    | (refine zi (ds := vc k) zad rfl (.tmp 7) (.tmp 35) rfl w2.heap.size 0 rfl rfl Hlv.out (zar _) (Arr.new w2 (vc zE).toArray 37) (by decide) (zk _ _ (by rw [Hlv.out]; decide)) ?_; intro X h5 hkx
       have h6 := hkx.other (hO2.alloc _) (by have := hO2.lt; omega);have hF3 := hkx.fr (zf hF2 _) hF2.size;clear hkx hO2 hF2)
    | (refine zB zbs rfl (.tmp 7) rfl w2.heap.size rfl Hlv.out h5 ?_)
    | (refine zi (ds := vc k) zad rfl (.tmp 2) (.tmp 37) rfl w.heap.size 0 rfl rfl Hlv.out (zar _) h6 (by decide) (zk _ _ (by rw [Hlv.out]; decide)) ?_; intro W5 hO5 hk5; have hF5 := hk5.fr hF3 (by omega); clear hk5)
    | fail)
   exact bodyPost_ret (zbs.result rfl _ w.heap.size rfl Hlv.out hO5) rfl ⟨rfl, hF5⟩
theorem zfV {W0 W : World} {v : Int} (hv : zal v) (hb : Fr W0 W) : Calls Tryz.prog 16 #[.int .i64 v] W fun e w' => e = .returned (vv (zgW v)) ∧ Fr W0 w' := (zos v hv W).mono fun _ _ ⟨he, hw⟩ => ⟨he, za hb hw⟩
end
section
attribute [local go_sem ↓] zae zt zw
def zdq (v s : Int) : RM :=
 ⟨1 + ((pl v % 3 : Nat) : Int), ((pl s : Nat) : Int), zbL ((pl v / 4 : Nat) : Int), if pl v % 3 = 0 then zgW ((pl v / 64 : Nat) : Int) else zE, if pl v % 3 = 2 then ((pl v / 1024 : Nat) : Int) * 65537 else 0⟩
theorem pl_64 (v : Int) (d : Nat) : zal ((pl v / d : Nat) : Int) := by
 have := zdC v;have h : pl v / d ≤ pl v := Nat.div_le_self _ _;unfold zal;generalize pl v / d = q at *;omega
theorem zc0 (v s : Int) : (zdq v s).wf := by
 have h1 := zdC v;have h2 := zdC s;refine ⟨?_, ?_, zfj _, ?_, ?_⟩
 ·show zal (1 + ((pl v % 3 : Nat) : Int))
  unfold zal; omega
 ·show zeb ((pl s : Nat) : Int)
  unfold zeb; omega
 ·show (if pl v % 3 = 0 then zgW ((pl v / 64 : Nat) : Int) else zE).wf
  split
  ·exact zgE _
  ·exact zcA
 ·show zeb (if pl v % 3 = 2 then ((pl v / 1024 : Nat) : Int) * 65537 else 0)
  unfold zeb
  split <;> omega
theorem zoF (v s : Int) : (zdq v s).kind = 1 + ((pl v % 3 : Nat) : Int) := rfl
theorem zc4 (v s : Int) : okM (zdq v s) = true := by
 have hk : okB (zdq v s).key = true := zhz _;have h3 : pl v % 3 < 3 := Nat.mod_lt _ (by decide);have e1 : (zdq v s).val = if pl v % 3 = 0 then zgW ((pl v / 64 : Nat) : Int) else zE := rfl
 have e2 : (zdq v s).inc = if pl v % 3 = 2 then ((pl v / 1024 : Nat) : Int) * 65537 else 0 := rfl
 unfold okM;rw [zoF, hk, e1, e2]
 by_cases a0 : pl v % 3 = 0
 ·rw [a0]; simp [zni]
 ·by_cases a1 : pl v % 3 = 1
  ·rw [a1]; simp
  ·have a2 : pl v % 3 = 2 := by omega
   rw [a2]; simp
set_option maxRecDepth 100000 in
set_option maxHeartbeats 4000000 in
theorem law_msg (v s : Int) (hv : zal v) (hs : zal s) (w : World) : Calls Tryz.prog 29 #[.int .i64 v, .int .i64 s] w fun e w' => e = .returned (mm (zdq v s)) ∧ Fr w w' := by
 have cP := fun W0 W h => zdg (W0 := W0) (W := W) hv h;have cQ := fun W0 W h => zdg (W0 := W0) (W := W) hs h;have cK := fun W0 W h => zex (W0 := W0) (W := W) (pl_64 v 4) h;have cV := fun W0 W h => zfV (W0 := W0) (W := W) (pl_64 v 64) h;have HlV := zb (zgE ((pl v / 64 : Nat) : Int)).hl;unfold zdq;have hlt := zdC v;have hls := zdC s;have r1 : ((pl v : Nat) : Int).tmod 3 = ((pl v % 3 : Nat) : Int) := rfl;have q1 : ((pl v : Nat) : Int).tdiv 4 = ((pl v / 4 : Nat) : Int) := rfl;have q2 : ((pl v : Nat) : Int).tdiv 64 = ((pl v / 64 : Nat) : Int) := rfl;have q3 : ((pl v : Nat) : Int).tdiv 1024 = ((pl v / 1024 : Nat) : Int) := rfl;have b1 : pl v % 3 < 3 := Nat.mod_lt _ (by decide);have g1 : pl v / 4 < 1099511627776 := by omega
 have g2 : pl v / 64 < 1099511627776 := by omega
 have g3 : pl v / 1024 < 1099511627776 := by omega
 have g4 : pl v / 1024 < 1073741824 := by omega
 generalize pl v % 3 = r at *;generalize pl v / 4 = x1 at *;generalize pl v / 64 = x2 at *;generalize pl v / 1024 = x3 at *;generalize pl v = K at *;generalize pl s = S at *;generalize zbL (x1 : Int) = k at *;generalize zgW (x2 : Int) = y at *;have hmul : ((x3 : Int) * 65537) % 18446744073709551616 = (x3 : Int) * 65537 := by omega
 have hSm : (S : Int) % 18446744073709551616 = (S : Int) := by omega
 have hxm : (x3 : Int) % 18446744073709551616 = (x3 : Int) := by omega
 obtain ⟨Z, hZ, hZO, hZF⟩ : ∃ Z, w.alloc (.cells #[.int .i64 0, .int .u64 0, .int .i64 0, .int .u8 0, .int .u8 0, .int .u8 0, .int .u8 0, .int .u8 0, .int .u8 0, .int .u8 0, .int .u8 0, .int .i64 0, .int .u8 0, .int .u8 0, .int .u8 0, .int .u8 0, .int .u8 0, .int .u8 0, .int .u8 0, .int .u8 0, .int .u8 0, .int .u8 0, .int .u8 0, .int .u8 0, .int .u8 0, .int .u8 0, .int .u8 0, .int .u8 0, .int .u64 0] 64) = Z ∧ Arr Z w.heap.size 64 (mc za0).toArray ∧ Fr w Z := ⟨_, rfl, Arr.new w _ _, zf (ze w) _⟩;have hZZ := ze Z;have hwZ : w.heap.size < Z.heap.size := hZO.lt
 rcases r with _|_|_|r
 ·have HlM := zb (zP (m := ⟨1, (S : Int), k, zE, 0⟩) rfl)
  have HlR := zb (zP (m := ⟨1, (S : Int), k, y, 0⟩) HlV.out)
  show Calls _ _ _ _ fun e w' => e = .returned (mm ⟨1, (S : Int), k, y, 0⟩) ∧ Fr w w'
  go_enter Tryz.func29, Tryz.ntmps29
  go_wp2_with (first
   | (go_at_call_of 6 v; refine (cP Z _ hZZ).mono ?_; rintro e w0 ⟨rfl, hz0⟩)
   | (go_at_call_of 6 s; refine (cQ Z _ hz0).mono ?_; rintro e w1 ⟨rfl, hz1⟩)
   | (go_at_call 8; refine (cK Z _ hz1).mono ?_; rintro e w2 ⟨rfl, hz2⟩
      have hO2 := hZO.below hz2 hZO.lt;have hF2 := za hZF hz2;have hs2 := hz2.size)
   | (refine zi (ds := mc ⟨1, (S : Int), k, zE, 0⟩) zX rfl (.tmp 6) (.tmp 18) rfl w2.heap.size 0 rfl rfl HlM.out (zay _) (Arr.new w2 (mc za0).toArray 64) (by decide) (zk _ _ (by rw [HlM.out]; decide)) ?_; intro Y hD hky
      have hOy := hky.other (hO2.alloc _) (by omega);have hFy := hky.fr (zf hF2 _) (by omega);have hYY := ze Y;have c0 := zbt hD 0 (zhl ⟨1, (S : Int), k, zE, 0⟩);clear hky hO2 hF2)
   | (go_at_call 16; refine (cV Y _ hYY).mono ?_; rintro e w5 ⟨rfl, hz5⟩; have hD5 := hD.below hz5 hD.lt; have hO5 := hOy.below hz5 hOy.lt; have hF5 := za hFy hz5; clear hD hOy hFy)
   | (refine zi (ds := vc y) zad rfl (.tmp 26) (.tmp 25) rfl w2.heap.size 11 rfl rfl (zD HlV.out) (zar _) hD5 (by rw [HlM.out]; decide) (zcb (m := ⟨1, (S : Int), k, zE, 0⟩) rfl HlV.out) ?_; intro X hDx hkx; have hOx := hkx.other hO5 (by omega); have hFx := hkx.fr hF5 (by omega); clear hkx hD5 hO5 hF5)
   | (refine zB za4 rfl (.tmp 6) rfl w2.heap.size rfl HlR.out hDx ?_)
   | (refine zi (ds := mc ⟨1, (S : Int), k, y, 0⟩) zX rfl (.tmp 4) (.tmp 34) rfl w.heap.size 0 rfl rfl HlR.out (zay _) hOx (by decide) (zk _ _ (by rw [HlR.out]; decide)) ?_; intro W9 hO9 hk9; have hF9 := hk9.fr hFx (by omega); clear hk9)
   | fail)
  exact bodyPost_ret (za4.result rfl _ w.heap.size rfl HlR.out hO9) rfl ⟨rfl, hF9⟩
 ·have HlM := zb (zP (m := ⟨2, (S : Int), k, zE, 0⟩) rfl)
  have HlR := zb (zP (m := ⟨2, (S : Int), k, zE, 0⟩) rfl)
  show Calls _ _ _ _ fun e w' => e = .returned (mm ⟨2, (S : Int), k, zE, 0⟩) ∧ Fr w w'
  go_enter Tryz.func29, Tryz.ntmps29
  go_wp2_with (first
   | (go_at_call_of 6 v; refine (cP Z _ hZZ).mono ?_; rintro e w0 ⟨rfl, hz0⟩)
   | (go_at_call_of 6 s; refine (cQ Z _ hz0).mono ?_; rintro e w1 ⟨rfl, hz1⟩)
   | (go_at_call 8; refine (cK Z _ hz1).mono ?_; rintro e w2 ⟨rfl, hz2⟩
      have hO2 := hZO.below hz2 hZO.lt;have hF2 := za hZF hz2;have hs2 := hz2.size)
   | (refine zi (ds := mc ⟨2, (S : Int), k, zE, 0⟩) zX rfl (.tmp 6) (.tmp 18) rfl w2.heap.size 0 rfl rfl HlM.out (zay _) (Arr.new w2 (mc za0).toArray 64) (by decide) (zk _ _ (by rw [HlM.out]; decide)) ?_; intro Y hD hky
      have hOy := hky.other (hO2.alloc _) (by omega);have hFy := hky.fr (zf hF2 _) (by omega);have hYY := ze Y;have c0 := zbt hD 0 (zhl ⟨2, (S : Int), k, zE, 0⟩);clear hky hO2 hF2)
    | (refine zB za4 rfl (.tmp 6) rfl w2.heap.size rfl HlR.out hD ?_)
   | (refine zi (ds := mc ⟨2, (S : Int), k, zE, 0⟩) zX rfl (.tmp 4) (.tmp 34) rfl w.heap.size 0 rfl rfl HlR.out (zay _) hOy (by decide) (zk _ _ (by rw [HlR.out]; decide)) ?_; intro W9 hO9 hk9; have hF9 := hk9.fr hFy (by omega); clear hk9)
   | fail)
  exact bodyPost_ret (za4.result rfl _ w.heap.size rfl HlR.out hO9) rfl ⟨rfl, hF9⟩
 ·have HlM := zb (zP (m := ⟨3, (S : Int), k, zE, 0⟩) rfl)
  have HlR := zb (zP (m := ⟨3, (S : Int), k, zE, (x3 : Int) * 65537⟩) rfl)
  show Calls _ _ _ _ fun e w' => e = .returned (mm ⟨3, (S : Int), k, zE, (x3 : Int) * 65537⟩) ∧ Fr w w'
  go_enter Tryz.func29, Tryz.ntmps29
  go_wp2_with (first
   | (go_at_call_of 6 v; refine (cP Z _ hZZ).mono ?_; rintro e w0 ⟨rfl, hz0⟩)
   | (go_at_call_of 6 s; refine (cQ Z _ hz0).mono ?_; rintro e w1 ⟨rfl, hz1⟩)
   | (go_at_call 8; refine (cK Z _ hz1).mono ?_; rintro e w2 ⟨rfl, hz2⟩
      have hO2 := hZO.below hz2 hZO.lt;have hF2 := za hZF hz2;have hs2 := hz2.size)
   | (refine zi (ds := mc ⟨3, (S : Int), k, zE, 0⟩) zX rfl (.tmp 6) (.tmp 18) rfl w2.heap.size 0 rfl rfl HlM.out (zay _) (Arr.new w2 (mc za0).toArray 64) (by decide) (zk _ _ (by rw [HlM.out]; decide)) ?_; intro Y hD hky
      have hOy := hky.other (hO2.alloc _) (by omega);have hFy := hky.fr (zf hF2 _) (by omega);have hYY := ze Y;have c0 := zbt hD 0 (zhl ⟨3, (S : Int), k, zE, 0⟩);clear hky hO2 hF2)
   | (refine zi (ds := [.int .u64 ((x3 : Int) * 65537)]) zeY rfl (.tmp 33) (.tmp 32) rfl w2.heap.size 28 rfl rfl rfl (zdv _ rfl) hD (by rw [HlM.out]; decide) ((zbl _ _ _ (by rw [HlM.out]; decide)).trans (zeQ (m := ⟨3, (S : Int), k, zE, 0⟩) rfl _)) ?_; intro X hDx hkx; have hOx := hkx.other hOy (by omega); have hFx := hkx.fr hFy (by omega); clear hkx)
   | (refine zB za4 rfl (.tmp 6) rfl w2.heap.size rfl HlR.out hDx ?_)
   | (refine zi (ds := mc ⟨3, (S : Int), k, zE, (x3 : Int) * 65537⟩) zX rfl (.tmp 4) (.tmp 34) rfl w.heap.size 0 rfl rfl HlR.out (zay _) hOx (by decide) (zk _ _ (by rw [HlR.out]; decide)) ?_; intro W9 hO9 hk9; have hF9 := hk9.fr hFx (by omega); clear hk9)
   | fail)
  exact bodyPost_ret (za4.result rfl _ w.heap.size rfl HlR.out hO9) rfl ⟨rfl, hF9⟩
 ·omega
theorem zey {W0 W : World} {v s : Int} (hv : zal v) (hs : zal s) (hb : Fr W0 W) : Calls Tryz.prog 29 #[.int .i64 v, .int .i64 s] W fun e w' => e = .returned (mm (zdq v s)) ∧ Fr W0 w' := (law_msg v s hv hs W).mono fun _ _ ⟨he, hw⟩ => ⟨he, za hb hw⟩
end
end Go.Proofs.YtmjjjdikpnhpiaaGreat
