/- Keys by their order: a number for each. No program text. -/
import Derived.Test.YtmjjjdikpnhpiaaGreatKeyA
import Derived.Lib.Bytealg
import Derived.Deep.RegionHeld3
import Derived.Lib.BytesEntry
import Derived.Sort.Grow
import Derived.BigQuiet
import Derived.Deep.QuietTactic
import Derived.Deep.LoopGhost
namespace Go.Proofs.YtmjjjdikpnhpiaaGreat
set_option linter.unusedVariables false
set_option linter.unusedSimpArgs false
set_option maxRecDepth 100000
open Go.RowKit
section
def zcr (k : RK) : Int := ((((((k.b0 * 256 + k.b1) * 256 + k.b2) * 256 + k.b3) * 256 + k.b4) * 256 + k.b5) * 256 + k.b6) * 256 + k.b7
def zu (k : RK) : Int := zcr k * 16 + k.n
def zcX (x y : Int) : Int := if x < y then -1 else if y < x then 1 else 0
def zaB (a b : RK) : Int := zcX (zu a) (zu b)
theorem zgr {x y : Int} (h : x < y) : zcX x y = -1 := by simp [zcX, h]
theorem zfO {x y : Int} (h : y < x) : zcX x y = 1 := by unfold zcX; rw [if_neg (by omega), if_pos h]
theorem zhF {x y : Int} (h : x = y) : zcX x y = 0 := by unfold zcX; rw [if_neg (by omega), if_neg (by omega)]
theorem zcD (x y : Int) : (x < y ∧ zcX x y = -1) ∨ (y < x ∧ zcX x y = 1) ∨ (x = y ∧ zcX x y = 0) := by
 rcases Int.lt_trichotomy x y with h | h | h
 ·exact .inl ⟨h, zgr h⟩
 ·exact .inr (.inr ⟨h, zhF h⟩)
 ·exact .inr (.inl ⟨h, zfO h⟩)
theorem zeo {x y a b : Int} (ha : Byt a) (hb : Byt b) (h : x * 256 + a = y * 256 + b) : x = y ∧ a = b := by
 unfold Byt at ha hb; omega
def Len (k : RK) : Prop := 0 ≤ k.n ∧ k.n ≤ 8
theorem zcI {a b : RK} (ha : a.wf) (hb : b.wf) (la : Len a) (lb : Len b) (h : zu a = zu b) : a = b := by
 unfold zu at h;unfold Len at la lb;have h0 : zcr a = zcr b := by omega
 have h1 : a.n = b.n := by omega
 unfold zcr at h0;obtain ⟨h0, e7⟩ := zeo ha.h7 hb.h7 h0;obtain ⟨h0, e6⟩ := zeo ha.h6 hb.h6 h0;obtain ⟨h0, e5⟩ := zeo ha.h5 hb.h5 h0;obtain ⟨h0, e4⟩ := zeo ha.h4 hb.h4 h0;obtain ⟨h0, e3⟩ := zeo ha.h3 hb.h3 h0;obtain ⟨h0, e2⟩ := zeo ha.h2 hb.h2 h0;obtain ⟨h0, e1⟩ := zeo ha.h1 hb.h1 h0
 cases a; cases b
 simp_all
theorem zdk {x y : Int} (hx : Byt x) (hy : Byt y) : (UInt8.ofNat x.toNat < UInt8.ofNat y.toNat) ↔ x < y := by
 unfold Byt at hx hy;rw [UInt8.lt_iff_toNat_lt, UInt8.toNat_ofNat_of_lt' (by show x.toNat < 256; omega), UInt8.toNat_ofNat_of_lt' (by show y.toNat < 256; omega)];omega
def ub (k : RK) : List UInt8 := (kbs k).map fun z => UInt8.ofNat z.toNat
set_option maxHeartbeats 2000000 in
theorem znF {a b : RK} (ha : a.wf) (hb : b.wf) : Lib.compareBytes (ub a) (ub b) = zcX (zcr a) (zcr b) := by
 obtain ⟨_, a0, a1, a2, a3, a4, a5, a6, a7⟩ := ha;obtain ⟨_, c0, c1, c2, c3, c4, c5, c6, c7⟩ := hb;simp only [ub, kbs, List.map_cons, List.map_nil, Lib.compareBytes, zdk a0 c0, zdk a1 c1, zdk a2 c2, zdk a3 c3, zdk a4 c4, zdk a5 c5, zdk a6 c6, zdk a7 c7, zdk c0 a0, zdk c1 a1, zdk c2 a2, zdk c3 a3, zdk c4 a4, zdk c5 a5, zdk c6 a6, zdk c7 a7];unfold Byt at *;unfold zcX zcr;generalize a.b0 = x0 at *;generalize a.b1 = x1 at *;generalize a.b2 = x2 at *;generalize a.b3 = x3 at *;generalize a.b4 = x4 at *;generalize a.b5 = x5 at *;generalize a.b6 = x6 at *;generalize a.b7 = x7 at *;generalize b.b0 = y0 at *;generalize b.b1 = y1 at *;generalize b.b2 = y2 at *;generalize b.b3 = y3 at *;generalize b.b4 = y4 at *;generalize b.b5 = y5 at *;generalize b.b6 = y6 at *;generalize b.b7 = y7 at *
 repeat' split
 all_goals first | rfl | omega
theorem zoa {a b : RK} (ha : a.wf) (hb : b.wf) (la : Len a) (lb : Len b) : (if a = b then 0 else if zcX (zcr a) (zcr b) ≠ 0 then zcX (zcr a) (zcr b) else zcX a.n b.n) = zaB a b := by
 unfold zaB;unfold Len at la lb
 by_cases e : a = b
 ·rw [if_pos e, e, zhF rfl]
 ·rw [if_neg e]
  unfold zu
  rcases zcD (zcr a) (zcr b) with ⟨h, h2⟩ | ⟨h, h2⟩ | ⟨h, h2⟩
  ·rw [h2, if_pos (by decide), zgr (by omega)]
  ·rw [h2, if_pos (by decide), zfO (by omega)]
  ·rw [h2, if_neg (by decide), h]
   unfold zcX
   split <;> split <;> first | rfl | omega | (split <;> first | rfl | omega)
end
section
theorem zmS (x y : Int) (w : World) : Calls Tryz.prog 115 #[.int .i64 x, .int .i64 y] w fun e w' => e = .returned (.int .i64 (zcX x y)) ∧ w = w' := by
 rcases zcD x y with ⟨h, h2⟩ | ⟨h, h2⟩ | ⟨h, h2⟩
 ·rw [h2]
  clear h2;have h3 : decide (x < y) = true := by simpa using h
  go_enter Tryz.func115, Tryz.ntmps115
  go_wp2
  go_ret;exact ⟨rfl, rfl⟩
 ·rw [h2]
  clear h2;have h3 : decide (y < x) = true := by simpa using h
  have h4 : decide (x < y) = false := by simp; omega
  go_enter Tryz.func115, Tryz.ntmps115
  go_wp2
  go_ret;exact ⟨rfl, rfl⟩
 ·rw [h2]
  clear h2;subst h;go_enter Tryz.func115, Tryz.ntmps115
  go_wp2
  go_ret;exact ⟨rfl, rfl⟩
theorem zfy (w : World) (a : RK) (g : Nat) (hA : Arr w g 33 (kc a).toArray) : (Extern.Bytes.bytesOf (.slice (some ⟨g, 1, none⟩) 8 8)).run Tryz.prog w = .ok ⟨(ub a).toArray⟩ w := by
 have h := Lib.run_loadBytesX (P := Tryz.prog) w (kbs a) ⟨g, 1, none⟩ ByteArray.empty (fun j x hj => by
  rw [Addr.add_lit, hA.cell]
  rcases j with _|_|_|_|_|_|_|_|j
  all_goals first | (simp [kbs] at hj; subst hj; rfl) | (simp [kbs] at hj))
 simp only [Extern.Bytes.bytesOf];rw [show (8 : Nat) = (kbs a).length from rfl, h];simp [ub, Lib.bytesOf, ByteArray.empty, ByteArray.emptyWithCapacity];rfl
theorem zjv (w : World) (a b : RK) (ha : a.wf) (hb : b.wf) (g h : Nat) (hA : Arr w g 33 (kc a).toArray) (hB : Arr w h 33 (kc b).toArray) :
 Calls Tryz.prog 114 #[.slice (some ⟨g, 1, none⟩) 8 8, .slice (some ⟨h, 1, none⟩) 8 8] w fun e w' => e = .returned (.int .i64 (zcX (zcr a) (zcr b))) ∧ w = w' := by
  go_enter Tryz.func114, Tryz.ntmps114
  go_wp2
  rw [run_callFunc_extern Tryz.func121 (by kernel_rfl) (by kernel_rfl) (by kernel_rfl) (e := Extern.BytealgCompare.compare) (by kernel_rfl)]
  have hr : (Extern.BytealgCompare.compare #[.slice (some ⟨g, 1, none⟩) 8 8, .slice (some ⟨h, 1, none⟩) 8 8]).run Tryz.prog w = .ok (.int .i64 (zcX (zcr a) (zcr b))) w := by
   change Sem.run Tryz.prog (do pure (goInt (Extern.BytealgCompare.cmp (← Extern.Bytes.bytesOf (.slice (some ⟨g, 1, none⟩) 8 8)) (← Extern.Bytes.bytesOf (.slice (some ⟨h, 1, none⟩) 8 8))))) w = _;simp only [Sem.run_bind, Sem.run_pure, zfy w a g hA, zfy w b h hB, Result.andThen];rw [Lib.cmp_eq];rw [show (⟨(ub a).toArray⟩ : ByteArray).data.toList = ub a from rfl, show (⟨(ub b).toArray⟩ : ByteArray).data.toList = ub b from rfl, znF ha hb];rfl
  rw [hr];simp only [Result.andThen];rw [Oper.upon_value]
  go_wp2
  go_ret;exact ⟨rfl, rfl⟩
theorem key_or (x y : Int) (c g : Nat) (w : World) (h0 : w.cell? ⟨g, 0, none⟩ = some (.int .i64 x)) (h1 : w.cell? ⟨g, 1, none⟩ = some (.int .i64 y)) : Calls Tryz.prog 113 #[.slice (some ⟨g, 0, none⟩) 2 c] w fun e w' => e = .returned (.int .i64 (if x ≠ 0 then x else y)) ∧ w = w' := by
 by_cases hx : x = 0
 ·subst hx
  by_cases hy : y = 0
  ·subst hy
   go_enter Tryz.func113, Tryz.ntmps113
   go_wp2
   refine wp_loop_rounds 3 ?_;rw [rounds_succ]
   go_wp2
   rw [rounds_succ]
   go_wp2
   rw [rounds_succ]
   go_wp2
   go_ret;exact ⟨rfl, rfl⟩
  ·have h3 : (y != 0) = true := by simpa using hy
   go_enter Tryz.func113, Tryz.ntmps113
   go_wp2
   refine wp_loop_rounds 2 ?_;rw [rounds_succ]
   go_wp2
   rw [rounds_succ]
   go_wp2
   go_ret;exact ⟨rfl, rfl⟩
 ·have h3 : (x != 0) = true := by simpa using hx
  rw [if_pos hx];clear hx;go_enter Tryz.func113, Tryz.ntmps113
  go_wp2
  refine wp_loop_rounds 1 ?_;rw [rounds_succ]
  go_wp2
  go_ret;exact ⟨rfl, rfl⟩
def Gr (w w' : World) : Prop := ∃ q os, w' = Sort.grow (w.drewN q) os
theorem Gr.fr {w w' : World} (h : Gr w w') : Fr w w' := by
 obtain ⟨q, os, rfl⟩ := h;exact ⟨rfl, rfl, rfl, by simp [Sort.grow, World.drewN], fun k hk => by simp [Sort.grow, World.drewN, Array.getElem?_append, hk]⟩
theorem znu (w : World) : Gr w w := ⟨0, #[], by simp [Sort.grow, World.drewN]⟩
theorem zis {a w : World} (h : Gr a w) (o : Obj) : Gr a (w.alloc o) := by
 obtain ⟨q, os, rfl⟩ := h;exact ⟨q, os ++ #[o], by rw [Sort.alloc_eq_grow, Sort.grow_grow]⟩
theorem gr_drewN {a w : World} (h : Gr a w) (n : Nat) : Gr a (w.drewN n) := by
 obtain ⟨q, os, rfl⟩ := h;exact ⟨q + n, os, by show Sort.grow ((a.drewN q).drewN n) os = _; rw [World.drewN_drewN]⟩
theorem zmX {a w : World} (h : Gr a w) : Gr a w.drew := gr_drewN h 1
set_option maxHeartbeats 1000000 in
theorem zit (a : RK) (ha : a.wf) (w : World) : Calls Tryz.prog 101 #[kv a, kv a] w fun e w' => e = .returned (.int .i64 0) ∧ Gr w w' := by
 have heq : ∀ W, (binOp .eql 33 (kv a) (kv a)).run Tryz.prog W = .ok (.bool true) W := fun W => by simpa using zcH ha ha W
 go_enter Tryz.func101, Tryz.ntmps101;go_wp2_with fail;go_ret;exact ⟨rfl, zis (zis (znu w) _) _⟩
set_option maxHeartbeats 2000000 in
theorem zh6 (a b : RK) (ha : a.wf) (hb : b.wf) (hne : a ≠ b) (w : World) : Calls Tryz.prog 101 #[kv a, kv b] w fun e w' => e = .returned (.int .i64 (if zcX (zcr a) (zcr b) ≠ 0 then zcX (zcr a) (zcr b) else zcX a.n b.n)) ∧ Gr w w' := by
 have heq : ∀ W, (binOp .eql 33 (kv a) (kv b)).run Tryz.prog W = .ok (.bool false) W := fun W => by
  have h := zcH ha hb W
  rwa [show decide (a = b) = false from by simpa using hne] at h
 have hor := fun (W : World) (c g : Nat) h0 h1 => key_or (zcX (zcr a) (zcr b)) (zcX a.n b.n) c g W h0 h1;generalize (if zcX (zcr a) (zcr b) ≠ 0 then zcX (zcr a) (zcr b) else zcX a.n b.n) = r at hor ⊢;go_enter Tryz.func101, Tryz.ntmps101;go_wp2_with fail;generalize hW : World.alloc (World.alloc w _) _ = W;have hA : Arr W w.heap.size 33 (kc a).toArray := by rw [← hW]; exact (Arr.new w _ _).alloc _
 have hB : Arr W (w.heap.size + 1) 33 (kc b).toArray := by rw [← hW]; exact zcV _ _ _ _ (by simp)
 have hG : Gr w W := by rw [← hW]; exact zis (zis (znu w) _) _
 clear hW;have hcA : W.cell? ⟨w.heap.size, 0, none⟩ = some (.int .i64 a.n) := hA.cell 0;have hcB : W.cell? ⟨w.heap.size + 1, 0, none⟩ = some (.int .i64 b.n) := hB.cell 0;have hGd := zmX hG;clear hne
 go_region_held3 (fun w' => w'.cell? ⟨w.heap.size, 0, none⟩ = some (.int .i64 a.n) ∧ w'.cell? ⟨w.heap.size + 1, 0, none⟩ = some (.int .i64 b.n) ∧ Arr w' w.heap.size 33 (kc a).toArray ∧ Arr w' (w.heap.size + 1) 33 (kc b).toArray ∧ Gr w w')
  (first
   | (go_split_ands; exact ⟨hcA, hcB, hA, hB, hGd⟩)
   | (go_split_ands; exact ⟨by assumption, by assumption, by assumption, by assumption, by assumption⟩)
   | (go_split_ands; exact ⟨(World.cell?_alloc_lt W _ _ hA.lt).trans hcA, (World.cell?_alloc_lt W _ _ hB.lt).trans hcB, Arr.alloc hA _, Arr.alloc hB _, zmX (zis hG _)⟩))
  (first
   | (go_at_call 114; refine (zjv _ a b ha hb _ _ (by assumption) (by assumption)).mono ?_; rintro e w' ⟨rfl, rfl⟩)
   | (go_at_call 115; refine (zmS _ _ _).mono ?_; rintro e w' ⟨rfl, rfl⟩)
   | (go_at_call 113; refine (hor _ _ _ (by simp) (by simp)).mono ?_; rintro e w' ⟨rfl, rfl⟩))
 rename_i hH;obtain ⟨_, _, _, _, hGe⟩ := hH
 go_wp2
 go_ret;exact ⟨rfl, hGe⟩
theorem zkq (a b : RK) (ha : a.wf) (hb : b.wf) (la : Len a) (lb : Len b) (w : World) : Calls Tryz.prog 101 #[kv a, kv b] w fun e w' => e = .returned (.int .i64 (zaB a b)) ∧ Gr w w' := by
 have hp := zoa ha hb la lb
 by_cases e : a = b
 ·subst e
  rw [if_pos rfl] at hp;rw [← hp];exact zit a ha w
 ·rw [if_neg e] at hp
  rw [← hp];exact zh6 a b ha hb e w
end
section
theorem zhD {a b : RK} (h : ∀ t, t < 8 → a.at t ≤ b.at t) : zcr a ≤ zcr b := by
 have h0 : a.b0 ≤ b.b0 := h 0 (by omega);have h1 : a.b1 ≤ b.b1 := h 1 (by omega);have h2 : a.b2 ≤ b.b2 := h 2 (by omega);have h3 : a.b3 ≤ b.b3 := h 3 (by omega);have h4 : a.b4 ≤ b.b4 := h 4 (by omega);have h5 : a.b5 ≤ b.b5 := h 5 (by omega);have h6 : a.b6 ≤ b.b6 := h 6 (by omega);have h7 : a.b7 ≤ b.b7 := h 7 (by omega);unfold zcr;omega
theorem zm8 {a b : RK} (ha : a.wf) (hb : b.wf) (j : Nat) (hj : j < 8) (h : ∀ t, t < j → a.at t = b.at t) (hl : a.at j < b.at j) : zcr a < zcr b := by
 obtain ⟨_, a0, a1, a2, a3, a4, a5, a6, a7⟩ := ha;obtain ⟨_, c0, c1, c2, c3, c4, c5, c6, c7⟩ := hb;unfold Byt at *;unfold zcr;have h0 : 0 < j → a.b0 = b.b0 := fun q => h 0 q;have h1 : 1 < j → a.b1 = b.b1 := fun q => h 1 q;have h2 : 2 < j → a.b2 = b.b2 := fun q => h 2 q;have h3 : 3 < j → a.b3 = b.b3 := fun q => h 3 q;have h4 : 4 < j → a.b4 = b.b4 := fun q => h 4 q;have h5 : 5 < j → a.b5 = b.b5 := fun q => h 5 q;have h6 : 6 < j → a.b6 = b.b6 := fun q => h 6 q;clear h
 rcases j with _|_|_|_|_|_|_|_|j
 all_goals simp only [RK.at] at hl
 all_goals omega
theorem zc2 {k : RK} (h : okB k = true) : Len k := by
 obtain ⟨m, hm, hn, _⟩ := zi4 h;unfold Len; omega
theorem zgu {k : RK} (h : okB k = true) (t : Nat) (ht : t < 8) (hn : k.n ≤ t) : k.at t = 0 := by
 obtain ⟨m, hm, hn', he⟩ := zi4 h;exact (zgX k m hm hn').1 he t (by omega) ht
def Pre (a b : RK) (j : Nat) : Prop := ∀ t, t < j → a.at t = b.at t ∧ (t : Int) < a.n ∧ (t : Int) < b.n
theorem pre_ge {a b : RK} {j : Nat} (h : Pre a b j) : (j : Int) ≤ a.n ∨ j = 0 := by
 rcases j with _|j
 ·exact .inr rfl
 ·have := (h j (by omega)).2.1; left; omega
theorem pre_ge' {a b : RK} {j : Nat} (h : Pre a b j) : (j : Int) ≤ b.n ∨ j = 0 := by
 rcases j with _|j
 ·exact .inr rfl
 ·have := (h j (by omega)).2.2; left; omega
theorem zle {a b : RK} (oa : okB a = true) (ob : okB b = true) (j : Nat) (hj : j ≤ 8) (h : Pre a b j) (h1 : a.n ≤ j) (h2 : b.n ≤ j) : zaB a b = 0 := by
 have la := zc2 oa;have lb := zc2 ob;unfold Len at la lb;have g1 := pre_ge h;have g2 := pre_ge' h
 have e : ∀ t, t < 8 → a.at t = b.at t := fun t ht => by
  by_cases hl : t < j
  ·exact (h t hl).1
  ·rw [zgu oa t ht (by omega), zgu ob t ht (by omega)]
 have v1 := zhD (a := a) (b := b) fun t ht => by rw [e t ht]; exact Int.le_refl _
 have v2 := zhD (a := b) (b := a) fun t ht => by rw [e t ht]; exact Int.le_refl _
 exact zhF (by unfold zu; omega)
theorem znN {a b : RK} (oa : okB a = true) (ob : okB b = true) (wb : b.wf) (j : Nat) (hj : j < 8) (h : Pre a b j) (h1 : a.n ≤ j) (h2 : (j : Int) < b.n) : zaB a b = -1 := by
 have v1 := zhD (a := a) (b := b) fun t ht => by
  by_cases hl : t < j
  ·rw [(h t hl).1]; exact Int.le_refl _
  ·rw [zgu oa t ht (by omega)]; exact (at_byt wb t).1
 exact zgr (by unfold zu; omega)
theorem cmp_long {a b : RK} (oa : okB a = true) (ob : okB b = true) (wa : a.wf) (j : Nat) (hj : j < 8) (h : Pre a b j) (h1 : (j : Int) < a.n) (h2 : b.n ≤ j) : zaB a b = 1 := by
 have v1 := zhD (a := b) (b := a) fun t ht => by
  by_cases hl : t < j
  ·rw [(h t hl).1]; exact Int.le_refl _
  ·rw [zgu ob t ht (by omega)]; exact (at_byt wa t).1
 exact zfO (by unfold zu; omega)
theorem zoG {a b : RK} (oa : okB a = true) (ob : okB b = true) (wa : a.wf) (wb : b.wf) (j : Nat) (hj : j < 8) (h : Pre a b j) (hl : a.at j < b.at j) : zaB a b = -1 := by
 have la := zc2 oa;have lb := zc2 ob;unfold Len at la lb;have := zm8 wa wb j hj (fun t ht => (h t ht).1) hl;exact zgr (by unfold zu; omega)
theorem zoP {a b : RK} (oa : okB a = true) (ob : okB b = true) (wa : a.wf) (wb : b.wf) (j : Nat) (hj : j < 8) (h : Pre a b j) (hl : b.at j < a.at j) : zaB a b = 1 := by
 have la := zc2 oa;have lb := zc2 ob;unfold Len at la lb;have := zm8 wb wa j hj (fun t ht => (h t ht).1.symm) hl;exact zfO (by unfold zu; omega)
set_option maxHeartbeats 2000000 in
theorem zdQ (a b : RK) (wa : a.wf) (wb : b.wf) (oa : okB a = true) (ob : okB b = true) (w : World) : Calls Tryz.prog 26 #[kv a, kv b] w fun e w' => e = .returned (.int .i64 (zaB a b)) ∧ Fr w w' := by
 have Oa := zb oa;have Ob := zb ob;clear oa ob;go_enter Tryz.func26, Tryz.ntmps26;go_wp2_with fail;generalize hW : World.alloc (World.alloc w _) _ = W;have hA : Arr W w.heap.size 33 (kc a).toArray := by rw [← hW]; exact (Arr.new w _ _).alloc _
 have hB : Arr W (w.heap.size + 1) 33 (kc b).toArray := by rw [← hW]; exact zcV _ _ _ _ (by simp)
 have hF : Fr w W := by rw [← hW]; exact zf (zf (ze w) _) _
 clear hW
 go_loopg [5] 8 (fun g i wr => ∃ j : Nat, j + g = 8 ∧ i = .int .i64 j ∧ Hid (Pre a b j) ∧ Arr wr w.heap.size 33 (kc a).toArray ∧ Arr wr (w.heap.size + 1) 33 (kc b).toArray ∧ Fr w wr)
 case atStart => exact ⟨0, rfl, rfl, zb fun t h => by omega, hA, hB, hF⟩
 case round =>
  clear hA hB hF;obtain ⟨j, hj, rfl, Hp, hA, hB, hF⟩ := hrel;have Hj := zb hj
  by_cases hlt : j < 8
  ·have ca : wr.cell? ⟨w.heap.size, 1 + j, none⟩ = some (.int .u8 (a.at j)) := (hA.cell (1 + j)).trans (kc_at a j hlt)
   have cb : wr.cell? ⟨w.heap.size + 1, 1 + j, none⟩ = some (.int .u8 (b.at j)) := (hB.cell (1 + j)).trans (kc_at b j hlt);have na : wr.cell? ⟨w.heap.size, 0, none⟩ = some (.int .i64 a.n) := hA.cell 0;have nb : wr.cell? ⟨w.heap.size + 1, 0, none⟩ = some (.int .i64 b.n) := hB.cell 0;clear hj
   by_cases h1 : a.n ≤ j
   ·have d1 : decide (a.n ≤ (j : Int)) = true := by simpa using h1
    by_cases h2 : b.n ≤ j
    ·have d2 : decide (b.n ≤ (j : Int)) = true := by simpa using h2
     have Hr := zb (zle Oa.out Ob.out j (by omega) Hp.out h1 h2);go_wp2_with fail;go_ret;exact ⟨zbM Hr.out.symm, hF⟩
    ·have d2 : decide (b.n ≤ (j : Int)) = false := by simpa using h2
     have Hr := zb (znN Oa.out Ob.out wb j hlt Hp.out h1 (by omega));go_wp2_with fail;go_ret;exact ⟨zbM Hr.out.symm, hF⟩
   ·have d1 : decide (a.n ≤ (j : Int)) = false := by simpa using h1
    by_cases h2 : b.n ≤ j
    ·have d2 : decide (b.n ≤ (j : Int)) = true := by simpa using h2
     have Hr := zb (cmp_long Oa.out Ob.out wa j hlt Hp.out (by omega) h2);go_wp2_with fail;go_ret;exact ⟨zbM Hr.out.symm, hF⟩
    ·have d2 : decide (b.n ≤ (j : Int)) = false := by simpa using h2
     by_cases h3 : a.at j < b.at j
     ·have d3 : decide (a.at j < b.at j) = true := by simpa using h3
      have Hr := zb (zoG Oa.out Ob.out wa wb j hlt Hp.out h3);go_wp2_with fail
      go_quiet (fail)
      go_wp2_with fail;go_ret;exact ⟨zbM Hr.out.symm, by first | exact zbd hF _ | exact zbd (zbd hF _) _⟩
     ·have d3 : decide (a.at j < b.at j) = false := by simpa using h3
      by_cases h4 : b.at j < a.at j
      ·have d4 : decide (b.at j < a.at j) = true := by simpa using h4
       have Hr := zb (zoP Oa.out Ob.out wa wb j hlt Hp.out h4);go_wp2_with fail
       go_quiet (fail)
       go_wp2_with fail
       go_quiet (fail)
       go_wp2_with fail;go_ret;exact ⟨zbM Hr.out.symm, by first | exact zbd hF _ | exact zbd (zbd hF _) _⟩
      ·have d4 : decide (b.at j < a.at j) = false := by simpa using h4
       have Hq : Hid (Pre a b (j + 1)) := zb fun t ht => by
        by_cases e : t = j
        ·subst e; exact ⟨by omega, by omega, by omega⟩
        ·exact Hp.out t (by omega)
       go_wp2_with fail
       go_quiet (fail)
       go_wp2_with fail
       go_quiet (fail)
       go_wp2_with fail
       go_roundg (gk - 1)
       case measure => have := Hj.out; omega
       case rel => exact ⟨j + 1, by have := Hj.out; omega, by go_num, Hq, hA, hB, by first | exact zbd hF _ | exact zbd (zbd hF _) _⟩
  ·obtain rfl : j = 8 := by omega
   have Hr := zb (zle Oa.out Ob.out 8 (by omega) Hp.out (zc2 Oa.out).2 (zc2 Ob.out).2);clear hj;go_wp2_with fail;go_ret;exact ⟨zbM Hr.out.symm, hF⟩
end
end Go.Proofs.YtmjjjdikpnhpiaaGreat
