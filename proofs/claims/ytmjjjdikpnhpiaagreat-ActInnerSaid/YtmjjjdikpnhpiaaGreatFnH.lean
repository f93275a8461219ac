/- Both halves of the kids, by the program. -/
import Derived.Test.YtmjjjdikpnhpiaaGreatFnE
import Derived.Test.YtmjjjdikpnhpiaaGreatShort
namespace Go.Proofs.YtmjjjdikpnhpiaaGreat
set_option linter.unusedVariables false
set_option linter.unusedSimpArgs false
set_option maxRecDepth 100000
open Go.RowKit
section
attribute [local go_sem ↓] zt zw zeW
theorem zkK {P : Program} {ops : Array Oper} {Q : Exit → Act → World → Prop} {md : Region.Mode} {S : World → Prop} {fuel : Nat} {listed : Array Bool} {a : Act} {w : World}
 (h : ∀ F : Nat → Array Bool → Act → World → Prop, (∀ fuel listed a w, F fuel listed a w → wpAnyH P md ops Q S fuel listed a w) → (∀ fuel listed a w, wpAnyH P md ops Q S fuel listed a w → F fuel listed a w) → F fuel listed a w) : wpAnyH P md ops Q S fuel listed a w :=
 h _ (fun _ _ _ _ h => h) (fun _ _ _ _ h => h)
theorem Sty.result6 {P : Program} {T n : Nat} {w : World} (S : Sty P T n) {fn : Func} {a b p c d t : Tmp} (h : fn.results = #[.tmp a, .tmp b, .cell p T, .tmp c, .tmp d, .tmp t]) (tmps : Array Value) (g : Nat) (hp : tmps.getD p undef = .pointer (some ⟨g, 0, none⟩)) {T' : Nat} {cs : List Value} (hl : cs.length = n) (ha : Arr w g T' cs.toArray) :
 (results fn tmps).run P w = .ok (.tuple #[tmps.getD a undef, tmps.getD b undef, .agg cs.toArray, tmps.getD c undef, tmps.getD d undef, tmps.getD t undef]) w := by
 have hp' : tmps[p]?.getD undef = .pointer (some ⟨g, 0, none⟩) := by simpa using hp
 simp [results, h, hp', asAddr, S.load hl ha]
theorem znt {W0 w : World} {A : Option Addr} {B n c g : Nat} {l : List Int} (hB : B ≤ w.heap.size) (hb : Has w w.heap.size (some ⟨g, 0, none⟩) [.slice A n c]) (hl : Has w w.heap.size A (zS l)) (hn : l.length = n) (hs : n ≤ 100000) (h0 : Fr W0 w) :
 Calls Tryz.prog 90 #[.slice (some ⟨g, 0, none⟩) 1 1] w fun e w' => ∃ A' c', e = .returned (.slice A' n c') ∧ Hid (Own w' B 3 1 A' n c' (zS l)) ∧ Fr W0 w' :=
 (zix (cc := 1) (xs := [⟨A, n, c, l⟩]) hb (Nat.le_refl _) rfl (by simp) (fun s hs' => by simp at hs'; subst hs'; exact ⟨hl, hn, hs⟩) h0).mono fun e w' h => by
  obtain ⟨A', c', e1, h1, h2⟩ := h;rw [cat1I, hn] at e1 h1;exact ⟨A', c', e1, zb (h1.mono hB), h2⟩
theorem zm5 {W0 w : World} {A : Option Addr} {B n c g : Nat} {l : List RK} (hB : B ≤ w.heap.size) (hb : Has w w.heap.size (some ⟨g, 0, none⟩) [.slice A n c]) (hl : Has w w.heap.size A (zm kc l)) (hn : l.length = n) (hs : n ≤ 100000) (h0 : Fr W0 w) :
 Calls Tryz.prog 91 #[.slice (some ⟨g, 0, none⟩) 1 1] w fun e w' => ∃ A' c', e = .returned (.slice A' n c') ∧ Hid (Own w' B 33 9 A' n c' (zm kc l)) ∧ Fr W0 w' :=
 (zhX (cc := 1) (xs := [⟨A, n, c, l⟩]) hb (Nat.le_refl _) rfl (by simp) (fun s hs' => by simp at hs'; subst hs'; exact ⟨hl, hn, hs⟩) h0).mono fun e w' h => by
  obtain ⟨A', c', e1, h1, h2⟩ := h;rw [cat1K, hn] at e1 h1;exact ⟨A', c', e1, zb (h1.mono hB), h2⟩
theorem zaq {w : World} {B e size n c k : Nat} {A : Option Addr} {xs : List Value} (h : Own w B e size A n c xs) (hk : k < B) (ds : Array Value) : Own (w.setRow k ds) B e size A n c xs :=
 h.kept (row := some k) ⟨rfl, rfl, rfl, by simp [World.setRow], fun j _ hj => setRow_other w k j _ (fun e => hj (by rw [e]))⟩ (by
  cases hA : blk A with
  | none => exact .inl rfl
  | some b =>
   have := (h.lt b hA).1;exact .inr (fun e => by injection e with e; omega))
theorem zcn (w : World) : ∃ Z, w.alloc (.cells (kc zr).toArray 33) = Z ∧ Fr w Z ∧ Fr Z Z ∧ Arr Z w.heap.size 33 (kc zr).toArray ∧ Z.heap.size = w.heap.size + 1 := ⟨_, rfl, zf (ze w) _, ze _, Arr.new w _ _, by simp⟩
def zgH : Value := .tuple #[.slice none 0 0, .slice none 0 0, kv zr, .slice none 0 0, .slice none 0 0, .bool false]
def zfg (W0 : World) (ks : List Int) (ps : List RK) (m : RK) (e : Ending) (w' : World) : Prop := ∃ A1 c1 A2 c2 A3 c3 A4 c4, e = .returned (.tuple #[.slice A1 2 c1, .slice A2 1 c2, kv m, .slice A3 2 c3, .slice A4 1 c4, .bool true]) ∧ Hid (Own w' W0.heap.size 3 1 A1 2 c1 (zS (ks.take 2))) ∧ Hid (Own w' W0.heap.size 33 9 A2 1 c2 (zm kc (ps.take 1))) ∧ Hid (Own w' W0.heap.size 3 1 A3 2 c3 (zS (ks.drop 2))) ∧ Hid (Own w' W0.heap.size 33 9 A4 1 c4 (zm kc (ps.drop 2))) ∧ Fr W0 w'
set_option maxHeartbeats 2000000 in
theorem zmy {W0 w : World} {A A2 : Option Addr} {n c n2 c2 : Nat} (hn : n < 4) (h0 : Fr W0 w) :
 Calls Tryz.prog 112 #[.slice A n c, .slice A2 n2 c2] w fun e w' => e = .returned zgH ∧ Fr W0 w' := by
 obtain ⟨Z, hZ, hF, hZZ, hK, hS⟩ := zcn w;rw [zH] at hZ;have H0 := zb h0;have q1 : ((n : Int) == 4) = false := by simp; omega
 have q2 : ((n : Int) != 4) = true := by simp; omega
 clear h0;unfold zgH;go_enter Tryz.func112, Tryz.ntmps112
 go_wp2_with (first
  | (refine zi (ds := kc zr) zC rfl (.tmp 6) (.tmp 18) rfl w.heap.size 0 rfl rfl (zl _) (zU _) hK (by decide) (zk _ _ (by decide)) ?_; intro W5 hM5 hk5; have hF5 := hk5.fr hF (Nat.le_refl _); clear hk5)
  | fail)
 exact bodyPost_ret (zaf.result6 rfl _ w.heap.size rfl (zl _) hM5) rfl ⟨rfl, za H0.out hF5⟩
abbrev hF4 (A : Option Addr) (c b2 off2 c2 : Nat) (w : World) (m : RK) (s21 s22 s25 s26 s32 s33 s36 s37 : Value) : Act := ⟨#[.slice A 4 c, .slice (some ⟨b2, off2, none⟩) 3 c2, undef, undef, .slice none 0 0, .slice none 0 0, .pointer (some ⟨w.heap.size, 0, none⟩), .slice none 0 0, .slice none 0 0, .bool false, .slice A 4 c, .int .i64 4, .bool false, .bool false, .slice (some ⟨b2, off2, none⟩) 3 c2, .int .i64 3, .bool false, .bool false, undef, .slice A 4 c, .slice A 2 c, s21, s22, .slice (some ⟨b2, off2, none⟩) 3 c2, .slice (some ⟨b2, off2, none⟩) 1 c2, s25, s26, .slice (some ⟨b2, off2, none⟩) 3 c2, .pointer (some ⟨b2, off2 + 9, none⟩), .agg (kc m).toArray, .slice A 4 c, .slice (zam A c 2) 2 (c - 2), s32, s33, .slice (some ⟨b2, off2, none⟩) 3 c2, .slice (zac (some ⟨b2, off2, none⟩) c2 2) 1 (c2 - 2), s36, s37], []⟩
set_option maxHeartbeats 4000000 in
theorem zmz {W0 w : World} {A A2 : Option Addr} {c c2 B B2 : Nat} {ks : List Int} {ps : List RK} {m : RK} (hk : Has w B A (zS ks)) (hB : B ≤ w.heap.size) (hn : ks.length = 4) (hc : 4 ≤ c) (hp : Has w B2 A2 (zm kc ps)) (hB2 : B2 ≤ w.heap.size) (hn2 : ps.length = 3) (hc2 : 3 ≤ c2) (hm : ps[1]? = some m) (h0 : Fr W0 w) :
 Calls Tryz.prog 112 #[.slice A 4 c, .slice A2 3 c2] w (zfg W0 ks ps m) := by
 obtain ⟨Z, hZ, hF, hZZ, hK, hS⟩ := zcn w;rw [zH] at hZ;have HW0 := zb h0;have hkZ := (hk.fr hB hF).mono (Nat.le_trans hB hF.size);have hpZ := (hp.fr hB2 hF).mono (Nat.le_trans hB2 hF.size);obtain ⟨b2, off2, rfl, hb1, hr⟩ := zJ hp (zdX ps) (by decide) (by intro e; rw [e] at hm; simp at hm);have lM := z9 zaf hr (zdX ps) (by omega) hm;simp only [Nat.one_mul] at lM;have q1 : ∀ W, (Instr.slice 22 (.slice A 4 c) none (some (.int .i64 2)) none).run Tryz.prog W = .ok (.slice A 2 c) W := zcu A 4 c 2 (by decide) hc;have q2 : ∀ W, (Instr.slice 22 (.slice A 4 c) (some (.int .i64 2)) none none).run Tryz.prog W = .ok (.slice (zam A c 2) 2 (c - 2)) W := zc1 A 4 c 2 (by decide) hc;have q3 : ∀ W, (Instr.sliceAt 22 (.slice A 4 c) none (some (.int .i64 2)) none).run Tryz.prog W = .ok (.slice A 2 c) W := zdf A 4 c 2 (by decide) hc;have q4 : ∀ W, (Instr.sliceAt 22 (.slice A 4 c) (some (.int .i64 2)) none none).run Tryz.prog W = .ok (.slice (zam A c 2) 2 (c - 2)) W := zdh A 4 c 2 (by decide) hc;have q5 : ∀ W, (Instr.slice 24 (.slice (some ⟨b2, off2, none⟩) 3 c2) none (some (.int .i64 1)) none).run Tryz.prog W = .ok (.slice (some ⟨b2, off2, none⟩) 1 c2) W := zdo _ 3 c2 1 (by decide) hc2
 have q6 : ∀ W, (Instr.slice 24 (.slice (some ⟨b2, off2, none⟩) 3 c2) (some (.int .i64 2)) none none).run Tryz.prog W = .ok (.slice (zac (some ⟨b2, off2, none⟩) c2 2) 1 (c2 - 2)) W := zdp _ 3 c2 2 (by decide) hc2;have q7 : ∀ W, (Instr.sliceAt 24 (.slice (some ⟨b2, off2, none⟩) 3 c2) none (some (.int .i64 1)) none).run Tryz.prog W = .ok (.slice (some ⟨b2, off2, none⟩) 1 c2) W := zb0 _ 3 c2 1 (by decide) hc2;have q8 : ∀ W, (Instr.sliceAt 24 (.slice (some ⟨b2, off2, none⟩) 3 c2) (some (.int .i64 2)) none none).run Tryz.prog W = .ok (.slice (zac (some ⟨b2, off2, none⟩) c2 2) 1 (c2 - 2)) W := zdF _ 3 c2 2 (by decide) hc2;have r1 := zc5 hkZ 2;have r3 := zhV (c := c) hkZ (t := 2) (by rw [hn]; decide) (by rw [hn]; exact hc);have k1 : Has Z Z.heap.size (some ⟨b2, off2, none⟩) (zm kc (ps.take 1)) := zib hpZ 1;have k3 : Has Z Z.heap.size (zac (some ⟨b2, off2, none⟩) c2 2) (zm kc (ps.drop 2)) := zf3 (c := c2) hpZ (t := 2) (by rw [hn2]; decide) (by rw [hn2]; exact hc2);have e1 : (ks.take 2).length = 2 := by rw [List.length_take, hn]; rfl
 have e3 : (ks.drop 2).length = 2 := by rw [List.length_drop, hn]
 have f1 : (ps.take 1).length = 1 := by rw [List.length_take, hn2]; rfl
 have f3 : (ps.drop 2).length = 1 := by rw [List.length_drop, hn2]
 have cJ1 : ∀ W g, Fr Z W → Has W W.heap.size (some ⟨g, 0, none⟩) [.slice A 2 c] → Calls Tryz.prog 90 #[.slice (some ⟨g, 0, none⟩) 1 1] W fun e w' => ∃ A' c', e = .returned (.slice A' 2 c') ∧ Hid (Own w' Z.heap.size 3 1 A' 2 c' (zS (ks.take 2))) ∧ Fr W w' := fun W g h hb => znt h.size hb (r1.step h) e1 (by decide) (ze W);have cJ3 : ∀ W g, Fr Z W → Has W W.heap.size (some ⟨g, 0, none⟩) [.slice (zam A c 2) 2 (c - 2)] → Calls Tryz.prog 90 #[.slice (some ⟨g, 0, none⟩) 1 1] W fun e w' => ∃ A' c', e = .returned (.slice A' 2 c') ∧ Hid (Own w' Z.heap.size 3 1 A' 2 c' (zS (ks.drop 2))) ∧ Fr W w' := fun W g h hb => znt h.size hb (r3.step h) e3 (by decide) (ze W);have cK1 : ∀ W g, Fr Z W → Has W W.heap.size (some ⟨g, 0, none⟩) [.slice (some ⟨b2, off2, none⟩) 1 c2] → Calls Tryz.prog 91 #[.slice (some ⟨g, 0, none⟩) 1 1] W fun e w' => ∃ A' c', e = .returned (.slice A' 1 c') ∧ Hid (Own w' Z.heap.size 33 9 A' 1 c' (zm kc (ps.take 1))) ∧ Fr W w' := fun W g h hb => zm5 h.size hb (k1.step h) f1 (by decide) (ze W)
 have cK3 : ∀ W g, Fr Z W → Has W W.heap.size (some ⟨g, 0, none⟩) [.slice (zac (some ⟨b2, off2, none⟩) c2 2) 1 (c2 - 2)] → Calls Tryz.prog 91 #[.slice (some ⟨g, 0, none⟩) 1 1] W fun e w' => ∃ A' c', e = .returned (.slice A' 1 c') ∧ Hid (Own w' Z.heap.size 33 9 A' 1 c' (zm kc (ps.drop 2))) ∧ Fr W w' := fun W g h hb => zm5 h.size hb (k3.step h) f3 (by decide) (ze W);have hrD := zn hZZ;have hFw := hF;have hwD := zn hF;have hKZ := zb hK;have hSz := zb hS;clear hk hp hkZ hpZ hr hm hn hn2 hF h0 r1 r3 k1 k3 e1 e3 f1 f3 hB hB2 hK hS;unfold zfg;go_enter Tryz.func112, Tryz.ntmps112;go_wp2_with fail;refine wp_region_noPanic ?_;refine wp_region_held_drew (S := fun w' => Fr w w') (by kernel_rfl) hwD (fun hHeld => ?_);change wpAnyH _ _ _ _ _ _ _ _ _;clear hHeld;generalize Z.drew = X0 at *;refine xto 0 ?_;refine xto 1 ?_;refine xto 4 ?_;refine xto 5 ?_;refine xto 8 ?_;refine xto 9 ?_;refine xto 10 ?_;refine xto 11 ?_;refine xto 12 ?_;refine xto 15 ?_;refine xto 16 ?_;refine zkK ?_;intro F hF hB
 have M_2_3_6_7_13_14_17_18 : ∀ (g2 : Nat) (A3 : Option Addr) (c3 : Nat) (g6 : Nat) (A7 : Option Addr) (c7 : Nat) (g13 : Nat) (A14 : Option Addr) (c14 : Nat) (g17 : Nat) (A18 : Option Addr) (c18 : Nat) (W : World) (ls : Array Bool), ls = #[true, true, true, true, true, true, true, true, true, true, true, true, true, true, true, true, true, true, true, false, false, false, false, false, false] → Fr Z W → Hid (Own W Z.heap.size 3 1 A3 2 c3 (zS (ks.take 2))) → Hid (Own W Z.heap.size 33 9 A7 1 c7 (zm kc (ps.take 1))) → Hid (Own W Z.heap.size 3 1 A14 2 c14 (zS (ks.drop 2))) → Hid (Own W Z.heap.size 33 9 A18 1 c18 (zm kc (ps.drop 2))) → F 6 ls (hF4 A c b2 off2 c2 w m (.slice (some ⟨g2, 0, none⟩) 1 1) (.slice A3 2 c3) (.slice (some ⟨g6, 0, none⟩) 1 1) (.slice A7 1 c7) (.slice (some ⟨g13, 0, none⟩) 1 1) (.slice A14 2 c14) (.slice (some ⟨g17, 0, none⟩) 1 1) (.slice A18 1 c18)) W := by
  intro g2 A3 c3 g6 A7 c7 g13 A14 c14 g17 A18 c18 W ls hls hw r3 r7 r14 r18;subst hls;refine hB _ _ _ _ ?_;unfold hF4;have hwW := za hFw hw;have hob : zbc W w.heap.size 33 9 := zbc.of (hKZ.out.below hw hKZ.out.lt) (zl _);have st : (stS 33 (.pointer (some ⟨w.heap.size, 0, none⟩)) (.agg (kc m).toArray)).run Tryz.prog W = .ok () (W.setRow w.heap.size (kc m).toArray) := zjR zC hob (zl _) (zU _);have hset : Fr w (W.setRow w.heap.size (kc m).toArray) := zaM hwW (Nat.le_refl _) _;refine xto 19 ?_;refine xto 20 ?_;refine xr 21 fun K hK0 => ?_;go_simp;refine xk hK0 hset ?_;clear hK0 K
  try simp only [xp]
  refine xto 22 ?_;refine xto 23 ?_;refine xto 24 ?_;refine wpAnyH_done (by kernel_rfl) ?_ _;refine NoPanic.normal ?_;go_wp2_with fail;refine bodyPost_ret (zaf.result6 (cs := kc m) rfl _ w.heap.size rfl (zl _) (zbc.put hob _)) rfl ?_;have hlt : w.heap.size < Z.heap.size := by rw [hSz.out]; omega
  exact ⟨A3, c3, A7, c7, A14, c14, A18, c18, rfl, zb ((zaq r3.out hlt _).mono (Nat.le_trans HW0.out.size (Nat.le_of_lt hlt))), zb ((zaq r7.out hlt _).mono (Nat.le_trans HW0.out.size (Nat.le_of_lt hlt))), zb ((zaq r14.out hlt _).mono (Nat.le_trans HW0.out.size (Nat.le_of_lt hlt))), zb ((zaq r18.out hlt _).mono (Nat.le_trans HW0.out.size (Nat.le_of_lt hlt))), za HW0.out hset⟩
 have M_2_3_6_7_13_14_17 : ∀ (g2 : Nat) (A3 : Option Addr) (c3 : Nat) (g6 : Nat) (A7 : Option Addr) (c7 : Nat) (g13 : Nat) (A14 : Option Addr) (c14 : Nat) (g17 : Nat) (W : World) (ls : Array Bool), ls = #[true, true, true, true, true, true, true, true, true, true, true, true, true, true, true, true, true, true, false, false, false, false, false, false, false] → Fr Z W → Hid (Own W Z.heap.size 3 1 A3 2 c3 (zS (ks.take 2))) → Hid (Own W Z.heap.size 33 9 A7 1 c7 (zm kc (ps.take 1))) → Hid (Own W Z.heap.size 3 1 A14 2 c14 (zS (ks.drop 2))) → Has W W.heap.size (some ⟨g17, 0, none⟩) [.slice (zac (some ⟨b2, off2, none⟩) c2 2) 1 (c2 - 2)] → F 7 ls (hF4 A c b2 off2 c2 w m (.slice (some ⟨g2, 0, none⟩) 1 1) (.slice A3 2 c3) (.slice (some ⟨g6, 0, none⟩) 1 1) (.slice A7 1 c7) (.slice (some ⟨g13, 0, none⟩) 1 1) (.slice A14 2 c14) (.slice (some ⟨g17, 0, none⟩) 1 1) undef) W := by
  intro g2 A3 c3 g6 A7 c7 g13 A14 c14 g17 W ls hls hw r3 r7 r14 r17;subst hls;refine hB _ _ _ _ ?_;unfold hF4;refine xr 18 fun K hK0 => ?_
  ·go_simp
   refine (cK3 W g17 hw r17).mono ?_;rintro e W2 ⟨A18, c18, rfl, r18, s2⟩;go_simp;refine xk hK0 (za hFw (za hw s2)) ?_;clear hK0 K
   try simp only [xp]
   exact hF _ _ _ _ (M_2_3_6_7_13_14_17_18 g2 A3 c3 g6 A7 c7 g13 A14 c14 g17 A18 c18 W2 _ (by kernel_rfl) (za hw s2) (zb (Own.below r3.out s2 (Nat.le_refl _))) (zb (Own.below r7.out s2 (Nat.le_refl _))) (zb (Own.below r14.out s2 (Nat.le_refl _))) (r18))
 have M_2_3_6_7_13_14 : ∀ (g2 : Nat) (A3 : Option Addr) (c3 : Nat) (g6 : Nat) (A7 : Option Addr) (c7 : Nat) (g13 : Nat) (A14 : Option Addr) (c14 : Nat) (W : World) (ls : Array Bool), ls = #[true, true, true, true, true, true, true, true, true, true, true, true, true, true, true, true, true, false, false, false, false, false, false, false, false] → Fr Z W → Hid (Own W Z.heap.size 3 1 A3 2 c3 (zS (ks.take 2))) → Hid (Own W Z.heap.size 33 9 A7 1 c7 (zm kc (ps.take 1))) → Hid (Own W Z.heap.size 3 1 A14 2 c14 (zS (ks.drop 2))) → F 8 ls (hF4 A c b2 off2 c2 w m (.slice (some ⟨g2, 0, none⟩) 1 1) (.slice A3 2 c3) (.slice (some ⟨g6, 0, none⟩) 1 1) (.slice A7 1 c7) (.slice (some ⟨g13, 0, none⟩) 1 1) (.slice A14 2 c14) undef undef) W := by
  intro g2 A3 c3 g6 A7 c7 g13 A14 c14 W ls hls hw r3 r7 r14;subst hls;refine hB _ _ _ _ ?_;unfold hF4;refine xr 17 fun K hK0 => ?_
  ·go_simp
   refine xk hK0 (za hFw (zf hw _)) ?_;clear hK0 K
   try simp only [xp]
   exact hF _ _ _ _ (M_2_3_6_7_13_14_17 g2 A3 c3 g6 A7 c7 g13 A14 c14 W.heap.size (W.alloc (.cells [.slice (zac (some ⟨b2, off2, none⟩) c2 2) 1 (c2 - 2)].toArray 24)) _ (by kernel_rfl) (za hw (zf (ze W) _)) (zb (Own.below r3.out (zf (ze W) _) (Nat.le_refl _))) (zb (Own.below r7.out (zf (ze W) _) (Nat.le_refl _))) (zb (Own.below r14.out (zf (ze W) _) (Nat.le_refl _))) (zA (Arr.new W [.slice (zac (some ⟨b2, off2, none⟩) c2 2) 1 (c2 - 2)].toArray 24)))
 have M_2_3_6_7_13_17 : ∀ (g2 : Nat) (A3 : Option Addr) (c3 : Nat) (g6 : Nat) (A7 : Option Addr) (c7 : Nat) (g13 : Nat) (g17 : Nat) (W : World) (ls : Array Bool), ls = #[true, true, true, true, true, true, true, true, true, true, true, true, true, true, false, true, true, true, false, false, false, false, false, false, false] → Fr Z W → Hid (Own W Z.heap.size 3 1 A3 2 c3 (zS (ks.take 2))) → Hid (Own W Z.heap.size 33 9 A7 1 c7 (zm kc (ps.take 1))) → Has W W.heap.size (some ⟨g13, 0, none⟩) [.slice (zam A c 2) 2 (c - 2)] → Has W W.heap.size (some ⟨g17, 0, none⟩) [.slice (zac (some ⟨b2, off2, none⟩) c2 2) 1 (c2 - 2)] → F 8 ls (hF4 A c b2 off2 c2 w m (.slice (some ⟨g2, 0, none⟩) 1 1) (.slice A3 2 c3) (.slice (some ⟨g6, 0, none⟩) 1 1) (.slice A7 1 c7) (.slice (some ⟨g13, 0, none⟩) 1 1) undef (.slice (some ⟨g17, 0, none⟩) 1 1) undef) W := by
  intro g2 A3 c3 g6 A7 c7 g13 g17 W ls hls hw r3 r7 r13 r17;subst hls;refine hB _ _ _ _ ?_;unfold hF4;refine xr 14 fun K hK0 => ?_
  ·go_simp
   refine (cJ3 W g13 hw r13).mono ?_;rintro e W2 ⟨A14, c14, rfl, r14, s2⟩;go_simp;refine xk hK0 (za hFw (za hw s2)) ?_;clear hK0 K
   try simp only [xp]
   exact hF _ _ _ _ (M_2_3_6_7_13_14_17 g2 A3 c3 g6 A7 c7 g13 A14 c14 g17 W2 _ (by kernel_rfl) (za hw s2) (zb (Own.below r3.out s2 (Nat.le_refl _))) (zb (Own.below r7.out s2 (Nat.le_refl _))) (r14) (r17.step s2))
 have M_2_3_6_7_13 : ∀ (g2 : Nat) (A3 : Option Addr) (c3 : Nat) (g6 : Nat) (A7 : Option Addr) (c7 : Nat) (g13 : Nat) (W : World) (ls : Array Bool), ls = #[true, true, true, true, true, true, true, true, true, true, true, true, true, true, false, true, true, false, false, false, false, false, false, false, false] → Fr Z W → Hid (Own W Z.heap.size 3 1 A3 2 c3 (zS (ks.take 2))) → Hid (Own W Z.heap.size 33 9 A7 1 c7 (zm kc (ps.take 1))) → Has W W.heap.size (some ⟨g13, 0, none⟩) [.slice (zam A c 2) 2 (c - 2)] → F 9 ls (hF4 A c b2 off2 c2 w m (.slice (some ⟨g2, 0, none⟩) 1 1) (.slice A3 2 c3) (.slice (some ⟨g6, 0, none⟩) 1 1) (.slice A7 1 c7) (.slice (some ⟨g13, 0, none⟩) 1 1) undef undef undef) W := by
  intro g2 A3 c3 g6 A7 c7 g13 W ls hls hw r3 r7 r13;subst hls;refine hB _ _ _ _ ?_;unfold hF4;refine xrr 14 17 (fun K hK0 => ?_) fun K hK0 => ?_
  ·go_simp
   refine (cJ3 W g13 hw r13).mono ?_;rintro e W2 ⟨A14, c14, rfl, r14, s2⟩;go_simp;refine xk hK0 (za hFw (za hw s2)) ?_;clear hK0 K
   try simp only [xp]
   exact hF _ _ _ _ (M_2_3_6_7_13_14 g2 A3 c3 g6 A7 c7 g13 A14 c14 W2 _ (by kernel_rfl) (za hw s2) (zb (Own.below r3.out s2 (Nat.le_refl _))) (zb (Own.below r7.out s2 (Nat.le_refl _))) (r14))
  ·go_simp
   refine xk hK0 (za hFw (zf hw _)) ?_;clear hK0 K
   try simp only [xp]
   exact hF _ _ _ _ (M_2_3_6_7_13_17 g2 A3 c3 g6 A7 c7 g13 W.heap.size (W.alloc (.cells [.slice (zac (some ⟨b2, off2, none⟩) c2 2) 1 (c2 - 2)].toArray 24)) _ (by kernel_rfl) (za hw (zf (ze W) _)) (zb (Own.below r3.out (zf (ze W) _) (Nat.le_refl _))) (zb (Own.below r7.out (zf (ze W) _) (Nat.le_refl _))) (r13.step (zf (ze W) _)) (zA (Arr.new W [.slice (zac (some ⟨b2, off2, none⟩) c2 2) 1 (c2 - 2)].toArray 24)))
 have M_2_3_6_7_17 : ∀ (g2 : Nat) (A3 : Option Addr) (c3 : Nat) (g6 : Nat) (A7 : Option Addr) (c7 : Nat) (g17 : Nat) (W : World) (ls : Array Bool), ls = #[true, true, true, true, true, true, true, true, true, true, true, true, true, false, false, true, true, true, false, false, false, false, false, false, false] → Fr Z W → Hid (Own W Z.heap.size 3 1 A3 2 c3 (zS (ks.take 2))) → Hid (Own W Z.heap.size 33 9 A7 1 c7 (zm kc (ps.take 1))) → Has W W.heap.size (some ⟨g17, 0, none⟩) [.slice (zac (some ⟨b2, off2, none⟩) c2 2) 1 (c2 - 2)] → F 9 ls (hF4 A c b2 off2 c2 w m (.slice (some ⟨g2, 0, none⟩) 1 1) (.slice A3 2 c3) (.slice (some ⟨g6, 0, none⟩) 1 1) (.slice A7 1 c7) undef undef (.slice (some ⟨g17, 0, none⟩) 1 1) undef) W := by
  intro g2 A3 c3 g6 A7 c7 g17 W ls hls hw r3 r7 r17;subst hls;refine hB _ _ _ _ ?_;unfold hF4;refine xr 13 fun K hK0 => ?_
  ·go_simp
   refine xk hK0 (za hFw (zf hw _)) ?_;clear hK0 K
   try simp only [xp]
   exact hF _ _ _ _ (M_2_3_6_7_13_17 g2 A3 c3 g6 A7 c7 W.heap.size g17 (W.alloc (.cells [.slice (zam A c 2) 2 (c - 2)].toArray 22)) _ (by kernel_rfl) (za hw (zf (ze W) _)) (zb (Own.below r3.out (zf (ze W) _) (Nat.le_refl _))) (zb (Own.below r7.out (zf (ze W) _) (Nat.le_refl _))) (zA (Arr.new W [.slice (zam A c 2) 2 (c - 2)].toArray 22)) (r17.step (zf (ze W) _)))
 have M_2_3_6_13_17 : ∀ (g2 : Nat) (A3 : Option Addr) (c3 : Nat) (g6 : Nat) (g13 : Nat) (g17 : Nat) (W : World) (ls : Array Bool), ls = #[true, true, true, true, true, true, true, false, true, true, true, true, true, true, false, true, true, true, false, false, false, false, false, false, false] → Fr Z W → Hid (Own W Z.heap.size 3 1 A3 2 c3 (zS (ks.take 2))) → Has W W.heap.size (some ⟨g6, 0, none⟩) [.slice (some ⟨b2, off2, none⟩) 1 c2] → Has W W.heap.size (some ⟨g13, 0, none⟩) [.slice (zam A c 2) 2 (c - 2)] → Has W W.heap.size (some ⟨g17, 0, none⟩) [.slice (zac (some ⟨b2, off2, none⟩) c2 2) 1 (c2 - 2)] → F 9 ls (hF4 A c b2 off2 c2 w m (.slice (some ⟨g2, 0, none⟩) 1 1) (.slice A3 2 c3) (.slice (some ⟨g6, 0, none⟩) 1 1) undef (.slice (some ⟨g13, 0, none⟩) 1 1) undef (.slice (some ⟨g17, 0, none⟩) 1 1) undef) W := by
  intro g2 A3 c3 g6 g13 g17 W ls hls hw r3 r6 r13 r17;subst hls;refine hB _ _ _ _ ?_;unfold hF4;refine xr 7 fun K hK0 => ?_
  ·go_simp
   refine (cK1 W g6 hw r6).mono ?_;rintro e W2 ⟨A7, c7, rfl, r7, s2⟩;go_simp;refine xk hK0 (za hFw (za hw s2)) ?_;clear hK0 K
   try simp only [xp]
   exact hF _ _ _ _ (M_2_3_6_7_13_17 g2 A3 c3 g6 A7 c7 g13 g17 W2 _ (by kernel_rfl) (za hw s2) (zb (Own.below r3.out s2 (Nat.le_refl _))) (r7) (r13.step s2) (r17.step s2))
 have M_2_3_6_7 : ∀ (g2 : Nat) (A3 : Option Addr) (c3 : Nat) (g6 : Nat) (A7 : Option Addr) (c7 : Nat) (W : World) (ls : Array Bool), ls = #[true, true, true, true, true, true, true, true, true, true, true, true, true, false, false, true, true, false, false, false, false, false, false, false, false] → Fr Z W → Hid (Own W Z.heap.size 3 1 A3 2 c3 (zS (ks.take 2))) → Hid (Own W Z.heap.size 33 9 A7 1 c7 (zm kc (ps.take 1))) → F 10 ls (hF4 A c b2 off2 c2 w m (.slice (some ⟨g2, 0, none⟩) 1 1) (.slice A3 2 c3) (.slice (some ⟨g6, 0, none⟩) 1 1) (.slice A7 1 c7) undef undef undef undef) W := by
  intro g2 A3 c3 g6 A7 c7 W ls hls hw r3 r7;subst hls;refine hB _ _ _ _ ?_;unfold hF4;refine xrr 13 17 (fun K hK0 => ?_) fun K hK0 => ?_
  ·go_simp
   refine xk hK0 (za hFw (zf hw _)) ?_;clear hK0 K
   try simp only [xp]
   exact hF _ _ _ _ (M_2_3_6_7_13 g2 A3 c3 g6 A7 c7 W.heap.size (W.alloc (.cells [.slice (zam A c 2) 2 (c - 2)].toArray 22)) _ (by kernel_rfl) (za hw (zf (ze W) _)) (zb (Own.below r3.out (zf (ze W) _) (Nat.le_refl _))) (zb (Own.below r7.out (zf (ze W) _) (Nat.le_refl _))) (zA (Arr.new W [.slice (zam A c 2) 2 (c - 2)].toArray 22)))
  ·go_simp
   refine xk hK0 (za hFw (zf hw _)) ?_;clear hK0 K
   try simp only [xp]
   exact hF _ _ _ _ (M_2_3_6_7_17 g2 A3 c3 g6 A7 c7 W.heap.size (W.alloc (.cells [.slice (zac (some ⟨b2, off2, none⟩) c2 2) 1 (c2 - 2)].toArray 24)) _ (by kernel_rfl) (za hw (zf (ze W) _)) (zb (Own.below r3.out (zf (ze W) _) (Nat.le_refl _))) (zb (Own.below r7.out (zf (ze W) _) (Nat.le_refl _))) (zA (Arr.new W [.slice (zac (some ⟨b2, off2, none⟩) c2 2) 1 (c2 - 2)].toArray 24)))
 have M_2_3_6_13 : ∀ (g2 : Nat) (A3 : Option Addr) (c3 : Nat) (g6 : Nat) (g13 : Nat) (W : World) (ls : Array Bool), ls = #[true, true, true, true, true, true, true, false, true, true, true, true, true, true, false, true, true, false, false, false, false, false, false, false, false] → Fr Z W → Hid (Own W Z.heap.size 3 1 A3 2 c3 (zS (ks.take 2))) → Has W W.heap.size (some ⟨g6, 0, none⟩) [.slice (some ⟨b2, off2, none⟩) 1 c2] → Has W W.heap.size (some ⟨g13, 0, none⟩) [.slice (zam A c 2) 2 (c - 2)] → F 10 ls (hF4 A c b2 off2 c2 w m (.slice (some ⟨g2, 0, none⟩) 1 1) (.slice A3 2 c3) (.slice (some ⟨g6, 0, none⟩) 1 1) undef (.slice (some ⟨g13, 0, none⟩) 1 1) undef undef undef) W := by
  intro g2 A3 c3 g6 g13 W ls hls hw r3 r6 r13;subst hls;refine hB _ _ _ _ ?_;unfold hF4;refine xrr 7 17 (fun K hK0 => ?_) fun K hK0 => ?_
  ·go_simp
   refine (cK1 W g6 hw r6).mono ?_;rintro e W2 ⟨A7, c7, rfl, r7, s2⟩;go_simp;refine xk hK0 (za hFw (za hw s2)) ?_;clear hK0 K
   try simp only [xp]
   exact hF _ _ _ _ (M_2_3_6_7_13 g2 A3 c3 g6 A7 c7 g13 W2 _ (by kernel_rfl) (za hw s2) (zb (Own.below r3.out s2 (Nat.le_refl _))) (r7) (r13.step s2))
  ·go_simp
   refine xk hK0 (za hFw (zf hw _)) ?_;clear hK0 K
   try simp only [xp]
   exact hF _ _ _ _ (M_2_3_6_13_17 g2 A3 c3 g6 g13 W.heap.size (W.alloc (.cells [.slice (zac (some ⟨b2, off2, none⟩) c2 2) 1 (c2 - 2)].toArray 24)) _ (by kernel_rfl) (za hw (zf (ze W) _)) (zb (Own.below r3.out (zf (ze W) _) (Nat.le_refl _))) (r6.step (zf (ze W) _)) (r13.step (zf (ze W) _)) (zA (Arr.new W [.slice (zac (some ⟨b2, off2, none⟩) c2 2) 1 (c2 - 2)].toArray 24)))
 have M_2_3_6_17 : ∀ (g2 : Nat) (A3 : Option Addr) (c3 : Nat) (g6 : Nat) (g17 : Nat) (W : World) (ls : Array Bool), ls = #[true, true, true, true, true, true, true, false, true, true, true, true, true, false, false, true, true, true, false, false, false, false, false, false, false] → Fr Z W → Hid (Own W Z.heap.size 3 1 A3 2 c3 (zS (ks.take 2))) → Has W W.heap.size (some ⟨g6, 0, none⟩) [.slice (some ⟨b2, off2, none⟩) 1 c2] → Has W W.heap.size (some ⟨g17, 0, none⟩) [.slice (zac (some ⟨b2, off2, none⟩) c2 2) 1 (c2 - 2)] → F 10 ls (hF4 A c b2 off2 c2 w m (.slice (some ⟨g2, 0, none⟩) 1 1) (.slice A3 2 c3) (.slice (some ⟨g6, 0, none⟩) 1 1) undef undef undef (.slice (some ⟨g17, 0, none⟩) 1 1) undef) W := by
  intro g2 A3 c3 g6 g17 W ls hls hw r3 r6 r17;subst hls;refine hB _ _ _ _ ?_;unfold hF4;refine xrr 7 13 (fun K hK0 => ?_) fun K hK0 => ?_
  ·go_simp
   refine (cK1 W g6 hw r6).mono ?_;rintro e W2 ⟨A7, c7, rfl, r7, s2⟩;go_simp;refine xk hK0 (za hFw (za hw s2)) ?_;clear hK0 K
   try simp only [xp]
   exact hF _ _ _ _ (M_2_3_6_7_17 g2 A3 c3 g6 A7 c7 g17 W2 _ (by kernel_rfl) (za hw s2) (zb (Own.below r3.out s2 (Nat.le_refl _))) (r7) (r17.step s2))
  ·go_simp
   refine xk hK0 (za hFw (zf hw _)) ?_;clear hK0 K
   try simp only [xp]
   exact hF _ _ _ _ (M_2_3_6_13_17 g2 A3 c3 g6 W.heap.size g17 (W.alloc (.cells [.slice (zam A c 2) 2 (c - 2)].toArray 22)) _ (by kernel_rfl) (za hw (zf (ze W) _)) (zb (Own.below r3.out (zf (ze W) _) (Nat.le_refl _))) (r6.step (zf (ze W) _)) (zA (Arr.new W [.slice (zam A c 2) 2 (c - 2)].toArray 22)) (r17.step (zf (ze W) _)))
 have M_2_3_13_17 : ∀ (g2 : Nat) (A3 : Option Addr) (c3 : Nat) (g13 : Nat) (g17 : Nat) (W : World) (ls : Array Bool), ls = #[true, true, true, true, true, true, false, false, true, true, true, true, true, true, false, true, true, true, false, false, false, false, false, false, false] → Fr Z W → Hid (Own W Z.heap.size 3 1 A3 2 c3 (zS (ks.take 2))) → Has W W.heap.size (some ⟨g13, 0, none⟩) [.slice (zam A c 2) 2 (c - 2)] → Has W W.heap.size (some ⟨g17, 0, none⟩) [.slice (zac (some ⟨b2, off2, none⟩) c2 2) 1 (c2 - 2)] → F 10 ls (hF4 A c b2 off2 c2 w m (.slice (some ⟨g2, 0, none⟩) 1 1) (.slice A3 2 c3) undef undef (.slice (some ⟨g13, 0, none⟩) 1 1) undef (.slice (some ⟨g17, 0, none⟩) 1 1) undef) W := by
  intro g2 A3 c3 g13 g17 W ls hls hw r3 r13 r17;subst hls;refine hB _ _ _ _ ?_;unfold hF4;refine xr 6 fun K hK0 => ?_
  ·go_simp
   refine xk hK0 (za hFw (zf hw _)) ?_;clear hK0 K
   try simp only [xp]
   exact hF _ _ _ _ (M_2_3_6_13_17 g2 A3 c3 W.heap.size g13 g17 (W.alloc (.cells [.slice (some ⟨b2, off2, none⟩) 1 c2].toArray 24)) _ (by kernel_rfl) (za hw (zf (ze W) _)) (zb (Own.below r3.out (zf (ze W) _) (Nat.le_refl _))) (zA (Arr.new W [.slice (some ⟨b2, off2, none⟩) 1 c2].toArray 24)) (r13.step (zf (ze W) _)) (r17.step (zf (ze W) _)))
 have M_2_6_13_17 : ∀ (g2 : Nat) (g6 : Nat) (g13 : Nat) (g17 : Nat) (W : World) (ls : Array Bool), ls = #[true, true, true, false, true, true, true, false, true, true, true, true, true, true, false, true, true, true, false, false, false, false, false, false, false] → Fr Z W → Has W W.heap.size (some ⟨g2, 0, none⟩) [.slice A 2 c] → Has W W.heap.size (some ⟨g6, 0, none⟩) [.slice (some ⟨b2, off2, none⟩) 1 c2] → Has W W.heap.size (some ⟨g13, 0, none⟩) [.slice (zam A c 2) 2 (c - 2)] → Has W W.heap.size (some ⟨g17, 0, none⟩) [.slice (zac (some ⟨b2, off2, none⟩) c2 2) 1 (c2 - 2)] → F 10 ls (hF4 A c b2 off2 c2 w m (.slice (some ⟨g2, 0, none⟩) 1 1) undef (.slice (some ⟨g6, 0, none⟩) 1 1) undef (.slice (some ⟨g13, 0, none⟩) 1 1) undef (.slice (some ⟨g17, 0, none⟩) 1 1) undef) W := by
  intro g2 g6 g13 g17 W ls hls hw r2 r6 r13 r17;subst hls;refine hB _ _ _ _ ?_;unfold hF4;refine xr 3 fun K hK0 => ?_
  ·go_simp
   refine (cJ1 W g2 hw r2).mono ?_;rintro e W2 ⟨A3, c3, rfl, r3, s2⟩;go_simp;refine xk hK0 (za hFw (za hw s2)) ?_;clear hK0 K
   try simp only [xp]
   exact hF _ _ _ _ (M_2_3_6_13_17 g2 A3 c3 g6 g13 g17 W2 _ (by kernel_rfl) (za hw s2) (r3) (r6.step s2) (r13.step s2) (r17.step s2))
 have M_2_3_6 : ∀ (g2 : Nat) (A3 : Option Addr) (c3 : Nat) (g6 : Nat) (W : World) (ls : Array Bool), ls = #[true, true, true, true, true, true, true, false, true, true, true, true, true, false, false, true, true, false, false, false, false, false, false, false, false] → Fr Z W → Hid (Own W Z.heap.size 3 1 A3 2 c3 (zS (ks.take 2))) → Has W W.heap.size (some ⟨g6, 0, none⟩) [.slice (some ⟨b2, off2, none⟩) 1 c2] → F 11 ls (hF4 A c b2 off2 c2 w m (.slice (some ⟨g2, 0, none⟩) 1 1) (.slice A3 2 c3) (.slice (some ⟨g6, 0, none⟩) 1 1) undef undef undef undef undef) W := by
  intro g2 A3 c3 g6 W ls hls hw r3 r6;subst hls;refine hB _ _ _ _ ?_;unfold hF4;refine wpAnyH_ready (rs := [7, 13, 17]) (by kernel_rfl) (by simp) ?_;refine AllReadyH.cons rfl (fun K hK0 => ?_) (AllReadyH.cons rfl (fun K hK0 => ?_) (AllReadyH.cons rfl (fun K hK0 => ?_) (AllReadyH.nil)))
  ·go_simp
   refine (cK1 W g6 hw r6).mono ?_;rintro e W2 ⟨A7, c7, rfl, r7, s2⟩;go_simp;refine xk hK0 (za hFw (za hw s2)) ?_;clear hK0 K
   try simp only [xp]
   exact hF _ _ _ _ (M_2_3_6_7 g2 A3 c3 g6 A7 c7 W2 _ (by kernel_rfl) (za hw s2) (zb (Own.below r3.out s2 (Nat.le_refl _))) (r7))
  ·go_simp
   refine xk hK0 (za hFw (zf hw _)) ?_;clear hK0 K
   try simp only [xp]
   exact hF _ _ _ _ (M_2_3_6_13 g2 A3 c3 g6 W.heap.size (W.alloc (.cells [.slice (zam A c 2) 2 (c - 2)].toArray 22)) _ (by kernel_rfl) (za hw (zf (ze W) _)) (zb (Own.below r3.out (zf (ze W) _) (Nat.le_refl _))) (r6.step (zf (ze W) _)) (zA (Arr.new W [.slice (zam A c 2) 2 (c - 2)].toArray 22)))
  ·go_simp
   refine xk hK0 (za hFw (zf hw _)) ?_;clear hK0 K
   try simp only [xp]
   exact hF _ _ _ _ (M_2_3_6_17 g2 A3 c3 g6 W.heap.size (W.alloc (.cells [.slice (zac (some ⟨b2, off2, none⟩) c2 2) 1 (c2 - 2)].toArray 24)) _ (by kernel_rfl) (za hw (zf (ze W) _)) (zb (Own.below r3.out (zf (ze W) _) (Nat.le_refl _))) (r6.step (zf (ze W) _)) (zA (Arr.new W [.slice (zac (some ⟨b2, off2, none⟩) c2 2) 1 (c2 - 2)].toArray 24)))
 have M_2_3_13 : ∀ (g2 : Nat) (A3 : Option Addr) (c3 : Nat) (g13 : Nat) (W : World) (ls : Array Bool), ls = #[true, true, true, true, true, true, false, false, true, true, true, true, true, true, false, true, true, false, false, false, false, false, false, false, false] → Fr Z W → Hid (Own W Z.heap.size 3 1 A3 2 c3 (zS (ks.take 2))) → Has W W.heap.size (some ⟨g13, 0, none⟩) [.slice (zam A c 2) 2 (c - 2)] → F 11 ls (hF4 A c b2 off2 c2 w m (.slice (some ⟨g2, 0, none⟩) 1 1) (.slice A3 2 c3) undef undef (.slice (some ⟨g13, 0, none⟩) 1 1) undef undef undef) W := by
  intro g2 A3 c3 g13 W ls hls hw r3 r13;subst hls;refine hB _ _ _ _ ?_;unfold hF4;refine xrr 6 17 (fun K hK0 => ?_) fun K hK0 => ?_
  ·go_simp
   refine xk hK0 (za hFw (zf hw _)) ?_;clear hK0 K
   try simp only [xp]
   exact hF _ _ _ _ (M_2_3_6_13 g2 A3 c3 W.heap.size g13 (W.alloc (.cells [.slice (some ⟨b2, off2, none⟩) 1 c2].toArray 24)) _ (by kernel_rfl) (za hw (zf (ze W) _)) (zb (Own.below r3.out (zf (ze W) _) (Nat.le_refl _))) (zA (Arr.new W [.slice (some ⟨b2, off2, none⟩) 1 c2].toArray 24)) (r13.step (zf (ze W) _)))
  ·go_simp
   refine xk hK0 (za hFw (zf hw _)) ?_;clear hK0 K
   try simp only [xp]
   exact hF _ _ _ _ (M_2_3_13_17 g2 A3 c3 g13 W.heap.size (W.alloc (.cells [.slice (zac (some ⟨b2, off2, none⟩) c2 2) 1 (c2 - 2)].toArray 24)) _ (by kernel_rfl) (za hw (zf (ze W) _)) (zb (Own.below r3.out (zf (ze W) _) (Nat.le_refl _))) (r13.step (zf (ze W) _)) (zA (Arr.new W [.slice (zac (some ⟨b2, off2, none⟩) c2 2) 1 (c2 - 2)].toArray 24)))
 have M_2_3_17 : ∀ (g2 : Nat) (A3 : Option Addr) (c3 : Nat) (g17 : Nat) (W : World) (ls : Array Bool), ls = #[true, true, true, true, true, true, false, false, true, true, true, true, true, false, false, true, true, true, false, false, false, false, false, false, false] → Fr Z W → Hid (Own W Z.heap.size 3 1 A3 2 c3 (zS (ks.take 2))) → Has W W.heap.size (some ⟨g17, 0, none⟩) [.slice (zac (some ⟨b2, off2, none⟩) c2 2) 1 (c2 - 2)] → F 11 ls (hF4 A c b2 off2 c2 w m (.slice (some ⟨g2, 0, none⟩) 1 1) (.slice A3 2 c3) undef undef undef undef (.slice (some ⟨g17, 0, none⟩) 1 1) undef) W := by
  intro g2 A3 c3 g17 W ls hls hw r3 r17;subst hls;refine hB _ _ _ _ ?_;unfold hF4;refine xrr 6 13 (fun K hK0 => ?_) fun K hK0 => ?_
  ·go_simp
   refine xk hK0 (za hFw (zf hw _)) ?_;clear hK0 K
   try simp only [xp]
   exact hF _ _ _ _ (M_2_3_6_17 g2 A3 c3 W.heap.size g17 (W.alloc (.cells [.slice (some ⟨b2, off2, none⟩) 1 c2].toArray 24)) _ (by kernel_rfl) (za hw (zf (ze W) _)) (zb (Own.below r3.out (zf (ze W) _) (Nat.le_refl _))) (zA (Arr.new W [.slice (some ⟨b2, off2, none⟩) 1 c2].toArray 24)) (r17.step (zf (ze W) _)))
  ·go_simp
   refine xk hK0 (za hFw (zf hw _)) ?_;clear hK0 K
   try simp only [xp]
   exact hF _ _ _ _ (M_2_3_13_17 g2 A3 c3 W.heap.size g17 (W.alloc (.cells [.slice (zam A c 2) 2 (c - 2)].toArray 22)) _ (by kernel_rfl) (za hw (zf (ze W) _)) (zb (Own.below r3.out (zf (ze W) _) (Nat.le_refl _))) (zA (Arr.new W [.slice (zam A c 2) 2 (c - 2)].toArray 22)) (r17.step (zf (ze W) _)))
 have M_2_6_13 : ∀ (g2 : Nat) (g6 : Nat) (g13 : Nat) (W : World) (ls : Array Bool), ls = #[true, true, true, false, true, true, true, false, true, true, true, true, true, true, false, true, true, false, false, false, false, false, false, false, false] → Fr Z W → Has W W.heap.size (some ⟨g2, 0, none⟩) [.slice A 2 c] → Has W W.heap.size (some ⟨g6, 0, none⟩) [.slice (some ⟨b2, off2, none⟩) 1 c2] → Has W W.heap.size (some ⟨g13, 0, none⟩) [.slice (zam A c 2) 2 (c - 2)] → F 11 ls (hF4 A c b2 off2 c2 w m (.slice (some ⟨g2, 0, none⟩) 1 1) undef (.slice (some ⟨g6, 0, none⟩) 1 1) undef (.slice (some ⟨g13, 0, none⟩) 1 1) undef undef undef) W := by
  intro g2 g6 g13 W ls hls hw r2 r6 r13;subst hls;refine hB _ _ _ _ ?_;unfold hF4;refine xrr 3 17 (fun K hK0 => ?_) fun K hK0 => ?_
  ·go_simp
   refine (cJ1 W g2 hw r2).mono ?_;rintro e W2 ⟨A3, c3, rfl, r3, s2⟩;go_simp;refine xk hK0 (za hFw (za hw s2)) ?_;clear hK0 K
   try simp only [xp]
   exact hF _ _ _ _ (M_2_3_6_13 g2 A3 c3 g6 g13 W2 _ (by kernel_rfl) (za hw s2) (r3) (r6.step s2) (r13.step s2))
  ·go_simp
   refine xk hK0 (za hFw (zf hw _)) ?_;clear hK0 K
   try simp only [xp]
   exact hF _ _ _ _ (M_2_6_13_17 g2 g6 g13 W.heap.size (W.alloc (.cells [.slice (zac (some ⟨b2, off2, none⟩) c2 2) 1 (c2 - 2)].toArray 24)) _ (by kernel_rfl) (za hw (zf (ze W) _)) (r2.step (zf (ze W) _)) (r6.step (zf (ze W) _)) (r13.step (zf (ze W) _)) (zA (Arr.new W [.slice (zac (some ⟨b2, off2, none⟩) c2 2) 1 (c2 - 2)].toArray 24)))
 have M_2_6_17 : ∀ (g2 : Nat) (g6 : Nat) (g17 : Nat) (W : World) (ls : Array Bool), ls = #[true, true, true, false, true, true, true, false, true, true, true, true, true, false, false, true, true, true, false, false, false, false, false, false, false] → Fr Z W → Has W W.heap.size (some ⟨g2, 0, none⟩) [.slice A 2 c] → Has W W.heap.size (some ⟨g6, 0, none⟩) [.slice (some ⟨b2, off2, none⟩) 1 c2] → Has W W.heap.size (some ⟨g17, 0, none⟩) [.slice (zac (some ⟨b2, off2, none⟩) c2 2) 1 (c2 - 2)] → F 11 ls (hF4 A c b2 off2 c2 w m (.slice (some ⟨g2, 0, none⟩) 1 1) undef (.slice (some ⟨g6, 0, none⟩) 1 1) undef undef undef (.slice (some ⟨g17, 0, none⟩) 1 1) undef) W := by
  intro g2 g6 g17 W ls hls hw r2 r6 r17;subst hls;refine hB _ _ _ _ ?_;unfold hF4;refine xrr 3 13 (fun K hK0 => ?_) fun K hK0 => ?_
  ·go_simp
   refine (cJ1 W g2 hw r2).mono ?_;rintro e W2 ⟨A3, c3, rfl, r3, s2⟩;go_simp;refine xk hK0 (za hFw (za hw s2)) ?_;clear hK0 K
   try simp only [xp]
   exact hF _ _ _ _ (M_2_3_6_17 g2 A3 c3 g6 g17 W2 _ (by kernel_rfl) (za hw s2) (r3) (r6.step s2) (r17.step s2))
  ·go_simp
   refine xk hK0 (za hFw (zf hw _)) ?_;clear hK0 K
   try simp only [xp]
   exact hF _ _ _ _ (M_2_6_13_17 g2 g6 W.heap.size g17 (W.alloc (.cells [.slice (zam A c 2) 2 (c - 2)].toArray 22)) _ (by kernel_rfl) (za hw (zf (ze W) _)) (r2.step (zf (ze W) _)) (r6.step (zf (ze W) _)) (zA (Arr.new W [.slice (zam A c 2) 2 (c - 2)].toArray 22)) (r17.step (zf (ze W) _)))
 have M_2_13_17 : ∀ (g2 : Nat) (g13 : Nat) (g17 : Nat) (W : World) (ls : Array Bool), ls = #[true, true, true, false, true, true, false, false, true, true, true, true, true, true, false, true, true, true, false, false, false, false, false, false, false] → Fr Z W → Has W W.heap.size (some ⟨g2, 0, none⟩) [.slice A 2 c] → Has W W.heap.size (some ⟨g13, 0, none⟩) [.slice (zam A c 2) 2 (c - 2)] → Has W W.heap.size (some ⟨g17, 0, none⟩) [.slice (zac (some ⟨b2, off2, none⟩) c2 2) 1 (c2 - 2)] → F 11 ls (hF4 A c b2 off2 c2 w m (.slice (some ⟨g2, 0, none⟩) 1 1) undef undef undef (.slice (some ⟨g13, 0, none⟩) 1 1) undef (.slice (some ⟨g17, 0, none⟩) 1 1) undef) W := by
  intro g2 g13 g17 W ls hls hw r2 r13 r17;subst hls;refine hB _ _ _ _ ?_;unfold hF4;refine xrr 3 6 (fun K hK0 => ?_) fun K hK0 => ?_
  ·go_simp
   refine (cJ1 W g2 hw r2).mono ?_;rintro e W2 ⟨A3, c3, rfl, r3, s2⟩;go_simp;refine xk hK0 (za hFw (za hw s2)) ?_;clear hK0 K
   try simp only [xp]
   exact hF _ _ _ _ (M_2_3_13_17 g2 A3 c3 g13 g17 W2 _ (by kernel_rfl) (za hw s2) (r3) (r13.step s2) (r17.step s2))
  ·go_simp
   refine xk hK0 (za hFw (zf hw _)) ?_;clear hK0 K
   try simp only [xp]
   exact hF _ _ _ _ (M_2_6_13_17 g2 W.heap.size g13 g17 (W.alloc (.cells [.slice (some ⟨b2, off2, none⟩) 1 c2].toArray 24)) _ (by kernel_rfl) (za hw (zf (ze W) _)) (r2.step (zf (ze W) _)) (zA (Arr.new W [.slice (some ⟨b2, off2, none⟩) 1 c2].toArray 24)) (r13.step (zf (ze W) _)) (r17.step (zf (ze W) _)))
 have M_6_13_17 : ∀ (g6 : Nat) (g13 : Nat) (g17 : Nat) (W : World) (ls : Array Bool), ls = #[true, true, false, false, true, true, true, false, true, true, true, true, true, true, false, true, true, true, false, false, false, false, false, false, false] → Fr Z W → Has W W.heap.size (some ⟨g6, 0, none⟩) [.slice (some ⟨b2, off2, none⟩) 1 c2] → Has W W.heap.size (some ⟨g13, 0, none⟩) [.slice (zam A c 2) 2 (c - 2)] → Has W W.heap.size (some ⟨g17, 0, none⟩) [.slice (zac (some ⟨b2, off2, none⟩) c2 2) 1 (c2 - 2)] → F 11 ls (hF4 A c b2 off2 c2 w m undef undef (.slice (some ⟨g6, 0, none⟩) 1 1) undef (.slice (some ⟨g13, 0, none⟩) 1 1) undef (.slice (some ⟨g17, 0, none⟩) 1 1) undef) W := by
  intro g6 g13 g17 W ls hls hw r6 r13 r17;subst hls;refine hB _ _ _ _ ?_;unfold hF4;refine xr 2 fun K hK0 => ?_
  ·go_simp
   refine xk hK0 (za hFw (zf hw _)) ?_;clear hK0 K
   try simp only [xp]
   exact hF _ _ _ _ (M_2_6_13_17 W.heap.size g6 g13 g17 (W.alloc (.cells [.slice A 2 c].toArray 22)) _ (by kernel_rfl) (za hw (zf (ze W) _)) (zA (Arr.new W [.slice A 2 c].toArray 22)) (r6.step (zf (ze W) _)) (r13.step (zf (ze W) _)) (r17.step (zf (ze W) _)))
 have M_2_3 : ∀ (g2 : Nat) (A3 : Option Addr) (c3 : Nat) (W : World) (ls : Array Bool), ls = #[true, true, true, true, true, true, false, false, true, true, true, true, true, false, false, true, true, false, false, false, false, false, false, false, false] → Fr Z W → Hid (Own W Z.heap.size 3 1 A3 2 c3 (zS (ks.take 2))) → F 12 ls (hF4 A c b2 off2 c2 w m (.slice (some ⟨g2, 0, none⟩) 1 1) (.slice A3 2 c3) undef undef undef undef undef undef) W := by
  intro g2 A3 c3 W ls hls hw r3;subst hls;refine hB _ _ _ _ ?_;unfold hF4;refine wpAnyH_ready (rs := [6, 13, 17]) (by kernel_rfl) (by simp) ?_;refine AllReadyH.cons rfl (fun K hK0 => ?_) (AllReadyH.cons rfl (fun K hK0 => ?_) (AllReadyH.cons rfl (fun K hK0 => ?_) (AllReadyH.nil)))
  ·go_simp
   refine xk hK0 (za hFw (zf hw _)) ?_;clear hK0 K
   try simp only [xp]
   exact hF _ _ _ _ (M_2_3_6 g2 A3 c3 W.heap.size (W.alloc (.cells [.slice (some ⟨b2, off2, none⟩) 1 c2].toArray 24)) _ (by kernel_rfl) (za hw (zf (ze W) _)) (zb (Own.below r3.out (zf (ze W) _) (Nat.le_refl _))) (zA (Arr.new W [.slice (some ⟨b2, off2, none⟩) 1 c2].toArray 24)))
  ·go_simp
   refine xk hK0 (za hFw (zf hw _)) ?_;clear hK0 K
   try simp only [xp]
   exact hF _ _ _ _ (M_2_3_13 g2 A3 c3 W.heap.size (W.alloc (.cells [.slice (zam A c 2) 2 (c - 2)].toArray 22)) _ (by kernel_rfl) (za hw (zf (ze W) _)) (zb (Own.below r3.out (zf (ze W) _) (Nat.le_refl _))) (zA (Arr.new W [.slice (zam A c 2) 2 (c - 2)].toArray 22)))
  ·go_simp
   refine xk hK0 (za hFw (zf hw _)) ?_;clear hK0 K
   try simp only [xp]
   exact hF _ _ _ _ (M_2_3_17 g2 A3 c3 W.heap.size (W.alloc (.cells [.slice (zac (some ⟨b2, off2, none⟩) c2 2) 1 (c2 - 2)].toArray 24)) _ (by kernel_rfl) (za hw (zf (ze W) _)) (zb (Own.below r3.out (zf (ze W) _) (Nat.le_refl _))) (zA (Arr.new W [.slice (zac (some ⟨b2, off2, none⟩) c2 2) 1 (c2 - 2)].toArray 24)))
 have M_2_6 : ∀ (g2 : Nat) (g6 : Nat) (W : World) (ls : Array Bool), ls = #[true, true, true, false, true, true, true, false, true, true, true, true, true, false, false, true, true, false, false, false, false, false, false, false, false] → Fr Z W → Has W W.heap.size (some ⟨g2, 0, none⟩) [.slice A 2 c] → Has W W.heap.size (some ⟨g6, 0, none⟩) [.slice (some ⟨b2, off2, none⟩) 1 c2] → F 12 ls (hF4 A c b2 off2 c2 w m (.slice (some ⟨g2, 0, none⟩) 1 1) undef (.slice (some ⟨g6, 0, none⟩) 1 1) undef undef undef undef undef) W := by
  intro g2 g6 W ls hls hw r2 r6;subst hls;refine hB _ _ _ _ ?_;unfold hF4;refine wpAnyH_ready (rs := [3, 13, 17]) (by kernel_rfl) (by simp) ?_;refine AllReadyH.cons rfl (fun K hK0 => ?_) (AllReadyH.cons rfl (fun K hK0 => ?_) (AllReadyH.cons rfl (fun K hK0 => ?_) (AllReadyH.nil)))
  ·go_simp
   refine (cJ1 W g2 hw r2).mono ?_;rintro e W2 ⟨A3, c3, rfl, r3, s2⟩;go_simp;refine xk hK0 (za hFw (za hw s2)) ?_;clear hK0 K
   try simp only [xp]
   exact hF _ _ _ _ (M_2_3_6 g2 A3 c3 g6 W2 _ (by kernel_rfl) (za hw s2) (r3) (r6.step s2))
  ·go_simp
   refine xk hK0 (za hFw (zf hw _)) ?_;clear hK0 K
   try simp only [xp]
   exact hF _ _ _ _ (M_2_6_13 g2 g6 W.heap.size (W.alloc (.cells [.slice (zam A c 2) 2 (c - 2)].toArray 22)) _ (by kernel_rfl) (za hw (zf (ze W) _)) (r2.step (zf (ze W) _)) (r6.step (zf (ze W) _)) (zA (Arr.new W [.slice (zam A c 2) 2 (c - 2)].toArray 22)))
  ·go_simp
   refine xk hK0 (za hFw (zf hw _)) ?_;clear hK0 K
   try simp only [xp]
   exact hF _ _ _ _ (M_2_6_17 g2 g6 W.heap.size (W.alloc (.cells [.slice (zac (some ⟨b2, off2, none⟩) c2 2) 1 (c2 - 2)].toArray 24)) _ (by kernel_rfl) (za hw (zf (ze W) _)) (r2.step (zf (ze W) _)) (r6.step (zf (ze W) _)) (zA (Arr.new W [.slice (zac (some ⟨b2, off2, none⟩) c2 2) 1 (c2 - 2)].toArray 24)))
 have M_2_13 : ∀ (g2 : Nat) (g13 : Nat) (W : World) (ls : Array Bool), ls = #[true, true, true, false, true, true, false, false, true, true, true, true, true, true, false, true, true, false, false, false, false, false, false, false, false] → Fr Z W → Has W W.heap.size (some ⟨g2, 0, none⟩) [.slice A 2 c] → Has W W.heap.size (some ⟨g13, 0, none⟩) [.slice (zam A c 2) 2 (c - 2)] → F 12 ls (hF4 A c b2 off2 c2 w m (.slice (some ⟨g2, 0, none⟩) 1 1) undef undef undef (.slice (some ⟨g13, 0, none⟩) 1 1) undef undef undef) W := by
  intro g2 g13 W ls hls hw r2 r13;subst hls;refine hB _ _ _ _ ?_;unfold hF4;refine wpAnyH_ready (rs := [3, 6, 17]) (by kernel_rfl) (by simp) ?_;refine AllReadyH.cons rfl (fun K hK0 => ?_) (AllReadyH.cons rfl (fun K hK0 => ?_) (AllReadyH.cons rfl (fun K hK0 => ?_) (AllReadyH.nil)))
  ·go_simp
   refine (cJ1 W g2 hw r2).mono ?_;rintro e W2 ⟨A3, c3, rfl, r3, s2⟩;go_simp;refine xk hK0 (za hFw (za hw s2)) ?_;clear hK0 K
   try simp only [xp]
   exact hF _ _ _ _ (M_2_3_13 g2 A3 c3 g13 W2 _ (by kernel_rfl) (za hw s2) (r3) (r13.step s2))
  ·go_simp
   refine xk hK0 (za hFw (zf hw _)) ?_;clear hK0 K
   try simp only [xp]
   exact hF _ _ _ _ (M_2_6_13 g2 W.heap.size g13 (W.alloc (.cells [.slice (some ⟨b2, off2, none⟩) 1 c2].toArray 24)) _ (by kernel_rfl) (za hw (zf (ze W) _)) (r2.step (zf (ze W) _)) (zA (Arr.new W [.slice (some ⟨b2, off2, none⟩) 1 c2].toArray 24)) (r13.step (zf (ze W) _)))
  ·go_simp
   refine xk hK0 (za hFw (zf hw _)) ?_;clear hK0 K
   try simp only [xp]
   exact hF _ _ _ _ (M_2_13_17 g2 g13 W.heap.size (W.alloc (.cells [.slice (zac (some ⟨b2, off2, none⟩) c2 2) 1 (c2 - 2)].toArray 24)) _ (by kernel_rfl) (za hw (zf (ze W) _)) (r2.step (zf (ze W) _)) (r13.step (zf (ze W) _)) (zA (Arr.new W [.slice (zac (some ⟨b2, off2, none⟩) c2 2) 1 (c2 - 2)].toArray 24)))
 have M_2_17 : ∀ (g2 : Nat) (g17 : Nat) (W : World) (ls : Array Bool), ls = #[true, true, true, false, true, true, false, false, true, true, true, true, true, false, false, true, true, true, false, false, false, false, false, false, false] → Fr Z W → Has W W.heap.size (some ⟨g2, 0, none⟩) [.slice A 2 c] → Has W W.heap.size (some ⟨g17, 0, none⟩) [.slice (zac (some ⟨b2, off2, none⟩) c2 2) 1 (c2 - 2)] → F 12 ls (hF4 A c b2 off2 c2 w m (.slice (some ⟨g2, 0, none⟩) 1 1) undef undef undef undef undef (.slice (some ⟨g17, 0, none⟩) 1 1) undef) W := by
  intro g2 g17 W ls hls hw r2 r17;subst hls;refine hB _ _ _ _ ?_;unfold hF4;refine wpAnyH_ready (rs := [3, 6, 13]) (by kernel_rfl) (by simp) ?_;refine AllReadyH.cons rfl (fun K hK0 => ?_) (AllReadyH.cons rfl (fun K hK0 => ?_) (AllReadyH.cons rfl (fun K hK0 => ?_) (AllReadyH.nil)))
  ·go_simp
   refine (cJ1 W g2 hw r2).mono ?_;rintro e W2 ⟨A3, c3, rfl, r3, s2⟩;go_simp;refine xk hK0 (za hFw (za hw s2)) ?_;clear hK0 K
   try simp only [xp]
   exact hF _ _ _ _ (M_2_3_17 g2 A3 c3 g17 W2 _ (by kernel_rfl) (za hw s2) (r3) (r17.step s2))
  ·go_simp
   refine xk hK0 (za hFw (zf hw _)) ?_;clear hK0 K
   try simp only [xp]
   exact hF _ _ _ _ (M_2_6_17 g2 W.heap.size g17 (W.alloc (.cells [.slice (some ⟨b2, off2, none⟩) 1 c2].toArray 24)) _ (by kernel_rfl) (za hw (zf (ze W) _)) (r2.step (zf (ze W) _)) (zA (Arr.new W [.slice (some ⟨b2, off2, none⟩) 1 c2].toArray 24)) (r17.step (zf (ze W) _)))
  ·go_simp
   refine xk hK0 (za hFw (zf hw _)) ?_;clear hK0 K
   try simp only [xp]
   exact hF _ _ _ _ (M_2_13_17 g2 W.heap.size g17 (W.alloc (.cells [.slice (zam A c 2) 2 (c - 2)].toArray 22)) _ (by kernel_rfl) (za hw (zf (ze W) _)) (r2.step (zf (ze W) _)) (zA (Arr.new W [.slice (zam A c 2) 2 (c - 2)].toArray 22)) (r17.step (zf (ze W) _)))
 have M_6_13 : ∀ (g6 : Nat) (g13 : Nat) (W : World) (ls : Array Bool), ls = #[true, true, false, false, true, true, true, false, true, true, true, true, true, true, false, true, true, false, false, false, false, false, false, false, false] → Fr Z W → Has W W.heap.size (some ⟨g6, 0, none⟩) [.slice (some ⟨b2, off2, none⟩) 1 c2] → Has W W.heap.size (some ⟨g13, 0, none⟩) [.slice (zam A c 2) 2 (c - 2)] → F 12 ls (hF4 A c b2 off2 c2 w m undef undef (.slice (some ⟨g6, 0, none⟩) 1 1) undef (.slice (some ⟨g13, 0, none⟩) 1 1) undef undef undef) W := by
  intro g6 g13 W ls hls hw r6 r13;subst hls;refine hB _ _ _ _ ?_;unfold hF4;refine xrr 2 17 (fun K hK0 => ?_) fun K hK0 => ?_
  ·go_simp
   refine xk hK0 (za hFw (zf hw _)) ?_;clear hK0 K
   try simp only [xp]
   exact hF _ _ _ _ (M_2_6_13 W.heap.size g6 g13 (W.alloc (.cells [.slice A 2 c].toArray 22)) _ (by kernel_rfl) (za hw (zf (ze W) _)) (zA (Arr.new W [.slice A 2 c].toArray 22)) (r6.step (zf (ze W) _)) (r13.step (zf (ze W) _)))
  ·go_simp
   refine xk hK0 (za hFw (zf hw _)) ?_;clear hK0 K
   try simp only [xp]
   exact hF _ _ _ _ (M_6_13_17 g6 g13 W.heap.size (W.alloc (.cells [.slice (zac (some ⟨b2, off2, none⟩) c2 2) 1 (c2 - 2)].toArray 24)) _ (by kernel_rfl) (za hw (zf (ze W) _)) (r6.step (zf (ze W) _)) (r13.step (zf (ze W) _)) (zA (Arr.new W [.slice (zac (some ⟨b2, off2, none⟩) c2 2) 1 (c2 - 2)].toArray 24)))
 have M_6_17 : ∀ (g6 : Nat) (g17 : Nat) (W : World) (ls : Array Bool), ls = #[true, true, false, false, true, true, true, false, true, true, true, true, true, false, false, true, true, true, false, false, false, false, false, false, false] → Fr Z W → Has W W.heap.size (some ⟨g6, 0, none⟩) [.slice (some ⟨b2, off2, none⟩) 1 c2] → Has W W.heap.size (some ⟨g17, 0, none⟩) [.slice (zac (some ⟨b2, off2, none⟩) c2 2) 1 (c2 - 2)] → F 12 ls (hF4 A c b2 off2 c2 w m undef undef (.slice (some ⟨g6, 0, none⟩) 1 1) undef undef undef (.slice (some ⟨g17, 0, none⟩) 1 1) undef) W := by
  intro g6 g17 W ls hls hw r6 r17;subst hls;refine hB _ _ _ _ ?_;unfold hF4;refine xrr 2 13 (fun K hK0 => ?_) fun K hK0 => ?_
  ·go_simp
   refine xk hK0 (za hFw (zf hw _)) ?_;clear hK0 K
   try simp only [xp]
   exact hF _ _ _ _ (M_2_6_17 W.heap.size g6 g17 (W.alloc (.cells [.slice A 2 c].toArray 22)) _ (by kernel_rfl) (za hw (zf (ze W) _)) (zA (Arr.new W [.slice A 2 c].toArray 22)) (r6.step (zf (ze W) _)) (r17.step (zf (ze W) _)))
  ·go_simp
   refine xk hK0 (za hFw (zf hw _)) ?_;clear hK0 K
   try simp only [xp]
   exact hF _ _ _ _ (M_6_13_17 g6 W.heap.size g17 (W.alloc (.cells [.slice (zam A c 2) 2 (c - 2)].toArray 22)) _ (by kernel_rfl) (za hw (zf (ze W) _)) (r6.step (zf (ze W) _)) (zA (Arr.new W [.slice (zam A c 2) 2 (c - 2)].toArray 22)) (r17.step (zf (ze W) _)))
 have M_13_17 : ∀ (g13 : Nat) (g17 : Nat) (W : World) (ls : Array Bool), ls = #[true, true, false, false, true, true, false, false, true, true, true, true, true, true, false, true, true, true, false, false, false, false, false, false, false] → Fr Z W → Has W W.heap.size (some ⟨g13, 0, none⟩) [.slice (zam A c 2) 2 (c - 2)] → Has W W.heap.size (some ⟨g17, 0, none⟩) [.slice (zac (some ⟨b2, off2, none⟩) c2 2) 1 (c2 - 2)] → F 12 ls (hF4 A c b2 off2 c2 w m undef undef undef undef (.slice (some ⟨g13, 0, none⟩) 1 1) undef (.slice (some ⟨g17, 0, none⟩) 1 1) undef) W := by
  intro g13 g17 W ls hls hw r13 r17;subst hls;refine hB _ _ _ _ ?_;unfold hF4;refine xrr 2 6 (fun K hK0 => ?_) fun K hK0 => ?_
  ·go_simp
   refine xk hK0 (za hFw (zf hw _)) ?_;clear hK0 K
   try simp only [xp]
   exact hF _ _ _ _ (M_2_13_17 W.heap.size g13 g17 (W.alloc (.cells [.slice A 2 c].toArray 22)) _ (by kernel_rfl) (za hw (zf (ze W) _)) (zA (Arr.new W [.slice A 2 c].toArray 22)) (r13.step (zf (ze W) _)) (r17.step (zf (ze W) _)))
  ·go_simp
   refine xk hK0 (za hFw (zf hw _)) ?_;clear hK0 K
   try simp only [xp]
   exact hF _ _ _ _ (M_6_13_17 W.heap.size g13 g17 (W.alloc (.cells [.slice (some ⟨b2, off2, none⟩) 1 c2].toArray 24)) _ (by kernel_rfl) (za hw (zf (ze W) _)) (zA (Arr.new W [.slice (some ⟨b2, off2, none⟩) 1 c2].toArray 24)) (r13.step (zf (ze W) _)) (r17.step (zf (ze W) _)))
 have M_2 : ∀ (g2 : Nat) (W : World) (ls : Array Bool), ls = #[true, true, true, false, true, true, false, false, true, true, true, true, true, false, false, true, true, false, false, false, false, false, false, false, false] → Fr Z W → Has W W.heap.size (some ⟨g2, 0, none⟩) [.slice A 2 c] → F 13 ls (hF4 A c b2 off2 c2 w m (.slice (some ⟨g2, 0, none⟩) 1 1) undef undef undef undef undef undef undef) W := by
  intro g2 W ls hls hw r2;subst hls;refine hB _ _ _ _ ?_;unfold hF4;refine wpAnyH_ready (rs := [3, 6, 13, 17]) (by kernel_rfl) (by simp) ?_;refine AllReadyH.cons rfl (fun K hK0 => ?_) (AllReadyH.cons rfl (fun K hK0 => ?_) (AllReadyH.cons rfl (fun K hK0 => ?_) (AllReadyH.cons rfl (fun K hK0 => ?_) (AllReadyH.nil))))
  ·go_simp
   refine (cJ1 W g2 hw r2).mono ?_;rintro e W2 ⟨A3, c3, rfl, r3, s2⟩;go_simp;refine xk hK0 (za hFw (za hw s2)) ?_;clear hK0 K
   try simp only [xp]
   exact hF _ _ _ _ (M_2_3 g2 A3 c3 W2 _ (by kernel_rfl) (za hw s2) (r3))
  ·go_simp
   refine xk hK0 (za hFw (zf hw _)) ?_;clear hK0 K
   try simp only [xp]
   exact hF _ _ _ _ (M_2_6 g2 W.heap.size (W.alloc (.cells [.slice (some ⟨b2, off2, none⟩) 1 c2].toArray 24)) _ (by kernel_rfl) (za hw (zf (ze W) _)) (r2.step (zf (ze W) _)) (zA (Arr.new W [.slice (some ⟨b2, off2, none⟩) 1 c2].toArray 24)))
  ·go_simp
   refine xk hK0 (za hFw (zf hw _)) ?_;clear hK0 K
   try simp only [xp]
   exact hF _ _ _ _ (M_2_13 g2 W.heap.size (W.alloc (.cells [.slice (zam A c 2) 2 (c - 2)].toArray 22)) _ (by kernel_rfl) (za hw (zf (ze W) _)) (r2.step (zf (ze W) _)) (zA (Arr.new W [.slice (zam A c 2) 2 (c - 2)].toArray 22)))
  ·go_simp
   refine xk hK0 (za hFw (zf hw _)) ?_;clear hK0 K
   try simp only [xp]
   exact hF _ _ _ _ (M_2_17 g2 W.heap.size (W.alloc (.cells [.slice (zac (some ⟨b2, off2, none⟩) c2 2) 1 (c2 - 2)].toArray 24)) _ (by kernel_rfl) (za hw (zf (ze W) _)) (r2.step (zf (ze W) _)) (zA (Arr.new W [.slice (zac (some ⟨b2, off2, none⟩) c2 2) 1 (c2 - 2)].toArray 24)))
 have M_6 : ∀ (g6 : Nat) (W : World) (ls : Array Bool), ls = #[true, true, false, false, true, true, true, false, true, true, true, true, true, false, false, true, true, false, false, false, false, false, false, false, false] → Fr Z W → Has W W.heap.size (some ⟨g6, 0, none⟩) [.slice (some ⟨b2, off2, none⟩) 1 c2] → F 13 ls (hF4 A c b2 off2 c2 w m undef undef (.slice (some ⟨g6, 0, none⟩) 1 1) undef undef undef undef undef) W := by
  intro g6 W ls hls hw r6;subst hls;refine hB _ _ _ _ ?_;unfold hF4;refine wpAnyH_ready (rs := [2, 13, 17]) (by kernel_rfl) (by simp) ?_;refine AllReadyH.cons rfl (fun K hK0 => ?_) (AllReadyH.cons rfl (fun K hK0 => ?_) (AllReadyH.cons rfl (fun K hK0 => ?_) (AllReadyH.nil)))
  ·go_simp
   refine xk hK0 (za hFw (zf hw _)) ?_;clear hK0 K
   try simp only [xp]
   exact hF _ _ _ _ (M_2_6 W.heap.size g6 (W.alloc (.cells [.slice A 2 c].toArray 22)) _ (by kernel_rfl) (za hw (zf (ze W) _)) (zA (Arr.new W [.slice A 2 c].toArray 22)) (r6.step (zf (ze W) _)))
  ·go_simp
   refine xk hK0 (za hFw (zf hw _)) ?_;clear hK0 K
   try simp only [xp]
   exact hF _ _ _ _ (M_6_13 g6 W.heap.size (W.alloc (.cells [.slice (zam A c 2) 2 (c - 2)].toArray 22)) _ (by kernel_rfl) (za hw (zf (ze W) _)) (r6.step (zf (ze W) _)) (zA (Arr.new W [.slice (zam A c 2) 2 (c - 2)].toArray 22)))
  ·go_simp
   refine xk hK0 (za hFw (zf hw _)) ?_;clear hK0 K
   try simp only [xp]
   exact hF _ _ _ _ (M_6_17 g6 W.heap.size (W.alloc (.cells [.slice (zac (some ⟨b2, off2, none⟩) c2 2) 1 (c2 - 2)].toArray 24)) _ (by kernel_rfl) (za hw (zf (ze W) _)) (r6.step (zf (ze W) _)) (zA (Arr.new W [.slice (zac (some ⟨b2, off2, none⟩) c2 2) 1 (c2 - 2)].toArray 24)))
 have M_13 : ∀ (g13 : Nat) (W : World) (ls : Array Bool), ls = #[true, true, false, false, true, true, false, false, true, true, true, true, true, true, false, true, true, false, false, false, false, false, false, false, false] → Fr Z W → Has W W.heap.size (some ⟨g13, 0, none⟩) [.slice (zam A c 2) 2 (c - 2)] → F 13 ls (hF4 A c b2 off2 c2 w m undef undef undef undef (.slice (some ⟨g13, 0, none⟩) 1 1) undef undef undef) W := by
  intro g13 W ls hls hw r13;subst hls;refine hB _ _ _ _ ?_;unfold hF4;refine wpAnyH_ready (rs := [2, 6, 17]) (by kernel_rfl) (by simp) ?_;refine AllReadyH.cons rfl (fun K hK0 => ?_) (AllReadyH.cons rfl (fun K hK0 => ?_) (AllReadyH.cons rfl (fun K hK0 => ?_) (AllReadyH.nil)))
  ·go_simp
   refine xk hK0 (za hFw (zf hw _)) ?_;clear hK0 K
   try simp only [xp]
   exact hF _ _ _ _ (M_2_13 W.heap.size g13 (W.alloc (.cells [.slice A 2 c].toArray 22)) _ (by kernel_rfl) (za hw (zf (ze W) _)) (zA (Arr.new W [.slice A 2 c].toArray 22)) (r13.step (zf (ze W) _)))
  ·go_simp
   refine xk hK0 (za hFw (zf hw _)) ?_;clear hK0 K
   try simp only [xp]
   exact hF _ _ _ _ (M_6_13 W.heap.size g13 (W.alloc (.cells [.slice (some ⟨b2, off2, none⟩) 1 c2].toArray 24)) _ (by kernel_rfl) (za hw (zf (ze W) _)) (zA (Arr.new W [.slice (some ⟨b2, off2, none⟩) 1 c2].toArray 24)) (r13.step (zf (ze W) _)))
  ·go_simp
   refine xk hK0 (za hFw (zf hw _)) ?_;clear hK0 K
   try simp only [xp]
   exact hF _ _ _ _ (M_13_17 g13 W.heap.size (W.alloc (.cells [.slice (zac (some ⟨b2, off2, none⟩) c2 2) 1 (c2 - 2)].toArray 24)) _ (by kernel_rfl) (za hw (zf (ze W) _)) (r13.step (zf (ze W) _)) (zA (Arr.new W [.slice (zac (some ⟨b2, off2, none⟩) c2 2) 1 (c2 - 2)].toArray 24)))
 have M_17 : ∀ (g17 : Nat) (W : World) (ls : Array Bool), ls = #[true, true, false, false, true, true, false, false, true, true, true, true, true, false, false, true, true, true, false, false, false, false, false, false, false] → Fr Z W → Has W W.heap.size (some ⟨g17, 0, none⟩) [.slice (zac (some ⟨b2, off2, none⟩) c2 2) 1 (c2 - 2)] → F 13 ls (hF4 A c b2 off2 c2 w m undef undef undef undef undef undef (.slice (some ⟨g17, 0, none⟩) 1 1) undef) W := by
  intro g17 W ls hls hw r17;subst hls;refine hB _ _ _ _ ?_;unfold hF4;refine wpAnyH_ready (rs := [2, 6, 13]) (by kernel_rfl) (by simp) ?_;refine AllReadyH.cons rfl (fun K hK0 => ?_) (AllReadyH.cons rfl (fun K hK0 => ?_) (AllReadyH.cons rfl (fun K hK0 => ?_) (AllReadyH.nil)))
  ·go_simp
   refine xk hK0 (za hFw (zf hw _)) ?_;clear hK0 K
   try simp only [xp]
   exact hF _ _ _ _ (M_2_17 W.heap.size g17 (W.alloc (.cells [.slice A 2 c].toArray 22)) _ (by kernel_rfl) (za hw (zf (ze W) _)) (zA (Arr.new W [.slice A 2 c].toArray 22)) (r17.step (zf (ze W) _)))
  ·go_simp
   refine xk hK0 (za hFw (zf hw _)) ?_;clear hK0 K
   try simp only [xp]
   exact hF _ _ _ _ (M_6_17 W.heap.size g17 (W.alloc (.cells [.slice (some ⟨b2, off2, none⟩) 1 c2].toArray 24)) _ (by kernel_rfl) (za hw (zf (ze W) _)) (zA (Arr.new W [.slice (some ⟨b2, off2, none⟩) 1 c2].toArray 24)) (r17.step (zf (ze W) _)))
  ·go_simp
   refine xk hK0 (za hFw (zf hw _)) ?_;clear hK0 K
   try simp only [xp]
   exact hF _ _ _ _ (M_13_17 W.heap.size g17 (W.alloc (.cells [.slice (zam A c 2) 2 (c - 2)].toArray 22)) _ (by kernel_rfl) (za hw (zf (ze W) _)) (zA (Arr.new W [.slice (zam A c 2) 2 (c - 2)].toArray 22)) (r17.step (zf (ze W) _)))
 have M_ : ∀ (W : World) (ls : Array Bool), ls = #[true, true, false, false, true, true, false, false, true, true, true, true, true, false, false, true, true, false, false, false, false, false, false, false, false] → Fr Z W → F 14 ls (hF4 A c b2 off2 c2 w m undef undef undef undef undef undef undef undef) W := by
  intro  W ls hls hw ;subst hls;refine hB _ _ _ _ ?_;unfold hF4;refine wpAnyH_ready (rs := [2, 6, 13, 17]) (by kernel_rfl) (by simp) ?_;refine AllReadyH.cons rfl (fun K hK0 => ?_) (AllReadyH.cons rfl (fun K hK0 => ?_) (AllReadyH.cons rfl (fun K hK0 => ?_) (AllReadyH.cons rfl (fun K hK0 => ?_) (AllReadyH.nil))))
  ·go_simp
   refine xk hK0 (za hFw (zf hw _)) ?_;clear hK0 K
   try simp only [xp]
   exact hF _ _ _ _ (M_2 W.heap.size (W.alloc (.cells [.slice A 2 c].toArray 22)) _ (by kernel_rfl) (za hw (zf (ze W) _)) (zA (Arr.new W [.slice A 2 c].toArray 22)))
  ·go_simp
   refine xk hK0 (za hFw (zf hw _)) ?_;clear hK0 K
   try simp only [xp]
   exact hF _ _ _ _ (M_6 W.heap.size (W.alloc (.cells [.slice (some ⟨b2, off2, none⟩) 1 c2].toArray 24)) _ (by kernel_rfl) (za hw (zf (ze W) _)) (zA (Arr.new W [.slice (some ⟨b2, off2, none⟩) 1 c2].toArray 24)))
  ·go_simp
   refine xk hK0 (za hFw (zf hw _)) ?_;clear hK0 K
   try simp only [xp]
   exact hF _ _ _ _ (M_13 W.heap.size (W.alloc (.cells [.slice (zam A c 2) 2 (c - 2)].toArray 22)) _ (by kernel_rfl) (za hw (zf (ze W) _)) (zA (Arr.new W [.slice (zam A c 2) 2 (c - 2)].toArray 22)))
  ·go_simp
   refine xk hK0 (za hFw (zf hw _)) ?_;clear hK0 K
   try simp only [xp]
   exact hF _ _ _ _ (M_17 W.heap.size (W.alloc (.cells [.slice (zac (some ⟨b2, off2, none⟩) c2 2) 1 (c2 - 2)].toArray 24)) _ (by kernel_rfl) (za hw (zf (ze W) _)) (zA (Arr.new W [.slice (zac (some ⟨b2, off2, none⟩) c2 2) 1 (c2 - 2)].toArray 24)))
 exact M_ X0 _ (by kernel_rfl) hrD
end
section
attribute [local go_sem ↓] zt zw zeW
end
end Go.Proofs.YtmjjjdikpnhpiaaGreat
