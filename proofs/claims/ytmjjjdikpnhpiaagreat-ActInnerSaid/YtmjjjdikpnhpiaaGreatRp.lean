/- The document's Part, Batch, Less, All. -/
import Derived.Test.YtmjjjdikpnhpiaaGreatBufL
import Derived.Test.YtmjjjdikpnhpiaaGreatBuf0
import Derived.Test.YtmjjjdikpnhpiaaGreatLawA
import Derived.Deep.CutRange
import Derived.Test.YtmjjjdikpnhpiaaGreatShort
import Derived.Deep.Draws
import Derived.Test.YtmjjjdikpnhpiaaGreatBufQ
import Derived.Test.YtmjjjdikpnhpiaaGreatBufT
import Derived.Test.YtmjjjdikpnhpiaaGreatKeyA
import Derived.Deep.Slices
import Derived.ProofKit
import Derived.OpenShut
import Derived.SliceStrings
import Derived.Test.YtmjjjdikpnhpiaaGreatValA
import Derived.Test.YtmjjjdikpnhpiaaGreatMsg0
import Derived.Test.YtmjjjdikpnhpiaaGreatValC
import Derived.ChangeSlices
import Derived.ChangeArms
import Derived.Test.YtmjjjdikpnhpiaaGreatLfL
import Derived.Test.YtmjjjdikpnhpiaaGreatLfH
import Derived.Test.YtmjjjdikpnhpiaaGreatLfF
import Derived.Test.YtmjjjdikpnhpiaaGreatLfK
import Derived.Test.YtmjjjdikpnhpiaaGreatNodA
import Derived.Test.YtmjjjdikpnhpiaaGreatFnA
import Derived.Test.YtmjjjdikpnhpiaaGreatNodD
namespace Go.Proofs.YtmjjjdikpnhpiaaGreat
set_option linter.unusedVariables false
set_option linter.unusedSimpArgs false
set_option maxRecDepth 100000
open Go.RowKit
section
attribute [local go_sem ↓] zt zw zaX
end
section
attribute [local go_sem ↓] zt zw zaX
end
section
attribute [local go_sem ↓] zt zw zaX
theorem zlz : ∀ {l : List RM} {k : RK} {j : Nat} {m : RM}, (∀ t x, t < j → l[t]? = some x → x.key ≠ k) → l[j]? = some m → m.key = k → zaj l k = some m
 | [], _, _, _, _, h, _ => by simp at h
 | y :: l, k, 0, m, _, h, e => by
  simp at h;subst h;rw [zai, if_pos e]
 | y :: l, k, j + 1, m, hno, h, e => by
  have h0 := hno 0 y (Nat.succ_pos j) rfl;rw [zai, if_neg h0];exact zlz (j := j) (fun t x ht hx => hno (t + 1) x (by omega) (by simpa using hx)) (by simpa using h) e
theorem findL_no {l : List RM} {k : RK} (hno : ∀ t x, t < l.length → l[t]? = some x → x.key ≠ k) : zaj l k = none := by
 rw [zcB];intro m hm;obtain ⟨t, ht, e⟩ := List.mem_iff_getElem.1 hm;exact hno t m ht (by rw [List.getElem?_eq_getElem ht, e])
set_option maxHeartbeats 2000000 in
theorem ref_find {w : World} {A : Option Addr} {n c B : Nat} {l : List RM} {k : RK} (hl : Has w B A (zm mc l)) (hB : B ≤ w.heap.size) (hn : l.length = n) (hsm : n ≤ 100000) (wl : WfM l) (wk : k.wf) :
 Calls Tryz.prog 24 #[.slice A n c, kv k] w fun e w' => e = .returned (findV (zaj l k)) ∧ Fr w w' := by
 obtain ⟨Z, hZ, hF, hZZ, hK, hO, hS⟩ := key_box w k;rw [zdM] at hZ;have hlZ := hl.fr hB hF;have hBZ : B ≤ Z.heap.size := Nat.le_trans hB hF.size;have lk : ∀ W, Fr Z W → (ldS 33 (.pointer (some ⟨w.heap.size, 0, none⟩))).run Tryz.prog W = .ok (.agg (kc k).toArray) W := fun W h => zaf.ld (zl k) (hK.below h hK.lt);have Hl := zb hlZ;have Hn := zb hn;have Hwl := zb wl;have HO := zb hO;clear hl hn wl hlZ hK hO;go_enter Tryz.func24, Tryz.ntmps24;go_wp2_with fail
 go_loopg [6] n (fun g s6 wr => ∃ j : Nat, j + g = n ∧ s6 = .int .i64 j ∧ Hid (Fr Z wr) ∧ Hid (∀ t x, t < j → l[t]? = some x → x.key ≠ k))
 case atStart => exact ⟨0, by omega, rfl, zb hZZ, zb (fun t x h => by omega)⟩
 case round =>
  obtain ⟨j, hj, rfl, hW, hno⟩ := hrel
  by_cases hlt : j < n
  ·have hm : l[j]? = some (l[j]'(by rw [Hn.out]; exact hlt)) := List.getElem?_eq_getElem _
   generalize l[j]'(by rw [Hn.out]; exact hlt) = m at hm;obtain ⟨b, off, rfl, hb1, hr⟩ := zJ Hl.out Hwl.out.wid (by decide) (by intro e; rw [e] at hm; simp at hm);have lX := z9 za4 hr Hwl.out.wid (by omega) hm;have lXk := zak zaf hr Hwl.out.wid (by omega) hm (zcO m) (zl _);have wm := Hwl.out m (za8 hm);have qE := fun W => zcH wm.key wk W;have Hm := zb hm;have Hlm := zb (zP wm.val.hl);have hWW := hW.out;have hWD := zn hWW;have hjz : (j : Int) < (n : Int) := by omega
   clear hm hr hlt
   by_cases hk : m.key = k
   ·have Hf := zb (zlz hno.out Hm.out hk)
    rw [decide_eq_true hk] at qE;clear hk wm;go_wp2_with fail
    go_region_held3 (fun w' => Fr Z w') (first | exact hWD | assumption) (first | fail)
    rename_i hH;have hO2 := HO.out.below hH HO.out.lt
    go_wp2_with (first
     | (refine zi (ds := mc m) zX rfl (.tmp 4) (.tmp 23) rfl (w.heap.size + 1) 0 rfl rfl Hlm.out (zay _) hO2 (by decide) (zk _ _ (by rw [Hlm.out]; decide)) ?_; intro W5 hO5 hk5; have hF5 := hk5.fr (za hF hH) (by omega); clear hk5)
     | fail)
    exact bodyPost_ret (za4.result2 rfl _ (w.heap.size + 1) rfl Hlm.out hO5) rfl ⟨by rw [Hf.out]; rfl, hF5⟩
   ·have Hk := zb hk
    rw [decide_eq_false hk] at qE;clear hk wm;go_wp2_with fail
    go_region_held3 (fun w' => Fr Z w') (first | exact hWD | assumption) (first | fail)
    rename_i hH;go_wp2_with fail
    go_roundg (gk - 1)
    case measure => omega
    case rel => exact ⟨j + 1, by omega, rfl, zb hH, zb (fun t x ht hx => by
     by_cases e : t = j
     ·subst e
      rw [Hm.out] at hx
      injection hx with hx
      rw [← hx]; exact Hk.out
     ·exact hno.out t x (by omega) hx)⟩
  ·have hjn : j = n := by omega
   have hjz : ¬ (j : Int) < (n : Int) := by omega
   have Hf := zb (findL_no (l := l) (k := k) (fun t x ht hx => hno.out t x (by rw [hjn, ← Hn.out]; exact ht) hx));have hO2 := HO.out.below hW.out HO.out.lt;have hWW := hW.out;clear hlt hjn hno
   go_wp2_with (first
    | (refine zi (ds := mc za0) zX rfl (.tmp 4) (.tmp 24) rfl (w.heap.size + 1) 0 rfl rfl rfl (zay _) hO2 (by decide) (zk _ _ (by decide)) ?_; intro W5 hO5 hk5; have hF5 := hk5.fr (za hF hWW) (by omega); clear hk5)
    | fail)
   exact bodyPost_ret (za4.result2 rfl _ (w.heap.size + 1) rfl rfl hO5) rfl ⟨by rw [Hf.out]; rfl, hF5⟩
end
section
attribute [local go_sem ↓] zt zw zaX
end
section
attribute [local go_sem ↓] zt zw zaX
theorem znX {o : Option RM} (h : ∀ m, o = some m → m.wf) : (mc (o.getD za0)).length = 29 := by
 cases o with
 | none => rfl
 | some m => exact zP (h m rfl).val.hl
end
section
attribute [local go_sem ↓] zt zw zaX
end
section
attribute [local go_sem ↓] zt zw zaX
section
variable {W : World} {A A2 : Option Addr} {c c2 : Nat} {l l2 : List RM} {m : RM} {k : RK}
end
end
section
attribute [local go_sem ↓] zt zw zaX
end
section
attribute [local go_sem ↓] zt zbh zae zw
end
section
attribute [local go_sem ↓] zt zbh zae zw
end
section
attribute [local go_sem ↓] zt zbh zae zw zeW
end
section
attribute [local go_sem ↓] zt zbh zae zw zeW
end
section
attribute [local go_sem ↓] zt zbh zae zw zaX
end
section
attribute [local go_sem ↓] zt zw zaX
def btw (ps : List RK) (i : Nat) (l : List RM) : List RM := l.filter fun m => zf9 (ps.map zu) i (cd m)
theorem btw_step {l : List RM} {ps : List RK} {i j : Nat} {m : RM} (h : l[j]? = some m) : btw ps i (l.take (j + 1)) = btw ps i (l.take j) ++ (if zf9 (ps.map zu) i (cd m) = true then [m] else []) := by
 rw [zav h];unfold btw;rw [List.filter_append, List.filter_cons, List.filter_nil]
theorem ze9 {ps : List RK} {i : Nat} {k : RK} (h : ps[i]? = some k) : (ps.map zu).getD i 0 = zu k := by simp [List.getD, h]
theorem betw_low {ps : List RK} {i : Nat} {k : RK} {c : Int} (h : ps[i]? = some k) (hc : c < zu k) : zf9 (ps.map zu) (i + 1) c = false := by
 unfold zf9;rw [Nat.add_sub_cancel, ze9 h, decide_eq_false (by omega : ¬ i + 1 = 0), decide_eq_false (by omega : ¬ zu k ≤ c)];rfl
theorem zmW {ps : List RK} {i : Nat} {k : RK} {c : Int} (h : ps[i]? = some k) (hc : zu k ≤ c) : zf9 (ps.map zu) i c = false := by
 have hi := (List.getElem?_eq_some_iff.1 h).1;unfold zf9;rw [ze9 h, decide_eq_false (by rw [List.length_map]; omega : ¬ (ps.map zu).length ≤ i), decide_eq_false (by omega : ¬ c < zu k)];simp
theorem zgo {ps : List RK} {i : Nat} {c : Int} (h1 : i = 0 ∨ ∃ k, ps[i - 1]? = some k ∧ zu k ≤ c) (h2 : ps.length ≤ i ∨ ∃ k, ps[i]? = some k ∧ c < zu k) : zf9 (ps.map zu) i c = true := by
 unfold zf9;rw [Bool.and_eq_true, Bool.or_eq_true, Bool.or_eq_true, List.length_map];constructor
 ·rcases h1 with h | ⟨k, h, hc⟩
  ·exact .inl (decide_eq_true h)
  ·exact .inr (decide_eq_true (by rw [ze9 h]; exact hc))
 ·rcases h2 with h | ⟨k, h, hc⟩
  ·exact .inl (decide_eq_true h)
  ·exact .inr (decide_eq_true (by rw [ze9 h]; exact hc))
set_option maxHeartbeats 4000000 in
theorem ze1 {w : World} {A A2 : Option Addr} {n c B n2 c2 B2 : Nat} {l : List RM} {ps : List RK} (hl : Has w B A (zm mc l)) (hB : B ≤ w.heap.size) (hn : l.length = n) (hsm : n ≤ 100000) (ol : OkL l) (hp : Has w B2 A2 (zm kc ps)) (hB2 : B2 ≤ w.heap.size) (hn2 : ps.length = n2) (hsm2 : n2 ≤ 100000) (op : OkP ps) (i : Nat) (hi : i ≤ n2) :
 Calls Tryz.prog 21 #[.slice A n c, .slice A2 n2 c2, .int .i64 i] w fun e w' => ∃ A' c', e = .returned (.slice A' (btw ps i l).length c') ∧ zaC w' w.heap.size A' c' (btw ps i l) ∧ Fr w w' := by
 have Hl := zb hl;have Hn := zb hn;have Hol := zb ol;have hiz : ¬ ((i : Int) < 0) := by omega
 have hiz2 : ¬ ((n2 : Int) < (i : Int)) := by omega
 have hlow : Hid (i = 0 ∨ ∃ t k, i = t + 1 ∧ ps[t]? = some k) := zb (by
  rcases Nat.eq_zero_or_pos i with h | h
  ·exact .inl h
  ·refine .inr ⟨i - 1, ps[i - 1]'(by omega), by omega, List.getElem?_eq_getElem _⟩)
 have hhi : Hid (i = n2 ∨ ∃ k, i < n2 ∧ ps[i]? = some k) := zb (by
  rcases Nat.eq_or_lt_of_le hi with h | h
  ·exact .inl h
  ·exact .inr ⟨ps[i]'(by omega), h, List.getElem?_eq_getElem _⟩)
 have Hp := zb hp;have Hop := zb op;have HB2 := zb hB2;have Hn2 := zb hn2;clear hl hn ol hp op hB2 hn2;go_enter Tryz.func21, Tryz.ntmps21;go_wp2_with fail
 go_loopg [7, 8] n (fun g s7 s8 wr => ∃ j : Nat, j + g = n ∧ s8 = .int .i64 j ∧ (∃ A' n' c', s7 = .slice A' n' c' ∧ n' = (btw ps i (l.take j)).length ∧ n' ≤ j ∧ Hid (zaC wr w.heap.size A' c' (btw ps i (l.take j)))) ∧ Hid (Fr w wr))
 case atStart => exact ⟨0, by omega, rfl, ⟨none, 0, 0, rfl, rfl, Nat.le_refl _, zb (Own.nil _ _ _ _)⟩, zb (ze w)⟩
 case round =>
  obtain ⟨j, hj, rfl, ⟨A', n', c', rfl, hn', hn'j, hO⟩, hF⟩ := hrel
  by_cases hlt : j < n
  ·have hm : l[j]? = some (l[j]'(by rw [Hn.out]; exact hlt)) := List.getElem?_eq_getElem _
   generalize l[j]'(by rw [Hn.out]; exact hlt) = m at hm;obtain ⟨b, off, rfl, hb1, hr⟩ := zJ Hl.out Hol.out.good.wfm.wid (by decide) (by intro e; rw [e] at hm; simp at hm);have gm := Hol.out.good m (za8 hm);have lX0 := z9 za4 hr Hol.out.good.wfm.wid (by omega) hm;have lXk0 := zak zaf hr Hol.out.good.wfm.wid (by omega) hm (zcO m) (zl _);have lX := fun W (h : Fr wr W) => lX0 W (za hF.out h);have lXk := fun W (h : Fr wr W) => lXk0 W (za hF.out h);have Hstep : Hid (btw ps i (l.take (j + 1)) = btw ps i (l.take j) ++ if zf9 (ps.map zu) i (cd m) = true then [m] else []) := zb (btw_step hm);have Hn' := zb hn'.symm;have hF1 := hF.out;have hrr := ze wr;have hrD := zn hrr;have hjz : (j : Int) < (n : Int) := by omega
   have hsz : (mc m).length = 29 := zP gm.1.val.hl;have hfo := zdO gm.1;have Hwm := zb gm.1;have cAp := zb (fun W (hW : Fr wr W) => (zb (Own.below hO.out hW (Nat.le_refl _)) : Hid (zaC W w.heap.size A' c' (btw ps i (l.take j)))))
   have pv : ∀ {t : Nat} {k : RK}, ps[t]? = some k → ∃ b2 off2, A2 = some ⟨b2, off2, none⟩ ∧ (∀ W, Fr wr W → (ldS 33 (.pointer (some ⟨b2, off2 + t * 9, none⟩))).run Tryz.prog W = .ok (.agg (kc k).toArray) W) ∧ (∀ W, Fr wr W → Calls Tryz.prog 26 #[kv m.key, kv k] W fun e w' => e = .returned (.int .i64 (zaB m.key k)) ∧ Fr wr w') := by
    intro t k hk;obtain ⟨b2, off2, rfl, hb2, hr2⟩ := zJ Hp.out Hop.out.wid (by decide) (by intro e; rw [e] at hk; simp at hk);have := HB2.out;have gk := Hop.out.good k (List.mem_of_getElem? hk);exact ⟨b2, off2, rfl, fun W h => z9 zaf hr2 Hop.out.wid (by omega) hk W (za hF1 h), fun W h => zcF gm.1.key gk.1 (zaH gm.2) gk.2 h⟩
   rcases hlow.out with h0 | ⟨t, k, hit, hk⟩
   ·have hgt : ¬ (0 < (i : Int)) := by omega
    rcases hhi.out with hin | ⟨k2, hin, hk2⟩
    ·rw [if_pos (zgo (.inl h0) (.inl (by rw [Hn2.out]; omega)))] at Hstep
     have hiz3 : ¬ ((i : Int) < (n2 : Int)) := by omega
     clear pv hm hr hlt hn' gm h0 hin;go_wp2_with fail;refine wp_region_noPanic ?_;refine wp_region_held_drew (S := fun w' => Fr wr w') (by kernel_rfl) hrD (fun hHeld => ?_);change wpAnyH _ _ _ _ _ _ _ _ _;refine xto 0 ?_;refine xtb 1 false ?_;refine xtb 2 false ?_;refine xtn 3 ?_;refine xtn 4 ?_;refine xtn 5 ?_;refine xtn 6 ?_;refine xtn 7 ?_;refine xtn 8 ?_;refine xtn 9 ?_;refine xtn 10 ?_;refine xtn 11 ?_;refine xtn 12 ?_;refine xtn 13 ?_;refine xtn 14 ?_;refine xtb 15 false ?_;refine xtb 16 false ?_;refine xto 17 ?_;refine xto 18 ?_;refine xto 19 ?_;refine xtb 20 false ?_;refine xtb 21 false ?_;refine xtn 22 ?_;refine xtn 23 ?_;refine xtn 24 ?_;refine xtn 25 ?_;refine xtn 26 ?_;refine xtn 27 ?_;refine xtn 28 ?_;refine xtn 29 ?_;refine xtn 30 ?_;refine xtn 31 ?_;refine xtn 32 ?_;refine xtb 33 false ?_;refine xtb 34 false ?_;refine wpAnyH_done (by kernel_rfl) ?_ _;refine NoPanic.normal ?_;generalize wr.drew = W5 at *
     go_wp2_with (first
      | (refine zan (.tmp 59) (.tmp 64) rfl rfl rfl rfl (za hF1 (by assumption)) (cAp.out _ (by assumption)).out Hn'.out (by omega) Hwm.out ?_; intro A9 c9 w10 ho9 hf9)
      | fail)
     go_roundg (gk - 1)
     case measure => omega
     case rel => exact ⟨j + 1, by omega, rfl, ⟨A9, n' + 1, c9, rfl, by rw [Hstep.out, List.length_append, Hn'.out]; rfl, by omega, by rw [Hstep.out]; exact zb ho9⟩, zb hf9⟩
    ·have hiz3 : (i : Int) < (n2 : Int) := by omega
     obtain ⟨b2, off2, rfl, lP2, cK2⟩ := pv hk2
     by_cases hc2 : zu k2 ≤ cd m
     ·rw [if_neg (by rw [zmW hk2 hc2]; decide), List.append_nil] at Hstep
      have hq2 : 0 ≤ zaB m.key k2 := zbE.2 hc2;clear pv hm hr hlt hn' gm h0;go_wp2_with fail;refine wp_region_noPanic ?_;refine wp_region_held_drew (S := fun w' => Fr wr w') (by kernel_rfl) hrD (fun hHeld => ?_);change wpAnyH _ _ _ _ _ _ _ _ _;refine xto 0 ?_;refine xtb 1 false ?_;refine xtb 2 false ?_;refine xtn 3 ?_;refine xtn 4 ?_;refine xtn 5 ?_;refine xtn 6 ?_;refine xtn 7 ?_;refine xtn 8 ?_;refine xtn 9 ?_;refine xtn 10 ?_;refine xtn 11 ?_;refine xtn 12 ?_;refine xtn 13 ?_;refine xtn 14 ?_;refine xtb 15 false ?_;refine xtb 16 false ?_;refine xto 17 ?_;refine xto 18 ?_;refine xto 19 ?_;refine xtb 20 true ?_;refine xtb 21 true ?_;refine xto 22 ?_;refine xto 23 ?_;refine xto 24 ?_;refine xto 25 ?_;refine xto 26 ?_;refine xto 27 ?_;refine xto 28 ?_;refine xto 29 ?_;refine xto 30 ?_;refine xr 31 fun K hK0 => ?_;go_simp;refine (cK2 _ (by assumption)).mono ?_;rintro e w9 ⟨rfl, zw9⟩;go_simp;refine xk hK0 zw9 ?_;clear hK0 K
      try simp only [xs, Act.put]
      refine xtb 32 true ?_;refine xtb 33 true ?_;refine xtb 34 true ?_;refine wpAnyH_done (by kernel_rfl) ?_ _;refine NoPanic.normal ?_;go_wp2_with fail
      go_roundg (gk - 1)
      case measure => omega
      case rel => exact ⟨j + 1, by omega, rfl, ⟨A', n', c', rfl, by rw [Hstep.out]; exact Hn'.out.symm, by omega, by rw [Hstep.out]; exact cAp.out _ (by assumption)⟩, zb (za hF1 (by assumption))⟩
     ·rw [if_pos (zgo (.inl h0) (.inr ⟨k2, hk2, by omega⟩))] at Hstep
      have hq2 : ¬ (0 ≤ zaB m.key k2) := fun h => hc2 (zbE.1 h);clear pv hm hr hlt hn' gm h0;go_wp2_with fail;refine wp_region_noPanic ?_;refine wp_region_held_drew (S := fun w' => Fr wr w') (by kernel_rfl) hrD (fun hHeld => ?_);change wpAnyH _ _ _ _ _ _ _ _ _;refine xto 0 ?_;refine xtb 1 false ?_;refine xtb 2 false ?_;refine xtn 3 ?_;refine xtn 4 ?_;refine xtn 5 ?_;refine xtn 6 ?_;refine xtn 7 ?_;refine xtn 8 ?_;refine xtn 9 ?_;refine xtn 10 ?_;refine xtn 11 ?_;refine xtn 12 ?_;refine xtn 13 ?_;refine xtn 14 ?_;refine xtb 15 false ?_;refine xtb 16 false ?_;refine xto 17 ?_;refine xto 18 ?_;refine xto 19 ?_;refine xtb 20 true ?_;refine xtb 21 true ?_;refine xto 22 ?_;refine xto 23 ?_;refine xto 24 ?_;refine xto 25 ?_;refine xto 26 ?_;refine xto 27 ?_;refine xto 28 ?_;refine xto 29 ?_;refine xto 30 ?_;refine xr 31 fun K hK0 => ?_;go_simp;refine (cK2 _ (by assumption)).mono ?_;rintro e w9 ⟨rfl, zw9⟩;go_simp;refine xk hK0 zw9 ?_;clear hK0 K
      try simp only [xs, Act.put]
      refine xtb 32 false ?_;refine xtb 33 false ?_;refine xtb 34 false ?_;refine wpAnyH_done (by kernel_rfl) ?_ _;refine NoPanic.normal ?_
      go_wp2_with (first
       | (refine zan (.tmp 59) (.tmp 64) rfl rfl rfl rfl (za hF1 (by assumption)) (cAp.out _ (by assumption)).out Hn'.out (by omega) Hwm.out ?_; intro A9 c9 w10 ho9 hf9)
       | fail)
      go_roundg (gk - 1)
      case measure => omega
      case rel => exact ⟨j + 1, by omega, rfl, ⟨A9, n' + 1, c9, rfl, by rw [Hstep.out, List.length_append, Hn'.out]; rfl, by omega, by rw [Hstep.out]; exact zb ho9⟩, zb hf9⟩
   ·have hgt : 0 < (i : Int) := by omega
    have hs1 : IntKind.i64.wrap ((i : Int) - 1) = (t : Int) := by rw [IntKind.wrap_i64]; omega
    have htn : t < n2 := by omega
    obtain ⟨b2, off2, rfl, lP1, cK1⟩ := pv hk
    by_cases hc1 : zu k ≤ cd m
    ·have hq1 : ¬ (zaB m.key k < 0) := fun h => by have := zfc.1 h; unfold cd at hc1; omega
     rcases hhi.out with hin | ⟨k2, hin, hk2⟩
     ·rw [if_pos (zgo (.inr ⟨k, by rw [hit, Nat.add_sub_cancel]; exact hk, hc1⟩) (.inl (by rw [Hn2.out]; omega)))] at Hstep
      have hiz3 : ¬ ((i : Int) < (n2 : Int)) := by omega
      clear pv hm hr hlt hn' gm hit hk hin;go_wp2_with fail;refine wp_region_noPanic ?_;refine wp_region_held_drew (S := fun w' => Fr wr w') (by kernel_rfl) hrD (fun hHeld => ?_);change wpAnyH _ _ _ _ _ _ _ _ _;refine xto 0 ?_;refine xtb 1 true ?_;refine xtb 2 true ?_;refine xto 3 ?_;refine xto 4 ?_;refine xto 5 ?_;refine xto 6 ?_;refine xto 7 ?_;refine xto 8 ?_;refine xto 9 ?_;refine xto 10 ?_;refine xto 11 ?_;refine xto 12 ?_;refine xr 13 fun K hK0 => ?_;go_simp;refine (cK1 _ (by assumption)).mono ?_;rintro e w8 ⟨rfl, zw8⟩;go_simp;refine xk hK0 zw8 ?_;clear hK0 K
      try simp only [xs, Act.put]
      refine xtb 14 false ?_;refine xtb 15 false ?_;refine xtb 16 false ?_;refine xto 17 ?_;refine xto 18 ?_;refine xto 19 ?_;refine xtb 20 false ?_;refine xtb 21 false ?_;refine xtn 22 ?_;refine xtn 23 ?_;refine xtn 24 ?_;refine xtn 25 ?_;refine xtn 26 ?_;refine xtn 27 ?_;refine xtn 28 ?_;refine xtn 29 ?_;refine xtn 30 ?_;refine xtn 31 ?_;refine xtn 32 ?_;refine xtb 33 false ?_;refine xtb 34 false ?_;refine wpAnyH_done (by kernel_rfl) ?_ _;refine NoPanic.normal ?_
      go_wp2_with (first
       | (refine zan (.tmp 59) (.tmp 64) rfl rfl rfl rfl (za hF1 (by assumption)) (cAp.out _ (by assumption)).out Hn'.out (by omega) Hwm.out ?_; intro A9 c9 w10 ho9 hf9)
       | fail)
      go_roundg (gk - 1)
      case measure => omega
      case rel => exact ⟨j + 1, by omega, rfl, ⟨A9, n' + 1, c9, rfl, by rw [Hstep.out, List.length_append, Hn'.out]; rfl, by omega, by rw [Hstep.out]; exact zb ho9⟩, zb hf9⟩
     ·have hiz3 : (i : Int) < (n2 : Int) := by omega
      obtain ⟨b3, off3, e3, lP2, cK2⟩ := pv hk2
      injection e3 with e3
      injection e3 with e31 e32
      subst e31 e32
      by_cases hc2 : zu k2 ≤ cd m
      ·rw [if_neg (by rw [zmW hk2 hc2]; decide), List.append_nil] at Hstep
       have hq2 : 0 ≤ zaB m.key k2 := zbE.2 hc2;clear pv hm hr hlt hn' gm hit hk;go_wp2_with fail;refine wp_region_noPanic ?_;refine wp_region_held_drew (S := fun w' => Fr wr w') (by kernel_rfl) hrD (fun hHeld => ?_);change wpAnyH _ _ _ _ _ _ _ _ _;refine xto 0 ?_;refine xtb 1 true ?_;refine xtb 2 true ?_;refine xto 3 ?_;refine xto 4 ?_;refine xto 5 ?_;refine xto 6 ?_;refine xto 7 ?_;refine xto 8 ?_;refine xto 9 ?_;refine xto 10 ?_;refine xto 11 ?_;refine xto 12 ?_;refine xr 13 fun K hK0 => ?_;go_simp;refine (cK1 _ (by assumption)).mono ?_;rintro e w8 ⟨rfl, zw8⟩;go_simp;refine xk hK0 zw8 ?_;clear hK0 K
       try simp only [xs, Act.put]
       refine xtb 14 false ?_;refine xtb 15 false ?_;refine xtb 16 false ?_;refine xto 17 ?_;refine xto 18 ?_;refine xto 19 ?_;refine xtb 20 true ?_;refine xtb 21 true ?_;refine xto 22 ?_;refine xto 23 ?_;refine xto 24 ?_;refine xto 25 ?_;refine xto 26 ?_;refine xto 27 ?_;refine xto 28 ?_;refine xto 29 ?_;refine xto 30 ?_;refine xr 31 fun K hK0 => ?_;go_simp;refine (cK2 _ (by assumption)).mono ?_;rintro e w9 ⟨rfl, zw9⟩;go_simp;refine xk hK0 zw9 ?_;clear hK0 K
       try simp only [xs, Act.put]
       refine xtb 32 true ?_;refine xtb 33 true ?_;refine xtb 34 true ?_;refine wpAnyH_done (by kernel_rfl) ?_ _;refine NoPanic.normal ?_;go_wp2_with fail
       go_roundg (gk - 1)
       case measure => omega
       case rel => exact ⟨j + 1, by omega, rfl, ⟨A', n', c', rfl, by rw [Hstep.out]; exact Hn'.out.symm, by omega, by rw [Hstep.out]; exact cAp.out _ (by assumption)⟩, zb (za hF1 (by assumption))⟩
      ·rw [if_pos (zgo (.inr ⟨k, by rw [hit, Nat.add_sub_cancel]; exact hk, hc1⟩) (.inr ⟨k2, hk2, by omega⟩))] at Hstep
       have hq2 : ¬ (0 ≤ zaB m.key k2) := fun h => hc2 (zbE.1 h);clear pv hm hr hlt hn' gm hit hk;go_wp2_with fail;refine wp_region_noPanic ?_;refine wp_region_held_drew (S := fun w' => Fr wr w') (by kernel_rfl) hrD (fun hHeld => ?_);change wpAnyH _ _ _ _ _ _ _ _ _;refine xto 0 ?_;refine xtb 1 true ?_;refine xtb 2 true ?_;refine xto 3 ?_;refine xto 4 ?_;refine xto 5 ?_;refine xto 6 ?_;refine xto 7 ?_;refine xto 8 ?_;refine xto 9 ?_;refine xto 10 ?_;refine xto 11 ?_;refine xto 12 ?_;refine xr 13 fun K hK0 => ?_;go_simp;refine (cK1 _ (by assumption)).mono ?_;rintro e w8 ⟨rfl, zw8⟩;go_simp;refine xk hK0 zw8 ?_;clear hK0 K
       try simp only [xs, Act.put]
       refine xtb 14 false ?_;refine xtb 15 false ?_;refine xtb 16 false ?_;refine xto 17 ?_;refine xto 18 ?_;refine xto 19 ?_;refine xtb 20 true ?_;refine xtb 21 true ?_;refine xto 22 ?_;refine xto 23 ?_;refine xto 24 ?_;refine xto 25 ?_;refine xto 26 ?_;refine xto 27 ?_;refine xto 28 ?_;refine xto 29 ?_;refine xto 30 ?_;refine xr 31 fun K hK0 => ?_;go_simp;refine (cK2 _ (by assumption)).mono ?_;rintro e w9 ⟨rfl, zw9⟩;go_simp;refine xk hK0 zw9 ?_;clear hK0 K
       try simp only [xs, Act.put]
       refine xtb 32 false ?_;refine xtb 33 false ?_;refine xtb 34 false ?_;refine wpAnyH_done (by kernel_rfl) ?_ _;refine NoPanic.normal ?_
       go_wp2_with (first
        | (refine zan (.tmp 59) (.tmp 64) rfl rfl rfl rfl (za hF1 (by assumption)) (cAp.out _ (by assumption)).out Hn'.out (by omega) Hwm.out ?_; intro A9 c9 w10 ho9 hf9)
        | fail)
       go_roundg (gk - 1)
       case measure => omega
       case rel => exact ⟨j + 1, by omega, rfl, ⟨A9, n' + 1, c9, rfl, by rw [Hstep.out, List.length_append, Hn'.out]; rfl, by omega, by rw [Hstep.out]; exact zb ho9⟩, zb hf9⟩
    ·rw [if_neg (by rw [hit, betw_low hk (by omega)]; decide), List.append_nil] at Hstep
     have hq1 : zaB m.key k < 0 := zfc.2 (by unfold cd at hc1; omega);clear pv hm hr hlt hn' gm hit hk;go_wp2_with fail;refine wp_region_noPanic ?_;refine wp_region_held_drew (S := fun w' => Fr wr w') (by kernel_rfl) hrD (fun hHeld => ?_);change wpAnyH _ _ _ _ _ _ _ _ _;refine xto 0 ?_;refine xtb 1 true ?_;refine xtb 2 true ?_;refine xto 3 ?_;refine xto 4 ?_;refine xto 5 ?_;refine xto 6 ?_;refine xto 7 ?_;refine xto 8 ?_;refine xto 9 ?_;refine xto 10 ?_;refine xto 11 ?_;refine xto 12 ?_;refine xr 13 fun K hK0 => ?_;go_simp;refine (cK1 _ (by assumption)).mono ?_;rintro e w8 ⟨rfl, zw8⟩;go_simp;refine xk hK0 zw8 ?_;clear hK0 K
     try simp only [xs, Act.put]
     refine xtb 14 true ?_;refine xtb 15 true ?_;refine xtb 16 true ?_;refine xtn 17 ?_;refine xtn 18 ?_;refine xtn 19 ?_;refine xtn 20 ?_;refine xtn 21 ?_;refine xtn 22 ?_;refine xtn 23 ?_;refine xtn 24 ?_;refine xtn 25 ?_;refine xtn 26 ?_;refine xtn 27 ?_;refine xtn 28 ?_;refine xtn 29 ?_;refine xtn 30 ?_;refine xtn 31 ?_;refine xtn 32 ?_;refine xtn 33 ?_;refine xtb 34 true ?_;refine wpAnyH_done (by kernel_rfl) ?_ _;refine NoPanic.normal ?_;go_wp2_with fail
     go_roundg (gk - 1)
     case measure => omega
     case rel => exact ⟨j + 1, by omega, rfl, ⟨A', n', c', rfl, by rw [Hstep.out]; exact Hn'.out.symm, by omega, by rw [Hstep.out]; exact cAp.out _ (by assumption)⟩, zb (za hF1 (by assumption))⟩
  ·have hjn : j = n := by omega
   have hjz : ¬ (j : Int) < (n : Int) := by omega
   have hall : l.take j = l := List.take_of_length_le (by rw [Hn.out]; omega);rw [hall] at hn' hO;have Hn' := zb hn'.symm;clear hlt hjn hall hn';go_wp2_with fail;go_ret;rw [Hn'.out];exact ⟨A', c', rfl, hO.out, hF.out⟩
end
section
section
variable {W : World} {B : Nat} {v : NV} {n : RN}
end
end
end Go.Proofs.YtmjjjdikpnhpiaaGreat
