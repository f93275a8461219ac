/- Buffers in memory, twelve: 'Check', of both. -/
import Derived.Test.YtmjjjdikpnhpiaaGreatBufG
import Derived.Test.YtmjjjdikpnhpiaaGreatShort
import Derived.Test.YtmjjjdikpnhpiaaGreatBuf0
import Derived.Test.YtmjjjdikpnhpiaaGreatLawA
import Derived.Deep.CutRange
namespace Go.Proofs.YtmjjjdikpnhpiaaGreat
set_option linter.unusedVariables false
set_option linter.unusedSimpArgs false
set_option maxRecDepth 100000
open Go.RowKit
section
attribute [local go_sem ↓] zt zw zaX
theorem zfU {l : List RM} {j : Nat} {m : RM} (h : OkL (l.take j)) (hm : l[j]? = some m) (wm : m.wf) (om : okM m = true) (hp : j = 0 ∨ ∃ p, l[j - 1]? = some p ∧ cd p < cd m) : OkL (l.take (j + 1)) := by
 rw [zav hm];refine ⟨fun x hx => ?_, List.pairwise_append.2 ⟨h.asc, List.pairwise_singleton _ _, fun x hx y hy => ?_⟩⟩
 ·rcases List.mem_append.1 hx with hx | hx
  ·exact h.good x hx
  ·simp at hx; subst hx; exact ⟨wm, om⟩
 ·simp at hy
  subst hy
  rcases hp with rfl | ⟨p, hp, hlt⟩
  ·simp at hx
  ·obtain ⟨t, ht, e⟩ := List.mem_iff_getElem.1 hx
   have hj := (List.getElem?_eq_some_iff.1 hm).1;have htl : t < j := by rw [List.length_take] at ht; omega
   have hp' : (l.take j)[j - 1]? = some p := by rw [List.getElem?_take, if_pos (by omega)]; exact hp
   obtain ⟨hj1, e1⟩ := List.getElem?_eq_some_iff.1 hp'
   rcases Nat.lt_or_ge t (j - 1) with h1 | h1
   ·have := List.pairwise_iff_getElem.1 h.asc t (j - 1) ht hj1 h1
    rw [e, e1] at this;omega
   ·have : t = j - 1 := by omega
    subst this;rw [e1] at e;subst e;exact hlt
theorem zkY {l : List RM} {j : Nat} {m : RM} (hm : l[j]? = some m) (om : okM m = false) : ¬ OkL l := fun h => by
 have := (h.good m (za8 hm)).2;rw [om] at this
 cases this
theorem zkv {l : List RM} {j : Nat} {m p : RM} (hj : 0 < j) (hm : l[j]? = some m) (hp : l[j - 1]? = some p) (hn : ¬ cd p < cd m) : ¬ OkL l := fun h => by
 obtain ⟨h1, e1⟩ := List.getElem?_eq_some_iff.1 hm;obtain ⟨h2, e2⟩ := List.getElem?_eq_some_iff.1 hp;have := List.pairwise_iff_getElem.1 h.asc (j - 1) j h2 h1 (by omega);rw [e1, e2] at this;exact hn this
set_option maxHeartbeats 4000000 in
theorem zoD {w : World} {A : Option Addr} {n c B : Nat} {l : List RM} (hl : Has w B A (zm mc l)) (hB : B ≤ w.heap.size) (hn : l.length = n) (hsm : n ≤ 100000) (wl : WfM l) :
 Calls Tryz.prog 83 #[.slice A n c] w fun e w' => (∃ b, e = .returned (.bool b) ∧ (b = true ↔ OkL l)) ∧ Fr w w' := by
 have Hl := zb hl;have Hn := zb hn;have Hwl := zb wl;clear hl hn wl;go_enter Tryz.func83, Tryz.ntmps83;go_wp2_with fail
 go_loopg [7] n (fun g s7 wr => ∃ j : Nat, j + g = n ∧ s7 = .int .i64 j ∧ Hid (Fr w wr) ∧ Hid (OkL (l.take j)))
 case atStart => exact ⟨0, by omega, rfl, zb (ze w), zb OkL.nil⟩
 case round =>
  obtain ⟨j, hj, rfl, hF, hok⟩ := hrel
  by_cases hlt : j < n
  ·have hm : l[j]? = some (l[j]'(by rw [Hn.out]; exact hlt)) := List.getElem?_eq_getElem _
   generalize l[j]'(by rw [Hn.out]; exact hlt) = m at hm;obtain ⟨b, off, rfl, hb1, hr⟩ := zJ Hl.out Hwl.out.wid (by decide) (by intro e; rw [e] at hm; simp at hm);have lX := z9 za4 hr Hwl.out.wid (by omega) hm;have lXk := zak zaf hr Hwl.out.wid (by omega) hm (zcO m) (zl _);have wm := Hwl.out m (za8 hm);have Hm := zb hm;have Hlm := zb (zP wm.val.hl);have hF1 := hF.out;have hwD := zn hF1;have hjz : (j : Int) < (n : Int) := by omega
   have cK := fun W0 W h => znx (W0 := W0) (W := W) wm h
   cases om : okM m with
   | false =>
    rw [om] at cK;have Hbad := zb (zkY hm om);clear hm hr hlt om
    go_wp2_with (first
     | (refine zi (ds := mc m) zX rfl (.tmp 4) (.tmp 11) rfl wr.heap.size 0 rfl rfl Hlm.out (zay _) (Arr.new wr (mc za0).toArray 64) (by decide) (zk _ _ (by rw [Hlm.out]; decide)) ?_; intro W5 hM5 hk5; have hF5 := hk5.fr (zf hF1 _) hF1.size; clear hk5; have lM := zbg hM5 wm.val.hl; have lMk := zaN hM5; have h55 := ze W5; have h5D := zn h55; have hwD := zn hF5; have Hfr := zb hF5)
     | fail)
    refine wp_region_any (by kernel_rfl) ?_;change wpAny _ _ _ _ _ _ _ (World.drew _);refine wpAny_ready (rs := [0]) (by kernel_rfl) (by simp) ?_;refine AllReady.cons rfl (fun K hK => ?_) AllReady.nil;go_simp;refine hK _ _ ?_;clear hK K
    try simp only [xs, Act.put]
    refine wpAny_ready (rs := [1]) (by kernel_rfl) (by simp) ?_;refine AllReady.cons rfl (fun K hK => ?_) AllReady.nil;go_simp;refine (cK W5 _ h5D).mono ?_;rintro e w8 ⟨rfl, hz8⟩;go_simp;refine hK _ _ ?_;clear hK K
    try simp only [xs, Act.put]
    refine wpAny_take (i := 2) (v := ?_) rfl (by kernel_rfl) (by kernel_rfl) (by kernel_rfl) (fun _ _ _ h => h) (Or.inl ⟨by rfl, ?_⟩) ?_;rotate_left
    ·intro w; go_simp; try with_reducible rfl
    simp only [xs, Act.put];refine wpAny_take (i := 3) (v := ?_) rfl (by kernel_rfl) (by kernel_rfl) (by kernel_rfl) (fun _ _ _ h => h) (Or.inl ⟨by rfl, ?_⟩) ?_;rotate_left
    ·intro w; go_simp; try with_reducible rfl
    simp only [xs, Act.put];refine wpAny_take (i := 4) (v := undef) rfl (by kernel_rfl) (by kernel_rfl) (by kernel_rfl) (fun _ _ _ h => h) (Or.inr ⟨by rfl, rfl⟩) ?_;simp only [xs, Act.put];refine wpAny_take (i := 5) (v := undef) rfl (by kernel_rfl) (by kernel_rfl) (by kernel_rfl) (fun _ _ _ h => h) (Or.inr ⟨by rfl, rfl⟩) ?_;simp only [xs, Act.put];refine wpAny_take (i := 6) (v := undef) rfl (by kernel_rfl) (by kernel_rfl) (by kernel_rfl) (fun _ _ _ h => h) (Or.inr ⟨by rfl, rfl⟩) ?_;simp only [xs, Act.put];refine wpAny_take (i := 7) (v := undef) rfl (by kernel_rfl) (by kernel_rfl) (by kernel_rfl) (fun _ _ _ h => h) (Or.inr ⟨by rfl, rfl⟩) ?_;simp only [xs, Act.put];refine wpAny_take (i := 8) (v := undef) rfl (by kernel_rfl) (by kernel_rfl) (by kernel_rfl) (fun _ _ _ h => h) (Or.inr ⟨by rfl, rfl⟩) ?_;simp only [xs, Act.put];refine wpAny_take (i := 9) (v := undef) rfl (by kernel_rfl) (by kernel_rfl) (by kernel_rfl) (fun _ _ _ h => h) (Or.inr ⟨by rfl, rfl⟩) ?_;simp only [xs, Act.put];refine wpAny_take (i := 10) (v := undef) rfl (by kernel_rfl) (by kernel_rfl) (by kernel_rfl) (fun _ _ _ h => h) (Or.inr ⟨by rfl, rfl⟩) ?_;simp only [xs, Act.put];refine wpAny_take (i := 11) (v := undef) rfl (by kernel_rfl) (by kernel_rfl) (by kernel_rfl) (fun _ _ _ h => h) (Or.inr ⟨by rfl, rfl⟩) ?_;simp only [xs, Act.put];refine wpAny_take (i := 12) (v := undef) rfl (by kernel_rfl) (by kernel_rfl) (by kernel_rfl) (fun _ _ _ h => h) (Or.inr ⟨by rfl, rfl⟩) ?_;simp only [xs, Act.put]
    refine wpAny_take (i := 13) (v := undef) rfl (by kernel_rfl) (by kernel_rfl) (by kernel_rfl) (fun _ _ _ h => h) (Or.inr ⟨by rfl, rfl⟩) ?_;simp only [xs, Act.put];refine wpAny_take (i := 14) (v := undef) rfl (by kernel_rfl) (by kernel_rfl) (by kernel_rfl) (fun _ _ _ h => h) (Or.inr ⟨by rfl, rfl⟩) ?_;simp only [xs, Act.put];refine wpAny_take (i := 15) (v := undef) rfl (by kernel_rfl) (by kernel_rfl) (by kernel_rfl) (fun _ _ _ h => h) (Or.inr ⟨by rfl, rfl⟩) ?_;simp only [xs, Act.put];refine wpAny_take (i := 16) (v := undef) rfl (by kernel_rfl) (by kernel_rfl) (by kernel_rfl) (fun _ _ _ h => h) (Or.inr ⟨by rfl, rfl⟩) ?_;simp only [xs, Act.put];refine wpAny_take (i := 17) (v := undef) rfl (by kernel_rfl) (by kernel_rfl) (by kernel_rfl) (fun _ _ _ h => h) (Or.inr ⟨by rfl, rfl⟩) ?_;simp only [xs, Act.put];refine wpAny_take (i := 18) (v := ?_) rfl (by kernel_rfl) (by kernel_rfl) (by kernel_rfl) (fun _ _ _ h => h) (Or.inl ⟨by rfl, ?_⟩) ?_;rotate_left
    ·intro w; go_simp; try with_reducible rfl
    simp only [xs, Act.put];refine wpAny_done (by kernel_rfl) ?_ _;go_wp2_with fail;go_ret;exact ⟨⟨false, rfl, ⟨fun h => (Bool.false_ne_true h).elim, fun h => absurd h Hbad.out⟩⟩, za hF5 hz8⟩
   | true =>
    rw [om] at cK;have Hom := zb om
    by_cases h0 : j = 0
    ·subst h0
     have Hok := zb (zfU hok.out hm wm om (.inl rfl));simp only [Nat.zero_mul, Nat.add_zero] at lX lXk;rw [show ((0 : Nat) : Int) = 0 from rfl] at hjz ⊢;clear hm hr hlt om
     go_wp2_with (first
      | (refine zi (ds := mc m) zX rfl (.tmp 4) (.tmp 11) rfl wr.heap.size 0 rfl rfl Hlm.out (zay _) (Arr.new wr (mc za0).toArray 64) (by decide) (zk _ _ (by rw [Hlm.out]; decide)) ?_; intro W5 hM5 hk5; have hF5 := hk5.fr (zf hF1 _) hF1.size; clear hk5; have lM := zbg hM5 wm.val.hl; have lMk := zaN hM5; have h55 := ze W5; have h5D := zn h55; have hwD := zn hF5; have Hfr := zb hF5)
      | fail)
     refine wp_region_any (by kernel_rfl) ?_;change wpAny _ _ _ _ _ _ _ (World.drew _);refine wpAny_ready (rs := [0]) (by kernel_rfl) (by simp) ?_;refine AllReady.cons rfl (fun K hK => ?_) AllReady.nil;go_simp;refine hK _ _ ?_;clear hK K
     try simp only [xs, Act.put]
     refine wpAny_ready (rs := [1]) (by kernel_rfl) (by simp) ?_;refine AllReady.cons rfl (fun K hK => ?_) AllReady.nil;go_simp;refine (cK W5 _ h5D).mono ?_;rintro e w8 ⟨rfl, hz8⟩;go_simp;refine hK _ _ ?_;clear hK K
     try simp only [xs, Act.put]
     refine wpAny_take (i := 2) (v := ?_) rfl (by kernel_rfl) (by kernel_rfl) (by kernel_rfl) (fun _ _ _ h => h) (Or.inl ⟨by rfl, ?_⟩) ?_;rotate_left
     ·intro w; go_simp; try with_reducible rfl
     simp only [xs, Act.put];refine wpAny_take (i := 3) (v := ?_) rfl (by kernel_rfl) (by kernel_rfl) (by kernel_rfl) (fun _ _ _ h => h) (Or.inl ⟨by rfl, ?_⟩) ?_;rotate_left
     ·intro w; go_simp; try with_reducible rfl
     simp only [xs, Act.put];refine wpAny_take (i := 4) (v := ?_) rfl (by kernel_rfl) (by kernel_rfl) (by kernel_rfl) (fun _ _ _ h => h) (Or.inl ⟨by rfl, ?_⟩) ?_;rotate_left
     ·intro w; go_simp; try with_reducible rfl
     simp only [xs, Act.put];refine wpAny_take (i := 5) (v := ?_) rfl (by kernel_rfl) (by kernel_rfl) (by kernel_rfl) (fun _ _ _ h => h) (Or.inl ⟨by rfl, ?_⟩) ?_;rotate_left
     ·intro w; go_simp; try with_reducible rfl
     simp only [xs, Act.put];refine wpAny_take (i := 6) (v := ?_) rfl (by kernel_rfl) (by kernel_rfl) (by kernel_rfl) (fun _ _ _ h => h) (Or.inl ⟨by rfl, ?_⟩) ?_;rotate_left
     ·intro w; go_simp; try with_reducible rfl
     simp only [xs, Act.put];refine wpAny_take (i := 7) (v := undef) rfl (by kernel_rfl) (by kernel_rfl) (by kernel_rfl) (fun _ _ _ h => h) (Or.inr ⟨by rfl, rfl⟩) ?_;simp only [xs, Act.put];refine wpAny_take (i := 8) (v := undef) rfl (by kernel_rfl) (by kernel_rfl) (by kernel_rfl) (fun _ _ _ h => h) (Or.inr ⟨by rfl, rfl⟩) ?_;simp only [xs, Act.put];refine wpAny_take (i := 9) (v := undef) rfl (by kernel_rfl) (by kernel_rfl) (by kernel_rfl) (fun _ _ _ h => h) (Or.inr ⟨by rfl, rfl⟩) ?_;simp only [xs, Act.put];refine wpAny_take (i := 10) (v := undef) rfl (by kernel_rfl) (by kernel_rfl) (by kernel_rfl) (fun _ _ _ h => h) (Or.inr ⟨by rfl, rfl⟩) ?_;simp only [xs, Act.put];refine wpAny_take (i := 11) (v := undef) rfl (by kernel_rfl) (by kernel_rfl) (by kernel_rfl) (fun _ _ _ h => h) (Or.inr ⟨by rfl, rfl⟩) ?_;simp only [xs, Act.put];refine wpAny_take (i := 12) (v := undef) rfl (by kernel_rfl) (by kernel_rfl) (by kernel_rfl) (fun _ _ _ h => h) (Or.inr ⟨by rfl, rfl⟩) ?_;simp only [xs, Act.put];refine wpAny_take (i := 13) (v := undef) rfl (by kernel_rfl) (by kernel_rfl) (by kernel_rfl) (fun _ _ _ h => h) (Or.inr ⟨by rfl, rfl⟩) ?_;simp only [xs, Act.put];refine wpAny_take (i := 14) (v := undef) rfl (by kernel_rfl) (by kernel_rfl) (by kernel_rfl) (fun _ _ _ h => h) (Or.inr ⟨by rfl, rfl⟩) ?_;simp only [xs, Act.put];refine wpAny_take (i := 15) (v := undef) rfl (by kernel_rfl) (by kernel_rfl) (by kernel_rfl) (fun _ _ _ h => h) (Or.inr ⟨by rfl, rfl⟩) ?_;simp only [xs, Act.put]
     refine wpAny_take (i := 16) (v := undef) rfl (by kernel_rfl) (by kernel_rfl) (by kernel_rfl) (fun _ _ _ h => h) (Or.inr ⟨by rfl, rfl⟩) ?_;simp only [xs, Act.put];refine wpAny_take (i := 17) (v := ?_) rfl (by kernel_rfl) (by kernel_rfl) (by kernel_rfl) (fun _ _ _ h => h) (Or.inl ⟨by rfl, ?_⟩) ?_;rotate_left
     ·intro w; go_simp; try with_reducible rfl
     simp only [xs, Act.put];refine wpAny_take (i := 18) (v := ?_) rfl (by kernel_rfl) (by kernel_rfl) (by kernel_rfl) (fun _ _ _ h => h) (Or.inl ⟨by rfl, ?_⟩) ?_;rotate_left
     ·intro w; go_simp; try with_reducible rfl
     simp only [xs, Act.put];refine wpAny_done (by kernel_rfl) ?_ _;go_wp2_with fail
     go_roundg (gk - 1)
     case measure => omega
     case rel => exact ⟨1, by omega, rfl, zb (za hF5 hz8), Hok⟩
    ·have hp : l[j - 1]? = some (l[j - 1]'(by rw [Hn.out]; omega)) := List.getElem?_eq_getElem _
     generalize l[j - 1]'(by rw [Hn.out]; omega) = p at hp;have lP := zak zaf hr Hwl.out.wid (by omega) hp (zcO p) (zl _)
     have gp : p.wf ∧ okM p = true := hok.out.good p (by
      have : (l.take j)[j - 1]? = some p := by rw [List.getElem?_take, if_pos (by omega)]; exact hp
      exact za8 this)
     have cC := fun W0 W h => zeT (W0 := W0) (W := W) gp.1.key wm.key (zaH gp.2) (zaH om) h;have d0 : (0 : Int) < (j : Int) := by omega
     have d9 : 0 < j := by omega
     have d1 : decide (0 < j) = true := by simpa using d9
     have e5 : IntKind.i64.wrap ((j : Int) - 1) = ((j - 1 : Nat) : Int) := by rw [IntKind.wrap_i64]; omega
     have e4 : ((j - 1 : Nat) : Int) < (n : Int) := by omega
     have e3 : (0 : Int) ≤ ((j - 1 : Nat) : Int) := by omega
     have hge : 0 ≤ zaB p.key m.key ↔ ¬ cd p < cd m := by rw [zbE]; unfold cd; omega
     by_cases hc : 0 ≤ zaB p.key m.key
     ·have Hbad := zb (zkv (by omega) hm hp (hge.1 hc))
      generalize zaB p.key m.key = r at *;clear hm hr hlt om hp gp hge
      go_wp2_with (first
       | (refine zi (ds := mc m) zX rfl (.tmp 4) (.tmp 11) rfl wr.heap.size 0 rfl rfl Hlm.out (zay _) (Arr.new wr (mc za0).toArray 64) (by decide) (zk _ _ (by rw [Hlm.out]; decide)) ?_; intro W5 hM5 hk5; have hF5 := hk5.fr (zf hF1 _) hF1.size; clear hk5; have lM := zbg hM5 wm.val.hl; have lMk := zaN hM5; have h55 := ze W5; have h5D := zn h55; have hwD := zn hF5; have Hfr := zb hF5)
       | fail)
      go_region_held3 (fun w' => Fr W5 w' ∧ Fr w w') (first | (go_split_ands; exact ⟨h5D, hwD⟩) | (go_split_ands; exact ⟨by assumption, by assumption⟩))
       (first
        | (go_at_call 98; (with_reducible refine (cK W5 _ (by assumption)).mono ?_); rintro e w8 ⟨rfl, hz8⟩; have hw8 := za Hfr.out hz8)
        | (go_at_call 101; (with_reducible refine (cC W5 _ (by assumption)).mono ?_); rintro e w9 ⟨rfl, hz9⟩; have hw9 := za Hfr.out hz9))
      rename_i hH;obtain ⟨hH5, hHw⟩ := hH;go_wp2_with fail;go_ret;exact ⟨⟨false, rfl, ⟨fun h => (Bool.false_ne_true h).elim, fun h => absurd h Hbad.out⟩⟩, hHw⟩
     ·have Hok := zb (zfU hok.out hm wm om (.inr ⟨p, hp, by
       rcases Int.lt_or_le (cd p) (cd m) with h | h
       ·exact h
       ·exact absurd (hge.2 (by omega)) hc⟩))
      generalize zaB p.key m.key = r at *;clear hm hr hlt om hp gp hge
      go_wp2_with (first
       | (refine zi (ds := mc m) zX rfl (.tmp 4) (.tmp 11) rfl wr.heap.size 0 rfl rfl Hlm.out (zay _) (Arr.new wr (mc za0).toArray 64) (by decide) (zk _ _ (by rw [Hlm.out]; decide)) ?_; intro W5 hM5 hk5; have hF5 := hk5.fr (zf hF1 _) hF1.size; clear hk5; have lM := zbg hM5 wm.val.hl; have lMk := zaN hM5; have h55 := ze W5; have h5D := zn h55; have hwD := zn hF5; have Hfr := zb hF5)
       | fail)
      go_region_held3 (fun w' => Fr W5 w' ∧ Fr w w') (first | (go_split_ands; exact ⟨h5D, hwD⟩) | (go_split_ands; exact ⟨by assumption, by assumption⟩))
       (first
        | (go_at_call 98; (with_reducible refine (cK W5 _ (by assumption)).mono ?_); rintro e w8 ⟨rfl, hz8⟩; have hw8 := za Hfr.out hz8)
        | (go_at_call 101; (with_reducible refine (cC W5 _ (by assumption)).mono ?_); rintro e w9 ⟨rfl, hz9⟩; have hw9 := za Hfr.out hz9))
      rename_i hH;obtain ⟨hH5, hHw⟩ := hH;go_wp2_with fail
      go_roundg (gk - 1)
      case measure => omega
      case rel => exact ⟨j + 1, by omega, rfl, zb (hHw), Hok⟩
  ·have hjn : j = n := by omega
   have hjz : ¬ (j : Int) < (n : Int) := by omega
   have hall : OkL l := by
    have := hok.out
    rwa [List.take_of_length_le (by rw [Hn.out]; omega)] at this
   have Hall := zb hall;clear hlt hjn hall hok;go_wp2_with fail;go_ret
   first
    | exact ⟨⟨true, rfl, ⟨fun _ => Hall.out, fun _ => rfl⟩⟩, hF.out⟩
    | exact ⟨.inr ⟨rfl, Hall.out⟩, hF.out⟩
end
section
attribute [local go_sem ↓] zt zw zaX
end
section
attribute [local go_sem ↓] zt zw zaX
end
section
attribute [local go_sem ↓] zt zw zaX
theorem msg_neq {a b : RM} (ha : a.wf) (hb : b.wf) (W : World) : (binOp .neq 64 (mm a) (mm b)).run Tryz.prog W = .ok (.bool (!decide (a = b))) W := by
 simp only [binOp, Sem.run_bind, msg_eqr ha hb, Result.andThen_ok, Sem.run_pure]
set_option maxHeartbeats 2000000 in
theorem ref_same {w : World} {A A2 : Option Addr} {n c B n2 c2 B2 : Nat} {l l2 : List RM} (hl : Has w B A (zm mc l)) (hB : B ≤ w.heap.size) (hn : l.length = n) (hsm : n ≤ 100000) (wl : WfM l) (hl2 : Has w B2 A2 (zm mc l2)) (hB2 : B2 ≤ w.heap.size) (hn2 : l2.length = n2) (hsm2 : n2 ≤ 100000) (wl2 : WfM l2) :
 Calls Tryz.prog 67 #[.slice A n c, .slice A2 n2 c2] w fun e w' => e = .returned (.bool (decide (l = l2))) ∧ Fr w w' := by
 have hww := ze w
 by_cases hnn : n = n2
 ·subst hnn
  have Hl := zb hl;have Hn := zb hn;have Hwl := zb wl;have Hl2 := zb hl2;have Hn2 := zb hn2;have Hwl2 := zb wl2;clear hl hn wl hl2 hn2 wl2;go_enter Tryz.func67, Tryz.ntmps67;go_wp2_with fail
  go_loopg [5] n (fun g s5 wr => ∃ j : Nat, j + g = n ∧ s5 = .int .i64 j ∧ Hid (Fr w wr) ∧ Hid (∀ t, t < j → l[t]? = l2[t]?))
  case atStart => exact ⟨0, by omega, rfl, zb hww, zb (fun t h => by omega)⟩
  case round =>
   obtain ⟨j, hj, rfl, hW, hno⟩ := hrel
   by_cases hlt : j < n
   ·have hm : l[j]? = some (l[j]'(by rw [Hn.out]; exact hlt)) := List.getElem?_eq_getElem _
    generalize l[j]'(by rw [Hn.out]; exact hlt) = m at hm;have hm2 : l2[j]? = some (l2[j]'(by rw [Hn2.out]; exact hlt)) := List.getElem?_eq_getElem _;generalize l2[j]'(by rw [Hn2.out]; exact hlt) = m2 at hm2;obtain ⟨b, off, rfl, hb1, hr⟩ := zJ Hl.out Hwl.out.wid (by decide) (by intro e; rw [e] at hm; simp at hm);obtain ⟨b2, off2, rfl, hb2, hr2⟩ := zJ Hl2.out Hwl2.out.wid (by decide) (by intro e; rw [e] at hm2; simp at hm2);have lX := z9 za4 hr Hwl.out.wid (by omega) hm;have lX2 := z9 za4 hr2 Hwl2.out.wid (by omega) hm2;have wm := Hwl.out m (za8 hm);have wm2 := Hwl2.out m2 (za8 hm2);have qE := fun W => msg_neq wm wm2 W;have Hm := zb hm;have Hm2 := zb hm2;have hWW := hW.out;have hWD := zn hWW;have hjz : (j : Int) < (n : Int) := by omega
    clear hm hr hm2 hr2 hlt
    by_cases hk : m = m2
    ·have Hk := zb hk
     rw [decide_eq_true hk] at qE;simp only [Bool.not_true] at qE;clear hk wm wm2;go_wp2_with fail
     go_region_held3 (fun w' => Fr w w') (first | exact hWD | assumption) (first | fail)
     rename_i hH;go_wp2_with fail
     go_roundg (gk - 1)
     case measure => omega
     case rel => exact ⟨j + 1, by omega, rfl, zb hH, zb (fun t ht => by
      by_cases e : t = j
      ·subst e
       rw [Hm.out, Hm2.out, Hk.out]
      ·exact hno.out t (by omega))⟩
    ·have Hf : Hid (decide (l = l2) = false) := zb (decide_eq_false (fun e => hk (by
      have := Hm.out;rw [e, Hm2.out] at this
      injection this with this
      exact this.symm)))
     rw [decide_eq_false hk] at qE;simp only [Bool.not_false] at qE;clear hk wm wm2;go_wp2_with fail
     go_region_held3 (fun w' => Fr w w') (first | exact hWD | assumption) (first | fail)
     rename_i hH;go_wp2_with fail;go_ret;exact ⟨by rw [Hf.out]; rfl, hH⟩
   ·have hjn : j = n := by omega
    have hjz : ¬ (j : Int) < (n : Int) := by omega
    have he : l = l2 := by
     apply List.ext_getElem?;intro t
     by_cases ht : t < j
     ·exact hno.out t ht
     ·rw [List.getElem?_eq_none (by rw [Hn.out]; omega), List.getElem?_eq_none (by rw [Hn2.out]; omega)]
    have Hf : Hid (decide (l = l2) = true) := zb (decide_eq_true he);have hWW := hW.out;clear hlt hjn hno he;go_wp2_with fail;go_ret;exact ⟨by rw [Hf.out]; rfl, hWW⟩
 ·have hnz : ¬ (n : Int) = (n2 : Int) := by omega
  have Hf : Hid (decide (l = l2) = false) := zb (decide_eq_false (fun e => hnn (by rw [← hn, ← hn2, e])));clear hl hl2 wl wl2 hn hn2;go_enter Tryz.func67, Tryz.ntmps67;go_wp2_with fail;go_ret;exact ⟨by rw [Hf.out]; rfl, hww⟩
end
end Go.Proofs.YtmjjjdikpnhpiaaGreat
