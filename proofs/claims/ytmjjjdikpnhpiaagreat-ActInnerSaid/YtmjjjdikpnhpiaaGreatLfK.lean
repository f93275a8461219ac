/- Entries in memory: 'Check', of both. -/
import Derived.Test.YtmjjjdikpnhpiaaGreatLfC
import Derived.Test.YtmjjjdikpnhpiaaGreatShort
namespace Go.Proofs.YtmjjjdikpnhpiaaGreat
set_option linter.unusedVariables false
set_option linter.unusedSimpArgs false
set_option maxRecDepth 100000
open Go.RowKit
attribute [local go_sem ↓] zt zbh zae zw
theorem zgv {l : List RE} {j : Nat} {m : RE} (h : OkE (l.take j)) (hm : l[j]? = some m) (gm : m.ok) (hp : j = 0 ∨ ∃ p, l[j - 1]? = some p ∧ ce p < ce m) : OkE (l.take (j + 1)) := by
 rw [zav hm];refine ⟨fun x hx => ?_, List.pairwise_append.2 ⟨h.asc, List.pairwise_singleton _ _, fun x hx y hy => ?_⟩⟩
 ·rcases List.mem_append.1 hx with hx | hx
  ·exact h.good x hx
  ·simp at hx; subst hx; exact gm
 ·simp at hy
  subst hy
  rcases hp with rfl | ⟨p, hp, hlt⟩
  ·simp at hx
  ·obtain ⟨t, ht, e⟩ := List.mem_iff_getElem.1 hx
   have hj := (List.getElem?_eq_some_iff.1 hm).1;have htl : t < j := by rw [List.length_take] at ht; omega
   have hp' : (l.take j)[j - 1]? = some p := by rw [List.getElem?_take, if_pos (by omega)]; exact hp
   obtain ⟨hj1, e1⟩ := List.getElem?_eq_some_iff.1 hp'
   rcases Nat.lt_or_ge t (j - 1) with h1 | h1
   ·have := List.pairwise_iff_getElem.1 h.asc t (j - 1) ht hj1 h1
    rw [e, e1] at this;omega
   ·have : t = j - 1 := by omega
    subst this;rw [e1] at e;subst e;exact hlt
theorem zkS {l : List RE} {j : Nat} {m : RE} (hm : l[j]? = some m) (om : okB m.key = false) : ¬ OkE l := fun h => by
 have := (h.good m (za2 hm)).ok;rw [om] at this
 cases this
theorem zkF {l : List RE} {j : Nat} {m : RE} (hm : l[j]? = some m) (om : okV m.val = false) : ¬ OkE l := fun h => by
 have := (h.good m (za2 hm)).ov;rw [om] at this
 cases this
theorem zk7 {l : List RE} {j : Nat} {m p : RE} (hj : 0 < j) (hm : l[j]? = some m) (hp : l[j - 1]? = some p) (hn : ¬ ce p < ce m) : ¬ OkE l := fun h => by
 obtain ⟨h1, e1⟩ := List.getElem?_eq_some_iff.1 hm;obtain ⟨h2, e2⟩ := List.getElem?_eq_some_iff.1 hp;have := List.pairwise_iff_getElem.1 h.asc (j - 1) j h2 h1 (by omega);rw [e1, e2] at this;exact hn this
set_option maxHeartbeats 4000000 in
theorem zoe {w : World} {A : Option Addr} {n c B : Nat} {l : List RE} (hl : Has w B A (zm ec l)) (hB : B ≤ w.heap.size) (hn : l.length = n) (hsm : n ≤ 100000) (wl : WfE l) :
 Calls Tryz.prog 81 #[.slice A n c] w fun e w' => (∃ b, e = .returned (.bool b) ∧ (b = true ↔ OkE l)) ∧ Fr w w' := by
 have Hl := zb hl;have Hn := zb hn;have Hwl := zb wl;clear hl hn wl;go_enter Tryz.func81, Tryz.ntmps81;go_wp2_with fail
 go_loopg [7] n (fun g s7 wr => ∃ j : Nat, j + g = n ∧ s7 = .int .i64 j ∧ Hid (Fr w wr) ∧ Hid (OkE (l.take j)))
 case atStart => exact ⟨0, by omega, rfl, zb (ze w), zb OkE.nil⟩
 case round =>
  obtain ⟨j, hj, rfl, hF, hok⟩ := hrel
  by_cases hlt : j < n
  ·have hm : l[j]? = some (l[j]'(by rw [Hn.out]; exact hlt)) := List.getElem?_eq_getElem _
   generalize l[j]'(by rw [Hn.out]; exact hlt) = m at hm;obtain ⟨b, off, rfl, hb1, hr⟩ := zJ Hl.out Hwl.out.wid (by decide) (by intro e; rw [e] at hm; simp at hm);have wm := Hwl.out m (za2 hm);have lX := z9 zh4 hr Hwl.out.wid (by omega) hm;have lXk := zak (o := 0) zaf hr Hwl.out.wid (by omega) hm (zcC m) (zl _);simp only [Nat.add_zero] at lXk;have lXv := zak (o := 9) zbs hr Hwl.out.wid (by omega) hm (ze4 wm.val.hl) (zD wm.val.hl);have Hm := zb hm;have Hlm := zb (zbT wm.val.hl);have hF1 := hF.out;have hwD := zn hF1;have hjz : (j : Int) < (n : Int) := by omega
   have cK := fun W0 W h => zgT (W0 := W0) (W := W) wm.key h;have cV := fun W0 W h => zlC (W0 := W0) (W := W) wm.val h
   cases ok : okB m.key with
   | false =>
    rw [ok] at cK;have Hbad := zb (zkS hm ok);clear hm hr hlt ok
    go_wp2_with (first
     | (refine zi (ds := ec m) zdA rfl (.tmp 4) (.tmp 11) rfl wr.heap.size 0 rfl rfl Hlm.out (zdw _) (Arr.new wr (ec zea).toArray 52) (by decide) (zk _ _ (by rw [Hlm.out]; decide)) ?_; intro W5 hM5 hk5; have hF5 := hk5.fr (zf hF1 _) hF1.size; clear hk5; have lMk := zem hM5; have lMv := zd1 hM5 wm.val.hl; have h55 := ze W5; have h5D := zn h55; have hwD := zn hF5; have Hfr := zb hF5)
     | fail)
    refine wp_region_any (by kernel_rfl) ?_;change wpAny _ _ _ _ _ _ _ (World.drew _);refine wpAny_take (i := 0) (v := ?_) rfl (by kernel_rfl) (by kernel_rfl) (by kernel_rfl) (fun _ _ _ h => h) (Or.inl ⟨by rfl, ?_⟩) ?_;rotate_left
    ·intro w; go_simp; try with_reducible rfl
    simp only [List.getElem_toArray, List.getElem_cons_zero, Act.put, List.setIfInBounds_toArray, List.set_cons_zero, List.set_cons_succ];refine wpAny_ready (rs := [1]) (by kernel_rfl) (by simp) ?_;refine AllReady.cons rfl (fun K hK => ?_) AllReady.nil;go_simp;refine hK _ _ ?_;clear hK K
    try simp only [xs, Act.put]
    refine wpAny_ready (rs := [2]) (by kernel_rfl) (by simp) ?_;refine AllReady.cons rfl (fun K hK => ?_) AllReady.nil;go_simp;refine (cK W5 _ h5D).mono ?_;rintro e w7 ⟨rfl, hz7⟩;go_simp;refine hK _ _ ?_;clear hK K
    try simp only [xs, Act.put]
    refine wpAny_take (i := 3) (v := ?_) rfl (by kernel_rfl) (by kernel_rfl) (by kernel_rfl) (fun _ _ _ h => h) (Or.inl ⟨by rfl, ?_⟩) ?_;rotate_left
    ·intro w; go_simp; try with_reducible rfl
    simp only [xs, Act.put];refine wpAny_take (i := 4) (v := ?_) rfl (by kernel_rfl) (by kernel_rfl) (by kernel_rfl) (fun _ _ _ h => h) (Or.inl ⟨by rfl, ?_⟩) ?_;rotate_left
    ·intro w; go_simp; try with_reducible rfl
    simp only [xs, Act.put];refine wpAny_take (i := 5) (v := undef) rfl (by kernel_rfl) (by kernel_rfl) (by kernel_rfl) (fun _ _ _ h => h) (Or.inr ⟨by rfl, rfl⟩) ?_;simp only [xs, Act.put];refine wpAny_take (i := 6) (v := undef) rfl (by kernel_rfl) (by kernel_rfl) (by kernel_rfl) (fun _ _ _ h => h) (Or.inr ⟨by rfl, rfl⟩) ?_;simp only [xs, Act.put];refine wpAny_take (i := 7) (v := undef) rfl (by kernel_rfl) (by kernel_rfl) (by kernel_rfl) (fun _ _ _ h => h) (Or.inr ⟨by rfl, rfl⟩) ?_;simp only [xs, Act.put];refine wpAny_take (i := 8) (v := undef) rfl (by kernel_rfl) (by kernel_rfl) (by kernel_rfl) (fun _ _ _ h => h) (Or.inr ⟨by rfl, rfl⟩) ?_;simp only [xs, Act.put];refine wpAny_take (i := 9) (v := ?_) rfl (by kernel_rfl) (by kernel_rfl) (by kernel_rfl) (fun _ _ _ h => h) (Or.inl ⟨by rfl, ?_⟩) ?_;rotate_left
    ·intro w; go_simp; try with_reducible rfl
    simp only [xs, Act.put];refine wpAny_take (i := 10) (v := ?_) rfl (by kernel_rfl) (by kernel_rfl) (by kernel_rfl) (fun _ _ _ h => h) (Or.inl ⟨by rfl, ?_⟩) ?_;rotate_left
    ·intro w; go_simp; try with_reducible rfl
    simp only [xs, Act.put];refine wpAny_take (i := 11) (v := undef) rfl (by kernel_rfl) (by kernel_rfl) (by kernel_rfl) (fun _ _ _ h => h) (Or.inr ⟨by rfl, rfl⟩) ?_;simp only [xs, Act.put];refine wpAny_take (i := 12) (v := undef) rfl (by kernel_rfl) (by kernel_rfl) (by kernel_rfl) (fun _ _ _ h => h) (Or.inr ⟨by rfl, rfl⟩) ?_;simp only [xs, Act.put];refine wpAny_take (i := 13) (v := undef) rfl (by kernel_rfl) (by kernel_rfl) (by kernel_rfl) (fun _ _ _ h => h) (Or.inr ⟨by rfl, rfl⟩) ?_;simp only [xs, Act.put];refine wpAny_take (i := 14) (v := undef) rfl (by kernel_rfl) (by kernel_rfl) (by kernel_rfl) (fun _ _ _ h => h) (Or.inr ⟨by rfl, rfl⟩) ?_;simp only [xs, Act.put];refine wpAny_take (i := 15) (v := undef) rfl (by kernel_rfl) (by kernel_rfl) (by kernel_rfl) (fun _ _ _ h => h) (Or.inr ⟨by rfl, rfl⟩) ?_;simp only [xs, Act.put];refine wpAny_take (i := 16) (v := undef) rfl (by kernel_rfl) (by kernel_rfl) (by kernel_rfl) (fun _ _ _ h => h) (Or.inr ⟨by rfl, rfl⟩) ?_;simp only [xs, Act.put];refine wpAny_take (i := 17) (v := undef) rfl (by kernel_rfl) (by kernel_rfl) (by kernel_rfl) (fun _ _ _ h => h) (Or.inr ⟨by rfl, rfl⟩) ?_;simp only [xs, Act.put];refine wpAny_take (i := 18) (v := undef) rfl (by kernel_rfl) (by kernel_rfl) (by kernel_rfl) (fun _ _ _ h => h) (Or.inr ⟨by rfl, rfl⟩) ?_;simp only [xs, Act.put];refine wpAny_take (i := 19) (v := undef) rfl (by kernel_rfl) (by kernel_rfl) (by kernel_rfl) (fun _ _ _ h => h) (Or.inr ⟨by rfl, rfl⟩) ?_;simp only [xs, Act.put]
    refine wpAny_take (i := 20) (v := undef) rfl (by kernel_rfl) (by kernel_rfl) (by kernel_rfl) (fun _ _ _ h => h) (Or.inr ⟨by rfl, rfl⟩) ?_;simp only [xs, Act.put];refine wpAny_take (i := 21) (v := undef) rfl (by kernel_rfl) (by kernel_rfl) (by kernel_rfl) (fun _ _ _ h => h) (Or.inr ⟨by rfl, rfl⟩) ?_;simp only [xs, Act.put];refine wpAny_take (i := 22) (v := undef) rfl (by kernel_rfl) (by kernel_rfl) (by kernel_rfl) (fun _ _ _ h => h) (Or.inr ⟨by rfl, rfl⟩) ?_;simp only [xs, Act.put];refine wpAny_take (i := 23) (v := undef) rfl (by kernel_rfl) (by kernel_rfl) (by kernel_rfl) (fun _ _ _ h => h) (Or.inr ⟨by rfl, rfl⟩) ?_;simp only [xs, Act.put];refine wpAny_take (i := 24) (v := undef) rfl (by kernel_rfl) (by kernel_rfl) (by kernel_rfl) (fun _ _ _ h => h) (Or.inr ⟨by rfl, rfl⟩) ?_;simp only [xs, Act.put];refine wpAny_take (i := 25) (v := ?_) rfl (by kernel_rfl) (by kernel_rfl) (by kernel_rfl) (fun _ _ _ h => h) (Or.inl ⟨by rfl, ?_⟩) ?_;rotate_left
    ·intro w; go_simp; try with_reducible rfl
    simp only [xs, Act.put];refine wpAny_done (by kernel_rfl) ?_ _;go_wp2_with fail;go_ret;exact ⟨⟨false, rfl, ⟨fun h => (Bool.false_ne_true h).elim, fun h => absurd h Hbad.out⟩⟩, za hF5 hz7⟩
   | true =>
    rw [ok] at cK;have Hok1 := zb ok
    cases ov : okV m.val with
    | false =>
     rw [ov] at cV;have Hbad := zb (zkF hm ov);clear hm hr hlt ov ok
     go_wp2_with (first
      | (refine zi (ds := ec m) zdA rfl (.tmp 4) (.tmp 11) rfl wr.heap.size 0 rfl rfl Hlm.out (zdw _) (Arr.new wr (ec zea).toArray 52) (by decide) (zk _ _ (by rw [Hlm.out]; decide)) ?_; intro W5 hM5 hk5; have hF5 := hk5.fr (zf hF1 _) hF1.size; clear hk5; have lMk := zem hM5; have lMv := zd1 hM5 wm.val.hl; have h55 := ze W5; have h5D := zn h55; have hwD := zn hF5; have Hfr := zb hF5)
      | fail)
     refine wp_region_any (by kernel_rfl) ?_;change wpAny _ _ _ _ _ _ _ (World.drew _);refine wpAny_take (i := 0) (v := ?_) rfl (by kernel_rfl) (by kernel_rfl) (by kernel_rfl) (fun _ _ _ h => h) (Or.inl ⟨by rfl, ?_⟩) ?_;rotate_left
     ·intro w; go_simp; try with_reducible rfl
     simp only [List.getElem_toArray, List.getElem_cons_zero, Act.put, List.setIfInBounds_toArray, List.set_cons_zero, List.set_cons_succ];refine wpAny_ready (rs := [1]) (by kernel_rfl) (by simp) ?_;refine AllReady.cons rfl (fun K hK => ?_) AllReady.nil;go_simp;refine hK _ _ ?_;clear hK K
     try simp only [xs, Act.put]
     refine wpAny_ready (rs := [2]) (by kernel_rfl) (by simp) ?_;refine AllReady.cons rfl (fun K hK => ?_) AllReady.nil;go_simp;refine (cK W5 _ h5D).mono ?_;rintro e w7 ⟨rfl, hz7⟩;go_simp;refine hK _ _ ?_;clear hK K
     try simp only [xs, Act.put]
     refine wpAny_take (i := 3) (v := ?_) rfl (by kernel_rfl) (by kernel_rfl) (by kernel_rfl) (fun _ _ _ h => h) (Or.inl ⟨by rfl, ?_⟩) ?_;rotate_left
     ·intro w; go_simp; try with_reducible rfl
     simp only [xs, Act.put];refine wpAny_take (i := 4) (v := ?_) rfl (by kernel_rfl) (by kernel_rfl) (by kernel_rfl) (fun _ _ _ h => h) (Or.inl ⟨by rfl, ?_⟩) ?_;rotate_left
     ·intro w; go_simp; try with_reducible rfl
     simp only [xs, Act.put];refine wpAny_take (i := 5) (v := ?_) rfl (by kernel_rfl) (by kernel_rfl) (by kernel_rfl) (fun _ _ _ h => h) (Or.inl ⟨by rfl, ?_⟩) ?_;rotate_left
     ·intro w; go_simp; try with_reducible rfl
     simp only [xs, Act.put];refine wpAny_ready (rs := [6]) (by kernel_rfl) (by simp) ?_;refine AllReady.cons rfl (fun K hK => ?_) AllReady.nil;go_simp;refine hK _ _ ?_;clear hK K
     try simp only [xs, Act.put]
     refine wpAny_ready (rs := [7]) (by kernel_rfl) (by simp) ?_;refine AllReady.cons rfl (fun K hK => ?_) AllReady.nil;go_simp;refine (cV W5 _ hz7).mono ?_;rintro e w8 ⟨rfl, hz8⟩;go_simp;refine hK _ _ ?_;clear hK K
     try simp only [xs, Act.put]
     refine wpAny_take (i := 8) (v := ?_) rfl (by kernel_rfl) (by kernel_rfl) (by kernel_rfl) (fun _ _ _ h => h) (Or.inl ⟨by rfl, ?_⟩) ?_;rotate_left
     ·intro w; go_simp; try with_reducible rfl
     simp only [xs, Act.put];refine wpAny_take (i := 9) (v := ?_) rfl (by kernel_rfl) (by kernel_rfl) (by kernel_rfl) (fun _ _ _ h => h) (Or.inl ⟨by rfl, ?_⟩) ?_;rotate_left
     ·intro w; go_simp; try with_reducible rfl
     simp only [xs, Act.put];refine wpAny_take (i := 10) (v := ?_) rfl (by kernel_rfl) (by kernel_rfl) (by kernel_rfl) (fun _ _ _ h => h) (Or.inl ⟨by rfl, ?_⟩) ?_;rotate_left
     ·intro w; go_simp; try with_reducible rfl
     simp only [xs, Act.put];refine wpAny_take (i := 11) (v := undef) rfl (by kernel_rfl) (by kernel_rfl) (by kernel_rfl) (fun _ _ _ h => h) (Or.inr ⟨by rfl, rfl⟩) ?_;simp only [xs, Act.put];refine wpAny_take (i := 12) (v := undef) rfl (by kernel_rfl) (by kernel_rfl) (by kernel_rfl) (fun _ _ _ h => h) (Or.inr ⟨by rfl, rfl⟩) ?_;simp only [xs, Act.put];refine wpAny_take (i := 13) (v := undef) rfl (by kernel_rfl) (by kernel_rfl) (by kernel_rfl) (fun _ _ _ h => h) (Or.inr ⟨by rfl, rfl⟩) ?_;simp only [xs, Act.put];refine wpAny_take (i := 14) (v := undef) rfl (by kernel_rfl) (by kernel_rfl) (by kernel_rfl) (fun _ _ _ h => h) (Or.inr ⟨by rfl, rfl⟩) ?_;simp only [xs, Act.put];refine wpAny_take (i := 15) (v := undef) rfl (by kernel_rfl) (by kernel_rfl) (by kernel_rfl) (fun _ _ _ h => h) (Or.inr ⟨by rfl, rfl⟩) ?_;simp only [xs, Act.put];refine wpAny_take (i := 16) (v := undef) rfl (by kernel_rfl) (by kernel_rfl) (by kernel_rfl) (fun _ _ _ h => h) (Or.inr ⟨by rfl, rfl⟩) ?_;simp only [xs, Act.put];refine wpAny_take (i := 17) (v := undef) rfl (by kernel_rfl) (by kernel_rfl) (by kernel_rfl) (fun _ _ _ h => h) (Or.inr ⟨by rfl, rfl⟩) ?_;simp only [xs, Act.put];refine wpAny_take (i := 18) (v := undef) rfl (by kernel_rfl) (by kernel_rfl) (by kernel_rfl) (fun _ _ _ h => h) (Or.inr ⟨by rfl, rfl⟩) ?_;simp only [xs, Act.put];refine wpAny_take (i := 19) (v := undef) rfl (by kernel_rfl) (by kernel_rfl) (by kernel_rfl) (fun _ _ _ h => h) (Or.inr ⟨by rfl, rfl⟩) ?_;simp only [xs, Act.put]
     refine wpAny_take (i := 20) (v := undef) rfl (by kernel_rfl) (by kernel_rfl) (by kernel_rfl) (fun _ _ _ h => h) (Or.inr ⟨by rfl, rfl⟩) ?_;simp only [xs, Act.put];refine wpAny_take (i := 21) (v := undef) rfl (by kernel_rfl) (by kernel_rfl) (by kernel_rfl) (fun _ _ _ h => h) (Or.inr ⟨by rfl, rfl⟩) ?_;simp only [xs, Act.put];refine wpAny_take (i := 22) (v := undef) rfl (by kernel_rfl) (by kernel_rfl) (by kernel_rfl) (fun _ _ _ h => h) (Or.inr ⟨by rfl, rfl⟩) ?_;simp only [xs, Act.put];refine wpAny_take (i := 23) (v := undef) rfl (by kernel_rfl) (by kernel_rfl) (by kernel_rfl) (fun _ _ _ h => h) (Or.inr ⟨by rfl, rfl⟩) ?_;simp only [xs, Act.put];refine wpAny_take (i := 24) (v := undef) rfl (by kernel_rfl) (by kernel_rfl) (by kernel_rfl) (fun _ _ _ h => h) (Or.inr ⟨by rfl, rfl⟩) ?_;simp only [xs, Act.put];refine wpAny_take (i := 25) (v := ?_) rfl (by kernel_rfl) (by kernel_rfl) (by kernel_rfl) (fun _ _ _ h => h) (Or.inl ⟨by rfl, ?_⟩) ?_;rotate_left
     ·intro w; go_simp; try with_reducible rfl
     simp only [xs, Act.put];refine wpAny_done (by kernel_rfl) ?_ _;go_wp2_with fail;go_ret;exact ⟨⟨false, rfl, ⟨fun h => (Bool.false_ne_true h).elim, fun h => absurd h Hbad.out⟩⟩, za hF5 hz8⟩
    | true =>
     rw [ov] at cV;have gm : m.ok := ⟨wm.key, ok, wm.val, ov⟩
     by_cases h0 : j = 0
     ·subst h0
      have Hok := zb (zgv hok.out hm gm (.inl rfl));simp only [Nat.zero_mul, Nat.add_zero] at lX lXk lXv;rw [show ((0 : Nat) : Int) = 0 from rfl] at hjz ⊢;clear hm hr hlt ov ok gm
      go_wp2_with (first
       | (refine zi (ds := ec m) zdA rfl (.tmp 4) (.tmp 11) rfl wr.heap.size 0 rfl rfl Hlm.out (zdw _) (Arr.new wr (ec zea).toArray 52) (by decide) (zk _ _ (by rw [Hlm.out]; decide)) ?_; intro W5 hM5 hk5; have hF5 := hk5.fr (zf hF1 _) hF1.size; clear hk5; have lMk := zem hM5; have lMv := zd1 hM5 wm.val.hl; have h55 := ze W5; have h5D := zn h55; have hwD := zn hF5; have Hfr := zb hF5)
       | fail)
      refine wp_region_any (by kernel_rfl) ?_;change wpAny _ _ _ _ _ _ _ (World.drew _);refine wpAny_take (i := 0) (v := ?_) rfl (by kernel_rfl) (by kernel_rfl) (by kernel_rfl) (fun _ _ _ h => h) (Or.inl ⟨by rfl, ?_⟩) ?_;rotate_left
      ·intro w; go_simp; try with_reducible rfl
      simp only [List.getElem_toArray, List.getElem_cons_zero, Act.put, List.setIfInBounds_toArray, List.set_cons_zero, List.set_cons_succ];refine wpAny_ready (rs := [1]) (by kernel_rfl) (by simp) ?_;refine AllReady.cons rfl (fun K hK => ?_) AllReady.nil;go_simp;refine hK _ _ ?_;clear hK K
      try simp only [xs, Act.put]
      refine wpAny_ready (rs := [2]) (by kernel_rfl) (by simp) ?_;refine AllReady.cons rfl (fun K hK => ?_) AllReady.nil;go_simp;refine (cK W5 _ h5D).mono ?_;rintro e w7 ⟨rfl, hz7⟩;go_simp;refine hK _ _ ?_;clear hK K
      try simp only [xs, Act.put]
      refine wpAny_take (i := 3) (v := ?_) rfl (by kernel_rfl) (by kernel_rfl) (by kernel_rfl) (fun _ _ _ h => h) (Or.inl ⟨by rfl, ?_⟩) ?_;rotate_left
      ·intro w; go_simp; try with_reducible rfl
      simp only [xs, Act.put];refine wpAny_take (i := 4) (v := ?_) rfl (by kernel_rfl) (by kernel_rfl) (by kernel_rfl) (fun _ _ _ h => h) (Or.inl ⟨by rfl, ?_⟩) ?_;rotate_left
      ·intro w; go_simp; try with_reducible rfl
      simp only [xs, Act.put];refine wpAny_take (i := 5) (v := ?_) rfl (by kernel_rfl) (by kernel_rfl) (by kernel_rfl) (fun _ _ _ h => h) (Or.inl ⟨by rfl, ?_⟩) ?_;rotate_left
      ·intro w; go_simp; try with_reducible rfl
      simp only [xs, Act.put];refine wpAny_ready (rs := [6]) (by kernel_rfl) (by simp) ?_;refine AllReady.cons rfl (fun K hK => ?_) AllReady.nil;go_simp;refine hK _ _ ?_;clear hK K
      try simp only [xs, Act.put]
      refine wpAny_ready (rs := [7]) (by kernel_rfl) (by simp) ?_;refine AllReady.cons rfl (fun K hK => ?_) AllReady.nil;go_simp;refine (cV W5 _ hz7).mono ?_;rintro e w8 ⟨rfl, hz8⟩;go_simp;refine hK _ _ ?_;clear hK K
      try simp only [xs, Act.put]
      refine wpAny_take (i := 8) (v := ?_) rfl (by kernel_rfl) (by kernel_rfl) (by kernel_rfl) (fun _ _ _ h => h) (Or.inl ⟨by rfl, ?_⟩) ?_;rotate_left
      ·intro w; go_simp; try with_reducible rfl
      simp only [xs, Act.put];refine wpAny_take (i := 9) (v := ?_) rfl (by kernel_rfl) (by kernel_rfl) (by kernel_rfl) (fun _ _ _ h => h) (Or.inl ⟨by rfl, ?_⟩) ?_;rotate_left
      ·intro w; go_simp; try with_reducible rfl
      simp only [xs, Act.put];refine wpAny_take (i := 10) (v := ?_) rfl (by kernel_rfl) (by kernel_rfl) (by kernel_rfl) (fun _ _ _ h => h) (Or.inl ⟨by rfl, ?_⟩) ?_;rotate_left
      ·intro w; go_simp; try with_reducible rfl
      simp only [xs, Act.put];refine wpAny_take (i := 11) (v := ?_) rfl (by kernel_rfl) (by kernel_rfl) (by kernel_rfl) (fun _ _ _ h => h) (Or.inl ⟨by rfl, ?_⟩) ?_;rotate_left
      ·intro w; go_simp; try with_reducible rfl
      simp only [xs, Act.put];refine wpAny_take (i := 12) (v := ?_) rfl (by kernel_rfl) (by kernel_rfl) (by kernel_rfl) (fun _ _ _ h => h) (Or.inl ⟨by rfl, ?_⟩) ?_;rotate_left
      ·intro w; go_simp; try with_reducible rfl
      simp only [xs, Act.put];refine wpAny_take (i := 13) (v := ?_) rfl (by kernel_rfl) (by kernel_rfl) (by kernel_rfl) (fun _ _ _ h => h) (Or.inl ⟨by rfl, ?_⟩) ?_;rotate_left
      ·intro w; go_simp; try with_reducible rfl
      simp only [xs, Act.put];refine wpAny_take (i := 14) (v := undef) rfl (by kernel_rfl) (by kernel_rfl) (by kernel_rfl) (fun _ _ _ h => h) (Or.inr ⟨by rfl, rfl⟩) ?_;simp only [xs, Act.put];refine wpAny_take (i := 15) (v := undef) rfl (by kernel_rfl) (by kernel_rfl) (by kernel_rfl) (fun _ _ _ h => h) (Or.inr ⟨by rfl, rfl⟩) ?_;simp only [xs, Act.put];refine wpAny_take (i := 16) (v := undef) rfl (by kernel_rfl) (by kernel_rfl) (by kernel_rfl) (fun _ _ _ h => h) (Or.inr ⟨by rfl, rfl⟩) ?_;simp only [xs, Act.put];refine wpAny_take (i := 17) (v := undef) rfl (by kernel_rfl) (by kernel_rfl) (by kernel_rfl) (fun _ _ _ h => h) (Or.inr ⟨by rfl, rfl⟩) ?_;simp only [xs, Act.put];refine wpAny_take (i := 18) (v := undef) rfl (by kernel_rfl) (by kernel_rfl) (by kernel_rfl) (fun _ _ _ h => h) (Or.inr ⟨by rfl, rfl⟩) ?_;simp only [xs, Act.put];refine wpAny_take (i := 19) (v := undef) rfl (by kernel_rfl) (by kernel_rfl) (by kernel_rfl) (fun _ _ _ h => h) (Or.inr ⟨by rfl, rfl⟩) ?_;simp only [xs, Act.put];refine wpAny_take (i := 20) (v := undef) rfl (by kernel_rfl) (by kernel_rfl) (by kernel_rfl) (fun _ _ _ h => h) (Or.inr ⟨by rfl, rfl⟩) ?_;simp only [xs, Act.put];refine wpAny_take (i := 21) (v := undef) rfl (by kernel_rfl) (by kernel_rfl) (by kernel_rfl) (fun _ _ _ h => h) (Or.inr ⟨by rfl, rfl⟩) ?_;simp only [xs, Act.put];refine wpAny_take (i := 22) (v := undef) rfl (by kernel_rfl) (by kernel_rfl) (by kernel_rfl) (fun _ _ _ h => h) (Or.inr ⟨by rfl, rfl⟩) ?_;simp only [xs, Act.put]
      refine wpAny_take (i := 23) (v := undef) rfl (by kernel_rfl) (by kernel_rfl) (by kernel_rfl) (fun _ _ _ h => h) (Or.inr ⟨by rfl, rfl⟩) ?_;simp only [xs, Act.put];refine wpAny_take (i := 24) (v := ?_) rfl (by kernel_rfl) (by kernel_rfl) (by kernel_rfl) (fun _ _ _ h => h) (Or.inl ⟨by rfl, ?_⟩) ?_;rotate_left
      ·intro w; go_simp; try with_reducible rfl
      simp only [xs, Act.put];refine wpAny_take (i := 25) (v := ?_) rfl (by kernel_rfl) (by kernel_rfl) (by kernel_rfl) (fun _ _ _ h => h) (Or.inl ⟨by rfl, ?_⟩) ?_;rotate_left
      ·intro w; go_simp; try with_reducible rfl
      simp only [xs, Act.put];refine wpAny_done (by kernel_rfl) ?_ _;go_wp2_with fail
      go_roundg (gk - 1)
      case measure => omega
      case rel => exact ⟨1, by omega, rfl, zb (za hF5 hz8), Hok⟩
     ·have hp : l[j - 1]? = some (l[j - 1]'(by rw [Hn.out]; omega)) := List.getElem?_eq_getElem _
      generalize l[j - 1]'(by rw [Hn.out]; omega) = p at hp;have lP := zak (o := 0) zaf hr Hwl.out.wid (by omega) hp (zcC p) (zl _);simp only [Nat.add_zero] at lP
      have gp : p.ok := hok.out.good p (by
       have : (l.take j)[j - 1]? = some p := by rw [List.getElem?_take, if_pos (by omega)]; exact hp
       exact za2 this)
      have cC := fun W0 W h => zeT (W0 := W0) (W := W) gp.wk wm.key gp.ok ok h;have d0 : (0 : Int) < (j : Int) := by omega
      have d9 : 0 < j := by omega
      have d1 : decide (0 < j) = true := by simpa using d9
      have e5 : IntKind.i64.wrap ((j : Int) - 1) = ((j - 1 : Nat) : Int) := by rw [IntKind.wrap_i64]; omega
      have e4 : ((j - 1 : Nat) : Int) < (n : Int) := by omega
      have e3 : (0 : Int) ≤ ((j - 1 : Nat) : Int) := by omega
      have hge : 0 ≤ zaB p.key m.key ↔ ¬ ce p < ce m := by rw [zbE]; unfold ce; omega
      by_cases hc : 0 ≤ zaB p.key m.key
      ·have Hbad := zb (zk7 (by omega) hm hp (hge.1 hc))
       generalize zaB p.key m.key = r at *;clear hm hr hlt hp gp hge ok ov gm
       go_wp2_with (first
        | (refine zi (ds := ec m) zdA rfl (.tmp 4) (.tmp 11) rfl wr.heap.size 0 rfl rfl Hlm.out (zdw _) (Arr.new wr (ec zea).toArray 52) (by decide) (zk _ _ (by rw [Hlm.out]; decide)) ?_; intro W5 hM5 hk5; have hF5 := hk5.fr (zf hF1 _) hF1.size; clear hk5; have lMk := zem hM5; have lMv := zd1 hM5 wm.val.hl; have h55 := ze W5; have h5D := zn h55; have hwD := zn hF5; have Hfr := zb hF5)
        | fail)
       go_region_held3 (fun w' => Fr W5 w' ∧ Fr w w') (first | (go_split_ands; exact ⟨h5D, hwD⟩) | (go_split_ands; exact ⟨by assumption, by assumption⟩))
        (first
         | (go_at_call 103; (with_reducible refine (cK W5 _ (by assumption)).mono ?_); rintro e w7 ⟨rfl, hz7⟩; have hw7 := za Hfr.out hz7)
         | (go_at_call 104; (with_reducible refine (cV W5 _ (by assumption)).mono ?_); rintro e w8 ⟨rfl, hz8⟩; have hw8 := za Hfr.out hz8)
         | (go_at_call 101; (with_reducible refine (cC W5 _ (by assumption)).mono ?_); rintro e w9 ⟨rfl, hz9⟩; have hw9 := za Hfr.out hz9))
       rename_i hH;obtain ⟨-, hH⟩ := hH;go_wp2_with fail;go_ret;exact ⟨⟨false, rfl, ⟨fun h => (Bool.false_ne_true h).elim, fun h => absurd h Hbad.out⟩⟩, hH⟩
      ·have Hok := zb (zgv hok.out hm gm (.inr ⟨p, hp, by
        rcases Int.lt_or_le (ce p) (ce m) with h | h
        ·exact h
        ·exact absurd (hge.2 (by omega)) hc⟩))
       generalize zaB p.key m.key = r at *;clear hm hr hlt hp gp hge ok ov gm
       go_wp2_with (first
        | (refine zi (ds := ec m) zdA rfl (.tmp 4) (.tmp 11) rfl wr.heap.size 0 rfl rfl Hlm.out (zdw _) (Arr.new wr (ec zea).toArray 52) (by decide) (zk _ _ (by rw [Hlm.out]; decide)) ?_; intro W5 hM5 hk5; have hF5 := hk5.fr (zf hF1 _) hF1.size; clear hk5; have lMk := zem hM5; have lMv := zd1 hM5 wm.val.hl; have h55 := ze W5; have h5D := zn h55; have hwD := zn hF5; have Hfr := zb hF5)
        | fail)
       go_region_held3 (fun w' => Fr W5 w' ∧ Fr w w') (first | (go_split_ands; exact ⟨h5D, hwD⟩) | (go_split_ands; exact ⟨by assumption, by assumption⟩))
        (first
         | (go_at_call 103; (with_reducible refine (cK W5 _ (by assumption)).mono ?_); rintro e w7 ⟨rfl, hz7⟩; have hw7 := za Hfr.out hz7)
         | (go_at_call 104; (with_reducible refine (cV W5 _ (by assumption)).mono ?_); rintro e w8 ⟨rfl, hz8⟩; have hw8 := za Hfr.out hz8)
         | (go_at_call 101; (with_reducible refine (cC W5 _ (by assumption)).mono ?_); rintro e w9 ⟨rfl, hz9⟩; have hw9 := za Hfr.out hz9))
       rename_i hH;obtain ⟨-, hH⟩ := hH;go_wp2_with fail
       go_roundg (gk - 1)
       case measure => omega
       case rel => exact ⟨j + 1, by omega, rfl, zb hH, Hok⟩
  ·have hjn : j = n := by omega
   have hjz : ¬ (j : Int) < (n : Int) := by omega
   have hall : OkE l := by
    have := hok.out
    rwa [List.take_of_length_le (by rw [Hn.out]; omega)] at this
   have Hall := zb hall;clear hlt hjn hall hok;go_wp2_with fail;go_ret
   first
    | exact ⟨⟨true, rfl, ⟨fun _ => Hall.out, fun _ => rfl⟩⟩, hF.out⟩
    | exact ⟨.inr ⟨rfl, Hall.out⟩, hF.out⟩
end Go.Proofs.YtmjjjdikpnhpiaaGreat
