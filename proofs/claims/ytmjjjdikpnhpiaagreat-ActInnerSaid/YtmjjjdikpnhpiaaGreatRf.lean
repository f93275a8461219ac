/- The document's checks, bytes and fits. -/
import Derived.Test.YtmjjjdikpnhpiaaGreatLawA
import Derived.Deep.RegionWith
import Derived.Deep.Cut
import Derived.Deep.CutRange
import Derived.Test.YtmjjjdikpnhpiaaGreatOwn
import Derived.Deep.RegionHeld3
import Derived.Test.YtmjjjdikpnhpiaaGreatMsgF
import Derived.Test.YtmjjjdikpnhpiaaGreatBufL
import Derived.Test.YtmjjjdikpnhpiaaGreatBuf0
import Derived.Test.YtmjjjdikpnhpiaaGreatShort
import Derived.Test.YtmjjjdikpnhpiaaGreatLfK
import Derived.Test.YtmjjjdikpnhpiaaGreatOrP
import Derived.Deep.RegionLaw
import Derived.Deep.QuietTactic
import Derived.BigQuiet
import Derived.Test.YtmjjjdikpnhpiaaGreatFnA
import Derived.Test.YtmjjjdikpnhpiaaGreatNodA
import Derived.Test.YtmjjjdikpnhpiaaGreatLfF
import Derived.Test.YtmjjjdikpnhpiaaGreatLfL
import Derived.Test.YtmjjjdikpnhpiaaGreatNodD
import Derived.Test.YtmjjjdikpnhpiaaGreatActH
namespace Go.Proofs.YtmjjjdikpnhpiaaGreat
set_option linter.unusedVariables false
set_option linter.unusedSimpArgs false
set_option maxRecDepth 100000
open Go.RowKit
theorem zif {W0 w : World} {A : Option Addr} {n c B : Nat} {l : List Int} {v : Int} (hl : Has w B A (zS l)) (hB : B ≤ w.heap.size) (hn : l.length = n) (hsm : n ≤ maxLen) (h0 : Fr W0 w) :
 Calls Tryz.prog 87 #[.slice A n c, .int .i64 v] w fun e w' => e = .returned (.int .i64 (plc l v)) ∧ Fr W0 w' := by
 have Hl := zb hl;have Hn := zb hn;have hww := zb h0;have rr := ze w;have hnm2 : (n : Int) ≤ 9223372036854775807 := by simp only [maxLen] at hsm; omega
 clear hl hn h0;go_enter Tryz.func87, Tryz.ntmps87;go_wp2_with fail
 go_loopg [5] n (fun g s8 wr => ∃ j : Nat, j + g = n ∧ s8 = .int .i64 j ∧ Hid (Fr w wr) ∧ Hid (v ∉ l.take j))
 case atStart => exact ⟨0, by omega, rfl, zb rr, zb (by simp)⟩
 case round =>
  obtain ⟨j, hj, rfl, hW, hno⟩ := hrel
  by_cases hlt : j < n
  ·have hm : l[j]? = some (l[j]'(by rw [Hn.out]; exact hlt)) := List.getElem?_eq_getElem _
   generalize l[j]'(by rw [Hn.out]; exact hlt) = x at hm;obtain ⟨b, off, rfl, hb, hc⟩ := Hl.out j _ (zdu hm);have hWW := hW.out;have cell : wr.cell? ⟨b, off + j, none⟩ = some (.int .i64 x) := (hWW.cell (by show b < w.heap.size; omega)).trans hc;have hjz : (j : Int) < (n : Int) := by omega
   have Hm := zb hm;clear hm hc hlt
   by_cases hx : v = x
   ·have hxe : (x == v) = true := by simp [hx]
    have He : Hid (plc l v = (j : Int)) := zb (zfZ (by rw [hx]; exact Hm.out) hno.out);clear hx;go_wp2_with fail;go_ret;rw [He.out];exact ⟨rfl, za hww.out hWW⟩
   ·have hxe : (x == v) = false := by simp [Ne.symm hx]
    have Hx := zb hx;clear hx;go_wp2_with fail
    go_roundg (gk - 1)
    case measure => omega
    case rel => exact ⟨j + 1, by omega, rfl, hW, zb ((zfX Hm.out).2 ⟨hno.out, Hx.out⟩)⟩
  ·have hjn : j = n := by omega
   have hjz : ¬ (j : Int) < (n : Int) := by omega
   have He : Hid (plc l v = -1) := zb (zgm (by have := hno.out; rwa [List.take_of_length_le (by rw [Hn.out]; omega)] at this));clear hlt hjn;go_wp2_with fail;go_ret;rw [He.out];exact ⟨rfl, za hww.out hW.out⟩
section
attribute [local go_sem ↓] zae zt zw
section
variable {W0 W : World} {a b m : RM} {v : RV}
theorem zmI (wm : m.wf) (hb : Fr W0 W) : Calls Tryz.prog 88 #[mm m] W fun e w' => e = .returned (.bool (okM m)) ∧ Fr W0 w' := (zhM m wm W).mono fun _ _ ⟨he, hw⟩ => ⟨he, za hb hw⟩
end
section
attribute [local go_sem ↓] zaX
end
end
section
attribute [local go_sem ↓] zae zt zw
section
attribute [local go_sem ↓] zl2
end
end
section
attribute [local go_sem ↓] zae zt zw
section
attribute [local go_sem ↓] zaX zeW
end
end
section
attribute [local go_sem ↓] zae zt zw
end
section
attribute [local go_sem ↓] zae zt zw
section
attribute [local go_sem ↓] zaX
end
end
section
attribute [local go_sem ↓] zt zw zaX
set_option maxHeartbeats 4000000 in
theorem zmw {w : World} {A : Option Addr} {n c B : Nat} {l : List RM} (hl : Has w B A (zm mc l)) (hB : B ≤ w.heap.size) (hn : l.length = n) (hsm : n ≤ 100000) (wl : WfM l) :
 Calls Tryz.prog 59 #[.slice A n c] w fun e w' => (∃ b, e = .returned (.bool b) ∧ (b = true ↔ OkL l)) ∧ Fr w w' := by
 have Hl := zb hl;have Hn := zb hn;have Hwl := zb wl;clear hl hn wl;go_enter Tryz.func59, Tryz.ntmps59;go_wp2_with fail
 go_loopg [3] n (fun g s7 wr => ∃ j : Nat, j + g = n ∧ s7 = .int .i64 j ∧ Hid (Fr w wr) ∧ Hid (OkL (l.take j)))
 case atStart => exact ⟨0, by omega, rfl, zb (ze w), zb OkL.nil⟩
 case round =>
  obtain ⟨j, hj, rfl, hF, hok⟩ := hrel
  by_cases hlt : j < n
  ·have hm : l[j]? = some (l[j]'(by rw [Hn.out]; exact hlt)) := List.getElem?_eq_getElem _
   generalize l[j]'(by rw [Hn.out]; exact hlt) = m at hm;obtain ⟨b, off, rfl, hb1, hr⟩ := zJ Hl.out Hwl.out.wid (by decide) (by intro e; rw [e] at hm; simp at hm);have lX := z9 za4 hr Hwl.out.wid (by omega) hm;have lXk := zak zaf hr Hwl.out.wid (by omega) hm (zcO m) (zl _);have wm := Hwl.out m (za8 hm);have Hm := zb hm;have Hlm := zb (zP wm.val.hl);have hF1 := hF.out;have hwD := zn hF1;have hjz : (j : Int) < (n : Int) := by omega
   have cK := fun W0 W h => zmI (W0 := W0) (W := W) wm h
   cases om : okM m with
   | false =>
    rw [om] at cK;have Hbad := zb (zkY hm om);clear hm hr hlt om;go_wp2_with fail;refine wp_region_any (by kernel_rfl) ?_;change wpAny _ _ _ _ _ _ _ (World.drew _);refine wpAny_take (i := 0) (v := ?_) rfl (by kernel_rfl) (by kernel_rfl) (by kernel_rfl) (fun _ _ _ h => h) (Or.inl ⟨by rfl, ?_⟩) ?_;rotate_left
    ·intro w; go_simp; try with_reducible rfl
    simp only [List.getElem_toArray, List.getElem_cons_zero, Act.put, List.setIfInBounds_toArray, List.set_cons_zero, List.set_cons_succ];refine wpAny_take (i := 1) (v := ?_) rfl (by kernel_rfl) (by kernel_rfl) (by kernel_rfl) (fun _ _ _ h => h) (Or.inl ⟨by rfl, ?_⟩) ?_;rotate_left
    ·intro w; go_simp; try with_reducible rfl
    simp only [xs, Act.put];refine wpAny_take (i := 2) (v := ?_) rfl (by kernel_rfl) (by kernel_rfl) (by kernel_rfl) (fun _ _ _ h => h) (Or.inl ⟨by rfl, ?_⟩) ?_;rotate_left
    ·intro w; go_simp; try with_reducible rfl
    simp only [xs, Act.put];refine wpAny_ready (rs := [3]) (by kernel_rfl) (by simp) ?_;refine AllReady.cons rfl (fun K hK => ?_) AllReady.nil;go_simp;refine hK _ _ ?_;clear hK K
    try simp only [xs, Act.put]
    refine wpAny_ready (rs := [4]) (by kernel_rfl) (by simp) ?_;refine AllReady.cons rfl (fun K hK => ?_) AllReady.nil;go_simp;refine (cK w _ hwD).mono ?_;rintro e w8 ⟨rfl, hz8⟩;go_simp;refine hK _ _ ?_;clear hK K
    try simp only [xs, Act.put]
    refine wpAny_take (i := 5) (v := ?_) rfl (by kernel_rfl) (by kernel_rfl) (by kernel_rfl) (fun _ _ _ h => h) (Or.inl ⟨by rfl, ?_⟩) ?_;rotate_left
    ·intro w; go_simp; try with_reducible rfl
    simp only [xs, Act.put];refine wpAny_take (i := 6) (v := ?_) rfl (by kernel_rfl) (by kernel_rfl) (by kernel_rfl) (fun _ _ _ h => h) (Or.inl ⟨by rfl, ?_⟩) ?_;rotate_left
    ·intro w; go_simp; try with_reducible rfl
    simp only [xs, Act.put];refine wpAny_take (i := 7) (v := undef) rfl (by kernel_rfl) (by kernel_rfl) (by kernel_rfl) (fun _ _ _ h => h) (Or.inr ⟨by rfl, rfl⟩) ?_;simp only [xs, Act.put];refine wpAny_take (i := 8) (v := undef) rfl (by kernel_rfl) (by kernel_rfl) (by kernel_rfl) (fun _ _ _ h => h) (Or.inr ⟨by rfl, rfl⟩) ?_;simp only [xs, Act.put];refine wpAny_take (i := 9) (v := undef) rfl (by kernel_rfl) (by kernel_rfl) (by kernel_rfl) (fun _ _ _ h => h) (Or.inr ⟨by rfl, rfl⟩) ?_;simp only [xs, Act.put];refine wpAny_take (i := 10) (v := undef) rfl (by kernel_rfl) (by kernel_rfl) (by kernel_rfl) (fun _ _ _ h => h) (Or.inr ⟨by rfl, rfl⟩) ?_;simp only [xs, Act.put];refine wpAny_take (i := 11) (v := undef) rfl (by kernel_rfl) (by kernel_rfl) (by kernel_rfl) (fun _ _ _ h => h) (Or.inr ⟨by rfl, rfl⟩) ?_;simp only [xs, Act.put];refine wpAny_take (i := 12) (v := undef) rfl (by kernel_rfl) (by kernel_rfl) (by kernel_rfl) (fun _ _ _ h => h) (Or.inr ⟨by rfl, rfl⟩) ?_;simp only [xs, Act.put];refine wpAny_take (i := 13) (v := undef) rfl (by kernel_rfl) (by kernel_rfl) (by kernel_rfl) (fun _ _ _ h => h) (Or.inr ⟨by rfl, rfl⟩) ?_;simp only [xs, Act.put];refine wpAny_take (i := 14) (v := undef) rfl (by kernel_rfl) (by kernel_rfl) (by kernel_rfl) (fun _ _ _ h => h) (Or.inr ⟨by rfl, rfl⟩) ?_;simp only [xs, Act.put];refine wpAny_take (i := 15) (v := undef) rfl (by kernel_rfl) (by kernel_rfl) (by kernel_rfl) (fun _ _ _ h => h) (Or.inr ⟨by rfl, rfl⟩) ?_;simp only [xs, Act.put]
    refine wpAny_take (i := 16) (v := undef) rfl (by kernel_rfl) (by kernel_rfl) (by kernel_rfl) (fun _ _ _ h => h) (Or.inr ⟨by rfl, rfl⟩) ?_;simp only [xs, Act.put];refine wpAny_take (i := 17) (v := undef) rfl (by kernel_rfl) (by kernel_rfl) (by kernel_rfl) (fun _ _ _ h => h) (Or.inr ⟨by rfl, rfl⟩) ?_;simp only [xs, Act.put];refine wpAny_take (i := 18) (v := undef) rfl (by kernel_rfl) (by kernel_rfl) (by kernel_rfl) (fun _ _ _ h => h) (Or.inr ⟨by rfl, rfl⟩) ?_;simp only [xs, Act.put];refine wpAny_take (i := 19) (v := undef) rfl (by kernel_rfl) (by kernel_rfl) (by kernel_rfl) (fun _ _ _ h => h) (Or.inr ⟨by rfl, rfl⟩) ?_;simp only [xs, Act.put];refine wpAny_take (i := 20) (v := undef) rfl (by kernel_rfl) (by kernel_rfl) (by kernel_rfl) (fun _ _ _ h => h) (Or.inr ⟨by rfl, rfl⟩) ?_;simp only [xs, Act.put];refine wpAny_take (i := 21) (v := undef) rfl (by kernel_rfl) (by kernel_rfl) (by kernel_rfl) (fun _ _ _ h => h) (Or.inr ⟨by rfl, rfl⟩) ?_;simp only [xs, Act.put];refine wpAny_take (i := 22) (v := undef) rfl (by kernel_rfl) (by kernel_rfl) (by kernel_rfl) (fun _ _ _ h => h) (Or.inr ⟨by rfl, rfl⟩) ?_;simp only [xs, Act.put];refine wpAny_take (i := 23) (v := undef) rfl (by kernel_rfl) (by kernel_rfl) (by kernel_rfl) (fun _ _ _ h => h) (Or.inr ⟨by rfl, rfl⟩) ?_;simp only [xs, Act.put];refine wpAny_take (i := 24) (v := ?_) rfl (by kernel_rfl) (by kernel_rfl) (by kernel_rfl) (fun _ _ _ h => h) (Or.inl ⟨by rfl, ?_⟩) ?_;rotate_left
    ·intro w; go_simp; try with_reducible rfl
    simp only [xs, Act.put];refine wpAny_done (by kernel_rfl) ?_ _;go_wp2_with fail;go_ret;exact ⟨⟨false, rfl, ⟨fun h => (Bool.false_ne_true h).elim, fun h => absurd h Hbad.out⟩⟩, hz8⟩
   | true =>
    rw [om] at cK;have Hom := zb om
    by_cases h0 : j = 0
    ·subst h0
     have Hok := zb (zfU hok.out hm wm om (.inl rfl));simp only [Nat.zero_mul, Nat.add_zero] at lX lXk;rw [show ((0 : Nat) : Int) = 0 from rfl] at hjz ⊢;clear hm hr hlt om;go_wp2_with fail;refine wp_region_any (by kernel_rfl) ?_;change wpAny _ _ _ _ _ _ _ (World.drew _);refine wpAny_take (i := 0) (v := ?_) rfl (by kernel_rfl) (by kernel_rfl) (by kernel_rfl) (fun _ _ _ h => h) (Or.inl ⟨by rfl, ?_⟩) ?_;rotate_left
     ·intro w; go_simp; try with_reducible rfl
     simp only [List.getElem_toArray, List.getElem_cons_zero, Act.put, List.setIfInBounds_toArray, List.set_cons_zero, List.set_cons_succ];refine wpAny_take (i := 1) (v := ?_) rfl (by kernel_rfl) (by kernel_rfl) (by kernel_rfl) (fun _ _ _ h => h) (Or.inl ⟨by rfl, ?_⟩) ?_;rotate_left
     ·intro w; go_simp; try with_reducible rfl
     simp only [xs, Act.put];refine wpAny_take (i := 2) (v := ?_) rfl (by kernel_rfl) (by kernel_rfl) (by kernel_rfl) (fun _ _ _ h => h) (Or.inl ⟨by rfl, ?_⟩) ?_;rotate_left
     ·intro w; go_simp; try with_reducible rfl
     simp only [xs, Act.put];refine wpAny_ready (rs := [3]) (by kernel_rfl) (by simp) ?_;refine AllReady.cons rfl (fun K hK => ?_) AllReady.nil;go_simp;refine hK _ _ ?_;clear hK K
     try simp only [xs, Act.put]
     refine wpAny_ready (rs := [4]) (by kernel_rfl) (by simp) ?_;refine AllReady.cons rfl (fun K hK => ?_) AllReady.nil;go_simp;refine (cK w _ hwD).mono ?_;rintro e w8 ⟨rfl, hz8⟩;go_simp;refine hK _ _ ?_;clear hK K
     try simp only [xs, Act.put]
     refine wpAny_take (i := 5) (v := ?_) rfl (by kernel_rfl) (by kernel_rfl) (by kernel_rfl) (fun _ _ _ h => h) (Or.inl ⟨by rfl, ?_⟩) ?_;rotate_left
     ·intro w; go_simp; try with_reducible rfl
     simp only [xs, Act.put];refine wpAny_take (i := 6) (v := ?_) rfl (by kernel_rfl) (by kernel_rfl) (by kernel_rfl) (fun _ _ _ h => h) (Or.inl ⟨by rfl, ?_⟩) ?_;rotate_left
     ·intro w; go_simp; try with_reducible rfl
     simp only [xs, Act.put];refine wpAny_take (i := 7) (v := ?_) rfl (by kernel_rfl) (by kernel_rfl) (by kernel_rfl) (fun _ _ _ h => h) (Or.inl ⟨by rfl, ?_⟩) ?_;rotate_left
     ·intro w; go_simp; try with_reducible rfl
     simp only [xs, Act.put];refine wpAny_take (i := 8) (v := ?_) rfl (by kernel_rfl) (by kernel_rfl) (by kernel_rfl) (fun _ _ _ h => h) (Or.inl ⟨by rfl, ?_⟩) ?_;rotate_left
     ·intro w; go_simp; try with_reducible rfl
     simp only [xs, Act.put];refine wpAny_take (i := 9) (v := ?_) rfl (by kernel_rfl) (by kernel_rfl) (by kernel_rfl) (fun _ _ _ h => h) (Or.inl ⟨by rfl, ?_⟩) ?_;rotate_left
     ·intro w; go_simp; try with_reducible rfl
     simp only [xs, Act.put];refine wpAny_take (i := 10) (v := undef) rfl (by kernel_rfl) (by kernel_rfl) (by kernel_rfl) (fun _ _ _ h => h) (Or.inr ⟨by rfl, rfl⟩) ?_;simp only [xs, Act.put];refine wpAny_take (i := 11) (v := undef) rfl (by kernel_rfl) (by kernel_rfl) (by kernel_rfl) (fun _ _ _ h => h) (Or.inr ⟨by rfl, rfl⟩) ?_;simp only [xs, Act.put];refine wpAny_take (i := 12) (v := undef) rfl (by kernel_rfl) (by kernel_rfl) (by kernel_rfl) (fun _ _ _ h => h) (Or.inr ⟨by rfl, rfl⟩) ?_;simp only [xs, Act.put];refine wpAny_take (i := 13) (v := undef) rfl (by kernel_rfl) (by kernel_rfl) (by kernel_rfl) (fun _ _ _ h => h) (Or.inr ⟨by rfl, rfl⟩) ?_;simp only [xs, Act.put];refine wpAny_take (i := 14) (v := undef) rfl (by kernel_rfl) (by kernel_rfl) (by kernel_rfl) (fun _ _ _ h => h) (Or.inr ⟨by rfl, rfl⟩) ?_;simp only [xs, Act.put];refine wpAny_take (i := 15) (v := undef) rfl (by kernel_rfl) (by kernel_rfl) (by kernel_rfl) (fun _ _ _ h => h) (Or.inr ⟨by rfl, rfl⟩) ?_;simp only [xs, Act.put];refine wpAny_take (i := 16) (v := undef) rfl (by kernel_rfl) (by kernel_rfl) (by kernel_rfl) (fun _ _ _ h => h) (Or.inr ⟨by rfl, rfl⟩) ?_;simp only [xs, Act.put];refine wpAny_take (i := 17) (v := undef) rfl (by kernel_rfl) (by kernel_rfl) (by kernel_rfl) (fun _ _ _ h => h) (Or.inr ⟨by rfl, rfl⟩) ?_;simp only [xs, Act.put];refine wpAny_take (i := 18) (v := undef) rfl (by kernel_rfl) (by kernel_rfl) (by kernel_rfl) (fun _ _ _ h => h) (Or.inr ⟨by rfl, rfl⟩) ?_;simp only [xs, Act.put]
     refine wpAny_take (i := 19) (v := undef) rfl (by kernel_rfl) (by kernel_rfl) (by kernel_rfl) (fun _ _ _ h => h) (Or.inr ⟨by rfl, rfl⟩) ?_;simp only [xs, Act.put];refine wpAny_take (i := 20) (v := undef) rfl (by kernel_rfl) (by kernel_rfl) (by kernel_rfl) (fun _ _ _ h => h) (Or.inr ⟨by rfl, rfl⟩) ?_;simp only [xs, Act.put];refine wpAny_take (i := 21) (v := undef) rfl (by kernel_rfl) (by kernel_rfl) (by kernel_rfl) (fun _ _ _ h => h) (Or.inr ⟨by rfl, rfl⟩) ?_;simp only [xs, Act.put];refine wpAny_take (i := 22) (v := undef) rfl (by kernel_rfl) (by kernel_rfl) (by kernel_rfl) (fun _ _ _ h => h) (Or.inr ⟨by rfl, rfl⟩) ?_;simp only [xs, Act.put];refine wpAny_take (i := 23) (v := ?_) rfl (by kernel_rfl) (by kernel_rfl) (by kernel_rfl) (fun _ _ _ h => h) (Or.inl ⟨by rfl, ?_⟩) ?_;rotate_left
     ·intro w; go_simp; try with_reducible rfl
     simp only [xs, Act.put];refine wpAny_take (i := 24) (v := ?_) rfl (by kernel_rfl) (by kernel_rfl) (by kernel_rfl) (fun _ _ _ h => h) (Or.inl ⟨by rfl, ?_⟩) ?_;rotate_left
     ·intro w; go_simp; try with_reducible rfl
     simp only [xs, Act.put];refine wpAny_done (by kernel_rfl) ?_ _;go_wp2_with fail
     go_roundg (gk - 1)
     case measure => omega
     case rel => exact ⟨1, by omega, rfl, zb (hz8), Hok⟩
    ·have hp : l[j - 1]? = some (l[j - 1]'(by rw [Hn.out]; omega)) := List.getElem?_eq_getElem _
     generalize l[j - 1]'(by rw [Hn.out]; omega) = p at hp;have lP := zak zaf hr Hwl.out.wid (by omega) hp (zcO p) (zl _)
     have gp : p.wf ∧ okM p = true := hok.out.good p (by
      have : (l.take j)[j - 1]? = some p := by rw [List.getElem?_take, if_pos (by omega)]; exact hp
      exact za8 this)
     have cC := fun W0 W h => zcF (W0 := W0) (W := W) gp.1.key wm.key (zaH gp.2) (zaH om) h;have d0 : (0 : Int) < (j : Int) := by omega
     have d9 : 0 < j := by omega
     have d1 : decide (0 < j) = true := by simpa using d9
     have e5 : IntKind.i64.wrap ((j : Int) - 1) = ((j - 1 : Nat) : Int) := by rw [IntKind.wrap_i64]; omega
     have e4 : ((j - 1 : Nat) : Int) < (n : Int) := by omega
     have e3 : (0 : Int) ≤ ((j - 1 : Nat) : Int) := by omega
     have hge : 0 ≤ zaB p.key m.key ↔ ¬ cd p < cd m := by rw [zbE]; unfold cd; omega
     by_cases hc : 0 ≤ zaB p.key m.key
     ·have Hbad := zb (zkv (by omega) hm hp (hge.1 hc))
      generalize zaB p.key m.key = r at *;clear hm hr hlt om hp gp hge;go_wp2_with fail
      go_region_held3 (fun w' => Fr w w') (first | exact hwD | assumption)
       (first
        | (go_at_call 88; (with_reducible refine (cK w _ (by assumption)).mono ?_); rintro e w8 ⟨rfl, hz8⟩)
        | (go_at_call 26; (with_reducible refine (cC w _ (by assumption)).mono ?_); rintro e w9 ⟨rfl, hz9⟩))
      rename_i hH
      skip
      go_wp2_with fail;go_ret;exact ⟨⟨false, rfl, ⟨fun h => (Bool.false_ne_true h).elim, fun h => absurd h Hbad.out⟩⟩, hH⟩
     ·have Hok := zb (zfU hok.out hm wm om (.inr ⟨p, hp, by
       rcases Int.lt_or_le (cd p) (cd m) with h | h
       ·exact h
       ·exact absurd (hge.2 (by omega)) hc⟩))
      generalize zaB p.key m.key = r at *;clear hm hr hlt om hp gp hge;go_wp2_with fail
      go_region_held3 (fun w' => Fr w w') (first | exact hwD | assumption)
       (first
        | (go_at_call 88; (with_reducible refine (cK w _ (by assumption)).mono ?_); rintro e w8 ⟨rfl, hz8⟩)
        | (go_at_call 26; (with_reducible refine (cC w _ (by assumption)).mono ?_); rintro e w9 ⟨rfl, hz9⟩))
      rename_i hH
      skip
      go_wp2_with fail
      go_roundg (gk - 1)
      case measure => omega
      case rel => exact ⟨j + 1, by omega, rfl, zb (hH), Hok⟩
  ·have hjn : j = n := by omega
   have hjz : ¬ (j : Int) < (n : Int) := by omega
   have hall : OkL l := by
    have := hok.out
    rwa [List.take_of_length_le (by rw [Hn.out]; omega)] at this
   have Hall := zb hall;clear hlt hjn hall hok;go_wp2_with fail;go_ret
   first
    | exact ⟨⟨true, rfl, ⟨fun _ => Hall.out, fun _ => rfl⟩⟩, hF.out⟩
    | exact ⟨.inr ⟨rfl, Hall.out⟩, hF.out⟩
end
section
attribute [local go_sem ↓] zt zw zaX
end
section
attribute [local go_sem ↓] zt zw zaX
end
section
attribute [local go_sem ↓] zt zbh zae zw
set_option maxHeartbeats 4000000 in
theorem zmo {w : World} {A : Option Addr} {n c B : Nat} {l : List RE} (hl : Has w B A (zm ec l)) (hB : B ≤ w.heap.size) (hn : l.length = n) (hsm : n ≤ 100000) (wl : WfE l) :
 Calls Tryz.prog 57 #[.slice A n c] w fun e w' => (∃ b, e = .returned (.bool b) ∧ (b = true ↔ OkE l)) ∧ Fr w w' := by
 have Hl := zb hl;have Hn := zb hn;have Hwl := zb wl;clear hl hn wl;go_enter Tryz.func57, Tryz.ntmps57;go_wp2_with fail
 go_loopg [3] n (fun g s7 wr => ∃ j : Nat, j + g = n ∧ s7 = .int .i64 j ∧ Hid (Fr w wr) ∧ Hid (OkE (l.take j)))
 case atStart => exact ⟨0, by omega, rfl, zb (ze w), zb OkE.nil⟩
 case round =>
  obtain ⟨j, hj, rfl, hF, hok⟩ := hrel
  by_cases hlt : j < n
  ·have hm : l[j]? = some (l[j]'(by rw [Hn.out]; exact hlt)) := List.getElem?_eq_getElem _
   generalize l[j]'(by rw [Hn.out]; exact hlt) = m at hm;obtain ⟨b, off, rfl, hb1, hr⟩ := zJ Hl.out Hwl.out.wid (by decide) (by intro e; rw [e] at hm; simp at hm);have wm := Hwl.out m (za2 hm);have lX := z9 zh4 hr Hwl.out.wid (by omega) hm;have lXk := zak (o := 0) zaf hr Hwl.out.wid (by omega) hm (zcC m) (zl _);simp only [Nat.add_zero] at lXk;have lXv := zak (o := 9) zbs hr Hwl.out.wid (by omega) hm (ze4 wm.val.hl) (zD wm.val.hl);have Hm := zb hm;have Hlm := zb (zbT wm.val.hl);have hF1 := hF.out;have hwD := zn hF1;have hjz : (j : Int) < (n : Int) := by omega
   have cK := fun W0 W h => zfC (W0 := W0) (W := W) wm.key h;have cV := fun W0 W h => zju (W0 := W0) (W := W) wm.val h
   cases ok : okB m.key with
   | false =>
    rw [ok] at cK;have Hbad := zb (zkS hm ok);clear hm hr hlt ok;go_wp2_with fail;refine wp_region_any (by kernel_rfl) ?_;change wpAny _ _ _ _ _ _ _ (World.drew _);refine wpAny_take (i := 0) (v := ?_) rfl (by kernel_rfl) (by kernel_rfl) (by kernel_rfl) (fun _ _ _ h => h) (Or.inl ⟨by rfl, ?_⟩) ?_;rotate_left
    ·intro w; go_simp; try with_reducible rfl
    simp only [List.getElem_toArray, List.getElem_cons_zero, Act.put, List.setIfInBounds_toArray, List.set_cons_zero, List.set_cons_succ];refine wpAny_take (i := 1) (v := ?_) rfl (by kernel_rfl) (by kernel_rfl) (by kernel_rfl) (fun _ _ _ h => h) (Or.inl ⟨by rfl, ?_⟩) ?_;rotate_left
    ·intro w; go_simp; try with_reducible rfl
    simp only [xs, Act.put];refine wpAny_take (i := 2) (v := ?_) rfl (by kernel_rfl) (by kernel_rfl) (by kernel_rfl) (fun _ _ _ h => h) (Or.inl ⟨by rfl, ?_⟩) ?_;rotate_left
    ·intro w; go_simp; try with_reducible rfl
    simp only [xs, Act.put];refine wpAny_take (i := 3) (v := ?_) rfl (by kernel_rfl) (by kernel_rfl) (by kernel_rfl) (fun _ _ _ h => h) (Or.inl ⟨by rfl, ?_⟩) ?_;rotate_left
    ·intro w; go_simp; try with_reducible rfl
    simp only [xs, Act.put];refine wpAny_ready (rs := [4]) (by kernel_rfl) (by simp) ?_;refine AllReady.cons rfl (fun K hK => ?_) AllReady.nil;go_simp;refine hK _ _ ?_;clear hK K
    try simp only [xs, Act.put]
    refine wpAny_ready (rs := [5]) (by kernel_rfl) (by simp) ?_;refine AllReady.cons rfl (fun K hK => ?_) AllReady.nil;go_simp;refine (cK w _ hwD).mono ?_;rintro e w7 ⟨rfl, hz7⟩;go_simp;refine hK _ _ ?_;clear hK K
    try simp only [xs, Act.put]
    refine wpAny_take (i := 6) (v := ?_) rfl (by kernel_rfl) (by kernel_rfl) (by kernel_rfl) (fun _ _ _ h => h) (Or.inl ⟨by rfl, ?_⟩) ?_;rotate_left
    ·intro w; go_simp; try with_reducible rfl
    simp only [xs, Act.put];refine wpAny_take (i := 7) (v := ?_) rfl (by kernel_rfl) (by kernel_rfl) (by kernel_rfl) (fun _ _ _ h => h) (Or.inl ⟨by rfl, ?_⟩) ?_;rotate_left
    ·intro w; go_simp; try with_reducible rfl
    simp only [xs, Act.put];refine wpAny_take (i := 8) (v := undef) rfl (by kernel_rfl) (by kernel_rfl) (by kernel_rfl) (fun _ _ _ h => h) (Or.inr ⟨by rfl, rfl⟩) ?_;simp only [xs, Act.put];refine wpAny_take (i := 9) (v := undef) rfl (by kernel_rfl) (by kernel_rfl) (by kernel_rfl) (fun _ _ _ h => h) (Or.inr ⟨by rfl, rfl⟩) ?_;simp only [xs, Act.put];refine wpAny_take (i := 10) (v := undef) rfl (by kernel_rfl) (by kernel_rfl) (by kernel_rfl) (fun _ _ _ h => h) (Or.inr ⟨by rfl, rfl⟩) ?_;simp only [xs, Act.put];refine wpAny_take (i := 11) (v := undef) rfl (by kernel_rfl) (by kernel_rfl) (by kernel_rfl) (fun _ _ _ h => h) (Or.inr ⟨by rfl, rfl⟩) ?_;simp only [xs, Act.put];refine wpAny_take (i := 12) (v := undef) rfl (by kernel_rfl) (by kernel_rfl) (by kernel_rfl) (fun _ _ _ h => h) (Or.inr ⟨by rfl, rfl⟩) ?_;simp only [xs, Act.put];refine wpAny_take (i := 13) (v := undef) rfl (by kernel_rfl) (by kernel_rfl) (by kernel_rfl) (fun _ _ _ h => h) (Or.inr ⟨by rfl, rfl⟩) ?_;simp only [xs, Act.put];refine wpAny_take (i := 14) (v := undef) rfl (by kernel_rfl) (by kernel_rfl) (by kernel_rfl) (fun _ _ _ h => h) (Or.inr ⟨by rfl, rfl⟩) ?_;simp only [xs, Act.put];refine wpAny_take (i := 15) (v := ?_) rfl (by kernel_rfl) (by kernel_rfl) (by kernel_rfl) (fun _ _ _ h => h) (Or.inl ⟨by rfl, ?_⟩) ?_;rotate_left
    ·intro w; go_simp; try with_reducible rfl
    simp only [xs, Act.put];refine wpAny_take (i := 16) (v := ?_) rfl (by kernel_rfl) (by kernel_rfl) (by kernel_rfl) (fun _ _ _ h => h) (Or.inl ⟨by rfl, ?_⟩) ?_;rotate_left
    ·intro w; go_simp; try with_reducible rfl
    simp only [xs, Act.put];refine wpAny_take (i := 17) (v := undef) rfl (by kernel_rfl) (by kernel_rfl) (by kernel_rfl) (fun _ _ _ h => h) (Or.inr ⟨by rfl, rfl⟩) ?_;simp only [xs, Act.put];refine wpAny_take (i := 18) (v := undef) rfl (by kernel_rfl) (by kernel_rfl) (by kernel_rfl) (fun _ _ _ h => h) (Or.inr ⟨by rfl, rfl⟩) ?_;simp only [xs, Act.put];refine wpAny_take (i := 19) (v := undef) rfl (by kernel_rfl) (by kernel_rfl) (by kernel_rfl) (fun _ _ _ h => h) (Or.inr ⟨by rfl, rfl⟩) ?_;simp only [xs, Act.put];refine wpAny_take (i := 20) (v := undef) rfl (by kernel_rfl) (by kernel_rfl) (by kernel_rfl) (fun _ _ _ h => h) (Or.inr ⟨by rfl, rfl⟩) ?_;simp only [xs, Act.put];refine wpAny_take (i := 21) (v := undef) rfl (by kernel_rfl) (by kernel_rfl) (by kernel_rfl) (fun _ _ _ h => h) (Or.inr ⟨by rfl, rfl⟩) ?_;simp only [xs, Act.put];refine wpAny_take (i := 22) (v := undef) rfl (by kernel_rfl) (by kernel_rfl) (by kernel_rfl) (fun _ _ _ h => h) (Or.inr ⟨by rfl, rfl⟩) ?_;simp only [xs, Act.put];refine wpAny_take (i := 23) (v := undef) rfl (by kernel_rfl) (by kernel_rfl) (by kernel_rfl) (fun _ _ _ h => h) (Or.inr ⟨by rfl, rfl⟩) ?_;simp only [xs, Act.put];refine wpAny_take (i := 24) (v := undef) rfl (by kernel_rfl) (by kernel_rfl) (by kernel_rfl) (fun _ _ _ h => h) (Or.inr ⟨by rfl, rfl⟩) ?_;simp only [xs, Act.put];refine wpAny_take (i := 25) (v := undef) rfl (by kernel_rfl) (by kernel_rfl) (by kernel_rfl) (fun _ _ _ h => h) (Or.inr ⟨by rfl, rfl⟩) ?_;simp only [xs, Act.put]
    refine wpAny_take (i := 26) (v := undef) rfl (by kernel_rfl) (by kernel_rfl) (by kernel_rfl) (fun _ _ _ h => h) (Or.inr ⟨by rfl, rfl⟩) ?_;simp only [xs, Act.put];refine wpAny_take (i := 27) (v := undef) rfl (by kernel_rfl) (by kernel_rfl) (by kernel_rfl) (fun _ _ _ h => h) (Or.inr ⟨by rfl, rfl⟩) ?_;simp only [xs, Act.put];refine wpAny_take (i := 28) (v := undef) rfl (by kernel_rfl) (by kernel_rfl) (by kernel_rfl) (fun _ _ _ h => h) (Or.inr ⟨by rfl, rfl⟩) ?_;simp only [xs, Act.put];refine wpAny_take (i := 29) (v := undef) rfl (by kernel_rfl) (by kernel_rfl) (by kernel_rfl) (fun _ _ _ h => h) (Or.inr ⟨by rfl, rfl⟩) ?_;simp only [xs, Act.put];refine wpAny_take (i := 30) (v := undef) rfl (by kernel_rfl) (by kernel_rfl) (by kernel_rfl) (fun _ _ _ h => h) (Or.inr ⟨by rfl, rfl⟩) ?_;simp only [xs, Act.put];refine wpAny_take (i := 31) (v := undef) rfl (by kernel_rfl) (by kernel_rfl) (by kernel_rfl) (fun _ _ _ h => h) (Or.inr ⟨by rfl, rfl⟩) ?_;simp only [xs, Act.put];refine wpAny_take (i := 32) (v := undef) rfl (by kernel_rfl) (by kernel_rfl) (by kernel_rfl) (fun _ _ _ h => h) (Or.inr ⟨by rfl, rfl⟩) ?_;simp only [xs, Act.put];refine wpAny_take (i := 33) (v := undef) rfl (by kernel_rfl) (by kernel_rfl) (by kernel_rfl) (fun _ _ _ h => h) (Or.inr ⟨by rfl, rfl⟩) ?_;simp only [xs, Act.put];refine wpAny_take (i := 34) (v := ?_) rfl (by kernel_rfl) (by kernel_rfl) (by kernel_rfl) (fun _ _ _ h => h) (Or.inl ⟨by rfl, ?_⟩) ?_;rotate_left
    ·intro w; go_simp; try with_reducible rfl
    simp only [xs, Act.put];refine wpAny_done (by kernel_rfl) ?_ _;go_wp2_with fail;go_ret;exact ⟨⟨false, rfl, ⟨fun h => (Bool.false_ne_true h).elim, fun h => absurd h Hbad.out⟩⟩, hz7⟩
   | true =>
    rw [ok] at cK;have Hok1 := zb ok
    cases ov : okV m.val with
    | false =>
     rw [ov] at cV;have Hbad := zb (zkF hm ov);clear hm hr hlt ov ok;go_wp2_with fail;refine wp_region_any (by kernel_rfl) ?_;change wpAny _ _ _ _ _ _ _ (World.drew _);refine wpAny_take (i := 0) (v := ?_) rfl (by kernel_rfl) (by kernel_rfl) (by kernel_rfl) (fun _ _ _ h => h) (Or.inl ⟨by rfl, ?_⟩) ?_;rotate_left
     ·intro w; go_simp; try with_reducible rfl
     simp only [List.getElem_toArray, List.getElem_cons_zero, Act.put, List.setIfInBounds_toArray, List.set_cons_zero, List.set_cons_succ];refine wpAny_take (i := 1) (v := ?_) rfl (by kernel_rfl) (by kernel_rfl) (by kernel_rfl) (fun _ _ _ h => h) (Or.inl ⟨by rfl, ?_⟩) ?_;rotate_left
     ·intro w; go_simp; try with_reducible rfl
     simp only [xs, Act.put];refine wpAny_take (i := 2) (v := ?_) rfl (by kernel_rfl) (by kernel_rfl) (by kernel_rfl) (fun _ _ _ h => h) (Or.inl ⟨by rfl, ?_⟩) ?_;rotate_left
     ·intro w; go_simp; try with_reducible rfl
     simp only [xs, Act.put];refine wpAny_take (i := 3) (v := ?_) rfl (by kernel_rfl) (by kernel_rfl) (by kernel_rfl) (fun _ _ _ h => h) (Or.inl ⟨by rfl, ?_⟩) ?_;rotate_left
     ·intro w; go_simp; try with_reducible rfl
     simp only [xs, Act.put];refine wpAny_ready (rs := [4]) (by kernel_rfl) (by simp) ?_;refine AllReady.cons rfl (fun K hK => ?_) AllReady.nil;go_simp;refine hK _ _ ?_;clear hK K
     try simp only [xs, Act.put]
     refine wpAny_ready (rs := [5]) (by kernel_rfl) (by simp) ?_;refine AllReady.cons rfl (fun K hK => ?_) AllReady.nil;go_simp;refine (cK w _ hwD).mono ?_;rintro e w7 ⟨rfl, hz7⟩;go_simp;refine hK _ _ ?_;clear hK K
     try simp only [xs, Act.put]
     refine wpAny_take (i := 6) (v := ?_) rfl (by kernel_rfl) (by kernel_rfl) (by kernel_rfl) (fun _ _ _ h => h) (Or.inl ⟨by rfl, ?_⟩) ?_;rotate_left
     ·intro w; go_simp; try with_reducible rfl
     simp only [xs, Act.put];refine wpAny_take (i := 7) (v := ?_) rfl (by kernel_rfl) (by kernel_rfl) (by kernel_rfl) (fun _ _ _ h => h) (Or.inl ⟨by rfl, ?_⟩) ?_;rotate_left
     ·intro w; go_simp; try with_reducible rfl
     simp only [xs, Act.put];refine wpAny_take (i := 8) (v := ?_) rfl (by kernel_rfl) (by kernel_rfl) (by kernel_rfl) (fun _ _ _ h => h) (Or.inl ⟨by rfl, ?_⟩) ?_;rotate_left
     ·intro w; go_simp; try with_reducible rfl
     simp only [xs, Act.put];refine wpAny_take (i := 9) (v := ?_) rfl (by kernel_rfl) (by kernel_rfl) (by kernel_rfl) (fun _ _ _ h => h) (Or.inl ⟨by rfl, ?_⟩) ?_;rotate_left
     ·intro w; go_simp; try with_reducible rfl
     simp only [xs, Act.put];refine wpAny_take (i := 10) (v := ?_) rfl (by kernel_rfl) (by kernel_rfl) (by kernel_rfl) (fun _ _ _ h => h) (Or.inl ⟨by rfl, ?_⟩) ?_;rotate_left
     ·intro w; go_simp; try with_reducible rfl
     simp only [xs, Act.put];refine wpAny_take (i := 11) (v := ?_) rfl (by kernel_rfl) (by kernel_rfl) (by kernel_rfl) (fun _ _ _ h => h) (Or.inl ⟨by rfl, ?_⟩) ?_;rotate_left
     ·intro w; go_simp; try with_reducible rfl
     simp only [xs, Act.put];refine wpAny_ready (rs := [12]) (by kernel_rfl) (by simp) ?_;refine AllReady.cons rfl (fun K hK => ?_) AllReady.nil;go_simp;refine hK _ _ ?_;clear hK K
     try simp only [xs, Act.put]
     refine wpAny_ready (rs := [13]) (by kernel_rfl) (by simp) ?_;refine AllReady.cons rfl (fun K hK => ?_) AllReady.nil;go_simp;refine (cV w _ hz7).mono ?_;rintro e w8 ⟨rfl, hz8⟩;go_simp;refine hK _ _ ?_;clear hK K
     try simp only [xs, Act.put]
     refine wpAny_take (i := 14) (v := ?_) rfl (by kernel_rfl) (by kernel_rfl) (by kernel_rfl) (fun _ _ _ h => h) (Or.inl ⟨by rfl, ?_⟩) ?_;rotate_left
     ·intro w; go_simp; try with_reducible rfl
     simp only [xs, Act.put];refine wpAny_take (i := 15) (v := ?_) rfl (by kernel_rfl) (by kernel_rfl) (by kernel_rfl) (fun _ _ _ h => h) (Or.inl ⟨by rfl, ?_⟩) ?_;rotate_left
     ·intro w; go_simp; try with_reducible rfl
     simp only [xs, Act.put];refine wpAny_take (i := 16) (v := ?_) rfl (by kernel_rfl) (by kernel_rfl) (by kernel_rfl) (fun _ _ _ h => h) (Or.inl ⟨by rfl, ?_⟩) ?_;rotate_left
     ·intro w; go_simp; try with_reducible rfl
     simp only [xs, Act.put];refine wpAny_take (i := 17) (v := undef) rfl (by kernel_rfl) (by kernel_rfl) (by kernel_rfl) (fun _ _ _ h => h) (Or.inr ⟨by rfl, rfl⟩) ?_;simp only [xs, Act.put];refine wpAny_take (i := 18) (v := undef) rfl (by kernel_rfl) (by kernel_rfl) (by kernel_rfl) (fun _ _ _ h => h) (Or.inr ⟨by rfl, rfl⟩) ?_;simp only [xs, Act.put];refine wpAny_take (i := 19) (v := undef) rfl (by kernel_rfl) (by kernel_rfl) (by kernel_rfl) (fun _ _ _ h => h) (Or.inr ⟨by rfl, rfl⟩) ?_;simp only [xs, Act.put];refine wpAny_take (i := 20) (v := undef) rfl (by kernel_rfl) (by kernel_rfl) (by kernel_rfl) (fun _ _ _ h => h) (Or.inr ⟨by rfl, rfl⟩) ?_;simp only [xs, Act.put];refine wpAny_take (i := 21) (v := undef) rfl (by kernel_rfl) (by kernel_rfl) (by kernel_rfl) (fun _ _ _ h => h) (Or.inr ⟨by rfl, rfl⟩) ?_;simp only [xs, Act.put];refine wpAny_take (i := 22) (v := undef) rfl (by kernel_rfl) (by kernel_rfl) (by kernel_rfl) (fun _ _ _ h => h) (Or.inr ⟨by rfl, rfl⟩) ?_;simp only [xs, Act.put];refine wpAny_take (i := 23) (v := undef) rfl (by kernel_rfl) (by kernel_rfl) (by kernel_rfl) (fun _ _ _ h => h) (Or.inr ⟨by rfl, rfl⟩) ?_;simp only [xs, Act.put];refine wpAny_take (i := 24) (v := undef) rfl (by kernel_rfl) (by kernel_rfl) (by kernel_rfl) (fun _ _ _ h => h) (Or.inr ⟨by rfl, rfl⟩) ?_;simp only [xs, Act.put];refine wpAny_take (i := 25) (v := undef) rfl (by kernel_rfl) (by kernel_rfl) (by kernel_rfl) (fun _ _ _ h => h) (Or.inr ⟨by rfl, rfl⟩) ?_;simp only [xs, Act.put]
     refine wpAny_take (i := 26) (v := undef) rfl (by kernel_rfl) (by kernel_rfl) (by kernel_rfl) (fun _ _ _ h => h) (Or.inr ⟨by rfl, rfl⟩) ?_;simp only [xs, Act.put];refine wpAny_take (i := 27) (v := undef) rfl (by kernel_rfl) (by kernel_rfl) (by kernel_rfl) (fun _ _ _ h => h) (Or.inr ⟨by rfl, rfl⟩) ?_;simp only [xs, Act.put];refine wpAny_take (i := 28) (v := undef) rfl (by kernel_rfl) (by kernel_rfl) (by kernel_rfl) (fun _ _ _ h => h) (Or.inr ⟨by rfl, rfl⟩) ?_;simp only [xs, Act.put];refine wpAny_take (i := 29) (v := undef) rfl (by kernel_rfl) (by kernel_rfl) (by kernel_rfl) (fun _ _ _ h => h) (Or.inr ⟨by rfl, rfl⟩) ?_;simp only [xs, Act.put];refine wpAny_take (i := 30) (v := undef) rfl (by kernel_rfl) (by kernel_rfl) (by kernel_rfl) (fun _ _ _ h => h) (Or.inr ⟨by rfl, rfl⟩) ?_;simp only [xs, Act.put];refine wpAny_take (i := 31) (v := undef) rfl (by kernel_rfl) (by kernel_rfl) (by kernel_rfl) (fun _ _ _ h => h) (Or.inr ⟨by rfl, rfl⟩) ?_;simp only [xs, Act.put];refine wpAny_take (i := 32) (v := undef) rfl (by kernel_rfl) (by kernel_rfl) (by kernel_rfl) (fun _ _ _ h => h) (Or.inr ⟨by rfl, rfl⟩) ?_;simp only [xs, Act.put];refine wpAny_take (i := 33) (v := undef) rfl (by kernel_rfl) (by kernel_rfl) (by kernel_rfl) (fun _ _ _ h => h) (Or.inr ⟨by rfl, rfl⟩) ?_;simp only [xs, Act.put];refine wpAny_take (i := 34) (v := ?_) rfl (by kernel_rfl) (by kernel_rfl) (by kernel_rfl) (fun _ _ _ h => h) (Or.inl ⟨by rfl, ?_⟩) ?_;rotate_left
     ·intro w; go_simp; try with_reducible rfl
     simp only [xs, Act.put];refine wpAny_done (by kernel_rfl) ?_ _;go_wp2_with fail;go_ret;exact ⟨⟨false, rfl, ⟨fun h => (Bool.false_ne_true h).elim, fun h => absurd h Hbad.out⟩⟩, hz8⟩
    | true =>
     rw [ov] at cV;have gm : m.ok := ⟨wm.key, ok, wm.val, ov⟩
     by_cases h0 : j = 0
     ·subst h0
      have Hok := zb (zgv hok.out hm gm (.inl rfl));simp only [Nat.zero_mul, Nat.add_zero] at lX lXk lXv;rw [show ((0 : Nat) : Int) = 0 from rfl] at hjz ⊢;clear hm hr hlt ov ok gm;go_wp2_with fail;refine wp_region_any (by kernel_rfl) ?_;change wpAny _ _ _ _ _ _ _ (World.drew _);refine wpAny_take (i := 0) (v := ?_) rfl (by kernel_rfl) (by kernel_rfl) (by kernel_rfl) (fun _ _ _ h => h) (Or.inl ⟨by rfl, ?_⟩) ?_;rotate_left
      ·intro w; go_simp; try with_reducible rfl
      simp only [List.getElem_toArray, List.getElem_cons_zero, Act.put, List.setIfInBounds_toArray, List.set_cons_zero, List.set_cons_succ];refine wpAny_take (i := 1) (v := ?_) rfl (by kernel_rfl) (by kernel_rfl) (by kernel_rfl) (fun _ _ _ h => h) (Or.inl ⟨by rfl, ?_⟩) ?_;rotate_left
      ·intro w; go_simp; try with_reducible rfl
      simp only [xs, Act.put];refine wpAny_take (i := 2) (v := ?_) rfl (by kernel_rfl) (by kernel_rfl) (by kernel_rfl) (fun _ _ _ h => h) (Or.inl ⟨by rfl, ?_⟩) ?_;rotate_left
      ·intro w; go_simp; try with_reducible rfl
      simp only [xs, Act.put];refine wpAny_take (i := 3) (v := ?_) rfl (by kernel_rfl) (by kernel_rfl) (by kernel_rfl) (fun _ _ _ h => h) (Or.inl ⟨by rfl, ?_⟩) ?_;rotate_left
      ·intro w; go_simp; try with_reducible rfl
      simp only [xs, Act.put];refine wpAny_ready (rs := [4]) (by kernel_rfl) (by simp) ?_;refine AllReady.cons rfl (fun K hK => ?_) AllReady.nil;go_simp;refine hK _ _ ?_;clear hK K
      try simp only [xs, Act.put]
      refine wpAny_ready (rs := [5]) (by kernel_rfl) (by simp) ?_;refine AllReady.cons rfl (fun K hK => ?_) AllReady.nil;go_simp;refine (cK w _ hwD).mono ?_;rintro e w7 ⟨rfl, hz7⟩;go_simp;refine hK _ _ ?_;clear hK K
      try simp only [xs, Act.put]
      refine wpAny_take (i := 6) (v := ?_) rfl (by kernel_rfl) (by kernel_rfl) (by kernel_rfl) (fun _ _ _ h => h) (Or.inl ⟨by rfl, ?_⟩) ?_;rotate_left
      ·intro w; go_simp; try with_reducible rfl
      simp only [xs, Act.put];refine wpAny_take (i := 7) (v := ?_) rfl (by kernel_rfl) (by kernel_rfl) (by kernel_rfl) (fun _ _ _ h => h) (Or.inl ⟨by rfl, ?_⟩) ?_;rotate_left
      ·intro w; go_simp; try with_reducible rfl
      simp only [xs, Act.put];refine wpAny_take (i := 8) (v := ?_) rfl (by kernel_rfl) (by kernel_rfl) (by kernel_rfl) (fun _ _ _ h => h) (Or.inl ⟨by rfl, ?_⟩) ?_;rotate_left
      ·intro w; go_simp; try with_reducible rfl
      simp only [xs, Act.put];refine wpAny_take (i := 9) (v := ?_) rfl (by kernel_rfl) (by kernel_rfl) (by kernel_rfl) (fun _ _ _ h => h) (Or.inl ⟨by rfl, ?_⟩) ?_;rotate_left
      ·intro w; go_simp; try with_reducible rfl
      simp only [xs, Act.put];refine wpAny_take (i := 10) (v := ?_) rfl (by kernel_rfl) (by kernel_rfl) (by kernel_rfl) (fun _ _ _ h => h) (Or.inl ⟨by rfl, ?_⟩) ?_;rotate_left
      ·intro w; go_simp; try with_reducible rfl
      simp only [xs, Act.put];refine wpAny_take (i := 11) (v := ?_) rfl (by kernel_rfl) (by kernel_rfl) (by kernel_rfl) (fun _ _ _ h => h) (Or.inl ⟨by rfl, ?_⟩) ?_;rotate_left
      ·intro w; go_simp; try with_reducible rfl
      simp only [xs, Act.put];refine wpAny_ready (rs := [12]) (by kernel_rfl) (by simp) ?_;refine AllReady.cons rfl (fun K hK => ?_) AllReady.nil;go_simp;refine hK _ _ ?_;clear hK K
      try simp only [xs, Act.put]
      refine wpAny_ready (rs := [13]) (by kernel_rfl) (by simp) ?_;refine AllReady.cons rfl (fun K hK => ?_) AllReady.nil;go_simp;refine (cV w _ hz7).mono ?_;rintro e w8 ⟨rfl, hz8⟩;go_simp;refine hK _ _ ?_;clear hK K
      try simp only [xs, Act.put]
      refine wpAny_take (i := 14) (v := ?_) rfl (by kernel_rfl) (by kernel_rfl) (by kernel_rfl) (fun _ _ _ h => h) (Or.inl ⟨by rfl, ?_⟩) ?_;rotate_left
      ·intro w; go_simp; try with_reducible rfl
      simp only [xs, Act.put];refine wpAny_take (i := 15) (v := ?_) rfl (by kernel_rfl) (by kernel_rfl) (by kernel_rfl) (fun _ _ _ h => h) (Or.inl ⟨by rfl, ?_⟩) ?_;rotate_left
      ·intro w; go_simp; try with_reducible rfl
      simp only [xs, Act.put];refine wpAny_take (i := 16) (v := ?_) rfl (by kernel_rfl) (by kernel_rfl) (by kernel_rfl) (fun _ _ _ h => h) (Or.inl ⟨by rfl, ?_⟩) ?_;rotate_left
      ·intro w; go_simp; try with_reducible rfl
      simp only [xs, Act.put];refine wpAny_take (i := 17) (v := ?_) rfl (by kernel_rfl) (by kernel_rfl) (by kernel_rfl) (fun _ _ _ h => h) (Or.inl ⟨by rfl, ?_⟩) ?_;rotate_left
      ·intro w; go_simp; try with_reducible rfl
      simp only [xs, Act.put];refine wpAny_take (i := 18) (v := ?_) rfl (by kernel_rfl) (by kernel_rfl) (by kernel_rfl) (fun _ _ _ h => h) (Or.inl ⟨by rfl, ?_⟩) ?_;rotate_left
      ·intro w; go_simp; try with_reducible rfl
      simp only [xs, Act.put];refine wpAny_take (i := 19) (v := ?_) rfl (by kernel_rfl) (by kernel_rfl) (by kernel_rfl) (fun _ _ _ h => h) (Or.inl ⟨by rfl, ?_⟩) ?_;rotate_left
      ·intro w; go_simp; try with_reducible rfl
      simp only [xs, Act.put];refine wpAny_take (i := 20) (v := undef) rfl (by kernel_rfl) (by kernel_rfl) (by kernel_rfl) (fun _ _ _ h => h) (Or.inr ⟨by rfl, rfl⟩) ?_;simp only [xs, Act.put];refine wpAny_take (i := 21) (v := undef) rfl (by kernel_rfl) (by kernel_rfl) (by kernel_rfl) (fun _ _ _ h => h) (Or.inr ⟨by rfl, rfl⟩) ?_;simp only [xs, Act.put];refine wpAny_take (i := 22) (v := undef) rfl (by kernel_rfl) (by kernel_rfl) (by kernel_rfl) (fun _ _ _ h => h) (Or.inr ⟨by rfl, rfl⟩) ?_;simp only [xs, Act.put];refine wpAny_take (i := 23) (v := undef) rfl (by kernel_rfl) (by kernel_rfl) (by kernel_rfl) (fun _ _ _ h => h) (Or.inr ⟨by rfl, rfl⟩) ?_;simp only [xs, Act.put];refine wpAny_take (i := 24) (v := undef) rfl (by kernel_rfl) (by kernel_rfl) (by kernel_rfl) (fun _ _ _ h => h) (Or.inr ⟨by rfl, rfl⟩) ?_;simp only [xs, Act.put];refine wpAny_take (i := 25) (v := undef) rfl (by kernel_rfl) (by kernel_rfl) (by kernel_rfl) (fun _ _ _ h => h) (Or.inr ⟨by rfl, rfl⟩) ?_;simp only [xs, Act.put];refine wpAny_take (i := 26) (v := undef) rfl (by kernel_rfl) (by kernel_rfl) (by kernel_rfl) (fun _ _ _ h => h) (Or.inr ⟨by rfl, rfl⟩) ?_;simp only [xs, Act.put];refine wpAny_take (i := 27) (v := undef) rfl (by kernel_rfl) (by kernel_rfl) (by kernel_rfl) (fun _ _ _ h => h) (Or.inr ⟨by rfl, rfl⟩) ?_;simp only [xs, Act.put];refine wpAny_take (i := 28) (v := undef) rfl (by kernel_rfl) (by kernel_rfl) (by kernel_rfl) (fun _ _ _ h => h) (Or.inr ⟨by rfl, rfl⟩) ?_;simp only [xs, Act.put]
      refine wpAny_take (i := 29) (v := undef) rfl (by kernel_rfl) (by kernel_rfl) (by kernel_rfl) (fun _ _ _ h => h) (Or.inr ⟨by rfl, rfl⟩) ?_;simp only [xs, Act.put];refine wpAny_take (i := 30) (v := undef) rfl (by kernel_rfl) (by kernel_rfl) (by kernel_rfl) (fun _ _ _ h => h) (Or.inr ⟨by rfl, rfl⟩) ?_;simp only [xs, Act.put];refine wpAny_take (i := 31) (v := undef) rfl (by kernel_rfl) (by kernel_rfl) (by kernel_rfl) (fun _ _ _ h => h) (Or.inr ⟨by rfl, rfl⟩) ?_;simp only [xs, Act.put];refine wpAny_take (i := 32) (v := undef) rfl (by kernel_rfl) (by kernel_rfl) (by kernel_rfl) (fun _ _ _ h => h) (Or.inr ⟨by rfl, rfl⟩) ?_;simp only [xs, Act.put];refine wpAny_take (i := 33) (v := ?_) rfl (by kernel_rfl) (by kernel_rfl) (by kernel_rfl) (fun _ _ _ h => h) (Or.inl ⟨by rfl, ?_⟩) ?_;rotate_left
      ·intro w; go_simp; try with_reducible rfl
      simp only [xs, Act.put];refine wpAny_take (i := 34) (v := ?_) rfl (by kernel_rfl) (by kernel_rfl) (by kernel_rfl) (fun _ _ _ h => h) (Or.inl ⟨by rfl, ?_⟩) ?_;rotate_left
      ·intro w; go_simp; try with_reducible rfl
      simp only [xs, Act.put];refine wpAny_done (by kernel_rfl) ?_ _;go_wp2_with fail
      go_roundg (gk - 1)
      case measure => omega
      case rel => exact ⟨1, by omega, rfl, zb (hz8), Hok⟩
     ·have hp : l[j - 1]? = some (l[j - 1]'(by rw [Hn.out]; omega)) := List.getElem?_eq_getElem _
      generalize l[j - 1]'(by rw [Hn.out]; omega) = p at hp;have lP := zak (o := 0) zaf hr Hwl.out.wid (by omega) hp (zcC p) (zl _);simp only [Nat.add_zero] at lP
      have gp : p.ok := hok.out.good p (by
       have : (l.take j)[j - 1]? = some p := by rw [List.getElem?_take, if_pos (by omega)]; exact hp
       exact za2 this)
      have cC := fun W0 W h => zcF (W0 := W0) (W := W) gp.wk wm.key gp.ok ok h;have d0 : (0 : Int) < (j : Int) := by omega
      have d9 : 0 < j := by omega
      have d1 : decide (0 < j) = true := by simpa using d9
      have e5 : IntKind.i64.wrap ((j : Int) - 1) = ((j - 1 : Nat) : Int) := by rw [IntKind.wrap_i64]; omega
      have e4 : ((j - 1 : Nat) : Int) < (n : Int) := by omega
      have e3 : (0 : Int) ≤ ((j - 1 : Nat) : Int) := by omega
      have hge : 0 ≤ zaB p.key m.key ↔ ¬ ce p < ce m := by rw [zbE]; unfold ce; omega
      by_cases hc : 0 ≤ zaB p.key m.key
      ·have Hbad := zb (zk7 (by omega) hm hp (hge.1 hc))
       generalize zaB p.key m.key = r at *;clear hm hr hlt hp gp hge ok ov gm;go_wp2_with fail
       go_region_held3 (fun w' => Fr w w') (first | exact hwD | assumption)
        (first
         | (go_at_call 68; (with_reducible refine (cK w _ (by assumption)).mono ?_); rintro e w7 ⟨rfl, hz7⟩)
         | (go_at_call 86; (with_reducible refine (cV w _ (by assumption)).mono ?_); rintro e w8 ⟨rfl, hz8⟩)
         | (go_at_call 26; (with_reducible refine (cC w _ (by assumption)).mono ?_); rintro e w9 ⟨rfl, hz9⟩))
       rename_i hH
       skip
       go_wp2_with fail;go_ret;exact ⟨⟨false, rfl, ⟨fun h => (Bool.false_ne_true h).elim, fun h => absurd h Hbad.out⟩⟩, hH⟩
      ·have Hok := zb (zgv hok.out hm gm (.inr ⟨p, hp, by
        rcases Int.lt_or_le (ce p) (ce m) with h | h
        ·exact h
        ·exact absurd (hge.2 (by omega)) hc⟩))
       generalize zaB p.key m.key = r at *;clear hm hr hlt hp gp hge ok ov gm;go_wp2_with fail
       go_region_held3 (fun w' => Fr w w') (first | exact hwD | assumption)
        (first
         | (go_at_call 68; (with_reducible refine (cK w _ (by assumption)).mono ?_); rintro e w7 ⟨rfl, hz7⟩)
         | (go_at_call 86; (with_reducible refine (cV w _ (by assumption)).mono ?_); rintro e w8 ⟨rfl, hz8⟩)
         | (go_at_call 26; (with_reducible refine (cC w _ (by assumption)).mono ?_); rintro e w9 ⟨rfl, hz9⟩))
       rename_i hH
       skip
       go_wp2_with fail
       go_roundg (gk - 1)
       case measure => omega
       case rel => exact ⟨j + 1, by omega, rfl, zb hH, Hok⟩
  ·have hjn : j = n := by omega
   have hjz : ¬ (j : Int) < (n : Int) := by omega
   have hall : OkE l := by
    have := hok.out
    rwa [List.take_of_length_le (by rw [Hn.out]; omega)] at this
   have Hall := zb hall;clear hlt hjn hall hok;go_wp2_with fail;go_ret
   first
    | exact ⟨⟨true, rfl, ⟨fun _ => Hall.out, fun _ => rfl⟩⟩, hF.out⟩
    | exact ⟨.inr ⟨rfl, Hall.out⟩, hF.out⟩
end
section
attribute [local go_sem ↓] zt zw
theorem plc_at {l : List Int} {v : Int} {j : Nat} (h : l[j]? = some v) : plc l v = (j : Int) ↔ v ∉ l.take j := by
 constructor
 ·intro e hm
  have h1 : ∀ (l : List Int) (j : Nat), v ∈ l.take j → plc l v < j := by
   intro l
   induction l with
   | nil => intro j h; simp at h
   | cons x l ih =>
    intro j h
    cases j with
    | zero => simp at h
    | succ j =>
     simp only [List.take_succ_cons, List.mem_cons] at h;simp only [plc]
     split
     ·omega
     ·rename_i hx
      rcases h with e | e
      ·exact absurd e.symm hx
      ·have := ih j e
       split <;> omega
  have := h1 l j hm;omega
 ·exact zfZ h
theorem chkB_yes {ks : List Int} {ps : List RK} (h : zcZ ks) (hl : ps.length + 1 = ks.length) (hp : OkP ps) : zed ks ps = true := by
 unfold zed; rw [zlf h, zk3 hp, decide_eq_true hl]; rfl
end
section
attribute [local go_sem ↓] zt zw
end
section
attribute [local go_sem ↓] zt zw
theorem zeZ {ks : List Int} {ps : List RK} (h : ¬ zcZ ks) : zed ks ps = false := by unfold zed; rw [zfi h]; rfl
theorem chkB_len {ks : List Int} {ps : List RK} (h : ¬ ps.length + 1 = ks.length) : zed ks ps = false := by unfold zed; rw [decide_eq_false h, Bool.and_false]; rfl
theorem zlE {ks : List Int} {ps : List RK} (wl : WfK ps) (h : ¬ OkP ps) : zed ks ps = false := by unfold zed; rw [zj9 wl h, Bool.and_false]
set_option maxHeartbeats 4000000 in
theorem zmK {w : World} {A A2 : Option Addr} {nk ck Bk n c B : Nat} {ks : List Int} {ps : List RK} (hk : Has w Bk A2 (zS ks)) (hBk : Bk ≤ w.heap.size) (hnk : ks.length = nk) (hsk : nk ≤ 100000) (hl : Has w B A (zm kc ps)) (hB : B ≤ w.heap.size) (hn : ps.length = n) (hsm : n ≤ 100000) (wl : WfK ps) :
 Calls Tryz.prog 58 #[.slice A2 nk ck, .slice A n c] w fun e w' => e = .returned (.bool (zed ks ps)) ∧ Fr w w' := by
 have Hk := zb hk;have Hnk := zb hnk;have Hl := zb hl;have Hn := zb hn;have Hwl := zb wl;have rr := ze w;clear hk hnk hl hn wl
 by_cases h1 : (nk : Int) < 2
 ·have He : Hid (zed ks ps = false) := zb (zeZ fun h => by have := h.1; rw [Hnk.out] at this; omega)
  go_enter Tryz.func58, Tryz.ntmps58;go_wp2_with fail;go_ret;rw [He.out];exact ⟨rfl, rr⟩
 by_cases h2 : 4 < (nk : Int)
 ·have He : Hid (zed ks ps = false) := zb (zeZ fun h => by have := h.2.1; rw [Hnk.out] at this; omega)
  go_enter Tryz.func58, Tryz.ntmps58;go_wp2_with fail;go_ret;rw [He.out];exact ⟨rfl, rr⟩
 by_cases h3 : n + 1 = nk
 case neg =>
  have He : Hid (zed ks ps = false) := zb (chkB_len (by rw [Hn.out, Hnk.out]; exact h3));have e1 : ((n : Int) == (nk : Int) - 1) = false := by simp; omega
  have e2 : ((n : Int) != (nk : Int) - 1) = true := by simp; omega
  clear h3;go_enter Tryz.func58, Tryz.ntmps58;go_wp2_with fail;go_ret;rw [He.out];exact ⟨rfl, rr⟩
 have e1 : ((n : Int) == (nk : Int) - 1) = true := by simp; omega
 have e2 : ((n : Int) != (nk : Int) - 1) = false := by simp; omega
 have H3 := zb h3;clear h3;go_enter Tryz.func58, Tryz.ntmps58;go_wp2_with fail
 go_loopg [5] nk (fun g s5 wr => ∃ j : Nat, j + g = nk ∧ s5 = .int .i64 j ∧ Hid (Fr w wr) ∧ Hid (zfr (ks.take j)))
 case atStart => exact ⟨0, by omega, rfl, zb (ze w), zb ziM⟩
 case round =>
  obtain ⟨j, hj, rfl, hF, hok⟩ := hrel
  by_cases hlt : j < nk
  ·have hm : ks[j]? = some (ks[j]'(by rw [Hnk.out]; exact hlt)) := List.getElem?_eq_getElem _
   generalize ks[j]'(by rw [Hnk.out]; exact hlt) = x at hm;obtain ⟨b, off, rfl, hb, hc⟩ := Hk.out j _ (zdu hm);have hF1 := hF.out;have hrr := ze wr;have cell : wr.cell? ⟨b, off + j, none⟩ = some (.int .i64 x) := (hF1.cell (by show b < w.heap.size; omega)).trans hc;have hjz : (j : Int) < (nk : Int) := by omega
   have Hm := zb hm;have cP := fun W (h : Fr wr W) => zif (W0 := wr) (v := x) (c := ck) (Hk.out.fr hBk (za hF1 h)) (Nat.le_trans hBk (za hF1 h).size) Hnk.out (by unfold maxLen; omega) h;clear hm hc hlt
   by_cases hx1 : x < 1
   ·have He : Hid (zed ks ps = false) := zb (zeZ fun h => zdt Hm.out (.inl hx1) h.2.2)
    clear cP;go_wp2_with fail;go_ret;rw [He.out];exact ⟨rfl, hF1⟩
   by_cases hx2 : 256 ≤ x
   ·have He : Hid (zed ks ps = false) := zb (zeZ fun h => zdt Hm.out (.inr (.inl hx2)) h.2.2)
    clear cP;go_wp2_with fail;go_ret;rw [He.out];exact ⟨rfl, hF1⟩
   by_cases hx3 : x ∈ ks.take j
   ·have He : Hid (zed ks ps = false) := zb (zeZ fun h => zdt Hm.out (.inr (.inr hx3)) h.2.2)
    have hq : ¬ plc ks x = (j : Int) := fun e => (plc_at Hm.out).1 e hx3;generalize plc ks x = q at *;have q1 : (q == (j : Int)) = false := by simpa using hq
    have q2 : (q != (j : Int)) = true := by simpa using hq
    clear hq hx3
    go_wp2_with (first
     | (go_at_call 87; (with_reducible refine (cP _ hrr).mono ?_); rintro e w1 ⟨rfl, hz1⟩)
     | fail)
    go_ret;rw [He.out];exact ⟨rfl, za hF1 hz1⟩
   ·have hq : plc ks x = (j : Int) := zfZ Hm.out hx3
    have Hok2 := zb (zji hok.out Hm.out (by omega) (by omega) hx3);rw [hq] at cP;clear hq hx3
    go_wp2_with (first
     | (go_at_call 87; (with_reducible refine (cP _ hrr).mono ?_); rintro e w1 ⟨rfl, hz1⟩)
     | fail)
    go_roundg (gk - 1)
    case measure => omega
    case rel => exact ⟨j + 1, by omega, rfl, zb (za hF1 hz1), Hok2⟩
  ·have hjn : j = nk := by omega
   have hjz : ¬ (j : Int) < (nk : Int) := by omega
   have hgood : zfr ks := by have := hok.out; rwa [List.take_of_length_le (by rw [Hnk.out]; omega)] at this
   have Hkids : Hid (zcZ ks) := zb ⟨by rw [Hnk.out]; omega, by rw [Hnk.out]; omega, hgood⟩;have hFo := hF.out;obtain ⟨go0, rfl⟩ : ∃ go0 : Nat, go0 = gk := ⟨_, rfl⟩;clear hlt hjn hgood hj hok hF;go_wp2_with fail
   go_loopg [6] n (fun g s7 wr => ∃ j : Nat, j + g = n ∧ s7 = .int .i64 j ∧ Hid (Fr w wr) ∧ Hid (OkP (ps.take j)))
   case atStart => exact ⟨0, by omega, rfl, zb hFo, zb OkP.nil⟩
   case round =>
    obtain ⟨j, hj, rfl, hF, hok⟩ := hrel
    by_cases hlt : j < n
    ·have hm : ps[j]? = some (ps[j]'(by rw [Hn.out]; exact hlt)) := List.getElem?_eq_getElem _
     generalize ps[j]'(by rw [Hn.out]; exact hlt) = m at hm;obtain ⟨b, off, rfl, hb1, hr⟩ := zJ Hl.out (zdX ps) (by decide) (by intro e; rw [e] at hm; simp at hm);have wm := Hwl.out m (List.mem_of_getElem? hm);have lX0 := z9 zaf hr (zdX ps) (by omega) hm;have hF1 := hF.out;have hrr := ze wr;have hrD := zn hrr;have lX := fun W (h : Fr wr W) => lX0 W (za hF1 h);have hjz : (j : Int) < (n : Int) := by omega
     have cK := fun W0 W h => zfC (W0 := W0) (W := W) wm h
     have pv : 0 < j → okB m = true → ∃ p, ps[j - 1]? = some p ∧ (∀ W, Fr wr W → (ldS 33 (.pointer (some ⟨b, off + (j - 1) * 9, none⟩))).run Tryz.prog W = .ok (.agg (kc p).toArray) W) ∧ (∀ W0 W, Fr W0 W → Calls Tryz.prog 26 #[kv p, kv m] W fun e w' => e = .returned (.int .i64 (zaB p m)) ∧ Fr W0 w') ∧ IntKind.i64.wrap ((j : Int) - 1) = ((j - 1 : Nat) : Int) := by
      intro h0 ok;have hp : ps[j - 1]? = some (ps[j - 1]'(by rw [Hn.out]; omega)) := List.getElem?_eq_getElem _;generalize ps[j - 1]'(by rw [Hn.out]; omega) = p at hp;have gp := zlu hok.out h0 hp;exact ⟨p, hp, fun W h => z9 zaf hr (zdX ps) (by omega) hp W (za hF1 h), fun W0 W h => zcF gp.1 wm gp.2 ok h, by rw [IntKind.wrap_i64]; omega⟩
     clear lX0
     cases ok : okB m with
     | false =>
      have Hbad := zb (zko hm ok);rw [ok] at cK;clear hm hr hlt ok pv;have lP : ∀ W : World, Fr wr W → True := fun _ _ => trivial;go_wp2_with fail;refine wp_region_noPanic ?_;refine wp_region_held_drew (S := fun w' => Fr wr w') (by kernel_rfl) hrD (fun hHeld => ?_);change wpAnyH _ _ _ _ _ _ _ _ _;refine xto 0 ?_;refine xto 1 ?_;refine xto 2 ?_;refine xto 3 ?_;refine xr 4 fun K hK0 => ?_;go_simp;refine (cK wr _ (by assumption)).mono ?_;rintro e w7 ⟨rfl, zw7⟩;go_simp;refine xk hK0 zw7 ?_;clear hK0 K
      try simp only [xs, Act.put]
      refine xtb 5 true ?_;refine xtb 6 true ?_;refine xtn 7 ?_;refine xtn 8 ?_;refine xtn 9 ?_;refine xtn 10 ?_;refine xtn 11 ?_;refine xtn 12 ?_;refine xtn 13 ?_;refine xtn 14 ?_;refine xtn 15 ?_;refine xtn 16 ?_;refine xtn 17 ?_;refine xtn 18 ?_;refine xtn 19 ?_;refine xtn 20 ?_;refine xtn 21 ?_;refine xtb 22 true ?_;refine wpAnyH_done (by kernel_rfl) ?_ _;refine NoPanic.normal ?_;go_wp2_with fail;go_ret;rw [zlE Hwl.out Hbad.out];exact ⟨rfl, za hF1 (by assumption)⟩
     | true =>
      rw [ok] at cK
      rcases Nat.eq_zero_or_pos j with h0 | h0
      ·have hgt : ¬ (0 < (j : Int)) := by omega
       have Hok2 := zb (zhv hm hok.out ⟨wm, ok⟩ (.inl h0));clear hm hr hlt ok pv h0;have lP : ∀ W : World, Fr wr W → True := fun _ _ => trivial;go_wp2_with fail;refine wp_region_noPanic ?_;refine wp_region_held_drew (S := fun w' => Fr wr w') (by kernel_rfl) hrD (fun hHeld => ?_);change wpAnyH _ _ _ _ _ _ _ _ _;refine xto 0 ?_;refine xto 1 ?_;refine xto 2 ?_;refine xto 3 ?_;refine xr 4 fun K hK0 => ?_;go_simp;refine (cK wr _ (by assumption)).mono ?_;rintro e w7 ⟨rfl, zw7⟩;go_simp;refine xk hK0 zw7 ?_;clear hK0 K
       try simp only [xs, Act.put]
       refine xtb 5 false ?_;refine xtb 6 false ?_;refine xto 7 ?_;refine xtb 8 false ?_;refine xtb 9 false ?_;refine xtn 10 ?_;refine xtn 11 ?_;refine xtn 12 ?_;refine xtn 13 ?_;refine xtn 14 ?_;refine xtn 15 ?_;refine xtn 16 ?_;refine xtn 17 ?_;refine xtn 18 ?_;refine xtn 19 ?_;refine xtn 20 ?_;refine xtb 21 false ?_;refine xtb 22 false ?_;refine wpAnyH_done (by kernel_rfl) ?_ _;refine NoPanic.normal ?_;go_wp2_with fail
       go_roundg (gk - 1)
       case measure => omega
       case rel => exact ⟨j + 1, by omega, rfl, zb (za hF1 (by assumption)), Hok2⟩
      ·have hgt : 0 < (j : Int) := by omega
       obtain ⟨p, hp, lP, cC, hjw⟩ := pv h0 ok;have hjl : (j : Int) - 1 < (n : Int) := by omega
       have hjl2 : j - 1 < n := by omega
       by_cases hcd : zu p < zu m
       ·have Hok2 := zb (zhv hm hok.out ⟨wm, ok⟩ (.inr ⟨p, hp, hcd⟩))
        have hq : ¬ (0 ≤ zaB p m) := fun h => by have := zbE.1 h; omega
        clear hm hr hlt ok pv h0 hp hcd;go_wp2_with fail;refine wp_region_noPanic ?_;refine wp_region_held_drew (S := fun w' => Fr wr w') (by kernel_rfl) hrD (fun hHeld => ?_);change wpAnyH _ _ _ _ _ _ _ _ _;refine xto 0 ?_;refine xto 1 ?_;refine xto 2 ?_;refine xto 3 ?_;refine xr 4 fun K hK0 => ?_;go_simp;refine (cK wr _ (by assumption)).mono ?_;rintro e w7 ⟨rfl, zw7⟩;go_simp;refine xk hK0 zw7 ?_;clear hK0 K
        try simp only [xs, Act.put]
        refine xtb 5 false ?_;refine xtb 6 false ?_;refine xto 7 ?_;refine xtb 8 true ?_;refine xtb 9 true ?_;refine xto 10 ?_;refine xto 11 ?_;refine xto 12 ?_;refine xto 13 ?_;refine xto 14 ?_;refine xto 15 ?_;refine xto 16 ?_;refine xto 17 ?_;refine xto 18 ?_;refine xr 19 fun K hK0 => ?_;go_simp;refine (cC wr _ (by assumption)).mono ?_;rintro e w8 ⟨rfl, zw8⟩;go_simp;refine xk hK0 zw8 ?_;clear hK0 K
        try simp only [xs, Act.put]
        refine xtb 20 false ?_;refine xtb 21 false ?_;refine xtb 22 false ?_;refine wpAnyH_done (by kernel_rfl) ?_ _;refine NoPanic.normal ?_;go_wp2_with fail
        go_roundg (gk - 1)
        case measure => omega
        case rel => exact ⟨j + 1, by omega, rfl, zb (za hF1 (by assumption)), Hok2⟩
       ·have Hbad := zb (zlv h0 hm hp hcd)
        have hq : 0 ≤ zaB p m := zbE.2 (by omega);clear hm hr hlt ok pv h0 hp hcd;go_wp2_with fail;refine wp_region_noPanic ?_;refine wp_region_held_drew (S := fun w' => Fr wr w') (by kernel_rfl) hrD (fun hHeld => ?_);change wpAnyH _ _ _ _ _ _ _ _ _;refine xto 0 ?_;refine xto 1 ?_;refine xto 2 ?_;refine xto 3 ?_;refine xr 4 fun K hK0 => ?_;go_simp;refine (cK wr _ (by assumption)).mono ?_;rintro e w7 ⟨rfl, zw7⟩;go_simp;refine xk hK0 zw7 ?_;clear hK0 K
        try simp only [xs, Act.put]
        refine xtb 5 false ?_;refine xtb 6 false ?_;refine xto 7 ?_;refine xtb 8 true ?_;refine xtb 9 true ?_;refine xto 10 ?_;refine xto 11 ?_;refine xto 12 ?_;refine xto 13 ?_;refine xto 14 ?_;refine xto 15 ?_;refine xto 16 ?_;refine xto 17 ?_;refine xto 18 ?_;refine xr 19 fun K hK0 => ?_;go_simp;refine (cC wr _ (by assumption)).mono ?_;rintro e w8 ⟨rfl, zw8⟩;go_simp;refine xk hK0 zw8 ?_;clear hK0 K
        try simp only [xs, Act.put]
        refine xtb 20 true ?_;refine xtb 21 true ?_;refine xtb 22 true ?_;refine wpAnyH_done (by kernel_rfl) ?_ _;refine NoPanic.normal ?_;go_wp2_with fail;go_ret;rw [zlE Hwl.out Hbad.out];exact ⟨rfl, za hF1 (by assumption)⟩
    ·have hjn : j = n := by omega
     have hjz : ¬ (j : Int) < (n : Int) := by omega
     have hgood : OkP ps := by have := hok.out; rwa [List.take_of_length_le (by rw [Hn.out]; omega)] at this
     have He := zb (chkB_yes Hkids.out (by rw [Hn.out, Hnk.out]; exact H3.out) hgood);clear hlt hjn hgood;go_wp2_with fail;go_ret;rw [He.out];exact ⟨rfl, hF.out⟩
end
section
attribute [local go_sem ↓] zt zw
end
section
attribute [local go_sem] as_ll as_ii as_li as_il
section
variable {A1 : Option Addr} {n1 c1 : Nat} {A2 : Option Addr} {n2 c2 : Nat} {A3 : Option Addr} {n3 c3 : Nat} {A4 : Option Addr} {n4 c4 : Nat}
section
variable {B1 : Option Addr} {m1 d1 : Nat} {B2 : Option Addr} {m2 d2 : Nat} {B3 : Option Addr} {m3 d3 : Nat} {B4 : Option Addr} {m4 d4 : Nat}
end
section
attribute [local go_sem ↓] zaP
theorem zkH {w : World} {P Q : Prop} (hQ : Q ↔ n2 = 0 ∧ n3 = 0 ∧ n4 = 0 ∧ P)
 (cL : ∀ W, Fr w W → Calls Tryz.prog 57 #[.slice A1 n1 c1] W fun e w' => (∃ b, e = .returned (.bool b) ∧ (b = true ↔ P)) ∧ Fr W w') :
 Calls Tryz.prog 34 #[.agg #[.bool true, .slice A1 n1 c1, .slice A2 n2 c2, .slice A3 n3 c3, .slice A4 n4 c4]] w fun e w' => (∃ b, e = .returned (.bool b) ∧ (b = true ↔ Q)) ∧ Fr w w' := by
 obtain ⟨Z, hZ, hF, hZZ, hG⟩ : ∃ Z, w.alloc (.cells #[.bool true, .slice A1 n1 c1, .slice A2 n2 c2, .slice A3 n3 c3, .slice A4 n4 c4] 27) = Z ∧ Fr w Z ∧ Fr Z Z ∧ Arr Z w.heap.size 27 [.bool true, .slice A1 n1 c1, .slice A2 n2 c2, .slice A3 n3 c3, .slice A4 n4 c4].toArray := ⟨_, rfl, zf (ze w) _, ze _, Arr.new _ _ _⟩;have l0 : ∀ W, Fr Z W → W.cell? ⟨w.heap.size, 0, none⟩ = some (.bool true) := fun W h => (hG.below h hG.lt).cell 0;have l1 : ∀ W, Fr Z W → W.cell? ⟨w.heap.size, 1, none⟩ = some (.slice A1 n1 c1) := fun W h => (hG.below h hG.lt).cell 1;have l2 : ∀ W, Fr Z W → W.cell? ⟨w.heap.size, 2, none⟩ = some (.slice A2 n2 c2) := fun W h => (hG.below h hG.lt).cell 2;have l3 : ∀ W, Fr Z W → W.cell? ⟨w.heap.size, 3, none⟩ = some (.slice A3 n3 c3) := fun W h => (hG.below h hG.lt).cell 3;have l4 : ∀ W, Fr Z W → W.cell? ⟨w.heap.size, 4, none⟩ = some (.slice A4 n4 c4) := fun W h => (hG.below h hG.lt).cell 4;clear hG
 rcases Nat.eq_zero_or_pos n2 with e2 | p2
 ·rcases Nat.eq_zero_or_pos n3 with e3 | p3
  ·rcases Nat.eq_zero_or_pos n4 with e4 | p4
   ·have H : Hid (P ↔ Q) := zb (by rw [hQ]; simp [e2, e3, e4])
    subst e2 e3 e4;clear hQ;go_enter Tryz.func34, Tryz.ntmps34;go_wp2_with fail;refine (cL _ (za hF hZZ)).mono ?_;rintro e v2 ⟨⟨b, rfl, hb⟩, f2⟩;clear cL
    cases b
    ·have H2 : Hid (¬ Q) := zb (fun h => by have := hb.2 (H.out.2 h); cases this)
     clear hb;go_wp2_with fail;go_ret;exact ⟨⟨false, rfl, zbR H2.out⟩, za hF f2⟩
    ·have H2 : Hid (Q) := zb (H.out.1 (hb.1 rfl))
     clear hb;go_wp2_with fail;go_ret;exact ⟨⟨true, rfl, ⟨fun _ => H2.out, fun _ => rfl⟩⟩, za hF f2⟩
   ·have H : Hid (¬ Q) := zb (by rw [hQ]; omega)
    have q : ((n4 : Int) == 0) = false := by simp; omega
    subst e2 e3;clear hQ;go_enter Tryz.func34, Tryz.ntmps34;go_wp2_with fail;refine (cL _ (za hF hZZ)).mono ?_;rintro e v2 ⟨⟨b, rfl, hb⟩, f2⟩;clear cL
    cases b
    ·have H2 : Hid (¬ Q) := zb (H.out)
     clear hb;go_wp2_with fail;go_ret;exact ⟨⟨false, rfl, zbR H2.out⟩, za hF f2⟩
    ·have H2 : Hid (¬ Q) := zb (H.out)
     clear hb;go_wp2_with fail;go_ret;exact ⟨⟨false, rfl, zbR H2.out⟩, za hF f2⟩
  ·have H : Hid (¬ Q) := zb (by rw [hQ]; omega)
   have q : ((n3 : Int) == 0) = false := by simp; omega
   subst e2;clear hQ;go_enter Tryz.func34, Tryz.ntmps34;go_wp2_with fail;refine (cL _ (za hF hZZ)).mono ?_;rintro e v2 ⟨⟨b, rfl, hb⟩, f2⟩;clear cL
   cases b
   ·have H2 : Hid (¬ Q) := zb (H.out)
    clear hb;go_wp2_with fail;go_ret;exact ⟨⟨false, rfl, zbR H2.out⟩, za hF f2⟩
   ·have H2 : Hid (¬ Q) := zb (H.out)
    clear hb;go_wp2_with fail;go_ret;exact ⟨⟨false, rfl, zbR H2.out⟩, za hF f2⟩
 ·have H : Hid (¬ Q) := zb (by rw [hQ]; omega)
  have q : ((n2 : Int) == 0) = false := by simp; omega
  clear hQ;go_enter Tryz.func34, Tryz.ntmps34;go_wp2_with fail;refine (cL _ (za hF hZZ)).mono ?_;rintro e v2 ⟨⟨b, rfl, hb⟩, f2⟩;clear cL
  cases b
  ·have H2 : Hid (¬ Q) := zb (H.out)
   clear hb;go_wp2_with fail;go_ret;exact ⟨⟨false, rfl, zbR H2.out⟩, za hF f2⟩
  ·have H2 : Hid (¬ Q) := zb (H.out)
   clear hb;go_wp2_with fail;go_ret;exact ⟨⟨false, rfl, zbR H2.out⟩, za hF f2⟩
theorem zjX {w : World} {P R Q : Prop} (hQ : Q ↔ n1 = 0 ∧ P ∧ R)
 (cF : ∀ W, Fr w W → Calls Tryz.prog 58 #[.slice A2 n2 c2, .slice A3 n3 c3] W fun e w' => (∃ b, e = .returned (.bool b) ∧ (b = true ↔ P)) ∧ Fr W w')
 (cB : ∀ W, Fr w W → Calls Tryz.prog 59 #[.slice A4 n4 c4] W fun e w' => (∃ b, e = .returned (.bool b) ∧ (b = true ↔ R)) ∧ Fr W w') :
 Calls Tryz.prog 34 #[.agg #[.bool false, .slice A1 n1 c1, .slice A2 n2 c2, .slice A3 n3 c3, .slice A4 n4 c4]] w fun e w' => (∃ b, e = .returned (.bool b) ∧ (b = true ↔ Q)) ∧ Fr w w' := by
 obtain ⟨Z, hZ, hF, hZZ, hG⟩ : ∃ Z, w.alloc (.cells #[.bool false, .slice A1 n1 c1, .slice A2 n2 c2, .slice A3 n3 c3, .slice A4 n4 c4] 27) = Z ∧ Fr w Z ∧ Fr Z Z ∧ Arr Z w.heap.size 27 [.bool false, .slice A1 n1 c1, .slice A2 n2 c2, .slice A3 n3 c3, .slice A4 n4 c4].toArray := ⟨_, rfl, zf (ze w) _, ze _, Arr.new _ _ _⟩;have l0 : ∀ W, Fr Z W → W.cell? ⟨w.heap.size, 0, none⟩ = some (.bool false) := fun W h => (hG.below h hG.lt).cell 0;have l1 : ∀ W, Fr Z W → W.cell? ⟨w.heap.size, 1, none⟩ = some (.slice A1 n1 c1) := fun W h => (hG.below h hG.lt).cell 1;have l2 : ∀ W, Fr Z W → W.cell? ⟨w.heap.size, 2, none⟩ = some (.slice A2 n2 c2) := fun W h => (hG.below h hG.lt).cell 2;have l3 : ∀ W, Fr Z W → W.cell? ⟨w.heap.size, 3, none⟩ = some (.slice A3 n3 c3) := fun W h => (hG.below h hG.lt).cell 3;have l4 : ∀ W, Fr Z W → W.cell? ⟨w.heap.size, 4, none⟩ = some (.slice A4 n4 c4) := fun W h => (hG.below h hG.lt).cell 4;clear hG
 rcases Nat.eq_zero_or_pos n1 with e1 | p1
 ·have H : Hid (Q ↔ P ∧ R) := zb (by rw [hQ]; simp [e1])
  subst e1;clear hQ;go_enter Tryz.func34, Tryz.ntmps34;go_wp2_with fail;refine (cF _ (za hF hZZ)).mono ?_;rintro e v2 ⟨⟨b, rfl, hb⟩, f2⟩;clear cF
  cases b
  ·have H2 : Hid (¬ Q) := zb (fun h => by have := hb.2 (H.out.1 h).1; cases this)
   clear hb;go_wp2_with fail;go_ret;exact ⟨⟨false, rfl, zbR H2.out⟩, za hF f2⟩
  ·have HP := zb (hb.1 rfl)
   clear hb;go_wp2_with fail;refine (cB _ (za hF f2)).mono ?_;rintro e v3 ⟨⟨b, rfl, hb⟩, f3⟩;replace f3 := za f2 f3;go_wp2_with fail;go_ret;exact ⟨⟨b, rfl, hb.trans ⟨fun h => H.out.2 ⟨HP.out, h⟩, fun h => (H.out.1 h).2⟩⟩, za hF f3⟩
 ·have H : Hid (¬ Q) := zb (by rw [hQ]; omega)
  have q : ((n1 : Int) == 0) = false := by simp; omega
  clear hQ;go_enter Tryz.func34, Tryz.ntmps34;go_wp2_with fail;go_ret;exact ⟨⟨false, rfl, zbR H.out⟩, hF⟩
theorem zlA {w : World} {x : Int} (cL : ∀ W, Fr w W → Calls Tryz.prog 60 #[.slice A1 n1 c1] W fun e w' => e = .returned (.int .i64 x) ∧ Fr W w') :
 Calls Tryz.prog 35 #[.agg #[.bool true, .slice A1 n1 c1, .slice A2 n2 c2, .slice A3 n3 c3, .slice A4 n4 c4]] w fun e w' => e = .returned (.int .i64 x) ∧ Fr w w' := by
 obtain ⟨Z, hZ, hF, hZZ, hG⟩ : ∃ Z, w.alloc (.cells #[.bool true, .slice A1 n1 c1, .slice A2 n2 c2, .slice A3 n3 c3, .slice A4 n4 c4] 27) = Z ∧ Fr w Z ∧ Fr Z Z ∧ Arr Z w.heap.size 27 [.bool true, .slice A1 n1 c1, .slice A2 n2 c2, .slice A3 n3 c3, .slice A4 n4 c4].toArray := ⟨_, rfl, zf (ze w) _, ze _, Arr.new _ _ _⟩;have l0 : ∀ W, Fr Z W → W.cell? ⟨w.heap.size, 0, none⟩ = some (.bool true) := fun W h => (hG.below h hG.lt).cell 0;have l1 : ∀ W, Fr Z W → W.cell? ⟨w.heap.size, 1, none⟩ = some (.slice A1 n1 c1) := fun W h => (hG.below h hG.lt).cell 1;have l2 : ∀ W, Fr Z W → W.cell? ⟨w.heap.size, 2, none⟩ = some (.slice A2 n2 c2) := fun W h => (hG.below h hG.lt).cell 2;have l3 : ∀ W, Fr Z W → W.cell? ⟨w.heap.size, 3, none⟩ = some (.slice A3 n3 c3) := fun W h => (hG.below h hG.lt).cell 3;have l4 : ∀ W, Fr Z W → W.cell? ⟨w.heap.size, 4, none⟩ = some (.slice A4 n4 c4) := fun W h => (hG.below h hG.lt).cell 4;clear hG;go_enter Tryz.func35, Tryz.ntmps35;go_wp2_with fail;refine (cL _ (za hF hZZ)).mono ?_;rintro e v2 ⟨rfl, f2⟩;go_wp2_with fail;go_ret;exact ⟨rfl, za hF f2⟩
theorem zjy {w : World} {x : Int} (cL : ∀ W, Fr w W → Calls Tryz.prog 41 #[.slice A4 n4 c4] W fun e w' => e = .returned (.int .i64 x) ∧ Fr W w') :
 Calls Tryz.prog 35 #[.agg #[.bool false, .slice A1 n1 c1, .slice A2 n2 c2, .slice A3 n3 c3, .slice A4 n4 c4]] w fun e w' => e = .returned (.int .i64 x) ∧ Fr w w' := by
 obtain ⟨Z, hZ, hF, hZZ, hG⟩ : ∃ Z, w.alloc (.cells #[.bool false, .slice A1 n1 c1, .slice A2 n2 c2, .slice A3 n3 c3, .slice A4 n4 c4] 27) = Z ∧ Fr w Z ∧ Fr Z Z ∧ Arr Z w.heap.size 27 [.bool false, .slice A1 n1 c1, .slice A2 n2 c2, .slice A3 n3 c3, .slice A4 n4 c4].toArray := ⟨_, rfl, zf (ze w) _, ze _, Arr.new _ _ _⟩;have l0 : ∀ W, Fr Z W → W.cell? ⟨w.heap.size, 0, none⟩ = some (.bool false) := fun W h => (hG.below h hG.lt).cell 0;have l1 : ∀ W, Fr Z W → W.cell? ⟨w.heap.size, 1, none⟩ = some (.slice A1 n1 c1) := fun W h => (hG.below h hG.lt).cell 1;have l2 : ∀ W, Fr Z W → W.cell? ⟨w.heap.size, 2, none⟩ = some (.slice A2 n2 c2) := fun W h => (hG.below h hG.lt).cell 2;have l3 : ∀ W, Fr Z W → W.cell? ⟨w.heap.size, 3, none⟩ = some (.slice A3 n3 c3) := fun W h => (hG.below h hG.lt).cell 3;have l4 : ∀ W, Fr Z W → W.cell? ⟨w.heap.size, 4, none⟩ = some (.slice A4 n4 c4) := fun W h => (hG.below h hG.lt).cell 4;clear hG;go_enter Tryz.func35, Tryz.ntmps35;go_wp2_with fail;refine (cL _ (za hF hZZ)).mono ?_;rintro e v2 ⟨rfl, f2⟩;go_wp2_with fail;go_ret;exact ⟨rfl, za hF f2⟩
theorem zmu {w : World} {P Q : Prop} {x : Int} (hQ : Q ↔ P ∧ x ≤ 248)
 (cC : ∀ W, Fr w W → Calls Tryz.prog 34 #[.agg #[.bool true, .slice A1 n1 c1, .slice A2 n2 c2, .slice A3 n3 c3, .slice A4 n4 c4]] W fun e w' => (∃ b, e = .returned (.bool b) ∧ (b = true ↔ P)) ∧ Fr W w')
 (cB : P → ∀ W, Fr w W → Calls Tryz.prog 35 #[.agg #[.bool true, .slice A1 n1 c1, .slice A2 n2 c2, .slice A3 n3 c3, .slice A4 n4 c4]] W fun e w' => e = .returned (.int .i64 x) ∧ Fr W w') :
 Calls Tryz.prog 13 #[.agg #[.bool true, .slice A1 n1 c1, .slice A2 n2 c2, .slice A3 n3 c3, .slice A4 n4 c4]] w fun e w' => (∃ b, e = .returned (.bool b) ∧ (b = true ↔ Q)) ∧ Fr w w' := by
 obtain ⟨Z, hZ, hF, hZZ, hG⟩ : ∃ Z, w.alloc (.cells #[.bool true, .slice A1 n1 c1, .slice A2 n2 c2, .slice A3 n3 c3, .slice A4 n4 c4] 27) = Z ∧ Fr w Z ∧ Fr Z Z ∧ Arr Z w.heap.size 27 [.bool true, .slice A1 n1 c1, .slice A2 n2 c2, .slice A3 n3 c3, .slice A4 n4 c4].toArray := ⟨_, rfl, zf (ze w) _, ze _, Arr.new _ _ _⟩;have l0 : ∀ W, Fr Z W → W.cell? ⟨w.heap.size, 0, none⟩ = some (.bool true) := fun W h => (hG.below h hG.lt).cell 0;have l1 : ∀ W, Fr Z W → W.cell? ⟨w.heap.size, 1, none⟩ = some (.slice A1 n1 c1) := fun W h => (hG.below h hG.lt).cell 1;have l2 : ∀ W, Fr Z W → W.cell? ⟨w.heap.size, 2, none⟩ = some (.slice A2 n2 c2) := fun W h => (hG.below h hG.lt).cell 2;have l3 : ∀ W, Fr Z W → W.cell? ⟨w.heap.size, 3, none⟩ = some (.slice A3 n3 c3) := fun W h => (hG.below h hG.lt).cell 3;have l4 : ∀ W, Fr Z W → W.cell? ⟨w.heap.size, 4, none⟩ = some (.slice A4 n4 c4) := fun W h => (hG.below h hG.lt).cell 4;have lN : ∀ W, Fr Z W → (ldS 27 (.pointer (some ⟨w.heap.size, 0, none⟩))).run Tryz.prog W = .ok (.agg #[.bool true, .slice A1 n1 c1, .slice A2 n2 c2, .slice A3 n3 c3, .slice A4 n4 c4]) W := fun W h => zq.ld rfl (hG.below h hG.lt);clear hG;go_enter Tryz.func13, Tryz.ntmps13;go_wp2_with fail;refine (cC _ (za hF hZZ)).mono ?_;rintro e v2 ⟨⟨b, rfl, hb⟩, f2⟩;clear cC
 cases b
 ·have H2 : Hid (¬ Q) := zb (fun h => by have := hb.2 (hQ.1 h).1; cases this)
  clear hb hQ;go_wp2_with fail;go_ret;exact ⟨⟨false, rfl, zbR H2.out⟩, za hF f2⟩
 ·have HP := hb.1 rfl
  replace cB := cB HP _ (za hF f2)
  by_cases hx : x ≤ 248
  ·have H2 : Hid Q := zb (hQ.2 ⟨HP, hx⟩)
   clear hb hQ HP;go_wp2_with fail;refine cB.mono ?_;rintro e v3 ⟨rfl, f3⟩;replace f3 := za f2 f3;go_wp2_with fail;go_ret;exact ⟨⟨true, rfl, ⟨fun _ => H2.out, fun _ => rfl⟩⟩, za hF f3⟩
  ·have H2 : Hid (¬ Q) := zb (fun h => hx (hQ.1 h).2)
   clear hb hQ HP;go_wp2_with fail;refine cB.mono ?_;rintro e v3 ⟨rfl, f3⟩;replace f3 := za f2 f3;go_wp2_with fail;go_ret;exact ⟨⟨_, rfl, ⟨fun h => absurd (of_decide_eq_true h) (Int.not_le.2 hx), fun h => absurd h H2.out⟩⟩, za hF f3⟩
theorem zlK {w : World} {P Q : Prop} {x : Int} (hQ : Q ↔ P ∧ x ≤ 205)
 (cC : ∀ W, Fr w W → Calls Tryz.prog 34 #[.agg #[.bool false, .slice A1 n1 c1, .slice A2 n2 c2, .slice A3 n3 c3, .slice A4 n4 c4]] W fun e w' => (∃ b, e = .returned (.bool b) ∧ (b = true ↔ P)) ∧ Fr W w')
 (cB : P → ∀ W, Fr w W → Calls Tryz.prog 35 #[.agg #[.bool false, .slice A1 n1 c1, .slice A2 n2 c2, .slice A3 n3 c3, .slice A4 n4 c4]] W fun e w' => e = .returned (.int .i64 x) ∧ Fr W w') :
 Calls Tryz.prog 13 #[.agg #[.bool false, .slice A1 n1 c1, .slice A2 n2 c2, .slice A3 n3 c3, .slice A4 n4 c4]] w fun e w' => (∃ b, e = .returned (.bool b) ∧ (b = true ↔ Q)) ∧ Fr w w' := by
 obtain ⟨Z, hZ, hF, hZZ, hG⟩ : ∃ Z, w.alloc (.cells #[.bool false, .slice A1 n1 c1, .slice A2 n2 c2, .slice A3 n3 c3, .slice A4 n4 c4] 27) = Z ∧ Fr w Z ∧ Fr Z Z ∧ Arr Z w.heap.size 27 [.bool false, .slice A1 n1 c1, .slice A2 n2 c2, .slice A3 n3 c3, .slice A4 n4 c4].toArray := ⟨_, rfl, zf (ze w) _, ze _, Arr.new _ _ _⟩;have l0 : ∀ W, Fr Z W → W.cell? ⟨w.heap.size, 0, none⟩ = some (.bool false) := fun W h => (hG.below h hG.lt).cell 0;have l1 : ∀ W, Fr Z W → W.cell? ⟨w.heap.size, 1, none⟩ = some (.slice A1 n1 c1) := fun W h => (hG.below h hG.lt).cell 1;have l2 : ∀ W, Fr Z W → W.cell? ⟨w.heap.size, 2, none⟩ = some (.slice A2 n2 c2) := fun W h => (hG.below h hG.lt).cell 2;have l3 : ∀ W, Fr Z W → W.cell? ⟨w.heap.size, 3, none⟩ = some (.slice A3 n3 c3) := fun W h => (hG.below h hG.lt).cell 3;have l4 : ∀ W, Fr Z W → W.cell? ⟨w.heap.size, 4, none⟩ = some (.slice A4 n4 c4) := fun W h => (hG.below h hG.lt).cell 4;have lN : ∀ W, Fr Z W → (ldS 27 (.pointer (some ⟨w.heap.size, 0, none⟩))).run Tryz.prog W = .ok (.agg #[.bool false, .slice A1 n1 c1, .slice A2 n2 c2, .slice A3 n3 c3, .slice A4 n4 c4]) W := fun W h => zq.ld rfl (hG.below h hG.lt);clear hG;go_enter Tryz.func13, Tryz.ntmps13;go_wp2_with fail;refine (cC _ (za hF hZZ)).mono ?_;rintro e v2 ⟨⟨b, rfl, hb⟩, f2⟩;clear cC
 cases b
 ·have H2 : Hid (¬ Q) := zb (fun h => by have := hb.2 (hQ.1 h).1; cases this)
  clear hb hQ;go_wp2_with fail;go_ret;exact ⟨⟨false, rfl, zbR H2.out⟩, za hF f2⟩
 ·have HP := hb.1 rfl
  replace cB := cB HP _ (za hF f2)
  by_cases hx : x ≤ 205
  ·have H2 : Hid Q := zb (hQ.2 ⟨HP, hx⟩)
   clear hb hQ HP;go_wp2_with fail;refine cB.mono ?_;rintro e v3 ⟨rfl, f3⟩;replace f3 := za f2 f3;go_wp2_with fail;go_ret;exact ⟨⟨true, rfl, ⟨fun _ => H2.out, fun _ => rfl⟩⟩, za hF f3⟩
  ·have H2 : Hid (¬ Q) := zb (fun h => hx (hQ.1 h).2)
   clear hb hQ HP;go_wp2_with fail;refine cB.mono ?_;rintro e v3 ⟨rfl, f3⟩;replace f3 := za f2 f3;go_wp2_with fail;go_ret;exact ⟨⟨_, rfl, ⟨fun h => absurd (of_decide_eq_true h) (Int.not_le.2 hx), fun h => absurd h H2.out⟩⟩, za hF f3⟩
end
end
end
section
section
variable {W : World} {B : Nat} {v : NV} {n : RN}
theorem q_rcheck (h : NH W B v n) : Calls Tryz.prog 34 #[nv v] W fun e w' => (∃ b, e = .returned (.bool b) ∧ (b = true ↔ OkN n)) ∧ Fr W w' := by
 have hlf := h.lf
 cases v with | mk lf A1 n1 c1 A2 n2 c2 A3 n3 c3 A4 n4 c4
 cases lf
 ·refine zjX (P := zcZ n.ks ∧ n.ps.length + 1 = n.ks.length ∧ OkP n.ps) (R := OkL n.ms) (by rw [zaI hlf.symm, h.l1]) (fun V hF => ?_) (fun V hF => ?_)
  ·have k := h.fr hF
   exact (zmK (ck := c2) (c := c3) k.h2 k.hB k.l2 k.s2 k.h3 k.hB k.l3 k.s3 k.w3).mono fun e w' ⟨h1, h2⟩ => ⟨⟨_, h1, zkD k.w3⟩, h2⟩
  ·have k := h.fr hF
   exact zmw (c := c4) k.h4 k.hB k.l4 k.s4 k.w4
 ·refine zkH (P := OkE n.es) (by rw [zcd hlf.symm, h.l2, h.l3, h.l4]) (fun V hF => ?_)
  have k := h.fr hF;exact zmo (c := c1) k.h1 k.hB k.l1 k.s1 k.w1
theorem q_rbytes (h : NH W B v n) (hs : n.lf = true → SmE n.es) : Calls Tryz.prog 35 #[nv v] W fun e w' => e = .returned (.int .i64 (zcW n)) ∧ Fr W w' := by
 have hlf := h.lf;unfold zcW
 cases v with | mk lf A1 n1 c1 A2 n2 c2 A3 n3 c3 A4 n4 c4
 cases lf
 ·rw [if_neg (by rw [← hlf]; exact Bool.false_ne_true)]
  refine zjy (fun V hF => ?_);have k := h.fr hF;exact ziW (c := c4) k.h4 k.hB k.l4 k.s4 k.w4
 ·rw [if_pos (by rw [← hlf])]
  refine zlA (fun V hF => ?_);have k := h.fr hF;exact zer (c := c1) k.h1 k.hB k.l1 k.s1 k.w1 (hs hlf.symm)
theorem q_rfits (h : NH W B v n) : Calls Tryz.prog 13 #[nv v] W fun e w' => (∃ b, e = .returned (.bool b) ∧ (b = true ↔ OkN n ∧ zcW n ≤ rmN n)) ∧ Fr W w' := by
 have hlf := h.lf;have cC := fun V (hF : Fr W V) => q_rcheck (h.fr hF);have cB := fun (ok : OkN n) V (hF : Fr W V) => q_rbytes (h.fr hF) ok.sm
 cases v with | mk lf A1 n1 c1 A2 n2 c2 A3 n3 c3 A4 n4 c4
 cases lf
 ·exact zlK (by rw [zjb hlf.symm]) cC cB
 ·exact zmu (by rw [zlH hlf.symm]) cC cB
end
end
section
section
variable {A1 : Option Addr} {n1 c1 : Nat} {A2 : Option Addr} {n2 c2 : Nat} {A3 : Option Addr} {n3 c3 : Nat} {A4 : Option Addr} {n4 c4 : Nat}
end
theorem zdB {W : World} {B : Nat} {v : NV} {n : RN} (h : NH W B v n) {b : Bool} (hb : b = true ↔ OkN n ∧ zcW n ≤ rmN n) : Calls Tryz.prog 13 #[nv v] W fun e w' => e = .returned (.bool b) ∧ Fr W w' :=
 (q_rfits h).mono fun e w' ⟨⟨c, p, q⟩, f⟩ => ⟨by rw [p, zkr q hb], f⟩
attribute [local go_sem ↓] zaP
end
end Go.Proofs.YtmjjjdikpnhpiaaGreat
