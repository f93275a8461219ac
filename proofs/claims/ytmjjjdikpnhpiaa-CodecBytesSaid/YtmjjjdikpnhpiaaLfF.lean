/- Entries in memory: 'Bytes', 'Find' of both, 'Same' of the document. -/
import Derived.Test.YtmjjjdikpnhpiaaLfC
namespace Go.Proofs.Ytmjjjdikpnhpiaa
set_option linter.unusedVariables false
set_option linter.unusedSimpArgs false
set_option maxRecDepth 100000
open Go.RowKit
section
attribute [local go_sem ↓] zt zbh zae zw
set_option maxHeartbeats 2000000 in
theorem zjt {w : World} {A : Option Addr} {n c B : Nat} {l : List RE} (hl : Has w B A (zm ec l)) (hB : B ≤ w.heap.size) (hn : l.length = n) (hsm : n ≤ 100000) (wl : WfE l) (hs : SmE l) :
 Calls Try.prog 68 #[.slice A n c] w fun e w' => e = .returned (.int .i64 (zQ l)) ∧ Fr w w' := by
 have Hl := zb hl;have Hn := zb hn;have Hwl := zb wl;have Hs0 := zb hs;clear hl hn wl hs;go_enter Try.func68, Try.ntmps68;go_wp2_with fail
 go_loopg [3, 8] n (fun g s3 s8 wr => ∃ j : Nat, j + g = n ∧ s3 = .int .i64 (zQ (l.take j)) ∧ s8 = .int .i64 j ∧ Hid (Fr w wr))
 case atStart => exact ⟨0, by omega, rfl, rfl, zb (ze w)⟩
 case round =>
  obtain ⟨j, hj, rfl, rfl, hF⟩ := hrel
  by_cases hlt : j < n
  ·have hm : l[j]? = some (l[j]'(by rw [Hn.out]; exact hlt)) := List.getElem?_eq_getElem _
   generalize l[j]'(by rw [Hn.out]; exact hlt) = m at hm;obtain ⟨b, off, rfl, hb1, hr⟩ := zJ Hl.out Hwl.out.wid (by decide) (by intro e; rw [e] at hm; simp at hm);have lX := z9 zh4 hr Hwl.out.wid (by omega) hm;have wm := Hwl.out m (za2 hm);have sm := Hs0.out m (za2 hm);have hR := zbG (Hs0.out.sub (List.take_sublist j l));have hR2 := zf8 sm;have hlen : (l.take j).length = j := by rw [List.length_take, Hn.out]; omega
   rw [hlen] at hR;have Hs := zb (zdy hm);have cB := fun W0 W h => ziB (W0 := W0) (W := W) sm h;have Hm := zb (zbT wm.val.hl);have hF1 := hF.out;generalize zQ (l.take j) = s at *;generalize zcs m = t at *;have hjz : (j : Int) < (n : Int) := by omega
   clear hm hr hlen hlt sm
   go_wp2_with (first
    | (refine zi (ds := ec m) zdA rfl (.tmp 5) (.tmp 11) rfl wr.heap.size 0 rfl rfl Hm.out (zdw _) (Arr.new wr (ec zea).toArray 74) (by decide) (zk _ _ (by rw [Hm.out]; decide)) ?_; intro W5 hM5 hk5; have hF5 := hk5.fr (zf hF1 _) hF1.size; clear hk5; have lM := ent_all hM5 wm.val.hl; have h55 := ze W5)
    | (go_at_call 83; (with_reducible refine (cB W5 _ (by assumption)).mono ?_); rintro e w9 ⟨rfl, hz⟩)
    | fail)
   go_roundg (gk - 1)
   case measure => omega
   case rel => exact ⟨j + 1, by omega, by rw [Hs.out], rfl, zb (za hF5 hz)⟩
  ·have : j = n := by omega
   subst this;have e : l.take j = l := List.take_of_length_le (by rw [Hn.out]; exact Nat.le_refl _);rw [e];go_wp2_with fail;go_ret;exact ⟨rfl, hF.out⟩
set_option maxHeartbeats 2000000 in
theorem zer {w : World} {A : Option Addr} {n c B : Nat} {l : List RE} (hl : Has w B A (zm ec l)) (hB : B ≤ w.heap.size) (hn : l.length = n) (hsm : n ≤ 100000) (wl : WfE l) (hs : SmE l) :
 Calls Try.prog 75 #[.slice A n c] w fun e w' => e = .returned (.int .i64 (zQ l)) ∧ Fr w w' := by
 have Hl := zb hl;have Hn := zb hn;have Hwl := zb wl;have Hs0 := zb hs;clear hl hn wl hs;go_enter Try.func75, Try.ntmps75;go_wp2_with fail
 go_loopg [3, 4] n (fun g s3 s8 wr => ∃ j : Nat, j + g = n ∧ s3 = .int .i64 (zQ (l.take j)) ∧ s8 = .int .i64 j ∧ Hid (Fr w wr))
 case atStart => exact ⟨0, by omega, rfl, rfl, zb (ze w)⟩
 case round =>
  obtain ⟨j, hj, rfl, rfl, hF⟩ := hrel
  by_cases hlt : j < n
  ·have hm : l[j]? = some (l[j]'(by rw [Hn.out]; exact hlt)) := List.getElem?_eq_getElem _
   generalize l[j]'(by rw [Hn.out]; exact hlt) = m at hm;obtain ⟨b, off, rfl, hb1, hr⟩ := zJ Hl.out Hwl.out.wid (by decide) (by intro e; rw [e] at hm; simp at hm);have x0 := zmm hr Hwl.out.wid (by omega) hm (ec_0 m);have x9 := znT hr Hwl.out.wid (by omega) hm (ec_9 m);have sm := Hs0.out m (za2 hm);have hR := zbG (Hs0.out.sub (List.take_sublist j l));have hlen : (l.take j).length = j := by rw [List.length_take, Hn.out]; omega
   rw [hlen] at hR;have Hs := zb (zdy hm);have hF1 := hF.out;have hFD := zn hF1;have Hb : Hid (zcs m = 2 + m.key.n + m.val.n) := zb rfl;generalize zQ (l.take j) = s at *;obtain ⟨h1, h2, h3, h4⟩ := sm;generalize m.key.n = kn at *;generalize m.val.n = vn at *;have hjz : (j : Int) < (n : Int) := by omega
   have e1 : IntKind.i64.wrap (s + 2) = s + 2 := by rw [IntKind.wrap_i64]; omega
   have e2 : IntKind.i64.wrap (s + 2 + kn) = s + 2 + kn := by rw [IntKind.wrap_i64]; omega
   have e3 : IntKind.i64.wrap (s + 2 + kn + vn) = s + 2 + kn + vn := by rw [IntKind.wrap_i64]; omega
   clear hm hr hlen hlt;go_wp2_with fail
   go_region_held3 (fun w' => Fr w w') (first | exact hFD | assumption) (first | fail)
   rename_i hH;go_wp2_with fail
   go_roundg (gk - 1)
   case measure => omega
   case rel => exact ⟨j + 1, by omega, by rw [Hs.out, Hb.out]; congr 1; omega, rfl, zb hH⟩
  ·have : j = n := by omega
   subst this;have e : l.take j = l := List.take_of_length_le (by rw [Hn.out]; exact Nat.le_refl _);rw [e];go_wp2_with fail;go_ret;exact ⟨rfl, hF.out⟩
def zmv (o : Option RV) : Value := .tuple #[vv (o.getD zE), .bool o.isSome]
end
section
attribute [local go_sem ↓] zt zbh zae zw
set_option maxHeartbeats 2000000 in
theorem zn2 {w : World} {A A2 : Option Addr} {n c B n2 c2 B2 : Nat} {l l2 : List RE} (hl : Has w B A (zm ec l)) (hB : B ≤ w.heap.size) (hn : l.length = n) (hsm : n ≤ 100000) (wl : WfE l) (hl2 : Has w B2 A2 (zm ec l2)) (hB2 : B2 ≤ w.heap.size) (hn2 : l2.length = n2) (hsm2 : n2 ≤ 100000) (wl2 : WfE l2) :
 Calls Try.prog 18 #[.slice A n c, .slice A2 n2 c2] w fun e w' => e = .returned (.bool (decide (l = l2))) ∧ Fr w w' := by
 have hww := ze w
 by_cases hnn : n = n2
 ·subst hnn
  have Hl := zb hl;have Hn := zb hn;have Hwl := zb wl;have Hl2 := zb hl2;have Hn2 := zb hn2;have Hwl2 := zb wl2;clear hl hn wl hl2 hn2 wl2;go_enter Try.func18, Try.ntmps18;go_wp2_with fail
  go_loopg [5] n (fun g s5 wr => ∃ j : Nat, j + g = n ∧ s5 = .int .i64 j ∧ Hid (Fr w wr) ∧ Hid (∀ t, t < j → l[t]? = l2[t]?))
  case atStart => exact ⟨0, by omega, rfl, zb hww, zb (fun t h => by omega)⟩
  case round =>
   obtain ⟨j, hj, rfl, hW, hno⟩ := hrel
   by_cases hlt : j < n
   ·have hm : l[j]? = some (l[j]'(by rw [Hn.out]; exact hlt)) := List.getElem?_eq_getElem _
    generalize l[j]'(by rw [Hn.out]; exact hlt) = m at hm;have hm2 : l2[j]? = some (l2[j]'(by rw [Hn2.out]; exact hlt)) := List.getElem?_eq_getElem _;generalize l2[j]'(by rw [Hn2.out]; exact hlt) = m2 at hm2;obtain ⟨b, off, rfl, hb1, hr⟩ := zJ Hl.out Hwl.out.wid (by decide) (by intro e; rw [e] at hm; simp at hm);obtain ⟨b2, off2, rfl, hb2, hr2⟩ := zJ Hl2.out Hwl2.out.wid (by decide) (by intro e; rw [e] at hm2; simp at hm2);have lX := z9 zh4 hr Hwl.out.wid (by omega) hm;have lX2 := z9 zh4 hr2 Hwl2.out.wid (by omega) hm2;have wm := Hwl.out m (za2 hm);have wm2 := Hwl2.out m2 (za2 hm2);have qE := fun W => ent_neq wm wm2 W;have Hm := zb hm;have Hm2 := zb hm2;have hWW := hW.out;have hWD := zn hWW;have hjz : (j : Int) < (n : Int) := by omega
    clear hm hr hm2 hr2 hlt
    by_cases hk : m = m2
    ·have Hk := zb hk
     rw [decide_eq_true hk] at qE;simp only [Bool.not_true] at qE;clear hk wm wm2;go_wp2_with fail
     go_region_held3 (fun w' => Fr w w') (first | exact hWD | assumption) (first | fail)
     rename_i hH;go_wp2_with fail
     go_roundg (gk - 1)
     case measure => omega
     case rel => exact ⟨j + 1, by omega, rfl, zb hH, zb (fun t ht => by
      by_cases e : t = j
      ·subst e
       rw [Hm.out, Hm2.out, Hk.out]
      ·exact hno.out t (by omega))⟩
    ·have Hf : Hid (decide (l = l2) = false) := zb (decide_eq_false (fun e => hk (by
      have := Hm.out;rw [e, Hm2.out] at this
      injection this with this
      exact this.symm)))
     rw [decide_eq_false hk] at qE;simp only [Bool.not_false] at qE;clear hk wm wm2;go_wp2_with fail
     go_region_held3 (fun w' => Fr w w') (first | exact hWD | assumption) (first | fail)
     rename_i hH;go_wp2_with fail;go_ret;exact ⟨by rw [Hf.out]; rfl, hH⟩
   ·have hjn : j = n := by omega
    have hjz : ¬ (j : Int) < (n : Int) := by omega
    have he : l = l2 := by
     apply List.ext_getElem?;intro t
     by_cases ht : t < j
     ·exact hno.out t ht
     ·rw [List.getElem?_eq_none (by rw [Hn.out]; omega), List.getElem?_eq_none (by rw [Hn2.out]; omega)]
    have Hf : Hid (decide (l = l2) = true) := zb (decide_eq_true he);have hWW := hW.out;clear hlt hjn hno he;go_wp2_with fail;go_ret;exact ⟨by rw [Hf.out]; rfl, hWW⟩
 ·have hnz : ¬ (n : Int) = (n2 : Int) := by omega
  have Hf : Hid (decide (l = l2) = false) := zb (decide_eq_false (fun e => hnn (by rw [← hn, ← hn2, e])));clear hl hl2 wl wl2 hn hn2;go_enter Try.func18, Try.ntmps18;go_wp2_with fail;go_ret;exact ⟨by rw [Hf.out]; rfl, hww⟩
end
section
attribute [local go_sem ↓] zt zbh zae zw zaX
end
end Go.Proofs.Ytmjjjdikpnhpiaa
