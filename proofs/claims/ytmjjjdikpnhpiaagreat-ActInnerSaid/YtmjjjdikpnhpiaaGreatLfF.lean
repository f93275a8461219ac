/- Entries in memory: 'Bytes', 'Find' of both, 'Same' of the document. -/
import Derived.Test.YtmjjjdikpnhpiaaGreatLfC
namespace Go.Proofs.YtmjjjdikpnhpiaaGreat
set_option linter.unusedVariables false
set_option linter.unusedSimpArgs false
set_option maxRecDepth 100000
open Go.RowKit
section
attribute [local go_sem ↓] zt zbh zae zw
set_option maxHeartbeats 2000000 in
theorem zjt {w : World} {A : Option Addr} {n c B : Nat} {l : List RE} (hl : Has w B A (zm ec l)) (hB : B ≤ w.heap.size) (hn : l.length = n) (hsm : n ≤ 100000) (wl : WfE l) (hs : SmE l) :
 Calls Tryz.prog 84 #[.slice A n c] w fun e w' => e = .returned (.int .i64 (zQ l)) ∧ Fr w w' := by
 have Hl := zb hl;have Hn := zb hn;have Hwl := zb wl;have Hs0 := zb hs;clear hl hn wl hs;go_enter Tryz.func84, Tryz.ntmps84;go_wp2_with fail
 go_loopg [3, 8] n (fun g s3 s8 wr => ∃ j : Nat, j + g = n ∧ s3 = .int .i64 (zQ (l.take j)) ∧ s8 = .int .i64 j ∧ Hid (Fr w wr))
 case atStart => exact ⟨0, by omega, rfl, rfl, zb (ze w)⟩
 case round =>
  obtain ⟨j, hj, rfl, rfl, hF⟩ := hrel
  by_cases hlt : j < n
  ·have hm : l[j]? = some (l[j]'(by rw [Hn.out]; exact hlt)) := List.getElem?_eq_getElem _
   generalize l[j]'(by rw [Hn.out]; exact hlt) = m at hm;obtain ⟨b, off, rfl, hb1, hr⟩ := zJ Hl.out Hwl.out.wid (by decide) (by intro e; rw [e] at hm; simp at hm);have lX := z9 zh4 hr Hwl.out.wid (by omega) hm;have wm := Hwl.out m (za2 hm);have sm := Hs0.out m (za2 hm);have hR := zbG (Hs0.out.sub (List.take_sublist j l));have hR2 := zf8 sm;have hlen : (l.take j).length = j := by rw [List.length_take, Hn.out]; omega
   rw [hlen] at hR;have Hs := zb (zdy hm);have cB := fun W0 W h => ziB (W0 := W0) (W := W) sm h;have Hm := zb (zbT wm.val.hl);have hF1 := hF.out;generalize zQ (l.take j) = s at *;generalize zcs m = t at *;have hjz : (j : Int) < (n : Int) := by omega
   clear hm hr hlen hlt sm
   go_wp2_with (first
    | (refine zi (ds := ec m) zdA rfl (.tmp 5) (.tmp 11) rfl wr.heap.size 0 rfl rfl Hm.out (zdw _) (Arr.new wr (ec zea).toArray 52) (by decide) (zk _ _ (by rw [Hm.out]; decide)) ?_; intro W5 hM5 hk5; have hF5 := hk5.fr (zf hF1 _) hF1.size; clear hk5; have lM := ent_all hM5 wm.val.hl; have h55 := ze W5)
    | (go_at_call 107; (with_reducible refine (cB W5 _ (by assumption)).mono ?_); rintro e w9 ⟨rfl, hz⟩)
    | fail)
   go_roundg (gk - 1)
   case measure => omega
   case rel => exact ⟨j + 1, by omega, by rw [Hs.out], rfl, zb (za hF5 hz)⟩
  ·have : j = n := by omega
   subst this;have e : l.take j = l := List.take_of_length_le (by rw [Hn.out]; exact Nat.le_refl _);rw [e];go_wp2_with fail;go_ret;exact ⟨rfl, hF.out⟩
set_option maxHeartbeats 2000000 in
theorem zer {w : World} {A : Option Addr} {n c B : Nat} {l : List RE} (hl : Has w B A (zm ec l)) (hB : B ≤ w.heap.size) (hn : l.length = n) (hsm : n ≤ 100000) (wl : WfE l) (hs : SmE l) :
 Calls Tryz.prog 60 #[.slice A n c] w fun e w' => e = .returned (.int .i64 (zQ l)) ∧ Fr w w' := by
 have Hl := zb hl;have Hn := zb hn;have Hwl := zb wl;have Hs0 := zb hs;clear hl hn wl hs;go_enter Tryz.func60, Tryz.ntmps60;go_wp2_with fail
 go_loopg [3, 4] n (fun g s3 s8 wr => ∃ j : Nat, j + g = n ∧ s3 = .int .i64 (zQ (l.take j)) ∧ s8 = .int .i64 j ∧ Hid (Fr w wr))
 case atStart => exact ⟨0, by omega, rfl, rfl, zb (ze w)⟩
 case round =>
  obtain ⟨j, hj, rfl, rfl, hF⟩ := hrel
  by_cases hlt : j < n
  ·have hm : l[j]? = some (l[j]'(by rw [Hn.out]; exact hlt)) := List.getElem?_eq_getElem _
   generalize l[j]'(by rw [Hn.out]; exact hlt) = m at hm;obtain ⟨b, off, rfl, hb1, hr⟩ := zJ Hl.out Hwl.out.wid (by decide) (by intro e; rw [e] at hm; simp at hm);have x0 := zmm hr Hwl.out.wid (by omega) hm (ec_0 m);have x9 := znT hr Hwl.out.wid (by omega) hm (ec_9 m);have sm := Hs0.out m (za2 hm);have hR := zbG (Hs0.out.sub (List.take_sublist j l));have hlen : (l.take j).length = j := by rw [List.length_take, Hn.out]; omega
   rw [hlen] at hR;have Hs := zb (zdy hm);have hF1 := hF.out;have hFD := zn hF1;have Hb : Hid (zcs m = 2 + m.key.n + m.val.n) := zb rfl;generalize zQ (l.take j) = s at *;obtain ⟨h1, h2, h3, h4⟩ := sm;generalize m.key.n = kn at *;generalize m.val.n = vn at *;have hjz : (j : Int) < (n : Int) := by omega
   have e1 : IntKind.i64.wrap (s + 2) = s + 2 := by rw [IntKind.wrap_i64]; omega
   have e2 : IntKind.i64.wrap (s + 2 + kn) = s + 2 + kn := by rw [IntKind.wrap_i64]; omega
   have e3 : IntKind.i64.wrap (s + 2 + kn + vn) = s + 2 + kn + vn := by rw [IntKind.wrap_i64]; omega
   clear hm hr hlen hlt;go_wp2_with fail
   go_region_held3 (fun w' => Fr w w') (first | exact hFD | assumption) (first | fail)
   rename_i hH;go_wp2_with fail
   go_roundg (gk - 1)
   case measure => omega
   case rel => exact ⟨j + 1, by omega, by rw [Hs.out, Hb.out]; congr 1; omega, rfl, zb hH⟩
  ·have : j = n := by omega
   subst this;have e : l.take j = l := List.take_of_length_le (by rw [Hn.out]; exact Nat.le_refl _);rw [e];go_wp2_with fail;go_ret;exact ⟨rfl, hF.out⟩
def zmv (o : Option RV) : Value := .tuple #[vv (o.getD zE), .bool o.isSome]
theorem ekey_box (w : World) (k : RK) : ∃ Z, (w.alloc (.cells (kc k).toArray 33)).alloc (.cells (vc zE).toArray 37) = Z ∧ Fr w Z ∧ Fr Z Z ∧ Arr Z w.heap.size 33 (kc k).toArray ∧ Arr Z (w.heap.size + 1) 37 (vc zE).toArray ∧ Z.heap.size = w.heap.size + 1 + 1 :=
 ⟨_, rfl, zf (zf (ze w) _) _, ze _, Arr.alloc (Arr.new w _ _) _, zbr _ _ _ _ (by simp), by simp⟩
theorem zkA : ∀ {l : List RE} {k : RK} {j : Nat} {m : RE}, (∀ t x, t < j → l[t]? = some x → x.key ≠ k) → l[j]? = some m → m.key = k → zO l k = some m.val
 | [], _, _, _, _, h, _ => by simp at h
 | y :: l, k, 0, m, _, h, e => by
  simp at h;subst h;rw [zO, if_pos e]
 | y :: l, k, j + 1, m, hno, h, e => by
  have h0 := hno 0 y (Nat.succ_pos j) rfl;rw [zO, if_neg h0];exact zkA (j := j) (fun t x ht hx => hno (t + 1) x (by omega) (by simpa using hx)) (by simpa using h) e
theorem findE_no {l : List RE} {k : RK} (hno : ∀ t x, t < l.length → l[t]? = some x → x.key ≠ k) : zO l k = none := by
 rw [zdG];intro m hm;obtain ⟨t, ht, e⟩ := List.mem_iff_getElem.1 hm;exact hno t m ht (by rw [List.getElem?_eq_getElem ht, e])
set_option maxHeartbeats 2000000 in
theorem ziL {w : World} {A : Option Addr} {n c B : Nat} {l : List RE} {k : RK} (hl : Has w B A (zm ec l)) (hB : B ≤ w.heap.size) (hn : l.length = n) (hsm : n ≤ 100000) (wl : WfE l) (wk : k.wf) :
 Calls Tryz.prog 23 #[.slice A n c, kv k] w fun e w' => e = .returned (zmv (zO l k)) ∧ Fr w w' := by
 obtain ⟨Z, hZ, hF, hZZ, hK, hO, hS⟩ := ekey_box w k;rw [zc7] at hZ;have hlZ := hl.fr hB hF;have hBZ : B ≤ Z.heap.size := Nat.le_trans hB hF.size;have lk : ∀ W, Fr Z W → (ldS 33 (.pointer (some ⟨w.heap.size, 0, none⟩))).run Tryz.prog W = .ok (.agg (kc k).toArray) W := fun W h => zaf.ld (zl k) (hK.below h hK.lt);have Hl := zb hlZ;have Hn := zb hn;have Hwl := zb wl;have HO := zb hO;clear hl hn wl hlZ hK hO;go_enter Tryz.func23, Tryz.ntmps23;go_wp2_with fail
 go_loopg [6] n (fun g s6 wr => ∃ j : Nat, j + g = n ∧ s6 = .int .i64 j ∧ Hid (Fr Z wr) ∧ Hid (∀ t x, t < j → l[t]? = some x → x.key ≠ k))
 case atStart => exact ⟨0, by omega, rfl, zb hZZ, zb (fun t x h => by omega)⟩
 case round =>
  obtain ⟨j, hj, rfl, hW, hno⟩ := hrel
  by_cases hlt : j < n
  ·have hm : l[j]? = some (l[j]'(by rw [Hn.out]; exact hlt)) := List.getElem?_eq_getElem _
   generalize l[j]'(by rw [Hn.out]; exact hlt) = m at hm;obtain ⟨b, off, rfl, hb1, hr⟩ := zJ Hl.out Hwl.out.wid (by decide) (by intro e; rw [e] at hm; simp at hm);have wm := Hwl.out m (za2 hm);have lXk := zak (o := 0) zaf hr Hwl.out.wid (by omega) hm (zcC m) (zl _);simp only [Nat.add_zero] at lXk;have lXv := zak (o := 9) zbs hr Hwl.out.wid (by omega) hm (ze4 wm.val.hl) (zD wm.val.hl);have qE := fun W => zcH wm.key wk W;have Hm := zb hm;have Hlm := zb (zD wm.val.hl);have hWW := hW.out;have hWD := zn hWW;have hjz : (j : Int) < (n : Int) := by omega
   clear hm hr hlt
   by_cases hk : m.key = k
   ·have Hf := zb (zkA hno.out Hm.out hk)
    rw [decide_eq_true hk] at qE;clear hk wm;go_wp2_with fail
    go_region_held3 (fun w' => Fr Z w') (first | exact hWD | assumption) (first | fail)
    rename_i hH;have hO2 := HO.out.below hH HO.out.lt
    go_wp2_with (first
     | (refine zi (ds := vc m.val) zad rfl (.tmp 4) (.tmp 24) rfl (w.heap.size + 1) 0 rfl rfl Hlm.out (zar _) hO2 (by decide) (zk _ _ (by rw [Hlm.out]; decide)) ?_; intro W5 hO5 hk5; have hF5 := hk5.fr (za hF hH) (by omega); clear hk5)
     | fail)
    exact bodyPost_ret (zbs.result2 rfl _ (w.heap.size + 1) rfl Hlm.out hO5) rfl ⟨by rw [Hf.out]; rfl, hF5⟩
   ·have Hk := zb hk
    rw [decide_eq_false hk] at qE;clear hk wm;go_wp2_with fail
    go_region_held3 (fun w' => Fr Z w') (first | exact hWD | assumption) (first | fail)
    rename_i hH;go_wp2_with fail
    go_roundg (gk - 1)
    case measure => omega
    case rel => exact ⟨j + 1, by omega, rfl, zb hH, zb (fun t x ht hx => by
     by_cases e : t = j
     ·subst e
      rw [Hm.out] at hx
      injection hx with hx
      rw [← hx]; exact Hk.out
     ·exact hno.out t x (by omega) hx)⟩
  ·have hjn : j = n := by omega
   have hjz : ¬ (j : Int) < (n : Int) := by omega
   have Hf := zb (findE_no (l := l) (k := k) (fun t x ht hx => hno.out t x (by rw [hjn, ← Hn.out]; exact ht) hx));have hO2 := HO.out.below hW.out HO.out.lt;have hWW := hW.out;clear hlt hjn hno
   go_wp2_with (first
    | (refine zi (ds := vc zE) zad rfl (.tmp 4) (.tmp 25) rfl (w.heap.size + 1) 0 rfl rfl rfl (zar _) hO2 (by decide) (zk _ _ (by decide)) ?_; intro W5 hO5 hk5; have hF5 := hk5.fr (za hF hWW) (by omega); clear hk5)
    | fail)
   exact bodyPost_ret (zbs.result2 rfl _ (w.heap.size + 1) rfl rfl hO5) rfl ⟨by rw [Hf.out]; rfl, hF5⟩
end
section
attribute [local go_sem ↓] zt zbh zae zw
set_option maxHeartbeats 2000000 in
theorem zn2 {w : World} {A A2 : Option Addr} {n c B n2 c2 B2 : Nat} {l l2 : List RE} (hl : Has w B A (zm ec l)) (hB : B ≤ w.heap.size) (hn : l.length = n) (hsm : n ≤ 100000) (wl : WfE l) (hl2 : Has w B2 A2 (zm ec l2)) (hB2 : B2 ≤ w.heap.size) (hn2 : l2.length = n2) (hsm2 : n2 ≤ 100000) (wl2 : WfE l2) :
 Calls Tryz.prog 64 #[.slice A n c, .slice A2 n2 c2] w fun e w' => e = .returned (.bool (decide (l = l2))) ∧ Fr w w' := by
 have hww := ze w
 by_cases hnn : n = n2
 ·subst hnn
  have Hl := zb hl;have Hn := zb hn;have Hwl := zb wl;have Hl2 := zb hl2;have Hn2 := zb hn2;have Hwl2 := zb wl2;clear hl hn wl hl2 hn2 wl2;go_enter Tryz.func64, Tryz.ntmps64;go_wp2_with fail
  go_loopg [5] n (fun g s5 wr => ∃ j : Nat, j + g = n ∧ s5 = .int .i64 j ∧ Hid (Fr w wr) ∧ Hid (∀ t, t < j → l[t]? = l2[t]?))
  case atStart => exact ⟨0, by omega, rfl, zb hww, zb (fun t h => by omega)⟩
  case round =>
   obtain ⟨j, hj, rfl, hW, hno⟩ := hrel
   by_cases hlt : j < n
   ·have hm : l[j]? = some (l[j]'(by rw [Hn.out]; exact hlt)) := List.getElem?_eq_getElem _
    generalize l[j]'(by rw [Hn.out]; exact hlt) = m at hm;have hm2 : l2[j]? = some (l2[j]'(by rw [Hn2.out]; exact hlt)) := List.getElem?_eq_getElem _;generalize l2[j]'(by rw [Hn2.out]; exact hlt) = m2 at hm2;obtain ⟨b, off, rfl, hb1, hr⟩ := zJ Hl.out Hwl.out.wid (by decide) (by intro e; rw [e] at hm; simp at hm);obtain ⟨b2, off2, rfl, hb2, hr2⟩ := zJ Hl2.out Hwl2.out.wid (by decide) (by intro e; rw [e] at hm2; simp at hm2);have lX := z9 zh4 hr Hwl.out.wid (by omega) hm;have lX2 := z9 zh4 hr2 Hwl2.out.wid (by omega) hm2;have wm := Hwl.out m (za2 hm);have wm2 := Hwl2.out m2 (za2 hm2);have qE := fun W => ent_neq wm wm2 W;have Hm := zb hm;have Hm2 := zb hm2;have hWW := hW.out;have hWD := zn hWW;have hjz : (j : Int) < (n : Int) := by omega
    clear hm hr hm2 hr2 hlt
    by_cases hk : m = m2
    ·have Hk := zb hk
     rw [decide_eq_true hk] at qE;simp only [Bool.not_true] at qE;clear hk wm wm2;go_wp2_with fail
     go_region_held3 (fun w' => Fr w w') (first | exact hWD | assumption) (first | fail)
     rename_i hH;go_wp2_with fail
     go_roundg (gk - 1)
     case measure => omega
     case rel => exact ⟨j + 1, by omega, rfl, zb hH, zb (fun t ht => by
      by_cases e : t = j
      ·subst e
       rw [Hm.out, Hm2.out, Hk.out]
      ·exact hno.out t (by omega))⟩
    ·have Hf : Hid (decide (l = l2) = false) := zb (decide_eq_false (fun e => hk (by
      have := Hm.out;rw [e, Hm2.out] at this
      injection this with this
      exact this.symm)))
     rw [decide_eq_false hk] at qE;simp only [Bool.not_false] at qE;clear hk wm wm2;go_wp2_with fail
     go_region_held3 (fun w' => Fr w w') (first | exact hWD | assumption) (first | fail)
     rename_i hH;go_wp2_with fail;go_ret;exact ⟨by rw [Hf.out]; rfl, hH⟩
   ·have hjn : j = n := by omega
    have hjz : ¬ (j : Int) < (n : Int) := by omega
    have he : l = l2 := by
     apply List.ext_getElem?;intro t
     by_cases ht : t < j
     ·exact hno.out t ht
     ·rw [List.getElem?_eq_none (by rw [Hn.out]; omega), List.getElem?_eq_none (by rw [Hn2.out]; omega)]
    have Hf : Hid (decide (l = l2) = true) := zb (decide_eq_true he);have hWW := hW.out;clear hlt hjn hno he;go_wp2_with fail;go_ret;exact ⟨by rw [Hf.out]; rfl, hWW⟩
 ·have hnz : ¬ (n : Int) = (n2 : Int) := by omega
  have Hf : Hid (decide (l = l2) = false) := zb (decide_eq_false (fun e => hnn (by rw [← hn, ← hn2, e])));clear hl hl2 wl wl2 hn hn2;go_enter Tryz.func64, Tryz.ntmps64;go_wp2_with fail;go_ret;exact ⟨by rw [Hf.out]; rfl, hww⟩
end
section
attribute [local go_sem ↓] zt zbh zae zw zaX
theorem zk9 {w0 w : World} {A : Option Addr} {n c V : Nat} {l : List RE} {x : RE} (h0 : Fr w0 w) (ho : zau w w0.heap.size A c l) (hn : l.length = n) (hsm : n ≤ 200000) (wx : x.wf) (hV : V = w.heap.size) (ty : TypeId) :
 ∃ A' c' w', (Builtin.append_ #[23, 23] ty #[.slice A n c, .slice (some ⟨V, 0, none⟩) 1 1]).run Tryz.prog (w.alloc (.cells (ec x).toArray 52)) = .ok (.slice A' (n + 1) c') w' ∧ zau w' w0.heap.size A' c' (l ++ [x]) ∧ Fr w0 w' := by
 subst hV;unfold zau at ho;rw [hn] at ho;obtain ⟨i, z, hi, hz, hsize, hby, hzs⟩ := zcN.row;obtain ⟨A', c', w', hr, h1, h2, h3⟩ := zcM (P := Tryz.prog) (w.alloc (.cells (ec x).toArray 52)) w0.heap.size 23 ty 52 i z 26 40 zaA hi hz hsize hby hzs (by decide) A n c (zm ec l) (ho.alloc _) (w.heap.size + 1) (some ⟨w.heap.size, 0, none⟩) 1 1 (ec x) (zbT wx.val.hl) (zax _ (Arr.new w _ _)) (zdw x) (by unfold maxLen; omega) (by omega) (by have := h0.size; simp; omega);refine ⟨A', c', w', hr, ?_, zat (zf h0 _) (ho.alloc _) h2 (by have := h0.size; simp; omega) (Nat.le_refl _)⟩;unfold zau;rw [List.length_append, hn, zas, zbj];exact h1
theorem zaG {w0 w : World} {ops : Array Oper} {rest : List Oper} {o : Oper} {a : Act} {Q : Exit → Act → World → Prop} {A : Option Addr} {n c : Nat} {l : List RE} {x : RE} (d s : Operand) (hop : o.op = .call { callee := .builtin .append, args := #[d, s], argTypes := #[23, 23] }) (hgd : o.guard = none)
 (hd : a.eval d = .slice A n c) (hs : a.eval s = .slice (some ⟨w.heap.size, 0, none⟩) 1 1) (h0 : Fr w0 w) (ho : zau w w0.heap.size A c l) (hn : l.length = n) (hsm : n ≤ 200000) (wx : x.wf)
 (h : ∀ A' c' w', zau w' w0.heap.size A' c' (l ++ [x]) → Fr w0 w' → wpList Tryz.prog ops Q rest (a.put o.dst (.slice A' (n + 1) c')) w') : wpList Tryz.prog ops Q (o :: rest) a (w.alloc (.cells (ec x).toArray 52)) := by
 obtain ⟨A', c', w', hr, h1, h2⟩ := zk9 (V := w.heap.size) h0 ho hn hsm wx rfl o.type;exact zbX _ hgd d s _ _ hop _ _ hd hs hr (h A' c' w' h1 h2)
set_option maxHeartbeats 2000000 in
theorem eall_at {w : World} {A A2 : Option Addr} {n c B n2 c2 B2 : Nat} {l : List RE} {more : List RM} (hl : Has w B A (zm ec l)) (hB : B ≤ w.heap.size) (hn : l.length = n) (hsm : n ≤ 10000) (ol : OkE l) (hl2 : Has w B2 A2 (zm mc more)) (hB2 : B2 ≤ w.heap.size) (hn2 : more.length = n2) (hsm2 : n2 ≤ 10000) (gm : zcq more) :
 Calls Tryz.prog 109 #[.slice A n c, .slice A2 n2 c2] w fun e w' => ∃ A' c', e = .returned (.slice A' (zbI l more).length c') ∧ zau w' w.heap.size A' c' (zbI l more) ∧ Fr w w' := by
 have cC := zi7 (c := c) hl hB hn (by omega) ol.wfe;have Hl := zb hl2;have Hn := zb hn2;have Hn1 := zb hn;have Hg := zb gm;have Ho := zb ol;clear hl2 hn2 gm ol hl hn;go_enter Tryz.func109, Tryz.ntmps109
 go_wp2_with (first
  | (go_at_call 47; refine cC.mono ?_; rintro e w1 ⟨A1, c1, rfl, ho1, hF1⟩)
  | fail)
 go_loopg [5, 12] n2 (fun g s5 s12 wr => ∃ j : Nat, j + g = n2 ∧ s12 = .int .i64 j ∧ (∃ A' c', s5 = .slice A' (zbI l (more.take j)).length c' ∧ Hid (zau wr w.heap.size A' c' (zbI l (more.take j)))) ∧ Hid (Fr w wr))
 case atStart => exact ⟨0, by omega, rfl, ⟨A1, c1, by rw [← Hn1.out]; rfl, zb ho1⟩, zb hF1⟩
 case round =>
  obtain ⟨j, hj, rfl, ⟨A', c', rfl, hO⟩, hF⟩ := hrel
  by_cases hlt : j < n2
  ·have hm : more[j]? = some (more[j]'(by rw [Hn.out]; exact hlt)) := List.getElem?_eq_getElem _
   generalize more[j]'(by rw [Hn.out]; exact hlt) = m at hm;obtain ⟨b, off, rfl, hb1, hr⟩ := zJ Hl.out Hg.out.wfm.wid (by decide) (by intro e; rw [e] at hm; simp at hm);have lX := z9 za4 hr Hg.out.wfm.wid (by omega) hm;have wm := Hg.out m (za8 hm);have hle := zgB (more.take j) l;have hgt : zcq (more.take j) := Hg.out.sub (List.take_sublist _ _);have hok := zbW Ho.out hgt;rw [List.length_take, Hn.out, Hn1.out] at hle;have Hs := zb (zjs (l := l) hm);generalize zbI l (more.take j) = q at *
   have cE : ∀ W, Fr wr W → Calls Tryz.prog 118 #[.slice A' q.length c', mm m] W fun e w' => ∃ A2 c2, e = .returned (.slice A2 (zba q m).length c2) ∧ zau w' w.heap.size A2 c2 (zba q m) ∧ Fr w w' := fun W hW =>
    (zmE (hO.out.fr hW) (Nat.le_trans hF.out.size hW.size) rfl (by omega) hok wm.1 wm.2).mono fun e w' h => by
     obtain ⟨A2, c2, e1, h1, h2⟩ := h;exact ⟨A2, c2, e1, h1, (za hF.out hW).trans h2⟩
   have Hm := zb (zP wm.1.val.hl);have hF1' := hF.out;have hjz : (j : Int) < (n2 : Int) := by omega
   have hrr := ze wr;generalize q.length = ql at *;clear hm hr hlt hok hgt hle
   go_wp2_with (first
    | (refine zi (ds := mc m) zX rfl (.tmp 7) (.tmp 15) rfl wr.heap.size 0 rfl rfl Hm.out (zay _) (Arr.new wr (mc za0).toArray 64) (by decide) (zk _ _ (by rw [Hm.out]; decide)) ?_; intro W5 hM5 hk5; have hF5 := hk5.fr (zf hrr _) (Nat.le_refl _); clear hk5; have lM := zbg hM5 wm.1.val.hl; have h55 := ze W5)
    | (go_at_call 118; (with_reducible refine (cE W5 (by assumption)).mono ?_); rintro e w9 ⟨A9, c9, rfl, ho9, hz⟩)
    | fail)
   go_roundg (gk - 1)
   case measure => omega
   case rel => exact ⟨j + 1, by omega, rfl, ⟨A9, c9, by rw [Hs.out], by rw [Hs.out]; exact zb ho9⟩, zb hz⟩
  ·have : j = n2 := by omega
   subst this;have e : more.take j = more := List.take_of_length_le (by rw [Hn.out]; exact Nat.le_refl _);rw [e] at hO ⊢;go_wp2_with fail;go_ret;exact ⟨A', c', rfl, hO.out, hF.out⟩
end
end Go.Proofs.YtmjjjdikpnhpiaaGreat
