/- Entries in memory: 'Put', 'All' of the document. -/
import Derived.Test.YtmjjjdikpnhpiaaGreatLfF
namespace Go.Proofs.YtmjjjdikpnhpiaaGreat
set_option linter.unusedVariables false
set_option linter.unusedSimpArgs false
set_option maxRecDepth 100000
open Go.RowKit
section
attribute [local go_sem ↓] zt zbh zae zw
def optE (k : RK) : Option RV → List RE
 | some v => [⟨k, v⟩]
 | none => []
theorem setE_lt {x : RE} {l : List RE} {k : RK} {o : Option RV} (h : zu x.key < zu k) : za3 (x :: l) k o = x :: za3 l k o := by
 cases o <;> simp [za3, h]
theorem setE_eq {x : RE} {l : List RE} {k : RK} {o : Option RV} (h : ¬ zu x.key < zu k) (hk : x.key = k) : za3 (x :: l) k o = optE k o ++ l := by
 cases o <;> simp [za3, hk, optE]
theorem setE_gt {x : RE} {l : List RE} {k : RK} {o : Option RV} (h : ¬ zu x.key < zu k) (hk : ¬ x.key = k) : za3 (x :: l) k o = optE k o ++ x :: l := by
 cases o <;> simp [za3, h, hk, optE]
def zeG (l : List RE) (k : RK) (o : Option RV) (j : Nat) (p : Bool) (q : List RE) : Prop :=
 if p = true then q ++ l.drop j = za3 l k o ∧ ∀ y ∈ l.drop j, zu k < ce y else q = l.take j ∧ ∀ y ∈ l.take j, ce y < zu k
theorem zdR : ∀ {q : List RE} (r : List RE) {k : RK} {o : Option RV}, (∀ y ∈ q, ce y < zu k) → za3 (q ++ r) k o = q ++ za3 r k o
 | [], _, _, _, _ => rfl
 | x :: q, r, k, o, h => by
  have hx : zu x.key < zu k := h x (by simp)
  show za3 (x :: (q ++ r)) k o = _
  rw [setE_lt hx, zdR r (fun y hy => h y (List.mem_cons_of_mem _ hy))];rfl
theorem zhT (l : List RE) (k : RK) (o : Option RV) : zeG l k o 0 false [] := ⟨rfl, fun y hy => by simp at hy⟩
theorem zfW {l q : List RE} {k : RK} {o : Option RV} {j : Nat} (h : zeG l k o j false q) : q.length ≤ j := by
 obtain ⟨rfl, -⟩ : q = l.take j ∧ ∀ y ∈ l.take j, ce y < zu k := h;rw [List.length_take]; omega
theorem zeM {α : Type} {l : List α} {j : Nat} {a : α} (h : l[j]? = some a) : l.drop j = a :: l.drop (j + 1) := by
 obtain ⟨hj, e⟩ := List.getElem?_eq_some_iff.1 h;rw [List.drop_eq_getElem_cons hj, e]
theorem zne {l q : List RE} {k : RK} {o : Option RV} {x : RE} {j : Nat} (h : zeG l k o j false q) (hx : l[j]? = some x) (hlt : ce x < zu k) : zeG l k o (j + 1) false (q ++ [x]) := by
 obtain ⟨rfl, h2⟩ : q = l.take j ∧ ∀ y ∈ l.take j, ce y < zu k := h
 show l.take j ++ [x] = l.take (j + 1) ∧ ∀ y ∈ l.take (j + 1), ce y < zu k
 rw [zav hx];refine ⟨rfl, fun y hy => ?_⟩
 rcases List.mem_append.1 hy with e | e
 ·exact h2 y e
 ·simp at e; subst e; exact hlt
theorem zm3 {l : List RE} (ol : OkE l) {x : RE} {j : Nat} (hx : l[j]? = some x) : ∀ y ∈ l.drop (j + 1), ce x < ce y := fun y hy => by
 have h := ol.sub (List.drop_sublist j l);rw [zeM hx] at h;exact h.lt y hy
theorem znn {l q : List RE} {k : RK} {o : Option RV} {x : RE} {j : Nat} (ol : OkE l) (h : zeG l k o j false q) (hx : l[j]? = some x) (hk : x.key = k) : zeG l k o (j + 1) true (q ++ optE k o) := by
 obtain ⟨rfl, h2⟩ : q = l.take j ∧ ∀ y ∈ l.take j, ce y < zu k := h;have hc : ce x = zu k := by unfold ce; rw [hk]
 have h3 := zm3 ol hx
 show _ = za3 l k o ∧ ∀ y ∈ l.drop (j + 1), zu k < ce y
 refine ⟨?_, fun y hy => by have := h3 y hy; omega⟩;have e : za3 l k o = za3 (l.take j ++ l.drop j) k o := by rw [List.take_append_drop]
 rw [e, zdR _ h2, zeM hx, setE_eq (by unfold ce at hc; omega) hk, List.append_assoc]
theorem znj {l q : List RE} {k : RK} {o : Option RV} {x : RE} {j : Nat} (ol : OkE l) (h : zeG l k o j false q) (hx : l[j]? = some x) (hgt : zu k < ce x) : zeG l k o (j + 1) true (q ++ optE k o ++ [x]) := by
 obtain ⟨rfl, h2⟩ : q = l.take j ∧ ∀ y ∈ l.take j, ce y < zu k := h;have h3 := zm3 ol hx
 show _ = za3 l k o ∧ ∀ y ∈ l.drop (j + 1), zu k < ce y
 refine ⟨?_, fun y hy => by have := h3 y hy; omega⟩;have e : za3 l k o = za3 (l.take j ++ l.drop j) k o := by rw [List.take_append_drop]
 rw [e, zdR _ h2, zeM hx, setE_gt (by unfold ce at hgt; omega) (fun e => by unfold ce at hgt; rw [e] at hgt; omega), List.append_assoc, List.append_assoc];rfl
theorem ziR {l q : List RE} {k : RK} {o : Option RV} {x : RE} {j : Nat} (h : zeG l k o j true q) (hx : l[j]? = some x) : zeG l k o (j + 1) true (q ++ [x]) := by
 obtain ⟨h1, h2⟩ : q ++ l.drop j = za3 l k o ∧ ∀ y ∈ l.drop j, zu k < ce y := h;rw [zeM hx] at h1 h2
 show _ = za3 l k o ∧ ∀ y ∈ l.drop (j + 1), zu k < ce y
 exact ⟨by rw [List.append_assoc]; exact h1, fun y hy => h2 y (List.mem_cons_of_mem _ hy)⟩
theorem zez {l q : List RE} {k : RK} {o : Option RV} {x : RE} {j : Nat} (h : zeG l k o j true q) (hx : l[j]? = some x) : zu k < ce x := by
 obtain ⟨h1, h2⟩ : q ++ l.drop j = za3 l k o ∧ ∀ y ∈ l.drop j, zu k < ce y := h;exact h2 x (by rw [zeM hx]; simp)
theorem zk1 {l q : List RE} {k : RK} {o : Option RV} {j : Nat} {p : Bool} (h : zeG l k o j p q) (hj : l.length ≤ j) : za3 l k o = if p = true then q else q ++ optE k o := by
 cases p
 ·obtain ⟨rfl, h2⟩ : q = l.take j ∧ ∀ y ∈ l.take j, ce y < zu k := h
  rw [List.take_of_length_le hj] at h2 ⊢;have := zdR [] (o := o) h2;rw [List.append_nil] at this;rw [this]
  cases o <;> rfl
 ·obtain ⟨h1, -⟩ : q ++ l.drop j = za3 l k o ∧ ∀ y ∈ l.drop j, zu k < ce y := h
  rw [List.drop_eq_nil_of_le hj, List.append_nil] at h1;exact h1.symm
end
section
attribute [local go_sem ↓] zt zbh zae zw
set_option maxHeartbeats 4000000 in
theorem zk4 {w : World} {A : Option Addr} {n c B : Nat} {l : List RE} {m : RM} (hl : Has w B A (zm ec l)) (hB : B ≤ w.heap.size) (hn : l.length = n) (hsm : n ≤ 100000) (ol : OkE l) (wm : m.wf) (om : okM m = true) (hb : zcy m = true) :
 Calls Tryz.prog 71 #[.slice A n c, mm m] w fun e w' => ∃ A' c', e = .returned (.slice A' (zba l m).length c') ∧ zau w' w.heap.size A' c' (zba l m) ∧ Fr w w' := by
 obtain ⟨Z, hZ, hF, hZZ, hM, hS⟩ := zcK w m;have hBZ : B ≤ Z.heap.size := Nat.le_trans hB hF.size;have lK := zaN hM;have lM := zbg hM wm.val.hl;have cF := ziL (c := c) (hl.fr hB hF) hBZ hn hsm ol.wfe wm.key
 have wx : ((zO l m.key).getD zE).wf := by
  cases hf : zO l m.key with
  | none => exact zcA
  | some x => exact (ze2 ol hf).1
 have hox : (zO l m.key).isSome = true → okV ((zO l m.key).getD zE) = true := by
  cases hf : zO l m.key with
  | none => intro h; cases h
  | some x => intro _; exact (ze2 ol hf).2
 have cA : ∀ W, Calls Tryz.prog 25 #[vv ((zO l m.key).getD zE), .bool (zO l m.key).isSome, mm m] W fun e w' => e = .returned (.tuple #[vv (zbx ((zO l m.key).getD zE) (zO l m.key).isSome m), .bool (zcy m)]) ∧ Fr W w' := fun W => ziu wx hox wm om (ze W);have wv := zgj (t := (zO l m.key).isSome) wx wm;have hpe : zba l m = za3 l m.key (if zcy m = true then some (zbx ((zO l m.key).getD zE) (zO l m.key).isSome m) else none) := rfl;rw [hpe];rw [hb] at cA ⊢;unfold zmv at cF;generalize zbx ((zO l m.key).getD zE) (zO l m.key).isSome m = v at *;generalize (zO l m.key).getD zE = x0 at *;generalize (zO l m.key).isSome = b0 at *;have HlX := zb (zD wx.hl);have HlV := zb (zD wv.hl);have hlv : (vc v).length = 17 := zD wv.hl;have Hl := zb (hl.fr hB hF);have Hn := zb hn;have Hol := zb ol;have hdec : za3 l m.key (if true = true then some v else none) = za3 l m.key (some v) := rfl;rw [hdec];have hln : (ec ⟨m.key, v⟩).length = 26 := zbT wv.hl;have hf1 := ziK m.key wv.hl;have hf2 := zge (e := ⟨m.key, v⟩) wv.hl;have we : RE.wf ⟨m.key, v⟩ := ⟨wm.key, wv⟩;obtain ⟨e0, he⟩ : ∃ e : RE, (⟨m.key, v⟩ : RE) = e := ⟨_, rfl⟩;have He0 := zb he;rw [he] at hln hf1 hf2 we;have Hwe := zb we;clear he we;clear hl hn ol hM hpe hox hb hdec;go_enter Tryz.func71, Tryz.ntmps71
 go_wp2_with (first
  | (go_at_call 23; (with_reducible refine cF.mono ?_); rintro e w1 ⟨rfl, hz1⟩)
  | (refine zi (ds := vc x0) zad rfl (.tmp 5) (.tmp 18) rfl w1.heap.size 0 rfl rfl HlX.out (zar _) (Arr.new w1 (vc zE).toArray 37) (by decide) (zk _ _ (by rw [HlX.out]; decide)) ?_; intro Y1 hV1 hk1; have hF1 := hk1.fr (zf hz1 _) hz1.size; have lv1 := zee hV1 HlX.out; have h11 := ze Y1; clear hk1)
  | (go_at_call 25; (with_reducible refine (cA _).mono ?_); rintro e w3 ⟨rfl, hz3⟩; have hF3 := za hF1 hz3; clear lv1 h11)
  | (refine zi (ds := vc v) zad rfl (.tmp 7) (.tmp 25) rfl w3.heap.size 0 rfl rfl HlV.out (zar _) (Arr.new w3 (vc zE).toArray 37) (by decide) (zk _ _ (by rw [HlV.out]; decide)) ?_; intro Y2 hV2 hk2; have hF2 := hk2.fr (zf hF3 _) hF3.size; have lv2 := zee hV2 HlV.out; clear hk2)
  | fail)
 have hYY := ze Y2;have lK2 : ∀ W, Fr Y2 W → (ldS 33 (.pointer (some ⟨w.heap.size, 2, none⟩))).run Tryz.prog W = .ok (.agg (kc m.key).toArray) W := fun W h => lK W (za hF2 h);have HlY := zb (Hl.out.fr hBZ hF2);have hBY := Nat.le_trans hBZ hF2.size;have hwY := za hF hF2;have hSz := hwY.size;clear lK lM cF cA hV1 hV2 hz1 hz3 hF1 hF3 Hl
 go_loopg [9, 10, 11] n (fun g s9 s10 s11 wr => ∃ (j : Nat) (p : Bool) (A' : Option Addr) (n' c' : Nat) (q : List RE), j + g = n ∧ s11 = .int .i64 j ∧ s10 = .bool p ∧ s9 = .slice A' n' c' ∧ n' ≤ j + 1 ∧ Hid (q.length = n') ∧ Hid (zau wr Y2.heap.size A' c' q) ∧ Hid (zeG l m.key (some v) j p q) ∧ Hid (Fr Y2 wr))
 case atStart => exact ⟨0, false, none, 0, 0, [], by omega, rfl, rfl, rfl, by omega, zb rfl, zb (Own.nil _ _ _ _), zb (zhT _ _ _), zb hYY⟩
 case round =>
  obtain ⟨j, p, A', n', c', q, hj, rfl, rfl, rfl, hn'j, Hn', hO, HI, hZr⟩ := hrel
  by_cases hlt : j < n
  ·have hx : l[j]? = some (l[j]'(by rw [Hn.out]; exact hlt)) := List.getElem?_eq_getElem _
   generalize l[j]'(by rw [Hn.out]; exact hlt) = x at hx;have hwid := Hol.out.wfe.wid;obtain ⟨b, off, rfl, hb1, hr⟩ := zJ HlY.out hwid (by decide) (by intro e; rw [e] at hx; simp at hx);have lX := z9 zh4 hr hwid (by omega) hx;have lXk := zak (o := 0) zaf hr hwid (by omega) hx (zcC x) (zl _);simp only [Nat.add_zero] at lXk;have gx := Hol.out.good x (za2 hx);have cK := fun W0 W h => zcF (W0 := W0) (W := W) gx.wk wm.key gx.ok (zaH om) h;have hZ1 := hZr.out;have hrr := ze wr;have hZD := zn hZ1;have hrD := zn hrr;have hjz : (j : Int) < (n : Int) := by omega
   have hszx : (ec x).length = 26 := zbT gx.wv.hl;have hfx := zge (e := x) gx.wv.hl;have Hwx := zb gx.wf
   rcases Int.lt_trichotomy (ce x) (zu m.key) with hc | hc | hc
   ·have hr1 : zaB x.key m.key < 0 := zfc.2 hc
    have hp : p = false := by
     cases p with
     | false => rfl
     | true => have := zez HI.out hx; omega
    subst hp;have HI2 := zb (zne HI.out hx hc);generalize zaB x.key m.key = r at *;have r1 : ¬ r = 0 := by omega
    have r2 : ¬ 0 ≤ r := by omega
    clear hx hr hlt gx hc hwid;go_wp2_with fail
    go_region_held3 (fun w' => Fr Y2 w' ∧ Fr wr w') (first | (go_split_ands; exact ⟨hZD, hrD⟩) | (go_split_ands; exact ⟨by assumption, by assumption⟩))
     (first
      | (go_at_call 26; (with_reducible refine (cK wr _ (by assumption)).mono ?_); rintro e w9 ⟨rfl, hz9⟩; have hZ9 := za hZ1 hz9))
    rename_i hH;obtain ⟨hWZ, hWr⟩ := hH;have hOW := hO.out.fr hWr
    go_wp2_with (first
     | (refine zaG (.tmp 57) (.tmp 62) rfl rfl rfl rfl hWZ hOW Hn'.out (by omega) Hwx.out ?_; intro A9 c9 w10 ho9 hf9)
     | fail)
    go_roundg (gk - 1)
    case measure => omega
    case rel => exact ⟨j + 1, false, A9, n' + 1, c9, q ++ [x], by omega, rfl, rfl, rfl, by omega, zb (by rw [List.length_append, Hn'.out]; rfl), zb ho9, HI2, zb hf9⟩
   ·have hk : x.key = m.key := zcI gx.wk wm.key (za1 gx.ok) (za1 (zaH om)) hc
    have hr1 : zaB x.key m.key = 0 := (zjJ gx.wk wm.key gx.ok (zaH om)).2 hk
    have hp : p = false := by
     cases p with
     | false => rfl
     | true => have := zez HI.out hx; omega
    subst hp;have hq2 : n' ≤ j := by have := zfW HI.out; rw [Hn'.out] at this; exact this
    have HI2 := zb (znn Hol.out HI.out hx hk);rw [hr1] at cK;clear hx hr hlt gx hc hwid hk hr1;go_wp2_with fail
    go_region_held3 (fun w' => Fr Y2 w' ∧ Fr wr w') (first | (go_split_ands; exact ⟨hZD, hrD⟩) | (go_split_ands; exact ⟨by assumption, by assumption⟩))
     (first
      | (go_at_call 26; (with_reducible refine (cK wr _ (by assumption)).mono ?_); rintro e w9 ⟨rfl, hz9⟩; have hZ9 := za hZ1 hz9))
    rename_i hH;obtain ⟨hWZ, hWr⟩ := hH;have hOW := hO.out.fr hWr;have HI2 : Hid (zeG l m.key (some v) (j + 1) true (q ++ [e0])) := zb (by have := HI2.out; rw [← He0.out]; exact this)
    go_wp2_with (first
     | (refine zaG (.tmp 48) (.tmp 53) rfl rfl rfl rfl hWZ hOW Hn'.out (by omega) Hwe.out ?_; intro A9 c9 w10 ho9 hf9)
     | fail)
    go_roundg (gk - 1)
    case measure => omega
    case rel => exact ⟨j + 1, true, A9, n' + 1, c9, q ++ [e0], by omega, rfl, rfl, rfl, by omega, zb (by rw [List.length_append, Hn'.out]; rfl), zb ho9, HI2, zb hf9⟩
   ·have hr1 : 0 < zaB x.key m.key := zjF.2 hc
    cases p with
    | false =>
     have hq2 : n' ≤ j := by have := zfW HI.out; rw [Hn'.out] at this; exact this
     have HI2 := zb (znj Hol.out HI.out hx hc);generalize zaB x.key m.key = r at *;have r1 : ¬ r = 0 := by omega
     have r2 : 0 ≤ r := by omega
     have Hn2 : Hid ((q ++ [e0]).length = n' + 1) := zb (by rw [List.length_append, Hn'.out]; rfl);have HI2 : Hid (zeG l m.key (some v) (j + 1) true (q ++ [e0] ++ [x])) := zb (by have := HI2.out; rw [← He0.out]; exact this);clear hx hr hlt gx hc hwid;go_wp2_with fail
     go_region_held3 (fun w' => Fr Y2 w' ∧ Fr wr w') (first | (go_split_ands; exact ⟨hZD, hrD⟩) | (go_split_ands; exact ⟨by assumption, by assumption⟩))
      (first
       | (go_at_call 26; (with_reducible refine (cK wr _ (by assumption)).mono ?_); rintro e w9 ⟨rfl, hz9⟩; have hZ9 := za hZ1 hz9))
     rename_i hH;obtain ⟨hWZ, hWr⟩ := hH;have hOW := hO.out.fr hWr
     go_wp2_with (first
      | (refine zaG (.tmp 48) (.tmp 53) rfl rfl rfl rfl hWZ hOW Hn'.out (by omega) Hwe.out ?_; intro A8 c8 w8 ho8 hf8)
      | (refine zaG (.tmp 57) (.tmp 62) rfl rfl rfl rfl hf8 ho8 Hn2.out (by omega) Hwx.out ?_; intro A9 c9 w10 ho9 hf9)
      | fail)
     go_roundg (gk - 1)
     case measure => omega
     case rel => exact ⟨j + 1, true, A9, n' + 1 + 1, c9, q ++ [e0] ++ [x], by omega, rfl, rfl, rfl, by omega, zb (by rw [List.length_append, Hn2.out]; rfl), zb ho9, HI2, zb hf9⟩
    | true =>
     have HI2 := zb (ziR HI.out hx);generalize zaB x.key m.key = r at *;have r1 : ¬ r = 0 := by omega
     have r2 : 0 ≤ r := by omega
     clear hx hr hlt gx hc hwid;go_wp2_with fail
     go_region_held3 (fun w' => Fr Y2 w' ∧ Fr wr w') (first | (go_split_ands; exact ⟨hZD, hrD⟩) | (go_split_ands; exact ⟨by assumption, by assumption⟩))
      (first
       | (go_at_call 26; (with_reducible refine (cK wr _ (by assumption)).mono ?_); rintro e w9 ⟨rfl, hz9⟩; have hZ9 := za hZ1 hz9))
     rename_i hH;obtain ⟨hWZ, hWr⟩ := hH;have hOW := hO.out.fr hWr
     go_wp2_with (first
      | (refine zaG (.tmp 57) (.tmp 62) rfl rfl rfl rfl hWZ hOW Hn'.out (by omega) Hwx.out ?_; intro A9 c9 w10 ho9 hf9)
      | fail)
     go_roundg (gk - 1)
     case measure => omega
     case rel => exact ⟨j + 1, true, A9, n' + 1, c9, q ++ [x], by omega, rfl, rfl, rfl, by omega, zb (by rw [List.length_append, Hn'.out]; rfl), zb ho9, HI2, zb hf9⟩
  ·have hjn : j = n := by omega
   have hjz : ¬ (j : Int) < (n : Int) := by omega
   have he := zk1 HI.out (by rw [Hn.out]; omega);have hZ1 := hZr.out;have hOr := hO.out
   cases p with
   | true =>
    have He : Hid (za3 l m.key (some v) = q) := zb (by rw [he]; rfl);clear hlt hjn he;go_wp2_with fail;go_ret;rw [He.out, Hn'.out];exact ⟨A', c', rfl, hOr.mono hSz, za hwY hZ1⟩
   | false =>
    have He : Hid (za3 l m.key (some v) = q ++ [e0]) := zb (by rw [he, ← He0.out]; rfl);clear hlt hjn he
    go_wp2_with (first
     | (refine zaG (.tmp 69) (.tmp 74) rfl rfl rfl rfl hZ1 hOr Hn'.out (by omega) Hwe.out ?_; intro A9 c9 w10 ho9 hf9)
     | fail)
    go_ret;rw [He.out, List.length_append, Hn'.out];exact ⟨A9, c9, rfl, ho9.mono hSz, za hwY hf9⟩
end
section
attribute [local go_sem ↓] zt zbh zae zw
set_option maxHeartbeats 4000000 in
theorem zk6 {w : World} {A : Option Addr} {n c B : Nat} {l : List RE} {m : RM} (hl : Has w B A (zm ec l)) (hB : B ≤ w.heap.size) (hn : l.length = n) (hsm : n ≤ 100000) (ol : OkE l) (wm : m.wf) (om : okM m = true) (hb : zcy m = false) :
 Calls Tryz.prog 71 #[.slice A n c, mm m] w fun e w' => ∃ A' c', e = .returned (.slice A' (zba l m).length c') ∧ zau w' w.heap.size A' c' (zba l m) ∧ Fr w w' := by
 obtain ⟨Z, hZ, hF, hZZ, hM, hS⟩ := zcK w m;have hBZ : B ≤ Z.heap.size := Nat.le_trans hB hF.size;have lK := zaN hM;have lM := zbg hM wm.val.hl;have cF := ziL (c := c) (hl.fr hB hF) hBZ hn hsm ol.wfe wm.key
 have wx : ((zO l m.key).getD zE).wf := by
  cases hf : zO l m.key with
  | none => exact zcA
  | some x => exact (ze2 ol hf).1
 have hox : (zO l m.key).isSome = true → okV ((zO l m.key).getD zE) = true := by
  cases hf : zO l m.key with
  | none => intro h; cases h
  | some x => intro _; exact (ze2 ol hf).2
 have cA : ∀ W, Calls Tryz.prog 25 #[vv ((zO l m.key).getD zE), .bool (zO l m.key).isSome, mm m] W fun e w' => e = .returned (.tuple #[vv (zbx ((zO l m.key).getD zE) (zO l m.key).isSome m), .bool (zcy m)]) ∧ Fr W w' := fun W => ziu wx hox wm om (ze W);have wv := zgj (t := (zO l m.key).isSome) wx wm;have hpe : zba l m = za3 l m.key (if zcy m = true then some (zbx ((zO l m.key).getD zE) (zO l m.key).isSome m) else none) := rfl;rw [hpe];rw [hb] at cA ⊢;unfold zmv at cF;generalize zbx ((zO l m.key).getD zE) (zO l m.key).isSome m = v at *;generalize (zO l m.key).getD zE = x0 at *;generalize (zO l m.key).isSome = b0 at *;have HlX := zb (zD wx.hl);have HlV := zb (zD wv.hl);have hlv : (vc v).length = 17 := zD wv.hl;have Hl := zb (hl.fr hB hF);have Hn := zb hn;have Hol := zb ol;have hdec : za3 l m.key (if false = true then some v else none) = za3 l m.key (none) := rfl;rw [hdec];clear hl hn ol hM hpe hox hb hdec;go_enter Tryz.func71, Tryz.ntmps71
 go_wp2_with (first
  | (go_at_call 23; (with_reducible refine cF.mono ?_); rintro e w1 ⟨rfl, hz1⟩)
  | (refine zi (ds := vc x0) zad rfl (.tmp 5) (.tmp 18) rfl w1.heap.size 0 rfl rfl HlX.out (zar _) (Arr.new w1 (vc zE).toArray 37) (by decide) (zk _ _ (by rw [HlX.out]; decide)) ?_; intro Y1 hV1 hk1; have hF1 := hk1.fr (zf hz1 _) hz1.size; have lv1 := zee hV1 HlX.out; have h11 := ze Y1; clear hk1)
  | (go_at_call 25; (with_reducible refine (cA _).mono ?_); rintro e w3 ⟨rfl, hz3⟩; have hF3 := za hF1 hz3; clear lv1 h11)
  | (refine zi (ds := vc v) zad rfl (.tmp 7) (.tmp 25) rfl w3.heap.size 0 rfl rfl HlV.out (zar _) (Arr.new w3 (vc zE).toArray 37) (by decide) (zk _ _ (by rw [HlV.out]; decide)) ?_; intro Y2 hV2 hk2; have hF2 := hk2.fr (zf hF3 _) hF3.size; have lv2 := zee hV2 HlV.out; clear hk2)
  | fail)
 have hYY := ze Y2;have lK2 : ∀ W, Fr Y2 W → (ldS 33 (.pointer (some ⟨w.heap.size, 2, none⟩))).run Tryz.prog W = .ok (.agg (kc m.key).toArray) W := fun W h => lK W (za hF2 h);have HlY := zb (Hl.out.fr hBZ hF2);have hBY := Nat.le_trans hBZ hF2.size;have hwY := za hF hF2;have hSz := hwY.size;clear lK lM cF cA hV1 hV2 hz1 hz3 hF1 hF3 Hl
 go_loopg [9, 10, 11] n (fun g s9 s10 s11 wr => ∃ (j : Nat) (p : Bool) (A' : Option Addr) (n' c' : Nat) (q : List RE), j + g = n ∧ s11 = .int .i64 j ∧ s10 = .bool p ∧ s9 = .slice A' n' c' ∧ n' ≤ j + 1 ∧ Hid (q.length = n') ∧ Hid (zau wr Y2.heap.size A' c' q) ∧ Hid (zeG l m.key (none) j p q) ∧ Hid (Fr Y2 wr))
 case atStart => exact ⟨0, false, none, 0, 0, [], by omega, rfl, rfl, rfl, by omega, zb rfl, zb (Own.nil _ _ _ _), zb (zhT _ _ _), zb hYY⟩
 case round =>
  obtain ⟨j, p, A', n', c', q, hj, rfl, rfl, rfl, hn'j, Hn', hO, HI, hZr⟩ := hrel
  by_cases hlt : j < n
  ·have hx : l[j]? = some (l[j]'(by rw [Hn.out]; exact hlt)) := List.getElem?_eq_getElem _
   generalize l[j]'(by rw [Hn.out]; exact hlt) = x at hx;have hwid := Hol.out.wfe.wid;obtain ⟨b, off, rfl, hb1, hr⟩ := zJ HlY.out hwid (by decide) (by intro e; rw [e] at hx; simp at hx);have lX := z9 zh4 hr hwid (by omega) hx;have lXk := zak (o := 0) zaf hr hwid (by omega) hx (zcC x) (zl _);simp only [Nat.add_zero] at lXk;have gx := Hol.out.good x (za2 hx);have cK := fun W0 W h => zcF (W0 := W0) (W := W) gx.wk wm.key gx.ok (zaH om) h;have hZ1 := hZr.out;have hrr := ze wr;have hZD := zn hZ1;have hrD := zn hrr;have hjz : (j : Int) < (n : Int) := by omega
   have hszx : (ec x).length = 26 := zbT gx.wv.hl;have hfx := zge (e := x) gx.wv.hl;have Hwx := zb gx.wf
   rcases Int.lt_trichotomy (ce x) (zu m.key) with hc | hc | hc
   ·have hr1 : zaB x.key m.key < 0 := zfc.2 hc
    have hp : p = false := by
     cases p with
     | false => rfl
     | true => have := zez HI.out hx; omega
    subst hp;have HI2 := zb (zne HI.out hx hc);generalize zaB x.key m.key = r at *;have r1 : ¬ r = 0 := by omega
    have r2 : ¬ 0 ≤ r := by omega
    clear hx hr hlt gx hc hwid;go_wp2_with fail
    go_region_held3 (fun w' => Fr Y2 w' ∧ Fr wr w') (first | (go_split_ands; exact ⟨hZD, hrD⟩) | (go_split_ands; exact ⟨by assumption, by assumption⟩))
     (first
      | (go_at_call 26; (with_reducible refine (cK wr _ (by assumption)).mono ?_); rintro e w9 ⟨rfl, hz9⟩; have hZ9 := za hZ1 hz9))
    rename_i hH;obtain ⟨hWZ, hWr⟩ := hH;have hOW := hO.out.fr hWr
    go_wp2_with (first
     | (refine zaG (.tmp 57) (.tmp 62) rfl rfl rfl rfl hWZ hOW Hn'.out (by omega) Hwx.out ?_; intro A9 c9 w10 ho9 hf9)
     | fail)
    go_roundg (gk - 1)
    case measure => omega
    case rel => exact ⟨j + 1, false, A9, n' + 1, c9, q ++ [x], by omega, rfl, rfl, rfl, by omega, zb (by rw [List.length_append, Hn'.out]; rfl), zb ho9, HI2, zb hf9⟩
   ·have hk : x.key = m.key := zcI gx.wk wm.key (za1 gx.ok) (za1 (zaH om)) hc
    have hr1 : zaB x.key m.key = 0 := (zjJ gx.wk wm.key gx.ok (zaH om)).2 hk
    have hp : p = false := by
     cases p with
     | false => rfl
     | true => have := zez HI.out hx; omega
    subst hp;have hq2 : n' ≤ j := by have := zfW HI.out; rw [Hn'.out] at this; exact this
    have HI2 := zb (znn Hol.out HI.out hx hk);rw [hr1] at cK;clear hx hr hlt gx hc hwid hk hr1;go_wp2_with fail
    go_region_held3 (fun w' => Fr Y2 w' ∧ Fr wr w') (first | (go_split_ands; exact ⟨hZD, hrD⟩) | (go_split_ands; exact ⟨by assumption, by assumption⟩))
     (first
      | (go_at_call 26; (with_reducible refine (cK wr _ (by assumption)).mono ?_); rintro e w9 ⟨rfl, hz9⟩; have hZ9 := za hZ1 hz9))
    rename_i hH;obtain ⟨hWZ, hWr⟩ := hH;have hOW := hO.out.fr hWr;have HI2 : Hid (zeG l m.key none (j + 1) true q) := zb (by have := HI2.out; rw [show optE m.key none = [] from rfl, List.append_nil] at this; exact this);go_wp2_with fail
    go_roundg (gk - 1)
    case measure => omega
    case rel => exact ⟨j + 1, true, A', n', c', q, by omega, rfl, rfl, rfl, by omega, zb (Hn'.out), zb hOW, HI2, zb hWZ⟩
   ·have hr1 : 0 < zaB x.key m.key := zjF.2 hc
    cases p with
    | false =>
     have hq2 : n' ≤ j := by have := zfW HI.out; rw [Hn'.out] at this; exact this
     have HI2 := zb (znj Hol.out HI.out hx hc);generalize zaB x.key m.key = r at *;have r1 : ¬ r = 0 := by omega
     have r2 : 0 ≤ r := by omega
     have HI2 : Hid (zeG l m.key none (j + 1) true (q ++ [x])) := zb (by have := HI2.out; rw [show optE m.key none = [] from rfl, List.append_nil] at this; exact this);clear hx hr hlt gx hc hwid;go_wp2_with fail
     go_region_held3 (fun w' => Fr Y2 w' ∧ Fr wr w') (first | (go_split_ands; exact ⟨hZD, hrD⟩) | (go_split_ands; exact ⟨by assumption, by assumption⟩))
      (first
       | (go_at_call 26; (with_reducible refine (cK wr _ (by assumption)).mono ?_); rintro e w9 ⟨rfl, hz9⟩; have hZ9 := za hZ1 hz9))
     rename_i hH;obtain ⟨hWZ, hWr⟩ := hH;have hOW := hO.out.fr hWr
     go_wp2_with (first
      | (refine zaG (.tmp 57) (.tmp 62) rfl rfl rfl rfl hWZ hOW Hn'.out (by omega) Hwx.out ?_; intro A9 c9 w10 ho9 hf9)
      | fail)
     go_roundg (gk - 1)
     case measure => omega
     case rel => exact ⟨j + 1, true, A9, n' + 1, c9, q ++ [x], by omega, rfl, rfl, rfl, by omega, zb (by rw [List.length_append, Hn'.out]; rfl), zb ho9, HI2, zb hf9⟩
    | true =>
     have HI2 := zb (ziR HI.out hx);generalize zaB x.key m.key = r at *;have r1 : ¬ r = 0 := by omega
     have r2 : 0 ≤ r := by omega
     clear hx hr hlt gx hc hwid;go_wp2_with fail
     go_region_held3 (fun w' => Fr Y2 w' ∧ Fr wr w') (first | (go_split_ands; exact ⟨hZD, hrD⟩) | (go_split_ands; exact ⟨by assumption, by assumption⟩))
      (first
       | (go_at_call 26; (with_reducible refine (cK wr _ (by assumption)).mono ?_); rintro e w9 ⟨rfl, hz9⟩; have hZ9 := za hZ1 hz9))
     rename_i hH;obtain ⟨hWZ, hWr⟩ := hH;have hOW := hO.out.fr hWr
     go_wp2_with (first
      | (refine zaG (.tmp 57) (.tmp 62) rfl rfl rfl rfl hWZ hOW Hn'.out (by omega) Hwx.out ?_; intro A9 c9 w10 ho9 hf9)
      | fail)
     go_roundg (gk - 1)
     case measure => omega
     case rel => exact ⟨j + 1, true, A9, n' + 1, c9, q ++ [x], by omega, rfl, rfl, rfl, by omega, zb (by rw [List.length_append, Hn'.out]; rfl), zb ho9, HI2, zb hf9⟩
  ·have hjn : j = n := by omega
   have hjz : ¬ (j : Int) < (n : Int) := by omega
   have he := zk1 HI.out (by rw [Hn.out]; omega);have hZ1 := hZr.out;have hOr := hO.out
   cases p with
   | true =>
    have He : Hid (za3 l m.key (none) = q) := zb (by rw [he]; rfl);clear hlt hjn he;go_wp2_with fail;go_ret;rw [He.out, Hn'.out];exact ⟨A', c', rfl, hOr.mono hSz, za hwY hZ1⟩
   | false =>
    have He : Hid (za3 l m.key none = q) := zb (by rw [he]; exact List.append_nil _);clear hlt hjn he;go_wp2_with fail;go_ret;rw [He.out, Hn'.out];exact ⟨A', c', rfl, hOr.mono hSz, za hwY hZ1⟩
end
end Go.Proofs.YtmjjjdikpnhpiaaGreat
