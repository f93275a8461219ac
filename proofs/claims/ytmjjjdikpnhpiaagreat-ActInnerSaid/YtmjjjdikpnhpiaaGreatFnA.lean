/- Kids and pivots: rows of numbers, rows of keys; which are valid. -/
import Derived.Test.YtmjjjdikpnhpiaaGreatOrP
import Derived.Deep.RegionLaw
import Derived.Deep.RegionWith
import Derived.Deep.RegionHeld3
import Derived.Deep.QuietTactic
import Derived.BigQuiet
import Derived.Test.YtmjjjdikpnhpiaaGreatShort
namespace Go.Proofs.YtmjjjdikpnhpiaaGreat
set_option linter.unusedVariables false
set_option linter.unusedSimpArgs false
set_option maxRecDepth 100000
open Go.RowKit
section
attribute [local go_sem ↓] zt zw
def zS (l : List Int) : List Value := l.map (Value.int .i64)
theorem zdu {l : List Int} {j : Nat} {v : Int} (h : l[j]? = some v) : (zS l)[j]? = some (.int .i64 v) := by rw [zS, List.getElem?_map, h]; rfl
theorem zeP (l : List Int) : (zS l).length = l.length := by simp [zS]
theorem zd9 (a b : List Int) : zS (a ++ b) = zS a ++ zS b := by simp [zS]
theorem zoK (l : List Int) (k : Nat) : zS (l.take k) = (zS l).take k := by simp [zS, List.map_take]
theorem zoB (l : List Int) (k : Nat) : zS (l.drop k) = (zS l).drop k := by simp [zS, List.map_drop]
def WfK (l : List RK) : Prop := ∀ k ∈ l, k.wf
theorem zdX (l : List RK) : Wid kc 9 l := fun k _ => zl k
theorem OkP.wfk {l : List RK} (h : OkP l) : WfK l := fun k hk => (h.good k hk).1
def plc : List Int → Int → Int
 | [], _ => -1
 | x :: l, v => if x = v then 0 else if plc l v < 0 then -1 else plc l v + 1
theorem zgm : ∀ {l : List Int} {v : Int}, v ∉ l → plc l v = -1
 | [], v, _ => rfl
 | x :: l, v, h => by
  simp only [List.mem_cons, not_or] at h;have := zgm h.2;simp only [plc, if_neg (fun e : x = v => h.1 e.symm), this];rfl
theorem zfZ : ∀ {l : List Int} {v : Int} {j : Nat}, l[j]? = some v → v ∉ l.take j → plc l v = j
 | [], v, j, h, _ => by simp at h
 | x :: l, v, 0, h, _ => by
  simp at h;simp [plc, h]
 | x :: l, v, j + 1, h, hn => by
  simp only [List.getElem?_cons_succ] at h;simp only [List.take_succ_cons, List.mem_cons, not_or] at hn;have := zfZ h hn.2;simp only [plc, if_neg (fun e : x = v => hn.1 e.symm), this];rw [if_neg (by omega)];omega
theorem plc_nn {l : List Int} {v : Int} : 0 ≤ plc l v ↔ v ∈ l := by
 constructor
 ·intro h
  by_cases hm : v ∈ l
  ·exact hm
  ·rw [zgm hm] at h; omega
 ·intro h
  obtain ⟨j, hj⟩ := List.mem_iff_getElem?.1 h
  by_cases hn : 0 ≤ plc l v
  ·exact hn
  ·exfalso
   have key : ∀ (l : List Int), v ∈ l → 0 ≤ plc l v := by
    intro l
    induction l with
    | nil => intro h; simp at h
    | cons x l ih =>
     intro h;simp only [plc]
     split
     ·omega
     ·rename_i hx
      rcases List.mem_cons.1 h with e | e
      ·exact absurd e.symm hx
      ·have := ih e
       split <;> omega
   exact hn (key l h)
theorem zfX {l : List Int} {j : Nat} {x v : Int} (h : l[j]? = some x) : v ∉ l.take (j + 1) ↔ v ∉ l.take j ∧ v ≠ x := by
 rw [zav h, List.mem_append, List.mem_singleton, not_or]
def zfr (l : List Int) : Prop := (∀ x ∈ l, 1 ≤ x ∧ x < 256) ∧ l.Nodup
theorem ziM : zfr [] := ⟨fun _ h => by simp at h, List.nodup_nil⟩
theorem zji {l : List Int} {j : Nat} {x : Int} (h : zfr (l.take j)) (hx : l[j]? = some x) (h1 : 1 ≤ x) (h2 : x < 256) (h3 : x ∉ l.take j) : zfr (l.take (j + 1)) := by
 rw [zav hx];refine ⟨fun y hy => ?_, List.nodup_append.2 ⟨h.2, by simp, fun a ha b hb => ?_⟩⟩
 ·rcases List.mem_append.1 hy with e | e
  ·exact h.1 y e
  ·simp at e; subst e; exact ⟨h1, h2⟩
 ·simp at hb; subst hb; intro e; subst e; exact h3 ha
theorem zdt {l : List Int} {j : Nat} {x : Int} (hx : l[j]? = some x) (h : x < 1 ∨ 256 ≤ x ∨ x ∈ l.take j) : ¬ zfr l := fun g => by
 have hm := List.mem_of_getElem? hx;have := g.1 x hm
 rcases h with h | h | h
 ·omega
 ·omega
 ·have h1 : (l.take (j + 1)).Nodup := g.2.sublist (List.take_sublist _ _)
  rw [zav hx] at h1;exact (List.nodup_append.1 h1).2.2 x h x (by simp) rfl
def zcZ (l : List Int) : Prop := 2 ≤ l.length ∧ l.length ≤ 4 ∧ zfr l
def zfo (l : List Int) : Bool := decide (2 ≤ l.length) && decide (l.length ≤ 4) && l.all (fun x => decide (1 ≤ x) && decide (x < 256)) && decide l.Nodup
def ladB (l : List RK) : Bool := l.all okB && decide (l.Pairwise fun a b => zu a < zu b)
theorem zeL {l : List Int} : zfo l = true ↔ zcZ l := by
 unfold zfo zcZ zfr;simp only [Bool.and_eq_true, decide_eq_true_eq, List.all_eq_true, and_assoc]
theorem zio {l : List RK} (wl : WfK l) : ladB l = true ↔ OkP l := by
 unfold ladB;simp only [Bool.and_eq_true, decide_eq_true_eq, List.all_eq_true];exact ⟨fun h => ⟨fun k hk => ⟨wl k hk, h.1 k hk⟩, h.2⟩, fun h => ⟨fun k hk => (h.good k hk).2, h.asc⟩⟩
theorem zlf {l : List Int} (h : zcZ l) : zfo l = true := zeL.2 h
theorem zfi {l : List Int} (h : ¬ zcZ l) : zfo l = false := by
 cases hb : zfo l with
 | false => rfl
 | true => exact absurd (zeL.1 hb) h
theorem zk3 {l : List RK} (h : OkP l) : ladB l = true := (zio h.wfk).2 h
theorem zj9 {l : List RK} (wl : WfK l) (h : ¬ OkP l) : ladB l = false := by
 cases hb : ladB l with
 | false => rfl
 | true => exact absurd ((zio wl).1 hb) h
def zed (ks : List Int) (ps : List RK) : Bool := zfo ks && decide (ps.length + 1 = ks.length) && ladB ps
theorem zhv {l : List RK} {j : Nat} {m : RK} (hm : l[j]? = some m) (h : OkP (l.take j)) (gm : m.wf ∧ okB m = true) (hp : j = 0 ∨ ∃ p, l[j - 1]? = some p ∧ zu p < zu m) : OkP (l.take (j + 1)) := by
 rw [zav hm];refine ⟨fun x hx => ?_, List.pairwise_append.2 ⟨h.asc, List.pairwise_singleton _ _, fun x hx y hy => ?_⟩⟩
 ·rcases List.mem_append.1 hx with hx | hx
  ·exact h.good x hx
  ·simp at hx; subst hx; exact gm
 ·simp at hy
  subst hy
  rcases hp with rfl | ⟨p, hp, hlt⟩
  ·simp at hx
  ·obtain ⟨t, ht, e⟩ := List.mem_iff_getElem.1 hx
   have hj := (List.getElem?_eq_some_iff.1 hm).1;have htl : t < j := by rw [List.length_take] at ht; omega
   have hp' : (l.take j)[j - 1]? = some p := by rw [List.getElem?_take, if_pos (by omega)]; exact hp
   obtain ⟨hj1, e1⟩ := List.getElem?_eq_some_iff.1 hp'
   rcases Nat.lt_or_ge t (j - 1) with h1 | h1
   ·have := List.pairwise_iff_getElem.1 h.asc t (j - 1) ht hj1 h1
    rw [e, e1] at this;omega
   ·have : t = j - 1 := by omega
    subst this;rw [e1] at e;subst e;exact hlt
theorem zko {l : List RK} {j : Nat} {m : RK} (hm : l[j]? = some m) (om : okB m = false) : ¬ OkP l := fun h => by
 have := (h.good m (List.mem_of_getElem? hm)).2;rw [om] at this
 cases this
theorem zlv {l : List RK} {j : Nat} {m p : RK} (hj : 0 < j) (hm : l[j]? = some m) (hp : l[j - 1]? = some p) (hn : ¬ zu p < zu m) : ¬ OkP l := fun h => by
 obtain ⟨h1, e1⟩ := List.getElem?_eq_some_iff.1 hm;obtain ⟨h2, e2⟩ := List.getElem?_eq_some_iff.1 hp;have := List.pairwise_iff_getElem.1 h.asc (j - 1) j h2 h1 (by omega);rw [e1, e2] at this;exact hn this
theorem zlu {l : List RK} {j : Nat} {p : RK} (h : OkP (l.take j)) (hj : 0 < j) (hp : l[j - 1]? = some p) : p.wf ∧ okB p = true :=
 h.good p (List.mem_of_getElem? (by rw [List.getElem?_take, if_pos (by omega)]; exact hp : (l.take j)[j - 1]? = some p))
theorem zc5 {w : World} {B : Nat} {A : Option Addr} {l : List Int} (h : Has w B A (zS l)) (k : Nat) : Has w B A (zS (l.take k)) := by rw [zoK]; exact h.take k
theorem zet : Tryz.prog.underlying 22 = some (.slice (Tryz.prog.elem 22)) := by kernel_rfl
theorem zeV (w : World) : (sizeOf (Tryz.prog.elem 22)).run Tryz.prog w = .ok 1 w := by kernel_rfl
theorem zcu (A : Option Addr) (n c t : Nat) (ht : t ≤ n) (hc : n ≤ c) (W : World) : (Instr.slice 22 (.slice A n c) none (some (.int .i64 (t : Int))) none).run Tryz.prog W = .ok (.slice A t c) W := by
 rw [run_slice_h (P := Tryz.prog) (w := W) (t := 22) (ht := zet) A n c .i64 (t : Int) (by omega) (by omega), zeV];simp only [Result.andThen, sliced, Int.toNat_natCast, Nat.zero_mul, zlj, Nat.sub_zero, ite_self]
theorem zon {w : World} {A : Option Addr} {n c B : Nat} {l : List Int} {v : Int} (hl : Has w B A (zS l)) (hB : B ≤ w.heap.size) (hn : l.length = n) (hsm : n ≤ maxLen) :
 Calls Tryz.prog 108 #[.slice A n c, .int .i64 v] w fun e w' => e = .returned (.int .i64 (plc l v)) ∧ Fr w w' := by
 have Hl := zb hl;have Hn := zb hn;have hww := ze w;have hnm2 : (n : Int) ≤ 9223372036854775807 := by simp only [maxLen] at hsm; omega
 clear hl hn;go_enter Tryz.func108, Tryz.ntmps108;go_wp2_with fail
 go_loopg [8] n (fun g s8 wr => ∃ j : Nat, j + g = n ∧ s8 = .int .i64 j ∧ Hid (Fr w wr) ∧ Hid (v ∉ l.take j))
 case atStart => exact ⟨0, by omega, rfl, zb hww, zb (by simp)⟩
 case round =>
  obtain ⟨j, hj, rfl, hW, hno⟩ := hrel
  by_cases hlt : j < n
  ·have hm : l[j]? = some (l[j]'(by rw [Hn.out]; exact hlt)) := List.getElem?_eq_getElem _
   generalize l[j]'(by rw [Hn.out]; exact hlt) = x at hm;obtain ⟨b, off, rfl, hb, hc⟩ := Hl.out j _ (zdu hm);have hWW := hW.out;have cell : wr.cell? ⟨b, off + j, none⟩ = some (.int .i64 x) := (hWW.cell (by show b < w.heap.size; omega)).trans hc;have hjz : (j : Int) < (n : Int) := by omega
   have Hm := zb hm;clear hm hc hlt
   by_cases hx : v = x
   ·have hxe : (v == x) = true := by simp [hx]
    have He : Hid (plc l v = (j : Int)) := zb (zfZ (by rw [hx]; exact Hm.out) hno.out);clear hx;go_wp2_with fail;go_ret;rw [He.out];exact ⟨rfl, hWW⟩
   ·have hxe : (v == x) = false := by simp [hx]
    have Hx := zb hx;clear hx;go_wp2_with fail
    go_roundg (gk - 1)
    case measure => omega
    case rel => exact ⟨j + 1, by omega, rfl, hW, zb ((zfX Hm.out).2 ⟨hno.out, Hx.out⟩)⟩
  ·have hjn : j = n := by omega
   have hjz : ¬ (j : Int) < (n : Int) := by omega
   have He : Hid (plc l v = -1) := zb (zgm (by have := hno.out; rwa [List.take_of_length_le (by rw [Hn.out]; omega)] at this));clear hlt hjn;go_wp2_with fail;go_ret;rw [He.out];exact ⟨rfl, hW.out⟩
theorem zjg {W0 w : World} {A : Option Addr} {n c B : Nat} {l : List Int} {v : Int} (hl : Has w B A (zS l)) (hB : B ≤ w.heap.size) (hn : l.length = n) (hsm : n ≤ maxLen) (h0 : Fr W0 w) :
 Calls Tryz.prog 89 #[.slice A n c, .int .i64 v] w fun e w' => e = .returned (.int .i64 (plc l v)) ∧ Fr W0 w' := by
 have cI := fun W h => zon (v := v) (c := c) (hl.fr hB (show Fr w W from h)) (Nat.le_trans hB h.size) hn hsm;have H0 := zb h0;have rr := ze w;generalize plc l v = q at *;clear hl hn h0;go_enter Tryz.func89, Tryz.ntmps89
 go_wp2_with (first
  | (go_at_call 108; (with_reducible refine (cI _ rr).mono ?_); rintro e w1 ⟨rfl, h1⟩)
  | fail)
 go_ret;exact ⟨rfl, za H0.out h1⟩
end
section
attribute [local go_sem ↓] zt zw
set_option maxHeartbeats 4000000 in
theorem zoM {w : World} {A : Option Addr} {n c B : Nat} {ps : List RK} (hl : Has w B A (zm kc ps)) (hB : B ≤ w.heap.size) (hn : ps.length = n) (hsm : n ≤ 100000) (wl : WfK ps) :
 Calls Tryz.prog 106 #[.slice A n c] w fun e w' => e = .returned (.bool (ladB ps)) ∧ Fr w w' := by
 have Hl := zb hl;have Hn := zb hn;have Hwl := zb wl;clear hl hn wl;go_enter Tryz.func106, Tryz.ntmps106;go_wp2_with fail
 go_loopg [7] n (fun g s7 wr => ∃ j : Nat, j + g = n ∧ s7 = .int .i64 j ∧ Hid (Fr w wr) ∧ Hid (OkP (ps.take j)))
 case atStart => exact ⟨0, by omega, rfl, zb (ze w), zb OkP.nil⟩
 case round =>
  obtain ⟨j, hj, rfl, hF, hok⟩ := hrel
  by_cases hlt : j < n
  ·have hm : ps[j]? = some (ps[j]'(by rw [Hn.out]; exact hlt)) := List.getElem?_eq_getElem _
   generalize ps[j]'(by rw [Hn.out]; exact hlt) = m at hm;obtain ⟨b, off, rfl, hb1, hr⟩ := zJ Hl.out (zdX ps) (by decide) (by intro e; rw [e] at hm; simp at hm);have wm := Hwl.out m (List.mem_of_getElem? hm);have lX0 := z9 zaf hr (zdX ps) (by omega) hm;have hF1 := hF.out;have hrr := ze wr;have hrD := zn hrr;have lX := fun W (h : Fr wr W) => lX0 W (za hF1 h);have hjz : (j : Int) < (n : Int) := by omega
   have cK := fun W0 W h => zgT (W0 := W0) (W := W) wm h
   have pv : 0 < j → okB m = true → ∃ p, ps[j - 1]? = some p ∧ (∀ W, Fr wr W → (ldS 33 (.pointer (some ⟨b, off + (j - 1) * 9, none⟩))).run Tryz.prog W = .ok (.agg (kc p).toArray) W) ∧ (∀ W0 W, Fr W0 W → Calls Tryz.prog 101 #[kv p, kv m] W fun e w' => e = .returned (.int .i64 (zaB p m)) ∧ Fr W0 w') ∧ IntKind.i64.wrap ((j : Int) - 1) = ((j - 1 : Nat) : Int) := by
    intro h0 ok;have hp : ps[j - 1]? = some (ps[j - 1]'(by rw [Hn.out]; omega)) := List.getElem?_eq_getElem _;generalize ps[j - 1]'(by rw [Hn.out]; omega) = p at hp;have gp := zlu hok.out h0 hp;exact ⟨p, hp, fun W h => z9 zaf hr (zdX ps) (by omega) hp W (za hF1 h), fun W0 W h => zeT gp.1 wm gp.2 ok h, by rw [IntKind.wrap_i64]; omega⟩
   clear lX0
   cases ok : okB m with
   | false =>
    have Hbad := zb (zko hm ok);rw [ok] at cK;clear hm hr hlt ok pv;have lP : ∀ W : World, Fr wr W → True := fun _ _ => trivial
    go_wp2_with (first
     | (refine zi (ds := kc m) zC rfl (.tmp 4) (.tmp 11) rfl wr.heap.size 0 rfl rfl (zl _) (zU _) (Arr.new wr (kc zr).toArray 33) (by rw [zl]; decide) (zk _ _ (Nat.le_of_eq rfl)) ?_; intro W5 hM5 hk5; have hF5 := hk5.fr (zf hF1 _) hF1.size; have hF6 := hk5.fr (zf hrr _) (Nat.le_refl _); clear hk5; have lM : ∀ W, Fr W5 W → (ldS 33 (.pointer (some ⟨wr.heap.size, 0, none⟩))).run Tryz.prog W = .ok (.agg (kc m).toArray) W := fun W h => zaf.ld (zl _) (hM5.below h hM5.lt); replace lX := fun (W : World) (h : Fr W5 W) => lX W (za hF6 h); replace lP := fun (W : World) (h : Fr W5 W) => lP W (za hF6 h); have h55 := ze W5; have hrD := zn h55; clear hM5 hF6)
     | fail)
    refine wp_region_noPanic ?_;refine wp_region_held_drew (S := fun w' => Fr W5 w') (by kernel_rfl) hrD (fun hHeld => ?_);change wpAnyH _ _ _ _ _ _ _ _ _;refine xto 0 ?_;refine xr 1 fun K hK0 => ?_;go_simp;refine (cK W5 _ (by assumption)).mono ?_;rintro e w7 ⟨rfl, zw7⟩;go_simp;refine xk hK0 zw7 ?_;clear hK0 K
    try simp only [xs, Act.put]
    refine xtb 2 true ?_;refine xtb 3 true ?_;refine xtn 4 ?_;refine xtn 5 ?_;refine xtn 6 ?_;refine xtn 7 ?_;refine xtn 8 ?_;refine xtn 9 ?_;refine xtn 10 ?_;refine xtn 11 ?_;refine xtn 12 ?_;refine xtn 13 ?_;refine xtn 14 ?_;refine xtn 15 ?_;refine xtb 16 true ?_;refine wpAnyH_done (by kernel_rfl) ?_ _;refine NoPanic.normal ?_;go_wp2_with fail;go_ret;rw [zj9 Hwl.out Hbad.out];exact ⟨rfl, za hF5 (by assumption)⟩
   | true =>
    rw [ok] at cK
    rcases Nat.eq_zero_or_pos j with h0 | h0
    ·have hgt : ¬ (0 < (j : Int)) := by omega
     have Hok2 := zb (zhv hm hok.out ⟨wm, ok⟩ (.inl h0));clear hm hr hlt ok pv h0;have lP : ∀ W : World, Fr wr W → True := fun _ _ => trivial
     go_wp2_with (first
      | (refine zi (ds := kc m) zC rfl (.tmp 4) (.tmp 11) rfl wr.heap.size 0 rfl rfl (zl _) (zU _) (Arr.new wr (kc zr).toArray 33) (by rw [zl]; decide) (zk _ _ (Nat.le_of_eq rfl)) ?_; intro W5 hM5 hk5; have hF5 := hk5.fr (zf hF1 _) hF1.size; have hF6 := hk5.fr (zf hrr _) (Nat.le_refl _); clear hk5; have lM : ∀ W, Fr W5 W → (ldS 33 (.pointer (some ⟨wr.heap.size, 0, none⟩))).run Tryz.prog W = .ok (.agg (kc m).toArray) W := fun W h => zaf.ld (zl _) (hM5.below h hM5.lt); replace lX := fun (W : World) (h : Fr W5 W) => lX W (za hF6 h); replace lP := fun (W : World) (h : Fr W5 W) => lP W (za hF6 h); have h55 := ze W5; have hrD := zn h55; clear hM5 hF6)
      | fail)
     refine wp_region_noPanic ?_;refine wp_region_held_drew (S := fun w' => Fr W5 w') (by kernel_rfl) hrD (fun hHeld => ?_);change wpAnyH _ _ _ _ _ _ _ _ _;refine xto 0 ?_;refine xr 1 fun K hK0 => ?_;go_simp;refine (cK W5 _ (by assumption)).mono ?_;rintro e w7 ⟨rfl, zw7⟩;go_simp;refine xk hK0 zw7 ?_;clear hK0 K
     try simp only [xs, Act.put]
     refine xtb 2 false ?_;refine xtb 3 false ?_;refine xto 4 ?_;refine xtb 5 false ?_;refine xtb 6 false ?_;refine xtn 7 ?_;refine xtn 8 ?_;refine xtn 9 ?_;refine xtn 10 ?_;refine xtn 11 ?_;refine xtn 12 ?_;refine xtn 13 ?_;refine xtn 14 ?_;refine xtb 15 false ?_;refine xtb 16 false ?_;refine wpAnyH_done (by kernel_rfl) ?_ _;refine NoPanic.normal ?_;go_wp2_with fail
     go_roundg (gk - 1)
     case measure => omega
     case rel => exact ⟨j + 1, by omega, rfl, zb (za hF5 (by assumption)), Hok2⟩
    ·have hgt : 0 < (j : Int) := by omega
     obtain ⟨p, hp, lP, cC, hjw⟩ := pv h0 ok;have hjl : (j : Int) - 1 < (n : Int) := by omega
     have hjl2 : j - 1 < n := by omega
     by_cases hcd : zu p < zu m
     ·have Hok2 := zb (zhv hm hok.out ⟨wm, ok⟩ (.inr ⟨p, hp, hcd⟩))
      have hq : ¬ (0 ≤ zaB p m) := fun h => by have := zbE.1 h; omega
      clear hm hr hlt ok pv h0 hp hcd
      go_wp2_with (first
       | (refine zi (ds := kc m) zC rfl (.tmp 4) (.tmp 11) rfl wr.heap.size 0 rfl rfl (zl _) (zU _) (Arr.new wr (kc zr).toArray 33) (by rw [zl]; decide) (zk _ _ (Nat.le_of_eq rfl)) ?_; intro W5 hM5 hk5; have hF5 := hk5.fr (zf hF1 _) hF1.size; have hF6 := hk5.fr (zf hrr _) (Nat.le_refl _); clear hk5; have lM : ∀ W, Fr W5 W → (ldS 33 (.pointer (some ⟨wr.heap.size, 0, none⟩))).run Tryz.prog W = .ok (.agg (kc m).toArray) W := fun W h => zaf.ld (zl _) (hM5.below h hM5.lt); replace lX := fun (W : World) (h : Fr W5 W) => lX W (za hF6 h); replace lP := fun (W : World) (h : Fr W5 W) => lP W (za hF6 h); have h55 := ze W5; have hrD := zn h55; clear hM5 hF6)
       | fail)
      refine wp_region_noPanic ?_;refine wp_region_held_drew (S := fun w' => Fr W5 w') (by kernel_rfl) hrD (fun hHeld => ?_);change wpAnyH _ _ _ _ _ _ _ _ _;refine xto 0 ?_;refine xr 1 fun K hK0 => ?_;go_simp;refine (cK W5 _ (by assumption)).mono ?_;rintro e w7 ⟨rfl, zw7⟩;go_simp;refine xk hK0 zw7 ?_;clear hK0 K
      try simp only [xs, Act.put]
      refine xtb 2 false ?_;refine xtb 3 false ?_;refine xto 4 ?_;refine xtb 5 true ?_;refine xtb 6 true ?_;refine xto 7 ?_;refine xto 8 ?_;refine xto 9 ?_;refine xto 10 ?_;refine xto 11 ?_;refine xto 12 ?_;refine xr 13 fun K hK0 => ?_;go_simp;refine (cC W5 _ (by assumption)).mono ?_;rintro e w8 ⟨rfl, zw8⟩;go_simp;refine xk hK0 zw8 ?_;clear hK0 K
      try simp only [xs, Act.put]
      refine xtb 14 false ?_;refine xtb 15 false ?_;refine xtb 16 false ?_;refine wpAnyH_done (by kernel_rfl) ?_ _;refine NoPanic.normal ?_;go_wp2_with fail
      go_roundg (gk - 1)
      case measure => omega
      case rel => exact ⟨j + 1, by omega, rfl, zb (za hF5 (by assumption)), Hok2⟩
     ·have Hbad := zb (zlv h0 hm hp hcd)
      have hq : 0 ≤ zaB p m := zbE.2 (by omega);clear hm hr hlt ok pv h0 hp hcd
      go_wp2_with (first
       | (refine zi (ds := kc m) zC rfl (.tmp 4) (.tmp 11) rfl wr.heap.size 0 rfl rfl (zl _) (zU _) (Arr.new wr (kc zr).toArray 33) (by rw [zl]; decide) (zk _ _ (Nat.le_of_eq rfl)) ?_; intro W5 hM5 hk5; have hF5 := hk5.fr (zf hF1 _) hF1.size; have hF6 := hk5.fr (zf hrr _) (Nat.le_refl _); clear hk5; have lM : ∀ W, Fr W5 W → (ldS 33 (.pointer (some ⟨wr.heap.size, 0, none⟩))).run Tryz.prog W = .ok (.agg (kc m).toArray) W := fun W h => zaf.ld (zl _) (hM5.below h hM5.lt); replace lX := fun (W : World) (h : Fr W5 W) => lX W (za hF6 h); replace lP := fun (W : World) (h : Fr W5 W) => lP W (za hF6 h); have h55 := ze W5; have hrD := zn h55; clear hM5 hF6)
       | fail)
      refine wp_region_noPanic ?_;refine wp_region_held_drew (S := fun w' => Fr W5 w') (by kernel_rfl) hrD (fun hHeld => ?_);change wpAnyH _ _ _ _ _ _ _ _ _;refine xto 0 ?_;refine xr 1 fun K hK0 => ?_;go_simp;refine (cK W5 _ (by assumption)).mono ?_;rintro e w7 ⟨rfl, zw7⟩;go_simp;refine xk hK0 zw7 ?_;clear hK0 K
      try simp only [xs, Act.put]
      refine xtb 2 false ?_;refine xtb 3 false ?_;refine xto 4 ?_;refine xtb 5 true ?_;refine xtb 6 true ?_;refine xto 7 ?_;refine xto 8 ?_;refine xto 9 ?_;refine xto 10 ?_;refine xto 11 ?_;refine xto 12 ?_;refine xr 13 fun K hK0 => ?_;go_simp;refine (cC W5 _ (by assumption)).mono ?_;rintro e w8 ⟨rfl, zw8⟩;go_simp;refine xk hK0 zw8 ?_;clear hK0 K
      try simp only [xs, Act.put]
      refine xtb 14 true ?_;refine xtb 15 true ?_;refine xtb 16 true ?_;refine wpAnyH_done (by kernel_rfl) ?_ _;refine NoPanic.normal ?_;go_wp2_with fail;go_ret;rw [zj9 Hwl.out Hbad.out];exact ⟨rfl, za hF5 (by assumption)⟩
  ·have hjn : j = n := by omega
   have hjz : ¬ (j : Int) < (n : Int) := by omega
   have hgood : OkP ps := by have := hok.out; rwa [List.take_of_length_le (by rw [Hn.out]; omega)] at this
   have He := zb (zk3 hgood);clear hlt hjn hgood;go_wp2_with fail;go_ret;rw [He.out];exact ⟨rfl, hF.out⟩
end
section
attribute [local go_sem ↓] zt zw
set_option maxHeartbeats 4000000 in
theorem zoI {w : World} {A2 : Option Addr} {nk ck Bk : Nat} {ks : List Int} (hk : Has w Bk A2 (zS ks)) (hBk : Bk ≤ w.heap.size) (hnk : ks.length = nk) (hsk : nk ≤ 100000) (hck : nk ≤ ck) :
 Calls Tryz.prog 105 #[.slice A2 nk ck] w fun e w' => e = .returned (.bool (zfo ks)) ∧ Fr w w' := by
 have Hk := zb hk;have Hnk := zb hnk;have rr := ze w;clear hk hnk
 by_cases h1 : (nk : Int) < 2
 ·have He : Hid (zfo ks = false) := zb (zfi fun h => by have := h.1; rw [Hnk.out] at this; omega)
  go_enter Tryz.func105, Tryz.ntmps105;go_wp2_with fail;go_ret;rw [He.out];exact ⟨rfl, rr⟩
 by_cases h2 : 4 < (nk : Int)
 ·have He : Hid (zfo ks = false) := zb (zfi fun h => by have := h.2.1; rw [Hnk.out] at this; omega)
  go_enter Tryz.func105, Tryz.ntmps105;go_wp2_with fail;go_ret;rw [He.out];exact ⟨rfl, rr⟩
 go_enter Tryz.func105, Tryz.ntmps105;go_wp2_with fail
 go_loopg [15] nk (fun g s5 wr => ∃ j : Nat, j + g = nk ∧ s5 = .int .i64 j ∧ Hid (Fr w wr) ∧ Hid (zfr (ks.take j)))
 case atStart => exact ⟨0, by omega, rfl, zb (ze w), zb ziM⟩
 case round =>
  obtain ⟨j, hj, rfl, hF, hok⟩ := hrel
  by_cases hlt : j < nk
  ·have hm : ks[j]? = some (ks[j]'(by rw [Hnk.out]; exact hlt)) := List.getElem?_eq_getElem _
   generalize ks[j]'(by rw [Hnk.out]; exact hlt) = x at hm;obtain ⟨b, off, rfl, hb, hc⟩ := Hk.out j _ (zdu hm);have hF1 := hF.out;have hrr := ze wr;have cell : wr.cell? ⟨b, off + j, none⟩ = some (.int .i64 x) := (hF1.cell (by show b < w.heap.size; omega)).trans hc;have hjz : (j : Int) < (nk : Int) := by omega
   have hsl := zcu (some ⟨b, off, none⟩) nk ck j (by omega) hck;have Hm := zb hm;have hlj : (ks.take j).length = j := by rw [List.length_take, Hnk.out]; omega
   have cP := fun W (h : Fr wr W) => zjg (W0 := wr) (v := x) (c := ck) (n := j) (zc5 (Hk.out.fr hBk (za hF1 h)) j) (Nat.le_trans hBk (za hF1 h).size) hlj (by unfold maxLen; omega) h;clear hm hc hlt hlj
   by_cases hx1 : x < 1
   ·have He : Hid (zfo ks = false) := zb (zfi fun h => zdt Hm.out (.inl hx1) h.2.2)
    clear cP hsl;go_wp2_with fail;go_ret;rw [He.out];exact ⟨rfl, hF1⟩
   by_cases hx2 : 256 ≤ x
   ·have He : Hid (zfo ks = false) := zb (zfi fun h => zdt Hm.out (.inr (.inl hx2)) h.2.2)
    clear cP hsl;go_wp2_with fail;go_ret;rw [He.out];exact ⟨rfl, hF1⟩
   by_cases hx3 : x ∈ ks.take j
   ·have He : Hid (zfo ks = false) := zb (zfi fun h => zdt Hm.out (.inr (.inr hx3)) h.2.2)
    have hq : 0 ≤ plc (ks.take j) x := plc_nn.2 hx3;generalize plc (ks.take j) x = q at *;clear hx3
    go_wp2_with (first
     | (go_at_call 89; (with_reducible refine (cP _ hrr).mono ?_); rintro e w1 ⟨rfl, hz1⟩)
     | fail)
    go_ret;rw [He.out];exact ⟨rfl, za hF1 hz1⟩
   ·have hq : ¬ 0 ≤ plc (ks.take j) x := fun h => hx3 (plc_nn.1 h)
    have Hok2 := zb (zji hok.out Hm.out (by omega) (by omega) hx3);generalize plc (ks.take j) x = q at *;clear hx3
    go_wp2_with (first
     | (go_at_call 89; (with_reducible refine (cP _ hrr).mono ?_); rintro e w1 ⟨rfl, hz1⟩)
     | fail)
    go_roundg (gk - 1)
    case measure => omega
    case rel => exact ⟨j + 1, by omega, rfl, zb (za hF1 hz1), Hok2⟩
  ·have hjn : j = nk := by omega
   have hjz : ¬ (j : Int) < (nk : Int) := by omega
   have hgood : zfr ks := by have := hok.out; rwa [List.take_of_length_le (by rw [Hnk.out]; omega)] at this
   have He : Hid (zfo ks = true) := zb (zlf ⟨by rw [Hnk.out]; omega, by rw [Hnk.out]; omega, hgood⟩);clear hlt hjn hgood hj hok;go_wp2_with fail;go_ret;rw [He.out];exact ⟨rfl, hF.out⟩
theorem zoz {w : World} {A A2 : Option Addr} {nk ck Bk n c B : Nat} {ks : List Int} {ps : List RK} (hk : Has w Bk A2 (zS ks)) (hBk : Bk ≤ w.heap.size) (hnk : ks.length = nk) (hsk : nk ≤ 100000) (hck : nk ≤ ck) (hl : Has w B A (zm kc ps)) (hB : B ≤ w.heap.size) (hn : ps.length = n) (hsm : n ≤ 100000) (wl : WfK ps) :
 Calls Tryz.prog 82 #[.slice A2 nk ck, .slice A n c] w fun e w' => e = .returned (.bool (zed ks ps)) ∧ Fr w w' := by
 have cB := fun W (h : Fr w W) => zoI (hk.fr hBk h) (Nat.le_trans hBk h.size) hnk hsk hck;have cL := fun W (h : Fr w W) => zoM (c := c) (hl.fr hB h) (Nat.le_trans hB h.size) hn hsm wl;have hd : zed ks ps = (zfo ks && decide (n + 1 = nk) && ladB ps) := by unfold zed; rw [hn, hnk]
 have rr := ze w;rw [hd]
 have e0 : zfo ks = true → 2 ≤ nk := fun h => by
  have := (zeL.1 h).1;omega
 clear hd hk hnk hl hn wl;generalize ladB ps = b2 at *;generalize zfo ks = b1 at *
 cases b1 with
 | false =>
  clear e0;go_enter Tryz.func82, Tryz.ntmps82
  go_wp2_with (first
   | (go_at_call 105; (with_reducible refine (cB _ rr).mono ?_); rintro e w1 ⟨rfl, h1⟩)
   | fail)
  go_ret;exact ⟨by simp, h1⟩
 | true =>
  have e1 := e0 rfl;clear e0
  by_cases h3 : n + 1 = nk
  ·have q1 : ((n : Int) == (nk : Int) - 1) = true := by simp; omega
   have q2 : decide (n + 1 = nk) = true := decide_eq_true h3;rw [q2];clear h3 q2;go_enter Tryz.func82, Tryz.ntmps82
   go_wp2_with (first
    | (go_at_call 105; (with_reducible refine (cB _ rr).mono ?_); rintro e w1 ⟨rfl, h1⟩)
    | (go_at_call 106; (with_reducible refine (cL _ h1).mono ?_); rintro e w2 ⟨rfl, h2⟩)
    | fail)
   go_ret;exact ⟨by simp, za h1 h2⟩
  ·have q1 : ((n : Int) == (nk : Int) - 1) = false := by simp; omega
   have q2 : decide (n + 1 = nk) = false := decide_eq_false h3;rw [q2];clear h3 q2;go_enter Tryz.func82, Tryz.ntmps82
   go_wp2_with (first
    | (go_at_call 105; (with_reducible refine (cB _ rr).mono ?_); rintro e w1 ⟨rfl, h1⟩)
    | fail)
   go_ret;exact ⟨by simp, h1⟩
end
section
def zbN : List RK → Int → Nat
 | [], _ => 0
 | p :: ps, c => if zu p ≤ c then zbN ps c + 1 else 0
theorem zhy : ∀ (ps : List RK) (c : Int), zbN ps c ≤ ps.length
 | [], _ => Nat.le_refl _
 | p :: ps, c => by
  have := zhy ps c;unfold zbN
  split <;> simp only [List.length_cons] <;> omega
theorem zgi : ∀ {ps : List RK} {c : Int} {j : Nat}, j < zbN ps c → (ps.map zu).getD j 0 ≤ c
 | [], _, _, h => by simp [zbN] at h
 | p :: ps, c, j, h => by
  unfold zbN at h
  split at h
  ·rename_i hp
   cases j with
   | zero => simpa using hp
   | succ j =>
    have := zgi (ps := ps) (c := c) (j := j) (by omega)
    simpa using this
  ·omega
theorem zgf : ∀ {ps : List RK} {c : Int} {j : Nat}, OkP ps → zbN ps c ≤ j → j < ps.length → c < (ps.map zu).getD j 0
 | [], _, _, _, _, h => by simp at h
 | p :: ps, c, j, hp, h, hl => by
  unfold zbN at h
  split at h
  ·cases j with
   | zero => omega
   | succ j =>
    have := zgf (ps := ps) (c := c) (j := j) hp.tail (by omega) (by simpa using hl)
    simpa using this
  ·rename_i hc
   cases j with
   | zero => simp; omega
   | succ j =>
    have := hp.lt (i := 0) (j := j + 1) (by omega) hl;rw [show (List.map zu (p :: ps)).getD 0 0 = zu p from rfl] at this;omega
theorem betw_kid {ps : List RK} (h : OkP ps) {i : Nat} (hi : i ≤ ps.length) (c : Int) : zf9 (ps.map zu) i c = decide (i = zbN ps c) := by
 have hk := zhy ps c;rw [Bool.eq_iff_iff, decide_eq_true_iff];unfold zf9;simp only [Bool.and_eq_true, Bool.or_eq_true, decide_eq_true_iff, List.length_map];constructor
 ·rintro ⟨h1, h2⟩
  rcases Nat.lt_trichotomy i (zbN ps c) with hlt | heq | hgt
  ·exfalso
   have := zgi (ps := ps) (c := c) hlt
   rcases h2 with h2 | h2 <;> omega
  ·exact heq
  ·exfalso
   have := zgf (c := c) (j := i - 1) h (by omega) (by omega)
   rcases h1 with h1 | h1 <;> omega
 ·rintro rfl
  refine ⟨?_, ?_⟩
  ·by_cases h0 : zbN ps c = 0
   ·exact .inl h0
   ·exact .inr (zgi (by omega))
  ·by_cases h0 : ps.length ≤ zbN ps c
   ·exact .inl h0
   ·exact .inr (zgf h (Nat.le_refl _) (by omega))
theorem znJ {l : List RM} {ps : List RK} (h : OkP ps) {i : Nat} (hi : i ≤ ps.length) : zah l ps i = l.filter fun m => decide (i = zbN ps (cd m)) := by
 unfold zah;rw [if_neg (by omega)]
 congr 1
 funext m
 exact betw_kid h hi _
end
section
attribute [local go_sem ↓] zt zw
theorem zfL (w : World) (k : RK) : ∃ Z, w.alloc (.cells (kc k).toArray 33) = Z ∧ Fr w Z ∧ Fr Z Z ∧ (∀ W, Fr Z W → (ldS 33 (.pointer (some ⟨w.heap.size, 0, none⟩))).run Tryz.prog W = .ok (.agg (kc k).toArray) W) :=
 ⟨_, rfl, zf (ze w) _, ze _, fun W h => zaf.ld (zl k) ((Arr.new w (kc k).toArray 33).below h (Arr.new w (kc k).toArray 33).lt)⟩
theorem znP {ps : List RK} {c : Int} {j : Nat} {p : RK} (op : OkP ps) (hp : ps[j]? = some p) : min (j + 1) (zbN ps c) = if zu p ≤ c then min j (zbN ps c) + 1 else min j (zbN ps c) := by
 have e : (ps.map zu).getD j 0 = zu p := by simp [List.getD, hp]
 have hj := (List.getElem?_eq_some_iff.1 hp).1
 split
 ·rename_i h
  have : j < zbN ps c := by
   rcases Nat.lt_or_ge j (zbN ps c) with h1 | h1
   ·exact h1
   ·have := zgf op h1 hj
    rw [e] at this;omega
  omega
 ·rename_i h
  have : zbN ps c ≤ j := by
   rcases Nat.lt_or_ge j (zbN ps c) with h1 | h1
   ·have := zgi h1
    rw [e] at this;omega
   ·exact h1
  omega
theorem kidN_end {ps : List RK} {c : Int} {n : Nat} (hn : ps.length = n) : min n (zbN ps c) = zbN ps c := by
 have := zhy ps c;omega
theorem zm2 {a b : RK} : zaB a b ≤ 0 ↔ zu a ≤ zu b := by
 unfold zaB
 rcases zcD (zu a) (zu b) with ⟨h, e⟩ | ⟨h, e⟩ | ⟨h, e⟩ <;> rw [e] <;> omega
set_option maxHeartbeats 2000000 in
theorem rkid_at {W0 w : World} {A : Option Addr} {n c B : Nat} {ps : List RK} {k : RK} (hl : Has w B A (zm kc ps)) (hB : B ≤ w.heap.size) (hn : ps.length = n) (hsm : n ≤ 100000) (op : OkP ps) (wk : k.wf) (ok : okB k = true) (h0 : Fr W0 w) :
 Calls Tryz.prog 10 #[.slice A n c, kv k] w fun e w' => e = .returned (.int .i64 (zbN ps (zu k) : Nat)) ∧ Fr W0 w' := by
 obtain ⟨Z, hZ, hF, hZZ, lk⟩ := zfL w k;have hlZ := zb (hl.fr hB hF);have hBZ : B ≤ Z.heap.size := Nat.le_trans hB hF.size;have Hn := zb hn;have Hop := zb op;have HF := zb (za h0 hF);clear hl hn op h0 hF hB;go_enter Tryz.func10, Tryz.ntmps10;go_wp2_with fail
 go_loopg [5, 6] n (fun g s5 s10 wr => ∃ j : Nat, j + g = n ∧ s10 = .int .i64 j ∧ (∃ m : Nat, s5 = .int .i64 m ∧ m ≤ j ∧ Hid (m = min j (zbN ps (zu k)))) ∧ Hid (Fr Z wr))
 case atStart => exact ⟨0, by omega, rfl, ⟨0, rfl, by omega, zb (by simp)⟩, zb hZZ⟩
 case round =>
  obtain ⟨j, hj, rfl, ⟨m, rfl, hmj, hm⟩, hW⟩ := hrel
  by_cases hlt : j < n
  ·have hp : ps[j]? = some (ps[j]'(by rw [Hn.out]; exact hlt)) := List.getElem?_eq_getElem _
   generalize ps[j]'(by rw [Hn.out]; exact hlt) = p at hp;obtain ⟨b, off, rfl, hb1, hr⟩ := zJ hlZ.out (zdX ps) (by decide) (by intro e; rw [e] at hp; simp at hp);have gp := Hop.out.good p (List.mem_of_getElem? hp);have lX0 := z9 zaf hr (zdX ps) (by omega) hp;have cC := fun W0 W h => zcF (W0 := W0) (W := W) gp.1 wk gp.2 ok h;have hWW := hW.out;have hrr := ze wr;have hrD := zn hrr;have lX := fun W (h : Fr wr W) => lX0 W (za hWW h);have lk2 := fun W (h : Fr wr W) => lk W (za hWW h);have hs := znP (c := zu k) Hop.out hp;rw [← hm.out] at hs;have hjz : (j : Int) < (n : Int) := by omega
   by_cases hc : zu p ≤ zu k
   ·rw [if_pos hc] at hs
    have Hs := zb hs;have hq : zaB p k ≤ 0 := zm2.2 hc;clear hp hr hlt hs hc gp hm lX0;go_wp2_with fail
    go_region_held3 (fun w' => Fr wr w') (first | exact hrD | assumption) (first | (go_at_call 26; (with_reducible refine (cC wr _ (by assumption)).mono ?_); rintro e w2 ⟨rfl, h2⟩))
    go_wp2_with fail
    go_roundg (gk - 1)
    case measure => omega
    case rel => exact ⟨j + 1, by omega, rfl, ⟨m + 1, rfl, by omega, zb Hs.out.symm⟩, zb (za hWW (by assumption))⟩
   ·rw [if_neg hc] at hs
    have Hs := zb hs;have hq : ¬ zaB p k ≤ 0 := fun h => hc (zm2.1 h);clear hp hr hlt hs hc gp hm lX0;go_wp2_with fail
    go_region_held3 (fun w' => Fr wr w') (first | exact hrD | assumption) (first | (go_at_call 26; (with_reducible refine (cC wr _ (by assumption)).mono ?_); rintro e w2 ⟨rfl, h2⟩))
    go_wp2_with fail
    go_roundg (gk - 1)
    case measure => omega
    case rel => exact ⟨j + 1, by omega, rfl, ⟨m, rfl, by omega, zb Hs.out.symm⟩, zb (za hWW (by assumption))⟩
  ·have hjn : j = n := by omega
   have hjz : ¬ (j : Int) < (n : Int) := by omega
   have He : Hid (m = zbN ps (zu k)) := zb (by rw [hm.out, hjn]; exact kidN_end Hn.out);clear hlt hjn hm;go_wp2_with fail;go_ret;rw [← He.out];exact ⟨rfl, za HF.out hW.out⟩
set_option maxHeartbeats 2000000 in
theorem zkT {W0 w : World} {A A2 : Option Addr} {n c B n2 c2 B2 : Nat} {l l2 : List Int} (hl : Has w B A (zS l)) (hB : B ≤ w.heap.size) (hn : l.length = n) (hsm : n ≤ 100000) (hl2 : Has w B2 A2 (zS l2)) (hB2 : B2 ≤ w.heap.size) (hn2 : l2.length = n2) (hsm2 : n2 ≤ 100000) (h0 : Fr W0 w) :
 Calls Tryz.prog 65 #[.slice A n c, .slice A2 n2 c2] w fun e w' => e = .returned (.bool (decide (l = l2))) ∧ Fr W0 w' := by
 have hww := ze w;have H0 := zb h0;clear h0
 by_cases hnn : n = n2
 ·subst hnn
  have Hl := zb hl;have Hn := zb hn;have Hl2 := zb hl2;have Hn2 := zb hn2;clear hl hn hl2 hn2;go_enter Tryz.func65, Tryz.ntmps65;go_wp2_with fail
  go_loopg [5] n (fun g s5 wr => ∃ j : Nat, j + g = n ∧ s5 = .int .i64 j ∧ Hid (Fr w wr) ∧ Hid (∀ t, t < j → l[t]? = l2[t]?))
  case atStart => exact ⟨0, by omega, rfl, zb hww, zb (fun t h => by omega)⟩
  case round =>
   obtain ⟨j, hj, rfl, hW, hno⟩ := hrel
   by_cases hlt : j < n
   ·have hm : l[j]? = some (l[j]'(by rw [Hn.out]; exact hlt)) := List.getElem?_eq_getElem _
    generalize l[j]'(by rw [Hn.out]; exact hlt) = m at hm;have hm2 : l2[j]? = some (l2[j]'(by rw [Hn2.out]; exact hlt)) := List.getElem?_eq_getElem _;generalize l2[j]'(by rw [Hn2.out]; exact hlt) = m2 at hm2;have hWW := hW.out;have hWD := zn hWW;obtain ⟨b, off, rfl, hb1, hr⟩ := Hl.out j _ (zdu hm);obtain ⟨b2, off2, rfl, hb2, hr2⟩ := Hl2.out j _ (zdu hm2);have cell1 : ∀ W, Fr w W → W.cell? ⟨b, off + j, none⟩ = some (.int .i64 m) := fun W h => (h.cell (by show b < w.heap.size; omega)).trans hr;have cell2 : ∀ W, Fr w W → W.cell? ⟨b2, off2 + j, none⟩ = some (.int .i64 m2) := fun W h => (h.cell (by show b2 < w.heap.size; omega)).trans hr2;clear hr hr2;have Hm := zb hm;have Hm2 := zb hm2;have hjz : (j : Int) < (n : Int) := by omega
    clear hm hm2 hlt
    by_cases hk : m = m2
    ·have Hk := zb hk
     have q1 : (m != m2) = false := by simp [hk]
     have q2 : (m == m2) = true := by simp [hk]
     clear hk;go_wp2_with fail
     go_region_held3 (fun w' => Fr w w') (first | exact hWD | assumption) (first | fail)
     rename_i hH;go_wp2_with fail
     go_roundg (gk - 1)
     case measure => omega
     case rel => exact ⟨j + 1, by omega, rfl, zb hH, zb (fun t ht => by
      by_cases e : t = j
      ·subst e
       rw [Hm.out, Hm2.out, Hk.out]
      ·exact hno.out t (by omega))⟩
    ·have Hf : Hid (decide (l = l2) = false) := zb (decide_eq_false (fun e => hk (by
      have := Hm.out;rw [e, Hm2.out] at this
      injection this with this
      exact this.symm)))
     have q1 : (m != m2) = true := by simpa using hk
     have q2 : (m == m2) = false := by simpa using hk
     clear hk;go_wp2_with fail
     go_region_held3 (fun w' => Fr w w') (first | exact hWD | assumption) (first | fail)
     rename_i hH;go_wp2_with fail;go_ret;rw [Hf.out];exact ⟨rfl, za H0.out hH⟩
   ·have hjn : j = n := by omega
    have hjz : ¬ (j : Int) < (n : Int) := by omega
    have Ht : Hid (decide (l = l2) = true) := zb (decide_eq_true (List.ext_getElem? fun t => by
     rcases Nat.lt_or_ge t n with h | h
     ·exact hno.out t (by omega)
     ·rw [List.getElem?_eq_none (by rw [Hn.out]; exact h), List.getElem?_eq_none (by rw [Hn2.out]; exact h)]))
    clear hlt hjn;go_wp2_with fail;go_ret;rw [Ht.out];exact ⟨rfl, za H0.out hW.out⟩
 ·have Hf : Hid (decide (l = l2) = false) := zb (decide_eq_false (fun e => hnn (by rw [← hn, ← hn2, e])))
  have e1 : ((n : Int) != (n2 : Int)) = true := by simp; omega
  have e2 : ((n : Int) == (n2 : Int)) = false := by simp; omega
  clear hl hn hl2 hn2 hnn;go_enter Tryz.func65, Tryz.ntmps65;go_wp2_with fail;go_ret;rw [Hf.out];exact ⟨rfl, za H0.out hww⟩
set_option maxHeartbeats 2000000 in
theorem zlr {W0 w : World} {A A2 : Option Addr} {n c B n2 c2 B2 : Nat} {l l2 : List RK} (hl : Has w B A (zm kc l)) (hB : B ≤ w.heap.size) (hn : l.length = n) (hsm : n ≤ 100000) (wl : WfK l) (hl2 : Has w B2 A2 (zm kc l2)) (hB2 : B2 ≤ w.heap.size) (hn2 : l2.length = n2) (hsm2 : n2 ≤ 100000) (wl2 : WfK l2) (h0 : Fr W0 w) :
 Calls Tryz.prog 66 #[.slice A n c, .slice A2 n2 c2] w fun e w' => e = .returned (.bool (decide (l = l2))) ∧ Fr W0 w' := by
 have hww := ze w;have H0 := zb h0;clear h0
 by_cases hnn : n = n2
 ·subst hnn
  have Hl := zb hl;have Hn := zb hn;have Hl2 := zb hl2;have Hn2 := zb hn2;have Hwl := zb wl;have Hwl2 := zb wl2;clear wl wl2;clear hl hn hl2 hn2;go_enter Tryz.func66, Tryz.ntmps66;go_wp2_with fail
  go_loopg [5] n (fun g s5 wr => ∃ j : Nat, j + g = n ∧ s5 = .int .i64 j ∧ Hid (Fr w wr) ∧ Hid (∀ t, t < j → l[t]? = l2[t]?))
  case atStart => exact ⟨0, by omega, rfl, zb hww, zb (fun t h => by omega)⟩
  case round =>
   obtain ⟨j, hj, rfl, hW, hno⟩ := hrel
   by_cases hlt : j < n
   ·have hm : l[j]? = some (l[j]'(by rw [Hn.out]; exact hlt)) := List.getElem?_eq_getElem _
    generalize l[j]'(by rw [Hn.out]; exact hlt) = m at hm;have hm2 : l2[j]? = some (l2[j]'(by rw [Hn2.out]; exact hlt)) := List.getElem?_eq_getElem _;generalize l2[j]'(by rw [Hn2.out]; exact hlt) = m2 at hm2;have hWW := hW.out;have hWD := zn hWW;obtain ⟨b, off, rfl, hb1, hr⟩ := zJ Hl.out (zdX l) (by decide) (by intro e; rw [e] at hm; simp at hm);obtain ⟨b2, off2, rfl, hb2, hr2⟩ := zJ Hl2.out (zdX l2) (by decide) (by intro e; rw [e] at hm2; simp at hm2);have lX := z9 zaf hr (zdX l) (by omega) hm;have lX2 := z9 zaf hr2 (zdX l2) (by omega) hm2;have wm := Hwl.out m (List.mem_of_getElem? hm);have wm2 := Hwl2.out m2 (List.mem_of_getElem? hm2);have qE := fun W => zjI wm wm2 W;clear hr hr2 wm wm2;have Hm := zb hm;have Hm2 := zb hm2;have hjz : (j : Int) < (n : Int) := by omega
    clear hm hm2 hlt
    by_cases hk : m = m2
    ·have Hk := zb hk
     rw [decide_eq_true hk] at qE;simp only [Bool.not_true] at qE;clear hk;go_wp2_with fail
     go_region_held3 (fun w' => Fr w w') (first | exact hWD | assumption) (first | fail)
     rename_i hH;go_wp2_with fail
     go_roundg (gk - 1)
     case measure => omega
     case rel => exact ⟨j + 1, by omega, rfl, zb hH, zb (fun t ht => by
      by_cases e : t = j
      ·subst e
       rw [Hm.out, Hm2.out, Hk.out]
      ·exact hno.out t (by omega))⟩
    ·have Hf : Hid (decide (l = l2) = false) := zb (decide_eq_false (fun e => hk (by
      have := Hm.out;rw [e, Hm2.out] at this
      injection this with this
      exact this.symm)))
     rw [decide_eq_false hk] at qE;simp only [Bool.not_false] at qE;clear hk;go_wp2_with fail
     go_region_held3 (fun w' => Fr w w') (first | exact hWD | assumption) (first | fail)
     rename_i hH;go_wp2_with fail;go_ret;rw [Hf.out];exact ⟨rfl, za H0.out hH⟩
   ·have hjn : j = n := by omega
    have hjz : ¬ (j : Int) < (n : Int) := by omega
    have Ht : Hid (decide (l = l2) = true) := zb (decide_eq_true (List.ext_getElem? fun t => by
     rcases Nat.lt_or_ge t n with h | h
     ·exact hno.out t (by omega)
     ·rw [List.getElem?_eq_none (by rw [Hn.out]; exact h), List.getElem?_eq_none (by rw [Hn2.out]; exact h)]))
    clear hlt hjn;go_wp2_with fail;go_ret;rw [Ht.out];exact ⟨rfl, za H0.out hW.out⟩
 ·have Hf : Hid (decide (l = l2) = false) := zb (decide_eq_false (fun e => hnn (by rw [← hn, ← hn2, e])))
  have e1 : ((n : Int) != (n2 : Int)) = true := by simp; omega
  have e2 : ((n : Int) == (n2 : Int)) = false := by simp; omega
  clear hl hn hl2 hn2 hnn;go_enter Tryz.func66, Tryz.ntmps66;go_wp2_with fail;go_ret;rw [Hf.out];exact ⟨rfl, za H0.out hww⟩
end
end Go.Proofs.YtmjjjdikpnhpiaaGreat
