/- Buffers in memory, one: what comparing comes to from a base world; 'sort.Search' with a closure; 'place'. -/
import Derived.Test.YtmjjjdikpnhpiaaGreatBuf0
import Derived.Test.YtmjjjdikpnhpiaaGreatKeyE
import Derived.Test.YtmjjjdikpnhpiaaGreatOwn
import Derived.Deep.LoopGhost
import Derived.Deep.RegionWith
import Derived.Deep.RegionHeld3
import Derived.Deep.Cut
import Derived.BigQuiet
import Derived.Deep.QuietTactic
import Derived.Laws.Externs
import Derived.Lib.LazyBuf
import Derived.Deep.RegionLaw
import Derived.Lib.SlBuf
import Derived.Test.YtmjjjdikpnhpiaaGreatMsgF
namespace Go.Proofs.YtmjjjdikpnhpiaaGreat
set_option linter.unusedVariables false
set_option linter.unusedSimpArgs false
set_option maxRecDepth 100000
open Go.RowKit
section
attribute [local go_sem ↓] zt zw
section
variable {W0 W : World} {a b : RK}
theorem zeT (wa : a.wf) (wb : b.wf) (oa : okB a = true) (ob : okB b = true) (hb : Fr W0 W) : Calls Tryz.prog 101 #[kv a, kv b] W fun e w' => e = .returned (.int .i64 (zaB a b)) ∧ Fr W0 w' := (zkq a b wa wb (za1 oa) (za1 ob) W).mono fun _ _ ⟨he, hw⟩ => ⟨he, za hb (hw.fr)⟩
theorem zcF (wa : a.wf) (wb : b.wf) (oa : okB a = true) (ob : okB b = true) (hb : Fr W0 W) : Calls Tryz.prog 26 #[kv a, kv b] W fun e w' => e = .returned (.int .i64 (zaB a b)) ∧ Fr W0 w' := (zdQ a b wa wb oa ob W).mono fun _ _ ⟨he, hw⟩ => ⟨he, za hb hw⟩
theorem zbE : 0 ≤ zaB a b ↔ zu b ≤ zu a := by
 unfold zaB
 rcases zcD (zu a) (zu b) with ⟨h, h2⟩ | ⟨h, h2⟩ | ⟨h, h2⟩ <;> omega
theorem zjF : 0 < zaB a b ↔ zu b < zu a := by
 unfold zaB
 rcases zcD (zu a) (zu b) with ⟨h, h2⟩ | ⟨h, h2⟩ | ⟨h, h2⟩ <;> omega
theorem zfc : zaB a b < 0 ↔ zu a < zu b := by
 unfold zaB
 rcases zcD (zu a) (zu b) with ⟨h, h2⟩ | ⟨h, h2⟩ | ⟨h, h2⟩ <;> omega
theorem zjJ (wa : a.wf) (wb : b.wf) (oa : okB a = true) (ob : okB b = true) : zaB a b = 0 ↔ a = b := by
 unfold zaB
 rcases zcD (zu a) (zu b) with ⟨h, h2⟩ | ⟨h, h2⟩ | ⟨h, h2⟩
 ·exact ⟨fun e => by omega, fun e => by rw [e] at h; omega⟩
 ·exact ⟨fun e => by omega, fun e => by rw [e] at h; omega⟩
 ·exact ⟨fun _ => zcI wa wb (za1 oa) (za1 ob) h, fun e => h2⟩
end
def WfM (l : List RM) : Prop := ∀ m ∈ l, m.wf
theorem zcq.wfm {l : List RM} (h : zcq l) : WfM l := fun m hm => (h m hm).1
theorem WfM.wid {l : List RM} (h : WfM l) : Wid mc 29 l := fun a ha => zP (h a ha).val.hl
theorem za8 {l : List RM} {j : Nat} {m : RM} (h : l[j]? = some m) : m ∈ l := by
 obtain ⟨_, e⟩ := List.getElem?_eq_some_iff.1 h;rw [← e]; exact List.getElem_mem _
theorem zda (l : List RM) : One (zm mc l) := zlU zay l
set_option maxHeartbeats 4000000 in
theorem znD (n : Nat) (p : Nat → Bool) (cb : Array Value) (w0 w : World) (hb : Fr w0 w) (hsz : n < 4611686018427387904)
 (hf : ∀ (W : World) (i : Nat), Fr w0 W → i < n → Calls Tryz.prog 100 (#[.int .i64 i] ++ cb) W fun e w' => e = .returned (.bool (p i)) ∧ Fr w0 w')
 (hmono : ∀ a b, a ≤ b → b < n → p a = true → p b = true) :
 Calls Tryz.prog 99 #[.int .i64 n, .func (.func 100) #[] cb] w fun e w' => ∃ lo : Nat, e = .returned (.int .i64 lo) ∧ lo ≤ n ∧ (∀ t, t < lo → p t = false) ∧ (∀ t, lo ≤ t → t < n → p t = true) ∧ Fr w0 w' := by
 have HF := zb hf;have M := zb hmono;have HB := zb hb;clear hf hmono hb;go_enter Tryz.func99, Tryz.ntmps99
 go_wp2
 go_loopg [5, 6] n (fun kx s5 s6 wr => ∃ lo hi : Nat, s5 = .int .i64 lo ∧ s6 = .int .i64 hi ∧ lo ≤ hi ∧ hi ≤ n ∧ hi - lo ≤ kx ∧ Hid (Fr w0 wr) ∧ Hid ((∀ t, t < lo → p t = false) ∧ (∀ t, hi ≤ t → t < n → p t = true)))
 case atStart => exact ⟨0, n, rfl, rfl, Nat.zero_le _, Nat.le_refl _, by omega, HB, zb ⟨fun t ht => absurd ht (Nat.not_lt_zero _), fun t h1 h2 => by omega⟩⟩
 case round =>
  obtain ⟨lo, hi, rfl, rfl, hlh, hin, hg, hF, I⟩ := hrel
  by_cases hlt : lo < hi
  ·have hc := HF.out wr ((lo + hi) / 2) hF.out (by omega)
   rw [show (((lo + hi) / 2 : Nat) : Int) = ((lo : Int) + (hi : Int)) / 2 by omega] at hc
   cases hp : p ((lo + hi) / 2) <;> rw [hp] at hc
   ·have HP := zb hp
    clear hp;go_wp2_with fail;refine hc.mono ?_;rintro e w' ⟨rfl, hF2⟩;go_wp2_with fail
    go_roundg (hi - ((lo + hi) / 2 + 1))
    case measure => omega
    case rel =>
     exact ⟨(lo + hi) / 2 + 1, hi, by rw [show ((lo : Int) + (hi : Int)) / 2 + 1 = (((lo + hi) / 2 + 1 : Nat) : Int) by omega], rfl, by omega, hin, Nat.le_refl _, zb hF2, zb ⟨fun t ht => (by
      cases h : p t with
      | false => rfl
      | true => have := M.out t ((lo + hi) / 2) (by omega) (by omega) h; rw [HP.out] at this; cases this), I.out.2⟩⟩
   ·have HP := zb hp
    clear hp;go_wp2_with fail;refine hc.mono ?_;rintro e w' ⟨rfl, hF2⟩;go_wp2_with fail
    go_roundg ((lo + hi) / 2 - lo)
    case measure => omega
    case rel =>
     exact ⟨lo, (lo + hi) / 2, rfl, by rw [show ((lo : Int) + (hi : Int)) / 2 = (((lo + hi) / 2 : Nat) : Int) by omega], by omega, by omega, Nat.le_refl _, zb hF2, zb ⟨I.out.1, fun t ht htn => M.out ((lo + hi) / 2) t ht htn HP.out⟩⟩
  ·obtain rfl : hi = lo := by omega
   go_wp2
   go_ret;exact ⟨hi, rfl, hin, I.out.1, fun t h1 h2 => I.out.2 t h1 h2, hF.out⟩
set_option maxHeartbeats 4000000 in
theorem place_fn {w0 W : World} {A : Option Addr} {n c B ba kb : Nat} {l : List RM} {k : RK} (hba : w0.cell? ⟨ba, 0, none⟩ = some (.slice A n c)) (hbl : ba < w0.heap.size) (hk : Arr w0 kb 33 (kc k).toArray) (wk : k.wf) (ok : okB k = true)
 (hl : Has w0 B A (zm mc l)) (hB : B ≤ w0.heap.size) (hn : l.length = n) (gl : ∀ m ∈ l, m.wf ∧ okM m = true) {j : Nat} {m : RM} (hm : l[j]? = some m) (hb : Fr w0 W) :
 Calls Tryz.prog 100 #[.int .i64 j, .pointer (some ⟨ba, 0, none⟩), .pointer (some ⟨kb, 0, none⟩)] W fun e w' => e = .returned (.bool (decide (0 ≤ zaB m.key k))) ∧ Fr w0 w' := by
 have hw : Wid mc 29 l := fun a ha => zP (gl a ha).1.val.hl;have hjn : j < n := by rw [← hn]; exact (List.getElem?_eq_some_iff.1 hm).1
 obtain ⟨b, off, rfl, hb1, hr⟩ := zJ hl hw (by decide) (by intro e; rw [e] at hm; simp at hm);have hbs : b < w0.heap.size := by omega
 have gm := gl m (za8 hm);have lK := zak zaf hr hw hbs hm (zcO m) (zl _);have lk : ∀ W, Fr w0 W → (ldS 33 (.pointer (some ⟨kb, 0, none⟩))).run Tryz.prog W = .ok (.agg (kc k).toArray) W := fun W h => zaf.ld (zl k) (hk.below h hk.lt);have lb : ∀ W, Fr w0 W → W.cell? ⟨ba, 0, none⟩ = some (.slice (some ⟨b, off, none⟩) n c) := fun W h => (h.cell hbl).trans hba;have cC := fun W h => zeT (W0 := w0) (W := W) gm.1.key wk (zaH gm.2) ok h;have hbd := zn hb;have hjz : (j : Int) < (n : Int) := by omega
 generalize zaB m.key k = r at *;clear gm gl hl hm hw hr hk hn hjn;go_enter Tryz.func100, Tryz.ntmps100;go_wp2_with fail
 go_region_held3 (fun w' => Fr w0 w') (first | exact hbd | assumption)
  (first | (go_at_call 101; (with_reducible refine (cC _ (by assumption)).mono ?_); rintro e w9 ⟨rfl, hz⟩))
 rename_i hH
 go_wp2
 go_ret;exact ⟨rfl, hH⟩
end
section
attribute [local go_sem ↓] zt zw
theorem zk5 (w : World) (A : Option Addr) (n c : Nat) (k : RK) : ∃ Z, (w.alloc (.cells #[.slice A n c] 25)).alloc (.cells (kc k).toArray 33) = Z ∧ Fr w Z ∧ Fr Z Z ∧ Arr Z w.heap.size 25 #[.slice A n c] ∧ Arr Z (w.heap.size + 1) 33 (kc k).toArray ∧ Z.heap.size = w.heap.size + 1 + 1 := by
 refine ⟨_, rfl, zf (zf (ze w) _) _, ze _, Arr.alloc (Arr.new w _ _) _, zbr _ _ _ _ (by simp), by simp⟩
set_option maxHeartbeats 4000000 in
theorem zh5 {w : World} {A : Option Addr} {n c B : Nat} {l : List RM} {k : RK} (hl : Has w B A (zm mc l)) (hB : B ≤ w.heap.size) (hn : l.length = n) (hsm : n ≤ 1000000) (ol : OkL l) (wk : k.wf) (ok : okB k = true) :
 Calls Tryz.prog 76 #[.slice A n c, kv k] w fun e w' => e = .returned (.tuple #[.int .i64 (zaS l (zu k) : Nat), .bool (zaj l k).isSome]) ∧ Fr w w' := by
 obtain ⟨Z, hZ, hF, hZZ, hA, hK, hS⟩ := zk5 w A n c k;have hlZ := hl.below (hF.mono hB);have hBZ : B ≤ Z.heap.size := by omega
 have gl := ol.good;have hw := gl.wfm.wid
 have cS := znD n (fun i => match l[i]? with | some m => decide (0 ≤ zaB m.key k) | none => true) #[.pointer (some ⟨w.heap.size, 0, none⟩), .pointer (some ⟨w.heap.size + 1, 0, none⟩)] Z Z hZZ (by omega)
  (fun W i hb hi => by
   have hm : l[i]? = some (l[i]'(by omega)) := List.getElem?_eq_getElem _;rw [hm];exact place_fn (hA.cell 0) hA.lt hK wk ok hlZ hBZ hn gl hm hb)
  (fun a b hab hb hp => by
   have ha' : l[a]? = some (l[a]'(by omega)) := List.getElem?_eq_getElem _;have hb' : l[b]? = some (l[b]'(by omega)) := List.getElem?_eq_getElem _;simp only [ha', hb', decide_eq_true_eq, zbE] at hp ⊢
   rcases Nat.lt_or_ge a b with h | h
   ·have := List.pairwise_iff_getElem.1 ol.asc a b (by omega) (by omega) h
    unfold cd at this;omega
   ·have : a = b := by omega
    subst this;exact hp)
 have lk : ∀ W, Fr Z W → (ldS 33 (.pointer (some ⟨w.heap.size + 1, 0, none⟩))).run Tryz.prog W = .ok (.agg (kc k).toArray) W := fun W h => zaf.ld (zl k) (hK.below h hK.lt);have lb : ∀ W, Fr Z W → W.cell? ⟨w.heap.size, 0, none⟩ = some (.slice A n c) := fun W h => (h.cell hA.lt).trans (hA.cell 0);have Hn := zb hn;have Hol := zb ol;have Hw := zb hw;have Hl := zb hlZ;have Hwk := zb wk;have Hok := zb ok;have Hgl := zb gl;clear hn ol hw hl hlZ gl hA hK wk ok;go_enter Tryz.func76, Tryz.ntmps76;go_wp2_with fail;refine cS.mono ?_;rintro e W ⟨lo, rfl, hlo, h1, h2, hW⟩
 have elo : lo = zaS l (zu k) := by
  refine zjd Hol.out (by rw [Hn.out]; exact hlo) ?_ ?_
  ·intro t m ht hm
   have h := h1 t ht;simp only [hm, decide_eq_false_iff_not, zbE] at h;unfold cd;omega
  ·intro t m ht hm
   have h := h2 t ht (by rw [← Hn.out]; exact (List.getElem?_eq_some_iff.1 hm).1);simp only [hm, decide_eq_true_eq, zbE] at h;exact h
 have hf := zim Hol.out Hwk.out Hok.out;rw [← elo] at hf;have Elo := zb elo;clear h1 h2 elo cS;have hWD := zn hW
 by_cases hlt : lo < n
 ·have hm : l[lo]? = some (l[lo]'(by rw [Hn.out]; exact hlt)) := List.getElem?_eq_getElem _
  generalize l[lo]'(by rw [Hn.out]; exact hlt) = m at hm;rw [hm] at hf;obtain ⟨b, off, rfl, hb1, hr⟩ := zJ Hl.out Hw.out (by decide) (by intro e; rw [e] at hm; simp at hm);have hbs : b < Z.heap.size := by omega
  have gm := Hgl.out m (za8 hm);have lK := zak zaf hr Hw.out hbs hm (zcO m) (zl _);have qE := fun W => zcH gm.1.key Hwk.out W;have ef : (zaj l k).isSome = decide (m.key = k) := by rw [hf]; by_cases e : m.key = k <;> simp [e]
  have Ef := zb ef;have hjz : (lo : Int) < (n : Int) := by omega
  clear hf hm ef gm hr hlt hlo;generalize decide (m.key = k) = q at *;go_wp2_with fail
  go_region_held3 (fun w' => Fr Z w') (first | exact hWD | assumption) (first | fail)
  rename_i hH
  go_wp2
  go_ret2
  exact ⟨by rw [← Elo.out, Ef.out]; rfl, za hF hH⟩
 ·have hnone : l[lo]? = none := List.getElem?_eq_none (by rw [Hn.out]; omega)
  rw [hnone] at hf;have ef : (zaj l k).isSome = false := by rw [hf]; rfl
  have Ef := zb ef;have hjz : ¬ (lo : Int) < (n : Int) := by omega
  have hjd : decide (lo < n) = false := by simpa using hlt
  clear hf hnone ef hlo;go_wp2_with fail
  go_region
  all_goals go_wp2
  all_goals go_ret2
  all_goals exact ⟨by rw [← Elo.out, Ef.out]; rfl, za hF (zn hW)⟩
end
section
attribute [local go_sem ↓] zt zw
theorem ze3 : zgM Tryz.prog 64 29 64 := zgM.of (z := mm za0) (by kernel_rfl) (by kernel_rfl) (by kernel_rfl) rfl
theorem za9 : Tryz.prog.underlying 25 = some (.slice 64) := Tryz.underlying25
theorem zkt (A : Option Addr) (n c : Nat) (w : World) : (binOp .eql 25 (.slice A n c) (.slice none 0 0)).run Tryz.prog w = .ok (.bool A.isNone) w := by
 exact run_eql_slice_nil w _ _ A n c za9
abbrev zaC (w : World) (B : Nat) (A : Option Addr) (c : Nat) (l : List RM) : Prop := Own w B 64 29 A l.length c (zm mc l)
set_option maxHeartbeats 4000000 in
theorem ziw {w : World} {A : Option Addr} {n c B : Nat} {l : List RM} (hl : Has w B A (zm mc l)) (hB : B ≤ w.heap.size) (hn : l.length = n) (hsm : n ≤ 1000000) (wl : WfM l) :
 Calls Tryz.prog 50 #[.slice A n c] w fun e w' => ∃ A' c', e = .returned (.slice A' n c') ∧ zaC w' w.heap.size A' c' l ∧ Fr w w' := by
 have hlen := zaa wl.wid
 cases A with
 | none =>
  have h0 := hl.none_nil
  have hl0 : l = [] := by
   rw [h0] at hlen;simp at hlen;exact List.eq_nil_of_length_eq_zero (by omega)
  subst hl0;simp at hn;subst hn;have hq := zkt none 0 c;simp only [Option.isNone_none] at hq;clear hl hlen h0;go_enter Tryz.func50, Tryz.ntmps50;go_wp2_with fail;go_ret;exact ⟨none, 0, rfl, Own.nil _ _ _ _, ze w⟩
 | some a =>
  subst hn;have ho : Own (w.alloc (.cells #[] 64)) w.heap.size 64 29 (some ⟨w.heap.size, 0, none⟩) 0 0 (zm mc ([] : List RM)) := Own.lit w w.heap.size 64 #[] 0 29 (Nat.le_refl _) (Nat.zero_le _) rfl;have hl2 := hl.below ((zf (ze w) (.cells #[] 64)).mono hB);have hq := zkt (some a) l.length c;simp only [Option.isNone_some] at hq;clear hl;go_enter Tryz.func50, Tryz.ntmps50
  go_wp2_with (first
   | (refine zao ze3 za9 (by decide) rfl (.tmp 5) (.tmp 6) rfl (some ⟨w.heap.size, 0, none⟩) 0 0 [] rfl ho B (some a) l.length c l rfl hlen hl2 (zda l) (by simp only [maxLen]; omega) (by omega) (by simp) ?_; intro A' c' w' h1 h2 h3)
   | fail)
  go_ret;refine ⟨A', c', by simp, by simpa using h1, zat (zf (ze w) _) ho h2 (by simp) (Nat.le_refl _)⟩
theorem zho (w : World) : (sizeOf (Tryz.prog.elem 25)).run Tryz.prog w = .ok 29 w := by kernel_rfl
theorem zhA : Tryz.prog.underlying 25 = some (.slice (Tryz.prog.elem 25)) := by kernel_rfl
def zia (A : Option Addr) (m t : Nat) : Option Addr := if m = t then A else A.map (·.add (t * 29))
theorem zci {g o m t : Nat} (h : t < m) : zia (some ⟨g, o, none⟩) m t = some ⟨g, o + t * 29, none⟩ := by
 unfold zia;rw [if_neg (by omega)];simp [Addr.add_lit]
theorem zdW (A : Option Addr) (n c t : Nat) (ht : t ≤ c) (W : World) : (Instr.slice 25 (.slice A n c) none (some (.int .i64 (t : Int))) none).run Tryz.prog W = .ok (.slice A t c) W := by
 rw [run_slice_h (P := Tryz.prog) (w := W) (t := 25) (ht := zhA) A n c .i64 (t : Int) (by omega) (by omega), zho];have h0 : A.map (·.add 0) = A := by cases A <;> simp [Addr.add]
 simp only [Result.andThen, sliced, Int.toNat_natCast, Nat.zero_mul, h0, Nat.sub_zero, ite_self]
theorem zbk (A : Option Addr) (n c t : Nat) (ht : t ≤ n) (W : World) : (Instr.slice 25 (.slice A n c) (some (.int .i64 (t : Int))) none none).run Tryz.prog W = .ok (.slice (zia A c t) (n - t) (c - t)) W := by
 rw [run_slice_l (P := Tryz.prog) (w := W) (t := 25) (ht := zhA) A n c .i64 (t : Int) (by omega) (by omega), zho];simp only [Result.andThen, sliced, Int.toNat_natCast, zia]
theorem ziq (A : Option Addr) (n c l h m : Nat) (h1 : l ≤ h) (h2 : h ≤ m) (h3 : m ≤ c) (W : World) : (Instr.slice 25 (.slice A n c) (some (.int .i64 (l : Int))) (some (.int .i64 (h : Int))) (some (.int .i64 (m : Int)))).run Tryz.prog W = .ok (.slice (zia A m l) (h - l) (m - l)) W := by
 rw [run_slice_lhm (P := Tryz.prog) (w := W) (t := 25) (ht := zhA) A n c .i64 .i64 .i64 (l : Int) (h : Int) (m : Int) (by omega) (by omega) (by omega) (by omega), zho];simp only [Result.andThen, sliced, Int.toNat_natCast, zia]
theorem zfw (A : Option Addr) (n c h m : Nat) (h2 : h ≤ m) (h3 : m ≤ c) (W : World) : (Instr.slice 25 (.slice A n c) none (some (.int .i64 (h : Int))) (some (.int .i64 (m : Int)))).run Tryz.prog W = .ok (.slice A h m) W := by
 rw [run_slice_hm (P := Tryz.prog) (w := W) (t := 25) (ht := zhA) A n c .i64 .i64 (h : Int) (m : Int) (by omega) (by omega) (by omega), zho];have h0 : A.map (·.add 0) = A := by cases A <;> simp [Addr.add]
 simp only [Result.andThen, sliced, Int.toNat_natCast, Nat.zero_mul, h0, Nat.sub_zero, ite_self]
set_option maxHeartbeats 4000000 in
theorem zmp {w : World} {A : Option Addr} {n c B V : Nat} {l : List RM} {m : RM} (ho : zaC w B A c l) (hB : B ≤ w.heap.size) (hn : l.length = n) (hsm : n ≤ 1000000) (wl : WfM l) (wm : m.wf) (hv : Arr w V 64 (mc m).toArray) :
 Calls Tryz.prog 127 #[.slice A n c, .int .i64 n, .slice (some ⟨V, 0, none⟩) 1 1] w fun e w' => ∃ A' c', e = .returned (.slice A' (n + 1) c') ∧ zaC w' B A' c' (l ++ [m]) ∧ Below B w w' := by
 have hq := zbk A n c n (Nat.le_refl _);unfold zaC at ho;rw [hn] at ho;have hV : Has w (V + 1) (some ⟨V, 0, none⟩) (zm mc [m]) := by rw [zbj]; exact zax w hv
 have hl1 : (zm mc [m]).length = 1 * 29 := by rw [zbj]; exact zP wm.val.hl
 have Hn := zb hn;clear hn hv;go_enter Tryz.func127, Tryz.ntmps127
 go_wp2_with (first
  | (refine zao ze3 za9 (by decide) rfl (.tmp 23) (.tmp 24) rfl A n c l rfl ho (V + 1) (some ⟨V, 0, none⟩) 1 1 [m] rfl hl1 hV (zda _) (by simp only [maxLen]; omega) (by omega) hB ?_; intro A' c' w' h1 h2 h3)
  | fail)
 go_ret;refine ⟨A', c', rfl, ?_, zat (Below.refl B w) ho h2 hB (Nat.le_refl _)⟩;unfold zaC;rw [List.length_append, Hn.out];exact h1
end
section
attribute [local go_sem ↓] zt zw
theorem zct {w : World} {B e size n c : Nat} {A : Option Addr} {xs : List Value} (h : Own w B e size A n c xs) : Own w.drew B e size A n c xs := h
theorem ziT : ∃ i z, Tryz.prog.info? 64 = some i ∧ i.size = 29 ∧ i.zero = some z ∧ z.cells.size = 29 ∧ i.bytes = 64 := by
 obtain ⟨i, z, h1, h2, h3, h4, h5⟩ := ze3.row;exact ⟨i, z, h1, h3, h2, h5, h4⟩
theorem zmY {n i : Nat} (h : i < n) : (i + 1 + (n - i)) = n + 1 := by omega
theorem zkx {l : List RM} {m : RM} {i n : Nat} (hi : i < n) (hn : l.length = n) (wl : WfM l) (wm : m.wf) (ys : List Value) (hys : ys.length = 29) :
 (((zm mc l ++ ys).take ((i + 1) * 29) ++ zm mc (l.drop i) ++ (zm mc l ++ ys).drop ((i + 1 + (n - i)) * 29)).take (i * 29) ++ mc m ++ ((zm mc l ++ ys).take ((i + 1) * 29) ++ zm mc (l.drop i) ++ (zm mc l ++ ys).drop ((i + 1 + (n - i)) * 29)).drop ((i + 1) * 29)) = zm mc (l.take i ++ m :: l.drop i) := by
 have hlen : (zm mc l).length = n * 29 := by rw [zaa wl.wid, hn]
 have e1 : (zm mc l ++ ys).drop ((i + 1 + (n - i)) * 29) = [] := List.drop_eq_nil_of_le (by rw [List.length_append, hlen, hys, zmY hi]; omega);have e2 : ((zm mc l ++ ys).take ((i + 1) * 29)).length = (i + 1) * 29 := by rw [List.length_take, List.length_append, hlen, hys]; omega
 rw [e1, List.append_nil, List.drop_left' e2, List.take_append_of_le_length (by rw [e2]; omega), List.take_take, Nat.min_eq_left (by omega), List.take_append_of_le_length (by rw [hlen]; omega), ← zbq wl.wid, zas, zcj, List.append_assoc]
set_option maxHeartbeats 2000000 in
theorem zkQ {w : World} {A : Option Addr} {n c B V i : Nat} {l : List RM} {m : RM} (ho : zaC w B A c l) (hB : B ≤ w.heap.size) (hn : l.length = n) (hsm : n ≤ 1000000) (wl : WfM l) (wm : m.wf) (hv : Arr w V 64 (mc m).toArray) (hVA : blk A ≠ some V) (hi : i < n) (hc : n + 1 ≤ c) :
 Calls Tryz.prog 127 #[.slice A n c, .int .i64 i, .slice (some ⟨V, 0, none⟩) 1 1] w fun e w' => ∃ A' c', e = .returned (.slice A' (n + 1) c') ∧ zaC w' B A' c' (l.take i ++ m :: l.drop i) ∧ Below B w w' := by
 unfold zaC at ho;rw [hn] at ho;obtain ⟨g, rfl⟩ := ho.addr (by omega);have hgV : g ≠ V := fun e => hVA (by rw [e]; rfl);have hlen : (zm mc l).length = n * 29 := by rw [zaa wl.wid, hn]
 obtain ⟨-, hBg, -, hcm, cur, hcur, hcs, -⟩ := ho.row;obtain ⟨ys, ho1, hys0⟩ := ho.more (m := n + 1) (by omega) hc;have hys : ys.length = 29 := by rw [hys0]; omega
 obtain ⟨inf, -, hinf, hsize, -, -, -⟩ := ziT
 have hsrc : Has w.drew w.heap.size (some ⟨g, i * 29, none⟩) (zm mc (l.drop i)) := by
  have := ho.has;have h2 := zbm this wl.wid i;rw [Nat.zero_add] at h2;exact h2
 have hdl : (zm mc (l.drop i)).length = (n - i) * 29 := by rw [zaa (wl.wid.drop i), List.length_drop, hn]
 obtain ⟨w1, hr1, ho2, hg1⟩ := zbf (P := Tryz.prog) w.drew 25 3 inf za9 hinf hsize (zct ho1) (i + 1) (n - i) (c - (i + 1)) w.heap.size (some ⟨g, i * 29, none⟩) (n - i) (n + 1 - i) (c - i) (zm mc (l.drop i)) hdl hsrc (zda _) (Nat.min_eq_right (by omega)) (by omega) (by omega) (by decide);have hv1 : Arr w1 V 64 (mc m).toArray := zha hg1 (Arr.drew hv) hgV;obtain ⟨w2, hr2, ho3, hg2⟩ := zbf (P := Tryz.prog) w1 25 3 inf za9 hinf hsize ho2 i (n + 1 - i) (c - i) (V + 1) (some ⟨V, 0, none⟩) 1 1 1 (mc m) (zP wm.val.hl) (zax w1 hv1) (zay m) (Nat.min_eq_left (by omega)) (by omega) (by omega) (by decide);rw [zkx hi hn wl wm ys hys] at ho3;have hb1 : Below B w w1 := (Below.refl B w).drew.trans (zaF hg1 hBg hB);have hb2 : Below B w w2 := hb1.trans (zaF hg2 hBg (Nat.le_trans hB hb1.size));have ho4 := zb ho3
 have hov : (callFunc 133 #[.slice (some ⟨V, 0, none⟩) 1 1, .slice (some ⟨g, (i + 1) * 29, none⟩) (n - i) (c - (i + 1))]).run Tryz.prog w = .ok (.value (.bool false)) w := by
  rw [run_callFunc_extern Tryz.func133 (by kernel_rfl) (by kernel_rfl) (by kernel_rfl) (e := Extern.SlicesOverlaps.overlaps #[25, 25] #[4]) (by kernel_rfl),
   Lib.run_overlaps_apart w 25 4 64 za9 29 (fun w => za4.size (w := w)) ⟨V, 0, none⟩ ⟨g, (i + 1) * 29, none⟩ 1 1 (n - i) (c - (i + 1)) (fun e => hgV e.symm) _ _ _ _ (ze8 w hv) (ze8 w hcur) (by rw [hcs]; omega) (hv.free 0) (hv.free _)]
  rfl
 have q1 := zbk (some ⟨g, 0, none⟩) n c i (by omega);rw [zci (by omega), Nat.zero_add] at q1;have q2 := zdW (some ⟨g, 0, none⟩) n c (n + 1) hc;rw [Int.natCast_succ] at q2;have q3 := zbk (some ⟨g, 0, none⟩) (n + 1) c (i + 1) (by omega);rw [zci (by omega), Nat.zero_add, Int.natCast_succ, Nat.add_sub_add_right] at q3;have q4 := zbk (some ⟨g, 0, none⟩) (n + 1) c i (by omega);rw [zci (by omega), Nat.zero_add] at q4;have hwi : IntKind.i64.wrap ((i : Int) + 1) = (i : Int) + 1 := by rw [IntKind.wrap_i64]; omega
 have hz2 : ¬ ((i : Int) = (n : Int)) := by omega
 have hz3 : ¬ ((c : Int) < (n : Int) + 1) := by omega
 have hlenr : (l.take i ++ m :: l.drop i).length = n + 1 := by simp [hn]; omega
 have Hlen := zb hlenr;have Hb2 := zb hb2;clear ho ho1 ho2 ho3 hg1 hg2 hb1 hb2 hsrc hdl hcur hcs hcm hv hv1 hlen hlenr hBg hinf hsize hys hys0 hn hVA wl wm cur inf ys;go_enter Tryz.func127, Tryz.ntmps127;go_wp2_with fail
 go_region_law (first
  | (refine zcx rfl (.tmp 73) (.tmp 76) 25 25 rfl _ _ ?_ ?_ hr1 ?_
     ·go_simp
     ·go_simp)
  | fail)
 all_goals
  go_wp2_with (first
   | (refine Lib.wpList_copy_run _ rfl (.tmp 80) (.tmp 81) 25 25 rfl _ _ rfl rfl hr2 ?_)
   | fail)
  go_ret;refine ⟨some ⟨g, 0, none⟩, c, rfl, ?_, Hb2.out⟩;unfold zaC;rw [Hlen.out];exact ho4.out
end
section
attribute [local go_sem ↓] zt zw
theorem zbX {P : Program} (w : World) {ops : Array Oper} {rest : List Oper} {o : Oper} {a : Act} {Q : Exit → Act → World → Prop} (hgd : o.guard = none) (d s : Operand) (t t' : TypeId)
 (ho : o.op = .call { callee := .builtin .append, args := #[d, s], argTypes := #[t, t'] }) (v u : Value) (hd : a.eval d = v) (hs : a.eval s = u) {v' : Value} {w' : World}
 (hr : (Builtin.append_ #[t, t'] o.type #[v, u]).run P w = .ok v' w') (h : wpList P ops Q rest (a.put o.dst v') w') : wpList P ops Q (o :: rest) a w :=
 wpList_plain hgd fun _ hK => by
  unfold Oper.wp execOp;simp only [ho, resolve, invoke, builtin, Sem.run_bind, Sem.run_pure, Result.andThen_ok, List.map_toArray, List.map_cons, List.map_nil, hd, hs, hr];exact hK _ _ h
theorem zoN {l : List RM} {m : RM} {i n : Nat} (hi : i < n) (hn : l.length = n) (wl : WfM l) (wm : m.wf) (zs : List Value) (hzs : zs.length = (n + 1 - i) * 29) :
 (((zm mc l).take (i * 29) ++ zs).take (i * 29) ++ mc m ++ ((zm mc l).take (i * 29) ++ zs).drop ((i + 1) * 29)).take ((i + 1) * 29) ++ zm mc (l.drop i) ++ (((zm mc l).take (i * 29) ++ zs).take (i * 29) ++ mc m ++ ((zm mc l).take (i * 29) ++ zs).drop ((i + 1) * 29)).drop ((i + 1 + (n - i)) * 29) = zm mc (l.take i ++ m :: l.drop i) := by
 have hlen : (zm mc l).length = n * 29 := by rw [zaa wl.wid, hn]
 have h1 : ((zm mc l).take (i * 29)).length = i * 29 := by rw [List.length_take, hlen]; omega
 have hm := zP wm.val.hl;have e0 : ((zm mc l).take (i * 29) ++ zs).take (i * 29) = zm mc (l.take i) := by rw [List.take_left' h1, ← zbq wl.wid]
 have hlt : (zm mc (l.take i)).length = i * 29 := by rw [zbq wl.wid, h1]
 rw [e0];have e1 : (zm mc (l.take i) ++ mc m ++ ((zm mc l).take (i * 29) ++ zs).drop ((i + 1) * 29)).take ((i + 1) * 29) = zm mc (l.take i) ++ mc m := List.take_left' (by rw [List.length_append, hlt, hm]; omega);have e2 : (zm mc (l.take i) ++ mc m ++ ((zm mc l).take (i * 29) ++ zs).drop ((i + 1) * 29)).drop ((i + 1 + (n - i)) * 29) = [] := List.drop_eq_nil_of_le (by rw [List.length_append, List.length_append, List.length_drop, List.length_append, hlt, hm, h1, hzs]; omega);rw [e1, e2, List.append_nil, zas, zcj, List.append_assoc]
theorem zgc {w w' : World} {B : Nat} (h : w.grownBy w' none) (hB : B ≤ w.heap.size) : Below B w w' := (Below.refl B w).grown h hB (fun k hk => by cases hk)
theorem zga {T V : Nat} {cs : Array Value} {w w' : World} (h : w.grownBy w' none) (ha : Arr w V T cs) : Arr w' V T cs := (h.block V ha.lt (by simp)).trans ha
set_option maxHeartbeats 2000000 in
theorem zkP {w : World} {A : Option Addr} {n c B V i : Nat} {l : List RM} {m : RM} (ho : zaC w B A c l) (hB : B ≤ w.heap.size) (hn : l.length = n) (hsm : n ≤ 1000000) (wl : WfM l) (wm : m.wf) (hv : Arr w V 64 (mc m).toArray) (hi : i < n) (hc : c < n + 1) :
 Calls Tryz.prog 127 #[.slice A n c, .int .i64 i, .slice (some ⟨V, 0, none⟩) 1 1] w fun e w' => ∃ A' c', e = .returned (.slice A' (n + 1) c') ∧ zaC w' B A' c' (l.take i ++ m :: l.drop i) ∧ Below B w w' := by
 unfold zaC at ho;rw [hn] at ho;obtain ⟨g, rfl⟩ := ho.addr (by omega);have hlen : (zm mc l).length = n * 29 := by rw [zaa wl.wid, hn]
 have hcap := ho.cap;obtain ⟨inf, z, hinf, hsize, hz, hzs, hby⟩ := ziT;have hint : Tryz.prog.underlying 3 = some (.int .i64) := Tryz.underlying3;obtain ⟨c', w1, zs, hr0, ho1, hzl, hg1⟩ := zdb (P := Tryz.prog) w 25 3 25 inf z 64 .i64 .i64 za9 hint hinf hz hsize hby hzs (by decide) _ (ho.pre (i := i) (by omega)) (n + 1 - i) (by omega) (by omega) (by simp only [maxLen]; omega) (by omega) hB;rw [show i + (n + 1 - i) = n + 1 by omega] at hr0 ho1;rw [show ((n + 1 - i : Nat) : Int) = (n : Int) + 1 - (i : Int) by omega] at hr0;have hH : g < w.heap.size := (ho.lt g rfl).2;have hVH : w.heap.size ≠ V := by have := hv.lt; omega
 have hcap' := ho1.cap;have hv1 := zga hg1 hv;have hs1 : Own w1 B 64 29 (some ⟨g, 0, none⟩) n c (zm mc l) := ho.kept hg1 (.inr (by simp [blk]));obtain ⟨w2, hr1, ho2, hg2⟩ := zbf (P := Tryz.prog) w1 25 3 inf za9 hinf hsize ho1 i (n + 1 - i) (c' - i) (V + 1) (some ⟨V, 0, none⟩) 1 1 1 (mc m) (zP wm.val.hl) (zax w1 hv1) (zay m) (Nat.min_eq_left (by omega)) (by omega) (by omega) (by decide);have hs2 : Own w2 B 64 29 (some ⟨g, 0, none⟩) n c (zm mc l) := hs1.kept hg2 (.inr (by simp [blk]; omega))
 have hsrc : Has w2.drew w2.heap.size (some ⟨g, i * 29, none⟩) (zm mc (l.drop i)) := by
  have h2 := zbm hs2.has wl.wid i;rw [Nat.zero_add] at h2;exact h2
 have hdl : (zm mc (l.drop i)).length = (n - i) * 29 := by rw [zaa (wl.wid.drop i), List.length_drop, hn]
 obtain ⟨w3, hr2, ho3, hg3⟩ := zbf (P := Tryz.prog) w2.drew 25 3 inf za9 hinf hsize (zct ho2) (i + 1) (n - i) (c' - (i + 1)) w2.heap.size (some ⟨g, i * 29, none⟩) (n - i) (n - i) (c - i) (zm mc (l.drop i)) hdl hsrc (zda _) (Nat.min_self _) (by omega) (by omega) (by decide);rw [zoN hi hn wl wm zs hzl] at ho3;have hb1 : Below B w w1 := zgc hg1 hB;have hb2 : Below B w w2 := hb1.trans (zaF hg2 hB (Nat.le_trans hB hb1.size));have hb3 : Below B w w3 := hb2.drew.trans (zaF hg3 hB (Nat.le_trans hB hb2.size));have ho4 := zb ho3;have q1 := zbk (some ⟨g, 0, none⟩) n c i (by omega);rw [zci (by omega), Nat.zero_add] at q1;have q2 := zdW (some ⟨g, 0, none⟩) n c i (by omega);have q3 := zbk (some ⟨w.heap.size, 0, none⟩) (n + 1) c' (i + 1) (by omega);rw [zci (by omega), Nat.zero_add, Int.natCast_succ, Nat.add_sub_add_right] at q3;have q4 := zbk (some ⟨w.heap.size, 0, none⟩) (n + 1) c' i (by omega);rw [zci (by omega), Nat.zero_add] at q4;have hwi : IntKind.i64.wrap ((i : Int) + 1) = (i : Int) + 1 := by rw [IntKind.wrap_i64]; omega
 have hz2 : ¬ ((i : Int) = (n : Int)) := by omega
 have hz3 : ((c : Int) < (n : Int) + 1) := by omega
 have hlenr : (l.take i ++ m :: l.drop i).length = n + 1 := by simp [hn]; omega
 have Hlen := zb hlenr;have Hb3 := zb hb3;clear ho ho1 ho2 ho3 hg1 hg2 hg3 hb1 hb2 hb3 hsrc hdl hv hv1 hlen hlenr hinf hsize hn wl wm hs1 hs2 hz hzs hby inf z hzl zs hint;go_enter Tryz.func127, Tryz.ntmps127
 go_wp2_with (first
  | (refine zbX _ rfl (.tmp 34) (.tmp 39) 25 3 rfl _ _ rfl rfl hr0 ?_)
  | (refine Lib.wpList_copy_run _ rfl (.tmp 43) (.tmp 44) 25 25 rfl _ _ rfl rfl hr1 ?_)
  | fail)
 go_region_law (first
  | (refine zcx rfl (.tmp 50) (.tmp 53) 25 25 rfl _ _ ?_ ?_ hr2 ?_
     ·go_simp
     ·go_simp)
  | fail)
 all_goals
  go_wp2_with fail;go_ret;refine ⟨some ⟨w.heap.size, 0, none⟩, c', rfl, ?_, Hb3.out⟩;unfold zaC;rw [Hlen.out];exact ho4.out
theorem zom {w : World} {A : Option Addr} {n c B V i : Nat} {l : List RM} {m : RM} (ho : zaC w B A c l) (hB : B ≤ w.heap.size) (hn : l.length = n) (hsm : n ≤ 1000000) (wl : WfM l) (wm : m.wf) (hv : Arr w V 64 (mc m).toArray) (hVA : blk A ≠ some V) (hi : i ≤ n) :
 Calls Tryz.prog 127 #[.slice A n c, .int .i64 i, .slice (some ⟨V, 0, none⟩) 1 1] w fun e w' => ∃ A' c', e = .returned (.slice A' (n + 1) c') ∧ zaC w' B A' c' (l.take i ++ m :: l.drop i) ∧ Below B w w' := by
 rcases Nat.lt_or_ge i n with h | h
 ·rcases Nat.lt_or_ge c (n + 1) with h2 | h2
  ·exact zkP ho hB hn hsm wl wm hv h h2
  ·exact zkQ ho hB hn hsm wl wm hv hVA h h2
 ·obtain rfl : i = n := by omega
  have e1 : l.take i = l := List.take_of_length_le (by omega);have e2 : l.drop i = [] := List.drop_eq_nil_of_le (by omega);rw [e1, e2];exact zmp ho hB hn hsm wl wm hv
end
section
attribute [local go_sem ↓] zt zw zaX
theorem zcK (w : World) (m : RM) : ∃ Z, w.alloc (.cells (mc m).toArray 64) = Z ∧ Fr w Z ∧ Fr Z Z ∧ Arr Z w.heap.size 64 (mc m).toArray ∧ Z.heap.size = w.heap.size + 1 := ⟨_, rfl, zf (ze w) _, ze _, Arr.new w _ _, by simp⟩
theorem zep : ∀ (cs : List Value) (k : Nat) (z : Array Value), k + cs.length = z.size → List.foldl (fun (cs : Array Value) (x : Value × Nat) => cs.setIfInBounds x.snd x.fst) z (cs.zipIdx k) = (z.toList.take k ++ cs).toArray
 | [], k, z, h => by
  simp at h;subst h;simp [List.take_of_length_le]
 | v :: cs, k, z, h => by
  simp only [List.length_cons] at h;rw [List.zipIdx_cons, List.foldl_cons, zep cs (k + 1) _ (by simp; omega)]
  congr 1
  simp only [Array.toList_setIfInBounds];rw [show v :: cs = [v] ++ cs from rfl, ← List.append_assoc]
  congr 1
  apply List.ext_getElem?;intro j;simp only [List.getElem?_take, List.getElem?_set, List.getElem?_append, List.length_take, Array.length_toList]
  by_cases h1 : j < k
  ·have : min k z.size = k := by omega
   simp [h1, this, show j < k + 1 by omega, Nat.ne_of_gt h1]
  ·by_cases h2 : j = k
   ·subst h2
    have : min j z.size = j := by omega
    have : j < z.size := by omega
    simp [*]
   ·have : min k z.size = k := by omega
    simp [h1, this, show ¬ j < k + 1 by omega];omega
theorem zlw {m : RM} (hl : (mc m).length = 29) : List.foldl (fun (cs : Array Value) (x : Value × Nat) => cs.setIfInBounds x.snd x.fst) (mc za0).toArray (mc m).zipIdx = (mc m).toArray := by
 have := zep (mc m) 0 (mc za0).toArray (by rw [hl]; rfl)
 simpa using this
set_option maxHeartbeats 2000000 in
theorem zop {w : World} {A : Option Addr} {n c B : Nat} {l : List RM} {m : RM} (ho : zaC w B A c l) (hB : B ≤ w.heap.size) (hn : l.length = n) (hsm : n ≤ 100000) (ol : OkL l) (wm : m.wf) (om : okM m = true) (hf : zaj l m.key = none) :
 Calls Tryz.prog 120 #[.slice A n c, mm m] w fun e w' => ∃ A' c', e = .returned (.slice A' (n + 1) c') ∧ zaC w' B A' c' (l.take (zaS l (cd m)) ++ m :: l.drop (zaS l (cd m))) ∧ Below B w w' := by
 obtain ⟨Z, hZ, hF, hZZ, hM, hS⟩ := zcK w m;have hoZ : zaC Z B A c l := Own.below ho hF (Nat.le_refl _);have cP := zh5 (c := c) hoZ.has (Nat.le_refl _) hn (by omega) ol wm.key (zaH om);rw [hf] at cP
 have cI : ∀ W, Fr Z W → Calls Tryz.prog 127 #[.slice A n c, .int .i64 (zaS l (zu m.key) : Nat), .slice (some ⟨W.heap.size, 0, none⟩) 1 1] (W.alloc (.cells (mc m).toArray 64)) fun e w' => ∃ A' c', e = .returned (.slice A' (n + 1) c') ∧ zaC w' B A' c' (l.take (zaS l (cd m)) ++ m :: l.drop (zaS l (cd m))) ∧ Below B w w' := fun W hW => by
  have hoW : zaC W B A c l := Own.below hoZ hW (Nat.le_refl _);have hb : Below B w W := (hF.mono hB).trans (hW.mono (Nat.le_trans hB hF.size));have hsz : B ≤ W.heap.size := Nat.le_trans hB hb.size;refine (zom (V := W.heap.size) (i := zaS l (zu m.key)) (hoW.alloc _) (by simp; omega) hn (by omega) ol.good.wfm wm (Arr.new W _ _) (fun e => by have := (hoW.lt _ e).2; omega) (by rw [← hn]; exact zes _ _)).mono ?_;rintro e w' ⟨A', c', rfl, h1, h2⟩;exact ⟨A', c', rfl, h1, (hb.alloc hsz _).trans h2⟩
 have lK := zaN hM;have lM := zbg hM wm.val.hl;simp only [Option.isSome_none] at cP;generalize zaS l (zu m.key) = p at cP cI;have hsz : (mc m).length = 29 := zP wm.val.hl;have hfo := zlw (zP wm.val.hl);rw [zdM] at hfo;clear ho hoZ hf hM ol wm om;go_enter Tryz.func120, Tryz.ntmps120
 go_wp2_with (first
  | (go_at_call 76; refine cP.mono ?_; rintro e W ⟨rfl, hW⟩)
  | fail)
 refine (cI _ (by assumption)).mono ?_;rintro e w' ⟨A', c', rfl, h1, h2⟩;go_wp2_with fail;go_ret;exact ⟨A', c', rfl, h1, h2⟩
set_option maxHeartbeats 2000000 in
theorem zoA {w : World} {A : Option Addr} {n c B : Nat} {l : List RM} {m x : RM} (ho : zaC w B A c l) (hB : B ≤ w.heap.size) (hn : l.length = n) (hsm : n ≤ 100000) (ol : OkL l) (wm : m.wf) (om : okM m = true) (hf : zaj l m.key = some x) :
 Calls Tryz.prog 120 #[.slice A n c, mm m] w fun e w' => ∃ A' c', e = .returned (.slice A' n c') ∧ zaC w' B A' c' (l.set (zaS l (cd m)) (za7 x m)) ∧ Below B w w' := by
 obtain ⟨Z, hZ, hF, hZZ, hM, hS⟩ := zcK w m;have hoZ : zaC Z B A c l := Own.below ho hF (Nat.le_refl _);have cP := zh5 (c := c) hoZ.has (Nat.le_refl _) hn (by omega) ol wm.key (zaH om);obtain ⟨hx, hxk⟩ := ziI ol wm.key (zaH om) hf;have gx := ol.good x (za8 hx);rw [hf] at cP;simp only [Option.isSome_some] at cP;have hx' : l[zaS l (cd m)]? = some x := hx;have hp : zaS l (cd m) < n := by rw [← hn]; exact (List.getElem?_eq_some_iff.1 hx').1
 have cC := fun W0 W h => zku (W0 := W0) (W := W) gx.1 wm gx.2 om h;have hcw := zkj gx.1 wm;have lM := zbg hM wm.val.hl;have lK := zaN hM;obtain ⟨g, rfl⟩ := hoZ.addr (by omega);have he : cd m = zu m.key := rfl;rw [he] at hx' hp ⊢;have hoZn : Own Z B 64 29 (some ⟨g, 0, none⟩) n c (zm mc l) := by rw [← hn]; exact hoZ
 obtain ⟨-, hBg, -, -, cur, hcur, hcs, hct⟩ := hoZ.row;have hgs : g < Z.heap.size := hcur.lt
 have hr : Z.rangeAt g 0 (zm mc l) := fun j v hj => by
  obtain ⟨b, off, e, -, hc⟩ := hoZ.has j v hj
  injection e with e
  injection e with e1 e2
  subst e1 e2;exact hc
 have lX := z9 za4 hr ol.good.wfm.wid hgs hx';obtain ⟨cur', st, so, sb⟩ := znl (a := za7 x m) zX hoZn ol.good.wfm.wid hn hp (zP hcw.val.hl) (zay _);generalize zaS l (zu m.key) = p at *;rw [Nat.zero_add] at lX;have hBZ : B ≤ Z.heap.size := Nat.le_trans hB hF.size;have So := zb so;have Sb := zb sb;have Hn := zb hn;have HFB := zb (hF.mono hB);have hpz : (p : Int) < (n : Int) := by omega
 generalize za7 x m = y at *;clear ho hoZ hoZn hf hM ol wm om hx hx' hxk gx hcw he hcur hcs hct hr so sb hn hp cur hF;go_enter Tryz.func120, Tryz.ntmps120
 go_wp2_with (first
  | (go_at_call 76; refine cP.mono ?_; rintro e W ⟨rfl, hW⟩; have hWD := zn hW)
  | fail)
 go_region_with (first
  | (go_at_call 128; (with_reducible refine (cC Z _ (by assumption)).mono ?_); rintro e w9 ⟨rfl, hz⟩))
 all_goals
  go_wp2_with fail;go_ret;refine ⟨some ⟨g, 0, none⟩, c, rfl, ?_, ?_⟩
  ·unfold zaC
   rw [List.length_set, Hn.out];exact So.out _ (by assumption)
  ·exact HFB.out.trans (Sb.out _ (by assumption) (by first | exact hz.size | assumption) B (Nat.le_refl _) hBZ)
theorem enter_at {w : World} {A : Option Addr} {n c B : Nat} {l : List RM} {m : RM} (ho : zaC w B A c l) (hB : B ≤ w.heap.size) (hn : l.length = n) (hsm : n ≤ 100000) (ol : OkL l) (wm : m.wf) (om : okM m = true) :
 Calls Tryz.prog 120 #[.slice A n c, mm m] w fun e w' => ∃ A' c', e = .returned (.slice A' (zaK l m).length c') ∧ zaC w' B A' c' (zaK l m) ∧ Below B w w' := by
 have ha := zm1 ol wm om
 cases hf : zaj l m.key with
 | none =>
  rw [hf] at ha;rw [ha]
  have hl : (l.take (zaS l (cd m)) ++ m :: l.drop (zaS l (cd m))).length = n + 1 := by
   have := zes l (cd m);simp [hn];omega
  rw [hl];exact zop ho hB hn hsm ol wm om hf
 | some x =>
  rw [hf] at ha;rw [ha, List.length_set, hn];exact zoA ho hB hn hsm ol wm om hf
end
end Go.Proofs.YtmjjjdikpnhpiaaGreat
