/- Buffers in memory, seven: 'Add', 'Find', 'Bytes'. -/
import Derived.Test.YtmjjjdikpnhpiaaGreatBufA
import Derived.Test.YtmjjjdikpnhpiaaGreatMsgF
import Derived.Test.YtmjjjdikpnhpiaaGreatBuf0
namespace Go.Proofs.YtmjjjdikpnhpiaaGreat
set_option linter.unusedVariables false
set_option linter.unusedSimpArgs false
set_option maxRecDepth 100000
open Go.RowKit
section
attribute [local go_sem ↓] zt zw zaX
theorem Has.fr {w W : World} {B : Nat} {A : Option Addr} {xs : List Value} (h : Has w B A xs) (hB : B ≤ w.heap.size) (hF : Fr w W) : Has W B A xs := h.below (hF.mono hB)
theorem zaC.fr {w W : World} {B : Nat} {A : Option Addr} {c : Nat} {l : List RM} (h : zaC w B A c l) (hF : Fr w W) : zaC W B A c l := Own.below h hF (Nat.le_refl _)
def findV (o : Option RM) : Value := .tuple #[mm (o.getD za0), .bool o.isSome]
theorem key_box (w : World) (k : RK) : ∃ Z, (w.alloc (.cells (kc k).toArray 33)).alloc (.cells (mc za0).toArray 64) = Z ∧ Fr w Z ∧ Fr Z Z ∧ Arr Z w.heap.size 33 (kc k).toArray ∧ Arr Z (w.heap.size + 1) 64 (mc za0).toArray ∧ Z.heap.size = w.heap.size + 1 + 1 :=
 ⟨_, rfl, zf (zf (ze w) _) _, ze _, Arr.alloc (Arr.new w _ _) _, zbr _ _ _ _ (by simp), by simp⟩
end
section
attribute [local go_sem ↓] zt zw zaX
theorem ze6 (m : RM) : 0 ≤ zc9 m ∧ zc9 m ≤ 35 := by
 cases h : okM m with
 | true => have := bytM_bd h; omega
 | false => simp [zc9, h]
theorem zeg : ∀ l : List RM, 0 ≤ zbB l ∧ zbB l ≤ 35 * (l.length : Int)
 | [] => by simp [zbB]
 | m :: l => by
  have h1 := ze6 m;have h2 := zeg l;rw [zoO];simp only [List.length_cons];omega
theorem zav {α : Type} {l : List α} {j : Nat} {a : α} (h : l[j]? = some a) : l.take (j + 1) = l.take j ++ [a] := by
 obtain ⟨hj, e⟩ := List.getElem?_eq_some_iff.1 h;rw [List.take_add_one, h];rfl
theorem zfd {l : List RM} {j : Nat} {m : RM} (h : l[j]? = some m) : zbB (l.take (j + 1)) = zbB (l.take j) + zc9 m := by
 rw [zav h, bytL_app];simp [zbB]
set_option maxHeartbeats 2000000 in
theorem bytes_at {w : World} {A : Option Addr} {n c B : Nat} {l : List RM} (hl : Has w B A (zm mc l)) (hB : B ≤ w.heap.size) (hn : l.length = n) (hsm : n ≤ 100000) (wl : WfM l) :
 Calls Tryz.prog 85 #[.slice A n c] w fun e w' => e = .returned (.int .i64 (zbB l)) ∧ Fr w w' := by
 have Hl := zb hl;have Hn := zb hn;have Hwl := zb wl;clear hl hn wl;go_enter Tryz.func85, Tryz.ntmps85;go_wp2_with fail
 go_loopg [3, 8] n (fun g s3 s8 wr => ∃ j : Nat, j + g = n ∧ s3 = .int .i64 (zbB (l.take j)) ∧ s8 = .int .i64 j ∧ Hid (Fr w wr))
 case atStart => exact ⟨0, by omega, rfl, rfl, zb (ze w)⟩
 case round =>
  obtain ⟨j, hj, rfl, rfl, hF⟩ := hrel
  by_cases hlt : j < n
  ·have hm : l[j]? = some (l[j]'(by rw [Hn.out]; exact hlt)) := List.getElem?_eq_getElem _
   generalize l[j]'(by rw [Hn.out]; exact hlt) = m at hm;obtain ⟨b, off, rfl, hb1, hr⟩ := zJ Hl.out Hwl.out.wid (by decide) (by intro e; rw [e] at hm; simp at hm);have lX := z9 za4 hr Hwl.out.wid (by omega) hm;have wm := Hwl.out m (za8 hm);have hR := zeg (l.take j);have hR2 := ze6 m;have hlen : (l.take j).length = j := by rw [List.length_take, Hn.out]; omega
   rw [hlen] at hR;have Hs := zb (zfd hm);have cB := fun W0 W h => zjc (W0 := W0) (W := W) wm h;have Hm := zb (zP wm.val.hl);have hF1 := hF.out;generalize zbB (l.take j) = s at *;generalize zc9 m = t at *;have hjz : (j : Int) < (n : Int) := by omega
   clear hm hr hlen hlt
   go_wp2_with (first
    | (refine zi (ds := mc m) zX rfl (.tmp 5) (.tmp 11) rfl wr.heap.size 0 rfl rfl Hm.out (zay _) (Arr.new wr (mc za0).toArray 64) (by decide) (zk _ _ (by rw [Hm.out]; decide)) ?_; intro W5 hM5 hk5; have hF5 := hk5.fr (zf hF1 _) hF1.size; clear hk5; have lM := zbg hM5 wm.val.hl; have h55 := ze W5)
    | (go_at_call 75; (with_reducible refine (cB W5 _ (by assumption)).mono ?_); rintro e w9 ⟨rfl, hz⟩)
    | fail)
   go_roundg (gk - 1)
   case measure => omega
   case rel => exact ⟨j + 1, by omega, by rw [Hs.out], rfl, zb (za hF5 hz)⟩
  ·have : j = n := by omega
   subst this;have e : l.take j = l := List.take_of_length_le (by rw [Hn.out]; exact Nat.le_refl _);rw [e];go_wp2_with fail;go_ret;exact ⟨rfl, hF.out⟩
set_option maxHeartbeats 2000000 in
theorem ziW {w : World} {A : Option Addr} {n c B : Nat} {l : List RM} (hl : Has w B A (zm mc l)) (hB : B ≤ w.heap.size) (hn : l.length = n) (hsm : n ≤ 100000) (wl : WfM l) :
 Calls Tryz.prog 41 #[.slice A n c] w fun e w' => e = .returned (.int .i64 (zbB l)) ∧ Fr w w' := by
 have Hl := zb hl;have Hn := zb hn;have Hwl := zb wl;clear hl hn wl;go_enter Tryz.func41, Tryz.ntmps41;go_wp2_with fail
 go_loopg [3, 4] n (fun g s3 s8 wr => ∃ j : Nat, j + g = n ∧ s3 = .int .i64 (zbB (l.take j)) ∧ s8 = .int .i64 j ∧ Hid (Fr w wr))
 case atStart => exact ⟨0, by omega, rfl, rfl, zb (ze w)⟩
 case round =>
  obtain ⟨j, hj, rfl, rfl, hF⟩ := hrel
  by_cases hlt : j < n
  ·have hm : l[j]? = some (l[j]'(by rw [Hn.out]; exact hlt)) := List.getElem?_eq_getElem _
   generalize l[j]'(by rw [Hn.out]; exact hlt) = m at hm;obtain ⟨b, off, rfl, hb1, hr⟩ := zJ Hl.out Hwl.out.wid (by decide) (by intro e; rw [e] at hm; simp at hm);have lX := z9 za4 hr Hwl.out.wid (by omega) hm;have wm := Hwl.out m (za8 hm);have hR := zeg (l.take j);have hR2 := ze6 m;have hlen : (l.take j).length = j := by rw [List.length_take, Hn.out]; omega
   rw [hlen] at hR;have Hs := zb (zfd hm);have cB := fun W0 W h => zh3 (W0 := W0) (W := W) wm h;have Hm := zb (zP wm.val.hl);have hF1 := hF.out;generalize zbB (l.take j) = s at *;generalize zc9 m = t at *;have hjz : (j : Int) < (n : Int) := by omega
   clear hm hr hlen hlt
   go_wp2_with (first
    | (go_at_call 70; (with_reducible refine (cB w _ (by assumption)).mono ?_); rintro e w9 ⟨rfl, hz⟩)
    | fail)
   go_roundg (gk - 1)
   case measure => omega
   case rel => exact ⟨j + 1, by omega, by rw [Hs.out], rfl, zb hz⟩
  ·have : j = n := by omega
   subst this;have e : l.take j = l := List.take_of_length_le (by rw [Hn.out]; exact Nat.le_refl _);rw [e];go_wp2_with fail;go_ret;exact ⟨rfl, hF.out⟩
theorem zhq : ∀ (l : List RM) (m : RM), (zaK l m).length ≤ l.length + 1
 | [], m => by simp [zaK]
 | x :: l, m => by
  have := zhq l m;unfold zaK
  split
  ·simpa using this
  ·split <;> simp
theorem zfR : ∀ (more l : List RM), (zcg l more).length ≤ l.length + more.length
 | [], l => by simp [zcg]
 | m :: more, l => by
  have h1 := zfR more (zaK l m);have h2 := zhq l m;have e : zcg l (m :: more) = zcg (zaK l m) more := rfl;rw [e];simp only [List.length_cons];omega
theorem zjn {l more : List RM} {j : Nat} {m : RM} (h : more[j]? = some m) : zcg l (more.take (j + 1)) = zaK (zcg l (more.take j)) m := by
 rw [zav h];unfold zcg;rw [List.foldl_append];rfl
set_option maxHeartbeats 2000000 in
theorem all_at {w : World} {A A2 : Option Addr} {n c B n2 c2 B2 : Nat} {l more : List RM} (hl : Has w B A (zm mc l)) (hB : B ≤ w.heap.size) (hn : l.length = n) (hsm : n ≤ 10000) (ol : OkL l) (hl2 : Has w B2 A2 (zm mc more)) (hB2 : B2 ≤ w.heap.size) (hn2 : more.length = n2) (hsm2 : n2 ≤ 10000) (gm : zcq more) :
 Calls Tryz.prog 111 #[.slice A n c, .slice A2 n2 c2] w fun e w' => ∃ A' c', e = .returned (.slice A' (zcg l more).length c') ∧ zaC w' w.heap.size A' c' (zcg l more) ∧ Fr w w' := by
 have cC := ziw (c := c) hl hB hn (by omega) ol.good.wfm;have Hl := zb hl2;have Hn := zb hn2;have Hn1 := zb hn;have Hg := zb gm;have Ho := zb ol;clear hl2 hn2 gm ol hl hn;go_enter Tryz.func111, Tryz.ntmps111
 go_wp2_with (first
  | (go_at_call 50; refine cC.mono ?_; rintro e w1 ⟨A1, c1, rfl, ho1, hF1⟩)
  | fail)
 go_loopg [5, 12] n2 (fun g s5 s12 wr => ∃ j : Nat, j + g = n2 ∧ s12 = .int .i64 j ∧ (∃ A' c', s5 = .slice A' (zcg l (more.take j)).length c' ∧ Hid (zaC wr w.heap.size A' c' (zcg l (more.take j)))) ∧ Hid (Fr w wr))
 case atStart => exact ⟨0, by omega, rfl, ⟨A1, c1, by rw [← Hn1.out]; rfl, zb ho1⟩, zb hF1⟩
 case round =>
  obtain ⟨j, hj, rfl, ⟨A', c', rfl, hO⟩, hF⟩ := hrel
  by_cases hlt : j < n2
  ·have hm : more[j]? = some (more[j]'(by rw [Hn.out]; exact hlt)) := List.getElem?_eq_getElem _
   generalize more[j]'(by rw [Hn.out]; exact hlt) = m at hm;obtain ⟨b, off, rfl, hb1, hr⟩ := zJ Hl.out Hg.out.wfm.wid (by decide) (by intro e; rw [e] at hm; simp at hm);have lX := z9 za4 hr Hg.out.wfm.wid (by omega) hm;have wm := Hg.out m (za8 hm);have hle := zfR (more.take j) l;have hgt : zcq (more.take j) := Hg.out.sub (List.take_sublist _ _);have hok := zgA Ho.out hgt;rw [List.length_take, Hn.out, Hn1.out] at hle;have Hs := zb (zjn (l := l) hm);generalize zcg l (more.take j) = q at *
   have cE : ∀ W, Fr wr W → Calls Tryz.prog 120 #[.slice A' q.length c', mm m] W fun e w' => ∃ A2 c2, e = .returned (.slice A2 (zaK q m).length c2) ∧ zaC w' w.heap.size A2 c2 (zaK q m) ∧ Fr w w' := fun W hW =>
    (enter_at (hO.out.fr hW) (Nat.le_trans hF.out.size hW.size) rfl (by omega) hok wm.1 wm.2).mono fun e w' h => by
     obtain ⟨A2, c2, e1, h1, h2⟩ := h;exact ⟨A2, c2, e1, h1, (za hF.out hW).trans h2⟩
   have Hm := zb (zP wm.1.val.hl);have hF1' := hF.out;have hjz : (j : Int) < (n2 : Int) := by omega
   have hrr := ze wr;generalize q.length = ql at *;clear hm hr hlt hok hgt hle
   go_wp2_with (first
    | (refine zi (ds := mc m) zX rfl (.tmp 7) (.tmp 15) rfl wr.heap.size 0 rfl rfl Hm.out (zay _) (Arr.new wr (mc za0).toArray 64) (by decide) (zk _ _ (by rw [Hm.out]; decide)) ?_; intro W5 hM5 hk5; have hF5 := hk5.fr (zf hrr _) (Nat.le_refl _); clear hk5; have lM := zbg hM5 wm.1.val.hl; have h55 := ze W5)
    | (go_at_call 120; (with_reducible refine (cE W5 (by assumption)).mono ?_); rintro e w9 ⟨A9, c9, rfl, ho9, hz⟩)
    | fail)
   go_roundg (gk - 1)
   case measure => omega
   case rel => exact ⟨j + 1, by omega, rfl, ⟨A9, c9, by rw [Hs.out], by rw [Hs.out]; exact zb ho9⟩, zb hz⟩
  ·have : j = n2 := by omega
   subst this;have e : more.take j = more := List.take_of_length_le (by rw [Hn.out]; exact Nat.le_refl _);rw [e] at hO ⊢;go_wp2_with fail;go_ret;exact ⟨A', c', rfl, hO.out, hF.out⟩
end
section
attribute [local go_sem ↓] zt zw zaX
theorem zlT {l : List RM} {j : Nat} {m : RM} (h : l[j]? = some m) (s : Int) : zdK s (l.drop j) = if s + zc9 m ≤ 96 then zdK (s + zc9 m) (l.drop (j + 1)) + 1 else 0 := by
 obtain ⟨hj, e⟩ := List.getElem?_eq_some_iff.1 h;rw [List.drop_eq_getElem_cons hj, e, zdK]
 by_cases hf : s + zc9 m ≤ 96
 ·rw [if_pos hf, if_neg (by omega)]
 ·rw [if_neg hf, if_pos (by omega)]
set_option maxHeartbeats 2000000 in
theorem zlm {w : World} {A : Option Addr} {n c B : Nat} {l : List RM} (hl : Has w B A (zm mc l)) (hB : B ≤ w.heap.size) (hn : l.length = n) (hnc : n ≤ c) (hsm : n ≤ 100000) (wl : WfM l) :
 Calls Tryz.prog 51 #[.slice A n c] w fun e w' => e = .returned (.slice A (zdK 0 l) (zdK 0 l)) ∧ Fr w w' := by
 have Hl := zb hl;have Hn := zb hn;have Hwl := zb wl;clear hl hn wl;go_enter Tryz.func51, Tryz.ntmps51;go_wp2_with fail
 go_loopg [4, 3] n (fun g s4 s3 wr => ∃ j : Nat, j + g = n ∧ s4 = .int .i64 (zbB (l.take j)) ∧ s3 = .int .i64 j ∧ Hid (Fr w wr) ∧ Hid (zdK 0 l = j + zdK (zbB (l.take j)) (l.drop j)))
 case atStart => exact ⟨0, by omega, rfl, rfl, zb (ze w), zb (by simp [zbB])⟩
 case round =>
  obtain ⟨j, hj, rfl, rfl, hF, hC⟩ := hrel
  by_cases hlt : j < n
  ·have hm : l[j]? = some (l[j]'(by rw [Hn.out]; exact hlt)) := List.getElem?_eq_getElem _
   generalize l[j]'(by rw [Hn.out]; exact hlt) = m at hm;obtain ⟨b, off, rfl, hb1, hr⟩ := zJ Hl.out Hwl.out.wid (by decide) (by intro e; rw [e] at hm; simp at hm);have lX := z9 za4 hr Hwl.out.wid (by omega) hm;have wm := Hwl.out m (za8 hm);have hR := zeg (l.take j);have hR2 := ze6 m;have hlen : (l.take j).length = j := by rw [List.length_take, Hn.out]; omega
   rw [hlen] at hR;have Hs := zb (zfd hm);have Hst := zb (zlT hm (zbB (l.take j)));have cB := fun W0 W h => zjc (W0 := W0) (W := W) wm h;have hF1 := hF.out;generalize zbB (l.take j) = s at *;generalize zc9 m = t at *;have hjz : (j : Int) < (n : Int) := by omega
   by_cases hfit : s + t ≤ 96
   ·have hC2 : Hid (zdK 0 l = (j + 1) + zdK (s + t) (l.drop (j + 1))) := zb (by rw [hC.out, Hst.out, if_pos hfit]; omega)
    clear hm hr hlen hlt hC Hst
    go_wp2_with (first
     | (go_at_call 75; (with_reducible refine (cB w _ (by assumption)).mono ?_); rintro e w9 ⟨rfl, hz⟩)
     | fail)
    go_roundg (gk - 1)
    case measure => omega
    case rel => exact ⟨j + 1, by omega, by rw [Hs.out], rfl, zb hz, by rw [Hs.out]; exact hC2⟩
   ·have hC2 : Hid (zdK 0 l = j) := zb (by rw [hC.out, Hst.out, if_neg hfit]; omega)
    have q := zfw (some ⟨b, off, none⟩) n c j j (Nat.le_refl _) (by omega);clear hm hr hlen hlt hC Hst
    go_wp2_with (first
     | (go_at_call 75; (with_reducible refine (cB w _ (by assumption)).mono ?_); rintro e w9 ⟨rfl, hz⟩)
     | fail)
    go_ret;rw [hC2.out];exact ⟨rfl, hz⟩
  ·have hjn : j = n := by omega
   have hC2 : Hid (zdK 0 l = j) := zb (by rw [hC.out, List.drop_eq_nil_of_le (by rw [Hn.out]; omega)]; rfl);have q := zfw A n c j j (Nat.le_refl _) (by omega);have hjz : ¬ (j : Int) < (n : Int) := by omega
   clear hlt hjn hC hj;go_wp2_with fail;go_ret;rw [hC2.out];exact ⟨rfl, hF.out⟩
theorem ziN : ∀ {l : List RM} {c d : Int}, c ≤ d → zaS l c ≤ zaS l d
 | [], _, _, _ => Nat.le_refl _
 | m :: l, c, d, h => by
  have := ziN (l := l) h;unfold zaS
  split <;> split <;> omega
theorem lo_hi {l : List RM} {ps : List RK} (hp : OkP ps) (i : Nat) : loP l ps i ≤ hiP l ps i ∧ hiP l ps i ≤ l.length := by
 unfold loP hiP;have hle := zes l ((ps.map zu).getD (i - 1) 0);have hle2 := zes l ((ps.map zu).getD i 0)
 split
 ·split
  ·exact ⟨Nat.zero_le _, Nat.le_refl _⟩
  ·exact ⟨Nat.zero_le _, hle2⟩
 ·split
  ·exact ⟨hle, Nat.le_refl _⟩
  ·exact ⟨ziN (by have := hp.lt (i := i - 1) (j := i) (by omega) (by omega); omega), hle2⟩
def zgl (l : List RM) (ps : List RK) (i : Int) : List RM := if 0 ≤ i ∧ i ≤ (ps.length : Int) then zah l ps i.toNat else []
theorem max_two {P : Program} {n m : Int} (h : n ≤ m) : ∀ (ts : Array TypeId) (t : TypeId) (w : World), (Builtin.max_ ts t #[.int .i64 n, .int .i64 m]).run P w = .ok (.int .i64 m) w := fun ts t w => by
 simp only [Builtin.max_, Builtin.max2, List.foldlM, Sem.run_bind, Sem.run_pure, Result.andThen_ok]
 congr 2
 split <;> omega
theorem zgZ (A : Option Addr) (m : Nat) : zia A m 0 = A := by
 unfold zia
 cases A <;> simp [Addr.add]
theorem OkP.wid {ps : List RK} (h : OkP ps) : Wid kc 9 ps := fun k _ => zl k
theorem zjG {ps : List RK} {j : Nat} {k : RK} (h : ps[j]? = some k) : (ps.map zu).getD j 0 = zu k := by
 simp [List.getD, h]
set_option maxHeartbeats 4000000 in
theorem znc {w : World} {A A2 : Option Addr} {n c B n2 c2 B2 : Nat} {l : List RM} {ps : List RK} (hl : Has w B A (zm mc l)) (hB : B ≤ w.heap.size) (hn : l.length = n) (hnc : n ≤ c) (hsm : n ≤ 100000) (ol : OkL l) (hp : Has w B2 A2 (zm kc ps)) (hB2 : B2 ≤ w.heap.size) (hn2 : ps.length = n2) (hsm2 : n2 ≤ 100000) (op : OkP ps) (i : Nat) (hi : i ≤ n2) :
 Calls Tryz.prog 52 #[.slice A n c, .slice A2 n2 c2, .int .i64 i] w fun e w' => e = .returned (.slice (zia A (hiP l ps i) (loP l ps i)) (hiP l ps i - loP l ps i) (hiP l ps i - loP l ps i)) ∧ Fr w w' := by
 have cP : ∀ W k, Fr w W → k.wf → okB k = true → Calls Tryz.prog 76 #[.slice A n c, kv k] W fun e w' => e = .returned (.tuple #[.int .i64 (zaS l (zu k) : Nat), .bool (zaj l k).isSome]) ∧ Fr w w' := fun W k hW wk ok =>
  (zh5 (hl.fr hB hW) (Nat.le_trans hB hW.size) hn (by omega) ol wk ok).mono fun e w' ⟨he, h⟩ => ⟨he, za hW h⟩
 have hlh := lo_hi (l := l) op i;rw [hn] at hlh;have q := ziq A n c (loP l ps i) (hiP l ps i) (hiP l ps i) hlh.1 (Nat.le_refl _) (by omega);have hmax := max_two (P := Tryz.prog) (n := (loP l ps i : Nat)) (m := (hiP l ps i : Nat)) (by omega);have hww := ze w;have hhc : hiP l ps i ≤ c := by omega
 have hw9 := op.wid;have d1 : ¬ (i : Int) < 0 := by omega
 have d2 : ¬ (n2 : Int) < (i : Int) := by omega
 by_cases h0 : i = 0
 ·have elo : loP l ps i = 0 := by rw [loP, if_pos h0]
  rw [elo] at q hmax ⊢;rw [show ((0 : Nat) : Int) = 0 from rfl] at q hmax;rw [zgZ] at q;have d3 : ¬ (0 : Int) < (i : Int) := by omega
  by_cases h1 : n2 ≤ i
  ·have ehi : hiP l ps i = n := by rw [hiP, if_pos (by omega), hn]
   rw [ehi] at q hmax ⊢;have d4 : ¬ (i : Int) < (n2 : Int) := by omega
   clear hl hp ol op hlh hn hn2 elo ehi h0 h1 hw9;go_enter Tryz.func52, Tryz.ntmps52;go_wp2_with fail;go_ret;exact ⟨by rw [zgZ]; rfl, hww⟩
  ·have hk : ps[i]? = some (ps[i]'(by omega)) := List.getElem?_eq_getElem _
   generalize ps[i]'(by omega) = k at hk;have ehi : hiP l ps i = zaS l (zu k) := by rw [hiP, if_neg (by omega), zjG hk]
   obtain ⟨b, off, rfl, hb1, hr⟩ := zJ hp hw9 (by decide) (by intro e; rw [e] at hk; simp at hk);have lk := z9 zaf hr hw9 (by omega) hk;have gk := op.good k (List.mem_of_getElem? hk);have cP1 := fun W h => cP W k h gk.1 gk.2;have d4 : (i : Int) < (n2 : Int) := by omega
   rw [← ehi] at cP1;generalize hiP l ps i = hi at *;clear hl hp ol op hlh hn hn2 elo ehi h0 h1 hw9 cP hr hk gk;go_enter Tryz.func52, Tryz.ntmps52
   go_wp2_with (first
    | (go_at_call 76; (with_reducible refine (cP1 _ (by assumption)).mono ?_); rintro e w1 ⟨rfl, hz1⟩)
    | fail)
   go_ret;exact ⟨by rw [zgZ]; rfl, hz1⟩
 ·have d3 : (0 : Int) < (i : Int) := by omega
  have hk : ps[i - 1]? = some (ps[i - 1]'(by omega)) := List.getElem?_eq_getElem _;generalize ps[i - 1]'(by omega) = k at hk;have elo : loP l ps i = zaS l (zu k) := by rw [loP, if_neg h0, zjG hk]
  obtain ⟨b, off, rfl, hb1, hr⟩ := zJ hp hw9 (by decide) (by intro e; rw [e] at hk; simp at hk);have lk := z9 zaf hr hw9 (by omega) hk;have gk := op.good k (List.mem_of_getElem? hk);have cP1 := fun W h => cP W k h gk.1 gk.2;rw [← elo] at cP1;have e1 : (i : Int) - 1 = ((i - 1 : Nat) : Int) := by omega
  have e2 : ((i : Int) - 1).toNat = i - 1 := by omega
  have e3 : (0 : Int) ≤ (i : Int) - 1 := by omega
  have e4 : (i : Int) - 1 < (n2 : Int) := by omega
  by_cases h1 : n2 ≤ i
  ·have ehi : hiP l ps i = n := by rw [hiP, if_pos (by omega), hn]
   rw [ehi] at q hmax ⊢;have d4 : ¬ (i : Int) < (n2 : Int) := by omega
   generalize loP l ps i = lo at *;clear hl hp ol op hlh hn hn2 elo ehi h0 h1 hw9 cP hr hk gk e1;go_enter Tryz.func52, Tryz.ntmps52
   go_wp2_with (first
    | (go_at_call 76; (with_reducible refine (cP1 _ (by assumption)).mono ?_); rintro e w1 ⟨rfl, hz1⟩)
    | fail)
   go_ret;exact ⟨rfl, hz1⟩
  ·have hk2 : ps[i]? = some (ps[i]'(by omega)) := List.getElem?_eq_getElem _
   generalize ps[i]'(by omega) = k2 at hk2;have ehi : hiP l ps i = zaS l (zu k2) := by rw [hiP, if_neg (by omega), zjG hk2]
   have lk2 := z9 zaf hr hw9 (by omega) hk2;have gk2 := op.good k2 (List.mem_of_getElem? hk2);have cP2 := fun W h => cP W k2 h gk2.1 gk2.2;rw [← ehi] at cP2;have d4 : (i : Int) < (n2 : Int) := by omega
   generalize loP l ps i = lo at *;generalize hiP l ps i = hi at *;clear hl hp ol op hlh hn hn2 elo ehi h0 h1 hw9 cP hr hk gk hk2 gk2 e1;go_enter Tryz.func52, Tryz.ntmps52
   go_wp2_with (first
    | (go_at_call 76; (with_reducible refine (cP1 _ (by assumption)).mono ?_); rintro e w1 ⟨rfl, hz1⟩)
    | (go_at_call 76; (with_reducible refine (cP2 _ (by assumption)).mono ?_); rintro e w2 ⟨rfl, hz2⟩)
    | fail)
   go_ret;exact ⟨rfl, hz2⟩
end
section
attribute [local go_sem ↓] zt zw zaX
set_option maxHeartbeats 2000000 in
theorem zlR {w : World} {A : Option Addr} {n c B : Nat} {l : List RM} (p : RM → Bool) (g : Nat) (cb : Array Value) (eg : ∀ args w, (callFunc g args).run Tryz.prog w = .ok (.enter g args) w)
 (hl : Has w B A (zm mc l)) (hB : B ≤ w.heap.size) (hn : l.length = n) (hsm : n ≤ 100000) (wl : WfM l)
 (hp : ∀ W m, Fr w W → m ∈ l → Calls Tryz.prog g (#[mm m] ++ cb) W fun e w' => e = .returned (.bool (p m)) ∧ Fr W w') :
 Calls Tryz.prog 102 #[.slice A n c, .func (.func g) #[] cb] w fun e w' => Fr w w' ∧ ((e = .returned (.int .i64 (-1)) ∧ ∀ m ∈ l, p m = false) ∨ ∃ (k : Nat) (m : RM), e = .returned (.int .i64 k) ∧ l[k]? = some m ∧ p m = true ∧ ∀ t x, t < k → l[t]? = some x → p x = false) := by
 have Hl := zb hl;have Hn := zb hn;have Hwl := zb wl;have Hp := zb hp;clear hl hn wl hp;go_enter Tryz.func102, Tryz.ntmps102;go_wp2_with fail
 go_loopg [5, 8] n (fun gg _ s8 wr => ∃ j : Nat, j + gg = n ∧ s8 = .int .i64 j ∧ Hid (Fr w wr) ∧ Hid (∀ t x, t < j → l[t]? = some x → p x = false))
 case atStart => exact ⟨0, by omega, rfl, zb (ze w), zb (fun t x h => by omega)⟩
 case round =>
  obtain ⟨j, hj, rfl, hF, hno⟩ := hrel
  by_cases hlt : j < n
  ·have hm : l[j]? = some (l[j]'(by rw [Hn.out]; exact hlt)) := List.getElem?_eq_getElem _
   generalize l[j]'(by rw [Hn.out]; exact hlt) = m at hm;obtain ⟨b, off, rfl, hb1, hr⟩ := zJ Hl.out Hwl.out.wid (by decide) (by intro e; rw [e] at hm; simp at hm);have lX := z9 za4 hr Hwl.out.wid (by omega) hm;have hc := Hp.out wr m hF.out (za8 hm);have Hm := zb hm;have hF1 := hF.out;have hjz : (j : Int) < (n : Int) := by omega
   clear hm hr hlt
   cases hq : p m with
   | true =>
    rw [hq] at hc
    go_wp2_with (first | (go_at_fn g; refine hc.mono ?_; rintro e w' ⟨rfl, hz⟩) | fail)
    go_ret;exact ⟨za hF1 hz, .inr ⟨j, m, rfl, Hm.out, hq, hno.out⟩⟩
   | false =>
    rw [hq] at hc;have Hq := zb hq;clear hq
    go_wp2_with (first | (go_at_fn g; refine hc.mono ?_; rintro e w' ⟨rfl, hz⟩) | fail)
    go_roundg (gk - 1)
    case measure => omega
    case rel => exact ⟨j + 1, by omega, rfl, zb (za hF1 hz), zb (fun t x ht hx => by
     by_cases e : t = j
     ·subst e
      rw [Hm.out] at hx
      injection hx with hx
      rw [← hx]; exact Hq.out
     ·exact hno.out t x (by omega) hx)⟩
  ·have hjn : j = n := by omega
   have hjz : ¬ (j : Int) < (n : Int) := by omega
   clear hlt;go_wp2_with fail;go_ret;refine ⟨hF.out, .inl ⟨rfl, fun m hm => ?_⟩⟩;obtain ⟨t, ht, e⟩ := List.mem_iff_getElem.1 hm;exact hno.out t m (by rw [hjn, ← Hn.out]; exact ht) (by rw [List.getElem?_eq_getElem ht, e])
set_option maxHeartbeats 2000000 in
theorem zlG {w : World} {A : Option Addr} {n c B : Nat} {l : List RM} (p : RM → Bool) (g : Nat) (cb : Array Value) (eg : ∀ args w, (callFunc g args).run Tryz.prog w = .ok (.enter g args) w)
 (hl : Has w B A (zm mc l)) (hB : B ≤ w.heap.size) (hn : l.length = n) (hsm : n ≤ 100000) (wl : WfM l)
 (hp : ∀ W m, Fr w W → m ∈ l → Calls Tryz.prog g (#[mm m] ++ cb) W fun e w' => e = .returned (.bool (p m)) ∧ Fr W w') :
 Calls Tryz.prog 79 #[.slice A n c, .func (.func g) #[] cb] w fun e w' => e = .returned (.bool (l.any p)) ∧ Fr w w' := by
 have cI := zlR (c := c) p g cb eg hl hB hn hsm wl hp;clear hl hp;go_enter Tryz.func79, Tryz.ntmps79;go_wp2_with fail;refine cI.mono ?_;rintro e w' ⟨hz, ⟨rfl, hno⟩ | ⟨k, m, rfl, hk, hpm, -⟩⟩
 ·have hany : l.any p = false := by rw [List.any_eq_false]; intro x hx; simp [hno x hx]
  have Hany := zb hany;clear hno hany cI;go_wp2_with fail;go_ret;exact ⟨by rw [Hany.out]; rfl, hz⟩
 ·have hany : l.any p = true := List.any_eq_true.2 ⟨m, List.mem_of_getElem? hk, hpm⟩
  have Hany := zb hany;have hkz : (0 : Int) ≤ (k : Int) := by omega
  clear hk hpm hany cI;go_wp2_with fail;go_ret;exact ⟨by rw [Hany.out]; rfl, hz⟩
set_option maxHeartbeats 2000000 in
theorem less_cl2 {W : World} {mb : Nat} {m x : RM} (hM : Arr W mb 64 (mc m).toArray) (wm : m.wf) (wx : x.wf) :
 Calls Tryz.prog 80 #[mm x, .pointer (some ⟨mb, 0, none⟩)] W fun e w' => e = .returned (.bool (decide (x.key = m.key))) ∧ Fr W w' := by
 obtain ⟨Z, hZ, hF, hZZ, hX, hS⟩ := zcK W x;have lX := zaN hX;have lM := zaN (hM.below hF hM.lt);have qE := fun W => zcH wx.key wm.key W;generalize decide (x.key = m.key) = q at *;clear hM hX;go_enter Tryz.func80, Tryz.ntmps80;go_wp2_with fail;go_ret;exact ⟨rfl, hF⟩
theorem any_find {gone : List RM} {k : RK} : (gone.any fun x => decide (x.key = k)) = (zaj gone k).isSome := by
 induction gone with
 | nil => rfl
 | cons y gone ih =>
  rw [zai, List.any_cons, ih]
  by_cases e : y.key = k <;> simp [e]
set_option maxHeartbeats 2000000 in
theorem less_cl1 {W : World} {gb : Nat} {A : Option Addr} {n c B : Nat} {gone : List RM} {m : RM} (hG : W.cell? ⟨gb, 0, none⟩ = some (.slice A n c)) (hgl : gb < W.heap.size) (hl : Has W B A (zm mc gone)) (hB : B ≤ W.heap.size) (hn : gone.length = n) (hsm : n ≤ 100000) (wl : WfM gone) (wm : m.wf) :
 Calls Tryz.prog 78 #[mm m, .pointer (some ⟨gb, 0, none⟩)] W fun e w' => e = .returned (.bool (zaj gone m.key).isSome) ∧ Fr W w' := by
 obtain ⟨Z, hZ, hF, hZZ, hX, hS⟩ := zcK W m;have eg : ∀ args w, (callFunc 80 args).run Tryz.prog w = .ok (.enter 80 args) w := enters_of Tryz.func80 (by kernel_rfl) rfl
 have cC := zlG (w := Z) (c := c) (fun x => decide (x.key = m.key)) 80 #[.pointer (some ⟨W.heap.size, 0, none⟩)] eg (hl.fr hB hF) (Nat.le_trans hB hF.size) hn hsm wl
  (fun V x hV hx => less_cl2 (hX.below hV hX.lt) wm (wl x hx))
 rw [any_find] at cC;have hg2 : Z.cell? ⟨gb, 0, none⟩ = some (.slice A n c) := (hF.cell hgl).trans hG;generalize (zaj gone m.key).isSome = q at *;clear hl hX eg hG;go_enter Tryz.func78, Tryz.ntmps78;go_wp2_with fail;refine cC.mono ?_;rintro e w' ⟨rfl, hz⟩;go_wp2_with fail;go_ret;exact ⟨rfl, za hF hz⟩
end
section
attribute [local go_sem ↓] zt zw zaX
theorem zg2 {P : Program} {α : Type} {cf : α → List Value} {w : World} {ops : Array Oper} {rest : List Oper} {o : Oper} {a : Act} {Q : Exit → Act → World → Prop} {B T size n c g j : Nat} {l : List α} {x : α} (hs : (P.info? T).map (·.size) = some size) (hgd : o.guard = none) (px py : Operand) (hop : o.op = .store T px py)
 (hx : a.eval px = .pointer (some ⟨g, j * size, none⟩)) (hy : a.eval py = .agg (cf x).toArray) (ho : Own w B T size (some ⟨g, 0, none⟩) n c (zm cf l)) (hw : Wid cf size l) (hn : l.length = n) (hj : j < n) (ha : (cf x).length = size) (h1 : One (cf x)) (hB : B ≤ w.heap.size)
 (h : ∀ W, Own W B T size (some ⟨g, 0, none⟩) n c (zm cf (l.set j x)) → Below B w W → wpList P ops Q rest (a.put o.dst undef) W) : wpList P ops Q (o :: rest) a w := by
 obtain ⟨cur', st, so, sb⟩ := znl (P := P) hs ho hw hn hj ha h1;refine wpList_plain hgd fun K hK => ?_;unfold Oper.wp execOp;have hr := st w (ze w);simp only [stS] at hr;simp only [hop, hx, hy, Sem.run_bind, Sem.run_pure, Result.andThen_ok, hr];exact hK _ _ (h _ (so w (ze w)) (sb w (ze w) (Nat.le_refl _) B (Nat.le_refl _) hB))
theorem zd2 {P : Program} (w : World) {ops : Array Oper} {rest : List Oper} {o : Oper} {a : Act} {Q : Exit → Act → World → Prop} (hgd : o.guard = none) (d : Operand) (t : TypeId)
 (ho : o.op = .call { callee := .builtin .clear, args := #[d], argTypes := #[t] }) (v : Value) (hd : a.eval d = v) {v' : Value} {w' : World}
 (hr : (Builtin.clear_ #[t] o.type #[v]).run P w = .ok v' w') (h : wpList P ops Q rest (a.put o.dst v') w') : wpList P ops Q (o :: rest) a w :=
 wpList_plain hgd fun _ hK => by
  unfold Oper.wp execOp;simp only [ho, resolve, invoke, builtin, Sem.run_bind, Sem.run_pure, Result.andThen_ok, List.map_toArray, List.map_cons, List.map_nil, hd, hr];exact hK _ _ h
theorem msg_zero : ∃ i, Tryz.prog.info? 64 = some i ∧ i.size = 29 ∧ i.zero = some (mm za0) := by
 have e1 : (Tryz.prog.info? 64).bind (·.zero) = some (mm za0) := by kernel_rfl
 have e2 : (Tryz.prog.info? 64).map (·.size) = some 29 := by kernel_rfl
 cases h : Tryz.prog.info? 64 with
 | none => rw [h] at e2; cases e2
 | some i =>
  rw [h] at e1 e2;exact ⟨i, rfl, by simpa using e2, by simpa using e1⟩
structure zfH (p : RM → Bool) (l l' : List RM) (i j : Nat) : Prop where
 lt : i < j
 len : l'.length = l.length
 low : l'.take i = (l.take j).filter fun m => !p m
 high : l'.drop j = l.drop j
 wf : WfM l'
theorem WfM.set {l : List RM} {m : RM} (h : WfM l) (wm : m.wf) (i : Nat) : WfM (l.set i m) := fun x hx => by
 rcases List.mem_or_eq_of_mem_set hx with h2 | h2
 ·exact h x h2
 ·rw [h2]; exact wm
theorem zfH.at {p : RM → Bool} {l l' : List RM} {i j : Nat} (h : zfH p l l' i j) : l'[j]? = l[j]? := by
 have := congrArg (fun q => q[0]?) h.high
 simpa using this
theorem zfH.skip {p : RM → Bool} {l l' : List RM} {i j : Nat} {m : RM} (h : zfH p l l' i j) (hm : l[j]? = some m) (hp : p m = true) : zfH p l l' i (j + 1) where
 lt := by have := h.lt; omega
 len := h.len
 low := by rw [zav hm, List.filter_append, h.low]; simp [hp]
 high := by rw [← List.drop_drop, ← List.drop_drop, h.high]
 wf := h.wf
theorem zfH.keep {p : RM → Bool} {l l' : List RM} {i j : Nat} {m : RM} (h : zfH p l l' i j) (hm : l[j]? = some m) (hp : p m = false) (wm : m.wf) : zfH p l (l'.set i m) (i + 1) (j + 1) where
 lt := by have := h.lt; omega
 len := by rw [List.length_set, h.len]
 low := by
  have hj := (List.getElem?_eq_some_iff.1 hm).1;have hi : i < l'.length := by have := h.lt; have := h.len; omega
  have e : (l'.set i m)[i]? = some m := by simp [hi]
  rw [zav e, List.take_set_of_le (Nat.le_refl _), h.low, zav hm, List.filter_append];simp [hp]
 high := by
  rw [List.drop_set_of_lt (by have := h.lt; omega), ← List.drop_drop, ← List.drop_drop, h.high]
 wf := h.wf.set wm i
theorem zfH.start {p : RM → Bool} {l : List RM} {k : Nat} {m : RM} (hm : l[k]? = some m) (hp : p m = true) (hno : ∀ t x, t < k → l[t]? = some x → p x = false) (wl : WfM l) : zfH p l l k (k + 1) where
 lt := Nat.lt_succ_self _
 len := rfl
 low := by
  rw [zav hm, List.filter_append]
  have : (l.take k).filter (fun m => !p m) = l.take k := List.filter_eq_self.2 fun x hx => by
   obtain ⟨t, ht, e⟩ := List.mem_iff_getElem.1 hx;have h3 : (l.take k)[t]? = some x := by rw [List.getElem?_eq_getElem ht, e]
   rw [List.getElem?_take] at h3
   split at h3
   ·rename_i h4; simp [hno t x h4 h3]
   ·cases h3
  rw [this];simp [hp]
 high := rfl
 wf := wl
theorem zfH.done {p : RM → Bool} {l l' : List RM} {i : Nat} (h : zfH p l l' i l.length) : l'.take i = l.filter fun m => !p m := by
 have := h.low
 rwa [List.take_of_length_le (Nat.le_refl _)] at this
set_option maxHeartbeats 4000000 in
theorem znZ {w : World} {A : Option Addr} {n c B : Nat} {l : List RM} (p : RM → Bool) (cb : Array Value) (ho : zaC w B A c l) (hB : B ≤ w.heap.size) (hn : l.length = n) (hsm : n ≤ 100000) (wl : WfM l)
 (hp : ∀ W m, Below B w W → m ∈ l → Calls Tryz.prog 78 (#[mm m] ++ cb) W fun e w' => e = .returned (.bool (p m)) ∧ Fr W w') :
 Calls Tryz.prog 77 #[.slice A n c, .func (.func 78) #[] cb] w fun e w' => ∃ A' c', e = .returned (.slice A' (l.filter fun m => !p m).length c') ∧ zaC w' B A' c' (l.filter fun m => !p m) ∧ Below B w w' := by
 have eg : ∀ args w, (callFunc 78 args).run Tryz.prog w = .ok (.enter 78 args) w := enters_of Tryz.func78 (by kernel_rfl) rfl;have cI := zlR (c := c) p 78 cb eg ho.has (Nat.le_refl _) hn hsm wl (fun W m hW hm => hp W m (hW.mono hB) hm);have Ho := zb ho;have Hn := zb hn;have Hwl := zb wl;have Hp := zb hp;clear ho hn wl hp eg;go_enter Tryz.func77, Tryz.ntmps77;go_wp2_with fail;refine cI.mono ?_;rintro e w1 ⟨hz, ⟨rfl, hno⟩ | ⟨k, m, rfl, hk, hpm, hno⟩⟩
 ·have hf : l.filter (fun m => !p m) = l := List.filter_eq_self.2 fun x hx => by simp [hno x hx]
  have Hf := zb hf;clear hno hf cI;go_wp2_with fail;go_ret;refine ⟨A, c, ?_, ?_, hz.mono hB⟩
  ·rw [Hf.out, Hn.out]; rfl
  ·rw [Hf.out]; exact Ho.out.fr hz
 ·have hkn : k < n := by rw [← Hn.out]; exact (List.getElem?_eq_some_iff.1 hk).1
  have HI := zb (zfH.start hk hpm hno Hwl.out);have hk1 : ¬ ((k : Int) = -1) := by omega
  have HO1 : Hid (Own w1 B 64 29 A n c (zm mc l)) := zb (by have := Ho.out.fr hz; unfold zaC at this; rwa [Hn.out] at this);have HB1 := zb (hz.mono hB);obtain ⟨g, rfl⟩ := HO1.out.addr (by omega);have hgB : B ≤ g := HO1.out.row.2.1;clear hk hpm hno cI;go_wp2_with fail
  go_loopg [5, 6] n (fun gg s5 s6 wr => ∃ (i j : Nat) (l' : List RM), j ≤ n ∧ n - j ≤ gg ∧ s5 = .int .i64 i ∧ s6 = .int .i64 j ∧ Hid (zfH p l l' i j) ∧ Hid (Own wr B 64 29 (some ⟨g, 0, none⟩) n c (zm mc l')) ∧ Hid (Below B w wr))
  case atStart => exact ⟨k, k + 1, l, hkn, by omega, rfl, rfl, HI, HO1, HB1⟩
  case round =>
   clear HI HO1 HB1;obtain ⟨i, j, l', hjn, hjg, rfl, rfl, HI, HO, HB⟩ := hrel;have hij := HI.out.lt
   by_cases hlt : j < n
   ·have hm : l[j]? = some (l[j]'(by rw [Hn.out]; exact hlt)) := List.getElem?_eq_getElem _
    generalize l[j]'(by rw [Hn.out]; exact hlt) = m at hm;have hm' : l'[j]? = some m := by rw [HI.out.at, hm]
    have hr : wr.rangeAt g 0 (zm mc l') := fun t v ht => by
     obtain ⟨b, off, e, -, hc⟩ := HO.out.has t v ht
     injection e with e
     injection e with e1 e2
     subst e1 e2;exact hc
    have hgl := (HO.out.lt g rfl).2;have lX := z9 za4 hr HI.out.wf.wid hgl hm';rw [Nat.zero_add] at lX;have wm := Hwl.out m (za8 hm);have Hm := zb hm;have Hlm := zb (zP wm.val.hl);have hBr := Nat.le_trans hB HB.out.size;have hrr := ze wr;have hjz : (j : Int) < (n : Int) := by omega
    have Hln : Hid (l'.length = n) := zb (by rw [HI.out.len, Hn.out]);have cD := fun W (h : Fr wr W) => Hp.out W m (HB.out.trans (h.mono hBr)) (za8 Hm.out);clear hm hm' hr hlt
    cases hq : p m with
    | true =>
     rw [hq] at cD;have Hq := zb hq;clear hq
     go_wp2_with (first
      | (refine zi (ds := mc m) zX rfl (.tmp 7) (.tmp 25) rfl wr.heap.size 0 rfl rfl Hlm.out (zay _) (Arr.new wr (mc za0).toArray 64) (by decide) (zk _ _ (by rw [Hlm.out]; decide)) ?_; intro W5 hM5 hk5; have hF5 := hk5.fr (zf hrr _) (Nat.le_refl _); clear hk5; have lM := zbg hM5 wm.val.hl; have h55 := ze W5)
      | fail)
     refine (cD W5 hF5).mono ?_;rintro e w9 ⟨rfl, hz9⟩;have hF9 := za hF5 hz9;go_wp2_with fail
     go_roundg (gk - 1)
     case measure => omega
     case rel => exact ⟨i, j + 1, l', by omega, by omega, rfl, rfl, zb (HI.out.skip Hm.out Hq.out), zb (HO.out.below hF9 (Nat.le_refl _)), zb (HB.out.trans (hF9.mono hBr))⟩
    | false =>
     rw [hq] at cD;have Hq := zb hq;clear hq;have hin : (i : Int) < (n : Int) := by omega
     go_wp2_with (first
      | (refine zi (ds := mc m) zX rfl (.tmp 7) (.tmp 25) rfl wr.heap.size 0 rfl rfl Hlm.out (zay _) (Arr.new wr (mc za0).toArray 64) (by decide) (zk _ _ (by rw [Hlm.out]; decide)) ?_; intro W5 hM5 hk5; have hF5 := hk5.fr (zf hrr _) (Nat.le_refl _); clear hk5; have lM := zbg hM5 wm.val.hl; have h55 := ze W5)
      | fail)
     refine (cD W5 hF5).mono ?_;rintro e w9 ⟨rfl, hz9⟩;have hF9 := za hF5 hz9;have HO9 := zb (HO.out.below hF9 (Nat.le_refl _));have hB9 : B ≤ w9.heap.size := Nat.le_trans hBr hF9.size
     go_wp2_with (first
      | (refine zg2 (x := m) zX rfl (.tmp 33) (.tmp 32) rfl rfl rfl HO9.out HI.out.wf.wid Hln.out (by omega) Hlm.out (zay _) hB9 ?_; intro W10 ho10 hb10)
      | fail)
     go_roundg (gk - 1)
     case measure => omega
     case rel => exact ⟨i + 1, j + 1, l'.set i m, by omega, by omega, rfl, rfl, zb (HI.out.keep Hm.out Hq.out wm), zb ho10, zb ((HB.out.trans (hF9.mono hBr)).trans hb10)⟩
   ·have hjn2 : j = n := by omega
    have hjz : ¬ (j : Int) < (n : Int) := by omega
    have hdone : l'.take i = l.filter fun m => !p m := zfH.done (by rw [hjn2, ← Hn.out] at HI; exact HI.out);have hlen : (l'.take i).length = i := by rw [List.length_take, HI.out.len, Hn.out]; omega
    obtain ⟨inf, hinf, hsize, hz0⟩ := msg_zero;have hin : i < n := by omega
    obtain ⟨w2, ys, hr, ho2, hg2⟩ := zfA (P := Tryz.prog) (size := 29) wr 25 0 inf (mm za0) za9 hinf hz0 rfl (zay _) HO.out i (c - i) (i * 29) (Nat.le_of_lt hin) (.inl rfl);have hpre := ho2.pre (Nat.le_of_lt hin);have hwid := HI.out.wf.wid
    have e1 : (((zm mc l').take (i * 29)) ++ ys).take (i * 29) = zm mc (l'.take i) := by
     rw [List.take_left' (by rw [List.length_take, zaa hwid, HI.out.len, Hn.out]; omega), ← zbq hwid]
    rw [e1, hdone] at hpre;rw [hdone] at hlen;have Hpre := zb hpre;have Hlen := zb hlen;have hnc := HO.out.cap;have q1 := zbk (some ⟨g, 0, none⟩) n c i (by omega);rw [zci (by omega), Nat.zero_add] at q1;have q2 := zdW (some ⟨g, 0, none⟩) n c i (by omega);have Hb := zb (HB.out.trans (zaF hg2 hgB (Nat.le_trans hB HB.out.size)));clear hlt hjn2 hdone hlen hinf hsize hz0 hpre hwid e1 ho2 hg2 inf HI HO HB
    go_wp2_with (first
     | (refine zd2 _ rfl (.tmp 38) 25 rfl _ rfl hr ?_)
     | fail)
    go_ret;refine ⟨some ⟨g, 0, none⟩, c, by rw [Hlen.out]; rfl, ?_, Hb.out⟩;unfold zaC;rw [Hlen.out];exact Hpre.out
theorem gone_box (w : World) (A : Option Addr) (n c : Nat) : ∃ Z, w.alloc (.cells #[.slice A n c] 25) = Z ∧ Fr w Z ∧ Fr Z Z ∧ Arr Z w.heap.size 25 #[.slice A n c] ∧ Z.heap.size = w.heap.size + 1 := ⟨_, rfl, zf (ze w) _, ze _, Arr.new w _ _, by simp⟩
set_option maxHeartbeats 2000000 in
theorem zm4 {w : World} {A A2 : Option Addr} {n c B n2 c2 B2 : Nat} {l gone : List RM} (hl : Has w B A (zm mc l)) (hB : B ≤ w.heap.size) (hn : l.length = n) (hsm : n ≤ 100000) (wl : WfM l) (hl2 : Has w B2 A2 (zm mc gone)) (hB2 : B2 ≤ w.heap.size) (hn2 : gone.length = n2) (hsm2 : n2 ≤ 100000) (wg : WfM gone) :
 Calls Tryz.prog 53 #[.slice A n c, .slice A2 n2 c2] w fun e w' => ∃ A' c', e = .returned (.slice A' (zaL l gone).length c') ∧ zaC w' w.heap.size A' c' (zaL l gone) ∧ Fr w w' := by
 obtain ⟨Z, hZ, hF, hZZ, hG, hS⟩ := gone_box w A2 n2 c2;have hBZ : B ≤ Z.heap.size := Nat.le_trans hB hF.size;have hBZ2 : B2 ≤ Z.heap.size := Nat.le_trans hB2 hF.size;have hlZ := hl.fr hB hF;have hl2Z := hl2.fr hB2 hF;have cC := ziw (c := c) hlZ hBZ hn (by omega) wl
 have cD : ∀ W A' c', Fr Z W → zaC W Z.heap.size A' c' l → Calls Tryz.prog 77 #[.slice A' n c', .func (.func 78) #[] #[.pointer (some ⟨w.heap.size, 0, none⟩)]] W fun e w' => ∃ A' c', e = .returned (.slice A' (zaL l gone).length c') ∧ zaC w' Z.heap.size A' c' (zaL l gone) ∧ Below Z.heap.size W w' := fun W A' c' hW ho =>
  znZ (fun m => (zaj gone m.key).isSome) #[.pointer (some ⟨w.heap.size, 0, none⟩)] ho hW.size hn hsm wl (fun V m hV hm => by
   have hZV : Fr Z V := hW.trans hV;exact less_cl1 ((hZV.cell hG.lt).trans (hG.cell 0)) (Nat.lt_of_lt_of_le hG.lt hZV.size) (hl2Z.fr hBZ2 hZV) (Nat.le_trans hBZ2 hZV.size) hn2 hsm2 wg (wl m hm))
 have hSz := hF.size;clear hl hlZ hl2 hl2Z hG;go_enter Tryz.func53, Tryz.ntmps53
 go_wp2_with (first
  | (go_at_call 50; refine cC.mono ?_; rintro e w1 ⟨A1, c1, rfl, ho1, hz1⟩)
  | fail)
 refine (cD _ _ _ hz1 ho1).mono ?_;rintro e w2 ⟨A9, c9, rfl, ho2, hz2⟩;go_wp2_with fail;go_ret;exact ⟨A9, c9, rfl, ho2.mono hSz, za hF (hz1.trans hz2)⟩
end
end Go.Proofs.YtmjjjdikpnhpiaaGreat
