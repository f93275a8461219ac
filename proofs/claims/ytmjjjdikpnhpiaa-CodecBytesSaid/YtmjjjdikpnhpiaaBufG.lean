/- Buffers in memory, seven: 'Add', 'Find', 'Bytes'. -/
import Derived.Test.YtmjjjdikpnhpiaaBufA
import Derived.Test.YtmjjjdikpnhpiaaMsgF
import Derived.Test.YtmjjjdikpnhpiaaBuf0
namespace Go.Proofs.Ytmjjjdikpnhpiaa
set_option linter.unusedVariables false
set_option linter.unusedSimpArgs false
set_option maxRecDepth 100000
open Go.RowKit
section
attribute [local go_sem ↓] zt zw zaX
theorem Has.fr {w W : World} {B : Nat} {A : Option Addr} {xs : List Value} (h : Has w B A xs) (hB : B ≤ w.heap.size) (hF : Fr w W) : Has W B A xs := h.below (hF.mono hB)
theorem zaC.fr {w W : World} {B : Nat} {A : Option Addr} {c : Nat} {l : List RM} (h : zaC w B A c l) (hF : Fr w W) : zaC W B A c l := Own.below h hF (Nat.le_refl _)
def findV (o : Option RM) : Value := .tuple #[mm (o.getD za0), .bool o.isSome]
end
section
attribute [local go_sem ↓] zt zw zaX
theorem ze6 (m : RM) : 0 ≤ zc9 m ∧ zc9 m ≤ 35 := by
 cases h : okM m with
 | true => have := bytM_bd h; omega
 | false => simp [zc9, h]
theorem zeg : ∀ l : List RM, 0 ≤ zbB l ∧ zbB l ≤ 35 * (l.length : Int)
 | [] => by simp [zbB]
 | m :: l => by
  have h1 := ze6 m;have h2 := zeg l;rw [zoO];simp only [List.length_cons];omega
theorem zav {α : Type} {l : List α} {j : Nat} {a : α} (h : l[j]? = some a) : l.take (j + 1) = l.take j ++ [a] := by
 obtain ⟨hj, e⟩ := List.getElem?_eq_some_iff.1 h;rw [List.take_add_one, h];rfl
theorem zfd {l : List RM} {j : Nat} {m : RM} (h : l[j]? = some m) : zbB (l.take (j + 1)) = zbB (l.take j) + zc9 m := by
 rw [zav h, bytL_app];simp [zbB]
set_option maxHeartbeats 2000000 in
theorem bytes_at {w : World} {A : Option Addr} {n c B : Nat} {l : List RM} (hl : Has w B A (zm mc l)) (hB : B ≤ w.heap.size) (hn : l.length = n) (hsm : n ≤ 100000) (wl : WfM l) :
 Calls Try.prog 69 #[.slice A n c] w fun e w' => e = .returned (.int .i64 (zbB l)) ∧ Fr w w' := by
 have Hl := zb hl;have Hn := zb hn;have Hwl := zb wl;clear hl hn wl;go_enter Try.func69, Try.ntmps69;go_wp2_with fail
 go_loopg [3, 8] n (fun g s3 s8 wr => ∃ j : Nat, j + g = n ∧ s3 = .int .i64 (zbB (l.take j)) ∧ s8 = .int .i64 j ∧ Hid (Fr w wr))
 case atStart => exact ⟨0, by omega, rfl, rfl, zb (ze w)⟩
 case round =>
  obtain ⟨j, hj, rfl, rfl, hF⟩ := hrel
  by_cases hlt : j < n
  ·have hm : l[j]? = some (l[j]'(by rw [Hn.out]; exact hlt)) := List.getElem?_eq_getElem _
   generalize l[j]'(by rw [Hn.out]; exact hlt) = m at hm;obtain ⟨b, off, rfl, hb1, hr⟩ := zJ Hl.out Hwl.out.wid (by decide) (by intro e; rw [e] at hm; simp at hm);have lX := z9 za4 hr Hwl.out.wid (by omega) hm;have wm := Hwl.out m (za8 hm);have hR := zeg (l.take j);have hR2 := ze6 m;have hlen : (l.take j).length = j := by rw [List.length_take, Hn.out]; omega
   rw [hlen] at hR;have Hs := zb (zfd hm);have cB := fun W0 W h => zjc (W0 := W0) (W := W) wm h;have Hm := zb (zP wm.val.hl);have hF1 := hF.out;generalize zbB (l.take j) = s at *;generalize zc9 m = t at *;have hjz : (j : Int) < (n : Int) := by omega
   clear hm hr hlen hlt
   go_wp2_with (first
    | (refine zi (ds := mc m) zX rfl (.tmp 5) (.tmp 11) rfl wr.heap.size 0 rfl rfl Hm.out (zay _) (Arr.new wr (mc za0).toArray 81) (by decide) (zk _ _ (by rw [Hm.out]; decide)) ?_; intro W5 hM5 hk5; have hF5 := hk5.fr (zf hF1 _) hF1.size; clear hk5; have lM := zbg hM5 wm.val.hl; have h55 := ze W5)
    | (go_at_call 84; (with_reducible refine (cB W5 _ (by assumption)).mono ?_); rintro e w9 ⟨rfl, hz⟩)
    | fail)
   go_roundg (gk - 1)
   case measure => omega
   case rel => exact ⟨j + 1, by omega, by rw [Hs.out], rfl, zb (za hF5 hz)⟩
  ·have : j = n := by omega
   subst this;have e : l.take j = l := List.take_of_length_le (by rw [Hn.out]; exact Nat.le_refl _);rw [e];go_wp2_with fail;go_ret;exact ⟨rfl, hF.out⟩
set_option maxHeartbeats 2000000 in
theorem ziW {w : World} {A : Option Addr} {n c B : Nat} {l : List RM} (hl : Has w B A (zm mc l)) (hB : B ≤ w.heap.size) (hn : l.length = n) (hsm : n ≤ 100000) (wl : WfM l) :
 Calls Try.prog 76 #[.slice A n c] w fun e w' => e = .returned (.int .i64 (zbB l)) ∧ Fr w w' := by
 have Hl := zb hl;have Hn := zb hn;have Hwl := zb wl;clear hl hn wl;go_enter Try.func76, Try.ntmps76;go_wp2_with fail
 go_loopg [3, 4] n (fun g s3 s8 wr => ∃ j : Nat, j + g = n ∧ s3 = .int .i64 (zbB (l.take j)) ∧ s8 = .int .i64 j ∧ Hid (Fr w wr))
 case atStart => exact ⟨0, by omega, rfl, rfl, zb (ze w)⟩
 case round =>
  obtain ⟨j, hj, rfl, rfl, hF⟩ := hrel
  by_cases hlt : j < n
  ·have hm : l[j]? = some (l[j]'(by rw [Hn.out]; exact hlt)) := List.getElem?_eq_getElem _
   generalize l[j]'(by rw [Hn.out]; exact hlt) = m at hm;obtain ⟨b, off, rfl, hb1, hr⟩ := zJ Hl.out Hwl.out.wid (by decide) (by intro e; rw [e] at hm; simp at hm);have lX := z9 za4 hr Hwl.out.wid (by omega) hm;have wm := Hwl.out m (za8 hm);have hR := zeg (l.take j);have hR2 := ze6 m;have hlen : (l.take j).length = j := by rw [List.length_take, Hn.out]; omega
   rw [hlen] at hR;have Hs := zb (zfd hm);have cB := fun W0 W h => zh3 (W0 := W0) (W := W) wm h;have Hm := zb (zP wm.val.hl);have hF1 := hF.out;generalize zbB (l.take j) = s at *;generalize zc9 m = t at *;have hjz : (j : Int) < (n : Int) := by omega
   clear hm hr hlen hlt
   go_wp2_with (first
    | (go_at_call 90; (with_reducible refine (cB w _ (by assumption)).mono ?_); rintro e w9 ⟨rfl, hz⟩)
    | fail)
   go_roundg (gk - 1)
   case measure => omega
   case rel => exact ⟨j + 1, by omega, by rw [Hs.out], rfl, zb hz⟩
  ·have : j = n := by omega
   subst this;have e : l.take j = l := List.take_of_length_le (by rw [Hn.out]; exact Nat.le_refl _);rw [e];go_wp2_with fail;go_ret;exact ⟨rfl, hF.out⟩
end
section
attribute [local go_sem ↓] zt zw zaX
def zgl (l : List RM) (ps : List RK) (i : Int) : List RM := if 0 ≤ i ∧ i ≤ (ps.length : Int) then zah l ps i.toNat else []
theorem OkP.wid {ps : List RK} (h : OkP ps) : Wid kc 9 ps := fun k _ => zl k
end
section
attribute [local go_sem ↓] zt zw zaX
end
section
attribute [local go_sem ↓] zt zw zaX
theorem zg2 {P : Program} {α : Type} {cf : α → List Value} {w : World} {ops : Array Oper} {rest : List Oper} {o : Oper} {a : Act} {Q : Exit → Act → World → Prop} {B T size n c g j : Nat} {l : List α} {x : α} (hs : (P.info? T).map (·.size) = some size) (hgd : o.guard = none) (px py : Operand) (hop : o.op = .store T px py)
 (hx : a.eval px = .pointer (some ⟨g, j * size, none⟩)) (hy : a.eval py = .agg (cf x).toArray) (ho : Own w B T size (some ⟨g, 0, none⟩) n c (zm cf l)) (hw : Wid cf size l) (hn : l.length = n) (hj : j < n) (ha : (cf x).length = size) (h1 : One (cf x)) (hB : B ≤ w.heap.size)
 (h : ∀ W, Own W B T size (some ⟨g, 0, none⟩) n c (zm cf (l.set j x)) → Below B w W → wpList P ops Q rest (a.put o.dst undef) W) : wpList P ops Q (o :: rest) a w := by
 obtain ⟨cur', st, so, sb⟩ := znl (P := P) hs ho hw hn hj ha h1;refine wpList_plain hgd fun K hK => ?_;unfold Oper.wp execOp;have hr := st w (ze w);simp only [stS] at hr;simp only [hop, hx, hy, Sem.run_bind, Sem.run_pure, Result.andThen_ok, hr];exact hK _ _ (h _ (so w (ze w)) (sb w (ze w) (Nat.le_refl _) B (Nat.le_refl _) hB))
structure zfH (p : RM → Bool) (l l' : List RM) (i j : Nat) : Prop where
 lt : i < j
 len : l'.length = l.length
 low : l'.take i = (l.take j).filter fun m => !p m
 high : l'.drop j = l.drop j
 wf : WfM l'
theorem WfM.set {l : List RM} {m : RM} (h : WfM l) (wm : m.wf) (i : Nat) : WfM (l.set i m) := fun x hx => by
 rcases List.mem_or_eq_of_mem_set hx with h2 | h2
 ·exact h x h2
 ·rw [h2]; exact wm
theorem zfH.at {p : RM → Bool} {l l' : List RM} {i j : Nat} (h : zfH p l l' i j) : l'[j]? = l[j]? := by
 have := congrArg (fun q => q[0]?) h.high
 simpa using this
theorem zfH.skip {p : RM → Bool} {l l' : List RM} {i j : Nat} {m : RM} (h : zfH p l l' i j) (hm : l[j]? = some m) (hp : p m = true) : zfH p l l' i (j + 1) where
 lt := by have := h.lt; omega
 len := h.len
 low := by rw [zav hm, List.filter_append, h.low]; simp [hp]
 high := by rw [← List.drop_drop, ← List.drop_drop, h.high]
 wf := h.wf
theorem zfH.done {p : RM → Bool} {l l' : List RM} {i : Nat} (h : zfH p l l' i l.length) : l'.take i = l.filter fun m => !p m := by
 have := h.low
 rwa [List.take_of_length_le (Nat.le_refl _)] at this
end
end Go.Proofs.Ytmjjjdikpnhpiaa
