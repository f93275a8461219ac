/- Buffers in memory, seven: 'Add', 'Find', 'Bytes'. -/
import Derived.Test.YtnbbjieblgpjfaaBufA
import Derived.Test.YtnbbjieblgpjfaaMsgF
import Derived.Test.YtnbbjieblgpjfaaBuf0
namespace Go.Proofs.Ytnbbjieblgpjfaa
set_option linter.unusedVariables false
set_option linter.unusedSimpArgs false
set_option maxRecDepth 100000
open Go.RowKit
section
attribute [local go_sem ↓] zt zw zaX
theorem Has.fr {w W : World} {B : Nat} {A : Option Addr} {xs : List Value} (h : Has w B A xs) (hB : B ≤ w.heap.size) (hF : Fr w W) : Has W B A xs := h.below (hF.mono hB)
theorem zaC.fr {w W : World} {B : Nat} {A : Option Addr} {c : Nat} {l : List RM} (h : zaC w B A c l) (hF : Fr w W) : zaC W B A c l := Own.below h hF (Nat.le_refl _)
def findV (o : Option RM) : Value := .tuple #[mm (o.getD za0), .bool o.isSome]
theorem key_box (w : World) (k : RK) : ∃ Z, (w.alloc (.cells (kc k).toArray 69)).alloc (.cells (mc za0).toArray 77) = Z ∧ Fr w Z ∧ Fr Z Z ∧ Arr Z w.heap.size 69 (kc k).toArray ∧ Arr Z (w.heap.size + 1) 77 (mc za0).toArray ∧ Z.heap.size = w.heap.size + 1 + 1 :=
 ⟨_, rfl, zf (zf (ze w) _) _, ze _, Arr.alloc (Arr.new w _ _) _, zbr _ _ _ _ (by simp), by simp⟩
end
section
attribute [local go_sem ↓] zt zw zaX
theorem ze6 (m : RM) : 0 ≤ zc9 m ∧ zc9 m ≤ 35 := by
 cases h : okM m with
 | true => have := bytM_bd h; omega
 | false => simp [zc9, h]
theorem zeg : ∀ l : List RM, 0 ≤ zbB l ∧ zbB l ≤ 35 * (l.length : Int)
 | [] => by simp [zbB]
 | m :: l => by
  have h1 := ze6 m;have h2 := zeg l;rw [zoO];simp only [List.length_cons];omega
theorem zav {α : Type} {l : List α} {j : Nat} {a : α} (h : l[j]? = some a) : l.take (j + 1) = l.take j ++ [a] := by
 obtain ⟨hj, e⟩ := List.getElem?_eq_some_iff.1 h;rw [List.take_add_one, h];rfl
theorem zfd {l : List RM} {j : Nat} {m : RM} (h : l[j]? = some m) : zbB (l.take (j + 1)) = zbB (l.take j) + zc9 m := by
 rw [zav h, bytL_app];simp [zbB]
set_option maxHeartbeats 2000000 in
theorem bytes_at {w : World} {A : Option Addr} {n c B : Nat} {l : List RM} (hl : Has w B A (zm mc l)) (hB : B ≤ w.heap.size) (hn : l.length = n) (hsm : n ≤ 100000) (wl : WfM l) :
 Calls Try.prog 96 #[.slice A n c] w fun e w' => e = .returned (.int .i64 (zbB l)) ∧ Fr w w' := by
 have Hl := zb hl;have Hn := zb hn;have Hwl := zb wl;clear hl hn wl;go_enter Try.func96, Try.ntmps96;go_wp2_with fail
 go_loopg [3, 8] n (fun g s3 s8 wr => ∃ j : Nat, j + g = n ∧ s3 = .int .i64 (zbB (l.take j)) ∧ s8 = .int .i64 j ∧ Hid (Fr w wr))
 case atStart => exact ⟨0, by omega, rfl, rfl, zb (ze w)⟩
 case round =>
  obtain ⟨j, hj, rfl, rfl, hF⟩ := hrel
  by_cases hlt : j < n
  ·have hm : l[j]? = some (l[j]'(by rw [Hn.out]; exact hlt)) := List.getElem?_eq_getElem _
   generalize l[j]'(by rw [Hn.out]; exact hlt) = m at hm;obtain ⟨b, off, rfl, hb1, hr⟩ := zJ Hl.out Hwl.out.wid (by decide) (by intro e; rw [e] at hm; simp at hm);have lX := z9 za4 hr Hwl.out.wid (by omega) hm;have wm := Hwl.out m (za8 hm);have hR := zeg (l.take j);have hR2 := ze6 m;have hlen : (l.take j).length = j := by rw [List.length_take, Hn.out]; omega
   rw [hlen] at hR;have Hs := zb (zfd hm);have cB := fun W0 W h => zjc (W0 := W0) (W := W) wm h;have Hm := zb (zP wm.val.hl);have hF1 := hF.out;generalize zbB (l.take j) = s at *;generalize zc9 m = t at *;have hjz : (j : Int) < (n : Int) := by omega
   clear hm hr hlen hlt
   go_wp2_with (first
    | (refine zi (ds := mc m) zX rfl (.tmp 5) (.tmp 11) rfl wr.heap.size 0 rfl rfl Hm.out (zay _) (Arr.new wr (mc za0).toArray 77) (by decide) (zk _ _ (by rw [Hm.out]; decide)) ?_; intro W5 hM5 hk5; have hF5 := hk5.fr (zf hF1 _) hF1.size; clear hk5; have lM := zbg hM5 wm.val.hl; have h55 := ze W5)
    | (go_at_call 112; (with_reducible refine (cB W5 _ (by assumption)).mono ?_); rintro e w9 ⟨rfl, hz⟩)
    | fail)
   go_roundg (gk - 1)
   case measure => omega
   case rel => exact ⟨j + 1, by omega, by rw [Hs.out], rfl, zb (za hF5 hz)⟩
  ·have : j = n := by omega
   subst this;have e : l.take j = l := List.take_of_length_le (by rw [Hn.out]; exact Nat.le_refl _);rw [e];go_wp2_with fail;go_ret;exact ⟨rfl, hF.out⟩
set_option maxHeartbeats 2000000 in
theorem ziW {w : World} {A : Option Addr} {n c B : Nat} {l : List RM} (hl : Has w B A (zm mc l)) (hB : B ≤ w.heap.size) (hn : l.length = n) (hsm : n ≤ 100000) (wl : WfM l) :
 Calls Try.prog 67 #[.slice A n c] w fun e w' => e = .returned (.int .i64 (zbB l)) ∧ Fr w w' := by
 have Hl := zb hl;have Hn := zb hn;have Hwl := zb wl;clear hl hn wl;go_enter Try.func67, Try.ntmps67;go_wp2_with fail
 go_loopg [3, 4] n (fun g s3 s8 wr => ∃ j : Nat, j + g = n ∧ s3 = .int .i64 (zbB (l.take j)) ∧ s8 = .int .i64 j ∧ Hid (Fr w wr))
 case atStart => exact ⟨0, by omega, rfl, rfl, zb (ze w)⟩
 case round =>
  obtain ⟨j, hj, rfl, rfl, hF⟩ := hrel
  by_cases hlt : j < n
  ·have hm : l[j]? = some (l[j]'(by rw [Hn.out]; exact hlt)) := List.getElem?_eq_getElem _
   generalize l[j]'(by rw [Hn.out]; exact hlt) = m at hm;obtain ⟨b, off, rfl, hb1, hr⟩ := zJ Hl.out Hwl.out.wid (by decide) (by intro e; rw [e] at hm; simp at hm);have lX := z9 za4 hr Hwl.out.wid (by omega) hm;have wm := Hwl.out m (za8 hm);have hR := zeg (l.take j);have hR2 := ze6 m;have hlen : (l.take j).length = j := by rw [List.length_take, Hn.out]; omega
   rw [hlen] at hR;have Hs := zb (zfd hm);have cB := fun W0 W h => zh3 (W0 := W0) (W := W) wm h;have Hm := zb (zP wm.val.hl);have hF1 := hF.out;generalize zbB (l.take j) = s at *;generalize zc9 m = t at *;have hjz : (j : Int) < (n : Int) := by omega
   clear hm hr hlen hlt
   go_wp2_with (first
    | (go_at_call 91; (with_reducible refine (cB w _ (by assumption)).mono ?_); rintro e w9 ⟨rfl, hz⟩)
    | fail)
   go_roundg (gk - 1)
   case measure => omega
   case rel => exact ⟨j + 1, by omega, by rw [Hs.out], rfl, zb hz⟩
  ·have : j = n := by omega
   subst this;have e : l.take j = l := List.take_of_length_le (by rw [Hn.out]; exact Nat.le_refl _);rw [e];go_wp2_with fail;go_ret;exact ⟨rfl, hF.out⟩
theorem zhq : ∀ (l : List RM) (m : RM), (zaK l m).length ≤ l.length + 1
 | [], m => by simp [zaK]
 | x :: l, m => by
  have := zhq l m;unfold zaK
  split
  ·simpa using this
  ·split <;> simp
theorem zfR : ∀ (more l : List RM), (zcg l more).length ≤ l.length + more.length
 | [], l => by simp [zcg]
 | m :: more, l => by
  have h1 := zfR more (zaK l m);have h2 := zhq l m;have e : zcg l (m :: more) = zcg (zaK l m) more := rfl;rw [e];simp only [List.length_cons];omega
theorem zjn {l more : List RM} {j : Nat} {m : RM} (h : more[j]? = some m) : zcg l (more.take (j + 1)) = zaK (zcg l (more.take j)) m := by
 rw [zav h];unfold zcg;rw [List.foldl_append];rfl
end
section
attribute [local go_sem ↓] zt zw zaX
theorem zlT {l : List RM} {j : Nat} {m : RM} (h : l[j]? = some m) (s : Int) : zdK s (l.drop j) = if s + zc9 m ≤ 96 then zdK (s + zc9 m) (l.drop (j + 1)) + 1 else 0 := by
 obtain ⟨hj, e⟩ := List.getElem?_eq_some_iff.1 h;rw [List.drop_eq_getElem_cons hj, e, zdK]
 by_cases hf : s + zc9 m ≤ 96
 ·rw [if_pos hf, if_neg (by omega)]
 ·rw [if_neg hf, if_pos (by omega)]
theorem ziN : ∀ {l : List RM} {c d : Int}, c ≤ d → zaS l c ≤ zaS l d
 | [], _, _, _ => Nat.le_refl _
 | m :: l, c, d, h => by
  have := ziN (l := l) h;unfold zaS
  split <;> split <;> omega
theorem lo_hi {l : List RM} {ps : List RK} (hp : OkP ps) (i : Nat) : loP l ps i ≤ hiP l ps i ∧ hiP l ps i ≤ l.length := by
 unfold loP hiP;have hle := zes l ((ps.map zu).getD (i - 1) 0);have hle2 := zes l ((ps.map zu).getD i 0)
 split
 ·split
  ·exact ⟨Nat.zero_le _, Nat.le_refl _⟩
  ·exact ⟨Nat.zero_le _, hle2⟩
 ·split
  ·exact ⟨hle, Nat.le_refl _⟩
  ·exact ⟨ziN (by have := hp.lt (i := i - 1) (j := i) (by omega) (by omega); omega), hle2⟩
def zgl (l : List RM) (ps : List RK) (i : Int) : List RM := if 0 ≤ i ∧ i ≤ (ps.length : Int) then zah l ps i.toNat else []
theorem max_two {P : Program} {n m : Int} (h : n ≤ m) : ∀ (ts : Array TypeId) (t : TypeId) (w : World), (Builtin.max_ ts t #[.int .i64 n, .int .i64 m]).run P w = .ok (.int .i64 m) w := fun ts t w => by
 simp only [Builtin.max_, Builtin.max2, List.foldlM, Sem.run_bind, Sem.run_pure, Result.andThen_ok]
 congr 2
 split <;> omega
theorem zgZ (A : Option Addr) (m : Nat) : zia A m 0 = A := by
 unfold zia
 cases A <;> simp [Addr.add]
theorem OkP.wid {ps : List RK} (h : OkP ps) : Wid kc 9 ps := fun k _ => zl k
theorem zjG {ps : List RK} {j : Nat} {k : RK} (h : ps[j]? = some k) : (ps.map zu).getD j 0 = zu k := by
 simp [List.getD, h]
end
section
attribute [local go_sem ↓] zt zw zaX
theorem any_find {gone : List RM} {k : RK} : (gone.any fun x => decide (x.key = k)) = (zaj gone k).isSome := by
 induction gone with
 | nil => rfl
 | cons y gone ih =>
  rw [zai, List.any_cons, ih]
  by_cases e : y.key = k <;> simp [e]
end
section
attribute [local go_sem ↓] zt zw zaX
theorem zg2 {P : Program} {α : Type} {cf : α → List Value} {w : World} {ops : Array Oper} {rest : List Oper} {o : Oper} {a : Act} {Q : Exit → Act → World → Prop} {B T size n c g j : Nat} {l : List α} {x : α} (hs : (P.info? T).map (·.size) = some size) (hgd : o.guard = none) (px py : Operand) (hop : o.op = .store T px py)
 (hx : a.eval px = .pointer (some ⟨g, j * size, none⟩)) (hy : a.eval py = .agg (cf x).toArray) (ho : Own w B T size (some ⟨g, 0, none⟩) n c (zm cf l)) (hw : Wid cf size l) (hn : l.length = n) (hj : j < n) (ha : (cf x).length = size) (h1 : One (cf x)) (hB : B ≤ w.heap.size)
 (h : ∀ W, Own W B T size (some ⟨g, 0, none⟩) n c (zm cf (l.set j x)) → Below B w W → wpList P ops Q rest (a.put o.dst undef) W) : wpList P ops Q (o :: rest) a w := by
 obtain ⟨cur', st, so, sb⟩ := znl (P := P) hs ho hw hn hj ha h1;refine wpList_plain hgd fun K hK => ?_;unfold Oper.wp execOp;have hr := st w (ze w);simp only [stS] at hr;simp only [hop, hx, hy, Sem.run_bind, Sem.run_pure, Result.andThen_ok, hr];exact hK _ _ (h _ (so w (ze w)) (sb w (ze w) (Nat.le_refl _) B (Nat.le_refl _) hB))
theorem zd2 {P : Program} (w : World) {ops : Array Oper} {rest : List Oper} {o : Oper} {a : Act} {Q : Exit → Act → World → Prop} (hgd : o.guard = none) (d : Operand) (t : TypeId)
 (ho : o.op = .call { callee := .builtin .clear, args := #[d], argTypes := #[t] }) (v : Value) (hd : a.eval d = v) {v' : Value} {w' : World}
 (hr : (Builtin.clear_ #[t] o.type #[v]).run P w = .ok v' w') (h : wpList P ops Q rest (a.put o.dst v') w') : wpList P ops Q (o :: rest) a w :=
 wpList_plain hgd fun _ hK => by
  unfold Oper.wp execOp;simp only [ho, resolve, invoke, builtin, Sem.run_bind, Sem.run_pure, Result.andThen_ok, List.map_toArray, List.map_cons, List.map_nil, hd, hr];exact hK _ _ h
theorem msg_zero : ∃ i, Try.prog.info? 77 = some i ∧ i.size = 29 ∧ i.zero = some (mm za0) := by
 have e1 : (Try.prog.info? 77).bind (·.zero) = some (mm za0) := by kernel_rfl
 have e2 : (Try.prog.info? 77).map (·.size) = some 29 := by kernel_rfl
 cases h : Try.prog.info? 77 with
 | none => rw [h] at e2; cases e2
 | some i =>
  rw [h] at e1 e2;exact ⟨i, rfl, by simpa using e2, by simpa using e1⟩
structure zfH (p : RM → Bool) (l l' : List RM) (i j : Nat) : Prop where
 lt : i < j
 len : l'.length = l.length
 low : l'.take i = (l.take j).filter fun m => !p m
 high : l'.drop j = l.drop j
 wf : WfM l'
theorem WfM.set {l : List RM} {m : RM} (h : WfM l) (wm : m.wf) (i : Nat) : WfM (l.set i m) := fun x hx => by
 rcases List.mem_or_eq_of_mem_set hx with h2 | h2
 ·exact h x h2
 ·rw [h2]; exact wm
theorem zfH.at {p : RM → Bool} {l l' : List RM} {i j : Nat} (h : zfH p l l' i j) : l'[j]? = l[j]? := by
 have := congrArg (fun q => q[0]?) h.high
 simpa using this
theorem zfH.skip {p : RM → Bool} {l l' : List RM} {i j : Nat} {m : RM} (h : zfH p l l' i j) (hm : l[j]? = some m) (hp : p m = true) : zfH p l l' i (j + 1) where
 lt := by have := h.lt; omega
 len := h.len
 low := by rw [zav hm, List.filter_append, h.low]; simp [hp]
 high := by rw [← List.drop_drop, ← List.drop_drop, h.high]
 wf := h.wf
theorem zfH.keep {p : RM → Bool} {l l' : List RM} {i j : Nat} {m : RM} (h : zfH p l l' i j) (hm : l[j]? = some m) (hp : p m = false) (wm : m.wf) : zfH p l (l'.set i m) (i + 1) (j + 1) where
 lt := by have := h.lt; omega
 len := by rw [List.length_set, h.len]
 low := by
  have hj := (List.getElem?_eq_some_iff.1 hm).1;have hi : i < l'.length := by have := h.lt; have := h.len; omega
  have e : (l'.set i m)[i]? = some m := by simp [hi]
  rw [zav e, List.take_set_of_le (Nat.le_refl _), h.low, zav hm, List.filter_append];simp [hp]
 high := by
  rw [List.drop_set_of_lt (by have := h.lt; omega), ← List.drop_drop, ← List.drop_drop, h.high]
 wf := h.wf.set wm i
theorem zfH.start {p : RM → Bool} {l : List RM} {k : Nat} {m : RM} (hm : l[k]? = some m) (hp : p m = true) (hno : ∀ t x, t < k → l[t]? = some x → p x = false) (wl : WfM l) : zfH p l l k (k + 1) where
 lt := Nat.lt_succ_self _
 len := rfl
 low := by
  rw [zav hm, List.filter_append]
  have : (l.take k).filter (fun m => !p m) = l.take k := List.filter_eq_self.2 fun x hx => by
   obtain ⟨t, ht, e⟩ := List.mem_iff_getElem.1 hx;have h3 : (l.take k)[t]? = some x := by rw [List.getElem?_eq_getElem ht, e]
   rw [List.getElem?_take] at h3
   split at h3
   ·rename_i h4; simp [hno t x h4 h3]
   ·cases h3
  rw [this];simp [hp]
 high := rfl
 wf := wl
theorem zfH.done {p : RM → Bool} {l l' : List RM} {i : Nat} (h : zfH p l l' i l.length) : l'.take i = l.filter fun m => !p m := by
 have := h.low
 rwa [List.take_of_length_le (Nat.le_refl _)] at this
theorem gone_box (w : World) (A : Option Addr) (n c : Nat) : ∃ Z, w.alloc (.cells #[.slice A n c] 25) = Z ∧ Fr w Z ∧ Fr Z Z ∧ Arr Z w.heap.size 25 #[.slice A n c] ∧ Z.heap.size = w.heap.size + 1 := ⟨_, rfl, zf (ze w) _, ze _, Arr.new w _ _, by simp⟩
end
end Go.Proofs.Ytnbbjieblgpjfaa
