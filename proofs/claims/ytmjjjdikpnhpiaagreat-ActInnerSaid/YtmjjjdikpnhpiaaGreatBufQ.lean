/- Buffers in memory, sixteen: 'append' of one message; the document's 'Batch', 'Less'. -/
import Derived.Test.YtmjjjdikpnhpiaaGreatBufL
import Derived.Deep.Draws
import Derived.Test.YtmjjjdikpnhpiaaGreatShort
namespace Go.Proofs.YtmjjjdikpnhpiaaGreat
set_option linter.unusedVariables false
set_option linter.unusedSimpArgs false
set_option maxRecDepth 100000
open Go.RowKit
section
attribute [local go_sem ↓] zt zw zaX
theorem zhL {w0 w : World} {A : Option Addr} {n c V : Nat} {l : List RM} {x : RM} (h0 : Fr w0 w) (ho : zaC w w0.heap.size A c l) (hn : l.length = n) (hsm : n ≤ 200000) (wx : x.wf) (hV : V = w.heap.size) (ty : TypeId) :
 ∃ A' c' w', (Builtin.append_ #[25, 25] ty #[.slice A n c, .slice (some ⟨V, 0, none⟩) 1 1]).run Tryz.prog (w.alloc (.cells (mc x).toArray 64)) = .ok (.slice A' (n + 1) c') w' ∧ zaC w' w0.heap.size A' c' (l ++ [x]) ∧ Fr w0 w' := by
 subst hV;unfold zaC at ho;rw [hn] at ho;obtain ⟨i, z, hi, hz, hsize, hby, hzs⟩ := ze3.row;obtain ⟨A', c', w', hr, h1, h2, h3⟩ := zcM (P := Tryz.prog) (w.alloc (.cells (mc x).toArray 64)) w0.heap.size 25 ty 64 i z 29 64 za9 hi hz hsize hby hzs (by decide) A n c (zm mc l) (ho.alloc _) (w.heap.size + 1) (some ⟨w.heap.size, 0, none⟩) 1 1 (mc x) (zP wx.val.hl) (zax _ (Arr.new w _ _)) (zay x) (by unfold maxLen; omega) (by omega) (by have := h0.size; simp; omega);refine ⟨A', c', w', hr, ?_, zat (zf h0 _) (ho.alloc _) h2 (by have := h0.size; simp; omega) (Nat.le_refl _)⟩;unfold zaC;rw [List.length_append, hn, zas, zbj];exact h1
theorem zeC {P : Program} {w : World} {ops : Array Oper} {o : Oper} {a : Act} {K : Act → World → Prop} {Q : Exit → Act → World → Prop} {E : Prop} (hw : Region.wanted o (yielded ops a.tmps) = true) (d s : Operand) (t t' : TypeId)
 (ho : o.op = .call { callee := .builtin .append, args := #[d, s], argTypes := #[t, t'] }) (v u : Value) (hd : a.eval d = v) (hs : a.eval s = u) {v' : Value} {w' : World}
 (hr : (Builtin.append_ #[t, t'] o.type #[v, u]).run P w = .ok v' w') (hK : K (a.put o.dst v') w') : if Region.wanted o (yielded ops a.tmps) = true then Oper.wp P o a w K Q else E := by
 rw [if_pos hw];unfold Oper.wp execOp;simp only [ho, resolve, invoke, builtin, Sem.run_bind, Sem.run_pure, Result.andThen_ok, List.map_toArray, List.map_cons, List.map_nil, hd, hs, hr];exact hK
theorem zan {w0 w : World} {ops : Array Oper} {rest : List Oper} {o : Oper} {a : Act} {Q : Exit → Act → World → Prop} {A : Option Addr} {n c : Nat} {l : List RM} {x : RM} (d s : Operand) (hop : o.op = .call { callee := .builtin .append, args := #[d, s], argTypes := #[25, 25] }) (hgd : o.guard = none)
 (hd : a.eval d = .slice A n c) (hs : a.eval s = .slice (some ⟨w.heap.size, 0, none⟩) 1 1) (h0 : Fr w0 w) (ho : zaC w w0.heap.size A c l) (hn : l.length = n) (hsm : n ≤ 200000) (wx : x.wf)
 (h : ∀ A' c' w', zaC w' w0.heap.size A' c' (l ++ [x]) → Fr w0 w' → wpList Tryz.prog ops Q rest (a.put o.dst (.slice A' (n + 1) c')) w') : wpList Tryz.prog ops Q (o :: rest) a (w.alloc (.cells (mc x).toArray 64)) := by
 obtain ⟨A', c', w', hr, h1, h2⟩ := zhL (V := w.heap.size) h0 ho hn hsm wx rfl o.type;exact zbX _ hgd d s _ _ hop _ _ hd hs hr (h A' c' w' h1 h2)
theorem zhm {w0 w : World} {ops : Array Oper} {o : Oper} {a : Act} {K : Act → World → Prop} {Q : Exit → Act → World → Prop} {E : Prop} {A : Option Addr} {n c : Nat} {l : List RM} {x : RM} (d s : Operand) (hop : o.op = .call { callee := .builtin .append, args := #[d, s], argTypes := #[25, 25] }) (hgd : o.guard = none)
 (hd : a.eval d = .slice A n c) (hs : a.eval s = .slice (some ⟨w.heap.size, 0, none⟩) 1 1) (h0 : Fr w0 w) (ho : zaC w w0.heap.size A c l) (hn : l.length = n) (hsm : n ≤ 200000) (wx : x.wf)
 (hK : ∀ A' c' w', zaC w' w0.heap.size A' c' (l ++ [x]) → Fr w0 w' → K (a.put o.dst (.slice A' (n + 1) c')) w') : if Region.wanted o (yielded ops a.tmps) = true then Oper.wp Tryz.prog o a (w.alloc (.cells (mc x).toArray 64)) K Q else E := by
 obtain ⟨A', c', w', hr, h1, h2⟩ := zhL (V := w.heap.size) h0 ho hn hsm wx rfl o.type;exact zeC (by simp [Region.wanted, hgd]) d s _ _ hop _ _ hd hs hr (hK A' c' w' h1 h2)
theorem zdO {m : RM} (wm : m.wf) : List.foldl (fun (cs : Array Value) (x : Value × Nat) => cs.setIfInBounds x.snd x.fst) #[.int .i64 0, .int .u64 0, .int .i64 0, .int .u8 0, .int .u8 0, .int .u8 0, .int .u8 0, .int .u8 0, .int .u8 0, .int .u8 0, .int .u8 0, .int .i64 0, .int .u8 0, .int .u8 0, .int .u8 0, .int .u8 0, .int .u8 0, .int .u8 0, .int .u8 0, .int .u8 0, .int .u8 0, .int .u8 0, .int .u8 0, .int .u8 0, .int .u8 0, .int .u8 0, .int .u8 0, .int .u8 0, .int .u64 0] (mc m).zipIdx = (mc m).toArray := by
 have h := zlw (zP wm.val.hl);rw [zdM] at h;exact h
end
section
attribute [local go_sem ↓] zt zw zaX
end
section
attribute [local go_sem ↓] zt zw zaX
def zhk (l : List RM) (m : RM) (j : Nat) (p : Bool) (q : List RM) : Prop :=
 if p = true then q = zaK (l.take j) m ∧ ∃ y ∈ l.take j, cd m ≤ cd y else q = l.take j ∧ ∀ y ∈ l.take j, cd y < cd m
theorem zdN : ∀ {q : List RM} (r : List RM) {m : RM}, (∀ y ∈ q, cd y < cd m) → zaK (q ++ r) m = q ++ zaK r m
 | [], _, _, _ => rfl
 | x :: q, r, m, h => by
  show zaK (x :: (q ++ r)) m = _
  rw [zaK, if_pos (h x (by simp)), zdN r (fun y hy => h y (List.mem_cons_of_mem _ hy))];rfl
theorem zjj : ∀ {q : List RM} (x : RM) {m : RM}, (∃ y ∈ q, cd m ≤ cd y) → zaK (q ++ [x]) m = zaK q m ++ [x]
 | [], _, _, ⟨y, hy, _⟩ => by simp at hy
 | z :: q, x, m, ⟨y, hy, hle⟩ => by
  show zaK (z :: (q ++ [x])) m = _
  rw [zaK, zaK]
  by_cases h1 : cd z < cd m
  ·rw [if_pos h1, if_pos h1]
   have hq : ∃ y ∈ q, cd m ≤ cd y := by
    rcases List.mem_cons.1 hy with e | e
    ·subst e; omega
    ·exact ⟨y, e, hle⟩
   rw [zjj x hq];rfl
  ·rw [if_neg h1, if_neg h1]
   by_cases h2 : z.key = m.key
   ·rw [if_pos h2, if_pos h2]; rfl
   ·rw [if_neg h2, if_neg h2]; rfl
theorem addI_len {l q : List RM} {m : RM} {j : Nat} (h : zhk l m j false q) : q.length ≤ j := by
 obtain ⟨rfl, -⟩ : q = l.take j ∧ ∀ y ∈ l.take j, cd y < cd m := h;rw [List.length_take]; omega
theorem addI_lt {l q : List RM} {m x : RM} {j : Nat} (h : zhk l m j false q) (hx : l[j]? = some x) (hlt : cd x < cd m) : zhk l m (j + 1) false (q ++ [x]) := by
 obtain ⟨rfl, h2⟩ : q = l.take j ∧ ∀ y ∈ l.take j, cd y < cd m := h
 show l.take j ++ [x] = l.take (j + 1) ∧ ∀ y ∈ l.take (j + 1), cd y < cd m
 rw [zav hx];refine ⟨rfl, fun y hy => ?_⟩
 rcases List.mem_append.1 hy with e | e
 ·exact h2 y e
 ·simp at e; subst e; exact hlt
theorem addI_eq {l q : List RM} {m x : RM} {j : Nat} (h : zhk l m j false q) (hx : l[j]? = some x) (hk : x.key = m.key) : zhk l m (j + 1) true (q ++ [za7 x m]) := by
 obtain ⟨rfl, h2⟩ : q = l.take j ∧ ∀ y ∈ l.take j, cd y < cd m := h;have hc : cd x = cd m := by unfold cd; rw [hk]
 show _ = zaK (l.take (j + 1)) m ∧ ∃ y ∈ l.take (j + 1), cd m ≤ cd y
 rw [zav hx];refine ⟨?_, x, by simp, by omega⟩;rw [zdN [x] h2, zaK, if_neg (by omega), if_pos hk]
theorem addI_gt {l q : List RM} {m x : RM} {j : Nat} (h : zhk l m j false q) (hx : l[j]? = some x) (hgt : cd m < cd x) : zhk l m (j + 1) true (q ++ [m] ++ [x]) := by
 obtain ⟨rfl, h2⟩ : q = l.take j ∧ ∀ y ∈ l.take j, cd y < cd m := h
 show _ = zaK (l.take (j + 1)) m ∧ ∃ y ∈ l.take (j + 1), cd m ≤ cd y
 rw [zav hx];refine ⟨?_, x, by simp, by omega⟩;rw [zdN [x] h2, zaK, if_neg (by omega), if_neg (fun e => by have : cd x = cd m := (by unfold cd; rw [e]); omega)];simp
theorem zoC {l q : List RM} {m x : RM} {j : Nat} (h : zhk l m j true q) (hx : l[j]? = some x) : zhk l m (j + 1) true (q ++ [x]) := by
 obtain ⟨rfl, y, hy, hle⟩ : q = zaK (l.take j) m ∧ ∃ y ∈ l.take j, cd m ≤ cd y := h
 show _ = zaK (l.take (j + 1)) m ∧ ∃ y ∈ l.take (j + 1), cd m ≤ cd y
 rw [zav hx];exact ⟨(zjj x ⟨y, hy, hle⟩).symm, y, List.mem_append_left _ hy, hle⟩
theorem zhO {l q : List RM} {m x : RM} {j : Nat} (ol : OkL l) (h : zhk l m j true q) (hx : l[j]? = some x) : cd m < cd x := by
 obtain ⟨rfl, y, hy, hle⟩ : q = zaK (l.take j) m ∧ ∃ y ∈ l.take j, cd m ≤ cd y := h;obtain ⟨t, ht, e⟩ := List.mem_iff_getElem.1 hy;have h3 : (l.take j)[t]? = some y := by rw [List.getElem?_eq_getElem ht, e]
 rw [List.getElem?_take] at h3
 split at h3
 ·rename_i htj
  obtain ⟨a1, a2⟩ := List.getElem?_eq_some_iff.1 h3;obtain ⟨b1, b2⟩ := List.getElem?_eq_some_iff.1 hx;have := List.pairwise_iff_getElem.1 ol.asc t j a1 b1 htj;rw [a2, b2] at this;omega
 ·cases h3
theorem addI_end {l q : List RM} {m : RM} {j : Nat} {p : Bool} (h : zhk l m j p q) (hj : l.length ≤ j) : zaK l m = if p = true then q else q ++ [m] := by
 have e : l.take j = l := List.take_of_length_le hj
 cases p
 ·obtain ⟨rfl, h2⟩ : q = l.take j ∧ ∀ y ∈ l.take j, cd y < cd m := h
  rw [e] at h2 ⊢;have := zdN [] h2;rw [List.append_nil] at this;rw [this];rfl
 ·obtain ⟨rfl, -⟩ : q = zaK (l.take j) m ∧ ∃ y ∈ l.take j, cd m ≤ cd y := h
  rw [e];rfl
set_option maxHeartbeats 4000000 in
theorem zkh {w : World} {A : Option Addr} {n c B : Nat} {l : List RM} {m : RM} (hl : Has w B A (zm mc l)) (hB : B ≤ w.heap.size) (hn : l.length = n) (hsm : n ≤ 100000) (ol : OkL l) (wm : m.wf) (om : okM m = true) :
 Calls Tryz.prog 40 #[.slice A n c, mm m] w fun e w' => ∃ A' c', e = .returned (.slice A' (zaK l m).length c') ∧ zaC w' w.heap.size A' c' (zaK l m) ∧ Fr w w' := by
 obtain ⟨Z, hZ, hF, hZZ, hM, hS⟩ := zcK w m;have hBZ : B ≤ Z.heap.size := Nat.le_trans hB hF.size;have hSz := hF.size;have lM := zbg hM wm.val.hl;have lMk := zaN hM;have Hl := zb (hl.fr hB hF);have Hn := zb hn;have Hol := zb ol;have Hwm := zb wm;have hsz : (mc m).length = 29 := zP wm.val.hl;have hfo := zdO wm;clear hl hn ol hM;go_enter Tryz.func40, Tryz.ntmps40;go_wp2_with fail
 go_loopg [5, 6, 7] n (fun g s5 s6 s7 wr => ∃ (j : Nat) (p : Bool) (A' : Option Addr) (n' c' : Nat) (q : List RM), j + g = n ∧ s7 = .int .i64 j ∧ s6 = .bool p ∧ s5 = .slice A' n' c' ∧ n' ≤ j + 1 ∧ Hid (q.length = n') ∧ Hid (zaC wr Z.heap.size A' c' q) ∧ Hid (zhk l m j p q) ∧ Hid (Fr Z wr))
 case atStart => exact ⟨0, false, none, 0, 0, [], by omega, rfl, rfl, rfl, by omega, zb rfl, zb (Own.nil _ _ _ _), zb ⟨rfl, fun y hy => by simp at hy⟩, zb hZZ⟩
 case round =>
  obtain ⟨j, p, A', n', c', q, hj, rfl, rfl, rfl, hn'j, Hn', hO, HI, hZr⟩ := hrel
  by_cases hlt : j < n
  ·have hx : l[j]? = some (l[j]'(by rw [Hn.out]; exact hlt)) := List.getElem?_eq_getElem _
   generalize l[j]'(by rw [Hn.out]; exact hlt) = x at hx;have hwid := Hol.out.good.wfm.wid;obtain ⟨b, off, rfl, hb1, hr⟩ := zJ Hl.out hwid (by decide) (by intro e; rw [e] at hx; simp at hx);have lX := z9 za4 hr hwid (by omega) hx;have lXk := zak zaf hr hwid (by omega) hx (zcO x) (zl _);have gx := Hol.out.good x (za8 hx);have cK := fun W0 W h => zcF (W0 := W0) (W := W) gx.1.key wm.key (zaH gx.2) (zaH om) h;have hZ1 := hZr.out;have hrr := ze wr;have hZD := zn hZ1;have hrD := zn hrr;have hjz : (j : Int) < (n : Int) := by omega
   have HX := zb hx;have hszx : (mc x).length = 29 := zP gx.1.val.hl;have hfx := zdO gx.1;have Hwx := zb gx.1
   rcases Int.lt_trichotomy (cd x) (cd m) with hc | hc | hc
   ·have hr1 : zaB x.key m.key < 0 := zfc.2 hc
    have hp : p = false := by
     cases p with
     | false => rfl
     | true => have := zhO Hol.out HI.out hx; omega
    subst hp;have HI2 := zb (addI_lt HI.out hx hc);generalize zaB x.key m.key = r at *;have r1 : ¬ r = 0 := by omega
    have r2 : ¬ 0 < r := by omega
    clear hx hr hlt gx hc hwid wm om;go_wp2_with fail
    go_region_held3 (fun w' => Fr Z w' ∧ Fr wr w') (first | (go_split_ands; exact ⟨hZD, hrD⟩) | (go_split_ands; exact ⟨by assumption, by assumption⟩))
     (first
      | (go_at_call 26; (with_reducible refine (cK wr _ (by assumption)).mono ?_); rintro e w9 ⟨rfl, hz9⟩; have hZ9 := za hZ1 hz9))
    rename_i hH;obtain ⟨hWZ, hWr⟩ := hH;have hOW := hO.out.fr hWr
    go_wp2_with (first
     | (refine zan (.tmp 44) (.tmp 49) rfl rfl rfl rfl hWZ hOW Hn'.out (by omega) Hwx.out ?_; intro A9 c9 w10 ho9 hf9)
     | fail)
    go_roundg (gk - 1)
    case measure => omega
    case rel => exact ⟨j + 1, false, A9, n' + 1, c9, q ++ [x], by omega, rfl, rfl, rfl, by omega, zb (by rw [List.length_append, Hn'.out]; rfl), zb ho9, HI2, zb hf9⟩
   ·have hk : x.key = m.key := (zfK gx.1 wm gx.2 om).1 hc
    have hr1 : zaB x.key m.key = 0 := (zjJ gx.1.key wm.key (zaH gx.2) (zaH om)).2 hk
    have hp : p = false := by
     cases p with
     | false => rfl
     | true => have := zhO Hol.out HI.out hx; omega
    subst hp;have HI2 := zb (addI_eq HI.out hx hk);rw [hr1] at cK;have Hy := zb (zkj gx.1 wm);have hszy : (mc (za7 x m)).length = 29 := zP Hy.out.val.hl;have hfy := zdO Hy.out;have cC := fun W0 W h => zkf (W0 := W0) (W := W) gx.1 wm gx.2 om h;generalize za7 x m = y at *;clear hx hr hlt gx hc hwid wm om hk hr1;go_wp2_with fail
    go_region_held3 (fun w' => Fr Z w' ∧ Fr wr w') (first | (go_split_ands; exact ⟨hZD, hrD⟩) | (go_split_ands; exact ⟨by assumption, by assumption⟩))
     (first
      | (go_at_call 26; (with_reducible refine (cK wr _ (by assumption)).mono ?_); rintro e w9 ⟨rfl, hz9⟩; have hZ9 := za hZ1 hz9))
    rename_i hH;obtain ⟨hWZ, hWr⟩ := hH;have hOW := hO.out.fr hWr;have hWD := zn hWZ;go_wp2_with fail
    ·
     refine wp_region_noPanic ?_;refine wp_region_held_drew (S := fun w' => Fr Z w') (by kernel_rfl) hWD (fun hHeld => ?_);change wpAnyH _ _ _ _ _ _ _ _ _;refine xto 0 ?_;refine xto 1 ?_;refine xto 2 ?_;refine xto 3 ?_;refine xto 4 ?_;refine xto 5 ?_;refine xr 6 fun K hK0 => ?_;go_simp;refine (cC _ _ (ze _)).mono ?_;rintro e w9 ⟨rfl, hz9⟩;have hZ9 := za hWD hz9;have hO9 := zaC.fr (zct hOW) hz9;go_simp;refine xk hK0 hZ9 ?_;clear hK0 K;refine xr 7 fun K hK0 => ?_;go_simp;refine xk hK0 (zf hZ9 _) ?_;clear hK0 K;refine xr 8 fun K hK0 => ?_;refine zhm (.tmp 25) (.tmp 32) rfl rfl ?_ ?_ hZ9 hO9 Hn'.out (by omega) Hy.out ?_
     ·rfl
     ·rfl
     intro A9 c9 w10 ho9 hf9;refine xk hK0 hf9 ?_;clear hK0 K hHeld
     try simp only [xs, Act.put]
     refine xto 9 ?_;refine wpAnyH_done (by kernel_rfl) ?_ _;refine NoPanic.normal ?_;go_wp2_with fail
     go_roundg (gk - 1)
     case measure => omega
     case rel => exact ⟨j + 1, true, A9, n' + 1, c9, q ++ [y], by omega, rfl, rfl, rfl, by omega, zb (by rw [List.length_append, Hn'.out]; rfl), zb ho9, HI2, zb hf9⟩
   ·have hr1 : 0 < zaB x.key m.key := zjF.2 hc
    cases p with
    | false =>
     have hq2 : n' ≤ j := by have := addI_len HI.out; rw [Hn'.out] at this; exact this
     have HI2 := zb (addI_gt HI.out hx hc);generalize zaB x.key m.key = r at *;have r1 : ¬ r = 0 := by omega
     have Hn2 : Hid ((q ++ [m]).length = n' + 1) := zb (by rw [List.length_append, Hn'.out]; rfl);clear hx hr hlt gx hc hwid wm om;go_wp2_with fail
     go_region_held3 (fun w' => Fr Z w' ∧ Fr wr w') (first | (go_split_ands; exact ⟨hZD, hrD⟩) | (go_split_ands; exact ⟨by assumption, by assumption⟩))
      (first
       | (go_at_call 26; (with_reducible refine (cK wr _ (by assumption)).mono ?_); rintro e w9 ⟨rfl, hz9⟩; have hZ9 := za hZ1 hz9))
     rename_i hH;obtain ⟨hWZ, hWr⟩ := hH;have hOW := hO.out.fr hWr
     go_wp2_with (first
      | (refine zan (.tmp 40) (.tmp 42) rfl rfl rfl rfl hWZ hOW Hn'.out (by omega) Hwm.out ?_; intro A8 c8 w8 ho8 hf8)
      | (refine zan (.tmp 44) (.tmp 49) rfl rfl rfl rfl hf8 ho8 Hn2.out (by omega) Hwx.out ?_; intro A9 c9 w10 ho9 hf9)
      | fail)
     go_roundg (gk - 1)
     case measure => omega
     case rel => exact ⟨j + 1, true, A9, n' + 1 + 1, c9, q ++ [m] ++ [x], by omega, rfl, rfl, rfl, by omega, zb (by rw [List.length_append, Hn2.out]; rfl), zb ho9, HI2, zb hf9⟩
    | true =>
     have HI2 := zb (zoC HI.out hx);generalize zaB x.key m.key = r at *;have r1 : ¬ r = 0 := by omega
     clear hx hr hlt gx hc hwid wm om;go_wp2_with fail
     go_region_held3 (fun w' => Fr Z w' ∧ Fr wr w') (first | (go_split_ands; exact ⟨hZD, hrD⟩) | (go_split_ands; exact ⟨by assumption, by assumption⟩))
      (first
       | (go_at_call 26; (with_reducible refine (cK wr _ (by assumption)).mono ?_); rintro e w9 ⟨rfl, hz9⟩; have hZ9 := za hZ1 hz9))
     rename_i hH;obtain ⟨hWZ, hWr⟩ := hH;have hOW := hO.out.fr hWr
     go_wp2_with (first
      | (refine zan (.tmp 44) (.tmp 49) rfl rfl rfl rfl hWZ hOW Hn'.out (by omega) Hwx.out ?_; intro A9 c9 w10 ho9 hf9)
      | fail)
     go_roundg (gk - 1)
     case measure => omega
     case rel => exact ⟨j + 1, true, A9, n' + 1, c9, q ++ [x], by omega, rfl, rfl, rfl, by omega, zb (by rw [List.length_append, Hn'.out]; rfl), zb ho9, HI2, zb hf9⟩
  ·have hjn : j = n := by omega
   have hjz : ¬ (j : Int) < (n : Int) := by omega
   have he := addI_end HI.out (by rw [Hn.out]; omega);have hZ1 := hZr.out;have hOr := hO.out
   cases p with
   | true =>
    have He : Hid (zaK l m = q) := zb (by rw [he]; rfl);clear hlt hjn he;go_wp2_with fail;go_ret;rw [He.out, Hn'.out];exact ⟨A', c', rfl, hOr.mono hSz, za hF hZ1⟩
   | false =>
    have He : Hid (zaK l m = q ++ [m]) := zb (by rw [he]; rfl);clear hlt hjn he
    go_wp2_with (first
     | (refine zan (.tmp 53) (.tmp 55) rfl rfl rfl rfl hZ1 hOr Hn'.out (by omega) Hwm.out ?_; intro A9 c9 w10 ho9 hf9)
     | fail)
    go_ret;rw [He.out, List.length_append, Hn'.out];exact ⟨A9, c9, rfl, ho9.mono hSz, za hF hf9⟩
end
end Go.Proofs.YtmjjjdikpnhpiaaGreat
