/- Package latch: the types; parts of slices; 'slices.IndexFunc', 'ContainsFunc', 'Index', 'Contains', 'Clone'; the closures. -/
import Derived.Test.YtbnphkiipjgfaaaRows
import Derived.Test.YtbnphkiipjgfaaaLaM
import Derived.Test.YtbnphkiipjgfaaaLaN
import Derived.Laws.Externs
import Derived.Lib.LazyBuf
import Derived.Deep.Cut
namespace Go.Proofs.Ytbnphkiipjgfaaa
set_option linter.unusedVariables false
set_option linter.unusedSimpArgs false
set_option maxRecDepth 100000
open Go.RowKit
def ic (z : Int) : List Value := [.int .i64 z]
def wc (x : Wt) : List Value := [.int .i64 x.1, .bool x.2]
def wv (x : Wt) : Value := .agg (wc x).toArray
theorem ic_wid (l : List Int) : Wid ic 1 l := fun _ _ => rfl
theorem wc_wid (l : List Wt) : Wid wc 2 l := fun _ _ => rfl
theorem ic_one (z : Int) : One (ic z) := .cons rfl .nil
theorem wc_one (x : Wt) : One (wc x) := .cons rfl (.cons rfl .nil)
theorem ic_ints (l : List Int) : rows ic l = ints l := rows_map _ l
theorem int_elem : Elem Try.prog 3 1 8 := Elem.of (z := .int .i64 0) (by kernel_rfl) (by kernel_rfl) (by kernel_rfl) rfl
theorem want_elem : Elem Try.prog 51 2 16 := Elem.of (z := wv (0, false)) (by kernel_rfl) (by kernel_rfl) (by kernel_rfl) rfl
theorem ints_under : Try.prog.underlying 33 = some (.slice 3) := Try.underlying33
theorem wants_under : Try.prog.underlying 38 = some (.slice 51) := Try.underlying38
theorem want_ty : Sty Try.prog 51 2 := ⟨by kernel_rfl, ⟨_, Try.underlying51, rfl⟩⟩
theorem want_info : (Try.prog.info? 51).map (·.size) = some 2 := by kernel_rfl
theorem int_info : (Try.prog.info? 3).map (·.size) = some 1 := by kernel_rfl
/-- None of them. -/
def NoneOf {α : Type} (p : α → Bool) (l : List α) : Prop := ∀ m ∈ l, p m = false
theorem want_ld (p : Value) : Instr.loadAt 51 p = ldS 51 p := rfl
theorem rows_eq_nil {α : Type} {c : α → List Value} {s : Nat} {l : List α} (hw : Wid c s l) (hs : 0 < s) (h : rows c l = []) : l = [] := by
  have := rows_len hw
  rw [h] at this
  cases l with
  | nil => rfl
  | cons x l =>
    have h2 : 0 < (x :: l).length * s := Nat.mul_pos (by simp) hs
    rw [← this] at h2
    simp at h2
/-- A store of one of a row. -/
theorem run_store_rw {P : Program} {α : Type} {cf : α → List Value} {T size e g o n c j : Nat} {w : World} {l : List α} {x : α} (hs : (P.info? T).map (·.size) = some size) {v : Value} (hv : v.cells.toList = cf x) (hl : (cf x).length = size) (h1 : One (cf x)) (ho : Rw w e size (some ⟨g, o, none⟩) n c (rows cf l)) (hw : Wid cf size l) (hn : l.length = n) (hj : j < n) :
    ∃ W, (storeVar T ⟨g, o + j * size, none⟩ v).run P w = .ok () W ∧ Rw W e size (some ⟨g, o, none⟩) n c (rows cf (l.set j x)) ∧ Chg (· = g) w W := by
  have h9 : (j + 1) * size ≤ n * size := Nat.mul_le_mul_right _ hj
  have h2 : j * size + size = (j + 1) * size := (Nat.succ_mul j size).symm
  obtain ⟨W, hr, h3, h4⟩ := rw_cells (P := P) w ho (j * size) (cf x) h1 (by omega)
  have e1 := rows_splice hw (j := j) (by omega) hl
  refine ⟨W, ?_, ?_, h4⟩
  · have hz : (sizeOf T).run P w = .ok size w := by
      cases hq : P.info? T with
      | none => simp [hq] at hs
      | some i =>
        have : i.size = size := by simpa [hq] using hs
        simp [sizeOf, typeInfo, hq, this]
    have hsz : v.cells.size = size := by rw [← Array.length_toList, hv, hl]
    simp only [storeVar, Sem.run_bind, hz, Result.andThen_ok, hsz, ne_eq, not_true, if_false, hv, Sem.run_pure]
    exact hr
  · rw [← e1]
    unfold splice
    rw [← List.append_assoc]
    exact h3
theorem wpList_store_rw {P : Program} {α : Type} {cf : α → List Value} {w : World} {ops : Array Oper} {rest : List Oper} {o' : Oper} {a : Act} {Q : Exit → Act → World → Prop} {T size e g o n c j : Nat} {l : List α} {x : α} (hs : (P.info? T).map (·.size) = some size) (hgd : o'.guard = none) (px py : Operand) (hop : o'.op = .store T px py)
    (hx : a.eval px = .pointer (some ⟨g, o + j * size, none⟩)) (hv : (a.eval py).cells.toList = cf x) (hl : (cf x).length = size) (h1 : One (cf x)) (ho : Rw w e size (some ⟨g, o, none⟩) n c (rows cf l)) (hw : Wid cf size l) (hn : l.length = n) (hj : j < n)
    (h : ∀ W, Rw W e size (some ⟨g, o, none⟩) n c (rows cf (l.set j x)) → Chg (· = g) w W → wpList P ops Q rest (a.put o'.dst undef) W) : wpList P ops Q (o' :: rest) a w := by
  obtain ⟨W, hr, h2, h3⟩ := run_store_rw (P := P) hs hv hl h1 ho hw hn hj
  refine wpList_plain hgd fun K hK => ?_
  unfold Oper.wp execOp
  simp only [hop, hx, Instr.storeAt, Instr.sureAddr, Sem.run_bind, Sem.run_pure, Result.andThen_ok, hr]
  exact hK _ _ (h W h2 h3)
theorem wpList_clear_run {P : Program} (w : World) {ops : Array Oper} {rest : List Oper} {o : Oper} {a : Act} {Q : Exit → Act → World → Prop} (hgd : o.guard = none) (d : Operand) (t : TypeId)
    (ho : o.op = .call { callee := .builtin .clear, args := #[d], argTypes := #[t] }) (v : Value) (hd : a.eval d = v) {v' : Value} {w' : World}
    (hr : (Builtin.clear_ #[t] o.type #[v]).run P w = .ok v' w') (h : wpList P ops Q rest (a.put o.dst v') w') : wpList P ops Q (o :: rest) a w :=
  wpList_plain hgd fun _ hK => by
    unfold Oper.wp execOp
    simp only [ho, resolve, invoke, builtin, Sem.run_bind, Sem.run_pure, Result.andThen_ok, List.map_toArray, List.map_cons, List.map_nil, hd, hr]
    exact hK _ _ h
theorem wpList_append_run {P : Program} (w : World) {ops : Array Oper} {rest : List Oper} {o : Oper} {a : Act} {Q : Exit → Act → World → Prop} (hgd : o.guard = none) (d s : Operand) (t t' : TypeId)
    (ho : o.op = .call { callee := .builtin .append, args := #[d, s], argTypes := #[t, t'] }) (v u : Value) (hd : a.eval d = v) (hs : a.eval s = u) {v' : Value} {w' : World}
    (hr : (Builtin.append_ #[t, t'] o.type #[v, u]).run P w = .ok v' w') (h : wpList P ops Q rest (a.put o.dst v') w') : wpList P ops Q (o :: rest) a w :=
  wpList_plain hgd fun _ hK => by
    unfold Oper.wp execOp
    simp only [ho, resolve, invoke, builtin, Sem.run_bind, Sem.run_pure, Result.andThen_ok, List.map_toArray, List.map_cons, List.map_nil, hd, hs, hr]
    exact hK _ _ h
/-- 'append' of one element that lies in a new block, onto a row. -/
theorem wpList_append_rw {P : Program} {w : World} {ops : Array Oper} {rest : List Oper} {o : Oper} {a : Act} {Q : Exit → Act → World → Prop} {e size bytes t : Nat} (E : Elem P e size bytes) (ht : P.underlying t = some (.slice e)) (hsz : 0 < size) (hgd : o.guard = none) (s x : Operand)
    (hop : o.op = .call { callee := .builtin .append, args := #[s, x], argTypes := #[t, t] }) (A : Option Addr) (n c1 : Nat) (xs : List Value) (hs : a.eval s = .slice A n c1) (ho : Rw w e size A n c1 xs)
    (C : Nat) (A2 : Option Addr) (m c2 : Nat) (news : List Value) (hx : a.eval x = .slice A2 m c2) (hl : news.length = m * size) (hn : Has w C A2 news) (h1 : One news) (h63 : n + m ≤ maxLen) (hbytes : (n + m) * bytes ≤ 140737488355328)
    (h : ∀ A' c' w', Rw w' e size A' (n + m) c' (xs ++ news) → Put w w' A A' → wpList P ops Q rest (a.put o.dst (.slice A' (n + m) c')) w') : wpList P ops Q (o :: rest) a w := by
  obtain ⟨A', c', w', hr, h2, h3⟩ := rw_append (P := P) w t t o.type E ht hsz ho (.slice A2 m c2) m news (src_has w ht hn hl h1) h63 hbytes
  exact wpList_append_run w hgd s x t t hop _ _ hs hx hr (h A' c' w' h2 h3)
theorem step_append_rw {P : Program} {w : World} {ops : Array Oper} {o : Oper} {a : Act} {K : Act → World → Prop} {Q : Exit → Act → World → Prop} {E0 : Prop} {e size bytes t : Nat} (E : Elem P e size bytes) (ht : P.underlying t = some (.slice e)) (hsz : 0 < size) (hw : Region.wanted o (yielded ops a.tmps) = true) (s x : Operand)
    (hop : o.op = .call { callee := .builtin .append, args := #[s, x], argTypes := #[t, t] }) (A : Option Addr) (n c1 : Nat) (xs : List Value) (hs : a.eval s = .slice A n c1) (ho : Rw w e size A n c1 xs)
    (C : Nat) (A2 : Option Addr) (m c2 : Nat) (news : List Value) (hx : a.eval x = .slice A2 m c2) (hl : news.length = m * size) (hn : Has w C A2 news) (h1 : One news) (h63 : n + m ≤ maxLen) (hbytes : (n + m) * bytes ≤ 140737488355328)
    (hK : ∀ A' c' w', Rw w' e size A' (n + m) c' (xs ++ news) → Put w w' A A' → K (a.put o.dst (.slice A' (n + m) c')) w') : if Region.wanted o (yielded ops a.tmps) = true then Oper.wp P o a w K Q else E0 := by
  rw [if_pos hw]
  obtain ⟨A', c', w', hr, h2, h3⟩ := rw_append (P := P) w t t o.type E ht hsz ho (.slice A2 m c2) m news (src_has w ht hn hl h1) h63 hbytes
  unfold Oper.wp execOp
  simp only [hop, resolve, invoke, builtin, Sem.run_bind, Sem.run_pure, Result.andThen_ok, List.map_toArray, List.map_cons, List.map_nil, hs, hx, hr]
  exact hK A' c' w' h2 h3
theorem i_sz (w : World) : (sizeOf (Try.prog.elem 33)).run Try.prog w = .ok 1 w := by kernel_rfl
theorem i_el : Try.prog.underlying 33 = some (.slice (Try.prog.elem 33)) := by kernel_rfl
theorem i_nil (A : Option Addr) (n c : Nat) (w : World) : (binOp .eql 33 (.slice A n c) (.slice none 0 0)).run Try.prog w = .ok (.bool A.isNone) w := run_eql_slice_nil w _ _ A n c ints_under
theorem i_slice_hi (A : Option Addr) (n c t : Nat) (ht : t ≤ c) (W : World) : (Instr.slice 33 (.slice A n c) none (some (.int .i64 (t : Int))) none).run Try.prog W = .ok (.slice A t c) W := by
  rw [run_slice_h (P := Try.prog) (w := W) (t := 33) (ht := i_el) A n c .i64 (t : Int) (by omega) (by omega), i_sz]
  have h0 : A.map (·.add 0) = A := by cases A <;> simp [Addr.add]
  simp only [Result.andThen, sliced, Int.toNat_natCast, Nat.zero_mul, h0, Nat.sub_zero, ite_self]
theorem i_slice_lo (A : Option Addr) (n c t : Nat) (ht : t ≤ n) (W : World) : (Instr.slice 33 (.slice A n c) (some (.int .i64 (t : Int))) none none).run Try.prog W = .ok (.slice (lowA 1 A c t) (n - t) (c - t)) W := by
  rw [run_slice_l (P := Try.prog) (w := W) (t := 33) (ht := i_el) A n c .i64 (t : Int) (by omega) (by omega), i_sz]
  simp only [Result.andThen, sliced, Int.toNat_natCast, lowA]
theorem w_sz (w : World) : (sizeOf (Try.prog.elem 38)).run Try.prog w = .ok 2 w := by kernel_rfl
theorem w_el : Try.prog.underlying 38 = some (.slice (Try.prog.elem 38)) := by kernel_rfl
theorem w_nil (A : Option Addr) (n c : Nat) (w : World) : (binOp .eql 38 (.slice A n c) (.slice none 0 0)).run Try.prog w = .ok (.bool A.isNone) w := run_eql_slice_nil w _ _ A n c wants_under
theorem w_slice_hi (A : Option Addr) (n c t : Nat) (ht : t ≤ c) (W : World) : (Instr.slice 38 (.slice A n c) none (some (.int .i64 (t : Int))) none).run Try.prog W = .ok (.slice A t c) W := by
  rw [run_slice_h (P := Try.prog) (w := W) (t := 38) (ht := w_el) A n c .i64 (t : Int) (by omega) (by omega), w_sz]
  have h0 : A.map (·.add 0) = A := by cases A <;> simp [Addr.add]
  simp only [Result.andThen, sliced, Int.toNat_natCast, Nat.zero_mul, h0, Nat.sub_zero, ite_self]
theorem w_slice_lo (A : Option Addr) (n c t : Nat) (ht : t ≤ n) (W : World) : (Instr.slice 38 (.slice A n c) (some (.int .i64 (t : Int))) none none).run Try.prog W = .ok (.slice (lowA 2 A c t) (n - t) (c - t)) W := by
  rw [run_slice_l (P := Try.prog) (w := W) (t := 38) (ht := w_el) A n c .i64 (t : Int) (by omega) (by omega), w_sz]
  simp only [Result.andThen, sliced, Int.toNat_natCast, lowA]
attribute [local go_sem ↓] want_ld
set_option maxHeartbeats 2000000 in
theorem i_index {w : World} {A : Option Addr} {n c B : Nat} {l : List Int} (p : Int → Bool) (g : Nat) (cb : Array Value) (eg : ∀ args w, (callFunc g args).run Try.prog w = .ok (.enter g args) w)
    (hl : Has w B A (rows ic l)) (hB : B ≤ w.heap.size) (hn : l.length = n) (hsm : n ≤ 100000)
    (hp : ∀ W m, Fr w W → Calls Try.prog g (#[.int .i64 m] ++ cb) W fun e w' => e = .returned (.bool (p m)) ∧ Fr W w') :
    Calls Try.prog 53 #[.slice A n c, .func (.func g) #[] cb] w fun e w' => Fr w w' ∧ ((e = .returned (.int .i64 (-1)) ∧ Hid (NoneOf p l)) ∨ ∃ k : Nat, e = .returned (.int .i64 k) ∧ Hid (∃ m, l[k]? = some m ∧ p m = true ∧ ∀ t x, t < k → l[t]? = some x → p x = false)) := by
  have Hl := keep hl
  have Hn := keep hn
  have Hp := keep hp
  clear hl hn hp
  go_enter Try.func53, Try.ntmps53
  go_wp2_with fail
  go_loopg [5, 8] n (fun gg _ s8 wr => ∃ j : Nat, j + gg = n ∧ s8 = .int .i64 j ∧ Hid (Fr w wr) ∧ Hid (∀ t x, t < j → l[t]? = some x → p x = false))
  case atStart => exact ⟨0, by omega, rfl, keep (fr_refl w), keep (fun t x h => by omega)⟩
  case round =>
    obtain ⟨j, hj, rfl, hF, hno⟩ := hrel
    by_cases hlt : j < n
    · have hm : l[j]? = some (l[j]'(by rw [Hn.out]; exact hlt)) := List.getElem?_eq_getElem _
      generalize l[j]'(by rw [Hn.out]; exact hlt) = m at hm
      obtain ⟨b, off, rfl, hb1, hr⟩ := has_rows Hl.out (ic_wid l) (by decide) (by intro e; rw [e] at hm; simp at hm)
      have lX := elem_cell0 hr (ic_wid l) (by omega) hm (u := .int .i64 m) rfl
      rw [Nat.mul_one] at lX
      have hc := Hp.out wr m hF.out
      have Hm := keep hm
      have hF1 := hF.out
      have hjz : (j : Int) < (n : Int) := by omega
      clear hm hr hlt
      cases hq : p m with
      | true =>
        rw [hq] at hc
        go_wp2_with (first | (go_at_fn g; refine hc.mono ?_; rintro e w' ⟨rfl, hz⟩) | fail)
        go_ret
        exact ⟨fr_step hF1 hz, .inr ⟨j, rfl, keep ⟨m, Hm.out, hq, hno.out⟩⟩⟩
      | false =>
        rw [hq] at hc
        have Hq := keep hq
        clear hq
        go_wp2_with (first | (go_at_fn g; refine hc.mono ?_; rintro e w' ⟨rfl, hz⟩) | fail)
        go_roundg (gk - 1)
        case measure => omega
        case rel => exact ⟨j + 1, by omega, rfl, keep (fr_step hF1 hz), keep (fun t x ht hx => by
          by_cases e : t = j
          · subst e
            rw [Hm.out] at hx
            injection hx with hx
            rw [← hx]; exact Hq.out
          · exact hno.out t x (by omega) hx)⟩
    · have hjn : j = n := by omega
      have hjz : ¬ (j : Int) < (n : Int) := by omega
      clear hlt
      go_wp2_with fail
      go_ret
      refine ⟨hF.out, .inl ⟨rfl, keep fun m hm => ?_⟩⟩
      obtain ⟨t, ht, e⟩ := List.mem_iff_getElem.1 hm
      exact hno.out t m (by rw [hjn, ← Hn.out]; exact ht) (by rw [List.getElem?_eq_getElem ht, e])
set_option maxHeartbeats 2000000 in
theorem w_index {w : World} {A : Option Addr} {n c B : Nat} {l : List Wt} (p : Wt → Bool) (g : Nat) (cb : Array Value) (eg : ∀ args w, (callFunc g args).run Try.prog w = .ok (.enter g args) w)
    (hl : Has w B A (rows wc l)) (hB : B ≤ w.heap.size) (hn : l.length = n) (hsm : n ≤ 100000)
    (hp : ∀ W m, Fr w W → Calls Try.prog g (#[wv m] ++ cb) W fun e w' => e = .returned (.bool (p m)) ∧ Fr W w') :
    Calls Try.prog 54 #[.slice A n c, .func (.func g) #[] cb] w fun e w' => Fr w w' ∧ ((e = .returned (.int .i64 (-1)) ∧ Hid (NoneOf p l)) ∨ ∃ k : Nat, e = .returned (.int .i64 k) ∧ Hid (∃ m, l[k]? = some m ∧ p m = true ∧ ∀ t x, t < k → l[t]? = some x → p x = false)) := by
  have Hl := keep hl
  have Hn := keep hn
  have Hp := keep hp
  clear hl hn hp
  go_enter Try.func54, Try.ntmps54
  go_wp2_with fail
  go_loopg [5, 8] n (fun gg _ s8 wr => ∃ j : Nat, j + gg = n ∧ s8 = .int .i64 j ∧ Hid (Fr w wr) ∧ Hid (∀ t x, t < j → l[t]? = some x → p x = false))
  case atStart => exact ⟨0, by omega, rfl, keep (fr_refl w), keep (fun t x h => by omega)⟩
  case round =>
    obtain ⟨j, hj, rfl, hF, hno⟩ := hrel
    by_cases hlt : j < n
    · have hm : l[j]? = some (l[j]'(by rw [Hn.out]; exact hlt)) := List.getElem?_eq_getElem _
      generalize l[j]'(by rw [Hn.out]; exact hlt) = m at hm
      obtain ⟨b, off, rfl, hb1, hr⟩ := has_rows Hl.out (wc_wid l) (by decide) (by intro e; rw [e] at hm; simp at hm)
      have lX := elem_ld want_ty hr (wc_wid l) (by omega) hm
      have hc := Hp.out wr m hF.out
      have Hm := keep hm
      have hF1 := hF.out
      have hjz : (j : Int) < (n : Int) := by omega
      clear hm hr hlt
      cases hq : p m with
      | true =>
        rw [hq] at hc
        go_wp2_with (first | (go_at_fn g; refine hc.mono ?_; rintro e w' ⟨rfl, hz⟩) | fail)
        go_ret
        exact ⟨fr_step hF1 hz, .inr ⟨j, rfl, keep ⟨m, Hm.out, hq, hno.out⟩⟩⟩
      | false =>
        rw [hq] at hc
        have Hq := keep hq
        clear hq
        go_wp2_with (first | (go_at_fn g; refine hc.mono ?_; rintro e w' ⟨rfl, hz⟩) | fail)
        go_roundg (gk - 1)
        case measure => omega
        case rel => exact ⟨j + 1, by omega, rfl, keep (fr_step hF1 hz), keep (fun t x ht hx => by
          by_cases e : t = j
          · subst e
            rw [Hm.out] at hx
            injection hx with hx
            rw [← hx]; exact Hq.out
          · exact hno.out t x (by omega) hx)⟩
    · have hjn : j = n := by omega
      have hjz : ¬ (j : Int) < (n : Int) := by omega
      clear hlt
      go_wp2_with fail
      go_ret
      refine ⟨hF.out, .inl ⟨rfl, keep fun m hm => ?_⟩⟩
      obtain ⟨t, ht, e⟩ := List.mem_iff_getElem.1 hm
      exact hno.out t m (by rw [hjn, ← Hn.out]; exact ht) (by rw [List.getElem?_eq_getElem ht, e])
set_option maxHeartbeats 4000000 in
theorem i_clone {w : World} {A : Option Addr} {n c B : Nat} {l : List Int} (hl : Has w B A (rows ic l)) (hB : B ≤ w.heap.size) (hn : l.length = n) (hsm : n ≤ 1000000) :
    Calls Try.prog 46 #[.slice A n c] w fun e w' => ∃ A' c', e = .returned (.slice A' n c') ∧ Hid (Own w' w.heap.size 3 1 A' n c' (rows ic l) ∧ Fr w w') := by
  have hlen := rows_len (ic_wid l)
  cases A with
  | none =>
    have hl0 : l = [] := rows_eq_nil (ic_wid l) (by decide) hl.none_nil
    subst hl0
    simp at hn
    subst hn
    have hq := i_nil none 0 c
    simp only [Option.isNone_none] at hq
    clear hl hlen
    go_enter Try.func46, Try.ntmps46
    go_wp2_with fail
    go_ret
    exact ⟨none, 0, rfl, keep ⟨Own.nil _ _ _ _, fr_refl w⟩⟩
  | some a =>
    subst hn
    have ho : Own (w.alloc (.cells #[] 3)) w.heap.size 3 1 (some ⟨w.heap.size, 0, none⟩) 0 0 (rows ic []) := Own.lit w w.heap.size 3 #[] 0 1 (Nat.le_refl _) (Nat.zero_le _) rfl
    have hl2 := hl.below ((fr_new (fr_refl w) (.cells #[] 3)).mono hB)
    have hq := i_nil (some a) l.length c
    simp only [Option.isNone_some] at hq
    have h1 := rows_one ic_one l
    have H1 := keep h1
    have HO := keep ho
    have H2 := keep hl2
    have HL := keep hlen
    clear hl h1 ho hl2 hlen
    go_enter Try.func46, Try.ntmps46
    go_wp2_with (first
      | (refine wpList_append_vals (w0 := w) int_elem ints_under (by decide) rfl (.tmp 5) (.tmp 6) rfl (fr_new (fr_refl w) _) (some ⟨w.heap.size, 0, none⟩) 0 0 (rows ic []) rfl HO.out B (some a) l.length c (rows ic l) rfl HL.out H2.out H1.out (by simp only [maxLen]; omega) (by omega) ?_; intro A' c' w' h1 h2)
      | fail)
    go_ret
    rw [Nat.zero_add] at h1
    exact ⟨A', c', rfl, keep ⟨h1, h2⟩⟩
set_option maxHeartbeats 4000000 in
theorem w_clone {w : World} {A : Option Addr} {n c B : Nat} {l : List Wt} (hl : Has w B A (rows wc l)) (hB : B ≤ w.heap.size) (hn : l.length = n) (hsm : n ≤ 1000000) :
    Calls Try.prog 47 #[.slice A n c] w fun e w' => ∃ A' c', e = .returned (.slice A' n c') ∧ Hid (Own w' w.heap.size 51 2 A' n c' (rows wc l) ∧ Fr w w') := by
  have hlen := rows_len (wc_wid l)
  cases A with
  | none =>
    have hl0 : l = [] := rows_eq_nil (wc_wid l) (by decide) hl.none_nil
    subst hl0
    simp at hn
    subst hn
    have hq := w_nil none 0 c
    simp only [Option.isNone_none] at hq
    clear hl hlen
    go_enter Try.func47, Try.ntmps47
    go_wp2_with fail
    go_ret
    exact ⟨none, 0, rfl, keep ⟨Own.nil _ _ _ _, fr_refl w⟩⟩
  | some a =>
    subst hn
    have ho : Own (w.alloc (.cells #[] 51)) w.heap.size 51 2 (some ⟨w.heap.size, 0, none⟩) 0 0 (rows wc []) := Own.lit w w.heap.size 51 #[] 0 2 (Nat.le_refl _) (Nat.zero_le _) rfl
    have hl2 := hl.below ((fr_new (fr_refl w) (.cells #[] 51)).mono hB)
    have hq := w_nil (some a) l.length c
    simp only [Option.isNone_some] at hq
    have h1 := rows_one wc_one l
    have H1 := keep h1
    have HO := keep ho
    have H2 := keep hl2
    have HL := keep hlen
    clear hl h1 ho hl2 hlen
    go_enter Try.func47, Try.ntmps47
    go_wp2_with (first
      | (refine wpList_append_vals (w0 := w) want_elem wants_under (by decide) rfl (.tmp 5) (.tmp 6) rfl (fr_new (fr_refl w) _) (some ⟨w.heap.size, 0, none⟩) 0 0 (rows wc []) rfl HO.out B (some a) l.length c (rows wc l) rfl HL.out H2.out H1.out (by simp only [maxLen]; omega) (by omega) ?_; intro A' c' w' h1 h2)
      | fail)
    go_ret
    rw [Nat.zero_add] at h1
    exact ⟨A', c', rfl, keep ⟨h1, h2⟩⟩
set_option maxHeartbeats 2000000 in
theorem w_contains {w : World} {A : Option Addr} {n c B : Nat} {l : List Wt} (p : Wt → Bool) (g : Nat) (cb : Array Value) (eg : ∀ args w, (callFunc g args).run Try.prog w = .ok (.enter g args) w)
    (hl : Has w B A (rows wc l)) (hB : B ≤ w.heap.size) (hn : l.length = n) (hsm : n ≤ 100000)
    (hp : ∀ W m, Fr w W → Calls Try.prog g (#[wv m] ++ cb) W fun e w' => e = .returned (.bool (p m)) ∧ Fr W w') :
    Calls Try.prog 50 #[.slice A n c, .func (.func g) #[] cb] w fun e w' => e = .returned (.bool (l.any p)) ∧ Fr w w' := by
  have cI := w_index (c := c) p g cb eg hl hB hn hsm hp
  clear hl hp
  go_enter Try.func50, Try.ntmps50
  go_wp2_with fail
  refine cI.mono ?_
  rintro e w' ⟨hz, ⟨rfl, hno⟩ | ⟨k, rfl, hk⟩⟩
  · replace hno := hno.out
    have hany : l.any p = false := by rw [List.any_eq_false]; intro x hx; simp [hno x hx]
    have Hany := keep hany
    clear hno hany cI
    go_wp2_with fail
    go_ret
    exact ⟨by rw [Hany.out]; rfl, hz⟩
  · obtain ⟨m, hk, hpm, -⟩ := hk.out
    have hany : l.any p = true := List.any_eq_true.2 ⟨m, List.mem_of_getElem? hk, hpm⟩
    have Hany := keep hany
    have hkz : (0 : Int) ≤ (k : Int) := by omega
    clear hk hpm hany cI
    go_wp2_with fail
    go_ret
    exact ⟨by rw [Hany.out]; rfl, hz⟩
set_option maxHeartbeats 2000000 in
theorem i_find {w : World} {A : Option Addr} {n c B : Nat} {l : List Int} {t : Int} (hl : Has w B A (rows ic l)) (hB : B ≤ w.heap.size) (hn : l.length = n) (hsm : n ≤ 100000) :
    Calls Try.prog 55 #[.slice A n c, .int .i64 t] w fun e w' => w = w' ∧ ((e = .returned (.int .i64 (-1)) ∧ l.contains t = false) ∨ ∃ k : Nat, e = .returned (.int .i64 k) ∧ l.contains t = true) := by
  have Hl := keep hl
  have Hn := keep hn
  clear hl hn
  go_enter Try.func55, Try.ntmps55
  go_wp2_with fail
  go_loopg [5, 8] n (fun gg _ s8 wr => ∃ j : Nat, j + gg = n ∧ s8 = .int .i64 j ∧ w = wr ∧ Hid (∀ i x, i < j → l[i]? = some x → x ≠ t))
  case atStart => exact ⟨0, by omega, rfl, rfl, keep (fun t x h => by omega)⟩
  case round =>
    obtain ⟨j, hj, rfl, rfl, hno⟩ := hrel
    by_cases hlt : j < n
    · have hm : l[j]? = some (l[j]'(by rw [Hn.out]; exact hlt)) := List.getElem?_eq_getElem _
      generalize l[j]'(by rw [Hn.out]; exact hlt) = m at hm
      obtain ⟨b, off, rfl, hb1, hr⟩ := has_rows Hl.out (ic_wid l) (by decide) (by intro e; rw [e] at hm; simp at hm)
      have lX := elem_cell0 hr (ic_wid l) (by omega) hm (u := .int .i64 m) rfl w (fr_refl w)
      rw [Nat.mul_one] at lX
      have Hm := keep hm
      have hjz : (j : Int) < (n : Int) := by omega
      clear hm hr hlt
      by_cases hq : t = m
      · subst hq
        go_wp2_with fail
        go_ret
        exact ⟨rfl, .inr ⟨j, rfl, by simpa using List.mem_of_getElem? Hm.out⟩⟩
      · have hq2 : (t == m) = false := by simpa using hq
        have Hq := keep hq
        clear hq
        go_wp2_with fail
        go_roundg (gk - 1)
        case measure => omega
        case rel => exact ⟨j + 1, by omega, rfl, rfl, keep (fun i x ht hx => by
          by_cases e : i = j
          · subst e
            rw [Hm.out] at hx
            injection hx with hx
            rw [← hx]; exact fun e => Hq.out e.symm
          · exact hno.out i x (by omega) hx)⟩
    · have hjn : j = n := by omega
      have hjz : ¬ (j : Int) < (n : Int) := by omega
      clear hlt
      go_wp2_with fail
      go_ret
      refine ⟨rfl, .inl ⟨rfl, ?_⟩⟩
      have hm : ¬ t ∈ l := by
        intro hm
        obtain ⟨i, ht, e⟩ := List.mem_iff_getElem.1 hm
        exact hno.out i t (by rw [hjn, ← Hn.out]; exact ht) (by rw [List.getElem?_eq_getElem ht, e]) rfl
      simpa using hm
set_option maxHeartbeats 2000000 in
theorem i_contains {w : World} {A : Option Addr} {n c B : Nat} {l : List Int} {t : Int} (hl : Has w B A (rows ic l)) (hB : B ≤ w.heap.size) (hn : l.length = n) (hsm : n ≤ 100000) :
    Calls Try.prog 49 #[.slice A n c, .int .i64 t] w fun e w' => e = .returned (.bool (l.contains t)) ∧ w = w' := by
  have cI := i_find (c := c) (t := t) hl hB hn hsm
  clear hl
  go_enter Try.func49, Try.ntmps49
  go_wp2_with fail
  refine cI.mono ?_
  rintro e w' ⟨rfl, ⟨rfl, hno⟩ | ⟨k, rfl, hk⟩⟩
  · have Hany := keep hno
    clear hno cI
    go_wp2_with fail
    go_ret
    exact ⟨by rw [Hany.out]; rfl, rfl⟩
  · have Hany := keep hk
    have hkz : (0 : Int) ≤ (k : Int) := by omega
    clear hk cI
    go_wp2_with fail
    go_ret
    exact ⟨by rw [Hany.out]; rfl, rfl⟩
set_option maxHeartbeats 1000000 in
theorem cl_has {W : World} {tb : Nat} {t : Int} (hT : Arr W tb 3 #[.int .i64 t]) (x : Wt) :
    Calls Try.prog 48 #[wv x, .pointer (some ⟨tb, 0, none⟩)] W fun e w' => e = .returned (.bool (decide (x.1 = t))) ∧ Fr W w' := by
  obtain ⟨Z, hZ, hF, hX, hS⟩ : ∃ Z, W.alloc (.cells (wc x).toArray 51) = Z ∧ Fr W Z ∧ Arr Z W.heap.size 51 (wc x).toArray ∧ Z.heap.size = W.heap.size + 1 := ⟨_, rfl, fr_new (fr_refl W) _, Arr.new W _ _, by simp⟩
  have d0 := hX.cell 0
  have d1 := (hT.below hF hT.lt).cell 0
  simp only [List.getElem?_toArray, List.getElem?_cons_zero, wc] at d0 d1
  clear hX hT
  unfold wv
  by_cases h : x.1 = t
  · subst h
    go_enter Try.func48, Try.ntmps48
    go_wp2_with fail
    go_ret
    exact ⟨by simp, hF⟩
  · have h2 : (x.1 == t) = false := by simpa using h
    go_enter Try.func48, Try.ntmps48
    go_wp2_with fail
    go_ret
    exact ⟨by simp [h], hF⟩
set_option maxHeartbeats 1000000 in
theorem cl_drop2 {W : World} {tb : Nat} {t : Int} (hT : Arr W tb 3 #[.int .i64 t]) (x : Wt) :
    Calls Try.prog 43 #[wv x, .pointer (some ⟨tb, 0, none⟩)] W fun e w' => e = .returned (.bool (decide (x.1 = t))) ∧ Fr W w' := by
  obtain ⟨Z, hZ, hF, hX, hS⟩ : ∃ Z, W.alloc (.cells (wc x).toArray 51) = Z ∧ Fr W Z ∧ Arr Z W.heap.size 51 (wc x).toArray ∧ Z.heap.size = W.heap.size + 1 := ⟨_, rfl, fr_new (fr_refl W) _, Arr.new W _ _, by simp⟩
  have d0 := hX.cell 0
  have d1 := (hT.below hF hT.lt).cell 0
  simp only [List.getElem?_toArray, List.getElem?_cons_zero, wc] at d0 d1
  clear hX hT
  unfold wv
  by_cases h : x.1 = t
  · subst h
    go_enter Try.func43, Try.ntmps43
    go_wp2_with fail
    go_ret
    exact ⟨by simp, hF⟩
  · have h2 : (x.1 == t) = false := by simpa using h
    go_enter Try.func43, Try.ntmps43
    go_wp2_with fail
    go_ret
    exact ⟨by simp [h], hF⟩
set_option maxHeartbeats 1000000 in
theorem cl_drop1 {W : World} {tb : Nat} {t : Int} (hT : Arr W tb 3 #[.int .i64 t]) (x : Int) :
    Calls Try.prog 41 #[.int .i64 x, .pointer (some ⟨tb, 0, none⟩)] W fun e w' => e = .returned (.bool (decide (x = t))) ∧ Fr W w' := by
  have d1 := hT.cell 0
  simp only [List.getElem?_toArray, List.getElem?_cons_zero] at d1
  clear hT
  have hF := fr_refl W
  by_cases h : x = t
  · subst h
    go_enter Try.func41, Try.ntmps41
    go_wp2_with fail
    go_ret
    exact ⟨by simp, hF⟩
  · have h2 : (x == t) = false := by simpa using h
    go_enter Try.func41, Try.ntmps41
    go_wp2_with fail
    go_ret
    exact ⟨by simp [h], hF⟩
end Go.Proofs.Ytbnphkiipjgfaaa
