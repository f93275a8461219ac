/- Rows one behind the other; a kid more, by the program. -/
import Derived.Test.YtcdcaanmmbopbaaFnA
namespace Go.Proofs.Ytcdcaanmmbopbaa
set_option maxRecDepth 100000
open Go.RowKit
set_option linter.unusedVariables false
attribute [local go_sem ↓] key_ld msg_ld
theorem int_elem : Elem Try.prog 3 1 8 := Elem.of (z := .int .i64 0) (by kernel_rfl) (by kernel_rfl) (by kernel_rfl) rfl
theorem key_elem : Elem Try.prog 40 9 16 := Elem.of (z := kv zeroK) (by kernel_rfl) (by kernel_rfl) (by kernel_rfl) rfl
theorem ints_und : Try.prog.underlying 22 = some (.slice 3) := by kernel_rfl
theorem keys_und : Try.prog.underlying 24 = some (.slice 40) := by kernel_rfl
theorem ints_one (l : List Int) : One (ints l) := fun v hv => by
  obtain ⟨x, _, rfl⟩ := List.mem_map.1 hv
  rfl
theorem ints_len1 (l : List Int) : (ints l).length = l.length * 1 := by simp [ints]
theorem keys_one (l : List RK) : One (rows kc l) := flat_one l
theorem rowk_len (l : List RK) : (rows kc l).length = l.length * 9 := rows_len (kwid l)
section
variable {P : Program} {w : World} {t e size bytes B : Nat}
/-- 'append(s, x...)' of cells, s the call's own. -/
theorem wpList_append_vals {w0 : World} {ops : Array Oper} {rest : List Oper} {o : Oper} {a : Act} {Q : Exit → Act → World → Prop} (E : Elem P e size bytes) (ht : P.underlying t = some (.slice e)) (hsz : 0 < size) (hgd : o.guard = none) (s x : Operand)
    (hop : o.op = .call { callee := .builtin .append, args := #[s, x], argTypes := #[t, t] }) (h0 : Fr w0 w)
    (A : Option Addr) (n c1 : Nat) (xs : List Value) (hs : a.eval s = .slice A n c1) (ho : Own w w0.heap.size e size A n c1 xs)
    (C : Nat) (A2 : Option Addr) (m c2 : Nat) (news : List Value) (hx : a.eval x = .slice A2 m c2) (hl : news.length = m * size) (hn : Has w C A2 news) (h1 : One news)
    (h63 : n + m ≤ maxLen) (hbytes : (n + m) * bytes ≤ 140737488355328)
    (h : ∀ A' c' w', Own w' w0.heap.size e size A' (n + m) c' (xs ++ news) → Fr w0 w' → wpList P ops Q rest (a.put o.dst (.slice A' (n + m) c')) w') :
    wpList P ops Q (o :: rest) a w := by
  obtain ⟨i, z, hi, hz, hsize, hby, hzs⟩ := E.row
  refine wpList_append_has w hgd s x t hop w0.heap.size e i z size bytes ht hi hz hsize hby hzs hsz A n c1 xs hs ho C A2 m c2 news hx hl hn h1 h63 hbytes h0.size ?_
  intro A' c' w' h1 h2 h3
  exact h A' c' w' h1 (below_grown h0 ho h2 h0.size (Nat.le_refl _))
end
/-- A slice as a value, with the row that it has. -/
structure SI where
  A : Option Addr
  n : Nat
  c : Nat
  l : List Int
abbrev SI.v (s : SI) : Value := .slice s.A s.n s.c
structure SK where
  A : Option Addr
  n : Nat
  c : Nat
  l : List RK
abbrev SK.v (s : SK) : Value := .slice s.A s.n s.c
theorem map_get {α : Type} {f : α → Value} {l : List α} {j : Nat} {x : α} (h : l[j]? = some x) : (l.map f)[j]? = some (f x) := by rw [List.getElem?_map, h]; rfl
/-- The rows of slices, one behind the other. -/
def catSI (xs : List SI) : List Int := xs.flatMap (·.l)
theorem catSI_one {xs : List SI} {j : Nat} {s : SI} (h : xs[j]? = some s) : catSI (xs.take (j + 1)) = catSI (xs.take j) ++ s.l := by
  rw [take_one h]
  simp [catSI]
/-- The rows of slices, one behind the other. -/
def catSK (xs : List SK) : List RK := xs.flatMap (·.l)
theorem catSK_one {xs : List SK} {j : Nat} {s : SK} (h : xs[j]? = some s) : catSK (xs.take (j + 1)) = catSK (xs.take j) ++ s.l := by
  rw [take_one h]
  simp [catSK]
end Go.Proofs.Ytcdcaanmmbopbaa
/- A kid more, by the program and by the document. -/
namespace Go.Proofs.Ytcdcaanmmbopbaa
set_option maxRecDepth 100000
open Go.RowKit
set_option linter.unusedVariables false
attribute [local go_sem ↓] key_ld msg_ld
theorem alloc_named (w : World) (cs : List Value) (T : TypeId) : ∃ Z, w.alloc (.cells cs.toArray T) = Z ∧ Fr w Z ∧ Arr Z w.heap.size T cs.toArray := ⟨_, rfl, fr_new (fr_refl w) _, Arr.new _ _ _⟩
theorem wpAnyH_world {P : Program} {ops : Array Oper} {Q : Exit → Act → World → Prop} {md : Region.Mode} {S : World → Prop} {fuel : Nat} {listed : Array Bool} {a : Act} {w w' : World} (e : w = w') (h : wpAnyH P md ops Q S fuel listed a w') : wpAnyH P md ops Q S fuel listed a w := e ▸ h
theorem Has.step {w W : World} {A : Option Addr} {xs : List Value} (h : Has w w.heap.size A xs) (f : Fr w W) : Has W W.heap.size A xs := (h.fr (Nat.le_refl _) f).mono f.size
theorem has_blk {W : World} {g T : Nat} {cs : List Value} (h : Arr W g T cs.toArray) : Has W W.heap.size (some ⟨g, 0, none⟩) cs := (arr_has _ h).mono h.lt
def lowI (A : Option Addr) (cap t : Nat) : Option Addr := if cap = t then A else A.map (·.add t)
theorem ints_slice_lo (A : Option Addr) (n c t : Nat) (ht : t ≤ n) (hc : n ≤ c) (W : World) : (Instr.slice 22 (.slice A n c) (some (.int .i64 (t : Int))) none none).run Try.prog W = .ok (.slice (lowI A c t) (n - t) (c - t)) W := by
  rw [run_slice_l (P := Try.prog) (w := W) (t := 22) (ht := ints_under) A n c .i64 (t : Int) (by omega) (by omega), ints_size_elem]
  simp only [Result.andThen, sliced, Int.toNat_natCast, lowI, Nat.mul_one]
theorem ints_sliceAt_hi (A : Option Addr) (n c t : Nat) (ht : t ≤ n) (hc : n ≤ c) (W : World) : (Instr.sliceAt 22 (.slice A n c) none (some (.int .i64 (t : Int))) none).run Try.prog W = .ok (.slice A t c) W := by
  rw [run_sliceAt_slice (P := Try.prog) (w := W) (h := ints_under), ints_slice_hi A n c t ht hc]
theorem ints_sliceAt_lo (A : Option Addr) (n c t : Nat) (ht : t ≤ n) (hc : n ≤ c) (W : World) : (Instr.sliceAt 22 (.slice A n c) (some (.int .i64 (t : Int))) none none).run Try.prog W = .ok (.slice (lowI A c t) (n - t) (c - t)) W := by
  rw [run_sliceAt_slice (P := Try.prog) (w := W) (h := ints_under), ints_slice_lo A n c t ht hc]
theorem has_ilow {W : World} {B : Nat} {A : Option Addr} {os : List Int} {c t : Nat} (h : Has W B A (ints os)) (ht : t ≤ os.length) (hc : os.length ≤ c) : Has W B (lowI A c t) (ints (os.drop t)) := by
  by_cases he : os.drop t = []
  · rw [he]; exact Has.nil
  · have hlt : t < os.length := by
      rcases Nat.lt_or_ge t os.length with h1 | h1
      · exact h1
      · exact absurd (List.drop_eq_nil_of_le h1) he
    obtain ⟨b, off, rfl, hb, hc2⟩ := h.form (fun e => by have := ints_len os; rw [e] at this; simp at this; omega)
    unfold lowI
    rw [if_neg (by omega), ints_drop]
    have h2 := Has.drop h t
    simpa [Addr.add_lit] using h2
theorem slice_val {A A' : Option Addr} {n c : Nat} (h : A = A') : Value.slice A n c = Value.slice A' n c := by rw [h]
def insI (ks : List Int) (i id : Int) : List Int := if 0 ≤ i ∧ i < ks.length then ks.take (i.toNat + 1) ++ id :: ks.drop (i.toNat + 1) else ks
def insV (n : Nat) (ps : List RK) (i : Int) (x : RK) : List RK := if 0 ≤ i ∧ i < n then ps.take i.toNat ++ x :: ps.drop i.toNat else ps
theorem insI_no {ks : List Int} {i id : Int} (h : i < 0 ∨ (ks.length : Int) ≤ i) : insI ks i id = ks := by unfold insI; rw [if_neg (by omega)]
theorem insV_no {n : Nat} {ps : List RK} {i : Int} {x : RK} (h : i < 0 ∨ (n : Int) ≤ i) : insV n ps i x = ps := by unfold insV; rw [if_neg (by omega)]
theorem insI_yes {ks : List Int} {q : Nat} {id : Int} (h : q < ks.length) : insI ks (q : Int) id = ks.take (q + 1) ++ id :: ks.drop (q + 1) := by unfold insI; rw [if_pos (by omega)]; rfl
theorem insV_yes {n : Nat} {ps : List RK} {q : Nat} {x : RK} (h : q < n) : insV n ps (q : Int) x = ps.take q ++ x :: ps.drop q := by unfold insV; rw [if_pos (by omega)]; rfl
theorem insI_len (ks : List Int) (i id : Int) : (insI ks i id).length ≤ ks.length + 1 := by
  unfold insI
  split
  · simp; omega
  · omega
theorem insV_len (n : Nat) (ps : List RK) (i : Int) (x : RK) : (insV n ps i x).length ≤ ps.length + 1 := by
  unfold insV
  split
  · simp; omega
  · omega
abbrev OwnI (w : World) (B : Nat) (A : Option Addr) (c : Nat) (l : List Int) : Prop := Own w B 3 1 A l.length c (ints l)
abbrev OwnK (w : World) (B : Nat) (A : Option Addr) (c : Nat) (l : List RK) : Prop := Own w B 40 9 A l.length c (rows kc l)
def InsOut (W0 : World) (a : List Int) (b : List RK) (e : Ending) (w' : World) : Prop := ∃ A3 c3 A4 c4, e = .returned (.tuple #[.slice A3 a.length c3, .slice A4 b.length c4]) ∧ Hid (OwnI w' 0 A3 c3 a) ∧ Hid (OwnK w' 0 A4 c4 b) ∧ Fr W0 w'
theorem cat1I (A : Option Addr) (n c : Nat) (l : List Int) : catSI [⟨A, n, c, l⟩] = l := by simp [catSI]
theorem cat1K (A : Option Addr) (n c : Nat) (l : List RK) : catSK [⟨A, n, c, l⟩] = l := by simp [catSK]
end Go.Proofs.Ytcdcaanmmbopbaa
/- A kid more, by the document. -/
namespace Go.Proofs.Ytcdcaanmmbopbaa
set_option maxRecDepth 100000
open Go.RowKit
set_option linter.unusedVariables false
attribute [local go_sem ↓] key_ld msg_ld
theorem insI_one (l : List Int) (x i id : Int) : insI (l ++ [x]) i id = insI l i id ++ [x] ++ (if i = (l.length : Int) then [id] else []) := by
  by_cases h0 : i < 0
  · rw [insI_no (.inl h0), insI_no (.inl h0), if_neg (by omega), List.append_nil]
  · obtain ⟨q, rfl⟩ : ∃ q : Nat, i = q := ⟨i.toNat, by omega⟩
    rcases Nat.lt_trichotomy q l.length with h | h | h
    · rw [insI_yes (by simp; omega), insI_yes h, if_neg (by omega), List.append_nil, List.take_append_of_le_length (by omega), List.drop_append_of_le_length (by omega)]
      simp
    · rw [insI_yes (by simp; omega), insI_no (.inr (by omega)), if_pos (by omega), List.take_of_length_le (by simp; omega), List.drop_eq_nil_of_le (by simp; omega)]
    · rw [insI_no (.inr (by simp; omega)), insI_no (.inr (by omega)), if_neg (by omega), List.append_nil]
/-- The pivots so far, with one more put ahead of place i. -/
def insW (l : List RK) (i : Int) (x : RK) : List RK := if 0 ≤ i ∧ i < l.length then l.take i.toNat ++ x :: l.drop i.toNat else l
theorem insW_no {l : List RK} {i : Int} {x : RK} (h : i < 0 ∨ (l.length : Int) ≤ i) : insW l i x = l := by unfold insW; rw [if_neg (by omega)]
theorem insW_yes {l : List RK} {q : Nat} {x : RK} (h : q < l.length) : insW l (q : Int) x = l.take q ++ x :: l.drop q := by unfold insW; rw [if_pos (by omega)]; rfl
theorem insW_one (l : List RK) (p x : RK) (i : Int) : insW (l ++ [p]) i x = insW l i x ++ (if i = (l.length : Int) then [x] else []) ++ [p] := by
  by_cases h0 : i < 0
  · rw [insW_no (.inl h0), insW_no (.inl h0), if_neg (by omega), List.append_nil]
  · obtain ⟨q, rfl⟩ : ∃ q : Nat, i = q := ⟨i.toNat, by omega⟩
    rcases Nat.lt_trichotomy q l.length with h | h | h
    · rw [insW_yes (by simp; omega), insW_yes h, if_neg (by omega), List.append_nil, List.take_append_of_le_length (by omega), List.drop_append_of_le_length (by omega)]
      simp
    · rw [insW_yes (by simp; omega), insW_no (.inr (by omega)), if_pos (by omega), List.take_append_of_le_length (by omega), List.take_of_length_le (by omega), List.drop_append_of_le_length (by omega), List.drop_eq_nil_of_le (by omega)]
      simp
    · rw [insW_no (.inr (by simp; omega)), insW_no (.inr (by omega)), if_neg (by omega), List.append_nil]
theorem insW_end {ps : List RK} {i : Int} {x : RK} {n n2 : Nat} (hn2 : ps.length = n2) (hlen : n2 + 1 = n) : insV n ps i x = insW ps i x ++ (if i = (n2 : Int) then [x] else []) := by
  by_cases h0 : i < 0
  · rw [insV_no (.inl h0), insW_no (.inl h0), if_neg (by omega), List.append_nil]
  · obtain ⟨q, rfl⟩ : ∃ q : Nat, i = q := ⟨i.toNat, by omega⟩
    rcases Nat.lt_trichotomy q n2 with h | h | h
    · rw [insV_yes (by omega), insW_yes (by omega), if_neg (by omega), List.append_nil]
    · rw [insV_yes (by omega), insW_no (.inr (by omega)), if_pos (by omega), List.take_of_length_le (by omega), List.drop_eq_nil_of_le (by omega)]
    · rw [insV_no (.inr (by omega)), insW_no (.inr (by omega)), if_neg (by omega), List.append_nil]
theorem insW_len (ps : List RK) (i : Int) (x : RK) : (insW ps i x).length ≤ ps.length + 1 := by
  unfold insW
  split
  · simp; omega
  · omega
end Go.Proofs.Ytcdcaanmmbopbaa
/- Both halves of the kids, by the program. -/
namespace Go.Proofs.Ytcdcaanmmbopbaa
set_option maxRecDepth 100000
open Go.RowKit
set_option linter.unusedVariables false
attribute [local go_sem ↓] key_ld msg_ld key_st
theorem wpAnyH_memo {P : Program} {ops : Array Oper} {Q : Exit → Act → World → Prop} {md : Region.Mode} {S : World → Prop} {fuel : Nat} {listed : Array Bool} {a : Act} {w : World}
    (h : ∀ F : Nat → Array Bool → Act → World → Prop, (∀ fuel listed a w, F fuel listed a w → wpAnyH P md ops Q S fuel listed a w) → (∀ fuel listed a w, wpAnyH P md ops Q S fuel listed a w → F fuel listed a w) → F fuel listed a w) : wpAnyH P md ops Q S fuel listed a w :=
  h _ (fun _ _ _ _ h => h) (fun _ _ _ _ h => h)
theorem Sty.result6 {P : Program} {T n : Nat} {w : World} (S : Sty P T n) {fn : Func} {a b p c d t : Tmp} (h : fn.results = #[.tmp a, .tmp b, .cell p T, .tmp c, .tmp d, .tmp t]) (tmps : Array Value) (g : Nat) (hp : tmps.getD p undef = .pointer (some ⟨g, 0, none⟩)) {T' : Nat} {cs : List Value} (hl : cs.length = n) (ha : Arr w g T' cs.toArray) :
    (results fn tmps).run P w = .ok (.tuple #[tmps.getD a undef, tmps.getD b undef, .agg cs.toArray, tmps.getD c undef, tmps.getD d undef, tmps.getD t undef]) w := by
  have hp' : tmps[p]?.getD undef = .pointer (some ⟨g, 0, none⟩) := by simpa using hp
  simp [results, h, hp', asAddr, S.load hl ha]
theorem own_setRow {w : World} {B e size n c k : Nat} {A : Option Addr} {xs : List Value} (h : Own w B e size A n c xs) (hk : k < B) (ds : Array Value) : Own (w.setRow k ds) B e size A n c xs :=
  h.kept (row := some k) ⟨rfl, rfl, rfl, by simp [World.setRow], fun j _ hj => setRow_other w k j _ (fun e => hj (by rw [e]))⟩ (by
    cases hA : blk A with
    | none => exact .inl rfl
    | some b =>
      have := (h.lt b hA).1
      exact .inr (fun e => by injection e with e; omega))
theorem zeroK_box (w : World) : ∃ Z, w.alloc (.cells (kc zeroK).toArray 40) = Z ∧ Fr w Z ∧ Fr Z Z ∧ Arr Z w.heap.size 40 (kc zeroK).toArray ∧ Z.heap.size = w.heap.size + 1 := ⟨_, rfl, fr_new (fr_refl w) _, fr_refl _, Arr.new w _ _, by simp⟩
def HalfNo : Value := .tuple #[.slice none 0 0, .slice none 0 0, kv zeroK, .slice none 0 0, .slice none 0 0, .bool false]
def HalfOut (W0 : World) (ks : List Int) (ps : List RK) (m : RK) (e : Ending) (w' : World) : Prop := ∃ A1 c1 A2 c2 A3 c3 A4 c4, e = .returned (.tuple #[.slice A1 2 c1, .slice A2 1 c2, kv m, .slice A3 2 c3, .slice A4 1 c4, .bool true]) ∧ Hid (Own w' 0 3 1 A1 2 c1 (ints (ks.take 2))) ∧ Hid (Own w' 0 40 9 A2 1 c2 (rows kc (ps.take 1))) ∧ Hid (Own w' 0 3 1 A3 2 c3 (ints (ks.drop 2))) ∧ Hid (Own w' 0 40 9 A4 1 c4 (rows kc (ps.drop 2))) ∧ Fr W0 w'
end Go.Proofs.Ytcdcaanmmbopbaa
/- Both halves of the kids, by the document. -/
namespace Go.Proofs.Ytcdcaanmmbopbaa
set_option maxRecDepth 100000
open Go.RowKit
set_option linter.unusedVariables false
attribute [local go_sem ↓] key_ld msg_ld key_st
end Go.Proofs.Ytcdcaanmmbopbaa
