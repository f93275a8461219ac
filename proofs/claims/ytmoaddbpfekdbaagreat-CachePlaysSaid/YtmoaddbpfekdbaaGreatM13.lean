/- The program's 'own' as it tells of nodes; the kind of a node, the table of what is done, small tests. -/
import Derived.Test.YtmoaddbpfekdbaaGreatM12
import Derived.Test.YtmoaddbpfekdbaaGreatM11
import Derived.Lib.AppendZerosOnto
import Derived.Lib.Overlaps
import Derived.Lib.SlBuf
import Derived.Deep.Upon
namespace Go.Proofs.YtmoaddbpfekdbaaGreat
set_option linter.unusedVariables false
set_option linter.unusedSimpArgs false
set_option maxRecDepth 100000
open Go.RowKit
attribute [local go_sem ↓] nod_ld
theorem ints_isnil (A : Option Addr) (n c : Nat) (w : World) : (binOp .eql 37 (.slice A n c) (.slice none 0 0)).run Tryz.prog w = .ok (.bool A.isNone) w := run_eql_slice_nil w _ _ A n c ints_und
theorem keys_isnil (A : Option Addr) (n c : Nat) (w : World) : (binOp .eql 38 (.slice A n c) (.slice none 0 0)).run Tryz.prog w = .ok (.bool A.isNone) w := run_eql_slice_nil w _ _ A n c keys_und
set_option maxHeartbeats 4000000 in
theorem iclone_at {w : World} {A : Option Addr} {n c B : Nat} {l : List Int} (hl : Has w B A (ints l)) (hB : B ≤ w.heap.size) (hn : l.length = n) (hsm : n ≤ 1000000) :
    Calls Tryz.prog 71 #[.slice A n c] w fun e w' => ∃ A' c', e = .returned (.slice A' n c') ∧ Own w' w.heap.size 3 1 A' n c' (ints l) ∧ Fr w w' := by
  have hlen := ints_len1 l
  cases A with
  | none =>
    have h0 := hl.none_nil
    rw [h0] at hlen
    have h1 : n = 0 := by simp at hlen; omega
    subst h1
    have hq := ints_isnil none 0 c
    simp only [Option.isNone_none] at hq
    rw [h0]
    clear hl hlen h0
    go_enter Tryz.func71, Tryz.ntmps71
    go_wp2_with fail
    go_ret
    exact ⟨none, 0, rfl, Own.nil _ _ _ _, fr_refl w⟩
  | some a =>
    subst hn
    have ho : Own (w.alloc (.cells #[] 3)) w.heap.size 3 1 (some ⟨w.heap.size, 0, none⟩) 0 0 [] := Own.lit w w.heap.size 3 #[] 0 1 (Nat.le_refl _) (Nat.zero_le _) rfl
    have hl2 : Has (w.alloc (.cells #[] 3)) B (some a) (ints l) := hl.below ((fr_new (fr_refl w) (.cells #[] 3)).mono hB)
    have hq := ints_isnil (some a) l.length c
    simp only [Option.isNone_some] at hq
    have rr := fr_refl w
    clear hl
    go_enter Tryz.func71, Tryz.ntmps71
    go_wp2_with (first
      | (refine wpList_append_vals (w0 := w) int_elem ints_und (by decide) rfl (.tmp 5) (.tmp 6) rfl (fr_new rr _) (some ⟨w.heap.size, 0, none⟩) 0 0 [] rfl ho B (some a) l.length c (ints l) rfl hlen hl2 (ints_one l) (by simp only [maxLen]; omega) (by omega) ?_; intro A' c' w' h1 h2)
      | fail)
    go_ret
    exact ⟨A', c', by simp, by simpa using h1, h2⟩
set_option maxHeartbeats 4000000 in
theorem kclone_at {w : World} {A : Option Addr} {n c B : Nat} {l : List RK} (hl : Has w B A (rows kc l)) (hB : B ≤ w.heap.size) (hn : l.length = n) (hsm : n ≤ 1000000) :
    Calls Tryz.prog 72 #[.slice A n c] w fun e w' => ∃ A' c', e = .returned (.slice A' n c') ∧ Own w' w.heap.size 112 9 A' n c' (rows kc l) ∧ Fr w w' := by
  have hlen := rowk_len l
  cases A with
  | none =>
    have h0 := hl.none_nil
    rw [h0] at hlen
    have h1 : n = 0 := by simp at hlen; omega
    subst h1
    have hq := keys_isnil none 0 c
    simp only [Option.isNone_none] at hq
    rw [h0]
    clear hl hlen h0
    go_enter Tryz.func72, Tryz.ntmps72
    go_wp2_with fail
    go_ret
    exact ⟨none, 0, rfl, Own.nil _ _ _ _, fr_refl w⟩
  | some a =>
    subst hn
    have ho : Own (w.alloc (.cells #[] 112)) w.heap.size 112 9 (some ⟨w.heap.size, 0, none⟩) 0 0 [] := Own.lit w w.heap.size 112 #[] 0 9 (Nat.le_refl _) (Nat.zero_le _) rfl
    have hl2 : Has (w.alloc (.cells #[] 112)) B (some a) (rows kc l) := hl.below ((fr_new (fr_refl w) (.cells #[] 112)).mono hB)
    have hq := keys_isnil (some a) l.length c
    simp only [Option.isNone_some] at hq
    have rr := fr_refl w
    clear hl
    go_enter Tryz.func72, Tryz.ntmps72
    go_wp2_with (first
      | (refine wpList_append_vals (w0 := w) key_elem keys_und (by decide) rfl (.tmp 5) (.tmp 6) rfl (fr_new rr _) (some ⟨w.heap.size, 0, none⟩) 0 0 [] rfl ho B (some a) l.length c (rows kc l) rfl hlen hl2 (keys_one l) (by simp only [maxLen]; omega) (by omega) ?_; intro A' c' w' h1 h2)
      | fail)
    go_ret
    exact ⟨A', c', by simp, by simpa using h1, h2⟩
theorem rows_ec_one16 (l : List RE) : One (rows ec l) := rows_one ec_one l
theorem mc_one16 (m : RM) : One (mc m) := .cons rfl (.cons rfl (.app (kc_one _) (.app (vc_one _) (.cons rfl .nil))))
theorem rows_mc_one16 (l : List RM) : One (rows mc l) := rows_one mc_one16 l
theorem msgs_und16 : Tryz.prog.underlying 39 = some (.slice 123) := Tryz.underlying39
theorem msg_elem16 : Elem Tryz.prog 123 29 64 := Elem.of (z := .agg (mc zeroM).toArray) (by kernel_rfl) (by kernel_rfl) (by kernel_rfl) rfl
set_option maxHeartbeats 4000000 in
theorem eclone16 {w : World} {A : Option Addr} {n c B : Nat} {l : List RE} (hl : Has w B A (rows ec l)) (hB : B ≤ w.heap.size) (hn : l.length = n) (hsm : n ≤ 1000000) (wl : WfE l) :
    Calls Tryz.prog 70 #[.slice A n c] w fun e w' => ∃ A' c', e = .returned (.slice A' n c') ∧ Own w' w.heap.size 117 26 A' n c' (rows ec l) ∧ Fr w w' := by
  have hlen := rows_len wl.wid
  cases A with
  | none =>
    have h0 := hl.none_nil
    rw [h0] at hlen
    have h1 : n = 0 := by simp at hlen; omega
    subst h1
    have hq : (binOp .eql 36 (.slice none 0 c) (.slice none 0 0)).run Tryz.prog = fun w => .ok (.bool true) w := by funext w; exact run_eql_slice_nil w _ _ none 0 c ents_under
    have hq2 := fun w => congrFun hq w
    rw [h0]
    clear hl hlen h0 hq
    go_enter Tryz.func70, Tryz.ntmps70
    go_wp2_with fail
    go_ret
    exact ⟨none, 0, rfl, Own.nil _ _ _ _, fr_refl w⟩
  | some a =>
    subst hn
    have ho : Own (w.alloc (.cells #[] 117)) w.heap.size 117 26 (some ⟨w.heap.size, 0, none⟩) 0 0 [] := Own.lit w w.heap.size 117 #[] 0 26 (Nat.le_refl _) (Nat.zero_le _) rfl
    have hl2 : Has (w.alloc (.cells #[] 117)) B (some a) (rows ec l) := hl.below ((fr_new (fr_refl w) (.cells #[] 117)).mono hB)
    have hq2 : ∀ w, (binOp .eql 36 (.slice (some a) l.length c) (.slice none 0 0)).run Tryz.prog w = .ok (.bool false) w := fun w => run_eql_slice_nil w _ _ (some a) l.length c ents_under
    have rr := fr_refl w
    have h1 := rows_ec_one16 l
    clear hl wl
    go_enter Tryz.func70, Tryz.ntmps70
    go_wp2_with (first
      | (refine wpList_append_vals (w0 := w) ent_elem ents_under (by decide) rfl (.tmp 5) (.tmp 6) rfl (fr_new rr _) (some ⟨w.heap.size, 0, none⟩) 0 0 [] rfl ho B (some a) l.length c (rows ec l) rfl hlen hl2 h1 (by simp only [maxLen]; omega) (by omega) ?_; intro A' c' w' h1 h2)
      | fail)
    go_ret
    exact ⟨A', c', by simp, by simpa using h1, h2⟩
set_option maxHeartbeats 4000000 in
theorem mclone16 {w : World} {A : Option Addr} {n c B : Nat} {l : List RM} (hl : Has w B A (rows mc l)) (hB : B ≤ w.heap.size) (hn : l.length = n) (hsm : n ≤ 1000000) (wl : WfM l) :
    Calls Tryz.prog 73 #[.slice A n c] w fun e w' => ∃ A' c', e = .returned (.slice A' n c') ∧ Own w' w.heap.size 123 29 A' n c' (rows mc l) ∧ Fr w w' := by
  have hlen := rows_len wl.wid
  cases A with
  | none =>
    have h0 := hl.none_nil
    rw [h0] at hlen
    have h1 : n = 0 := by simp at hlen; omega
    subst h1
    have hq : (binOp .eql 39 (.slice none 0 c) (.slice none 0 0)).run Tryz.prog = fun w => .ok (.bool true) w := by funext w; exact run_eql_slice_nil w _ _ none 0 c msgs_und16
    have hq2 := fun w => congrFun hq w
    rw [h0]
    clear hl hlen h0 hq
    go_enter Tryz.func73, Tryz.ntmps73
    go_wp2_with fail
    go_ret
    exact ⟨none, 0, rfl, Own.nil _ _ _ _, fr_refl w⟩
  | some a =>
    subst hn
    have ho : Own (w.alloc (.cells #[] 123)) w.heap.size 123 29 (some ⟨w.heap.size, 0, none⟩) 0 0 [] := Own.lit w w.heap.size 123 #[] 0 29 (Nat.le_refl _) (Nat.zero_le _) rfl
    have hl2 : Has (w.alloc (.cells #[] 123)) B (some a) (rows mc l) := hl.below ((fr_new (fr_refl w) (.cells #[] 123)).mono hB)
    have hq2 : ∀ w, (binOp .eql 39 (.slice (some a) l.length c) (.slice none 0 0)).run Tryz.prog w = .ok (.bool false) w := fun w => run_eql_slice_nil w _ _ (some a) l.length c msgs_und16
    have rr := fr_refl w
    have h1 := rows_mc_one16 l
    clear hl wl
    go_enter Tryz.func73, Tryz.ntmps73
    go_wp2_with (first
      | (refine wpList_append_vals (w0 := w) msg_elem16 msgs_und16 (by decide) rfl (.tmp 5) (.tmp 6) rfl (fr_new rr _) (some ⟨w.heap.size, 0, none⟩) 0 0 [] rfl ho B (some a) l.length c (rows mc l) rfl hlen hl2 h1 (by simp only [maxLen]; omega) (by omega) ?_; intro A' c' w' h1 h2)
      | fail)
    go_ret
    exact ⟨A', c', by simp, by simpa using h1, h2⟩
/-- A node in memory of its own. -/
theorem own_new {w : World} {ok : Nat → Prop} {v : NV} {n : RN} (h : NP w ok v n) :
    Calls Tryz.prog 44 #[nv v] w fun e w' => ∃ v', e = .returned (nv v') ∧ Hid (NP w' (fun b => w.heap.size + 2 ≤ b) v' n) ∧ Fr w w' := by
  have l1 := h.l1
  have l2 := h.l2
  have l3 := h.l3
  have l4 := h.l4
  have s1 := h.s1
  have s2 := h.s2
  have s3 := h.s3
  have s4 := h.s4
  refine (own_raw (w := w) (v := v) (x1 := rows ec n.es) (x2 := ints n.ks) (x3 := rows kc n.ps) (x4 := rows mc n.ms) (fun W f => ?_) (fun W f => ?_) (fun W f => ?_) (fun W f => ?_)).mono ?_
  · have k := h.h1.fr f
    refine (eclone16 k.has (Nat.le_refl _) l1 (by omega) h.w1).mono ?_
    rintro e w' ⟨A', c', e1, e2, e3⟩
    exact ⟨A', c', e1, e2.hasP (fun _ h => h), by have := e2.cap; omega, e3⟩
  · have k := h.h2.fr f
    refine (iclone_at k.has (Nat.le_refl _) l2 (by omega)).mono ?_
    rintro e w' ⟨A', c', e1, e2, e3⟩
    exact ⟨A', c', e1, e2.hasP (fun _ h => h), e2.cap, e3⟩
  · have k := h.h3.fr f
    refine (kclone_at k.has (Nat.le_refl _) l3 (by omega)).mono ?_
    rintro e w' ⟨A', c', e1, e2, e3⟩
    exact ⟨A', c', e1, e2.hasP (fun _ h => h), e2.cap, e3⟩
  · have k := h.h4.fr f
    refine (mclone16 k.has (Nat.le_refl _) l4 (by omega) h.w4).mono ?_
    rintro e w' ⟨A', c', e1, e2, e3⟩
    exact ⟨A', c', e1, e2.hasP (fun _ h => h), by have := e2.cap; omega, e3⟩
  · rintro e w' ⟨A1, c1, A2, c2, A3, c3, A4, c4, e1, ⟨i1, j1, i2, j2, i3, j3, i4, j4⟩, f⟩
    exact ⟨_, e1, keep ⟨h.lf, i1, h.l1, h.s1, h.w1, i2, h.l2, j2, h.s2, i3, h.l3, h.s3, h.w3, i4, h.l4, j4, h.s4, h.w4⟩, f⟩
end Go.Proofs.YtmoaddbpfekdbaaGreat
/- Rows at whatever place of their block: what lasts, parts of them, appends onto them, copies and stores into them. No program text. -/
namespace Go.Proofs.YtmoaddbpfekdbaaGreat
set_option linter.unusedVariables false
set_option linter.unusedSimpArgs false
set_option maxRecDepth 100000
open Go.RowKit
/-- The block of a slice. -/
def At (A : Option Addr) (k : Nat) : Prop := blk A = some k
/-- The slice (A, n, c) has the cells xs, in a block of its own type, from some place on; there is room for c. -/
def Rw (w : World) (e size : Nat) (A : Option Addr) (n c : Nat) (xs : List Value) : Prop :=
  xs.length = n * size ∧ ((A = none ∧ n = 0 ∧ c = 0) ∨ ∃ (g : Nat) (p r : List Value), A = some ⟨g, p.length, none⟩ ∧ Arr w g e (p ++ (xs ++ r)).toArray ∧ n ≤ c ∧ c ≤ maxLen ∧ c * size ≤ xs.length + r.length)
/-- Where 's[t:]' begins, of a slice with room m. -/
def lowB (size : Nat) (A : Option Addr) (m t : Nat) : Option Addr := if m = t then A else A.map (·.add (t * size))
theorem lowB_some {size g o m t : Nat} (h : t ≠ m) : lowB size (some ⟨g, o, none⟩) m t = some ⟨g, o + t * size, none⟩ := by
  unfold lowB
  rw [if_neg (fun e => h e.symm)]
  simp [Addr.add_lit]
section
variable {w W : World} {e size n c : Nat} {A : Option Addr} {xs : List Value} {X : Nat → Prop}
theorem Rw.len (h : Rw w e size A n c xs) : xs.length = n * size := h.1
theorem Rw.cap (h : Rw w e size A n c xs) : n ≤ c := by
  rcases h.2 with ⟨_, h1, h2⟩ | ⟨g, p, r, _, _, h, _⟩
  · omega
  · exact h
theorem Rw.max (h : Rw w e size A n c xs) : c ≤ maxLen := by
  rcases h.2 with ⟨_, h1, h2⟩ | ⟨g, p, r, _, _, _, h, _⟩
  · rw [h2]; exact Nat.zero_le _
  · exact h
theorem Rw.nil (w : World) (e size : Nat) : Rw w e size none 0 0 [] := ⟨by simp, .inl ⟨rfl, rfl, rfl⟩⟩
theorem Rw.lt (h : Rw w e size A n c xs) : ∀ k, At A k → k < w.heap.size := by
  intro k hk
  rcases h.2 with ⟨rfl, _⟩ | ⟨g, p, r, rfl, ha, _⟩
  · cases hk
  · injection hk with hk
    subst hk
    exact ha.lt
theorem Rw.move (h : Rw w e size A n c xs) (hb : ∀ k, At A k → W.heap[k]? = w.heap[k]?) : Rw W e size A n c xs := by
  refine ⟨h.1, h.2.imp id fun ⟨g, p, r, e1, ha, k⟩ => ⟨g, p, r, e1, ?_, k⟩⟩
  exact (hb g (by rw [e1]; rfl)).trans ha
theorem Rw.chg (h : Rw w e size A n c xs) (k : Chg X w W) (hx : ∀ b, At A b → ¬ X b) : Rw W e size A n c xs := h.move fun b hb => k.block b (h.lt b hb) (hx b hb)
theorem Rw.fr (h : Rw w e size A n c xs) (k : Fr w W) : Rw W e size A n c xs := h.move fun b hb => k.block b (h.lt b hb)
theorem Rw.has (h : Rw w e size A n c xs) : Has w w.heap.size A xs := by
  intro j u hu
  rcases h.2 with ⟨_, hn, _⟩ | ⟨g, p, r, rfl, ha, _⟩
  · have hl := h.1
    rw [hn, Nat.zero_mul] at hl
    rw [List.eq_nil_of_length_eq_zero hl] at hu
    simp at hu
  · refine ⟨g, p.length, rfl, ha.lt, ?_⟩
    rw [ha.cell]
    simp only [List.getElem?_toArray]
    rw [List.getElem?_append_right (by omega), Nat.add_sub_cancel_left, List.getElem?_append_left (List.getElem?_eq_some_iff.1 hu).1]
    exact hu
theorem Rw.hasP (h : Rw w e size A n c xs) : HasP w (At A) A xs := fun j u hu => by
  obtain ⟨b, off, h1, h2, h3⟩ := h.has j u hu
  exact ⟨b, off, h1, by rw [h1]; rfl, h3⟩
theorem Rw.addr (h : Rw w e size A n c xs) (hn : 0 < n) : ∃ g o, A = some ⟨g, o, none⟩ := by
  rcases h.2 with ⟨_, h0, _⟩ | ⟨g, p, r, rfl, _⟩
  · omega
  · exact ⟨_, _, rfl⟩
theorem Own.rw' {B : Nat} (h : Own w B e size A n c xs) : Rw w e size A n c xs := by
  refine ⟨h.len, ?_⟩
  rcases h.2 with ⟨hv, hn⟩ | ⟨g, cap, cur, hv, hb, hg, h1, h2, h3, h4⟩
  · injection hv with hA hn hc
    exact .inl ⟨hA, hn, hc⟩
  · injection hv with hA _ hc
    subst hA hc
    have e0 : cur.toList = xs ++ cur.toList.drop (n * size) := by rw [← h4, List.take_append_drop]
    refine .inr ⟨g, [], cur.toList.drop (n * size), rfl, ?_, h1, h2, ?_⟩
    · rw [List.nil_append, ← e0]
      exact hg
    · rw [← List.length_append, ← e0, Array.length_toList, h3]
      exact Nat.le_refl _
theorem Rw.pre (h : Rw w e size A n c xs) {i : Nat} (hi : i ≤ n) : Rw w e size A i c (xs.take (i * size)) := by
  have hle : i * size ≤ n * size := Nat.mul_le_mul_right _ hi
  have hl := h.len
  refine ⟨by rw [List.length_take]; omega, ?_⟩
  rcases h.2 with ⟨e1, h0, h2⟩ | ⟨g, p, r, e1, ha, h1, h2, h3⟩
  · exact .inl ⟨e1, by omega, h2⟩
  · refine .inr ⟨g, p, xs.drop (i * size) ++ r, e1, ?_, by omega, h2, ?_⟩
    · rw [← List.append_assoc (xs.take _), List.take_append_drop]
      exact ha
    · rw [List.length_append, ← Nat.add_assoc, ← List.length_append, List.take_append_drop]
      exact h3
theorem Rw.more (h : Rw w e size A n c xs) {m : Nat} (hm : n ≤ m) (hc : m ≤ c) (h0 : 0 < c) : ∃ ys, Rw w e size A m c (xs ++ ys) ∧ ys.length = (m - n) * size := by
  rcases h.2 with ⟨e1, e0, h2⟩ | ⟨g, p, r, e1, ha, h1, h2, h3⟩
  · omega
  · have hl := h.len
    have e2 : m * size = n * size + (m - n) * size := by rw [← Nat.add_mul]; congr 1; omega
    have e3 : m * size ≤ c * size := Nat.mul_le_mul_right _ hc
    have hy : (r.take ((m - n) * size)).length = (m - n) * size := by rw [List.length_take]; omega
    refine ⟨r.take ((m - n) * size), ⟨by rw [List.length_append, hy]; omega, .inr ⟨g, p, r.drop ((m - n) * size), e1, ?_, hc, h2, ?_⟩⟩, hy⟩
    · rw [List.append_assoc, List.take_append_drop]
      exact ha
    · rw [List.length_append, Nat.add_assoc, ← List.length_append, List.take_append_drop]
      exact h3
end
section
variable {P : Program} (w : World) {e size n c : Nat} {xs : List Value}
theorem splice_mid (p xs r vs : List Value) (off : Nat) (hf : off + vs.length ≤ xs.length) : (p ++ (xs ++ r)).take (p.length + off) ++ vs ++ (p ++ (xs ++ r)).drop (p.length + off + vs.length) = p ++ ((xs.take off ++ vs ++ xs.drop (off + vs.length)) ++ r) := by
  rw [List.take_length_add_append, Nat.add_assoc, List.drop_length_add_append, List.take_append_of_le_length (by omega), List.drop_append_of_le_length (by omega)]
  simp only [List.append_assoc]
/-- Cells stored from place off on. -/
theorem rw_cells {g o : Nat} (ho : Rw w e size (some ⟨g, o, none⟩) n c xs) (off : Nat) (vs : List Value) (h1 : One vs) (hf : off + vs.length ≤ n * size) :
    ∃ w', (storeCells ⟨g, o + off, none⟩ vs).run P w = .ok () w' ∧ Rw w' e size (some ⟨g, o, none⟩) n c (xs.take off ++ vs ++ xs.drop (off + vs.length)) ∧ Chg (· = g) w w' := by
  have hl := ho.len
  rcases ho.2 with ⟨hA, _⟩ | ⟨g', p, r, hA, ha, hnc, hcm, hr⟩
  · cases hA
  · injection hA with hA
    injection hA with e1 e2
    subst e1 e2
    have hst := run_storeCells_at P g (p.length + off) e vs 0 (p ++ (xs ++ r)).toArray w ha (by simp; omega) h1
    simp only [Nat.add_zero, List.toList_toArray] at hst
    rw [splice_mid p xs r vs off (by omega)] at hst
    refine ⟨_, hst, ⟨?_, .inr ⟨g, p, r, rfl, ha.setRow _, hnc, hcm, ?_⟩⟩, chg_row w g _⟩
    · simp only [List.length_append, List.length_take, List.length_drop]; omega
    · simp only [List.length_append, List.length_take, List.length_drop]; omega
theorem has_first {A : Option Addr} {B m len cap s : Nat} {news : List Value} (hn : Has w B A news) (hl : news.length = m * s) : (Builtin.firstCells s m (.slice A len cap)).run P w = .ok news.toArray w := by
  cases A with
  | none =>
    rw [hn.none_nil]
    exact run_firstCells_none w s m len cap
  | some a =>
    by_cases h0 : news = []
    · subst h0
      exact run_firstCells_some w s m a len cap [] hl (fun j v h => by simp at h)
    · obtain ⟨b, off, e1, _, hc⟩ := hn.form h0
      injection e1 with e1
      subst e1
      exact run_firstCells_some w s m _ len cap news hl (fun j u hu => by rw [Addr.add_lit]; exact hc j u hu)
theorem src_has {A : Option Addr} {B m cap s : Nat} {tx e' : TypeId} {news : List Value} (hk : P.underlying tx = some (.slice e')) (hn : Has w B A news) (hl : news.length = m * s) (h1 : One news) : Src P s tx (.slice A m cap) m news w :=
  ⟨.inl ⟨e', hk⟩, fun _ => rfl, has_first w hn hl, has_first w.drew (hn.lift fun _ _ => rfl) hl, hl, h1⟩
theorem list_arr (xs : List Value) (Z : Array Value) : (([] : List Value) ++ (xs ++ Z.toList)).toArray = xs.toArray ++ Z := by
  apply Array.ext'
  simp
/-- What an append leaves: at the same place, or in a new block. -/
structure Put (w w' : World) (A A' : Option Addr) : Prop where
  chg : Chg (At A) w w'
  lies : A' = A ∨ (blk A' = some w.heap.size ∧ w.heap.size < w'.heap.size)
theorem Put.blk {w w' : World} {A A' : Option Addr} (h : Put w w' A A') : ∀ k, At A' k → At A k ∨ w.heap.size ≤ k := fun k hk => by
  rcases h.lies with e1 | ⟨e1, _⟩
  · rw [e1] at hk; exact .inl hk
  · unfold At at hk
    rw [e1] at hk
    injection hk with hk
    exact .inr (by omega)
/-- 'append(s, x...)'. -/
theorem rw_append (t tx ty : TypeId) {bytes : Nat} (E : Elem P e size bytes) (ht : P.underlying t = some (.slice e)) (hsz : 0 < size) {A : Option Addr} (ho : Rw w e size A n c xs) (x : Value) (m : Nat) (news : List Value) (hs : Src P size tx x m news w)
    (h63 : n + m ≤ maxLen) (hbytes : (n + m) * bytes ≤ 140737488355328) :
    ∃ A' c' w', (Builtin.append_ #[t, tx] ty #[.slice A n c, x]).run P w = .ok (.slice A' (n + m) c') w' ∧ Rw w' e size A' (n + m) c' (xs ++ news) ∧ Put w w' A A' := by
  obtain ⟨i, z, hi, hz, hsize, hby, hzs⟩ := E.row
  subst hsize
  subst hby
  have hl := ho.len
  have hnl := hs.newsLen
  by_cases hm : m = 0
  · subst hm
    have : news = [] := List.eq_nil_of_length_eq_zero (by simpa using hnl)
    subst this
    exact ⟨A, c, w, run_append_nothing w t tx ty e i ht hi A n c ho.cap x hs, by simpa using ho, .refl _ _, .inl rfl⟩
  · have hnl0 : 0 < news.length := by rw [hnl]; exact Nat.mul_pos (by omega) hsz
    by_cases hroom : n + m ≤ c
    · rcases ho.2 with ⟨_, _, h0⟩ | ⟨g, p, r, rfl, ha, hnc, hcm, hr⟩
      · omega
      · have e4 : (n + m) * i.size ≤ c * i.size := Nat.mul_le_mul_right _ hroom
        rw [Nat.add_mul] at e4
        have hst := run_storeCells_at P g (p.length + n * i.size) e news 0 (p ++ (xs ++ r)).toArray w ha (by simp; omega) hs.one
        simp only [Nat.add_zero, List.toList_toArray] at hst
        have e5 : (p ++ (xs ++ r)).take (p.length + n * i.size) ++ news ++ (p ++ (xs ++ r)).drop (p.length + n * i.size + news.length) = p ++ ((xs ++ news) ++ r.drop news.length) := by
          rw [List.take_length_add_append, Nat.add_assoc, List.drop_length_add_append, ← hl, List.take_left' rfl, List.drop_length_add_append]
          simp only [List.append_assoc]
        rw [e5] at hst
        refine ⟨some ⟨g, p.length, none⟩, c, _, ?_, ⟨by rw [List.length_append, Nat.add_mul]; omega, .inr ⟨g, p, r.drop news.length, rfl, ha.setRow _, hroom, hcm, by rw [List.length_append, List.length_drop]; omega⟩⟩, (chg_row w g _).weak fun k _ e => by subst e; rfl, .inl rfl⟩
        rcases hs.kind with ⟨e', hk⟩ | hk <;> simp [Builtin.append_, run_underlying ht, run_underlying hk, sizeOf, typeInfo, hi, hs.len, hroom, hs.cells, Addr.add_lit, hst]
    · have hg : c < n + m := by omega
      have hold := has_first (P := P) (len := n) (cap := c) w.drew (ho.has.lift fun _ _ => rfl : Has w.drew w.heap.size A xs) hl
      have hb : n ≤ c := ho.cap
      have hr := run_append_grow_src (P := P) w t tx ty e i z ht hi hz A n c xs hold x m news hs hg (by simp only [maxLen] at h63; omega) (growslice_fits hg hbytes)
      have hge := grownCap_ge w (n + m) c e
      have hcm : grownCap w (n + m) c e ≤ maxLen := grownCap_le_maxLen w (n + m) c e h63
      refine ⟨_, _, _, hr, ⟨by rw [List.length_append, Nat.add_mul]; omega, .inr ⟨w.heap.size, [], (Builtin.zeroCells z.cells (grownCap w (n + m) c e - (n + m))).toList, rfl, ?_, hge, hcm, ?_⟩⟩, ?_, .inr ⟨rfl, by simp⟩⟩
      · have := Arr.new w.drew ((xs ++ news).toArray ++ Builtin.zeroCells z.cells (grownCap w (n + m) c e - (n + m))) e
        rw [list_arr]
        exact this
      · have hq : (Builtin.zeroCells z.cells (grownCap w (n + m) c e - (n + m))).toList.length = (grownCap w (n + m) c e - (n + m)) * i.size := by simp [size_zeroCells, hzs]
        rw [List.length_append, hq, hl, hnl, ← Nat.add_mul, ← Nat.add_mul]
        exact Nat.mul_le_mul_right _ (by omega)
      · exact ((Chg.refl (At A) w).drew).alloc _
/-- 'copy(s[k:], x)'. -/
theorem rw_copy {g o : Nat} (t ty : TypeId) (ht : P.underlying t = some (.slice e)) {bytes : Nat} (E : Elem P e size bytes) (ho : Rw w e size (some ⟨g, o, none⟩) n c xs) (k d c1 : Nat) (C : Nat) (A2 : Option Addr) (m m2 c2 : Nat) (news : List Value) (hl : news.length = m * size) (hn : Has w C A2 news) (h1 : One news) (hmd : Nat.min m2 d = m) (hk : k + m ≤ n) (hm : 0 < m) (hs : 0 < size) :
    ∃ w', (Builtin.copy_ #[t, t] ty #[.slice (some ⟨g, o + k * size, none⟩) d c1, .slice A2 m2 c2]).run P w = .ok (.int .i64 m) w' ∧ Rw w' e size (some ⟨g, o, none⟩) n c (xs.take (k * size) ++ news ++ xs.drop ((k + m) * size)) ∧ Chg (· = g) w w' := by
  obtain ⟨i, z, hi, hz, hsize, hby, hzs⟩ := E.row
  have hfit : k * size + news.length ≤ n * size := by rw [hl, ← Nat.add_mul]; exact Nat.mul_le_mul_right _ hk
  obtain ⟨w', hr, h2, h3⟩ := rw_cells (P := P) w ho (k * size) news h1 hfit
  have e1 : k * size + news.length = (k + m) * size := by rw [hl, Nat.add_mul]
  rw [e1] at h2
  refine ⟨w', ?_, h2, h3⟩
  have hne : news ≠ [] := by
    intro h
    rw [h] at hl
    have : 0 < m * size := Nat.mul_pos hm hs
    simp at hl
    omega
  obtain ⟨b, off, rfl, _, hc⟩ := hn.form hne
  have hfo := run_firstCells_some (P := P) w i.size m ⟨b, off, none⟩ m2 c2 news (by rw [hsize]; exact hl) (fun j u hu => by rw [Addr.add_lit]; exact hc j u hu)
  have hmin := hmd
  simp [Builtin.copy_, run_underlying ht, Builtin.lenOf, hmin, sizeOf, typeInfo, hi, hfo, hr, goInt]
/-- 'clear(s[k:])'. -/
theorem rw_clear {g o : Nat} (t ty : TypeId) (ht : P.underlying t = some (.slice e)) {i : TypeInfo} {z : Value} (hi : P.info? e = some i) (hz : i.zero = some z) (hzs : z.cells.size = size) (hz1 : One z.cells.toList)
    (ho : Rw w e size (some ⟨g, o, none⟩) n c xs) (k c1 : Nat) (hk : k < n) :
    ∃ w' ys, (Builtin.clear_ #[t] ty #[.slice (some ⟨g, o + k * size, none⟩) (n - k) c1]).run P w = .ok (.tuple #[]) w' ∧ Rw w' e size (some ⟨g, o, none⟩) n c (xs.take (k * size) ++ ys) ∧ Chg (· = g) w w' := by
  have e1 : k * size + (n - k) * size = n * size := by rw [← Nat.add_mul]; congr 1; omega
  have hlen : (Builtin.zeroCells z.cells (n - k)).toList.length = (n - k) * size := by simp [size_zeroCells, hzs]
  have hone : One (Builtin.zeroCells z.cells (n - k)).toList := by
    intro v hv
    simp only [Builtin.zeroCells, Array.toList_map, List.mem_map] at hv
    obtain ⟨j, hj, rfl⟩ := hv
    simp at hj
    have hp : 0 < z.cells.size := by
      rcases Nat.eq_zero_or_pos z.cells.size with h | h
      · rw [h] at hj; omega
      · exact h
    have hlt := Nat.mod_lt j hp
    rw [getElem!_pos z.cells _ hlt]
    exact hz1 _ (by simp)
  obtain ⟨w', hr, h2, h3⟩ := rw_cells (P := P) w ho (k * size) _ hone (by omega)
  refine ⟨w', (Builtin.zeroCells z.cells (n - k)).toList, ?_, ?_, h3⟩
  rotate_left
  · rw [hlen, e1, List.drop_eq_nil_of_le (by rw [ho.len]; omega), List.append_nil] at h2
    exact h2
  · obtain ⟨d, hd⟩ : ∃ d, n - k = d + 1 := ⟨n - k - 1, by omega⟩
    rw [hd] at hr ⊢
    simp [Builtin.clear_, run_underlying ht, zeroValue, typeInfo, hi, hz, hr]
end
end Go.Proofs.YtmoaddbpfekdbaaGreat
