/- What the functions of layer 3 come to, eleven: 'Order', of the document. -/
import Derived.Test.YtignnjflodkihaaKeyJ
import Derived.Deep.RegionLaw
import Derived.Deep.RegionWith
import Derived.Lib.AppendZeros
import Derived.Deep.RegionHeld3
namespace Go.Proofs.Ytignnjflodkihaa
open Go.RowKit Go.Maps
set_option linter.unusedVariables false
theorem step_append_key {w0 w : World} {ops : Array Oper} {o : Oper} {a : Act} {K : Act → World → Prop} {Q : Exit → Act → World → Prop} {E : Prop} (hgd : o.guard = none) (s x : Operand)
    (hop : o.op = .call { callee := .builtin .append, args := #[s, x], argTypes := #[27, 27] }) (h0 : Fr w0 w)
    (A : Option Addr) (n c : Nat) (l : List RK) (hs : a.eval s = .slice A n c) (ho : Own w w0.heap.size 30 9 A n c (flat l))
    (C : Nat) (A2 : Option Addr) (m c2 : Nat) (l2 : List RK) (hx : a.eval x = .slice A2 m c2) (hl : l2.length = m) (hn : Has w C A2 (flat l2)) (hb : n + m ≤ 3000000)
    (h : ∀ A' c' w', Own w' w0.heap.size 30 9 A' (n + m) c' (flat (l ++ l2)) → Fr w0 w' → w.grownBy w' (blk A) → K (a.put o.dst (.slice A' (n + m) c')) w') :
    if Region.wanted o (yielded ops a.tmps) = true then Oper.wp Try.prog o a w K Q else E := by
  rw [if_pos (by simp [Region.wanted, hgd])]
  obtain ⟨i0, hi0, hz0, hz1, hz2⟩ := info_parts info_key
  obtain ⟨A', c', w', hr, h1, h2, h3⟩ := run_append_has (P := Try.prog) w w0.heap.size 27 o.type 30 i0 _ 9 16 Try.underlying27 hi0 hz0 hz1 hz2 rfl (by omega) A n c (flat l) ho C A2 m c2 (flat l2) (by rw [flat_len, hl]) hn (flat_one _) (by unfold maxLen; omega) (by omega) h0.size
  exact Lib.wp_append_run w s x _ _ hop _ _ hs hx _ _ hr (h A' c' w' (by rw [flat_append]; exact h1) (below_grown h0 ho h2 h0.size (Nat.le_refl _)) h2)
/-- The row with k laid in at place t. -/
def insAt (os : List RK) (t : Nat) (k : RK) : List RK := os.take t ++ [k] ++ os.drop t
theorem ord_ins {ks os : List RK} {k : RK} (h : IsOrd ks os) (ok : okB k = true) (t : Nat) (ht : t ≤ os.length) (h1 : ∀ q x, q < t → os[q]? = some x → code x < code k) (h2 : ∀ x, os[t]? = some x → code k < code x) : IsOrd (ks ++ [k]) (insAt os t k) := by
  have hpt := (List.pairwise_append.1 (by rw [List.take_append_drop]; exact h.1 : ((os.take t) ++ (os.drop t)).Pairwise _))
  obtain ⟨p1, p2, p3⟩ := hpt
  have q1 : ∀ x ∈ os.take t, code x < code k := fun x hx => by
    obtain ⟨q, hq⟩ := List.mem_iff_getElem?.1 hx
    have hqt : q < t := by have := (List.getElem?_eq_some_iff.1 hq).1; simp at this; omega
    rw [List.getElem?_take_of_lt hqt] at hq
    exact h1 q x hqt hq
  have q2 : ∀ x ∈ os.drop t, code k < code x := fun x hx => by
    cases hd : os.drop t with
    | nil => rw [hd] at hx; simp at hx
    | cons y r =>
      have hy : os[t]? = some y := by
        have := congrArg (·[0]?) hd
        simpa [List.getElem?_drop] using this
      have h3 := h2 y hy
      rw [hd] at hx p2
      rcases List.mem_cons.1 hx with e | e
      · rw [e]; exact h3
      · have := (List.pairwise_cons.1 p2).1 x e; omega
  refine ⟨?_, fun x => ?_⟩
  · unfold insAt
    rw [List.pairwise_append, List.pairwise_append]
    refine ⟨⟨p1, by simp, fun a ha b hb => ?_⟩, p2, fun a ha b hb => ?_⟩
    · simp at hb; rw [hb]; exact q1 a ha
    · rcases List.mem_append.1 ha with e | e
      · exact p3 a e b hb
      · simp at e; rw [e]; exact q2 b hb
  · have hm : x ∈ insAt os t k ↔ x ∈ os ∨ x = k := by
      unfold insAt
      constructor
      · intro hx
        rcases List.mem_append.1 hx with e | e
        · rcases List.mem_append.1 e with e | e
          · exact .inl (List.mem_of_mem_take e)
          · simp at e; exact .inr e
        · exact .inl (List.mem_of_mem_drop e)
      · rintro (e | e)
        · rw [← List.take_append_drop t os] at e
          rcases List.mem_append.1 e with e | e
          · simp [e]
          · simp [e]
        · simp [e]
    rw [hm, h.2 x, List.mem_append, List.mem_singleton]
    constructor
    · rintro (⟨a, b⟩ | rfl)
      · exact ⟨.inl a, b⟩
      · exact ⟨.inr rfl, ok⟩
    · rintro ⟨a | a, b⟩
      · exact .inl ⟨a, b⟩
      · exact .inr a
theorem ord_skip {ks os : List RK} {k : RK} (h : IsOrd ks os) (hk : okB k = false ∨ k ∈ os) : IsOrd (ks ++ [k]) os := by
  refine ⟨h.1, fun x => ?_⟩
  rw [List.mem_append, List.mem_singleton]
  constructor
  · intro hx
    have := (h.2 x).1 hx
    exact ⟨.inl this.1, this.2⟩
  · rintro ⟨a | rfl, b⟩
    · exact (h.2 x).2 ⟨a, b⟩
    · rcases hk with e | e
      · rw [e] at b; cases b
      · exact e
theorem ord_len {ks os : List RK} (h : IsOrd ks os) : os.length ≤ ks.length := by
  have h1 : os.Nodup := h.1.imp fun {a b} hl e => by rw [e] at hl; omega
  exact h1.length_le_of_subset fun k hk => ((h.2 k).1 hk).1
theorem ord_nil : IsOrd [] [] := ⟨List.Pairwise.nil, fun k => by simp⟩
/-- Where 's[t:]' begins. -/
def lowA (A : Option Addr) (cap t : Nat) : Option Addr := if cap = t then A else A.map (·.add (t * 9))
theorem add_zero (A : Option Addr) : A.map (·.add 0) = A := by cases A <;> simp [Addr.add]
theorem key_size_elem (w : World) : (sizeOf (Try.prog.elem 27)).run Try.prog w = .ok 9 w := by kernel_rfl
theorem keys_under : Try.prog.underlying 27 = some (.slice (Try.prog.elem 27)) := by kernel_rfl
theorem key_slice_hi (A : Option Addr) (n c t : Nat) (ht : t ≤ n) (hc : n ≤ c) (W : World) : (Instr.slice 27 (.slice A n c) none (some (.int .i64 (t : Int))) none).run Try.prog W = .ok (.slice A t c) W := by
  rw [run_slice_h (P := Try.prog) (w := W) (t := 27) (ht := keys_under) A n c .i64 (t : Int) (by omega) (by omega), key_size_elem]
  simp only [Result.andThen, sliced, Int.toNat_natCast, Nat.zero_mul, add_zero, Nat.sub_zero, ite_self]
theorem key_slice_lo (A : Option Addr) (n c t : Nat) (ht : t ≤ n) (hc : n ≤ c) (W : World) : (Instr.slice 27 (.slice A n c) (some (.int .i64 (t : Int))) none none).run Try.prog W = .ok (.slice (lowA A c t) (n - t) (c - t)) W := by
  rw [run_slice_l (P := Try.prog) (w := W) (t := 27) (ht := keys_under) A n c .i64 (t : Int) (by omega) (by omega), key_size_elem]
  simp only [Result.andThen, sliced, Int.toNat_natCast, lowA]
theorem key_sliceAt_hi (A : Option Addr) (n c t : Nat) (ht : t ≤ n) (hc : n ≤ c) (W : World) : (Instr.sliceAt 27 (.slice A n c) none (some (.int .i64 (t : Int))) none).run Try.prog W = .ok (.slice A t c) W := by
  rw [run_sliceAt_slice (P := Try.prog) (w := W) (h := keys_under), key_slice_hi A n c t ht hc]
theorem key_sliceAt_lo (A : Option Addr) (n c t : Nat) (ht : t ≤ n) (hc : n ≤ c) (W : World) : (Instr.sliceAt 27 (.slice A n c) (some (.int .i64 (t : Int))) none none).run Try.prog W = .ok (.slice (lowA A c t) (n - t) (c - t)) W := by
  rw [run_sliceAt_slice (P := Try.prog) (w := W) (h := keys_under), key_slice_lo A n c t ht hc]
theorem has_low {W : World} {B : Nat} {A : Option Addr} {os : List RK} {c t : Nat} (h : Has W B A (flat os)) (ht : t ≤ os.length) (hc : os.length ≤ c) : Has W B (lowA A c t) (flat (os.drop t)) := by
  by_cases he : os.drop t = []
  · rw [he]; exact Has.nil
  · have hlt : t < os.length := by
      rcases Nat.lt_or_ge t os.length with h1 | h1
      · exact h1
      · exact absurd (List.drop_eq_nil_of_le h1) he
    obtain ⟨b, off, rfl, hb, hc2⟩ := h.form (fun e => by have := flat_len os; rw [e] at this; simp at this; omega)
    unfold lowA
    rw [if_neg (by omega), flat_drop]
    have h2 := Has.drop h (t * 9)
    simpa [Addr.add_lit] using h2
theorem has_hi {W : World} {B : Nat} {A : Option Addr} {os : List RK} (h : Has W B A (flat os)) (t : Nat) : Has W B A (flat (os.take t)) := by
  rw [flat_take]; exact h.take _
theorem kept_key {W w5 : World} {k : RK} (hg : (W.alloc (.cells (kc k).toArray 30)).drew.grownBy w5 (blk none)) : Has w5 (W.heap.size + 1) (some ⟨W.heap.size, 0, none⟩) (flat [k]) := by
  have h1 : Has (W.alloc (.cells (kc k).toArray 30)) (W.heap.size + 1) (some ⟨W.heap.size, 0, none⟩) (flat [k]) := by simpa [flat] using has_key_new W k 30
  refine h1.lift fun p hp => World.cell?_of_block ?_
  exact hg.block p.block (by show p.block < (W.alloc _).heap.size; simpa using hp) (by simp [blk])
theorem ins_len (os : List RK) (t : Nat) (k : RK) (ht : t ≤ os.length) : (insAt os t k).length = os.length + 1 := by
  unfold insAt
  simp; omega
end Go.Proofs.Ytignnjflodkihaa
