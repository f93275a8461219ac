/- What the functions of layer 3 come to, eleven: 'Order', of the document. -/
import Derived.Test.YtfjglbkolhadaaaKeyJ
import Derived.Deep.RegionLaw
import Derived.Deep.RegionWith
import Derived.Lib.AppendZeros
import Derived.Deep.RegionHeld3
namespace Go.Proofs.Ytfjglbkolhadaaa
open Go.RowKit Go.Maps
set_option linter.unusedVariables false
theorem step_append_key {w0 w : World} {ops : Array Oper} {o : Oper} {a : Act} {K : Act → World → Prop} {Q : Exit → Act → World → Prop} {E : Prop} (hgd : o.guard = none) (s x : Operand)
    (hop : o.op = .call { callee := .builtin .append, args := #[s, x], argTypes := #[25, 25] }) (h0 : Fr w0 w)
    (A : Option Addr) (n c : Nat) (l : List RK) (hs : a.eval s = .slice A n c) (ho : Own w w0.heap.size 24 9 A n c (flat l))
    (C : Nat) (A2 : Option Addr) (m c2 : Nat) (l2 : List RK) (hx : a.eval x = .slice A2 m c2) (hl : l2.length = m) (hn : Has w C A2 (flat l2)) (hb : n + m ≤ 3000000)
    (h : ∀ A' c' w', Own w' w0.heap.size 24 9 A' (n + m) c' (flat (l ++ l2)) → Fr w0 w' → w.grownBy w' (blk A) → K (a.put o.dst (.slice A' (n + m) c')) w') :
    if Region.wanted o (yielded ops a.tmps) = true then Oper.wp Try.prog o a w K Q else E := by
  rw [if_pos (by simp [Region.wanted, hgd])]
  obtain ⟨i0, hi0, hz0, hz1, hz2⟩ := info_parts info_key
  obtain ⟨A', c', w', hr, h1, h2, h3⟩ := run_append_has (P := Try.prog) w w0.heap.size 25 o.type 24 i0 _ 9 16 Try.underlying25 hi0 hz0 hz1 hz2 rfl (by omega) A n c (flat l) ho C A2 m c2 (flat l2) (by rw [flat_len, hl]) hn (flat_one _) (by unfold maxLen; omega) (by omega) h0.size
  exact Lib.wp_append_run w s x _ _ hop _ _ hs hx _ _ hr (h A' c' w' (by rw [flat_append]; exact h1) (below_grown h0 ho h2 h0.size (Nat.le_refl _)) h2)
/-- The row with k laid in at place t. -/
def insAt (os : List RK) (t : Nat) (k : RK) : List RK := os.take t ++ [k] ++ os.drop t
theorem ord_ins {ks os : List RK} {k : RK} (h : IsOrd ks os) (ok : okB k = true) (t : Nat) (ht : t ≤ os.length) (h1 : ∀ q x, q < t → os[q]? = some x → code x < code k) (h2 : ∀ x, os[t]? = some x → code k < code x) : IsOrd (ks ++ [k]) (insAt os t k) := by
  have hpt := (List.pairwise_append.1 (by rw [List.take_append_drop]; exact h.1 : ((os.take t) ++ (os.drop t)).Pairwise _))
  obtain ⟨p1, p2, p3⟩ := hpt
  have q1 : ∀ x ∈ os.take t, code x < code k := fun x hx => by
    obtain ⟨q, hq⟩ := List.mem_iff_getElem?.1 hx
    have hqt : q < t := by have := (List.getElem?_eq_some_iff.1 hq).1; simp at this; omega
    rw [List.getElem?_take_of_lt hqt] at hq
    exact h1 q x hqt hq
  have q2 : ∀ x ∈ os.drop t, code k < code x := fun x hx => by
    cases hd : os.drop t with
    | nil => rw [hd] at hx; simp at hx
    | cons y r =>
      have hy : os[t]? = some y := by
        have := congrArg (·[0]?) hd
        simpa [List.getElem?_drop] using this
      have h3 := h2 y hy
      rw [hd] at hx p2
      rcases List.mem_cons.1 hx with e | e
      · rw [e]; exact h3
      · have := (List.pairwise_cons.1 p2).1 x e; omega
  refine ⟨?_, fun x => ?_⟩
  · unfold insAt
    rw [List.pairwise_append, List.pairwise_append]
    refine ⟨⟨p1, by simp, fun a ha b hb => ?_⟩, p2, fun a ha b hb => ?_⟩
    · simp at hb; rw [hb]; exact q1 a ha
    · rcases List.mem_append.1 ha with e | e
      · exact p3 a e b hb
      · simp at e; rw [e]; exact q2 b hb
  · have hm : x ∈ insAt os t k ↔ x ∈ os ∨ x = k := by
      unfold insAt
      constructor
      · intro hx
        rcases List.mem_append.1 hx with e | e
        · rcases List.mem_append.1 e with e | e
          · exact .inl (List.mem_of_mem_take e)
          · simp at e; exact .inr e
        · exact .inl (List.mem_of_mem_drop e)
      · rintro (e | e)
        · rw [← List.take_append_drop t os] at e
          rcases List.mem_append.1 e with e | e
          · simp [e]
          · simp [e]
        · simp [e]
    rw [hm, h.2 x, List.mem_append, List.mem_singleton]
    constructor
    · rintro (⟨a, b⟩ | rfl)
      · exact ⟨.inl a, b⟩
      · exact ⟨.inr rfl, ok⟩
    · rintro ⟨a | a, b⟩
      · exact .inl ⟨a, b⟩
      · exact .inr a
theorem ord_skip {ks os : List RK} {k : RK} (h : IsOrd ks os) (hk : okB k = false ∨ k ∈ os) : IsOrd (ks ++ [k]) os := by
  refine ⟨h.1, fun x => ?_⟩
  rw [List.mem_append, List.mem_singleton]
  constructor
  · intro hx
    have := (h.2 x).1 hx
    exact ⟨.inl this.1, this.2⟩
  · rintro ⟨a | rfl, b⟩
    · exact (h.2 x).2 ⟨a, b⟩
    · rcases hk with e | e
      · rw [e] at b; cases b
      · exact e
theorem ord_len {ks os : List RK} (h : IsOrd ks os) : os.length ≤ ks.length := by
  have h1 : os.Nodup := h.1.imp fun {a b} hl e => by rw [e] at hl; omega
  exact h1.length_le_of_subset fun k hk => ((h.2 k).1 hk).1
theorem ord_nil : IsOrd [] [] := ⟨List.Pairwise.nil, fun k => by simp⟩
/-- Where 's[t:]' begins. -/
def lowA (A : Option Addr) (cap t : Nat) : Option Addr := if cap = t then A else A.map (·.add (t * 9))
theorem add_zero (A : Option Addr) : A.map (·.add 0) = A := by cases A <;> simp [Addr.add]
theorem key_size_elem (w : World) : (sizeOf (Try.prog.elem 25)).run Try.prog w = .ok 9 w := by kernel_rfl
theorem keys_under : Try.prog.underlying 25 = some (.slice (Try.prog.elem 25)) := by kernel_rfl
theorem key_slice_hi (A : Option Addr) (n c t : Nat) (ht : t ≤ n) (hc : n ≤ c) (W : World) : (Instr.slice 25 (.slice A n c) none (some (.int .i64 (t : Int))) none).run Try.prog W = .ok (.slice A t c) W := by
  rw [run_slice_h (P := Try.prog) (w := W) (t := 25) (ht := keys_under) A n c .i64 (t : Int) (by omega) (by omega), key_size_elem]
  simp only [Result.andThen, sliced, Int.toNat_natCast, Nat.zero_mul, add_zero, Nat.sub_zero, ite_self]
theorem key_slice_lo (A : Option Addr) (n c t : Nat) (ht : t ≤ n) (hc : n ≤ c) (W : World) : (Instr.slice 25 (.slice A n c) (some (.int .i64 (t : Int))) none none).run Try.prog W = .ok (.slice (lowA A c t) (n - t) (c - t)) W := by
  rw [run_slice_l (P := Try.prog) (w := W) (t := 25) (ht := keys_under) A n c .i64 (t : Int) (by omega) (by omega), key_size_elem]
  simp only [Result.andThen, sliced, Int.toNat_natCast, lowA]
theorem key_sliceAt_hi (A : Option Addr) (n c t : Nat) (ht : t ≤ n) (hc : n ≤ c) (W : World) : (Instr.sliceAt 25 (.slice A n c) none (some (.int .i64 (t : Int))) none).run Try.prog W = .ok (.slice A t c) W := by
  rw [run_sliceAt_slice (P := Try.prog) (w := W) (h := keys_under), key_slice_hi A n c t ht hc]
theorem key_sliceAt_lo (A : Option Addr) (n c t : Nat) (ht : t ≤ n) (hc : n ≤ c) (W : World) : (Instr.sliceAt 25 (.slice A n c) (some (.int .i64 (t : Int))) none none).run Try.prog W = .ok (.slice (lowA A c t) (n - t) (c - t)) W := by
  rw [run_sliceAt_slice (P := Try.prog) (w := W) (h := keys_under), key_slice_lo A n c t ht hc]
theorem has_low {W : World} {B : Nat} {A : Option Addr} {os : List RK} {c t : Nat} (h : Has W B A (flat os)) (ht : t ≤ os.length) (hc : os.length ≤ c) : Has W B (lowA A c t) (flat (os.drop t)) := by
  by_cases he : os.drop t = []
  · rw [he]; exact Has.nil
  · have hlt : t < os.length := by
      rcases Nat.lt_or_ge t os.length with h1 | h1
      · exact h1
      · exact absurd (List.drop_eq_nil_of_le h1) he
    obtain ⟨b, off, rfl, hb, hc2⟩ := h.form (fun e => by have := flat_len os; rw [e] at this; simp at this; omega)
    unfold lowA
    rw [if_neg (by omega), flat_drop]
    have h2 := Has.drop h (t * 9)
    simpa [Addr.add_lit] using h2
theorem has_hi {W : World} {B : Nat} {A : Option Addr} {os : List RK} (h : Has W B A (flat os)) (t : Nat) : Has W B A (flat (os.take t)) := by
  rw [flat_take]; exact h.take _
theorem kept_key {W w5 : World} {k : RK} (hg : (W.alloc (.cells (kc k).toArray 24)).drew.grownBy w5 (blk none)) : Has w5 (W.heap.size + 1) (some ⟨W.heap.size, 0, none⟩) (flat [k]) := by
  have h1 : Has (W.alloc (.cells (kc k).toArray 24)) (W.heap.size + 1) (some ⟨W.heap.size, 0, none⟩) (flat [k]) := by simpa [flat] using has_key_new W k 24
  refine h1.lift fun p hp => World.cell?_of_block ?_
  exact hg.block p.block (by show p.block < (W.alloc _).heap.size; simpa using hp) (by simp [blk])
theorem ins_len (os : List RK) (t : Nat) (k : RK) (ht : t ≤ os.length) : (insAt os t k).length = os.length + 1 := by
  unfold insAt
  simp; omega
set_option maxHeartbeats 8000000 in
theorem ref_order (A : Option Addr) (n c : Nat) (ks : List RK) (w : World) (hl : ks.length = n) (hn : n ≤ 1000000) (hw : WfAll ks) (hr : Has w w.heap.size A (flat ks)) :
    Calls Try.prog 21 #[.slice A n c] w (OrdOut w ks) := by
  have Hl := keep hl
  clear hl
  go_enter Try.func21, Try.ntmps21
  go_wp2_with fail
  go_loopg [3, 4] n (fun g v i wr => ∃ (j : Nat) (D : Option Addr) (d : Nat) (os : List RK), j + g = n ∧ i = .int .i64 j ∧ v = .slice D os.length d ∧ Own wr w.heap.size 24 9 D os.length d (flat os) ∧ IsOrd (ks.take j) os ∧ Fr w wr)
  case atStart => exact ⟨0, none, 0, [], by omega, rfl, rfl, Own.nil _ _ _ _, by rw [List.take_zero]; exact ord_nil, fr_refl w⟩
  case round =>
    obtain ⟨i, D, d, os, hj, rfl, rfl, hown, hord, hF⟩ := hrel
    obtain ⟨go, rfl⟩ : ∃ go : Nat, go = gk := ⟨_, rfl⟩
    have Hj := keep hj
    have Ho := keep hord
    by_cases hlt : i < n
    · obtain ⟨k, hk⟩ : ∃ k, ks[i]? = some k := ⟨ks[i]'(by have := Hl.out; omega), List.getElem?_eq_getElem _⟩
      have wk : k.wf := hw k (List.mem_of_getElem? hk)
      obtain ⟨b, off, rfl, hb, hka⟩ := hask_at hr hk
      have Ht := keep (take_snoc hk)
      have hol : os.length ≤ 1000000 := by have := ord_len hord; simp at this; omega
      have hka1 := hka.below hF hb
      clear hj hk hord
      by_cases ok : okB k = true
      · go_wp2_with (first
          | (refine wpList_load_key rfl (.tmp 15) rfl b (off + i * 9) k rfl hka1 ?_)
          | (go_at_call 14; refine (ref_check k wk _).mono ?_; rw [ok]; rintro e w2 ⟨rfl, hb2⟩
             have hown2 := hown.below hb2 (Nat.le_refl _)
             have hF2 := fr_step hF hb2
             clear hb2)
          | fail)
        have hD := hown2.has
        have hcap := hown2.cap
        have hb2 : b < w2.heap.size := Nat.lt_of_lt_of_le hb hF2.size
        have hka2 := hka.below hF2 hb
        have Hord := keep (fun x (hx : x ∈ os) => (Ho.out.2 x).1 hx)
        go_loopg [5] os.length (fun g at_ wr => ∃ t : Nat, t + g = os.length ∧ at_ = .int .i64 t ∧ Hid (∀ q x, q < t → os[q]? = some x → code x < code k) ∧ Fr w2 wr)
        case atStart => exact ⟨0, by omega, rfl, keep fun q x hq => by omega, fr_refl w2⟩
        case round =>
          clear hF
          obtain ⟨t, ht, rfl, Hq, hF⟩ := hrel
          have HT := keep ht
          by_cases hlt2 : t < os.length
          · obtain ⟨x, hx⟩ : ∃ x, os[t]? = some x := ⟨os[t], List.getElem?_eq_getElem _⟩
            have hxm := Hord.out x (List.mem_of_getElem? hx)
            have wx : x.wf := hw x (List.mem_of_mem_take hxm.1)
            have ox := hxm.2
            obtain ⟨g, og, rfl, hgb, hxa⟩ := hask_at hD hx
            obtain ⟨x0, x1, x2, x3, x4, x5, x6, x7, x8⟩ := (hxa.below hF hgb).cells
            obtain ⟨k0, k1, k2, k3, k4, k5, k6, k7, k8⟩ := (hka2.below hF hb2).cells
            have hzz := hF.size
            have Hx := keep hx
            clear hxm ht hx
            by_cases hcd : code x < code k
            · have hcc := fun W => ref_compare x k wx wk ox ok W
              rw [show cmpK x k = -1 from cmpI_lt hcd] at hcc
              have Hc := keep hcd
              clear hcd
              go_wp2_with fail
              go_region_held3 (fun w' => w'.cell? ⟨g, og + t * 9, none⟩ = some (.int .i64 x.n) ∧ w'.cell? ⟨g, og + t * 9 + 1, none⟩ = some (.int .u8 x.b0) ∧ w'.cell? ⟨g, og + t * 9 + 2, none⟩ = some (.int .u8 x.b1) ∧ w'.cell? ⟨g, og + t * 9 + 3, none⟩ = some (.int .u8 x.b2) ∧ w'.cell? ⟨g, og + t * 9 + 4, none⟩ = some (.int .u8 x.b3) ∧ w'.cell? ⟨g, og + t * 9 + 5, none⟩ = some (.int .u8 x.b4) ∧ w'.cell? ⟨g, og + t * 9 + 6, none⟩ = some (.int .u8 x.b5) ∧ w'.cell? ⟨g, og + t * 9 + 7, none⟩ = some (.int .u8 x.b6) ∧ w'.cell? ⟨g, og + t * 9 + 8, none⟩ = some (.int .u8 x.b7) ∧ w'.cell? ⟨b, off + i * 9, none⟩ = some (.int .i64 k.n) ∧ w'.cell? ⟨b, off + i * 9 + 1, none⟩ = some (.int .u8 k.b0) ∧ w'.cell? ⟨b, off + i * 9 + 2, none⟩ = some (.int .u8 k.b1) ∧ w'.cell? ⟨b, off + i * 9 + 3, none⟩ = some (.int .u8 k.b2) ∧ w'.cell? ⟨b, off + i * 9 + 4, none⟩ = some (.int .u8 k.b3) ∧ w'.cell? ⟨b, off + i * 9 + 5, none⟩ = some (.int .u8 k.b4) ∧ w'.cell? ⟨b, off + i * 9 + 6, none⟩ = some (.int .u8 k.b5) ∧ w'.cell? ⟨b, off + i * 9 + 7, none⟩ = some (.int .u8 k.b6) ∧ w'.cell? ⟨b, off + i * 9 + 8, none⟩ = some (.int .u8 k.b7) ∧ Fr w2 w' ∧ w2.heap.size ≤ w'.heap.size)
                (first
                  | (go_split_ands; exact ⟨x0, x1, x2, x3, x4, x5, x6, x7, x8, k0, k1, k2, k3, k4, k5, k6, k7, k8, fr_drew hF, hF.size⟩)
                  | (go_split_ands
                     refine ⟨?_, ?_, ?_, ?_, ?_, ?_, ?_, ?_, ?_, ?_, ?_, ?_, ?_, ?_, ?_, ?_, ?_, ?_, ?_, ?_⟩
                     all_goals first | (rw [hb3.cell (by simp; omega)]; assumption) | (refine fr_step ?_ hb3; assumption) | (refine Nat.le_trans ?_ hb3.size; assumption)))
                (first | (go_at_call 25; refine (hcc _).mono ?_; rintro e w3 ⟨rfl, hb3⟩))
              rename_i hH
              obtain ⟨z0, z1, z2, z3, z4, z5, z6, z7, z8, y0, y1, y2, y3, y4, y5, y6, y7, y8, hF3, hz3⟩ := hH
              clear x0 x1 x2 x3 x4 x5 x6 x7 x8 k0 k1 k2 k3 k4 k5 k6 k7 k8 hb3 hF hzz hcc
              go_wp2_with fail
              go_roundg (gk - 1)
              case measure => have := HT.out; omega
              case rel => exact ⟨t + 1, by have := HT.out; omega, by go_num, keep (fun q x' hq hx' => by
                by_cases e : q = t
                · subst e; rw [Hx.out] at hx'; injection hx' with hx'; rw [← hx']; exact Hc.out
                · exact Hq.out q x' (by omega) hx'), hF3⟩
            · by_cases hxk : x = k
              · have hcc := fun W => ref_compare x k wx wk ox ok W
                rw [show cmpK x k = 0 from cmpI_eq (by rw [hxk])] at hcc
                have heq : ∀ W, (binOp .eql 24 (kv x) (kv k)).run Try.prog W = .ok (.bool true) W := fun W => by simpa [hxk] using key_eql wx wk W
                have Hm : Hid (k ∈ os) := keep (by rw [← hxk]; exact List.mem_of_getElem? Hx.out)
                clear hcd hxk
                go_wp2_with fail
                go_region_held3 (fun w' => w'.cell? ⟨g, og + t * 9, none⟩ = some (.int .i64 x.n) ∧ w'.cell? ⟨g, og + t * 9 + 1, none⟩ = some (.int .u8 x.b0) ∧ w'.cell? ⟨g, og + t * 9 + 2, none⟩ = some (.int .u8 x.b1) ∧ w'.cell? ⟨g, og + t * 9 + 3, none⟩ = some (.int .u8 x.b2) ∧ w'.cell? ⟨g, og + t * 9 + 4, none⟩ = some (.int .u8 x.b3) ∧ w'.cell? ⟨g, og + t * 9 + 5, none⟩ = some (.int .u8 x.b4) ∧ w'.cell? ⟨g, og + t * 9 + 6, none⟩ = some (.int .u8 x.b5) ∧ w'.cell? ⟨g, og + t * 9 + 7, none⟩ = some (.int .u8 x.b6) ∧ w'.cell? ⟨g, og + t * 9 + 8, none⟩ = some (.int .u8 x.b7) ∧ w'.cell? ⟨b, off + i * 9, none⟩ = some (.int .i64 k.n) ∧ w'.cell? ⟨b, off + i * 9 + 1, none⟩ = some (.int .u8 k.b0) ∧ w'.cell? ⟨b, off + i * 9 + 2, none⟩ = some (.int .u8 k.b1) ∧ w'.cell? ⟨b, off + i * 9 + 3, none⟩ = some (.int .u8 k.b2) ∧ w'.cell? ⟨b, off + i * 9 + 4, none⟩ = some (.int .u8 k.b3) ∧ w'.cell? ⟨b, off + i * 9 + 5, none⟩ = some (.int .u8 k.b4) ∧ w'.cell? ⟨b, off + i * 9 + 6, none⟩ = some (.int .u8 k.b5) ∧ w'.cell? ⟨b, off + i * 9 + 7, none⟩ = some (.int .u8 k.b6) ∧ w'.cell? ⟨b, off + i * 9 + 8, none⟩ = some (.int .u8 k.b7) ∧ Fr w2 w' ∧ w2.heap.size ≤ w'.heap.size)
                  (first
                    | (go_split_ands; exact ⟨x0, x1, x2, x3, x4, x5, x6, x7, x8, k0, k1, k2, k3, k4, k5, k6, k7, k8, fr_drew hF, hF.size⟩)
                    | (go_split_ands
                       refine ⟨?_, ?_, ?_, ?_, ?_, ?_, ?_, ?_, ?_, ?_, ?_, ?_, ?_, ?_, ?_, ?_, ?_, ?_, ?_, ?_⟩
                       all_goals first | (rw [hb3.cell (by simp; omega)]; assumption) | (refine fr_step ?_ hb3; assumption) | (refine Nat.le_trans ?_ hb3.size; assumption)))
                  (first | (go_at_call 25; refine (hcc _).mono ?_; rintro e w3 ⟨rfl, hb3⟩))
                rename_i hH
                obtain ⟨z0, z1, z2, z3, z4, z5, z6, z7, z8, y0, y1, y2, y3, y4, y5, y6, y7, y8, hF3, hz3⟩ := hH
                clear x0 x1 x2 x3 x4 x5 x6 x7 x8 k0 k1 k2 k3 k4 k5 k6 k7 k8 hb3 hF hzz hcc
                go_wp2_with fail
                go_quiet (fail)
                go_wp2_with fail
                go_roundg (go - 1)
                case measure => have := Hj.out; omega
                case rel => exact ⟨i + 1, some ⟨g, og, none⟩, d, os, by have := Hj.out; omega, by go_num, rfl, hown2.below (fr_drewN hF3 nq) (Nat.le_refl _), by rw [Ht.out]; exact ord_skip Ho.out (.inr Hm.out), fr_step hF2 (fr_drewN hF3 nq)⟩
              · have hgt : code k < code x := by
                  rcases Int.lt_trichotomy (code k) (code x) with h | h | h
                  · exact h
                  · exact absurd (code_inj wx wk (okB_len ox) (okB_len ok) h.symm) hxk
                  · exact absurd h hcd
                have hcc := fun W => ref_compare x k wx wk ox ok W
                rw [show cmpK x k = 1 from cmpI_gt hgt] at hcc
                have heq : ∀ W, (binOp .eql 24 (kv x) (kv k)).run Try.prog W = .ok (.bool false) W := fun W => by simpa [hxk] using key_eql wx wk W
                have Hi := keep (ord_ins (t := t) Ho.out ok (by omega) Hq.out (fun x' hx' => by rw [Hx.out] at hx'; injection hx' with hx'; rw [← hx']; exact hgt))
                have hte : t ≤ os.length := by omega
                clear hcd hxk hgt
                go_wp2_with fail
                go_region_held3 (fun w' => w'.cell? ⟨g, og + t * 9, none⟩ = some (.int .i64 x.n) ∧ w'.cell? ⟨g, og + t * 9 + 1, none⟩ = some (.int .u8 x.b0) ∧ w'.cell? ⟨g, og + t * 9 + 2, none⟩ = some (.int .u8 x.b1) ∧ w'.cell? ⟨g, og + t * 9 + 3, none⟩ = some (.int .u8 x.b2) ∧ w'.cell? ⟨g, og + t * 9 + 4, none⟩ = some (.int .u8 x.b3) ∧ w'.cell? ⟨g, og + t * 9 + 5, none⟩ = some (.int .u8 x.b4) ∧ w'.cell? ⟨g, og + t * 9 + 6, none⟩ = some (.int .u8 x.b5) ∧ w'.cell? ⟨g, og + t * 9 + 7, none⟩ = some (.int .u8 x.b6) ∧ w'.cell? ⟨g, og + t * 9 + 8, none⟩ = some (.int .u8 x.b7) ∧ w'.cell? ⟨b, off + i * 9, none⟩ = some (.int .i64 k.n) ∧ w'.cell? ⟨b, off + i * 9 + 1, none⟩ = some (.int .u8 k.b0) ∧ w'.cell? ⟨b, off + i * 9 + 2, none⟩ = some (.int .u8 k.b1) ∧ w'.cell? ⟨b, off + i * 9 + 3, none⟩ = some (.int .u8 k.b2) ∧ w'.cell? ⟨b, off + i * 9 + 4, none⟩ = some (.int .u8 k.b3) ∧ w'.cell? ⟨b, off + i * 9 + 5, none⟩ = some (.int .u8 k.b4) ∧ w'.cell? ⟨b, off + i * 9 + 6, none⟩ = some (.int .u8 k.b5) ∧ w'.cell? ⟨b, off + i * 9 + 7, none⟩ = some (.int .u8 k.b6) ∧ w'.cell? ⟨b, off + i * 9 + 8, none⟩ = some (.int .u8 k.b7) ∧ Fr w2 w' ∧ w2.heap.size ≤ w'.heap.size)
                  (first
                    | (go_split_ands; exact ⟨x0, x1, x2, x3, x4, x5, x6, x7, x8, k0, k1, k2, k3, k4, k5, k6, k7, k8, fr_drew hF, hF.size⟩)
                    | (go_split_ands
                       refine ⟨?_, ?_, ?_, ?_, ?_, ?_, ?_, ?_, ?_, ?_, ?_, ?_, ?_, ?_, ?_, ?_, ?_, ?_, ?_, ?_⟩
                       all_goals first | (rw [hb3.cell (by simp; omega)]; assumption) | (refine fr_step ?_ hb3; assumption) | (refine Nat.le_trans ?_ hb3.size; assumption)))
                  (first | (go_at_call 25; refine (hcc _).mono ?_; rintro e w3 ⟨rfl, hb3⟩))
                rename_i hH
                obtain ⟨z0, z1, z2, z3, z4, z5, z6, z7, z8, y0, y1, y2, y3, y4, y5, y6, y7, y8, hF3, hz3⟩ := hH
                clear x0 x1 x2 x3 x4 x5 x6 x7 x8 k0 k1 k2 k3 k4 k5 k6 k7 k8 hb3 hF hzz hcc
                go_wp2_with fail
                go_quiet (fail)
                go_wp2_with fail
                have hFW : Fr w2 (w3.drewN nq) := fr_drewN hF3 nq
                obtain ⟨W, hW⟩ : ∃ W : World, W = w3.drewN nq := ⟨_, rfl⟩
                rw [← hW] at hFW ⊢
                clear hW
                have hDW := (hD.below hFW).mono hFW.size
                have hD1 := has_hi hDW t
                have hdt : ¬ d = t := by omega
                have hD2 := has_low (c := d) hDW hte hcap
                have hD3 : Has W W.heap.size (some ⟨g, og + t * 9, none⟩) (flat (os.drop t)) := by unfold lowA at hD2; rw [if_neg hdt] at hD2; simpa [Addr.add_lit] using hD2
                clear hD2
                have hkaW := hka2.below hFW hb2
                have hbW : b < W.heap.size := Nat.lt_of_lt_of_le hb2 hFW.size
                have hs1 := key_sliceAt_hi (some ⟨g, og, none⟩) os.length d t hte hcap
                have Hl1 : Hid ((os.take t).length = t) := keep (by simp; omega)
                have Hl2 : Hid ((os.drop t).length = os.length - t) := keep (by simp)
                have HF : Hid (Fr w W) := keep (fr_step hF2 hFW)
                obtain ⟨k0, k1, k2, k3, k4, k5, k6, k7, k8⟩ := hkaW.cells
                clear hD hown hown2 hr hka hka1 hka2 hFW hDW z0 z1 z2 z3 z4 z5 z6 z7 z8 y0 y1 y2 y3 y4 y5 y6 y7 y8 hxa hgb hF3 hz3
                go_region_law (first
                  | (refine step_append_key (w0 := W) rfl (.tmp 52) (.tmp 55) rfl ?_ none 0 0 [] ?_ (Own.nil _ _ _ _) W.heap.size (some ⟨g, og, none⟩) t d (os.take t) ?_ Hl1.out ?_ (by omega) ?_
                     · with_reducible exact fr_drew (fr_refl W)
                     · go_simp
                     · go_simp
                     · exact hD1
                     intro A1 c1 w5 ho5 hf5 hg5
                     rw [Nat.zero_add] at ho5
                     obtain ⟨k0, k1, k2, k3, k4, k5, k6, k7, k8⟩ := (hkaW.below hf5 hbW).cells)
                  | (refine step_append_key (w0 := W) rfl (.tmp 52) (.tmp 55) rfl ?_ none 0 0 [] ?_ (Own.nil _ _ _ _) W.heap.size (some ⟨g, og, none⟩) t d (os.take t) ?_ Hl1.out ?_ (by omega) ?_
                     · with_reducible exact fr_drew (fr_new (fr_refl W) _)
                     · go_simp
                     · go_simp
                     · exact hD1.below (fr_drew (fr_new (fr_refl W) _))
                     intro A1 c1 w5 ho5 hf5 hg5
                     rw [Nat.zero_add] at ho5
                     have hkn := kept_key hg5)
                  | (refine step_append_key (w0 := W) rfl (.tmp 56) (.tmp 61) rfl ?_ A1 t c1 ([] ++ os.take t) ?_ (ho5.alloc _) (w5.heap.size + 1) (some ⟨w5.heap.size, 0, none⟩) 1 1 [k] ?_ rfl ?_ (by omega) ?_
                     · with_reducible exact fr_new hf5 _
                     · go_simp
                     · go_simp
                     · simpa [flat] using has_key_new w5 k 24
                     intro A2 c2 w6 ho6 hf6 hg6)
                  | (refine step_append_key (w0 := W) rfl (.tmp 56) (.tmp 61) rfl ?_ A1 t c1 ([] ++ os.take t) ?_ ho5 (W.heap.size + 1) (some ⟨W.heap.size, 0, none⟩) 1 1 [k] ?_ rfl hkn (by omega) ?_
                     · with_reducible exact hf5
                     · go_simp
                     · go_simp
                     intro A2 c2 w6 ho6 hf6 hg6)
                  | (refine step_append_key (w0 := W) rfl (.tmp 62) (.tmp 65) rfl hf6 A2 (t + 1) c2 ([] ++ os.take t ++ [k]) ?_ ho6 W.heap.size (some ⟨g, og + t * 9, none⟩) (os.length - t) (d - t) (os.drop t) ?_ Hl2.out ?_ (by omega) ?_
                     · go_simp
                     · go_simp
                     · exact hD3.below hf6
                     intro A3 c3 w7 ho7 hf7 hg7)
                  | fail)
                all_goals
                  go_wp2_with fail
                  all_goals
                    go_roundg (go - 1)
                    case measure => have := Hj.out; omega
                    case rel => exact ⟨i + 1, A3, c3, insAt os t k, by have := Hj.out; omega, by go_num, by rw [ins_len os t k hte]; congr 1; omega, by rw [ins_len os t k hte]; have h9 := ho7.mono (B' := w.heap.size) HF.out.size; rw [show t + 1 + (os.length - t) = os.length + 1 from by omega] at h9; simpa [insAt] using h9, by rw [Ht.out]; exact Hi.out, HF.out.trans (hf7.mono HF.out.size)⟩
          · have hte : t ≤ os.length := by omega
            have Hi := keep (ord_ins (t := t) Ho.out ok hte Hq.out (fun x' hx' => by rw [List.getElem?_eq_none (by omega)] at hx'; cases hx'))
            have hnl : decide (t < os.length) = false := by simpa using hlt2
            have Hte := keep (show t = os.length by omega)
            clear ht
            go_wp2_with fail
            go_quiet (fail)
            go_wp2_with fail
            obtain ⟨w3, hw3⟩ : ∃ w3 : World, w3 = wr.drewN nq := ⟨_, rfl⟩
            have hF3 : Fr w2 w3 := by rw [hw3]; exact fr_drewN hF nq
            rw [← hw3]
            clear hw3 hF
            go_quiet (fail)
            go_wp2_with fail
            have hFW : Fr w2 (w3.drewN nq) := fr_drewN hF3 nq
            obtain ⟨W, hW⟩ : ∃ W : World, W = w3.drewN nq := ⟨_, rfl⟩
            rw [← hW] at hFW ⊢
            clear hW
            have hDW := (hD.below hFW).mono hFW.size
            have hD1 := has_hi hDW t
            have Hdr := keep (show os.drop t = [] from List.drop_eq_nil_of_le (by omega))
            have hkaW := hka2.below hFW hb2
            have hbW : b < W.heap.size := Nat.lt_of_lt_of_le hb2 hFW.size
            have hs1 := key_sliceAt_hi D os.length d t hte hcap
            have Hl1 : Hid ((os.take t).length = t) := keep (by simp; omega)
            have Hl2 : Hid ((os.drop t).length = os.length - t) := keep (by simp)
            have HF : Hid (Fr w W) := keep (fr_step hF2 hFW)
            obtain ⟨k0, k1, k2, k3, k4, k5, k6, k7, k8⟩ := hkaW.cells
            clear hD hown hown2 hr hka hka1 hka2 hFW hDW hF3
            go_region_law (first
              | (refine step_append_key (w0 := W) rfl (.tmp 52) (.tmp 55) rfl ?_ none 0 0 [] ?_ (Own.nil _ _ _ _) W.heap.size D t d (os.take t) ?_ Hl1.out ?_ (by omega) ?_
                 · with_reducible exact fr_drew (fr_refl W)
                 · go_simp
                 · go_simp
                 · exact hD1
                 intro A1 c1 w5 ho5 hf5 hg5
                 rw [Nat.zero_add] at ho5
                 obtain ⟨k0, k1, k2, k3, k4, k5, k6, k7, k8⟩ := (hkaW.below hf5 hbW).cells)
              | (refine step_append_key (w0 := W) rfl (.tmp 52) (.tmp 55) rfl ?_ none 0 0 [] ?_ (Own.nil _ _ _ _) W.heap.size D t d (os.take t) ?_ Hl1.out ?_ (by omega) ?_
                 · with_reducible exact fr_drew (fr_new (fr_refl W) _)
                 · go_simp
                 · go_simp
                 · exact hD1.below (fr_drew (fr_new (fr_refl W) _))
                 intro A1 c1 w5 ho5 hf5 hg5
                 rw [Nat.zero_add] at ho5
                 have hkn := kept_key hg5)
              | (refine step_append_key (w0 := W) rfl (.tmp 56) (.tmp 61) rfl ?_ A1 t c1 ([] ++ os.take t) ?_ (ho5.alloc _) (w5.heap.size + 1) (some ⟨w5.heap.size, 0, none⟩) 1 1 [k] ?_ rfl ?_ (by omega) ?_
                 · with_reducible exact fr_new hf5 _
                 · go_simp
                 · go_simp
                 · simpa [flat] using has_key_new w5 k 24
                 intro A2 c2 w6 ho6 hf6 hg6)
              | (refine step_append_key (w0 := W) rfl (.tmp 56) (.tmp 61) rfl ?_ A1 t c1 ([] ++ os.take t) ?_ ho5 (W.heap.size + 1) (some ⟨W.heap.size, 0, none⟩) 1 1 [k] ?_ rfl hkn (by omega) ?_
                 · with_reducible exact hf5
                 · go_simp
                 · go_simp
                 intro A2 c2 w6 ho6 hf6 hg6)
              | (refine step_append_key (w0 := W) rfl (.tmp 62) (.tmp 65) rfl hf6 A2 (t + 1) c2 ([] ++ os.take t ++ [k]) ?_ ho6 W.heap.size ((if d = t then D else D.map (·.add (t * 9)))) (os.length - t) (d - t) (os.drop t) ?_ Hl2.out ?_ (by omega) ?_
                 · go_simp
                 · go_simp
                 · rw [Hdr.out]; exact Has.nil
                 intro A3 c3 w7 ho7 hf7 hg7)
              | fail)
            all_goals
              go_wp2_with fail
              all_goals
                go_roundg (go - 1)
                case measure => have := Hj.out; omega
                case rel => exact ⟨i + 1, A3, c3, insAt os t k, by have := Hj.out; omega, by go_num, by rw [ins_len os t k hte]; congr 1; omega, by rw [ins_len os t k hte]; have h9 := ho7.mono (B' := w.heap.size) HF.out.size; rw [show t + 1 + (os.length - t) = os.length + 1 from by omega] at h9; simpa [insAt] using h9, by rw [Ht.out]; exact Hi.out, HF.out.trans (hf7.mono HF.out.size)⟩
      · have ok' : okB k = false := by simpa using ok
        have Hq := keep (ord_skip (k := k) Ho.out (.inl ok'))
        clear ok
        go_wp2_with (first
          | (refine wpList_load_key rfl (.tmp 15) rfl b (off + i * 9) k rfl hka1 ?_)
          | (go_at_call 14; refine (ref_check k wk _).mono ?_; rw [ok']; rintro e w2 ⟨rfl, hb2⟩
             have hown2 := hown.below hb2 (Nat.le_refl _)
             have hF2 := fr_step hF hb2
             clear hb2)
          | fail)
        go_roundg (go - 1)
        case measure => have := Hj.out; omega
        case rel => exact ⟨i + 1, D, d, os, by have := Hj.out; omega, by go_num, rfl, hown2, by rw [Ht.out]; exact Hq.out, hF2⟩
    · obtain rfl : i = n := by omega
      have Hx := keep (show ks.take i = ks from by rw [← Hl.out, List.take_length])
      clear hj hord
      go_wp2_with fail
      go_ret
      exact ⟨D, d, os, rfl, by rw [← Hx.out]; exact Ho.out, hown.has, hF⟩
end Go.Proofs.Ytfjglbkolhadaaa
