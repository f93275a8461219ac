/- The program's cache: who wants, compared; 'slices.Index', 'Contains'; isTask, isBlock. -/
import Derived.Test.YtmoaddbpfekdbaaGreatM29
import Derived.Test.YtmoaddbpfekdbaaGreatM02
import Derived.Test.YtmoaddbpfekdbaaGreatM18
namespace Go.Proofs.YtmoaddbpfekdbaaGreat
set_option linter.unusedVariables false
set_option linter.unusedSimpArgs false
set_option maxRecDepth 100000
open Go.RowKit
theorem want_type : Tryz.prog.keyType 93 = true := by kernel_rfl
theorem want_typeAt : Tryz.prog.keyTypeAt (Tryz.prog.types.size + 1) 93 = true := by kernel_rfl
theorem want_wide : (match Tryz.prog.underlying 93 with | some (.array _ _) | some (.struct _) => true | _ => false) = true := by kernel_rfl
theorem want_row : (93 : TypeId) < Tryz.prog.types.size := of_decide_eq_true (by kernel_rfl)
theorem want_cells : Tryz.prog.cellsOf 93 = 2 := by kernel_rfl
theorem int_cells16 : Tryz.prog.cellsOf 3 = 1 := by kernel_rfl
theorem types_le16 : Tryz.prog.types.size + 1 ≤ 10000 := of_decide_eq_true (by kernel_rfl)
theorem want_law : WideMaps.KeyLaw Tryz.prog 93 := deep_law_gate laid_out (of_decide_eq_true types_small) want_row want_type want_wide
theorem want_keyed : Go.Maps.Keyed Tryz.prog 93 := .of_law want_law
/-- Numbers that a want can hold. -/
def WOk (x : Int × Int) : Prop := W64 x.1 ∧ W64 x.2
theorem want_lits (x : Int × Int) (h : WOk x) : Tryz.prog.keyLits (Tryz.prog.types.size + 1) 93 (sc x) = some [.int .i64 x.1, .int .i64 x.2] := by
  obtain ⟨D, hD⟩ : ∃ D, Tryz.prog.types.size + 1 = D + 1 + 1 + 1 := ⟨Tryz.prog.types.size - 2, by have h : 93 < Tryz.prog.types.size := want_row; omega⟩
  rw [hD]
  simp [Program.keyLits, Tryz.underlying93, Tryz.underlying3, want_cells, int_cells16, h.1.wf, h.2.wf, sc]
theorem want_of (x : Int × Int) (h : WOk x) : keyOf Tryz.prog 93 (sv x) = some (.string (keyBytes [.int .i64 x.1, .int .i64 x.2])) := by
  have hf : (sv x).formed Tryz.prog 93 = true := by simp [Value.formed, Tryz.underlying93, want_cells, sv, sc]
  have hl := want_lits x h
  simp only [keyOf, Tryz.underlying93, want_type, hf, Bool.and_self, if_true]
  rw [show (sv x).cells.toList = sc x from rfl, hl]
  rfl
theorem sv_inj {x y : Int × Int} (h : sv x = sv y) : x = y := by
  obtain ⟨a, b⟩ := x
  obtain ⟨c, d⟩ := y
  simp [sv, sc] at h
  simp [h]
theorem want_eql {x y : Int × Int} (hx : WOk x) (hy : WOk y) (W : World) : (binOp .eql 93 (.agg (sc x).toArray) (.agg (sc y).toArray)).run Tryz.prog W = .ok (.bool (decide (x = y))) W := by
  obtain ⟨r, h1, h2⟩ := run_equal_deep W (m := Tryz.prog.types.size + 1) types_le16 want_typeAt want_wide (want_of x hx) (want_of y hy)
  have : r = decide (x = y) := by
    rw [Bool.eq_iff_iff, h2, decide_eq_true_iff]
    exact ⟨fun e => sv_inj (want_keyed.inj (want_of x hx) (e ▸ want_of y hy)), fun e => by rw [e]⟩
  have h1 : (Op.equal 93 (.agg (sc x).toArray) (.agg (sc y).toArray)).run Tryz.prog W = .ok r W := h1
  simp only [binOp, Sem.run_bind, h1, Result.andThen_ok, Sem.run_pure, this]
attribute [local go_sem ↓] want_ld
theorem sc_box (w : World) (x : Int × Int) : ∃ Z, w.alloc (.cells (sc x).toArray 93) = Z ∧ Fr w Z ∧ Arr Z w.heap.size 93 (sc x).toArray ∧ Z.heap.size = w.heap.size + 1 := ⟨_, rfl, fr_new (fr_refl w) _, Arr.new w _ _, by simp⟩
set_option maxHeartbeats 4000000 in
theorem w_find {w : World} {A : Option Addr} {n c B : Nat} {l : List (Int × Int)} {x : Int × Int} (hx : WOk x) (hol : ∀ p ∈ l, WOk p) (hl : Has w B A (rows sc l)) (hB : B ≤ w.heap.size) (hn : l.length = n) (hsm : n ≤ 100000) :
    Calls Tryz.prog 89 #[.slice A n c, sv x] w fun e w' => Fr w w' ∧ ((e = .returned (.int .i64 (-1)) ∧ ¬ x ∈ l) ∨ ∃ k : Nat, e = .returned (.int .i64 k) ∧ x ∈ l) := by
  obtain ⟨Z, hZ, hF, hX, hS⟩ := sc_box w x
  have HL := keep (hl.fr hB hF)
  have Hn := keep hn
  have HX := keep hX
  have HF := keep hF
  have Hol := keep hol
  have Hx := keep hx
  have HB : Hid (B ≤ Z.heap.size) := keep (by omega)
  clear hl hn hX hF hol hx
  unfold sv
  go_enter Tryz.func89, Tryz.ntmps89
  go_wp2_with fail
  go_loopg [5, 8] n (fun gg _ s8 wr => ∃ j : Nat, j + gg = n ∧ s8 = .int .i64 j ∧ Hid (Fr Z wr) ∧ Hid (∀ i y, i < j → l[i]? = some y → ¬ x = y))
  case atStart => exact ⟨0, by omega, rfl, keep (fr_refl Z), keep (fun t x h => by omega)⟩
  case round =>
    obtain ⟨j, hj, rfl, hz, hno⟩ := hrel
    by_cases hlt : j < n
    · have hm : l[j]? = some (l[j]'(by rw [Hn.out]; exact hlt)) := List.getElem?_eq_getElem _
      generalize l[j]'(by rw [Hn.out]; exact hlt) = m at hm
      obtain ⟨b, off, rfl, hb1, hr⟩ := has_rows (HL.out.fr HB.out hz.out) (sc_wid l) (by decide) (by intro e; rw [e] at hm; simp at hm)
      have hsz := hz.out.size
      have lX := elem_ld want_ty hr (sc_wid l) (by have := HB.out; omega) hm
      have lY := fun W (h : Fr wr W) => want_ty.ld (cs := sc x) rfl (HX.out.below (fr_step hz.out h) HX.out.lt)
      have qE := want_eql Hx.out (Hol.out m (List.mem_of_getElem? hm))
      have wrd : Fr wr wr.drew := fr_drew (fr_refl wr)
      have Hm := keep hm
      have hjz : (j : Int) < (n : Int) := by omega
      clear hm hr hlt
      by_cases hq : x = m
      · have hq2 : decide (x = m) = true := by simpa using hq
        rw [hq2] at qE
        have Hq := keep hq
        clear hq hq2
        go_wp2_with fail
        go_region_held3 (fun W => Fr wr W) (first | exact wrd | assumption) (fail)
        rename_i hH
        go_wp2_with fail
        go_ret
        exact ⟨fr_step HF.out (fr_step hz.out hH), .inr ⟨j, rfl, by rw [Hq.out]; exact List.mem_of_getElem? Hm.out⟩⟩
      · have hq2 : decide (x = m) = false := by simpa using hq
        rw [hq2] at qE
        have Hq := keep hq
        clear hq hq2
        go_wp2_with fail
        go_region_held3 (fun W => Fr wr W) (first | exact wrd | assumption) (fail)
        rename_i hH
        go_wp2_with fail
        go_roundg (gk - 1)
        case measure => omega
        case rel => exact ⟨j + 1, by omega, rfl, keep (fr_step hz.out hH), keep (fun i y ht hy => by
          by_cases e : i = j
          · subst e
            rw [Hm.out] at hy
            injection hy with hy
            rw [← hy]; exact Hq.out
          · exact hno.out i y (by omega) hy)⟩
    · have hjn : j = n := by omega
      have hjz : ¬ (j : Int) < (n : Int) := by omega
      clear hlt
      go_wp2_with fail
      go_ret
      refine ⟨fr_step HF.out hz.out, .inl ⟨rfl, ?_⟩⟩
      intro hm
      obtain ⟨i, ht, e⟩ := List.mem_iff_getElem.1 hm
      exact hno.out i x (by rw [hjn, ← Hn.out]; exact ht) (by rw [List.getElem?_eq_getElem ht, e]) rfl
set_option maxHeartbeats 4000000 in
theorem w_contains {w : World} {A : Option Addr} {n c B : Nat} {l : List (Int × Int)} {x : Int × Int} (hx : WOk x) (hol : ∀ p ∈ l, WOk p) (hl : Has w B A (rows sc l)) (hB : B ≤ w.heap.size) (hn : l.length = n) (hsm : n ≤ 100000) :
    Calls Tryz.prog 77 #[.slice A n c, sv x] w fun e w' => e = .returned (.bool (decide (x ∈ l))) ∧ Fr w w' := by
  obtain ⟨Z, hZ, hF, hX, hS⟩ := sc_box w x
  have cI := w_find (c := c) hx hol (hl.fr hB hF) (by omega) hn hsm
  have HF := keep hF
  have lY := want_ty.ld (w := Z) (cs := sc x) rfl hX
  clear hl hX hF
  unfold sv at cI ⊢
  go_enter Tryz.func77, Tryz.ntmps77
  go_wp2_with fail
  refine cI.mono ?_
  rintro e w' ⟨hF2, ⟨rfl, hno⟩ | ⟨k, rfl, hk⟩⟩
  · have Hany := keep hno
    clear hno cI
    go_wp2_with fail
    go_ret
    exact ⟨by simp [Hany.out], fr_step HF.out hF2⟩
  · have Hany := keep hk
    have hkz : (0 : Int) ≤ (k : Int) := by omega
    clear hk cI
    go_wp2_with fail
    go_ret
    exact ⟨by simp [Hany.out], fr_step HF.out hF2⟩
set_option maxHeartbeats 1000000 in
theorem isTask_at (w : World) (x : Int) : Calls Tryz.prog 50 #[.int .i64 x] w fun e w' => e = .returned (.bool (okT x)) ∧ w = w' := by
  by_cases h0 : 0 ≤ x
  · by_cases h1 : x < 8
    · go_enter Tryz.func50, Tryz.ntmps50
      go_wp2_with fail
      go_ret
      exact ⟨by simp [okT, h0, h1], rfl⟩
    · go_enter Tryz.func50, Tryz.ntmps50
      go_wp2_with fail
      go_ret
      exact ⟨by simp [okT, h0, h1], rfl⟩
  · go_enter Tryz.func50, Tryz.ntmps50
    go_wp2_with fail
    go_ret
    exact ⟨by simp [okT]; omega, rfl⟩
set_option maxHeartbeats 1000000 in
theorem isBlock_at (w : World) (x : Int) : Calls Tryz.prog 51 #[.int .i64 x] w fun e w' => e = .returned (.bool (okBl x)) ∧ w = w' := by
  by_cases h0 : 0 ≤ x
  · by_cases h1 : x < 256
    · go_enter Tryz.func51, Tryz.ntmps51
      go_wp2_with fail
      go_ret
      exact ⟨by simp [okBl, h0, h1], rfl⟩
    · go_enter Tryz.func51, Tryz.ntmps51
      go_wp2_with fail
      go_ret
      exact ⟨by simp [okBl, h0, h1], rfl⟩
  · go_enter Tryz.func51, Tryz.ntmps51
    go_wp2_with fail
    go_ret
    exact ⟨by simp [okBl]; omega, rfl⟩
/-- What 'slices.IndexFunc' tells is a place. -/
theorem pos_of {α : Type} {p : α → Bool} {l : List α} {e : Ending} (h : (e = .returned (.int .i64 (-1)) ∧ Hid (NoneOf p l)) ∨ ∃ k : Nat, e = .returned (.int .i64 k) ∧ Hid (∃ m, l[k]? = some m ∧ p m = true ∧ ∀ t x, t < k → l[t]? = some x → p x = false)) : e = .returned (.int .i64 (pos (l.findIdx? p))) := by
  rcases h with ⟨rfl, hn⟩ | ⟨k, rfl, hk⟩
  · rw [List.findIdx?_eq_none_iff.2 hn.out]; rfl
  · obtain ⟨m, h1, h2, h3⟩ := hk.out
    rw [idx_some h3 h1 h2]; rfl
theorem int_box16 (w : World) (t : Int) : ∃ Z, w.alloc (.cells #[.int .i64 t] 3) = Z ∧ Fr w Z ∧ Arr Z w.heap.size 3 #[.int .i64 t] ∧ Z.heap.size = w.heap.size + 1 := ⟨_, rfl, fr_new (fr_refl w) _, Arr.new w _ _, by simp⟩
set_option maxHeartbeats 2000000 in
theorem place_at {w : World} {A : Option Addr} {n c B : Nat} {l : List (Int × Int)} (t : Int) (hl : Has w B A (rows sc l)) (hB : B ≤ w.heap.size) (hn : l.length = n) (hsm : n ≤ 100000) :
    Calls Tryz.prog 59 #[.slice A n c, .int .i64 t] w fun e w' => e = .returned (.int .i64 (pos (atI l t))) ∧ Fr w w' := by
  obtain ⟨Z, hZ, hF, hX, hS⟩ := int_box16 w t
  have cI := w_index (c := c) (fun x => decide (x.1 = t)) 84 #[.pointer (some ⟨w.heap.size, 0, none⟩)] (fun _ _ => rfl) (hl.fr hB hF) (by omega) hn hsm fun W m hW => cl_place (hX.below hW hX.lt) m
  have HF := keep hF
  have e9 : atI l t = l.findIdx? fun x => decide (x.1 = t) := by unfold atI; congr 1
  rw [e9]
  clear hl hX hF e9
  go_enter Tryz.func59, Tryz.ntmps59
  go_wp2_with (first
    | (go_at_call 83; (with_reducible refine cI.mono ?_); rintro e w2 ⟨hf2, he⟩; obtain rfl := pos_of he; clear he)
    | fail)
  go_ret
  exact ⟨rfl, fr_step HF.out hf2⟩
theorem bl_64 {b : Int} (h : okBl b = true) : W64 b := by simp [okBl] at h; exact ⟨by omega, by omega⟩
theorem tk_64 {b : Int} (h : okT b = true) : W64 b := by simp [okT] at h; exact ⟨by omega, by omega⟩
end Go.Proofs.YtmoaddbpfekdbaaGreat
/- What lasts in a cache that keeps its places by their blocks; where a block's frame is behind each change. No program text. -/
namespace Go.Proofs.YtmoaddbpfekdbaaGreat
set_option linter.unusedVariables false
set_option linter.unusedSimpArgs false
set_option linter.unusedSectionVars false
section
variable {V : Type}
def OkFr (f : Fra V) : Prop := (f.st = 1 ∨ f.st = 2 → okBl f.blk = true) ∧ (f.st = 3 → okT f.own = true)
structure PI (c : Ca V) : Prop where
  fr : ∀ f ∈ c.fs, OkFr f
  good : GoodF c.fs
  ln : ∀ p ∈ c.line, okT p.1 = true ∧ (p.2 = -1 ∨ okBl p.2 = true)
theorem okBl_iff {b : Int} : okBl b = true ↔ 0 ≤ b ∧ b < 256 := by simp [okBl]
theorem ok_modify {l : List (Fra V)} {i : Nat} {q : Fra V → Fra V} (h : ∀ f ∈ l, OkFr f) (hq : ∀ f, l[i]? = some f → OkFr (q f)) : ∀ f ∈ l.modify i q, OkFr f := fun f hf => by
  obtain ⟨j, e2⟩ := List.mem_iff_getElem?.1 hf
  rw [List.getElem?_modify] at e2
  cases hl : l[j]? with
  | none => rw [hl] at e2; simp at e2
  | some g =>
    rw [hl] at e2
    by_cases e3 : i = j
    · subst e3
      simp at e2
      rw [← e2]
      exact hq g hl
    · simp [e3] at e2
      rw [← e2]
      exact h g (List.mem_of_getElem? hl)
theorem ok_set {l : List (Fra V)} {i : Nat} {x : Fra V} (h : ∀ f ∈ l, OkFr f) (hx : OkFr x) : ∀ f ∈ l.set i x, OkFr f := fun f hf => by
  rcases List.mem_or_eq_of_mem_set hf with e | e
  · exact h f e
  · rw [e]; exact hx
theorem ln_leave {l : List (Int × Int)} (h : ∀ p ∈ l, okT p.1 = true ∧ (p.2 = -1 ∨ okBl p.2 = true)) (t : Int) : ∀ p ∈ leave l t, okT p.1 = true ∧ (p.2 = -1 ∨ okBl p.2 = true) := fun p hp => h p (List.mem_filter.1 hp).1
theorem ln_queue {l : List (Int × Int)} (h : ∀ p ∈ l, okT p.1 = true ∧ (p.2 = -1 ∨ okBl p.2 = true)) {t : Int} {b : Int} (hb : okT t = true ∧ (b = -1 ∨ okBl b = true)) : ∀ p ∈ queue l t b, okT p.1 = true ∧ (p.2 = -1 ∨ okBl p.2 = true) := fun p hp => by
  unfold queue at hp
  split at hp
  · exact h p hp
  · rcases List.mem_append.1 hp with e | e
    · exact h p e
    · rw [List.mem_singleton.1 e]
      exact hb
end
section
variable {V : Type} [NVal V]
theorem ok_free : OkFr (freeF : Fra V) := ⟨fun h => (by rcases h with h | h <;> cases h), fun h => (by cases h)⟩
theorem good_give {c : Ca V} (h : GoodF c.fs) (t : Int) : GoodF (giveC c t).2.fs := by
  unfold giveC
  split
  · refine h.like (fun i g hg h0 => ?_) fun i g _ => by omega
    simp only at hg
    rw [List.getElem?_map] at hg
    cases hl : c.fs[i]? with
    | none => rw [hl] at hg; cases hg
    | some f =>
      rw [hl] at hg
      simp at hg
      refine ⟨f, rfl, ?_⟩
      split at hg
      · subst hg
        exact absurd h0 (by show ¬ (0 : Int) ≤ -1; decide)
      · subst hg
        exact ⟨rfl, id⟩
  · exact h
theorem load_some {t : Ca V} {x : Int} {i : Nat} (h : loadI t x = some i) : ∃ f, t.fs[i]? = some f ∧ f.st = 1 ∧ f.blk = x := by
  unfold loadI at h
  split at h
  · cases hf : findB t.fs x with
    | none => rw [hf] at h; cases h
    | some j =>
      rw [hf] at h
      obtain ⟨f, h1, h2⟩ := idx_at hf
      simp only [fr_of h1] at h
      split at h
      · injection h with h
        subst h
        refine ⟨f, h1, by assumption, ?_⟩
        unfold isB at h2
        simp at h2
        exact h2.1
      · cases h
  · cases h
theorem pi_new (n : Nat) : PI (newC (V := V) n) := ⟨fun f hf => by rw [List.eq_of_mem_replicate (show f ∈ List.replicate n freeF from hf)]; exact ok_free, good_new n, fun p hp => by cases hp⟩
variable {c : Ca V} (h : PI c)
include h
theorem pi_pin (t b : Int) : PI (pinC c t b).2 := by
  refine ⟨?_, good_pin h.good t b, ?_⟩ <;> unfold pinC <;> split
  · next hok =>
    have hb : okBl b = true := by simp at hok; exact hok.1.2
    cases findB c.fs b with
    | some i =>
      simp only
      have h1 := ok_modify (i := i) (q := pinned) h.fr fun f hf => h.fr f (List.mem_of_getElem? hf)
      split <;> exact h1
    | none =>
      simp only
      cases takeI c t with
      | some k => exact ok_set h.fr ⟨fun _ => hb, fun e => by cases e⟩
      | none => exact h.fr
  · exact h.fr
  · next hok =>
    have hb : okBl b = true := by simp at hok; exact hok.1.2
    cases findB c.fs b with
    | some i =>
      simp only
      split <;> exact ln_leave h.ln t
    | none =>
      simp only
      cases takeI c t with
      | some k => exact ln_leave h.ln t
      | none => exact ln_queue h.ln ⟨by simp at hok; exact hok.1.1, .inr hb⟩
  · exact h.ln
theorem pi_fill (b : Int) (n : V) : PI (fillC c b n).2.2 := by
  refine ⟨?_, good_fill h.good b n, ?_⟩ <;> unfold fillC <;> cases hl : loadI c b with
  | some i =>
    first
      | exact h.ln
      | (obtain ⟨f, h1, h2, -⟩ := load_some hl
         refine ok_modify h.fr fun g hg => ?_
         rw [h1] at hg
         injection hg with hg
         subst hg
         exact ⟨fun _ => (h.fr f (List.mem_of_getElem? h1)).1 (.inl h2), fun e => by cases e⟩)
  | none => first | exact h.ln | exact h.fr
theorem pi_claim (t : Int) : PI (claimC c t).2 := by
  refine ⟨?_, good_claim h.good t, ?_⟩ <;> unfold claimC <;> split
  · next hok =>
    have ht : okT t = true := by simp at hok; exact hok.1
    cases takeI c t with
    | some k => exact ok_set h.fr ⟨fun e => (by rcases e with e | e <;> cases e), fun _ => ht⟩
    | none => exact h.fr
  · exact h.fr
  · next hok =>
    have ht : okT t = true := by simp at hok; exact hok.1
    cases takeI c t with
    | some k => exact ln_leave h.ln t
    | none => exact ln_queue h.ln ⟨ht, .inl rfl⟩
  · exact h.ln
theorem pi_give (t : Int) : PI (giveC c t).2 := by
  refine ⟨?_, good_give h.good t, ?_⟩ <;> unfold giveC <;> split
  · intro f hf
    obtain ⟨g, h1, h2⟩ := List.mem_map.1 hf
    split at h2
    · rw [← h2]; exact ok_free
    · rw [← h2]; exact h.fr g h1
  · exact h.fr
  · exact h.ln
  · exact h.ln
theorem pi_name (t b : Int) (n : V) : PI (nameC c t b n).2 := by
  refine ⟨?_, good_name h.good t b n, ?_⟩ <;> unfold nameC <;> split
  · next hok =>
    have hb : okBl b = true := by simp at hok; exact hok.1.2
    cases c.fs.findIdx? (isC t) with
    | some k => exact ok_set h.fr ⟨fun _ => hb, fun e => by cases e⟩
    | none => exact h.fr
  · exact h.fr
  · cases c.fs.findIdx? (isC t) <;> exact h.ln
  · exact h.ln
theorem pi_unpin (b : Int) : PI (unpinC c b).2 := by
  refine ⟨?_, good_unpin h.good b, ?_⟩ <;> unfold unpinC <;> cases readyI c b with
  | some i =>
    simp only
    split
    · first | exact h.fr | exact h.ln
    · first | exact h.ln | exact ok_modify h.fr fun f hf => h.fr f (List.mem_of_getElem? hf)
  | none => first | exact h.fr | exact h.ln
theorem pi_setC (b : Int) (n : V) : PI (setC c b n).2 := by
  refine ⟨?_, good_set h.good b n, ?_⟩ <;> unfold setC <;> cases readyI c b with
  | some i => first | exact h.ln | exact ok_modify h.fr fun f hf => h.fr f (List.mem_of_getElem? hf)
  | none => first | exact h.fr | exact h.ln
theorem pi_evict : PI (evictC c).2 := by
  refine ⟨?_, good_evict h.good, ?_⟩ <;> unfold evictC <;> split
  · exact h.fr
  · refine ok_set (fun f hf => ?_) ok_free
    obtain ⟨i, hi⟩ := List.mem_iff_getElem?.1 hf
    obtain ⟨g, h1, h2, h3, -, -, -, h4⟩ := reref_get hi
    have := h.fr g (List.mem_of_getElem? h1)
    unfold OkFr at this ⊢
    rw [h2, h3, h4]
    exact this
  · exact h.ln
  · exact h.ln
end
/-! Where a block's frame is. -/
section
variable {V : Type}
theorem find_congr {l m : List (Fra V)} {b : Int} (h : m.map (isB b) = l.map (isB b)) : findB m b = findB l b := by
  have e : ∀ x : List (Fra V), findB x b = (x.map (isB b)).findIdx? id := fun x => by rw [List.findIdx?_map]; rfl
  rw [e, e, h]
theorem find_set_other {l : List (Fra V)} {k : Nat} {f n : Fra V} {b : Int} (hf : l[k]? = some f) (h1 : isB b f = isB b n) : findB (l.set k n) b = findB l b := by
  refine find_congr ?_
  rw [List.map_set, ← h1]
  refine List.ext_getElem? fun j => ?_
  rw [List.getElem?_set]
  by_cases e : k = j
  · subst e
    obtain ⟨hk, -⟩ := List.getElem?_eq_some_iff.1 hf
    simp [hk, hf]
    obtain ⟨_, e⟩ := List.getElem?_eq_some_iff.1 hf
    exact congrArg _ e.symm
  · simp [e]
theorem find_new {l : List (Fra V)} {k : Nat} {f n : Fra V} (hf : l[k]? = some f) (h0 : f.st = 0 ∨ f.st = 3) (hn : n.st = 1 ∨ n.st = 2) (hb : findB l n.blk = none) (b : Int) : findB (l.set k n) b = if b = n.blk then some k else findB l b := by
  by_cases e : b = n.blk
  · subst e
    rw [if_pos rfl]
    obtain ⟨hk, -⟩ := List.getElem?_eq_some_iff.1 hf
    refine idx_some (x := n) (fun i y hi hy => ?_) (List.getElem?_set_self hk) (by rcases hn with hn | hn <;> simp [isB, hn])
    rw [List.getElem?_set_ne (by omega)] at hy
    have := List.findIdx?_eq_none_iff.1 hb y (List.mem_of_getElem? hy)
    simpa using this
  · rw [if_neg e]
    refine find_set_other hf ?_
    have h9 : (n.blk == b) = false := by simpa using fun e2 => e e2.symm
    unfold isB
    rw [h9]
    rcases h0 with h0 | h0 <;> simp [h0]
theorem find_gone {l : List (Fra V)} {k : Nat} {f n : Fra V} (hg : GoodF l) (hf : l[k]? = some f) (h0 : 0 ≤ f.blk) (hn : n.st = 0) (b : Int) : findB (l.set k n) b = if b = f.blk then none else findB l b := by
  by_cases e : b = f.blk
  · subst e
    rw [if_pos rfl]
    refine List.findIdx?_eq_none_iff.2 fun y hy => ?_
    obtain ⟨i, hi⟩ := List.mem_iff_getElem?.1 hy
    rw [List.getElem?_set] at hi
    split at hi
    · split at hi
      · injection hi with hi
        subst hi
        simp [isB, hn]
      · cases hi
    · next hne =>
      have := hg.once k i f y hf hi hne h0
      simp [isB]
      intro e
      exact absurd e.symm this
  · rw [if_neg e]
    refine find_set_other hf ?_
    have h9 : (f.blk == b) = false := by simpa using fun e2 => e e2.symm
    unfold isB
    rw [h9, hn]
    simp
end
end Go.Proofs.YtmoaddbpfekdbaaGreat
