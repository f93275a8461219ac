/- The laws of the cache: few. -/
import Derived.Test.YtmoaddbpfekdbaaM19
import Derived.StillTailTactics
import Derived.Test.YtmoaddbpfekdbaaM11
import Derived.Test.YtmoaddbpfekdbaaM18
namespace Go.Proofs.Ytmoaddbpfekdbaa
set_option linter.unusedVariables false
set_option linter.unusedSimpArgs false
set_option linter.unusedSectionVars false
set_option maxRecDepth 100000
open Go.RowKit
def I64 (z : Int) : Prop := -9223372036854775808 ≤ z ∧ z ≤ 9223372036854775807
set_option maxHeartbeats 1000000 in
theorem place16 (v : Int) (n : Nat) (hv : I64 v) (hn : 0 < n) (hn2 : (n : Int) ≤ 1099511627776) (w : World) : Calls Try.prog 19 #[.int .i64 v, .int .i64 n] w fun e w' => e = .returned (.int .i64 (v % n)) ∧ w = w' := by
  have he : v % (n : Int) = (v.tmod n) % n := by
    conv => lhs; rw [← Int.mul_tdiv_add_tmod v n]
    exact Int.mul_add_emod_self_left _ _ _
  unfold I64 at hv
  have hn0 : ((n : Int) == 0) = false := by simp; omega
  rcases tmod_cases v n (by omega) with ⟨k, e, h1, h2⟩ | ⟨k, e, h2⟩
  · rw [e] at he
    have hr : v % (n : Int) = -(k : Int) + n := by
      rw [he, ← Int.add_emod_right, Int.emod_eq_of_lt (by omega) (by omega)]
    rw [hr]
    clear he hr
    go_enter Try.func19, Try.ntmps19
    go_wp2_with fail
    go_ret
    exact ⟨rfl, rfl⟩
  · rw [e, Int.emod_eq_of_lt (a := (k : Int)) (by omega) (by omega)] at he
    rw [he]
    clear he
    go_enter Try.func19, Try.ntmps19
    go_wp2_with fail
    go_ret
    exact ⟨rfl, rfl⟩
/-- A step of the laws: what, a task, a block, a number. -/
structure Sp where
  what : Int
  t : Int
  id : Int
  n : Int
def spc (s : Sp) : List Value := [.int .i64 s.what, .int .i64 s.t, .int .i64 s.id, .int .i64 s.n]
def spv (s : Sp) : Value := .agg (spc s).toArray
def fewC (s : Sp) (i : Nat) : Sp := if i % 9 > 0 then { s with t := s.t % 6, id := s.id % 8 } else s
theorem step16_ty : Sty Try.prog 31 4 := ⟨by kernel_rfl, ⟨_, Try.underlying31, rfl⟩⟩
theorem step16_info : (Try.prog.info? 31).map (·.size) = some 4 := by kernel_rfl
theorem step16_ld (p : Value) : Instr.loadAt 31 p = ldS 31 p := rfl
attribute [local go_sem ↓] step16_ld
set_option maxHeartbeats 4000000 in
theorem few_at (w : World) (s : Sp) (i : Nat) (hi : i ≤ 100000) (ht : I64 s.t) (hd : I64 s.id) :
    Calls Try.prog 11 #[spv s, .int .i64 (i : Int)] w fun e w' => e = .returned (spv (fewC s i)) ∧ Fr w w' := by
  obtain ⟨a, b, c, d⟩ := s
  obtain ⟨Y, hY, hF1, hA1, hs1⟩ : ∃ Y, w.alloc (.cells [Value.int .i64 a, .int .i64 b, .int .i64 c, .int .i64 d].toArray 31) = Y ∧ Fr w Y ∧ Arr Y w.heap.size 31 [Value.int .i64 a, .int .i64 b, .int .i64 c, .int .i64 d].toArray ∧ Y.heap.size = w.heap.size + 1 := ⟨_, rfl, fr_new (fr_refl _) _, Arr.new _ _ _, by simp⟩
  obtain ⟨X, hX, hF2, hA2, hs2⟩ : ∃ X, Y.alloc (.cells [Value.int .i64 0, .int .i64 0, .int .i64 0, .int .i64 0].toArray 31) = X ∧ Fr Y X ∧ Arr X (w.heap.size + 1) 31 [Value.int .i64 0, .int .i64 0, .int .i64 0, .int .i64 0].toArray ∧ X.heap.size = w.heap.size + 2 := ⟨_, rfl, fr_new (fr_refl _) _, by rw [← hs1]; exact Arr.new _ _ _, by simp [hs1]⟩
  have hA3 := hA1.chg (.of_fr (fun _ => False) hF2) id
  have HF := keep (fr_step hF1 hF2)
  have HA2 := keep hA2
  have HA3 := keep hA3
  unfold spv spc fewC
  simp only at *
  by_cases hp : i % 9 > 0
  · have hpz : (i : Int) % 9 > 0 := by omega
    rw [if_pos hp]
    have p1 := fun W => place16 b 6 ht (by decide) (by decide) W
    have p2 := fun W => place16 c 8 hd (by decide) (by decide) W
    have cT : X.drew.cell? ⟨w.heap.size, 1, none⟩ = some (.int .i64 b) := hA3.drew.cell 1
    have cI : X.drew.cell? ⟨w.heap.size, 2, none⟩ = some (.int .i64 c) := hA3.drew.cell 2
    clear hp hA1 hA2 hA3 hF1 hF2 hs2
    go_enter Try.func11, Try.ntmps11
    go_wp2_with fail
    go_still_tail 7, (by kernel_rfl)
    still_call ((p1 X.drew).mono fun _ _ ⟨e1, e2⟩ => ⟨e1, e2.symm⟩)
    repeat still_step
    still_call ((p2 X.drew).mono fun _ _ ⟨e1, e2⟩ => ⟨e1, e2.symm⟩)
    repeat still_step
    refine wpStill_nil ?_
    change wpList _ _ _ _ _ X.drew
    have HA2 := keep HA2.out.drew
    have HA3 := keep HA3.out.drew
    have HF := keep (fr_drew HF.out)
    clear cT cI p1 p2
    generalize X.drew = wd at *
    go_wp2_with (first
      | (refine wpList_store_chg int_info16 rfl (.tmp 14) (.tmp 10) rfl w.heap.size 1 rfl (ds := [Value.int .i64 (b % 6)]) rfl rfl (.cons rfl .nil) HA3.out (by simp) (cs' := [Value.int .i64 a, .int .i64 (b % 6), .int .i64 c, .int .i64 d]) rfl ?_; intro W3 h1 h2; have H3 := keep (And.intro h1 h2); clear h1 h2)
      | (refine wpList_store_chg int_info16 rfl (.tmp 15) (.tmp 13) rfl w.heap.size 2 rfl (ds := [Value.int .i64 (c % 8)]) rfl rfl (.cons rfl .nil) H3.out.1 (by simp) (cs' := [Value.int .i64 a, .int .i64 (b % 6), .int .i64 (c % 8), .int .i64 d]) rfl ?_; intro W4 h1 h2; have H4 := keep (And.intro h1 h2); have lS := step16_ty.ld (by rfl) h1; clear h1 h2)
      | (refine wpList_store_chg step16_info rfl (.tmp 4) (.tmp 16) rfl (w.heap.size + 1) 0 rfl (ds := [Value.int .i64 a, .int .i64 (b % 6), .int .i64 (c % 8), .int .i64 d]) rfl rfl (.cons rfl (.cons rfl (.cons rfl (.cons rfl .nil)))) ((HA2.out.chg H3.out.2 (fun e => by omega)).chg H4.out.2 (fun e => by omega)) (by simp) (cs' := [Value.int .i64 a, .int .i64 (b % 6), .int .i64 (c % 8), .int .i64 d]) rfl ?_; intro W5 h1 h2; have H5 := keep (And.intro h1 h2); clear h1 h2)
      | fail)
    exact bodyPost_ret (step16_ty.result rfl _ (w.heap.size + 1) rfl rfl H5.out.1) rfl ⟨rfl, ((HF.out.step_chg H3.out.2 fun i e => by rw [e]; exact Nat.le_refl _).step_chg H4.out.2 fun i e => by rw [e]; exact Nat.le_refl _).step_chg H5.out.2 fun i e => by rw [e]; omega⟩
  · have hpz : ¬ (i : Int) % 9 > 0 := by omega
    rw [if_neg hp]
    have lS := step16_ty.ld (by rfl) hA3
    clear hp hA1 hA2 hA3 hF1 hF2 hs2
    go_enter Try.func11, Try.ntmps11
    go_wp2_with (first
      | (refine wpList_store_chg step16_info rfl (.tmp 4) (.tmp 16) rfl (w.heap.size + 1) 0 rfl (ds := [Value.int .i64 a, .int .i64 b, .int .i64 c, .int .i64 d]) rfl rfl (.cons rfl (.cons rfl (.cons rfl (.cons rfl .nil)))) HA2.out (by simp) (cs' := [Value.int .i64 a, .int .i64 b, .int .i64 c, .int .i64 d]) rfl ?_; intro W3 h1 h2; have H3 := keep (And.intro h1 h2); clear h1 h2)
      | fail)
    exact bodyPost_ret (step16_ty.result rfl _ (w.heap.size + 1) rfl rfl H3.out.1) rfl ⟨rfl, HF.out.step_chg H3.out.2 fun i e => by rw [e]; omega⟩
end Go.Proofs.Ytmoaddbpfekdbaa
/- The laws of the cache: frames, of two that tell alike. -/
namespace Go.Proofs.Ytmoaddbpfekdbaa
set_option linter.unusedVariables false
set_option linter.unusedSimpArgs false
set_option linter.unusedSectionVars false
set_option maxRecDepth 100000
open Go.RowKit
theorem aframe_ld (p : Value) : Instr.loadAt 49 p = ldS 49 p := rfl
section
variable {V : Type} [NVal V]
attribute [local go_sem ↓] aframe_ld
end
end Go.Proofs.Ytmoaddbpfekdbaa
/- The document's cache and the plain one: they tell of a frame by whom it is where it is claimed. -/
namespace Go.Proofs.Ytmoaddbpfekdbaa
set_option linter.unusedVariables false
set_option linter.unusedSimpArgs false
set_option linter.unusedSectionVars false
section
variable {V : Type} [NVal V]
def nrmF (f : Fra V) : Fra V := if f.st = 3 then f else { f with own := 0 }
def nrmC (c : Ca V) : Ca V := { c with fs := c.fs.map nrmF }
omit [NVal V] in
end
end Go.Proofs.Ytmoaddbpfekdbaa
/- What a cache comes to in so many steps: pins, the line, loads. -/
namespace Go.Proofs.Ytmoaddbpfekdbaa
set_option linter.unusedVariables false
set_option linter.unusedSimpArgs false
set_option linter.unusedSectionVars false
section
variable {V : Type} [NVal V]
structure Bd (c : Ca V) (n K : Nat) : Prop where
  len : c.fs.length = n
  pin : ∀ f ∈ c.fs, 0 ≤ f.pins ∧ f.pins ≤ (K : Int)
  ln : c.line.length ≤ K
  ld : c.loads.length ≤ K
theorem Bd.more {c : Ca V} {n K : Nat} (h : Bd c n K) : Bd c n (K + 1) := ⟨h.len, fun f hf => by have := h.pin f hf; omega, by have := h.ln; omega, by have := h.ld; omega⟩
theorem Bd.pins {c : Ca V} {n K : Nat} (h : Bd c n K) (hK : K ≤ 100000) : PinsOk c := fun f hf => by
  have := h.pin f hf
  omega
theorem bd_new (n : Nat) : Bd (newC (V := V) n) n 0 := ⟨by simp [newC], fun f hf => by
  unfold newC at hf
  rw [List.eq_of_mem_replicate hf]
  exact ⟨Int.le_refl _, Int.le_refl _⟩, Nat.le_refl _, Nat.le_refl _⟩
theorem bd_modify {l : List (Fra V)} {i : Nat} {q : Fra V → Fra V} {K K' : Int} (h : ∀ f ∈ l, 0 ≤ f.pins ∧ f.pins ≤ K) (hK : K ≤ K') (hq : ∀ f ∈ l, l[i]? = some f → 0 ≤ (q f).pins ∧ (q f).pins ≤ K') : ∀ f ∈ l.modify i q, 0 ≤ f.pins ∧ f.pins ≤ K' := fun f hf => by
  obtain ⟨j, hj, e⟩ := List.mem_iff_getElem.1 hf
  have e2 : (l.modify i q)[j]? = some f := by rw [List.getElem?_eq_getElem hj, e]
  rw [List.getElem?_modify] at e2
  cases hl : l[j]? with
  | none => rw [hl] at e2; simp at e2
  | some g =>
    have hg := List.mem_of_getElem? hl
    have h9 := h g hg
    rw [hl] at e2
    by_cases e3 : i = j
    · subst e3
      simp at e2
      rw [← e2]
      exact hq g hg hl
    · simp [e3] at e2
      rw [← e2]
      omega
theorem bd_set {l : List (Fra V)} {i : Nat} {x : Fra V} {K K' : Int} (h : ∀ f ∈ l, 0 ≤ f.pins ∧ f.pins ≤ K) (hK : K ≤ K') (hx : 0 ≤ x.pins ∧ x.pins ≤ K') : ∀ f ∈ l.set i x, 0 ≤ f.pins ∧ f.pins ≤ K' := fun f hf => by
  rcases List.mem_or_eq_of_mem_set hf with e | e
  · have := h f e
    omega
  · rw [e]; exact hx
theorem leave_len (l : List (Int × Int)) (t : Int) : (leave l t).length ≤ l.length := List.length_filter_le _ _
theorem queue_len (l : List (Int × Int)) (t b : Int) : (queue l t b).length ≤ l.length + 1 := by
  unfold queue
  split
  · omega
  · rw [List.length_append]; exact Nat.le_refl _
variable {c : Ca V} {n K : Nat}
theorem bd_fill (h : Bd c n K) (b : Int) (v : V) : Bd (fillC c b v).2.2 n K := by
  unfold fillC
  cases loadI c b with
  | none => exact h
  | some i => exact ⟨by simp only [List.length_modify]; exact h.len, bd_modify h.pin (Int.le_refl _) fun f hf _ => h.pin f hf, h.ln, Nat.le_trans (List.length_filter_le _ _) h.ld⟩
theorem bd_claim (h : Bd c n K) (t : Int) : Bd (claimC c t).2 n (K + 1) := by
  have h1 := leave_len c.line t
  have h2 := h.ln
  have h3 := h.ld
  unfold claimC
  split
  · cases takeI c t with
    | none => exact ⟨h.len, h.more.pin, Nat.le_trans (queue_len _ _ _) (by omega), by simp only; omega⟩
    | some k => exact ⟨by simp only [List.length_set]; exact h.len, bd_set h.pin (by omega) ⟨by simp, by simp only; omega⟩, by simp only; omega, by simp only; omega⟩
  · exact h.more
theorem bd_give (h : Bd c n K) (t : Int) : Bd (giveC c t).2 n K := by
  unfold giveC
  split
  · refine ⟨by simp only [List.length_map]; exact h.len, fun f hf => ?_, h.ln, h.ld⟩
    obtain ⟨g, hg, e⟩ := List.mem_map.1 hf
    rw [← e]
    split
    · exact ⟨Int.le_refl _, by show (0 : Int) ≤ K; omega⟩
    · exact h.pin g hg
  · exact h
theorem bd_name (h : Bd c n K) (t b : Int) (v : V) : Bd (nameC c t b v).2 n K := by
  unfold nameC
  split
  · cases c.fs.findIdx? (isC t) with
    | none => exact h
    | some k => exact ⟨by simp only [List.length_set]; exact h.len, bd_set h.pin (Int.le_refl _) ⟨Int.le_refl _, by show (0 : Int) ≤ K; omega⟩, h.ln, h.ld⟩
  · exact h
theorem bd_unpin (h : Bd c n K) (b : Int) : Bd (unpinC c b).2 n K := by
  unfold unpinC
  cases hr : readyI c b with
  | none => exact h
  | some i =>
    simp only
    split
    · exact h
    · rename_i h0
      refine ⟨by simp only [List.length_modify]; exact h.len, bd_modify h.pin (Int.le_refl _) fun f hf hi => ?_, h.ln, h.ld⟩
      have := h.pin f hf
      rw [fr_of hi] at h0
      simp only
      omega
theorem bd_setC (h : Bd c n K) (b : Int) (v : V) : Bd (setC c b v).2 n K := by
  unfold setC
  cases readyI c b with
  | none => exact h
  | some i => exact ⟨by simp only [List.length_modify]; exact h.len, bd_modify h.pin (Int.le_refl _) fun f hf _ => h.pin f hf, h.ln, h.ld⟩
theorem bd_evict (h : Bd c n K) : Bd (evictC c).2 n K := by
  have h9 := len_evict c
  have h8 := h.len
  refine ⟨by omega, ?_, ?_, ?_⟩
  · unfold evictC
    split
    · exact h.pin
    · refine bd_set (K := (K : Int)) (fun f hf => ?_) (Int.le_refl _) ⟨Int.le_refl _, by show (0 : Int) ≤ K; omega⟩
      obtain ⟨j, hj⟩ := List.getElem?_of_mem hf
      obtain ⟨g, hg, _, _, e, _⟩ := reref_get hj
      rw [e]
      exact h.pin g (List.mem_of_getElem? hg)
  · unfold evictC
    split
    · exact h.ln
    · exact h.ln
  · unfold evictC
    split
    · exact h.ld
    · exact h.ld
end
end Go.Proofs.Ytmoaddbpfekdbaa
/- The cache, by plain functions: who loads, who waits. No program text. -/
namespace Go.Proofs.Ytmoaddbpfekdbaa
set_option linter.unusedSectionVars false
set_option linter.unusedVariables false
set_option linter.unusedSimpArgs false
section
variable {V : Type} [Inhabited V]
theorem stand_map {ts : List Int} {b t : Int} : (stand (ts.map fun x => (x, b)) t).isSome = decide (t ∈ ts) := by
  unfold stand
  induction ts with
  | nil => simp
  | cons x ts ih =>
    rw [List.map_cons, List.find?_cons]
    by_cases e : x = t
    · subst e; simp
    · have e2 : ((x, b).1 == t) = false := by simpa using e
      rw [e2]
      simp only [ih]
      have e3 : ¬ t = x := fun h => e h.symm
      simp [e3]
theorem okT_of {t : Int} (h : 0 ≤ t ∧ t < 8) : okT t = true := by unfold okT; simp [h.1, h.2]
theorem okBl_of {b : Int} (h : 0 ≤ b ∧ b < 256) : okBl b = true := by unfold okBl; simp [h.1, h.2]
/-- Three frames, and those who want one block. -/
def ldC (b : Int) : List Int → Ca V
  | [] => newC 3
  | t :: ts => ⟨[⟨1, b, (ts.length : Int) + 1, true, false, default, 0⟩, freeF, freeF], [], ts.map fun x => (x, b), 0⟩
theorem ld_first {b t : Int} (hb : 0 ≤ b ∧ b < 256) (ht : 0 ≤ t ∧ t < 8) : pinC (ldC (V := V) b []) t b = (3, ldC b [t]) := by
  have h1 : findB (List.replicate 3 (freeF (V := V))) b = none := by
    unfold findB
    rw [List.findIdx?_eq_none_iff]
    intro f hf
    rw [List.eq_of_mem_replicate hf]
    unfold isB freeF
    simp
  unfold pinC ldC newC busy
  simp only [okT_of ht, okBl_of hb, stand, List.find?_nil, Option.isSome_none, Bool.or_false, Bool.not_false, Bool.and_true, if_true, h1]
  rfl
theorem ld_find {b : Int} (t : Int) (ts : List Int) : findB (ldC (V := V) b (t :: ts)).fs b = some 0 := by
  unfold findB ldC
  simp [List.findIdx?_cons, isB]
theorem ld_next {b t t0 : Int} {ts : List Int} (hb : 0 ≤ b ∧ b < 256) (ht : 0 ≤ t ∧ t < 8) (hn : t ∉ ts) : pinC (ldC (V := V) b (t0 :: ts)) t b = (2, ldC b (t0 :: (ts ++ [t]))) := by
  have h1 := ld_find (V := V) (b := b) t0 ts
  have h2 : busy (ldC (V := V) b (t0 :: ts)) t b = false := by
    unfold busy ldC
    simp only [stand_map, decide_eq_false hn]
    simp [stand]
  unfold pinC
  rw [okT_of ht, okBl_of hb, h1, h2]
  simp [ldC, fr, pinned, leave, freeF, List.modify]
theorem ld_again {b t t0 : Int} {ts : List Int} (hn : t ∈ ts) : pinC (ldC (V := V) b (t0 :: ts)) t b = (0, ldC b (t0 :: ts)) := by
  have h2 : busy (ldC (V := V) b (t0 :: ts)) t b = true := by
    unfold busy ldC
    simp only [stand_map, decide_eq_true hn, Bool.true_or]
  unfold pinC
  rw [h2]
  simp
theorem ld_may1 {b t : Int} (ht : 0 ≤ t ∧ t < 8) : mayC (ldC (V := V) b [t]) t = true := by
  unfold mayC ldC
  rw [okT_of ht]
  simp [stand]
theorem ld_may2 {b t t0 : Int} {ts : List Int} (hn : t ∈ ts) : mayC (ldC (V := V) b (t0 :: ts)) t = false := by
  unfold mayC ldC
  simp only [stand_map, decide_eq_true hn]
  simp
theorem ld_fill0 (b : Int) (n : V) : fillC (newC 3) b n = ([], false, newC 3) := by
  have h1 : findB (List.replicate 3 (freeF (V := V))) b = none := by
    unfold findB
    rw [List.findIdx?_eq_none_iff]
    intro f hf
    rw [List.eq_of_mem_replicate hf]
    unfold isB freeF
    simp
  have h2 : loadI (newC (V := V) 3) b = none := by
    unfold loadI newC
    rw [h1]
    split <;> rfl
  unfold fillC
  rw [h2]
theorem ld_fill {b t0 : Int} {ts : List Int} (hb : 0 ≤ b ∧ b < 256) (n : V) : fillC (ldC b (t0 :: ts)) b n = (ts, true, ⟨[⟨2, b, (ts.length : Int) + 1, true, false, n, 0⟩, freeF, freeF], [], [], 0⟩) := by
  have h1 := ld_find (V := V) (b := b) t0 ts
  have h2 : loadI (ldC (V := V) b (t0 :: ts)) b = some 0 := by
    unfold loadI
    rw [okBl_of hb, h1]
    simp [ldC, fr]
  have h3 : ((ts.map fun x => (x, b)).filter fun p => p.2 == b) = ts.map fun x => (x, b) := List.filter_eq_self.2 fun p hp => by
    obtain ⟨x, _, rfl⟩ := List.mem_map.1 hp
    simp
  have h4 : ((ts.map fun x => (x, b)).filter fun p => !(p.2 == b)) = [] := List.filter_eq_nil_iff.2 fun p hp => by
    obtain ⟨x, _, rfl⟩ := List.mem_map.1 hp
    simp
  unfold fillC
  rw [h2]
  simp only [ldC, h3, h4, List.map_map]
  refine Prod.ext ?_ (Prod.ext rfl ?_)
  · show List.map ((fun p : Int × Int => p.1) ∘ fun x => (x, b)) ts = ts
    have : ((fun p : Int × Int => p.1) ∘ fun x => (x, b)) = id := rfl
    rw [this, List.map_id]
  · simp [List.modify]
theorem ld_free {b p : Int} (n : V) : freeN [⟨2, b, p, true, false, n, 0⟩, freeF, freeF] = 2 := by
  unfold freeN
  simp [freeF]
end
end Go.Proofs.Ytmoaddbpfekdbaa
