/- What the functions of layer 3 come to, four: 'Compare', of the program. -/
import Derived.Test.YtignnjflodkihaaKeyD0
import Derived.Test.YtignnjflodkihaaKeyB
import Derived.Deep.RegionHeld3
import Derived.Lib.BytesEntry
import Derived.Sort.Grow
import Derived.Shelf.SlSortCmp.NoneTotal
namespace Go.Proofs.Ytignnjflodkihaa
open Go.RowKit
set_option linter.unusedVariables false
theorem key_cmpint (x y : Int) (w : World) : Calls Try.prog 38 #[.int .i64 x, .int .i64 y] w fun e w' => e = .returned (.int .i64 (cmpI x y)) ∧ w = w' := by
  rcases cmpI_cases x y with ⟨h, h2⟩ | ⟨h, h2⟩ | ⟨h, h2⟩
  · rw [h2]
    clear h2
    have h3 : decide (x < y) = true := by simpa using h
    go_enter Try.func38, Try.ntmps38
    go_wp2
    go_ret
    exact ⟨rfl, rfl⟩
  · rw [h2]
    clear h2
    have h3 : decide (y < x) = true := by simpa using h
    have h4 : decide (x < y) = false := by simp; omega
    go_enter Try.func38, Try.ntmps38
    go_wp2
    go_ret
    exact ⟨rfl, rfl⟩
  · rw [h2]
    clear h2
    subst h
    go_enter Try.func38, Try.ntmps38
    go_wp2
    go_ret
    exact ⟨rfl, rfl⟩
theorem key_loadbytes (w : World) (a : RK) (g : Nat) (hA : Arr w g 30 (kc a).toArray) : (Extern.Bytes.bytesOf (.slice (some ⟨g, 1, none⟩) 8 8)).run Try.prog w = .ok ⟨(ub a).toArray⟩ w := by
  have h := Lib.run_loadBytesX (P := Try.prog) w (kbs a) ⟨g, 1, none⟩ ByteArray.empty (fun j x hj => by
    rw [Addr.add_lit, hA.cell]
    rcases j with _|_|_|_|_|_|_|_|j
    all_goals first | (simp [kbs] at hj; subst hj; rfl) | (simp [kbs] at hj))
  simp only [Extern.Bytes.bytesOf]
  rw [show (8 : Nat) = (kbs a).length from rfl, h]
  simp [ub, Lib.bytesOf, ByteArray.empty, ByteArray.emptyWithCapacity]
  rfl
theorem key_bytescmp (w : World) (a b : RK) (ha : a.wf) (hb : b.wf) (g h : Nat) (hA : Arr w g 30 (kc a).toArray) (hB : Arr w h 30 (kc b).toArray) :
   Calls Try.prog 37 #[.slice (some ⟨g, 1, none⟩) 8 8, .slice (some ⟨h, 1, none⟩) 8 8] w fun e w' => e = .returned (.int .i64 (cmpI (val8 a) (val8 b))) ∧ w = w' := by
    go_enter Try.func37, Try.ntmps37
    go_wp2
    rw [run_callFunc_extern Try.func43 (by kernel_rfl) (by kernel_rfl) (by kernel_rfl) (e := Extern.BytealgCompare.compare) (by kernel_rfl)]
    have hr : (Extern.BytealgCompare.compare #[.slice (some ⟨g, 1, none⟩) 8 8, .slice (some ⟨h, 1, none⟩) 8 8]).run Try.prog w = .ok (.int .i64 (cmpI (val8 a) (val8 b))) w := by
      change Sem.run Try.prog (do pure (goInt (Extern.BytealgCompare.cmp (← Extern.Bytes.bytesOf (.slice (some ⟨g, 1, none⟩) 8 8)) (← Extern.Bytes.bytesOf (.slice (some ⟨h, 1, none⟩) 8 8))))) w = _
      simp only [Sem.run_bind, Sem.run_pure, key_loadbytes w a g hA, key_loadbytes w b h hB, Result.andThen]
      rw [Lib.cmp_eq]
      rw [show (⟨(ub a).toArray⟩ : ByteArray).data.toList = ub a from rfl, show (⟨(ub b).toArray⟩ : ByteArray).data.toList = ub b from rfl, cmp_bytes ha hb]
      rfl
    rw [hr]
    simp only [Result.andThen]
    rw [Oper.upon_value]
    go_wp2
    go_ret
    exact ⟨rfl, rfl⟩
theorem key_or (x y : Int) (c g : Nat) (w : World) (h0 : w.cell? ⟨g, 0, none⟩ = some (.int .i64 x)) (h1 : w.cell? ⟨g, 1, none⟩ = some (.int .i64 y)) : Calls Try.prog 36 #[.slice (some ⟨g, 0, none⟩) 2 c] w fun e w' => e = .returned (.int .i64 (if x ≠ 0 then x else y)) ∧ w = w' := by
  by_cases hx : x = 0
  · subst hx
    by_cases hy : y = 0
    · subst hy
      go_enter Try.func36, Try.ntmps36
      go_wp2
      refine wp_loop_rounds 3 ?_
      rw [rounds_succ]
      go_wp2
      rw [rounds_succ]
      go_wp2
      rw [rounds_succ]
      go_wp2
      go_ret
      exact ⟨rfl, rfl⟩
    · have h3 : (y != 0) = true := by simpa using hy
      go_enter Try.func36, Try.ntmps36
      go_wp2
      refine wp_loop_rounds 2 ?_
      rw [rounds_succ]
      go_wp2
      rw [rounds_succ]
      go_wp2
      go_ret
      exact ⟨rfl, rfl⟩
  · have h3 : (x != 0) = true := by simpa using hx
    rw [if_pos hx]
    clear hx
    go_enter Try.func36, Try.ntmps36
    go_wp2
    refine wp_loop_rounds 1 ?_
    rw [rounds_succ]
    go_wp2
    go_ret
    exact ⟨rfl, rfl⟩
/-- w' is w behind some draws, with some new blocks. -/
def Gr (w w' : World) : Prop := ∃ q os, w' = Sort.grow (w.drewN q) os
theorem Gr.fr {w w' : World} (h : Gr w w') : Fr w w' := by
  obtain ⟨q, os, rfl⟩ := h
  exact ⟨rfl, rfl, rfl, by simp [Sort.grow, World.drewN], fun k hk => by simp [Sort.grow, World.drewN, Array.getElem?_append, hk]⟩
theorem gr_refl (w : World) : Gr w w := ⟨0, #[], by simp [Sort.grow, World.drewN]⟩
theorem gr_new {a w : World} (h : Gr a w) (o : Obj) : Gr a (w.alloc o) := by
  obtain ⟨q, os, rfl⟩ := h
  exact ⟨q, os ++ #[o], by rw [Sort.alloc_eq_grow, Sort.grow_grow]⟩
theorem gr_drewN {a w : World} (h : Gr a w) (n : Nat) : Gr a (w.drewN n) := by
  obtain ⟨q, os, rfl⟩ := h
  exact ⟨q + n, os, by show Sort.grow ((a.drewN q).drewN n) os = _; rw [World.drewN_drewN]⟩
theorem gr_drew {a w : World} (h : Gr a w) : Gr a w.drew := gr_drewN h 1
set_option maxRecDepth 100000 in
set_option maxHeartbeats 1000000 in
theorem key_compare_eq (a : RK) (ha : a.wf) (w : World) : Calls Try.prog 27 #[kv a, kv a] w fun e w' => e = .returned (.int .i64 0) ∧ Gr w w' := by
  have heq : ∀ W, (binOp .eql 30 (kv a) (kv a)).run Try.prog W = .ok (.bool true) W := fun W => by simpa using key_eql ha ha W
  go_enter Try.func27, Try.ntmps27
  go_wp2_with fail
  go_ret
  exact ⟨rfl, gr_new (gr_new (gr_refl w) _) _⟩
set_option maxRecDepth 100000 in
set_option maxHeartbeats 2000000 in
theorem key_compare_ne (a b : RK) (ha : a.wf) (hb : b.wf) (hne : a ≠ b) (w : World) : Calls Try.prog 27 #[kv a, kv b] w fun e w' => e = .returned (.int .i64 (if cmpI (val8 a) (val8 b) ≠ 0 then cmpI (val8 a) (val8 b) else cmpI a.n b.n)) ∧ Gr w w' := by
  have heq : ∀ W, (binOp .eql 30 (kv a) (kv b)).run Try.prog W = .ok (.bool false) W := fun W => by
    have h := key_eql ha hb W
    rwa [show decide (a = b) = false from by simpa using hne] at h
  have hor := fun (W : World) (c g : Nat) h0 h1 => key_or (cmpI (val8 a) (val8 b)) (cmpI a.n b.n) c g W h0 h1
  generalize (if cmpI (val8 a) (val8 b) ≠ 0 then cmpI (val8 a) (val8 b) else cmpI a.n b.n) = r at hor ⊢
  go_enter Try.func27, Try.ntmps27
  go_wp2_with fail
  generalize hW : World.alloc (World.alloc w _) _ = W
  have hA : Arr W w.heap.size 30 (kc a).toArray := by rw [← hW]; exact (Arr.new w _ _).alloc _
  have hB : Arr W (w.heap.size + 1) 30 (kc b).toArray := by rw [← hW]; exact arr_new_at _ _ _ _ (by simp)
  have hG : Gr w W := by rw [← hW]; exact gr_new (gr_new (gr_refl w) _) _
  clear hW
  have hcA : W.cell? ⟨w.heap.size, 0, none⟩ = some (.int .i64 a.n) := hA.cell 0
  have hcB : W.cell? ⟨w.heap.size + 1, 0, none⟩ = some (.int .i64 b.n) := hB.cell 0
  have hGd := gr_drew hG
  clear hne
  go_region_held3 (fun w' => w'.cell? ⟨w.heap.size, 0, none⟩ = some (.int .i64 a.n) ∧ w'.cell? ⟨w.heap.size + 1, 0, none⟩ = some (.int .i64 b.n) ∧ Arr w' w.heap.size 30 (kc a).toArray ∧ Arr w' (w.heap.size + 1) 30 (kc b).toArray ∧ Gr w w')
    (first
      | (go_split_ands; exact ⟨hcA, hcB, hA, hB, hGd⟩)
      | (go_split_ands; exact ⟨by assumption, by assumption, by assumption, by assumption, by assumption⟩)
      | (go_split_ands; exact ⟨(World.cell?_alloc_lt W _ _ hA.lt).trans hcA, (World.cell?_alloc_lt W _ _ hB.lt).trans hcB, Arr.alloc hA _, Arr.alloc hB _, gr_drew (gr_new hG _)⟩))
    (first
      | (go_at_call 37; refine (key_bytescmp _ a b ha hb _ _ (by assumption) (by assumption)).mono ?_; rintro e w' ⟨rfl, rfl⟩)
      | (go_at_call 38; refine (key_cmpint _ _ _).mono ?_; rintro e w' ⟨rfl, rfl⟩)
      | (go_at_call 36; refine (hor _ _ _ (by simp) (by simp)).mono ?_; rintro e w' ⟨rfl, rfl⟩))
  rename_i hH
  obtain ⟨_, _, _, _, hGe⟩ := hH
  go_wp2
  go_ret
  exact ⟨rfl, hGe⟩
theorem key_compare (a b : RK) (ha : a.wf) (hb : b.wf) (la : Len a) (lb : Len b) (w : World) : Calls Try.prog 27 #[kv a, kv b] w fun e w' => e = .returned (.int .i64 (cmpK a b)) ∧ Gr w w' := by
  have hp := cmp_parts ha hb la lb
  by_cases e : a = b
  · subst e
    rw [if_pos rfl] at hp
    rw [← hp]
    exact key_compare_eq a ha w
  · rw [if_neg e] at hp
    rw [← hp]
    exact key_compare_ne a b ha hb e w
end Go.Proofs.Ytignnjflodkihaa