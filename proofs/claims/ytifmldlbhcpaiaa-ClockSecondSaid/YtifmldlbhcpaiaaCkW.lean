/- The laws of package clock: awake. -/
import Derived.Test.YtifmldlbhcpaiaaCkG
import Derived.Test.YtifmldlbhcpaiaaCkI
import Derived.Test.YtifmldlbhcpaiaaCkS
import Derived.Test.YtifmldlbhcpaiaaSame
namespace Go.Proofs.Ytifmldlbhcpaiaa
set_option linter.unusedVariables false
set_option linter.unusedSimpArgs false
set_option maxRecDepth 100000
open Go.RowKit
theorem ex_sweep : swpL [true, true, true] [true, false, true] 0 = (1, 2, [false, false, true]) := by decide
theorem ex_none : swpL [] [] 5 = (-1, 0, []) := by decide
theorem ex_order : oi (ordL [true, true] [true, false] 0) = [1, 0] := by decide
theorem ResB.fr {w W V : World} {L : Option Addr} {n c : Nat} {l : List Bool} (h : ResB w W L n c l) (f : Fr W V) : ResB w V L n c l := ⟨h.row.fr f, h.len, h.new⟩
theorem ResI.fr {w W V : World} {L : Option Addr} {n c : Nat} {l : List Int} (h : ResI w W L n c l) (f : Fr W V) : ResI w V L n c l := ⟨h.row.fr f, h.len, h.new⟩
theorem has_all {w : World} {B : Nat} {A : Option Addr} {xs : List Value} (h : Has w B A xs) : Has w w.heap.size A xs := (h.hasP (ok := fun _ => True) fun _ _ => trivial).has
theorem has_nil {w : World} {B : Nat} {A : Option Addr} : Has w B A (rows bc []) := fun j u h => by simp [rows] at h
/-- The cells of a row that a call made, in each later world. -/
theorem ResB.cells {w W : World} {L : Option Addr} {n c : Nat} {l : List Bool} (h : ResB w W L n c l) (hn : 0 < n) : ∃ g o, L = some ⟨g, o, none⟩ ∧ ∀ V, Fr W V → ∀ i b, l[i]? = some b → V.cell? ⟨g, o + i, none⟩ = some (.bool b) := by
  obtain ⟨g, o, rfl⟩ := h.row.addr hn
  refine ⟨g, o, rfl, fun V hV i b hb => ?_⟩
  obtain ⟨b2, off2, e2, hb2, hr2⟩ := has_rows h.row.has (bc_wid l) (by decide) (by intro e; rw [e] at hb; simp at hb)
  injection e2 with e2
  injection e2 with e2 e3
  subst e2 e3
  have lX := elem_cell0 hr2 (bc_wid l) (by omega) hb (u := .bool b) rfl V hV
  rw [Nat.mul_one] at lX
  exact lX
theorem ResI.cells {w W : World} {L : Option Addr} {n c : Nat} {l : List Int} (h : ResI w W L n c l) (hn : 0 < n) : ∃ g o, L = some ⟨g, o, none⟩ ∧ ∀ V, Fr W V → ∀ i b, l[i]? = some b → V.cell? ⟨g, o + i, none⟩ = some (.int .i64 b) := by
  obtain ⟨g, o, rfl⟩ := h.row.addr hn
  refine ⟨g, o, rfl, fun V hV i b hb => ?_⟩
  obtain ⟨b2, off2, e2, hb2, hr2⟩ := has_rows h.row.has (ic_wid l) (by decide) (by intro e; rw [e] at hb; simp at hb)
  injection e2 with e2
  injection e2 with e2 e3
  subst e2 e3
  have lX := elem_cell0 hr2 (ic_wid l) (by omega) hb (u := .int .i64 b) rfl V hV
  rw [Nat.mul_one] at lX
  exact lX
set_option maxHeartbeats 8000000 in
theorem awake_at {w : World} : Calls Try.prog 8 #[] w fun e w' => e = .returned (.bool true) ∧ Fr w w' := by
  have f1 := fr_new (fr_new (fr_refl w) (.cells #[.bool true, .bool true, .bool true] 4)) (.cells #[.bool true, .bool false, .bool true] 4)
  have b1 : Has ((w.alloc (.cells #[.bool true, .bool true, .bool true] 4)).alloc (.cells #[.bool true, .bool false, .bool true] 4)) ((w.alloc (.cells #[.bool true, .bool true, .bool true] 4)).alloc (.cells #[.bool true, .bool false, .bool true] 4)).heap.size (some ⟨w.heap.size, 0, none⟩) (rows bc [true, true, true]) :=
    has_all ((has_new w (rows bc [true, true, true]) 4).fr (by simp) (fr_new (fr_refl _) _))
  have b2 : Has ((w.alloc (.cells #[.bool true, .bool true, .bool true] 4)).alloc (.cells #[.bool true, .bool false, .bool true] 4)) ((w.alloc (.cells #[.bool true, .bool true, .bool true] 4)).alloc (.cells #[.bool true, .bool false, .bool true] 4)).heap.size (some ⟨w.heap.size + 1, 0, none⟩) (rows bc [true, false, true]) := by
    have := has_new (w.alloc (.cells #[.bool true, .bool true, .bool true] 4)) (rows bc [true, false, true]) 4
    rw [World.size_alloc] at this
    exact has_all this
  have s1 := sweep_at (cc := 3) (rc := 3) (z := 0) b1 rfl b2 rfl (by decide)
  simp only [ex_sweep, List.length_cons, List.length_nil, Nat.zero_add, Nat.reduceAdd] at s1
  have s2 := fun W => sweep_at (w := W) (C := none) (R := none) (cc := 0) (rc := 0) (z := 5) (c := []) (r := []) has_nil rfl has_nil rfl (by decide)
  simp only [ex_none, List.length_nil] at s2
  have s3 : ∀ W, Fr W W → Calls Try.prog 13 #[.slice (some ⟨W.heap.size, 0, none⟩) 2 2, .slice (some ⟨W.heap.size + 1, 0, none⟩) 2 2, .int .i64 0] ((W.alloc (.cells #[.bool true, .bool true] 4)).alloc (.cells #[.bool true, .bool false] 4)) fun e w' => ∃ O k oc, e = .returned (.slice O k oc) ∧ Hid (ResI W w' O k oc [1, 0] ∧ Fr W w') := fun W _ => by
    have a1 : Has ((W.alloc (.cells #[.bool true, .bool true] 4)).alloc (.cells #[.bool true, .bool false] 4)) ((W.alloc (.cells #[.bool true, .bool true] 4)).alloc (.cells #[.bool true, .bool false] 4)).heap.size (some ⟨W.heap.size, 0, none⟩) (rows bc [true, true]) :=
      has_all ((has_new W (rows bc [true, true]) 4).fr (by simp) (fr_new (fr_refl _) _))
    have a2 : Has ((W.alloc (.cells #[.bool true, .bool true] 4)).alloc (.cells #[.bool true, .bool false] 4)) ((W.alloc (.cells #[.bool true, .bool true] 4)).alloc (.cells #[.bool true, .bool false] 4)).heap.size (some ⟨W.heap.size + 1, 0, none⟩) (rows bc [true, false]) := by
      have := has_new (W.alloc (.cells #[.bool true, .bool true] 4)) (rows bc [true, false]) 4
      rw [World.size_alloc] at this
      exact has_all this
    have := order_at (cc := 2) (rc := 2) (z := 0) a1 rfl a2 rfl (by decide)
    simp only [ex_order] at this
    refine this.mono ?_
    rintro e w' ⟨O, k, oc, h1, h2⟩
    have f2 := fr_new (fr_new (fr_refl W) (.cells #[.bool true, .bool true] 4)) (.cells #[.bool true, .bool false] 4)
    exact ⟨O, k, oc, h1, keep ⟨⟨h2.out.1.row, h2.out.1.len, fun i hi => Nat.le_trans f2.size (h2.out.1.new i hi)⟩, fr_step f2 h2.out.2⟩⟩
  have S1 := keep s1
  have S2 := keep s2
  have S3 := keep s3
  have F1 := keep f1
  clear s1 s2 s3 b1 b2 f1
  go_enter Try.func8, Try.ntmps8
  go_wp2_with (first
    | (go_at_call 9; with_reducible refine S1.out.mono ?_; rintro e w1 ⟨L, k, lc, rfl, hz1⟩; clear S1; have e1 := hz1.out.1.len; simp at e1; subst e1; obtain ⟨g, o, rfl, hcl⟩ := hz1.out.1.cells (by decide); have HCL := keep hcl; clear hcl)
    | (go_at_call 9; with_reducible refine (S2.out w1).mono ?_; rintro e w2 ⟨L2, k2, lc2, rfl, hz2⟩; clear S2; have e2 := hz2.out.1.len; simp at e2; subst e2)
    | (go_at_call 13; with_reducible refine (S3.out w2 (fr_refl w2)).mono ?_; rintro e w3 ⟨O, k3, oc, rfl, hz3⟩; clear S3; have e3 := hz3.out.1.len; simp at e3; subst e3; obtain ⟨g3, o3, rfl, hcl3⟩ := hz3.out.1.cells (by decide); have q1 := HCL.out w3 (fr_step hz2.out.2 hz3.out.2) 0 false rfl; have q2 := HCL.out w3 (fr_step hz2.out.2 hz3.out.2) 1 false rfl; have q3 := HCL.out w3 (fr_step hz2.out.2 hz3.out.2) 2 true rfl; have p1 := hcl3 w3 (fr_refl _) 0 1 rfl; have p2 := hcl3 w3 (fr_refl _) 1 0 rfl; rw [Nat.add_zero] at q1 p1; clear hcl3)
    | fail)
  go_ret
  exact ⟨rfl, fr_step (fr_step (fr_step F1.out hz1.out.2) hz2.out.2) hz3.out.2⟩
end Go.Proofs.Ytifmldlbhcpaiaa
