/- What the laws of package sched have in common: awake. -/
import Derived.Test.YtmfnekobepdhkaaScF
import Derived.Test.YtmfnekobepdhkaaPlace
import Derived.Test.YtmfnekobepdhkaaSame
namespace Go.Proofs.Ytmfnekobepdhkaa
set_option linter.unusedVariables false
set_option linter.unusedSimpArgs false
set_option maxRecDepth 100000
open Go.RowKit
theorem fr_chg {w a b : World} {q : Nat} (f : Fr w a) (k : Chg (· = q) a b) (hq : w.heap.size ≤ q) : Fr w b := f.trans (k.below f.size fun i hi => by omega)
theorem aw1 : pickI (newT 3) 4 = 1 ∧ pickB (newT 3) = true ∧ pickT (newT 3) 4 = ⟨[0, 0, 0], [1, 0, 1], [0, 1, 0], 1⟩ := ⟨by decide, by decide, by rfl⟩
theorem aw2 : turnT ⟨[0, 0, 0], [1, 0, 1], [0, 1, 0], 1⟩ 0 1 = ⟨[1, 0, 0], [0, 0, 1], [0, 1, 0], 1⟩ ∧ turnT ⟨[1, 0, 0], [0, 0, 1], [0, 1, 0], 1⟩ 2 2 = ⟨[1, 0, 2], [0, 0, 0], [0, 1, 0], 1⟩ := ⟨by rfl, by rfl⟩
theorem aw3 : runL ⟨[1, 0, 2], [0, 0, 0], [0, 1, 0], 1⟩ = [1] ∧ endT ⟨[1, 0, 2], [0, 0, 0], [0, 1, 0], 1⟩ = false ∧ atI [0, 1, 0] 1 = 1 ∧ atI [0, 0, 0] 0 = 0 := ⟨by decide, by decide, by decide, by decide⟩
set_option maxHeartbeats 4000000 in
theorem awake13 (w : World) : Calls Try.prog 10 #[] w fun e w' => e = .returned (.bool true) ∧ Fr w w' := by
  have c0 := new_yes w 3 (by decide) (by decide)
  rw [show ((3 : Nat) : Int) = 3 from rfl] at c0
  go_enter Try.func10, Try.ntmps10
  go_wp2_with fail
  refine c0.mono ?_
  rintro e w1 ⟨g, rfl, h⟩
  have f1 := h.out.2.1
  have hq := h.out.2.2
  have P0 := keep h.out.1
  clear h c0
  go_wp2_with fail
  refine (new_no w1 0 (by decide)).mono ?_
  rintro e w' ⟨rfl, rfl⟩
  have c1 := pick_at (p := 4) P0.out (by decide) (by decide)
  obtain ⟨e1, e2, e3⟩ := aw1
  rw [e1, e2, e3] at c1
  clear e1 e2 e3
  go_wp2_with fail
  refine c1.mono ?_
  rintro e w2 ⟨rfl, h⟩
  replace f1 := fr_chg f1 h.out.2 hq
  have c2 := block_at (i := 0) h.out.1 (by decide)
  obtain ⟨a2, a3⟩ := aw2
  rw [a2] at c2
  clear c1 h a2
  go_wp2_with fail
  refine c2.mono ?_
  rintro e w3 ⟨rfl, h⟩
  replace f1 := fr_chg f1 h.out.2 hq
  have c3 := end_at (i := 2) h.out.1 (by decide)
  rw [a3] at c3
  clear c2 h a3
  go_wp2_with fail
  refine c3.mono ?_
  rintro e w4 ⟨rfl, h⟩
  replace f1 := fr_chg f1 h.out.2 hq
  have P := keep h.out.1
  have c4 := runnable_at h.out.1
  obtain ⟨e1, e2, e3, e4⟩ := aw3
  rw [e1] at c4
  clear c3 h e1
  go_wp2_with fail
  refine c4.mono ?_
  rintro e w5 ⟨A, n, c, rfl, h⟩
  obtain ⟨hn, ho, f5⟩ := h.out
  replace f1 := fr_step f1 f5
  obtain rfl : n = 1 := hn.symm
  obtain ⟨b, off, rfl, hb, hx⟩ := ho.has 0 _ rfl
  rw [Nat.add_zero] at hx
  have P5 := P.out.fr f5
  have c5 := picks_at (i := 1) P5 (by decide)
  have c6 := wait_at (i := 0) P5 (by decide)
  have c7 := worst_at P5
  have c8 := ended_at P5
  simp only at c5 c6 c7
  rw [e3] at c5
  rw [e4] at c6
  rw [e2] at c8
  clear h ho f5 hn e2 e3 e4 c4 P5 P P0
  go_wp2_with (first
    | (go_at_call 26; refine c5.mono ?_; rintro e w' ⟨rfl, rfl⟩)
    | (go_at_call 28; refine c6.mono ?_; rintro e w' ⟨rfl, rfl⟩)
    | (go_at_call 25; refine c7.mono ?_; rintro e w' ⟨rfl, rfl⟩)
    | (go_at_call 23; refine c8.mono ?_; rintro e w' ⟨rfl, f⟩)
    | fail)
  go_ret
  exact ⟨rfl, fr_step f1 f⟩
end Go.Proofs.Ytmfnekobepdhkaa
