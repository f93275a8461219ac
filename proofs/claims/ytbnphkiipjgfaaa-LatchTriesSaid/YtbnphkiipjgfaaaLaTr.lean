/- LatchTries, walked. -/
import Derived.Test.YtbnphkiipjgfaaaLaQ
namespace Go.Proofs.Ytbnphkiipjgfaaa
set_option linter.unusedVariables false
set_option linter.unusedSimpArgs false
set_option maxRecDepth 100000
open Go.RowKit
set_option maxHeartbeats 4000000 in
theorem tries_0000 (w : World) : Calls Try.prog 6 #[.bool false, .bool false, .bool false, .bool false] w fun e w' => e = .returned (.bool true) ∧ Below w.heap.size w w' := by
  go_enter Try.func6, Try.ntmps6
  go_wp2_with fail
  refine (lnew w).mono ?_
  rintro e v0 ⟨rfl, h0⟩
  have hq : newT.q.length = 0 := by decide
  have ht : tryB newT 9 false = true := by decide
  have hq2 : (tryT newT 9 false).q.length = 0 := by decide
  have hd : (dropT (tryT newT 9 false) 9).2.length = 0 := by decide
  generalize newT = t at *
  have cq := lqueue h0.out (by omega)
  have Hq := keep hq
  have Hq2 := keep hq2
  have Hd := keep hd
  clear hq hq2 hd
  go_wp2_with fail
  refine cq.mono ?_
  rintro e v8 ⟨B, k, b, rfl, g⟩
  have hk : k = 0 := by rw [← g.out.1, Hq.out]
  subst hk
  have ct := ltry (x := 9) (b := false) (h0.out.go g.out.2.2) (by omega) (by omega)
  rw [ht] at ct
  clear cq g h0 ht
  go_wp2_with fail
  refine ct.mono ?_
  rintro e v9 ⟨rfl, h9⟩
  clear ct
  have cq := lqueue h9.out (by omega)
  go_wp2_with fail
  refine cq.mono ?_
  rintro e v10 ⟨B2, k2, b2, rfl, g⟩
  have hk : k2 = 0 := by rw [← g.out.1, Hq2.out]
  subst hk
  have cd := ldrop (x := 9) (h9.out.go g.out.2.2) (by omega)
  clear cq g h9
  go_wp2_with fail
  refine cd.mono ?_
  rintro e v11 ⟨B3, k3, b3, rfl, g⟩
  have hk : k3 = 0 := by rw [← g.out.2.1.1, Hd.out]
  subst hk
  have F := keep g.out.1.fr
  clear cd g
  go_wp2_with fail
  refine (awake14 v11).mono ?_
  rintro e v12 ⟨rfl, f⟩
  go_wp2_with fail
  go_ret
  exact ⟨rfl, fr_step F.out f⟩
set_option maxHeartbeats 4000000 in
theorem tries_0001 (w : World) : Calls Try.prog 6 #[.bool false, .bool false, .bool false, .bool true] w fun e w' => e = .returned (.bool true) ∧ Below w.heap.size w w' := by
  go_enter Try.func6, Try.ntmps6
  go_wp2_with fail
  refine (lnew w).mono ?_
  rintro e v0 ⟨rfl, h0⟩
  have hq : newT.q.length = 0 := by decide
  have ht : tryB newT 9 true = true := by decide
  have hq2 : (tryT newT 9 true).q.length = 0 := by decide
  have hd : (dropT (tryT newT 9 true) 9).2.length = 0 := by decide
  generalize newT = t at *
  have cq := lqueue h0.out (by omega)
  have Hq := keep hq
  have Hq2 := keep hq2
  have Hd := keep hd
  clear hq hq2 hd
  go_wp2_with fail
  refine cq.mono ?_
  rintro e v8 ⟨B, k, b, rfl, g⟩
  have hk : k = 0 := by rw [← g.out.1, Hq.out]
  subst hk
  have ct := ltry (x := 9) (b := true) (h0.out.go g.out.2.2) (by omega) (by omega)
  rw [ht] at ct
  clear cq g h0 ht
  go_wp2_with fail
  refine ct.mono ?_
  rintro e v9 ⟨rfl, h9⟩
  clear ct
  have cq := lqueue h9.out (by omega)
  go_wp2_with fail
  refine cq.mono ?_
  rintro e v10 ⟨B2, k2, b2, rfl, g⟩
  have hk : k2 = 0 := by rw [← g.out.1, Hq2.out]
  subst hk
  have cd := ldrop (x := 9) (h9.out.go g.out.2.2) (by omega)
  clear cq g h9
  go_wp2_with fail
  refine cd.mono ?_
  rintro e v11 ⟨B3, k3, b3, rfl, g⟩
  have hk : k3 = 0 := by rw [← g.out.2.1.1, Hd.out]
  subst hk
  have F := keep g.out.1.fr
  clear cd g
  go_wp2_with fail
  refine (awake14 v11).mono ?_
  rintro e v12 ⟨rfl, f⟩
  go_wp2_with fail
  go_ret
  exact ⟨rfl, fr_step F.out f⟩
set_option maxHeartbeats 4000000 in
theorem tries_0010 (w : World) : Calls Try.prog 6 #[.bool false, .bool false, .bool true, .bool false] w fun e w' => e = .returned (.bool true) ∧ Below w.heap.size w w' := by
  go_enter Try.func6, Try.ntmps6
  go_wp2_with fail
  refine (lnew w).mono ?_
  rintro e v0 ⟨rfl, h0⟩
  have c0 := ltake (x := 3) (b := true) h0.out (by omega) (by omega)
  clear h0
  go_wp2_with fail
  refine c0.mono ?_
  rintro e v1 ⟨rfl, h1⟩
  clear c0
  have hq : (takeT newT 3 true).q.length = 0 := by decide
  have ht : tryB (takeT newT 3 true) 9 false = false := by decide
  have hq2 : (tryT (takeT newT 3 true) 9 false).q.length = 0 := by decide
  have hd : (dropT (tryT (takeT newT 3 true) 9 false) 9).2.length = 0 := by decide
  generalize (takeT newT 3 true) = t at *
  have cq := lqueue h1.out (by omega)
  have Hq := keep hq
  have Hq2 := keep hq2
  have Hd := keep hd
  clear hq hq2 hd
  go_wp2_with fail
  refine cq.mono ?_
  rintro e v8 ⟨B, k, b, rfl, g⟩
  have hk : k = 0 := by rw [← g.out.1, Hq.out]
  subst hk
  have ct := ltry (x := 9) (b := false) (h1.out.go g.out.2.2) (by omega) (by omega)
  rw [ht] at ct
  clear cq g h1 ht
  go_wp2_with fail
  refine ct.mono ?_
  rintro e v9 ⟨rfl, h9⟩
  clear ct
  have cq := lqueue h9.out (by omega)
  go_wp2_with fail
  refine cq.mono ?_
  rintro e v10 ⟨B2, k2, b2, rfl, g⟩
  have hk : k2 = 0 := by rw [← g.out.1, Hq2.out]
  subst hk
  have cd := ldrop (x := 9) (h9.out.go g.out.2.2) (by omega)
  clear cq g h9
  go_wp2_with fail
  refine cd.mono ?_
  rintro e v11 ⟨B3, k3, b3, rfl, g⟩
  have hk : k3 = 0 := by rw [← g.out.2.1.1, Hd.out]
  subst hk
  have F := keep g.out.1.fr
  clear cd g
  go_wp2_with fail
  refine (awake14 v11).mono ?_
  rintro e v12 ⟨rfl, f⟩
  go_wp2_with fail
  go_ret
  exact ⟨rfl, fr_step F.out f⟩
set_option maxHeartbeats 4000000 in
theorem tries_0011 (w : World) : Calls Try.prog 6 #[.bool false, .bool false, .bool true, .bool true] w fun e w' => e = .returned (.bool true) ∧ Below w.heap.size w w' := by
  go_enter Try.func6, Try.ntmps6
  go_wp2_with fail
  refine (lnew w).mono ?_
  rintro e v0 ⟨rfl, h0⟩
  have c0 := ltake (x := 3) (b := true) h0.out (by omega) (by omega)
  clear h0
  go_wp2_with fail
  refine c0.mono ?_
  rintro e v1 ⟨rfl, h1⟩
  clear c0
  have hq : (takeT newT 3 true).q.length = 0 := by decide
  have ht : tryB (takeT newT 3 true) 9 true = false := by decide
  have hq2 : (tryT (takeT newT 3 true) 9 true).q.length = 0 := by decide
  have hd : (dropT (tryT (takeT newT 3 true) 9 true) 9).2.length = 0 := by decide
  generalize (takeT newT 3 true) = t at *
  have cq := lqueue h1.out (by omega)
  have Hq := keep hq
  have Hq2 := keep hq2
  have Hd := keep hd
  clear hq hq2 hd
  go_wp2_with fail
  refine cq.mono ?_
  rintro e v8 ⟨B, k, b, rfl, g⟩
  have hk : k = 0 := by rw [← g.out.1, Hq.out]
  subst hk
  have ct := ltry (x := 9) (b := true) (h1.out.go g.out.2.2) (by omega) (by omega)
  rw [ht] at ct
  clear cq g h1 ht
  go_wp2_with fail
  refine ct.mono ?_
  rintro e v9 ⟨rfl, h9⟩
  clear ct
  have cq := lqueue h9.out (by omega)
  go_wp2_with fail
  refine cq.mono ?_
  rintro e v10 ⟨B2, k2, b2, rfl, g⟩
  have hk : k2 = 0 := by rw [← g.out.1, Hq2.out]
  subst hk
  have cd := ldrop (x := 9) (h9.out.go g.out.2.2) (by omega)
  clear cq g h9
  go_wp2_with fail
  refine cd.mono ?_
  rintro e v11 ⟨B3, k3, b3, rfl, g⟩
  have hk : k3 = 0 := by rw [← g.out.2.1.1, Hd.out]
  subst hk
  have F := keep g.out.1.fr
  clear cd g
  go_wp2_with fail
  refine (awake14 v11).mono ?_
  rintro e v12 ⟨rfl, f⟩
  go_wp2_with fail
  go_ret
  exact ⟨rfl, fr_step F.out f⟩
set_option maxHeartbeats 4000000 in
theorem tries_0100 (w : World) : Calls Try.prog 6 #[.bool false, .bool true, .bool false, .bool false] w fun e w' => e = .returned (.bool true) ∧ Below w.heap.size w w' := by
  go_enter Try.func6, Try.ntmps6
  go_wp2_with fail
  refine (lnew w).mono ?_
  rintro e v0 ⟨rfl, h0⟩
  have c0 := ltake (x := 2) (b := true) h0.out (by omega) (by omega)
  clear h0
  go_wp2_with fail
  refine c0.mono ?_
  rintro e v1 ⟨rfl, h1⟩
  clear c0
  have hq : (takeT newT 2 true).q.length = 0 := by decide
  have ht : tryB (takeT newT 2 true) 9 false = false := by decide
  have hq2 : (tryT (takeT newT 2 true) 9 false).q.length = 0 := by decide
  have hd : (dropT (tryT (takeT newT 2 true) 9 false) 9).2.length = 0 := by decide
  generalize (takeT newT 2 true) = t at *
  have cq := lqueue h1.out (by omega)
  have Hq := keep hq
  have Hq2 := keep hq2
  have Hd := keep hd
  clear hq hq2 hd
  go_wp2_with fail
  refine cq.mono ?_
  rintro e v8 ⟨B, k, b, rfl, g⟩
  have hk : k = 0 := by rw [← g.out.1, Hq.out]
  subst hk
  have ct := ltry (x := 9) (b := false) (h1.out.go g.out.2.2) (by omega) (by omega)
  rw [ht] at ct
  clear cq g h1 ht
  go_wp2_with fail
  refine ct.mono ?_
  rintro e v9 ⟨rfl, h9⟩
  clear ct
  have cq := lqueue h9.out (by omega)
  go_wp2_with fail
  refine cq.mono ?_
  rintro e v10 ⟨B2, k2, b2, rfl, g⟩
  have hk : k2 = 0 := by rw [← g.out.1, Hq2.out]
  subst hk
  have cd := ldrop (x := 9) (h9.out.go g.out.2.2) (by omega)
  clear cq g h9
  go_wp2_with fail
  refine cd.mono ?_
  rintro e v11 ⟨B3, k3, b3, rfl, g⟩
  have hk : k3 = 0 := by rw [← g.out.2.1.1, Hd.out]
  subst hk
  have F := keep g.out.1.fr
  clear cd g
  go_wp2_with fail
  refine (awake14 v11).mono ?_
  rintro e v12 ⟨rfl, f⟩
  go_wp2_with fail
  go_ret
  exact ⟨rfl, fr_step F.out f⟩
set_option maxHeartbeats 4000000 in
theorem tries_0101 (w : World) : Calls Try.prog 6 #[.bool false, .bool true, .bool false, .bool true] w fun e w' => e = .returned (.bool true) ∧ Below w.heap.size w w' := by
  go_enter Try.func6, Try.ntmps6
  go_wp2_with fail
  refine (lnew w).mono ?_
  rintro e v0 ⟨rfl, h0⟩
  have c0 := ltake (x := 2) (b := true) h0.out (by omega) (by omega)
  clear h0
  go_wp2_with fail
  refine c0.mono ?_
  rintro e v1 ⟨rfl, h1⟩
  clear c0
  have hq : (takeT newT 2 true).q.length = 0 := by decide
  have ht : tryB (takeT newT 2 true) 9 true = false := by decide
  have hq2 : (tryT (takeT newT 2 true) 9 true).q.length = 0 := by decide
  have hd : (dropT (tryT (takeT newT 2 true) 9 true) 9).2.length = 0 := by decide
  generalize (takeT newT 2 true) = t at *
  have cq := lqueue h1.out (by omega)
  have Hq := keep hq
  have Hq2 := keep hq2
  have Hd := keep hd
  clear hq hq2 hd
  go_wp2_with fail
  refine cq.mono ?_
  rintro e v8 ⟨B, k, b, rfl, g⟩
  have hk : k = 0 := by rw [← g.out.1, Hq.out]
  subst hk
  have ct := ltry (x := 9) (b := true) (h1.out.go g.out.2.2) (by omega) (by omega)
  rw [ht] at ct
  clear cq g h1 ht
  go_wp2_with fail
  refine ct.mono ?_
  rintro e v9 ⟨rfl, h9⟩
  clear ct
  have cq := lqueue h9.out (by omega)
  go_wp2_with fail
  refine cq.mono ?_
  rintro e v10 ⟨B2, k2, b2, rfl, g⟩
  have hk : k2 = 0 := by rw [← g.out.1, Hq2.out]
  subst hk
  have cd := ldrop (x := 9) (h9.out.go g.out.2.2) (by omega)
  clear cq g h9
  go_wp2_with fail
  refine cd.mono ?_
  rintro e v11 ⟨B3, k3, b3, rfl, g⟩
  have hk : k3 = 0 := by rw [← g.out.2.1.1, Hd.out]
  subst hk
  have F := keep g.out.1.fr
  clear cd g
  go_wp2_with fail
  refine (awake14 v11).mono ?_
  rintro e v12 ⟨rfl, f⟩
  go_wp2_with fail
  go_ret
  exact ⟨rfl, fr_step F.out f⟩
set_option maxHeartbeats 4000000 in
theorem tries_0110 (w : World) : Calls Try.prog 6 #[.bool false, .bool true, .bool true, .bool false] w fun e w' => e = .returned (.bool true) ∧ Below w.heap.size w w' := by
  go_enter Try.func6, Try.ntmps6
  go_wp2_with fail
  refine (lnew w).mono ?_
  rintro e v0 ⟨rfl, h0⟩
  have c0 := ltake (x := 2) (b := true) h0.out (by omega) (by omega)
  clear h0
  go_wp2_with fail
  refine c0.mono ?_
  rintro e v1 ⟨rfl, h1⟩
  clear c0
  have c1 := ltake (x := 3) (b := true) h1.out (by omega) (by omega)
  clear h1
  go_wp2_with fail
  refine c1.mono ?_
  rintro e v2 ⟨rfl, h2⟩
  clear c1
  have hq : (takeT (takeT newT 2 true) 3 true).q.length = 1 := by decide
  have ht : tryB (takeT (takeT newT 2 true) 3 true) 9 false = false := by decide
  have hq2 : (tryT (takeT (takeT newT 2 true) 3 true) 9 false).q.length = 1 := by decide
  have hd : (dropT (tryT (takeT (takeT newT 2 true) 3 true) 9 false) 9).2.length = 0 := by decide
  generalize (takeT (takeT newT 2 true) 3 true) = t at *
  have cq := lqueue h2.out (by omega)
  have Hq := keep hq
  have Hq2 := keep hq2
  have Hd := keep hd
  clear hq hq2 hd
  go_wp2_with fail
  refine cq.mono ?_
  rintro e v8 ⟨B, k, b, rfl, g⟩
  have hk : k = 1 := by rw [← g.out.1, Hq.out]
  subst hk
  have ct := ltry (x := 9) (b := false) (h2.out.go g.out.2.2) (by omega) (by omega)
  rw [ht] at ct
  clear cq g h2 ht
  go_wp2_with fail
  refine ct.mono ?_
  rintro e v9 ⟨rfl, h9⟩
  clear ct
  have cq := lqueue h9.out (by omega)
  go_wp2_with fail
  refine cq.mono ?_
  rintro e v10 ⟨B2, k2, b2, rfl, g⟩
  have hk : k2 = 1 := by rw [← g.out.1, Hq2.out]
  subst hk
  have cd := ldrop (x := 9) (h9.out.go g.out.2.2) (by omega)
  clear cq g h9
  go_wp2_with fail
  refine cd.mono ?_
  rintro e v11 ⟨B3, k3, b3, rfl, g⟩
  have hk : k3 = 0 := by rw [← g.out.2.1.1, Hd.out]
  subst hk
  have F := keep g.out.1.fr
  clear cd g
  go_wp2_with fail
  refine (awake14 v11).mono ?_
  rintro e v12 ⟨rfl, f⟩
  go_wp2_with fail
  go_ret
  exact ⟨rfl, fr_step F.out f⟩
set_option maxHeartbeats 4000000 in
theorem tries_0111 (w : World) : Calls Try.prog 6 #[.bool false, .bool true, .bool true, .bool true] w fun e w' => e = .returned (.bool true) ∧ Below w.heap.size w w' := by
  go_enter Try.func6, Try.ntmps6
  go_wp2_with fail
  refine (lnew w).mono ?_
  rintro e v0 ⟨rfl, h0⟩
  have c0 := ltake (x := 2) (b := true) h0.out (by omega) (by omega)
  clear h0
  go_wp2_with fail
  refine c0.mono ?_
  rintro e v1 ⟨rfl, h1⟩
  clear c0
  have c1 := ltake (x := 3) (b := true) h1.out (by omega) (by omega)
  clear h1
  go_wp2_with fail
  refine c1.mono ?_
  rintro e v2 ⟨rfl, h2⟩
  clear c1
  have hq : (takeT (takeT newT 2 true) 3 true).q.length = 1 := by decide
  have ht : tryB (takeT (takeT newT 2 true) 3 true) 9 true = false := by decide
  have hq2 : (tryT (takeT (takeT newT 2 true) 3 true) 9 true).q.length = 1 := by decide
  have hd : (dropT (tryT (takeT (takeT newT 2 true) 3 true) 9 true) 9).2.length = 0 := by decide
  generalize (takeT (takeT newT 2 true) 3 true) = t at *
  have cq := lqueue h2.out (by omega)
  have Hq := keep hq
  have Hq2 := keep hq2
  have Hd := keep hd
  clear hq hq2 hd
  go_wp2_with fail
  refine cq.mono ?_
  rintro e v8 ⟨B, k, b, rfl, g⟩
  have hk : k = 1 := by rw [← g.out.1, Hq.out]
  subst hk
  have ct := ltry (x := 9) (b := true) (h2.out.go g.out.2.2) (by omega) (by omega)
  rw [ht] at ct
  clear cq g h2 ht
  go_wp2_with fail
  refine ct.mono ?_
  rintro e v9 ⟨rfl, h9⟩
  clear ct
  have cq := lqueue h9.out (by omega)
  go_wp2_with fail
  refine cq.mono ?_
  rintro e v10 ⟨B2, k2, b2, rfl, g⟩
  have hk : k2 = 1 := by rw [← g.out.1, Hq2.out]
  subst hk
  have cd := ldrop (x := 9) (h9.out.go g.out.2.2) (by omega)
  clear cq g h9
  go_wp2_with fail
  refine cd.mono ?_
  rintro e v11 ⟨B3, k3, b3, rfl, g⟩
  have hk : k3 = 0 := by rw [← g.out.2.1.1, Hd.out]
  subst hk
  have F := keep g.out.1.fr
  clear cd g
  go_wp2_with fail
  refine (awake14 v11).mono ?_
  rintro e v12 ⟨rfl, f⟩
  go_wp2_with fail
  go_ret
  exact ⟨rfl, fr_step F.out f⟩
set_option maxHeartbeats 4000000 in
theorem tries_1000 (w : World) : Calls Try.prog 6 #[.bool true, .bool false, .bool false, .bool false] w fun e w' => e = .returned (.bool true) ∧ Below w.heap.size w w' := by
  go_enter Try.func6, Try.ntmps6
  go_wp2_with fail
  refine (lnew w).mono ?_
  rintro e v0 ⟨rfl, h0⟩
  have c0 := ltake (x := 1) (b := false) h0.out (by omega) (by omega)
  clear h0
  go_wp2_with fail
  refine c0.mono ?_
  rintro e v1 ⟨rfl, h1⟩
  clear c0
  have hq : (takeT newT 1 false).q.length = 0 := by decide
  have ht : tryB (takeT newT 1 false) 9 false = true := by decide
  have hq2 : (tryT (takeT newT 1 false) 9 false).q.length = 0 := by decide
  have hd : (dropT (tryT (takeT newT 1 false) 9 false) 9).2.length = 0 := by decide
  generalize (takeT newT 1 false) = t at *
  have cq := lqueue h1.out (by omega)
  have Hq := keep hq
  have Hq2 := keep hq2
  have Hd := keep hd
  clear hq hq2 hd
  go_wp2_with fail
  refine cq.mono ?_
  rintro e v8 ⟨B, k, b, rfl, g⟩
  have hk : k = 0 := by rw [← g.out.1, Hq.out]
  subst hk
  have ct := ltry (x := 9) (b := false) (h1.out.go g.out.2.2) (by omega) (by omega)
  rw [ht] at ct
  clear cq g h1 ht
  go_wp2_with fail
  refine ct.mono ?_
  rintro e v9 ⟨rfl, h9⟩
  clear ct
  have cq := lqueue h9.out (by omega)
  go_wp2_with fail
  refine cq.mono ?_
  rintro e v10 ⟨B2, k2, b2, rfl, g⟩
  have hk : k2 = 0 := by rw [← g.out.1, Hq2.out]
  subst hk
  have cd := ldrop (x := 9) (h9.out.go g.out.2.2) (by omega)
  clear cq g h9
  go_wp2_with fail
  refine cd.mono ?_
  rintro e v11 ⟨B3, k3, b3, rfl, g⟩
  have hk : k3 = 0 := by rw [← g.out.2.1.1, Hd.out]
  subst hk
  have F := keep g.out.1.fr
  clear cd g
  go_wp2_with fail
  refine (awake14 v11).mono ?_
  rintro e v12 ⟨rfl, f⟩
  go_wp2_with fail
  go_ret
  exact ⟨rfl, fr_step F.out f⟩
set_option maxHeartbeats 4000000 in
theorem tries_1001 (w : World) : Calls Try.prog 6 #[.bool true, .bool false, .bool false, .bool true] w fun e w' => e = .returned (.bool true) ∧ Below w.heap.size w w' := by
  go_enter Try.func6, Try.ntmps6
  go_wp2_with fail
  refine (lnew w).mono ?_
  rintro e v0 ⟨rfl, h0⟩
  have c0 := ltake (x := 1) (b := false) h0.out (by omega) (by omega)
  clear h0
  go_wp2_with fail
  refine c0.mono ?_
  rintro e v1 ⟨rfl, h1⟩
  clear c0
  have hq : (takeT newT 1 false).q.length = 0 := by decide
  have ht : tryB (takeT newT 1 false) 9 true = false := by decide
  have hq2 : (tryT (takeT newT 1 false) 9 true).q.length = 0 := by decide
  have hd : (dropT (tryT (takeT newT 1 false) 9 true) 9).2.length = 0 := by decide
  generalize (takeT newT 1 false) = t at *
  have cq := lqueue h1.out (by omega)
  have Hq := keep hq
  have Hq2 := keep hq2
  have Hd := keep hd
  clear hq hq2 hd
  go_wp2_with fail
  refine cq.mono ?_
  rintro e v8 ⟨B, k, b, rfl, g⟩
  have hk : k = 0 := by rw [← g.out.1, Hq.out]
  subst hk
  have ct := ltry (x := 9) (b := true) (h1.out.go g.out.2.2) (by omega) (by omega)
  rw [ht] at ct
  clear cq g h1 ht
  go_wp2_with fail
  refine ct.mono ?_
  rintro e v9 ⟨rfl, h9⟩
  clear ct
  have cq := lqueue h9.out (by omega)
  go_wp2_with fail
  refine cq.mono ?_
  rintro e v10 ⟨B2, k2, b2, rfl, g⟩
  have hk : k2 = 0 := by rw [← g.out.1, Hq2.out]
  subst hk
  have cd := ldrop (x := 9) (h9.out.go g.out.2.2) (by omega)
  clear cq g h9
  go_wp2_with fail
  refine cd.mono ?_
  rintro e v11 ⟨B3, k3, b3, rfl, g⟩
  have hk : k3 = 0 := by rw [← g.out.2.1.1, Hd.out]
  subst hk
  have F := keep g.out.1.fr
  clear cd g
  go_wp2_with fail
  refine (awake14 v11).mono ?_
  rintro e v12 ⟨rfl, f⟩
  go_wp2_with fail
  go_ret
  exact ⟨rfl, fr_step F.out f⟩
set_option maxHeartbeats 4000000 in
theorem tries_1010 (w : World) : Calls Try.prog 6 #[.bool true, .bool false, .bool true, .bool false] w fun e w' => e = .returned (.bool true) ∧ Below w.heap.size w w' := by
  go_enter Try.func6, Try.ntmps6
  go_wp2_with fail
  refine (lnew w).mono ?_
  rintro e v0 ⟨rfl, h0⟩
  have c0 := ltake (x := 1) (b := false) h0.out (by omega) (by omega)
  clear h0
  go_wp2_with fail
  refine c0.mono ?_
  rintro e v1 ⟨rfl, h1⟩
  clear c0
  have c1 := ltake (x := 3) (b := true) h1.out (by omega) (by omega)
  clear h1
  go_wp2_with fail
  refine c1.mono ?_
  rintro e v2 ⟨rfl, h2⟩
  clear c1
  have hq : (takeT (takeT newT 1 false) 3 true).q.length = 1 := by decide
  have ht : tryB (takeT (takeT newT 1 false) 3 true) 9 false = false := by decide
  have hq2 : (tryT (takeT (takeT newT 1 false) 3 true) 9 false).q.length = 1 := by decide
  have hd : (dropT (tryT (takeT (takeT newT 1 false) 3 true) 9 false) 9).2.length = 0 := by decide
  generalize (takeT (takeT newT 1 false) 3 true) = t at *
  have cq := lqueue h2.out (by omega)
  have Hq := keep hq
  have Hq2 := keep hq2
  have Hd := keep hd
  clear hq hq2 hd
  go_wp2_with fail
  refine cq.mono ?_
  rintro e v8 ⟨B, k, b, rfl, g⟩
  have hk : k = 1 := by rw [← g.out.1, Hq.out]
  subst hk
  have ct := ltry (x := 9) (b := false) (h2.out.go g.out.2.2) (by omega) (by omega)
  rw [ht] at ct
  clear cq g h2 ht
  go_wp2_with fail
  refine ct.mono ?_
  rintro e v9 ⟨rfl, h9⟩
  clear ct
  have cq := lqueue h9.out (by omega)
  go_wp2_with fail
  refine cq.mono ?_
  rintro e v10 ⟨B2, k2, b2, rfl, g⟩
  have hk : k2 = 1 := by rw [← g.out.1, Hq2.out]
  subst hk
  have cd := ldrop (x := 9) (h9.out.go g.out.2.2) (by omega)
  clear cq g h9
  go_wp2_with fail
  refine cd.mono ?_
  rintro e v11 ⟨B3, k3, b3, rfl, g⟩
  have hk : k3 = 0 := by rw [← g.out.2.1.1, Hd.out]
  subst hk
  have F := keep g.out.1.fr
  clear cd g
  go_wp2_with fail
  refine (awake14 v11).mono ?_
  rintro e v12 ⟨rfl, f⟩
  go_wp2_with fail
  go_ret
  exact ⟨rfl, fr_step F.out f⟩
set_option maxHeartbeats 4000000 in
theorem tries_1011 (w : World) : Calls Try.prog 6 #[.bool true, .bool false, .bool true, .bool true] w fun e w' => e = .returned (.bool true) ∧ Below w.heap.size w w' := by
  go_enter Try.func6, Try.ntmps6
  go_wp2_with fail
  refine (lnew w).mono ?_
  rintro e v0 ⟨rfl, h0⟩
  have c0 := ltake (x := 1) (b := false) h0.out (by omega) (by omega)
  clear h0
  go_wp2_with fail
  refine c0.mono ?_
  rintro e v1 ⟨rfl, h1⟩
  clear c0
  have c1 := ltake (x := 3) (b := true) h1.out (by omega) (by omega)
  clear h1
  go_wp2_with fail
  refine c1.mono ?_
  rintro e v2 ⟨rfl, h2⟩
  clear c1
  have hq : (takeT (takeT newT 1 false) 3 true).q.length = 1 := by decide
  have ht : tryB (takeT (takeT newT 1 false) 3 true) 9 true = false := by decide
  have hq2 : (tryT (takeT (takeT newT 1 false) 3 true) 9 true).q.length = 1 := by decide
  have hd : (dropT (tryT (takeT (takeT newT 1 false) 3 true) 9 true) 9).2.length = 0 := by decide
  generalize (takeT (takeT newT 1 false) 3 true) = t at *
  have cq := lqueue h2.out (by omega)
  have Hq := keep hq
  have Hq2 := keep hq2
  have Hd := keep hd
  clear hq hq2 hd
  go_wp2_with fail
  refine cq.mono ?_
  rintro e v8 ⟨B, k, b, rfl, g⟩
  have hk : k = 1 := by rw [← g.out.1, Hq.out]
  subst hk
  have ct := ltry (x := 9) (b := true) (h2.out.go g.out.2.2) (by omega) (by omega)
  rw [ht] at ct
  clear cq g h2 ht
  go_wp2_with fail
  refine ct.mono ?_
  rintro e v9 ⟨rfl, h9⟩
  clear ct
  have cq := lqueue h9.out (by omega)
  go_wp2_with fail
  refine cq.mono ?_
  rintro e v10 ⟨B2, k2, b2, rfl, g⟩
  have hk : k2 = 1 := by rw [← g.out.1, Hq2.out]
  subst hk
  have cd := ldrop (x := 9) (h9.out.go g.out.2.2) (by omega)
  clear cq g h9
  go_wp2_with fail
  refine cd.mono ?_
  rintro e v11 ⟨B3, k3, b3, rfl, g⟩
  have hk : k3 = 0 := by rw [← g.out.2.1.1, Hd.out]
  subst hk
  have F := keep g.out.1.fr
  clear cd g
  go_wp2_with fail
  refine (awake14 v11).mono ?_
  rintro e v12 ⟨rfl, f⟩
  go_wp2_with fail
  go_ret
  exact ⟨rfl, fr_step F.out f⟩
set_option maxHeartbeats 4000000 in
theorem tries_1100 (w : World) : Calls Try.prog 6 #[.bool true, .bool true, .bool false, .bool false] w fun e w' => e = .returned (.bool true) ∧ Below w.heap.size w w' := by
  go_enter Try.func6, Try.ntmps6
  go_wp2_with fail
  refine (lnew w).mono ?_
  rintro e v0 ⟨rfl, h0⟩
  have c0 := ltake (x := 1) (b := false) h0.out (by omega) (by omega)
  clear h0
  go_wp2_with fail
  refine c0.mono ?_
  rintro e v1 ⟨rfl, h1⟩
  clear c0
  have c1 := ltake (x := 2) (b := true) h1.out (by omega) (by omega)
  clear h1
  go_wp2_with fail
  refine c1.mono ?_
  rintro e v2 ⟨rfl, h2⟩
  clear c1
  have hq : (takeT (takeT newT 1 false) 2 true).q.length = 1 := by decide
  have ht : tryB (takeT (takeT newT 1 false) 2 true) 9 false = false := by decide
  have hq2 : (tryT (takeT (takeT newT 1 false) 2 true) 9 false).q.length = 1 := by decide
  have hd : (dropT (tryT (takeT (takeT newT 1 false) 2 true) 9 false) 9).2.length = 0 := by decide
  generalize (takeT (takeT newT 1 false) 2 true) = t at *
  have cq := lqueue h2.out (by omega)
  have Hq := keep hq
  have Hq2 := keep hq2
  have Hd := keep hd
  clear hq hq2 hd
  go_wp2_with fail
  refine cq.mono ?_
  rintro e v8 ⟨B, k, b, rfl, g⟩
  have hk : k = 1 := by rw [← g.out.1, Hq.out]
  subst hk
  have ct := ltry (x := 9) (b := false) (h2.out.go g.out.2.2) (by omega) (by omega)
  rw [ht] at ct
  clear cq g h2 ht
  go_wp2_with fail
  refine ct.mono ?_
  rintro e v9 ⟨rfl, h9⟩
  clear ct
  have cq := lqueue h9.out (by omega)
  go_wp2_with fail
  refine cq.mono ?_
  rintro e v10 ⟨B2, k2, b2, rfl, g⟩
  have hk : k2 = 1 := by rw [← g.out.1, Hq2.out]
  subst hk
  have cd := ldrop (x := 9) (h9.out.go g.out.2.2) (by omega)
  clear cq g h9
  go_wp2_with fail
  refine cd.mono ?_
  rintro e v11 ⟨B3, k3, b3, rfl, g⟩
  have hk : k3 = 0 := by rw [← g.out.2.1.1, Hd.out]
  subst hk
  have F := keep g.out.1.fr
  clear cd g
  go_wp2_with fail
  refine (awake14 v11).mono ?_
  rintro e v12 ⟨rfl, f⟩
  go_wp2_with fail
  go_ret
  exact ⟨rfl, fr_step F.out f⟩
set_option maxHeartbeats 4000000 in
theorem tries_1101 (w : World) : Calls Try.prog 6 #[.bool true, .bool true, .bool false, .bool true] w fun e w' => e = .returned (.bool true) ∧ Below w.heap.size w w' := by
  go_enter Try.func6, Try.ntmps6
  go_wp2_with fail
  refine (lnew w).mono ?_
  rintro e v0 ⟨rfl, h0⟩
  have c0 := ltake (x := 1) (b := false) h0.out (by omega) (by omega)
  clear h0
  go_wp2_with fail
  refine c0.mono ?_
  rintro e v1 ⟨rfl, h1⟩
  clear c0
  have c1 := ltake (x := 2) (b := true) h1.out (by omega) (by omega)
  clear h1
  go_wp2_with fail
  refine c1.mono ?_
  rintro e v2 ⟨rfl, h2⟩
  clear c1
  have hq : (takeT (takeT newT 1 false) 2 true).q.length = 1 := by decide
  have ht : tryB (takeT (takeT newT 1 false) 2 true) 9 true = false := by decide
  have hq2 : (tryT (takeT (takeT newT 1 false) 2 true) 9 true).q.length = 1 := by decide
  have hd : (dropT (tryT (takeT (takeT newT 1 false) 2 true) 9 true) 9).2.length = 0 := by decide
  generalize (takeT (takeT newT 1 false) 2 true) = t at *
  have cq := lqueue h2.out (by omega)
  have Hq := keep hq
  have Hq2 := keep hq2
  have Hd := keep hd
  clear hq hq2 hd
  go_wp2_with fail
  refine cq.mono ?_
  rintro e v8 ⟨B, k, b, rfl, g⟩
  have hk : k = 1 := by rw [← g.out.1, Hq.out]
  subst hk
  have ct := ltry (x := 9) (b := true) (h2.out.go g.out.2.2) (by omega) (by omega)
  rw [ht] at ct
  clear cq g h2 ht
  go_wp2_with fail
  refine ct.mono ?_
  rintro e v9 ⟨rfl, h9⟩
  clear ct
  have cq := lqueue h9.out (by omega)
  go_wp2_with fail
  refine cq.mono ?_
  rintro e v10 ⟨B2, k2, b2, rfl, g⟩
  have hk : k2 = 1 := by rw [← g.out.1, Hq2.out]
  subst hk
  have cd := ldrop (x := 9) (h9.out.go g.out.2.2) (by omega)
  clear cq g h9
  go_wp2_with fail
  refine cd.mono ?_
  rintro e v11 ⟨B3, k3, b3, rfl, g⟩
  have hk : k3 = 0 := by rw [← g.out.2.1.1, Hd.out]
  subst hk
  have F := keep g.out.1.fr
  clear cd g
  go_wp2_with fail
  refine (awake14 v11).mono ?_
  rintro e v12 ⟨rfl, f⟩
  go_wp2_with fail
  go_ret
  exact ⟨rfl, fr_step F.out f⟩
set_option maxHeartbeats 4000000 in
theorem tries_1110 (w : World) : Calls Try.prog 6 #[.bool true, .bool true, .bool true, .bool false] w fun e w' => e = .returned (.bool true) ∧ Below w.heap.size w w' := by
  go_enter Try.func6, Try.ntmps6
  go_wp2_with fail
  refine (lnew w).mono ?_
  rintro e v0 ⟨rfl, h0⟩
  have c0 := ltake (x := 1) (b := false) h0.out (by omega) (by omega)
  clear h0
  go_wp2_with fail
  refine c0.mono ?_
  rintro e v1 ⟨rfl, h1⟩
  clear c0
  have c1 := ltake (x := 2) (b := true) h1.out (by omega) (by omega)
  clear h1
  go_wp2_with fail
  refine c1.mono ?_
  rintro e v2 ⟨rfl, h2⟩
  clear c1
  have c2 := ltake (x := 3) (b := true) h2.out (by omega) (by omega)
  clear h2
  go_wp2_with fail
  refine c2.mono ?_
  rintro e v3 ⟨rfl, h3⟩
  clear c2
  have hq : (takeT (takeT (takeT newT 1 false) 2 true) 3 true).q.length = 2 := by decide
  have ht : tryB (takeT (takeT (takeT newT 1 false) 2 true) 3 true) 9 false = false := by decide
  have hq2 : (tryT (takeT (takeT (takeT newT 1 false) 2 true) 3 true) 9 false).q.length = 2 := by decide
  have hd : (dropT (tryT (takeT (takeT (takeT newT 1 false) 2 true) 3 true) 9 false) 9).2.length = 0 := by decide
  generalize (takeT (takeT (takeT newT 1 false) 2 true) 3 true) = t at *
  have cq := lqueue h3.out (by omega)
  have Hq := keep hq
  have Hq2 := keep hq2
  have Hd := keep hd
  clear hq hq2 hd
  go_wp2_with fail
  refine cq.mono ?_
  rintro e v8 ⟨B, k, b, rfl, g⟩
  have hk : k = 2 := by rw [← g.out.1, Hq.out]
  subst hk
  have ct := ltry (x := 9) (b := false) (h3.out.go g.out.2.2) (by omega) (by omega)
  rw [ht] at ct
  clear cq g h3 ht
  go_wp2_with fail
  refine ct.mono ?_
  rintro e v9 ⟨rfl, h9⟩
  clear ct
  have cq := lqueue h9.out (by omega)
  go_wp2_with fail
  refine cq.mono ?_
  rintro e v10 ⟨B2, k2, b2, rfl, g⟩
  have hk : k2 = 2 := by rw [← g.out.1, Hq2.out]
  subst hk
  have cd := ldrop (x := 9) (h9.out.go g.out.2.2) (by omega)
  clear cq g h9
  go_wp2_with fail
  refine cd.mono ?_
  rintro e v11 ⟨B3, k3, b3, rfl, g⟩
  have hk : k3 = 0 := by rw [← g.out.2.1.1, Hd.out]
  subst hk
  have F := keep g.out.1.fr
  clear cd g
  go_wp2_with fail
  refine (awake14 v11).mono ?_
  rintro e v12 ⟨rfl, f⟩
  go_wp2_with fail
  go_ret
  exact ⟨rfl, fr_step F.out f⟩
set_option maxHeartbeats 4000000 in
theorem tries_1111 (w : World) : Calls Try.prog 6 #[.bool true, .bool true, .bool true, .bool true] w fun e w' => e = .returned (.bool true) ∧ Below w.heap.size w w' := by
  go_enter Try.func6, Try.ntmps6
  go_wp2_with fail
  refine (lnew w).mono ?_
  rintro e v0 ⟨rfl, h0⟩
  have c0 := ltake (x := 1) (b := false) h0.out (by omega) (by omega)
  clear h0
  go_wp2_with fail
  refine c0.mono ?_
  rintro e v1 ⟨rfl, h1⟩
  clear c0
  have c1 := ltake (x := 2) (b := true) h1.out (by omega) (by omega)
  clear h1
  go_wp2_with fail
  refine c1.mono ?_
  rintro e v2 ⟨rfl, h2⟩
  clear c1
  have c2 := ltake (x := 3) (b := true) h2.out (by omega) (by omega)
  clear h2
  go_wp2_with fail
  refine c2.mono ?_
  rintro e v3 ⟨rfl, h3⟩
  clear c2
  have hq : (takeT (takeT (takeT newT 1 false) 2 true) 3 true).q.length = 2 := by decide
  have ht : tryB (takeT (takeT (takeT newT 1 false) 2 true) 3 true) 9 true = false := by decide
  have hq2 : (tryT (takeT (takeT (takeT newT 1 false) 2 true) 3 true) 9 true).q.length = 2 := by decide
  have hd : (dropT (tryT (takeT (takeT (takeT newT 1 false) 2 true) 3 true) 9 true) 9).2.length = 0 := by decide
  generalize (takeT (takeT (takeT newT 1 false) 2 true) 3 true) = t at *
  have cq := lqueue h3.out (by omega)
  have Hq := keep hq
  have Hq2 := keep hq2
  have Hd := keep hd
  clear hq hq2 hd
  go_wp2_with fail
  refine cq.mono ?_
  rintro e v8 ⟨B, k, b, rfl, g⟩
  have hk : k = 2 := by rw [← g.out.1, Hq.out]
  subst hk
  have ct := ltry (x := 9) (b := true) (h3.out.go g.out.2.2) (by omega) (by omega)
  rw [ht] at ct
  clear cq g h3 ht
  go_wp2_with fail
  refine ct.mono ?_
  rintro e v9 ⟨rfl, h9⟩
  clear ct
  have cq := lqueue h9.out (by omega)
  go_wp2_with fail
  refine cq.mono ?_
  rintro e v10 ⟨B2, k2, b2, rfl, g⟩
  have hk : k2 = 2 := by rw [← g.out.1, Hq2.out]
  subst hk
  have cd := ldrop (x := 9) (h9.out.go g.out.2.2) (by omega)
  clear cq g h9
  go_wp2_with fail
  refine cd.mono ?_
  rintro e v11 ⟨B3, k3, b3, rfl, g⟩
  have hk : k3 = 0 := by rw [← g.out.2.1.1, Hd.out]
  subst hk
  have F := keep g.out.1.fr
  clear cd g
  go_wp2_with fail
  refine (awake14 v11).mono ?_
  rintro e v12 ⟨rfl, f⟩
  go_wp2_with fail
  go_ret
  exact ⟨rfl, fr_step F.out f⟩
theorem tries_core {w : World} {r v q b : Bool} : Calls Try.prog 6 #[.bool r, .bool v, .bool q, .bool b] w fun e w' => e = .returned (.bool true) ∧ Below w.heap.size w w' := by
  cases r <;> cases v <;> cases q <;> cases b
  · exact tries_0000 w
  · exact tries_0001 w
  · exact tries_0010 w
  · exact tries_0011 w
  · exact tries_0100 w
  · exact tries_0101 w
  · exact tries_0110 w
  · exact tries_0111 w
  · exact tries_1000 w
  · exact tries_1001 w
  · exact tries_1010 w
  · exact tries_1011 w
  · exact tries_1100 w
  · exact tries_1101 w
  · exact tries_1110 w
  · exact tries_1111 w
end Go.Proofs.Ytbnphkiipjgfaaa
