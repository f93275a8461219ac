/- Package store: what all its laws look at: awake, reads. -/
import Derived.Test.YtliglcaakhfahaaStG
namespace Go.Proofs.Ytliglcaakhfahaa
set_option linter.unusedVariables false
set_option linter.unusedSimpArgs false
set_option maxRecDepth 100000
open Go.RowKit
theorem fr_chg {w a b : World} {q : Nat} (f : Fr w a) (k : Chg (· = q) a b) (hq : w.heap.size ≤ q) : Fr w b := f.trans (k.below f.size fun i hi => by omega)
section
variable (x y : List Int)
theorem two0 : alI [(false, x), (false, y)] = 0 ∧ alE [(false, x), (false, y)] = 0 ∧ alL [(false, x), (false, y)] = [(true, z256), (false, y)] := by
  simp [alI, alE, alL, frS, List.findIdx_cons]
theorem two1 : alI [(true, x), (false, y)] = 1 ∧ alE [(true, x), (false, y)] = 0 ∧ alL [(true, x), (false, y)] = [(true, x), (true, z256)] := by
  simp [alI, alE, alL, frS, List.findIdx_cons]
theorem two2 : alI [(true, x), (true, y)] = 0 ∧ alE [(true, x), (true, y)] = 3 ∧ alL [(true, x), (true, y)] = [(true, x), (true, y)] := by
  simp [alI, alE, alL, frS, List.findIdx_cons]
theorem two3 : frE [(true, x), (true, y)] 0 = 0 ∧ frL [(true, x), (true, y)] 0 = [(false, x), (true, y)] := by
  simp [frE, frL, atS]
theorem two4 : alI [(false, x), (true, y)] = 0 ∧ alE [(false, x), (true, y)] = 0 ∧ alL [(false, x), (true, y)] = [(true, z256), (true, y)] := by
  simp [alI, alE, alL, frS, List.findIdx_cons]
theorem two5 : lfN [(true, x), (true, y)] = 0 ∧ (usL [(true, x), (true, y)]).length = 2 ∧ frE [(true, x), (true, y)] 7 = 6 := by
  simp [lfN, usL, usJ, frE, atS]
end
set_option maxHeartbeats 4000000 in
theorem awake12 (w : World) : Calls Try.prog 9 #[] w fun e w' => e = .returned (.bool true) ∧ Fr w w' := by
  have c0 := new_yes w 2 (by decide) (by decide)
  rw [show ((2 : Nat) : Int) = 2 from rfl] at c0
  go_enter Try.func9, Try.ntmps9
  go_wp2_with fail
  refine c0.mono ?_
  rintro e w1 ⟨g, q, rfl, h⟩
  have p0 : PS w1 g q [(false, z256), (false, z256)] := h.out.1
  have f1 := h.out.2.1
  have hq := h.out.2.2.2
  generalize z256 = z at p0
  have P0 := keep p0
  clear h p0 c0
  go_wp2_with fail
  refine (new_no w1 0 (by decide)).mono ?_
  rintro e w' ⟨rfl, rfl⟩
  have c1 := alloc_at P0.out
  obtain ⟨e1, e2, e3⟩ := two0 z z
  rw [e1, e2, e3] at c1
  clear e1 e2 e3
  go_wp2_with fail
  refine c1.mono ?_
  rintro e w2 ⟨rfl, h⟩
  replace f1 := fr_chg f1 h.out.2 hq
  have c2 := alloc_at h.out.1
  obtain ⟨e1, e2, e3⟩ := two1 z256 z
  rw [e1, e2, e3] at c2
  clear e1 e2 e3 c1 h
  go_wp2_with fail
  refine c2.mono ?_
  rintro e w3 ⟨rfl, h⟩
  replace f1 := fr_chg f1 h.out.2 hq
  have c3 := alloc_at h.out.1
  obtain ⟨e1, e2, e3⟩ := two2 z256 z256
  rw [e1, e2, e3] at c3
  clear e1 e2 e3 c2 h
  go_wp2_with fail
  refine c3.mono ?_
  rintro e w4 ⟨rfl, h⟩
  replace f1 := fr_chg f1 h.out.2 hq
  have c4 := free_at (id := 0) h.out.1 (by decide)
  obtain ⟨e1, e2⟩ := two3 z256 z256
  rw [e1, e2] at c4
  clear e1 e2 c3 h
  go_wp2_with fail
  refine c4.mono ?_
  rintro e w5 ⟨rfl, h⟩
  replace f1 := fr_chg f1 h.out.2 hq
  have c5 := alloc_at h.out.1
  obtain ⟨e1, e2, e3⟩ := two4 z256 z256
  rw [e1, e2, e3] at c5
  clear e1 e2 e3 c4 h
  go_wp2_with fail
  refine c5.mono ?_
  rintro e w6 ⟨rfl, h⟩
  replace f1 := fr_chg f1 h.out.2 hq
  have c6 := left_at h.out.1
  obtain ⟨e1, e2, e3⟩ := two5 z256 z256
  rw [e1] at c6
  have P := keep h.out.1
  have E2 := keep e2
  have E3 := keep e3
  clear e1 e2 e3 c5 h
  go_wp2_with fail
  refine c6.mono ?_
  rintro e w7 ⟨rfl, f2⟩
  have c7 := used_at (P.out.fr f2)
  replace f1 := fr_step f1 f2
  clear c6
  go_wp2_with fail
  refine c7.mono ?_
  rintro e w8 ⟨A, n, c, rfl, h⟩
  have en : n = 2 := by rw [← h.out.1]; exact E2.out
  subst en
  have c8 := free_at (id := 7) (P.out.fr (fr_step f2 h.out.2.2)) (by decide)
  rw [E3.out] at c8
  replace f1 := fr_step f1 h.out.2.2
  clear c7 h f2
  go_wp2_with fail
  refine c8.mono ?_
  rintro e w9 ⟨rfl, h⟩
  replace f1 := fr_chg f1 h.out.2 hq
  clear h c8
  go_wp2_with fail
  go_ret
  exact ⟨rfl, f1⟩
set_option maxHeartbeats 4000000 in
theorem reads_at {w : World} {ok : Nat → Prop} {g q r gi gb n : Nat} {l : List Slot} (h : PS w g q l) (k : RS w ok r gi gb l) (hn : l.length = n) :
    Calls Try.prog 26 #[.pointer (some ⟨g, 0, none⟩), .pointer (some ⟨r, 0, none⟩), .int .i64 (n : Int)] w fun e w' => e = .returned (.bool true) ∧ Fr w w' := by
  have hm : n ≤ 256 := by rw [← hn]; exact h.len.2
  have ww := fr_refl w
  have H := keep h
  have K := keep k
  clear h k hn
  go_enter Try.func26, Try.ntmps26
  go_wp2_with fail
  go_loopg [7] (n + 2) (fun g' s7 wr => ∃ (i : Int), i + g' = n + 1 ∧ -1 ≤ i ∧ s7 = .int .i64 i ∧ Hid (Fr w wr))
  case atStart => exact ⟨-1, by omega, by omega, rfl, keep ww⟩
  case round =>
    obtain ⟨i, hi, hi1, rfl, hF⟩ := hrel
    by_cases hlt : i ≤ (n : Int)
    · have c1 := read_at (id := i) (H.out.fr hF.out) (by omega)
      have c2 := fun W f => rread_at (id := i) (K.out.fr (fr_step hF.out (w' := W) f)) (by omega)
      go_wp2_with fail
      refine c1.mono ?_
      rintro e w1 ⟨A1, n1, d1, rfl, h1⟩
      go_wp2_with fail
      refine (c2 w1 h1.out.2.2).mono ?_
      rintro e w2 ⟨A2, n2, d2, rfl, h2⟩
      have s1 := conv_str (c := d1) ((h1.out.2.1.fr h2.out.2.2).has) h1.out.1
      have s2 := conv_str (c := d2) h2.out.2.1.has h2.out.1
      generalize strOfNums (rdB l i) = S at *
      generalize rdE l i = E at *
      have FF := keep (fr_step hF.out (fr_step h1.out.2.2 h2.out.2.2))
      clear h1 h2 c1 c2
      go_wp2_with fail
      go_roundg (gk - 1)
      case measure => omega
      case rel => exact ⟨i + 1, by omega, by omega, rfl, FF⟩
    · go_wp2_with fail
      go_ret
      exact ⟨rfl, hF.out⟩
end Go.Proofs.Ytliglcaakhfahaa
