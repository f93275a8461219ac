/- CodecRaw, walked. -/
import Derived.Test.YtnbbjieblgpjfaaCodO
import Derived.Test.YtnbbjieblgpjfaaCodK
namespace Go.Proofs.Ytnbbjieblgpjfaa
set_option linter.unusedVariables false
set_option linter.unusedSimpArgs false
set_option maxRecDepth 100000
open Go.RowKit
section
variable {A1 : Option Addr} {n1 c1 : Nat} {A2 : Option Addr} {n2 c2 : Nat} {A3 : Option Addr} {n3 c3 : Nat} {A4 : Option Addr} {n4 c4 : Nat}
theorem few11_in {lf : Bool} {w : World} (b : Bool) (hb : b = true ↔ n1 ≤ 80 ∧ n2 ≤ 20 ∧ n3 ≤ 20 ∧ n4 ≤ 60) : Calls Try.prog 7 #[.agg #[.bool lf, .slice A1 n1 c1, .slice A2 n2 c2, .slice A3 n3 c3, .slice A4 n4 c4]] w fun e w' => e = .returned (.bool b) ∧ Fr w w' := by
  have hw := ze w
  by_cases h0 : n1 ≤ 80
  · skip
    by_cases h1 : n2 ≤ 20
    · skip
      by_cases h2 : n3 ≤ 20
      · skip
        by_cases h3 : n4 ≤ 60
        · skip
          have q0 : (n1 : Int) ≤ 80 := by omega
          have q1 : (n2 : Int) ≤ 20 := by omega
          have q2 : (n3 : Int) ≤ 20 := by omega
          have q3 : (n4 : Int) ≤ 60 := by omega
          obtain rfl : b = true := hb.2 ⟨by omega, by omega, by omega, by omega⟩
          clear hb
          go_enter Try.func7, Try.ntmps7
          go_wp2_with fail
          go_ret
          exact ⟨rfl, zf hw _⟩
        · skip
          have q0 : (n1 : Int) ≤ 80 := by omega
          have q1 : (n2 : Int) ≤ 20 := by omega
          have q2 : (n3 : Int) ≤ 20 := by omega
          have q3 : ¬ (n4 : Int) ≤ 60 := by omega
          obtain rfl : b = false := by cases b; rfl; have := hb.1 rfl; omega
          clear hb
          go_enter Try.func7, Try.ntmps7
          go_wp2_with fail
          go_ret
          exact ⟨rfl, zf hw _⟩
      · skip
        have q0 : (n1 : Int) ≤ 80 := by omega
        have q1 : (n2 : Int) ≤ 20 := by omega
        have q2 : ¬ (n3 : Int) ≤ 20 := by omega
        obtain rfl : b = false := by cases b; rfl; have := hb.1 rfl; omega
        clear hb
        go_enter Try.func7, Try.ntmps7
        go_wp2_with fail
        go_ret
        exact ⟨rfl, zf hw _⟩
    · skip
      have q0 : (n1 : Int) ≤ 80 := by omega
      have q1 : ¬ (n2 : Int) ≤ 20 := by omega
      obtain rfl : b = false := by cases b; rfl; have := hb.1 rfl; omega
      clear hb
      go_enter Try.func7, Try.ntmps7
      go_wp2_with fail
      go_ret
      exact ⟨rfl, zf hw _⟩
  · skip
    have q0 : ¬ (n1 : Int) ≤ 80 := by omega
    obtain rfl : b = false := by cases b; rfl; have := hb.1 rfl; omega
    clear hb
    go_enter Try.func7, Try.ntmps7
    go_wp2_with fail
    go_ret
    exact ⟨rfl, zf hw _⟩
end
theorem NRk_nh {W : World} {B : Nat} {v : NV} {n : RN} (h : OpnN.NRk W B v n) (f : fewV v) : NH W B v n := by
  obtain ⟨f1, f2, f3, f4⟩ := f
  have h0 := h.toNR
  exact ⟨h0.lf, h0.hB, h0.h1, h0.l1, h.k1, by omega, h0.w1, h0.h2, h0.l2, h0.k2, by omega, h0.h3, h0.l3, h.k3, by omega, h0.w3, h0.h4, h0.l4, h0.k4, by omega, h0.w4⟩
attribute [local go_sem ↓] zw zt zae zbh zaP
set_option maxHeartbeats 4000000 in
theorem codecRaw_core {w : World} {v : NV} {n : RN} (r : OpnN.NRk w w.heap.size v n) :
    Calls Try.prog 3 #[nv v] w fun e w' => e = .returned (.bool true) ∧ Below w.heap.size w w' := by
  obtain ⟨Y, hY, fY, aY, -, -, -, -, -, lY⟩ := nod_boxed w v
  have rY := ze Y
  have lY0 := lY Y rY
  by_cases f : fewV v
  · have cF := few11_in (A1 := v.A1) (n1 := v.n1) (c1 := v.c1) (A2 := v.A2) (n2 := v.n2) (c2 := v.c2) (A3 := v.A3) (n3 := v.n3) (c3 := v.c3) (A4 := v.A4) (n4 := v.n4) (c4 := v.c4) (lf := v.lf) (w := Y) true ⟨fun _ => f, fun _ => rfl⟩
    have N := zb ((NRk_nh r f).fr fY)
    unfold nv
    clear r f
    go_enter Try.func3, Try.ntmps3
    go_wp2_with fail
    refine cF.mono ?_
    rintro e w1 ⟨rfl, f1⟩
    have F1 := za fY f1
    have l1 := lY w1 f1
    have cC := codes_at ((N.out.fr f1).grow_top F1)
    unfold nv at cC
    go_wp2_with fail
    refine cC.mono ?_
    rintro e w2 ⟨rfl, f2⟩
    go_wp2_with fail
    refine (awake11 _).mono ?_
    rintro e w3 ⟨rfl, f3⟩
    go_wp2_with fail
    go_ret
    exact ⟨rfl, za F1 (za f2 f3)⟩
  · have cF := few11_in (A1 := v.A1) (n1 := v.n1) (c1 := v.c1) (A2 := v.A2) (n2 := v.n2) (c2 := v.c2) (A3 := v.A3) (n3 := v.n3) (c3 := v.c3) (A4 := v.A4) (n4 := v.n4) (c4 := v.c4) (lf := v.lf) (w := Y) false ⟨(fun h => nomatch h), fun h => absurd h f⟩
    unfold nv
    clear r f
    go_enter Try.func3, Try.ntmps3
    go_wp2_with fail
    refine cF.mono ?_
    rintro e w1 ⟨rfl, f1⟩
    go_wp2_with fail
    refine (awake11 _).mono ?_
    rintro e w3 ⟨rfl, f3⟩
    go_wp2_with fail
    go_ret
    exact ⟨rfl, za fY (za f1 f3)⟩
end Go.Proofs.Ytnbbjieblgpjfaa
