/- CrcThree, walked. -/
import Derived.Test.YthmpklimccpacaaLawsC
import Derived.Test.YthmpklimccpacaaLawsB
import Derived.Deep.RegionLaw
import Derived.Deep.RegionWith
namespace Go.Proofs.Ythmpklimccpacaa
open Go.RowKit
set_option linter.unusedVariables false
theorem Own.drew {w : World} {B e size n c : Nat} {A : Option Addr} {xs : List Value} (h : Own w B e size A n c xs) : Own w.drew B e size A n c xs := h
theorem Has.drew {w : World} {B : Nat} {A : Option Addr} {xs : List Value} (h : Has w B A xs) : Has w.drew B A xs := h
/-- 'append_oct' at a step of a region that draws its order. -/
theorem step_append_oct {w0 w : World} {ops : Array Oper} {o : Oper} {a : Act} {K : Act → World → Prop} {Q : Exit → Act → World → Prop} {E : Prop} (hgd : o.guard = none) (s x : Operand)
    (hop : o.op = .call { callee := .builtin .append, args := #[s, x], argTypes := #[22, 22] }) (h0 : Fr w0 w)
    (A : Option Addr) (n c : Nat) (l : List Nat) (hs : a.eval s = .slice A n c) (ho : Own w w0.heap.size 5 1 A n c (octs l))
    (C : Nat) (A2 : Option Addr) (m c2 : Nat) (l2 : List Nat) (hx : a.eval x = .slice A2 m c2) (hl : l2.length = m) (hn : Has w C A2 (octs l2)) (hb : n + m ≤ 1000000)
    (h : ∀ A' c' w', Own w' w0.heap.size 5 1 A' (n + m) c' (octs (l ++ l2)) → Fr w0 w' → K (a.put o.dst (.slice A' (n + m) c')) w') :
    if Region.wanted o (yielded ops a.tmps) = true then Oper.wp Try.prog o a w K Q else E := by
  rw [if_pos (by simp [Region.wanted, hgd])]
  obtain ⟨i0, hi0, hz0, hz1, hz2⟩ := info_parts info_u8
  obtain ⟨A', c', w', hr, h1, h2, h3⟩ := run_append_has (P := Try.prog) w w0.heap.size 22 o.type 5 i0 _ 1 1 Try.underlying22 hi0 hz0 hz1 hz2 rfl (by omega) A n c (octs l) ho C A2 m c2 (octs l2) (by simpa using hl) hn (octs_one _) (by unfold maxLen; omega) (by omega) h0.size
  exact Lib.wp_append_run w s x _ _ hop _ _ hs hx _ _ hr (h A' c' w' (by simpa using h1) (below_grown h0 ho h2 h0.size (Nat.le_refl _)))
def xor3 (a b c : List Nat) : List Nat := List.zipWith (· ^^^ ·) (List.zipWith (· ^^^ ·) a b) c
theorem octets_zip {a b : List Nat} (ha : Octets a) (hb : Octets b) : Octets (List.zipWith (· ^^^ ·) a b) := fun z hz => by
  obtain ⟨i, hi⟩ := List.mem_iff_getElem?.1 hz
  rw [List.getElem?_zipWith] at hi
  cases h1 : a[i]? with
  | none => simp [h1] at hi
  | some x =>
    cases h2 : b[i]? with
    | none => simp [h1, h2] at hi
    | some y =>
      simp [h1, h2] at hi
      rw [← hi]
      exact Nat.xor_lt_two_pow (n := 8) (ha x (List.mem_of_getElem? h1)) (hb y (List.mem_of_getElem? h2))
theorem octets_xor3 {a b c : List Nat} (ha : Octets a) (hb : Octets b) (hc : Octets c) : Octets (xor3 a b c) := octets_zip (octets_zip ha hb) hc
theorem xor3_snoc {a b c : List Nat} {x y z : Nat} (h1 : a.length = b.length) (h2 : a.length = c.length) : xor3 (a ++ [x]) (b ++ [y]) (c ++ [z]) = xor3 a b c ++ [x ^^^ y ^^^ z] := by
  unfold xor3
  rw [List.zipWith_append h1, List.zipWith_append (by simp; omega)]
  rfl
theorem zip_sum {a b : List Nat} (h : a.length = b.length) (r s : Nat) : runS (r ^^^ s) (List.zipWith (· ^^^ ·) a b) = runS r a ^^^ runS s b := by
  apply runS_xor _ _ _ _ _ _ (by simp; omega) (by simp; omega) _ rfl
  intro i x y z hx hy hz
  rw [List.getElem?_zipWith, hx, hy] at hz
  simpa using hz.symm
theorem xor3_sum {a b c : List Nat} (ha : Octets a) (hb : Octets b) (hc : Octets c) (h1 : a.length = b.length) (h2 : a.length = c.length) :
    bits .xor .u32 (bits .xor .u32 ((moreS 0 a : Nat) : Int) ((moreS 0 b : Nat) : Int)) ((moreS 0 c : Nat) : Int) = ((moreS 0 (xor3 a b c) : Nat) : Int) := by
  have l1 := moreS_lt (s := 0) (by omega) ha
  have l2 := moreS_lt (s := 0) (by omega) hb
  have l3 := moreS_lt (s := 0) (by omega) hc
  rw [u32_xor _ _ l1 l2, u32_xor _ _ (xor_lt l1 l2) l3]
  congr 1
  have e2 : (0 ^^^ 4294967295 : Nat) = (0 ^^^ 4294967295) ^^^ (0 ^^^ 4294967295) ^^^ (0 ^^^ 4294967295) := by decide
  unfold moreS xor3
  conv => rhs; rw [e2]
  rw [zip_sum (by simp; omega), zip_sum h1]
  generalize runS (0 ^^^ 4294967295) a = x
  generalize runS (0 ^^^ 4294967295) b = y
  generalize runS (0 ^^^ 4294967295) c = z
  have e3 : (4294967295 ^^^ 4294967295 ^^^ 4294967295 : Nat) = 4294967295 := by decide
  calc x ^^^ 4294967295 ^^^ (y ^^^ 4294967295) ^^^ (z ^^^ 4294967295) = (x ^^^ y ^^^ z) ^^^ (4294967295 ^^^ 4294967295 ^^^ 4294967295) := by ac_rfl
    _ = _ := by rw [e3]
theorem sum_cut_at {w0 W : World} {A : Option Addr} {n c : Nat} {l : List Nat} (m : Nat) (hr : Has w0 w0.heap.size A (octs l)) (hl : l.length = n) (ho : Octets l) (hm : m ≤ n) (hm2 : m ≤ 2000) (hb : Fr w0 W) :
    Calls Try.prog 10 #[.slice A m c] W fun e w' => e = .returned (.int .u32 ((moreS 0 (l.take m) : Nat) : Int)) ∧ Fr w0 w' :=
  crc_sum_at (has_take hr m) (by simp; omega) (octets_take ho m) (by omega) hb
theorem min_four (n1 n2 n3 n : Nat) (hn : n = min n1 (min n2 (min n3 500))) (ts : Array TypeId) (t : TypeId) (w : World) :
    (Builtin.min_ ts t #[.int .i64 (n1 : Int), .int .i64 (n2 : Int), .int .i64 (n3 : Int), .int .i64 500]).run Try.prog w = .ok (.int .i64 (n : Int)) w := by
  have e : (if (500 : Int) < (if (n3 : Int) < (if (n2 : Int) < n1 then (n2 : Int) else n1) then (n3 : Int) else (if (n2 : Int) < n1 then (n2 : Int) else n1)) then 500 else (if (n3 : Int) < (if (n2 : Int) < n1 then (n2 : Int) else n1) then (n3 : Int) else (if (n2 : Int) < n1 then (n2 : Int) else n1))) = n := by
    split <;> split <;> split <;> omega
  simp only [Builtin.min_, Builtin.min2, List.foldlM, Sem.run_bind, Sem.run_pure, Result.andThen_ok]
  rw [e]
theorem u8_xor3 (x y z : Nat) (hx : x < 256) (hy : y < 256) (hz : z < 256) : bits .xor .u8 (bits .xor .u8 (x : Int) (y : Int)) (z : Int) = ((x ^^^ y ^^^ z : Nat) : Int) := by
  rw [u8_xor x y hx hy, u8_xor _ z (Nat.xor_lt_two_pow (n := 8) hx hy) hz]
set_option maxRecDepth 100000 in
set_option maxHeartbeats 1000000 in
theorem crcThree_core (A B C : Option Addr) (n1 c1 n2 c2 n3 c3 : Nat) (l1 l2 l3 : List Nat) (w : World) (hl1 : l1.length = n1) (hl2 : l2.length = n2) (hl3 : l3.length = n3) (h1 : n1 ≤ c1) (h2 : n2 ≤ c2) (h3 : n3 ≤ c3)
    (o1 : Octets l1) (o2 : Octets l2) (o3 : Octets l3) (hr1 : Has w w.heap.size A (octs l1)) (hr2 : Has w w.heap.size B (octs l2)) (hr3 : Has w w.heap.size C (octs l3)) (n : Nat) (hn : n = min n1 (min n2 (min n3 500))) :
    Calls Try.prog 8 #[.slice A n1 c1, .slice B n2 c2, .slice C n3 c3] w fun e w' => e = .returned (.bool true) ∧ Below w.heap.size w w' := by
    have hmin := min_four n1 n2 n3 n hn
    have b0 := fr_refl w
    have g1 : n ≤ n1 := by omega
    have g2 : n ≤ n2 := by omega
    have g3 : n ≤ n3 := by omega
    have g4 : n ≤ 500 := by omega
    have H1 := keep hl1
    have H2 := keep hl2
    have H3 := keep hl3
    clear hn hl1 hl2 hl3
    go_enter Try.func8, Try.ntmps8
    go_wp2_with fail
    clear hmin
    go_loopg [8, 9] n (fun g v i wr => ∃ (j : Nat) (D : Option Addr) (d : Nat), j + g = n ∧ i = .int .i64 j ∧ v = .slice D j d ∧ Own wr w.heap.size 5 1 D j d (octs (xor3 (l1.take j) (l2.take j) (l3.take j))) ∧ Fr w wr)
    case atStart => exact ⟨0, none, 0, by omega, rfl, rfl, Own.nil _ _ _ _, b0⟩
    case round =>
      obtain ⟨j, D, d, hj, rfl, rfl, ho, hb⟩ := hrel
      have Hj := keep hj
      by_cases hlt : j < n
      · obtain ⟨x, b1, f1, rfl, hb1, hc1, hx, ht1⟩ := oct_at H1.out o1 hr1 (show j < n1 by omega)
        obtain ⟨y, b2, f2, rfl, hb2, hc2, hy, ht2⟩ := oct_at H2.out o2 hr2 (show j < n2 by omega)
        obtain ⟨z, b3, f3, rfl, hb3, hc3, hz, ht3⟩ := oct_at H3.out o3 hr3 (show j < n3 by omega)
        have hd1 := (hb.cell (p := ⟨b1, f1 + j, none⟩) hb1).trans hc1
        have hd2 := (hb.cell (p := ⟨b2, f2 + j, none⟩) hb2).trans hc2
        have hd3 := (hb.cell (p := ⟨b3, f3 + j, none⟩) hb3).trans hc3
        have j1 : j < n1 := by omega
        have j2 : j < n2 := by omega
        have j3 : j < n3 := by omega
        have T1 := keep ht1
        have T2 := keep ht2
        have T3 := keep ht3
        have hx3 := u8_xor3 x y z hx hy hz
        clear hj ht1 ht2 ht3 hc1 hc2 hc3
        go_wp2_with fail
        have hdb : Fr w (wr.drew.alloc (.cells #[.int .u8 ((x ^^^ y ^^^ z : Nat) : Int)] 5)) := fr_new (fr_drew hb) _
        go_region_law (first | (refine step_append_oct rfl (.tmp 22) (.tmp 37) rfl (fr_new (fr_drew hb) _) D j d _ rfl (ho.drew.alloc _) _ _ 1 1 [x ^^^ y ^^^ z] rfl rfl (has_one _ _ _) (by omega) ?_; intro D2 d2 w2 ho2 hb2))
        all_goals
          go_wp2_with fail
          go_roundg (gk - 1)
          case measure => have := Hj.out; omega
          case rel => exact ⟨j + 1, D2, d2, by have := Hj.out; omega, by go_num, rfl, by rw [T1.out, T2.out, T3.out, xor3_snoc (by simp; have := H1.out; have := H2.out; omega) (by simp; have := H1.out; have := H3.out; omega)]; exact ho2, hb2⟩
      · obtain rfl : j = n := by omega
        have r1 := (hr1.below hb).mono hb.size
        have r2 := (hr2.below hb).mono hb.size
        have r3 := (hr3.below hb).mono hb.size
        have b0 : Fr wr wr.drew := fr_drew (fr_refl wr)
        have hs := xor3_sum (octets_take o1 j) (octets_take o2 j) (octets_take o3 j) (by simp; have := H1.out; have := H2.out; omega) (by simp; have := H1.out; have := H3.out; omega)
        have hod := octets_xor3 (octets_take o1 j) (octets_take o2 j) (octets_take o3 j)
        have Hlen : Hid ((xor3 (l1.take j) (l2.take j) (l3.take j)).length = j) := keep (by simp [xor3]; have := H1.out; have := H2.out; have := H3.out; omega)
        have g5 : j ≤ c1 := by omega
        have g6 : j ≤ c2 := by omega
        have g7 : j ≤ c3 := by omega
        clear hj
        go_wp2_with fail
        go_region_with (first
          | (go_at_call_of 10 D; refine (crc_sum_at ho.has Hlen.out hod ?_ ?_).mono ?_; omega; assumption; rintro e w1 ⟨rfl, hb1⟩)
          | (go_at_call_of 10 A; refine (sum_cut_at j r1 H1.out o1 ?_ ?_ ?_).mono ?_; omega; omega; assumption; rintro e w1 ⟨rfl, hb1⟩)
          | (go_at_call_of 10 B; refine (sum_cut_at j r2 H2.out o2 ?_ ?_ ?_).mono ?_; omega; omega; assumption; rintro e w1 ⟨rfl, hb1⟩)
          | (go_at_call_of 10 C; refine (sum_cut_at j r3 H3.out o3 ?_ ?_ ?_).mono ?_; omega; omega; assumption; rintro e w1 ⟨rfl, hb1⟩)
          | (go_at_call 9; refine (awake_at (w0 := wr) ?_).mono ?_; assumption; rintro e w3 ⟨rfl, hb3⟩))
        all_goals (go_wp2; go_ret; exact ⟨rfl, fr_step hb (by assumption)⟩)
end Go.Proofs.Ythmpklimccpacaa
