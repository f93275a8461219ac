/- What the laws of package law11 share: nodes of numbers fit, bytes turned. -/
import Derived.Test.YtnbbjieblgpjfaaCodW
import Derived.Test.YtnbbjieblgpjfaaCodK
import Derived.Test.YtnbbjieblgpjfaaActP
namespace Go.Proofs.Ytnbbjieblgpjfaa
set_option linter.unusedVariables false
set_option linter.unusedSimpArgs false
set_option maxRecDepth 100000
open Go.RowKit
theorem leaf_fit (ns : List Int) : Fit (zcp ns) := ⟨zir ns, zn6 ns⟩
theorem inn_fit (ns : List Int) (f : Int) (ms : List Int) : Fit (zdY ns f ms) := ⟨zm0 ns f ms, innN_byt ns f ms⟩
theorem smN_ne {a b : RN} (h : a ≠ b) : smN a b = false := by
  cases hs : smN a b with
  | false => rfl
  | true =>
    exfalso
    apply h
    unfold smN at hs
    simp only [Bool.and_eq_true, decide_eq_true_iff, beq_iff_eq] at hs
    obtain ⟨h1, h2, h3, h4, h5⟩ := hs
    cases a; cases b
    simp_all
/-- The turned byte. -/
theorem turn_byte {b : List Int} (hl : b.length = 256) (hb : zdi b) {k : Nat} (hk : k < 256) {x : Nat} (hx : x < 256) : ∃ a z : Int, b[k]? = some a ∧ bits .xor .u8 a (x : Int) = z ∧ 0 ≤ z ∧ z ≤ 255 ∧ (x ≠ 0 → z ≠ a) ∧ (x = 0 → z = a) := by
  have hkl : k < b.length := by omega
  have ha := hb (b[k]) (List.getElem_mem hkl)
  obtain ⟨n, hn⟩ := Int.eq_ofNat_of_zero_le ha.1
  refine ⟨b[k], ((n ^^^ x : Nat) : Int), List.getElem?_eq_getElem hkl, by rw [hn, u8_xor n x (by omega) hx], by omega, ?_, fun h e => ?_, fun h => by rw [hn, h, Nat.xor_zero]⟩
  · have := Nat.xor_lt_two_pow (n := 8) (show n < 2 ^ 8 by omega) hx
    omega
  · rw [hn] at e
    have e2 : n ^^^ x = n := by omega
    have h2 : n ^^^ (n ^^^ x) = n ^^^ n := by rw [e2]
    rw [← Nat.xor_assoc, Nat.xor_self, Nat.zero_xor] at h2
    exact h h2
theorem leN4_inj {xs ys : List Int} (hx : xs.length = 4) (hy : ys.length = 4) (bx : zdi xs) (by_ : zdi ys) (h : leN xs = leN ys) : xs = ys := by
  match xs, hx with
  | [a, b, c, d], _ =>
    match ys, hy with
    | [e, f, g, i], _ =>
      have a1 := bx a (by simp)
      have b1 := bx b (by simp)
      have c1 := bx c (by simp)
      have d1 := bx d (by simp)
      have e1 := by_ e (by simp)
      have f1 := by_ f (by simp)
      have g1 := by_ g (by simp)
      have i1 := by_ i (by simp)
      simp only [leN] at h
      obtain rfl : a = e := by omega
      obtain rfl : b = f := by omega
      obtain rfl : c = g := by omega
      obtain rfl : d = i := by omega
      rfl
theorem set_bytes {b : List Int} (hb : zdi b) {k : Nat} {z : Int} (hz : 0 ≤ z ∧ z ≤ 255) : zdi (b.set k z) := fun y hy => by
  rcases List.mem_or_eq_of_mem_set hy with h | h
  · exact hb _ h
  · subst h; exact hz
theorem decR_turned {b : List Int} (h : b.length = 256) (hb : zdi b) (hs : leN ((b.drop 4).take 4) = (sumB b : Int)) {k : Nat} (hk : k < 256) {z : Int} (hz : 0 ≤ z ∧ z ≤ 255) (hne : b[k]? ≠ some z) {r : RN} {q : Int}
    (d : DecR (b.set k z) r q) : r = zce ∧ q = 5 := by
  have hl : (b.set k z).length = 256 := by rw [List.length_set]; exact h
  have key : leN (((b.set k z).drop 4).take 4) ≠ (sumB (b.set k z) : Int) := by
    by_cases hn : 4 ≤ k ∧ k < 8
    · have e1 : sumB (b.set k z) = sumB b := by
        rw [sum_zer, sum_zer]
        congr 2
        apply List.ext_getElem?
        intro i
        rw [zer_at hl, zer_at h, List.getElem?_set]
        by_cases e : k = i
        · subst e
          rw [if_neg (by omega), if_pos hn.2, if_neg (by omega), if_pos hn.2]
        · rw [if_neg e]
      intro e
      rw [e1, ← hs] at e
      have e2 := leN4_inj (by simp; omega) (by simp; omega) (zdD (bytes_drop (set_bytes hb hz) 4) 4) (zdD (bytes_drop hb 4) 4) e
      have e3 := congrArg (fun l => l[k - 4]?) e2
      rw [List.getElem?_take_of_lt (by omega), List.getElem?_take_of_lt (by omega), List.getElem?_drop, List.getElem?_drop, show 4 + (k - 4) = k from by omega, List.getElem?_set_self (by omega)] at e3
      exact hne e3.symm
    · have e1 : ((b.set k z).drop 4).take 4 = (b.drop 4).take 4 := by
        apply List.ext_getElem?
        intro i
        by_cases hi : i < 4
        · rw [List.getElem?_take_of_lt hi, List.getElem?_take_of_lt hi, List.getElem?_drop, List.getElem?_drop, List.getElem?_set_ne (by omega)]
        · rw [List.getElem?_eq_none (by simp; omega), List.getElem?_eq_none (by simp; omega)]
      rw [e1, hs]
      intro e
      exact sum_turned h hb hk hn hz hne (by omega)
  rcases d with ⟨d, _⟩ | ⟨_, _, d1, d2⟩ | ⟨_, d, _⟩ | ⟨f1, f2, _⟩
  · exact absurd hl d
  · exact ⟨d1, d2⟩
  · exact absurd d key
  · have e := (bk_sum f1).2.2.2
    rw [f2] at e
    exact absurd e key
theorem decR_short {b : List Int} {r : RN} {q : Int} (h : b.length ≠ 256) (d : DecR b r q) : r = zce ∧ q = 4 := by
  rcases d with ⟨_, d1, d2⟩ | ⟨d, _⟩ | ⟨d, _⟩ | ⟨f, e, _⟩
  · exact ⟨d1, d2⟩
  · exact absurd d h
  · exact absurd d h
  · exact absurd (by rw [← e]; exact (bk_sum f).1) h
end Go.Proofs.Ytnbbjieblgpjfaa
