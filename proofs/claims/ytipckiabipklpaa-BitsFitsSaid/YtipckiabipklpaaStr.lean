/- Bytes as a string: whatever slice they come in. -/
import Derived.Test.YtipckiabipklpaaBytes
import Derived.Test.YtipckiabipklpaaTurn
namespace Go.Proofs.Ytipckiabipklpaa
open Go.RowKit

theorem run_str {P : Program} {w : World} {C : Nat} {A : Option Addr} {n c : Nat} {zs : List Int} (src dst e : TypeId) (hs : P.underlying src = some (.slice e)) (he : P.underlying e = some (.int .u8)) (hd : P.underlying dst = some .string)
    (hl : zs.length = n) (hr : Has w C A (u8s zs)) : (convert src dst (.slice A n c)).run P w = .ok (.string (strOfNums zs)) w := by
  by_cases h0 : zs = []
  · subst h0
    subst hl
    rw [run_convert_bytes_string w src dst e A _ c hs he hd]
    cases A <;> simp [Conv.bytesToString, strOfNums, loadCells, loadCellsFrom, Sem.run_pure] <;> rfl
  · obtain ⟨b, off, rfl, _, hc⟩ := hr.form (by simpa using h0)
    exact run_convert_bytes_arg w src e hs he b off n c zs hl (fun i hi => by
      have hz : i < zs.length := by omega
      rw [hc i (.int .u8 zs[i]) (by simp [hz])]
      simp [List.getD, hz]) dst hd

set_option maxHeartbeats 400000 in
theorem same_ok (A A2 : Option Addr) (n c m c2 : Nat) (zs : List Int) (hl : zs.length = n) (hm : zs.length = m) (C C2 : Nat) (w : World) (hr : Has w C A (u8s zs)) (hr2 : Has w C2 A2 (u8s zs)) :
    Calls Try.prog 15 #[.slice A n c, .slice A2 m c2] w fun e w' => e = .returned (.bool true) ∧ w = w' := by
  have e1 := run_str (P := Try.prog) (c := c) 22 9 5 Try.underlying22 Try.underlying5 Try.underlying9 hl hr
  have e2 := run_str (P := Try.prog) (c := c2) 22 9 5 Try.underlying22 Try.underlying5 Try.underlying9 hm hr2
  clear hl hm
  go_enter Try.func15, Try.ntmps15
  go_wp2
  go_ret
  exact ⟨by simp, rfl⟩

theorem bytes_lit3 : Bytes [9, 2, 1] := by intro z hz; simp at hz; omega
theorem form_two {w : World} {B : Nat} {A : Option Addr} {c : Nat} {a b : Int} (ho : Own w B 5 1 A (0 + Int.toNat 2) c (u8s [a, b])) :
    ∃ g, A = some ⟨g, 0, none⟩ ∧ g < w.heap.size ∧ w.cell? ⟨g, 0, none⟩ = some (.int .u8 a) ∧ w.cell? ⟨g, 1, none⟩ = some (.int .u8 b) := by
  obtain ⟨g, off, rfl, hg, hc⟩ := ho.has.form (by simp)
  rcases ho.2 with ⟨h, _⟩ | ⟨g', cap, cur, hv, _⟩
  · cases h
  · injection hv with hv
    injection hv with hv
    injection hv with h1 h2
    subst h1 h2
    exact ⟨g, rfl, hg, hc 0 _ rfl, hc 1 _ rfl⟩

set_option maxHeartbeats 1000000 in
theorem awake (w : World) :
    Calls Try.prog 10 #[] w fun e w' => e = .returned (.bool true) ∧ Below w.heap.size w w' := by
  have n1 : leN (([9, 2, 1] : List Int).tail.take 2) = 258 := by decide
  have n2 : narS (-2) 2 = 65534 := by decide
  have n3 : inS (-2) 2 = true := by decide
  have n4 : sgnS 255 1 = -1 := by decide
  have n5 : rotS 1 (-1 % 64) = 9223372036854775808 := by decide
  have n6 : fitsS 255 1 = true := by decide
  have n7 : fitsS 256 1 = false := by decide
  go_enter Try.func10, Try.ntmps10
  go_wp2_with (first
    | (go_at_call 16; refine (put_ok none 0 0 [] rfl (by omega) 258 2 (by omega) (by omega) (by omega) _ Has.nil).mono ?_; rintro e w1 ⟨A1, c1, rfl, ho1, hb1⟩; obtain ⟨g, rfl, hg, hx0, hx1⟩ := form_two ho1; have hy0 := fun o => (World.cell?_alloc_lt w1 o ⟨g, 0, none⟩ hg).trans hx0; have hy1 := fun o => (World.cell?_alloc_lt w1 o ⟨g, 1, none⟩ hg).trans hx1)
    | (go_at_call 11; refine (num_ok _ 3 3 [9, 2, 1] rfl (by omega) (by omega) bytes_lit3 1 2 (by omega) (by omega) (by omega) _ (Own.lit w1 0 5 #[.int .u8 9, .int .u8 2, .int .u8 1] 3 1 (by omega) (by unfold maxLen; omega) rfl).has).mono ?_; rintro e w' ⟨rfl, rfl⟩)
    | (go_at_call 13; refine (narrow (-2) 2 _).mono ?_; rintro e w' ⟨rfl, rfl⟩)
    | (go_at_call 20; refine (signed 255 1 (by omega) (by omega) _).mono ?_; rintro e w' ⟨rfl, rfl⟩)
    | (go_at_call 22; refine (turn 1 (-1) (by omega) (by omega) (by omega) (by omega) _).mono ?_; rintro e w' ⟨rfl, rfl⟩)
    | (go_at_call 18; refine (fits _ 1 (by omega) _).mono ?_; rintro e w' ⟨rfl, rfl⟩))
  go_ret
  exact ⟨rfl, hb1.alloc hb1.size _⟩

end Go.Proofs.Ytipckiabipklpaa
