/- StorePlays, one: what holds at each round; a number that is none, too many steps. -/
import Derived.Test.YtliglcaakhfahaaStOpen
namespace Go.Proofs.Ytliglcaakhfahaa
set_option linter.unusedVariables false
set_option linter.unusedSimpArgs false
set_option maxRecDepth 100000
open Go.RowKit
theorem step_ld (p : Value) : Instr.loadAt 32 p = ldS 32 p := rfl
attribute [local go_sem ↓] step_ld
/-- What holds at each round's head. -/
structure PIn (w W : World) (n g q r gi gb : Nat) (l : List Slot) : Prop where
  ps : PS W g q l
  rs : RS W (fun i => w.heap.size ≤ i ∧ i ≠ g ∧ i ≠ q) r gi gb l
  len : l.length = n
  lo : w.heap.size ≤ g ∧ w.heap.size ≤ q
  fr : Fr w W
theorem PIn.lt {w W : World} {n g q r gi gb : Nat} {l : List Slot} (h : PIn w W n g q r gi gb l) : g < W.heap.size ∧ q < W.heap.size := ⟨h.ps.box.lt, h.ps.row.lt⟩
theorem PIn.hok {w W : World} {n g q r gi gb : Nat} {l : List Slot} (h : PIn w W n g q r gi gb l) : ∀ i, W.heap.size ≤ i → w.heap.size ≤ i ∧ i ≠ g ∧ i ≠ q := fun i hi => by
  have := h.lt; have := h.fr.size; omega
theorem PIn.to {w W V : World} {n g q r gi gb : Nat} {l : List Slot} (h : PIn w W n g q r gi gb l) (f : Fr W V) : PIn w V n g q r gi gb l := { h with ps := h.ps.fr f, rs := h.rs.fr f, fr := fr_step h.fr f }
/-- The program's store turned: the document's stays. -/
theorem PIn.prog {w W V : World} {n g q r gi gb : Nat} {l : List Slot} (h : PIn w W n g q r gi gb l) (k : Chg (· = q) W V) : RS V (fun i => w.heap.size ≤ i ∧ i ≠ g ∧ i ≠ q) r gi gb l ∧ Fr w V :=
  ⟨h.rs.chg k fun i hi x => hi.2.2 x, fr_chg h.fr k h.lo.2⟩
/-- .. and then the document's: the program's stays. -/
theorem pin_both {w W V : World} {n g q r gi gb : Nat} {l' : List Slot} (hp : PS W g q l') (hr : RS V (fun i => w.heap.size ≤ i ∧ i ≠ g ∧ i ≠ q) r gi gb l') (k : Chg (RX gi gb) W V) (hn : l'.length = n) (lo : w.heap.size ≤ g ∧ w.heap.size ≤ q) (f : Fr w W) : PIn w V n g q r gi gb l' := by
  obtain ⟨h1, h2, h3⟩ := hr.oks
  exact ⟨hp.chg k (fun x => by rcases x with x | x; exact h2.2.1 x.symm; exact h3.2.1 x.symm) (fun x => by rcases x with x | x; exact h2.2.2 x.symm; exact h3.2.2 x.symm), hr, hn, lo, f.trans (k.below f.size fun i x => by rcases x with x | x; (rw [x]; exact h2.1); (rw [x]; exact h3.1))⟩
theorem alL_len (l : List Slot) : (alL l).length = l.length := by simp [alL]
theorem frL_len (l : List Slot) (id : Int) : (frL l id).length = l.length := by unfold frL; split <;> simp
theorem wrL_len (l : List Slot) (id : Int) (bs : List Int) : (wrL l id bs).length = l.length := by unfold wrL; split <;> simp
set_option maxHeartbeats 4000000 in
theorem plays_few {w : World} {n : Int} (hn : Is64 n) {A : Option Addr} {m c : Nat} (hmx : m ≤ maxLen) (h : n < 1 ∨ 256 < n ∨ 80 < m) :
    Calls Try.prog 3 #[.int .i64 n, .slice A m c] w fun e w' => e = .returned (.bool true) ∧ Below w.heap.size w w' := by
  unfold maxLen at hmx
  by_cases hno : n < 1 ∨ 256 < n
  · have c1 := new_no w n hno
    have c2 := rnew_no w n hno
    clear h
    go_enter Try.func3, Try.ntmps3
    go_wp2_with fail
    refine c1.mono ?_
    rintro e w' ⟨rfl, rfl⟩
    go_wp2_with fail
    refine c2.mono ?_
    rintro e w' ⟨rfl, rfl⟩
    go_wp2_with fail
    refine (awake12 w).mono ?_
    rintro e wa ⟨rfl, fa⟩
    go_wp2_with fail
    go_ret
    exact ⟨rfl, fa⟩
  · obtain ⟨k, rfl, hk1, hk2⟩ : ∃ k : Nat, n = k ∧ 1 ≤ k ∧ k ≤ 256 := ⟨n.toNat, by omega, by omega, by omega⟩
    have c1 := new_yes w k hk1 hk2
    have c2 := fun W => rnew_yes W k hk1 hk2
    have h80 : 80 < m := by omega
    clear hno h
    go_enter Try.func3, Try.ntmps3
    go_wp2_with fail
    refine c1.mono ?_
    rintro e w1 ⟨g, q, rfl, h1⟩
    go_wp2_with fail
    refine (c2 w1).mono ?_
    rintro e w2 ⟨r, gi, gb, rfl, h2⟩
    go_wp2_with fail
    refine (awake12 w2).mono ?_
    rintro e wa ⟨rfl, fa⟩
    go_wp2_with fail
    go_ret
    exact ⟨rfl, fr_step h1.out.2.1 (fr_step h2.out.2 fa)⟩
end Go.Proofs.Ytliglcaakhfahaa
