/- SchedPlays, one: what holds at each round; a number that is none, too many steps. -/
import Derived.Test.YtmfnekobepdhkaaScOpen
namespace Go.Proofs.Ytmfnekobepdhkaa
set_option linter.unusedVariables false
set_option linter.unusedSimpArgs false
set_option maxRecDepth 100000
open Go.RowKit
/-- What holds at each round's head. -/
structure BIn (w W : World) (n g r gs gw gp K : Nat) (t : Tab) : Prop where
  pt : PT W g t K
  dt : DT W (fun i => w.heap.size ≤ i ∧ i ≠ g) r gs gw gp t K
  len : t.st.length = n
  lo : w.heap.size ≤ g
  fr : Fr w W
section
variable {w W V : World} {n g r gs gw gp K L : Nat} {t t' : Tab}
theorem BIn.to (h : BIn w W n g r gs gw gp K t) (f : Fr W V) : BIn w V n g r gs gw gp K t := ⟨h.pt.fr f, h.dt.fr f, h.len, h.lo, fr_step h.fr f⟩
theorem BIn.mono (h : BIn w W n g r gs gw gp K t) (hl : K ≤ L) : BIn w W n g r gs gw gp L t := ⟨h.pt.mono hl, h.dt.mono hl, h.len, h.lo, h.fr⟩
/-- The program's table turned: the document's stays. -/
theorem BIn.prog (h : BIn w W n g r gs gw gp K t) (k : Chg (· = g) W V) : DT V (fun i => w.heap.size ≤ i ∧ i ≠ g) r gs gw gp t K ∧ Fr w V :=
  ⟨h.dt.chg k fun i hi x => hi.2 x, fr_chg h.fr k h.lo⟩
/-- .. and then the document's: the program's stays. -/
theorem bin_both (hp : PT W g t' K) (hr : DT V (fun i => w.heap.size ≤ i ∧ i ≠ g) r gs gw gp t' K) (k : Chg (DX r gs gw gp) W V) (hn : t'.st.length = n) (lo : w.heap.size ≤ g) (f : Fr w W) : BIn w V n g r gs gw gp K t' :=
  ⟨hp.chg k (fun x => (hr.dx _ x).2 rfl), hr, hn, lo, f.trans (k.below f.size fun i x => (hr.dx _ x).1)⟩
end
set_option maxHeartbeats 4000000 in
theorem plays_few {w : World} {n : Int} (hn : Is64 n) {A : Option Addr} {m c : Nat} (hmx : m ≤ maxLen) (h : n < 1 ∨ 8 < n ∨ 200 < m) :
    Calls Try.prog 3 #[.int .i64 n, .slice A m c] w fun e w' => e = .returned (.bool true) ∧ Below w.heap.size w w' := by
  unfold maxLen at hmx
  by_cases hno : n < 1 ∨ 8 < n
  · have c1 := new_no w n hno
    have c2 := rnew_no w n hno
    clear h
    go_enter Try.func3, Try.ntmps3
    go_wp2_with fail
    refine c1.mono ?_
    rintro e w' ⟨rfl, rfl⟩
    go_wp2_with fail
    refine c2.mono ?_
    rintro e w' ⟨rfl, rfl⟩
    go_wp2_with fail
    refine (awake13 w).mono ?_
    rintro e wa ⟨rfl, fa⟩
    go_wp2_with fail
    go_ret
    exact ⟨rfl, fa⟩
  · obtain ⟨k, rfl, hk1, hk2⟩ : ∃ k : Nat, n = k ∧ 1 ≤ k ∧ k ≤ 8 := ⟨n.toNat, by omega, by omega, by omega⟩
    have c1 := new_yes w k hk1 hk2
    have c2 := fun W => rnew_yes W k hk1 hk2
    have h80 : 200 < m := by omega
    clear hno h
    go_enter Try.func3, Try.ntmps3
    go_wp2_with fail
    refine c1.mono ?_
    rintro e w1 ⟨g, rfl, h1⟩
    go_wp2_with fail
    refine (c2 w1).mono ?_
    rintro e w2 ⟨r, gs, gw, gp, rfl, h2⟩
    go_wp2_with fail
    refine (awake13 w2).mono ?_
    rintro e wa ⟨rfl, fa⟩
    go_wp2_with fail
    go_ret
    exact ⟨rfl, fr_step h1.out.2.1 (fr_step h2.out.2 fa)⟩
end Go.Proofs.Ytmfnekobepdhkaa
