/- Short names for the walks of regions. -/
import Derived.Deep.RegionHeld3
import Derived.WalkKit
import Derived.Test.YtmjjjdikpnhpiaaGreatBase
namespace Go.Proofs.YtmjjjdikpnhpiaaGreat
set_option linter.unusedVariables false
set_option linter.unusedSimpArgs false
set_option maxRecDepth 100000
open Go.RowKit
theorem xs {α : Type} : (∀ {xs : List α} {i : Nat} (h : i < xs.toArray.size), xs.toArray[i] = xs[i]'(by simpa using h)) ∧ (∀ (a : α) (l : List α) (i : Nat) (h : i + 1 < (a :: l).length), (a :: l)[i + 1] = l[i]'(Nat.lt_of_succ_lt_succ h)) ∧ (∀ (a : α) (l : List α) (h : 0 < (a :: l).length), (a :: l)[0] = a) ∧ (∀ (l : List α) (i : Nat) (a : α), l.toArray.setIfInBounds i a = (l.set i a).toArray) ∧ (∀ {x : α} {xs : List α} {a : α}, (x :: xs).set 0 a = a :: xs) ∧ (∀ {x : α} {xs : List α} {i : Nat} {a : α}, (x :: xs).set (i + 1) a = x :: xs.set i a) :=
  ⟨fun h => List.getElem_toArray h, fun a l i h => List.getElem_cons_succ a l i h, fun a l h => List.getElem_cons_zero a l h, fun l i a => List.setIfInBounds_toArray l i a, List.set_cons_zero, List.set_cons_succ⟩
theorem xp {α : Type} : (∀ (l : List α) (i : Nat) (a : α), l.toArray.setIfInBounds i a = (l.set i a).toArray) ∧ (∀ {x : α} {xs : List α} {a : α}, (x :: xs).set 0 a = a :: xs) ∧ (∀ {x : α} {xs : List α} {i : Nat} {a : α}, (x :: xs).set (i + 1) a = x :: xs.set i a) := ⟨fun l i a => List.setIfInBounds_toArray l i a, List.set_cons_zero, List.set_cons_succ⟩
section
variable {P : Program} {ops : Array Oper} {Q : Exit → Act → World → Prop} {md : Region.Mode} {S : World → Prop}
theorem xto (i : Nat) {oi : Oper} {v : Value} {fuel : Nat} {listed lb : Array Bool} {a b : Act} {w : World} (h : wpAnyH P md ops Q S fuel lb b w)
    (hi : ops[i]? = some oi := by rfl) (hy : YieldsIf P ops S oi v a := by (refine Or.inl ⟨by rfl, ?_⟩; intro w' hSw; (try dsimp only at hSw); go_simp; (try with_reducible rfl)))
    (hl : listed.setIfInBounds i true = lb := by ((try simp only [xs]) <;> rfl)) (hb : a.put oi.dst v = b := by ((try simp only [xs, Act.put]) <;> rfl))
    (hs : Region.noSelect ops = true := by kernel_rfl) (hf : Region.free md ops listed i = true := by kernel_rfl) (hr : (Region.ready md ops listed).contains i = true := by kernel_rfl) (hQ : ∀ c a' w', Q (.panic c) (Act.put a' oi.dst v) w' → Q (.panic c) a' w' := by exact fun _ _ _ h => h) (hS : S w := by assumption) : wpAnyH P md ops Q S (fuel + 1) listed a w := by
  subst hl hb; exact wpAnyH_take hi hs hf hr hQ hy hS h
theorem xtb (i : Nat) (t : Bool) {oi : Oper} {fuel : Nat} {listed lb : Array Bool} {a b : Act} {w : World} (h : wpAnyH P md ops Q S fuel lb b w)
    (hi : ops[i]? = some oi := by rfl) (hy : YieldsIf P ops S oi (.bool t) a := by (refine Or.inl ⟨by rfl, ?_⟩; intro w' hSw; (try dsimp only at hSw); (try go_simp); all_goals (first | done | with_reducible rfl | omega | assumption | (simp; omega))))
    (hl : listed.setIfInBounds i true = lb := by ((try simp only [xs]) <;> rfl)) (hb : a.put oi.dst (.bool t) = b := by ((try simp only [xs, Act.put]) <;> rfl))
    (hs : Region.noSelect ops = true := by kernel_rfl) (hf : Region.free md ops listed i = true := by kernel_rfl) (hr : (Region.ready md ops listed).contains i = true := by kernel_rfl) (hQ : ∀ c a' w', Q (.panic c) (Act.put a' oi.dst (.bool t)) w' → Q (.panic c) a' w' := by exact fun _ _ _ h => h) (hS : S w := by assumption) : wpAnyH P md ops Q S (fuel + 1) listed a w := by
  subst hl hb; exact wpAnyH_take hi hs hf hr hQ hy hS h
theorem xtn (i : Nat) {oi : Oper} {fuel : Nat} {listed lb : Array Bool} {a b : Act} {w : World} (h : wpAnyH P md ops Q S fuel lb b w)
    (hi : ops[i]? = some oi := by rfl) (hy : YieldsIf P ops S oi undef a := by exact Or.inr ⟨by rfl, rfl⟩)
    (hl : listed.setIfInBounds i true = lb := by ((try simp only [xs]) <;> rfl)) (hb : a.put oi.dst undef = b := by ((try simp only [xs, Act.put]) <;> rfl))
    (hs : Region.noSelect ops = true := by kernel_rfl) (hf : Region.free md ops listed i = true := by kernel_rfl) (hr : (Region.ready md ops listed).contains i = true := by kernel_rfl) (hQ : ∀ c a' w', Q (.panic c) (Act.put a' oi.dst undef) w' → Q (.panic c) a' w' := by exact fun _ _ _ h => h) (hS : S w := by assumption) : wpAnyH P md ops Q S (fuel + 1) listed a w := by
  subst hl hb; exact wpAnyH_take hi hs hf hr hQ hy hS h
theorem xr (i : Nat) {o : Oper} {fuel : Nat} {listed lb : Array Bool} {a b : Act} {w : World}
    (h : ∀ K' : Act → World → Prop, Shut (∀ a w, S w → (S w → wpAnyH P md ops Q S fuel (lb.setIfInBounds i true) a w) → K' a w) → if Region.wanted o (yielded ops b.tmps) = true then Oper.wp P o b w K' Q else K' (b.put o.dst undef) w)
    (hl : listed = lb := by ((try simp only [xs]) <;> rfl)) (hb : a = b := by ((try simp only [xs, Act.put]) <;> rfl)) (ho : ops[i]? = some o := by rfl) (hr : Region.ready md ops lb = [i] := by kernel_rfl) : wpAnyH P md ops Q S (fuel + 1) listed a w := by
  subst hl hb; exact wpAnyH_ready hr (by simp) (AllReadyH.cons ho h AllReadyH.nil)
theorem xrr (i j : Nat) {o q : Oper} {fuel : Nat} {listed lb : Array Bool} {a b : Act} {w : World}
    (h : ∀ K' : Act → World → Prop, Shut (∀ a w, S w → (S w → wpAnyH P md ops Q S fuel (lb.setIfInBounds i true) a w) → K' a w) → if Region.wanted o (yielded ops b.tmps) = true then Oper.wp P o b w K' Q else K' (b.put o.dst undef) w)
    (h2 : ∀ K' : Act → World → Prop, Shut (∀ a w, S w → (S w → wpAnyH P md ops Q S fuel (lb.setIfInBounds j true) a w) → K' a w) → if Region.wanted q (yielded ops b.tmps) = true then Oper.wp P q b w K' Q else K' (b.put q.dst undef) w)
    (hl : listed = lb := by ((try simp only [xs]) <;> rfl)) (hb : a = b := by ((try simp only [xs, Act.put]) <;> rfl)) (ho : ops[i]? = some o := by rfl) (ho2 : ops[j]? = some q := by rfl) (hr : Region.ready md ops lb = [i, j] := by kernel_rfl) : wpAnyH P md ops Q S (fuel + 1) listed a w := by
  subst hl hb; exact wpAnyH_ready hr (by simp) (AllReadyH.cons ho h (AllReadyH.cons ho2 h2 AllReadyH.nil))
end
theorem xk {P : Program} {ops : Array Oper} {Q : Exit → Act → World → Prop} {md : Region.Mode} {S : World → Prop} {fuel : Nat} {listed : Array Bool} {K : Act → World → Prop} {a : Act} {w : World} (hK : Shut (∀ a w, S w → (S w → wpAnyH P md ops Q S fuel listed a w) → K a w)) (hS : S w) (h : wpAnyH P md ops Q S fuel listed a w) : K a w := hK.out _ _ hS fun _ => h
theorem i2 {a b : Prop} (x : a) (y : b) : a ∧ b := ⟨x, y⟩
theorem i3 {a b c : Prop} (x : a) (y : b) (z : c) : a ∧ b ∧ c := ⟨x, y, z⟩
theorem i4 {a b c d : Prop} (x : a) (y : b) (z : c) (u : d) : a ∧ b ∧ c ∧ d := ⟨x, y, z, u⟩
theorem zoS (W : World) (o : Array Value) (T : Nat) : ∃ V, World.alloc W (.cells o T) = V ∧ Fr W V ∧ Arr V W.heap.size T o := ⟨_, rfl, zf (ze _) _, Arr.new _ _ _⟩
end Go.Proofs.YtmjjjdikpnhpiaaGreat
