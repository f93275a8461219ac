/- CacheLoads: a cache of which no frame holds anything stays when a row beside it grows. -/
import Derived.Test.YtmoaddbpfekdbaaPg9
import Derived.Test.YtmoaddbpfekdbaaPg11
import Derived.Test.YtmoaddbpfekdbaaM08
namespace Go.Proofs.Ytmoaddbpfekdbaa
set_option linter.unusedVariables false
set_option linter.unusedSimpArgs false
set_option linter.unusedSectionVars false
set_option maxRecDepth 100000
open Go.RowKit
-- of what came: rplace_int, plc_miss, plc_nn, plc_hit, plc
def Bare (u : Ca RN) : Prop := ∀ f ∈ u.fs, f.node = zeroN
theorem bare_np {w : World} {ok ok' : Nat → Prop} {v : NV} {n : RN} (h : NP w ok v n) (hn : n = zeroN) : NP w ok' v n := by
  subst hn
  exact { h with h1 := fun j u hu => by simp [zeroN, rows] at hu, h2 := fun j u hu => by simp [zeroN, ints] at hu, h3 := fun j u hu => by simp [zeroN, rows] at hu, h4 := fun j u hu => by simp [zeroN, rows] at hu }
theorem PN.off {W : World} {g n K : Nat} {h : PH} {t : Ca NX} (k : PN W g h n K t) {i T : Nat} {cs : Array Value} (ha : Arr W i T cs) (h1 : T ≠ 72) (h2 : T ≠ 67) (h3 : T ≠ 77) : ¬ PHX g h i := fun hx => by
  rcases hx with e | e | e | e | e
  · subst e; exact h1 (ha.ty k.pc.box)
  · obtain ⟨cs2, h9⟩ := k.pc.fs.arrT e; exact h2 (ha.ty h9)
  · exact k.pc.mp.ty ha e
  · obtain ⟨cs2, h9⟩ := k.pc.ln.arrT e; exact h3 (ha.ty h9)
  · obtain ⟨cs2, h9⟩ := k.pc.ld.arrT e; exact h3 (ha.ty h9)
theorem QL.beside {w0 W w' : World} {g n K : Nat} {u : Ca RN} (k : QL w0 W g n K u) (hb : Bare u) {X : Nat → Prop} (f : Chg X W w') (hX : ∀ i, X i → w0.heap.size ≤ i ∧ ∃ cs, Arr W i 3 cs) : QL w0 w' g n K u := by
  obtain ⟨t, ⟨h, k1, k2, k3⟩, rfl⟩ := k
  have ho : ∀ i, PHX g h i → ¬ X i := fun i hi hx => by
    obtain ⟨-, cs, ha⟩ := hX i hx
    exact k1.off ha (by decide) (by decide) (by decide) hi
  refine ⟨t, ⟨h, k1.chg f ho fun x hx => ⟨fun _ => False, bare_np (k1.nod x hx) (hb (mF NX.n x) (List.mem_map_of_mem hx)), fun b hb => hb.elim⟩, k2, k3.step_chg f fun b hb => (hX b hb).1⟩, rfl⟩
theorem bare_new (n : Nat) : Bare (newC n) := fun f hf => by
  rw [List.eq_of_mem_replicate hf]; rfl
theorem ld_bare (b : Int) (ts : List Int) : Bare (ldC b ts) := by
  cases ts with
  | nil => exact bare_new 3
  | cons t ts =>
    intro f hf
    simp only [ldC, List.mem_cons, List.not_mem_nil, or_false] at hf
    rcases hf with rfl | rfl | rfl <;> rfl
end Go.Proofs.Ytmoaddbpfekdbaa
