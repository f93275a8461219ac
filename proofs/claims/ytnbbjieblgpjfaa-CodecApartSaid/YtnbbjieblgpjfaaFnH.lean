/- Both halves of the kids, by the program. -/
import Derived.Test.YtnbbjieblgpjfaaFnE
import Derived.Test.YtnbbjieblgpjfaaShort
namespace Go.Proofs.Ytnbbjieblgpjfaa
set_option linter.unusedVariables false
set_option linter.unusedSimpArgs false
set_option maxRecDepth 100000
open Go.RowKit
section
attribute [local go_sem ↓] zt zw zeW
theorem zkK {P : Program} {ops : Array Oper} {Q : Exit → Act → World → Prop} {md : Region.Mode} {S : World → Prop} {fuel : Nat} {listed : Array Bool} {a : Act} {w : World}
 (h : ∀ F : Nat → Array Bool → Act → World → Prop, (∀ fuel listed a w, F fuel listed a w → wpAnyH P md ops Q S fuel listed a w) → (∀ fuel listed a w, wpAnyH P md ops Q S fuel listed a w → F fuel listed a w) → F fuel listed a w) : wpAnyH P md ops Q S fuel listed a w :=
 h _ (fun _ _ _ _ h => h) (fun _ _ _ _ h => h)
theorem Sty.result6 {P : Program} {T n : Nat} {w : World} (S : Sty P T n) {fn : Func} {a b p c d t : Tmp} (h : fn.results = #[.tmp a, .tmp b, .cell p T, .tmp c, .tmp d, .tmp t]) (tmps : Array Value) (g : Nat) (hp : tmps.getD p undef = .pointer (some ⟨g, 0, none⟩)) {T' : Nat} {cs : List Value} (hl : cs.length = n) (ha : Arr w g T' cs.toArray) :
 (results fn tmps).run P w = .ok (.tuple #[tmps.getD a undef, tmps.getD b undef, .agg cs.toArray, tmps.getD c undef, tmps.getD d undef, tmps.getD t undef]) w := by
 have hp' : tmps[p]?.getD undef = .pointer (some ⟨g, 0, none⟩) := by simpa using hp
 simp [results, h, hp', asAddr, S.load hl ha]
theorem zaq {w : World} {B e size n c k : Nat} {A : Option Addr} {xs : List Value} (h : Own w B e size A n c xs) (hk : k < B) (ds : Array Value) : Own (w.setRow k ds) B e size A n c xs :=
 h.kept (row := some k) ⟨rfl, rfl, rfl, by simp [World.setRow], fun j _ hj => setRow_other w k j _ (fun e => hj (by rw [e]))⟩ (by
  cases hA : blk A with
  | none => exact .inl rfl
  | some b =>
   have := (h.lt b hA).1;exact .inr (fun e => by injection e with e; omega))
theorem zcn (w : World) : ∃ Z, w.alloc (.cells (kc zr).toArray 69) = Z ∧ Fr w Z ∧ Fr Z Z ∧ Arr Z w.heap.size 69 (kc zr).toArray ∧ Z.heap.size = w.heap.size + 1 := ⟨_, rfl, zf (ze w) _, ze _, Arr.new w _ _, by simp⟩
def zgH : Value := .tuple #[.slice none 0 0, .slice none 0 0, kv zr, .slice none 0 0, .slice none 0 0, .bool false]
def zfg (W0 : World) (ks : List Int) (ps : List RK) (m : RK) (e : Ending) (w' : World) : Prop := ∃ A1 c1 A2 c2 A3 c3 A4 c4, e = .returned (.tuple #[.slice A1 2 c1, .slice A2 1 c2, kv m, .slice A3 2 c3, .slice A4 1 c4, .bool true]) ∧ Hid (Own w' W0.heap.size 3 1 A1 2 c1 (zS (ks.take 2))) ∧ Hid (Own w' W0.heap.size 69 9 A2 1 c2 (zm kc (ps.take 1))) ∧ Hid (Own w' W0.heap.size 3 1 A3 2 c3 (zS (ks.drop 2))) ∧ Hid (Own w' W0.heap.size 69 9 A4 1 c4 (zm kc (ps.drop 2))) ∧ Fr W0 w'
abbrev hF4 (A : Option Addr) (c b2 off2 c2 : Nat) (w : World) (m : RK) (s21 s22 s25 s26 s32 s33 s36 s37 : Value) : Act := ⟨#[.slice A 4 c, .slice (some ⟨b2, off2, none⟩) 3 c2, undef, undef, .slice none 0 0, .slice none 0 0, .pointer (some ⟨w.heap.size, 0, none⟩), .slice none 0 0, .slice none 0 0, .bool false, .slice A 4 c, .int .i64 4, .bool false, .bool false, .slice (some ⟨b2, off2, none⟩) 3 c2, .int .i64 3, .bool false, .bool false, undef, .slice A 4 c, .slice A 2 c, s21, s22, .slice (some ⟨b2, off2, none⟩) 3 c2, .slice (some ⟨b2, off2, none⟩) 1 c2, s25, s26, .slice (some ⟨b2, off2, none⟩) 3 c2, .pointer (some ⟨b2, off2 + 9, none⟩), .agg (kc m).toArray, .slice A 4 c, .slice (zam A c 2) 2 (c - 2), s32, s33, .slice (some ⟨b2, off2, none⟩) 3 c2, .slice (zac (some ⟨b2, off2, none⟩) c2 2) 1 (c2 - 2), s36, s37], []⟩
end
section
attribute [local go_sem ↓] zt zw zeW
end
end Go.Proofs.Ytnbbjieblgpjfaa
