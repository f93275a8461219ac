/- Inner nodes by numbers (package 00's Inner); kids and pivots of one. -/
import Derived.Test.YtmjjjdikpnhpiaaGreatFnE
import Derived.Test.YtmjjjdikpnhpiaaGreatOrP
namespace Go.Proofs.YtmjjjdikpnhpiaaGreat
set_option linter.unusedVariables false
set_option linter.unusedSimpArgs false
set_option maxRecDepth 100000
open Go.RowKit
section
theorem zd8 : (Tryz.prog.info? 27).map (·.size) = some 5 := by kernel_rfl
theorem nodeS : Sty Tryz.prog 27 5 := ⟨zd8, _, Tryz.underlying27, rfl⟩
theorem zfl (p : Value) : Instr.loadAt 27 p = ldS 27 p := rfl
attribute [local go_sem ↓] zt zw zfl
def zeD (K P M : Value) : List Value := [.bool false, .slice none 0 0, K, P, M]
theorem zfn (A A2 A3 : Option Addr) (n c n2 c2 n3 c3 : Nat) : One (zeD (.slice A n c) (.slice A2 n2 c2) (.slice A3 n3 c3)) := fun v hv => by
 simp only [zeD, List.mem_cons, List.not_mem_nil, or_false] at hv
 rcases hv with rfl | rfl | rfl | rfl | rfl <;> rfl
def zco (np : Nat) (f : Int) : List Int := (List.range (np + 1)).map fun i : Nat => 1 + f % 200 + 7 * (i : Int)
theorem zch (np : Nat) (f : Int) : (zco np f).length = np + 1 := by simp [zco]
theorem zgF {np : Nat} {f : Int} {j : Nat} (h : j ≤ np) : (zco np f)[j]? = some (1 + f % 200 + 7 * (j : Int)) := by
 rw [zco, List.getElem?_map, List.getElem?_range (by omega)];rfl
theorem zh9 {np : Nat} {f : Int} {j : Nat} (h : j ≤ np) : (zco np f).take (j + 1) = (zco np f).take j ++ [1 + f % 200 + 7 * (j : Int)] := zav (zgF h)
theorem zc6 {P : Program} {w0 w : World} {t e size bytes : Nat} {g T : Nat} {cs : Array Value} {ops : Array Oper} {rest : List Oper} {o : Oper} {a : Act} {Q : Exit → Act → World → Prop} (E : zgM P e size bytes) (ht : P.underlying t = some (.slice e)) (hsz : 0 < size) (hgd : o.guard = none) (s x : Operand)
 (hop : o.op = .call { callee := .builtin .append, args := #[s, x], argTypes := #[t, t] }) (h0 : Fr w0 w) (hg0 : w0.heap.size = g) (ha : Arr w g T cs)
 (A : Option Addr) (n c1 : Nat) (xs : List Value) (hs : a.eval s = .slice A n c1) (ho : Own w (g + 1) e size A n c1 xs)
 (C : Nat) (A2 : Option Addr) (m c2 : Nat) (news : List Value) (hx : a.eval x = .slice A2 m c2) (hl : news.length = m * size) (hn : Has w C A2 news) (h1 : One news)
 (h63 : n + m ≤ maxLen) (hbytes : (n + m) * bytes ≤ 140737488355328)
 (h : ∀ A' c' w', Own w' (g + 1) e size A' (n + m) c' (xs ++ news) → Fr w0 w' → Arr w' g T cs → wpList P ops Q rest (a.put o.dst (.slice A' (n + m) c')) w') :
 wpList P ops Q (o :: rest) a w := by
 obtain ⟨i, z, hi, hz, hsize, hby, hzs⟩ := E.row;have hlt := ha.lt;refine zbV w hgd s x t hop (g + 1) e i z size bytes ht hi hz hsize hby hzs hsz A n c1 xs hs ho C A2 m c2 news hx hl hn h1 h63 hbytes hlt ?_;intro A' c' w' h1 h2 h3;refine h A' c' w' h1 (zat h0 ho h2 h0.size (by omega)) ?_;refine (h2.block g hlt fun e' => ?_).trans ha;have := (ho.lt g e'.symm).1;omega
theorem zde {w W : World} {B e size n c g : Nat} {A : Option Addr} {xs : List Value} (h : Own w B e size A n c xs) (k : Kept w W g) (hg : g < B) : Own W B e size A n c xs := by
 refine ⟨h.1, ?_⟩
 rcases h.2 with hn | ⟨b, cap, cur, hv, hb, hA, h1, h2, h3, h4⟩
 ·exact .inl hn
 ·exact .inr ⟨b, cap, cur, hv, hb, k.other hA (by omega), h1, h2, h3, h4⟩
theorem zhe {w : World} {B e size n c : Nat} {A : Option Addr} {xs : List Value} (h : Own w B e size A n c xs) (p : Addr) (hg : p.block < B) (v : Value) : Own (w.setCell p v) B e size A n c xs := by
 refine ⟨h.1, ?_⟩
 rcases h.2 with hn | ⟨b, cap, cur, hv, hb, hA, h1, h2, h3, h4⟩
 ·exact .inl hn
 ·exact .inr ⟨b, cap, cur, hv, hb, Arr.other hA p (by omega) v, h1, h2, h3, h4⟩
def InnerOut (W0 : World) (ks : List Int) (ps : List RK) (q : List RM) (e : Ending) (w' : World) : Prop := ∃ A c A2 c2 A3 c3, e = .returned (.agg (zeD (.slice A ks.length c) (.slice A2 ps.length c2) (.slice A3 q.length c3)).toArray) ∧ Hid (OwnI w' 0 A c ks) ∧ Hid (OwnK w' 0 A2 c2 ps) ∧ Hid (zaC w' 0 A3 c3 q) ∧ Fr W0 w'
end
section
attribute [local go_sem ↓] zt zw zfl
def TwoOut (W0 : World) (ks : List Int) (ps : List RK) (e : Ending) (w' : World) : Prop := ∃ A c A2 c2, e = .returned (.tuple #[.slice A ks.length c, .slice A2 ps.length c2]) ∧ Hid (OwnI w' 0 A c ks) ∧ Hid (OwnK w' 0 A2 c2 ps) ∧ Fr W0 w'
end
section
theorem zfB (ns : List Int) : (zca (16 :: ns) 3).length ≤ 3 := by
 have := zfa (16 :: ns) 3 (by omega) (min (16 :: ns).length 20);change ((zca (16 :: ns) 3).length : Int) ≤ 3 at this;omega
end
end Go.Proofs.YtmjjjdikpnhpiaaGreat
