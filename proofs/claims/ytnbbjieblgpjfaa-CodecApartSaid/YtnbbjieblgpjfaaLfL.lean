/- The document's 'Put' of an entry. -/
import Derived.Test.YtnbbjieblgpjfaaLfH
import Derived.Test.YtnbbjieblgpjfaaLfF
import Derived.Test.YtnbbjieblgpjfaaLfK
import Derived.Test.YtnbbjieblgpjfaaShort
import Derived.Test.YtnbbjieblgpjfaaBufT
import Derived.Test.YtnbbjieblgpjfaaKeyA
import Derived.Deep.Slices
import Derived.ProofKit
import Derived.OpenShut
import Derived.SliceStrings
import Derived.Test.YtnbbjieblgpjfaaValA
import Derived.Test.YtnbbjieblgpjfaaMsg0
import Derived.Test.YtnbbjieblgpjfaaValC
import Derived.ChangeSlices
import Derived.ChangeArms
import Derived.Test.YtnbbjieblgpjfaaBufL
import Derived.Test.YtnbbjieblgpjfaaLfA
namespace Go.Proofs.Ytnbbjieblgpjfaa
set_option linter.unusedVariables false
set_option linter.unusedSimpArgs false
set_option maxRecDepth 100000
open Go.RowKit
section
attribute [local go_sem ↓] zt zbh zae zw
theorem zig {w : World} {A : Option Addr} {n c B : Nat} {l : List RE} {m : RM} (hl : Has w B A (zm ec l)) (hB : B ≤ w.heap.size) (hn : l.length = n) (hsm : n ≤ 100000) (ol : OkE l) (wm : m.wf) (om : okM m = true) :
 Calls Try.prog 60 #[.slice A n c, mm m] w fun e w' => ∃ A' c', e = .returned (.slice A' (zba l m).length c') ∧ zau w' w.heap.size A' c' (zba l m) ∧ Fr w w' := by
 cases hb : zcy m with
 | true => exact zk4 hl hB hn hsm ol wm om hb
 | false => exact zk6 hl hB hn hsm ol wm om hb
end
section
attribute [local go_sem ↓] zt zbh zae zw
theorem zog {l : List RE} (h : SmE l) {i j : Nat} (hij : i ≤ j) : zQ (l.take i) ≤ zQ (l.take j) := by
 have e : l.take j = l.take i ++ (l.drop i).take (j - i) := by
  rw [← List.take_add]
  congr 1
  omega
 rw [e, zg3];have := zbG (h.sub ((List.take_sublist (j - i) (l.drop i)).trans (List.drop_sublist i l)));omega
theorem ziO {l : List RE} (h : SmE l) {j : Nat} (h1 : 1 ≤ j) (h2 : j < l.length) (hh : zQ l ≤ 2 * zQ (l.take j) ∨ l.length - j = 1) (hf : ∀ i, 1 ≤ i → i < j → 2 * zQ (l.take i) < zQ l) : j = zaZ l := by
 have hb := zfS (l := l) (by omega);have sh := zja (l := l) (by omega);have sf := zkR (l := l) (by omega)
 rcases Nat.lt_trichotomy (zaZ l) j with hl | hl | hl
 ·have := hf _ hb.1 hl
  omega
 ·exact hl.symm
 ·have := zog h (i := j) (j := zaZ l - 1) (by omega)
  omega
end
section
attribute [local go_sem ↓] zt zbh zae zw zeW
theorem Sty.result4 {P : Program} {T n : Nat} {w : World} (S : Sty P T n) {fn : Func} {a b p t : Tmp} (h : fn.results = #[.tmp a, .tmp b, .cell p T, .tmp t]) (tmps : Array Value) (g : Nat) (hp : tmps.getD p undef = .pointer (some ⟨g, 0, none⟩)) {T' : Nat} {cs : List Value} (hl : cs.length = n) (ha : Arr w g T' cs.toArray) :
 (results fn tmps).run P w = .ok (.tuple #[tmps.getD a undef, tmps.getD b undef, .agg cs.toArray, tmps.getD t undef]) w := by
 have hp' : tmps[p]?.getD undef = .pointer (some ⟨g, 0, none⟩) := by simpa using hp
 simp [results, h, hp', asAddr, S.load hl ha]
theorem zaq {w : World} {B e size n c k : Nat} {A : Option Addr} {xs : List Value} (h : Own w B e size A n c xs) (hk : k < B) (ds : Array Value) : Own (w.setRow k ds) B e size A n c xs :=
 h.kept (row := some k) ⟨rfl, rfl, rfl, by simp [World.setRow], fun j _ hj => setRow_other w k j _ (fun e => hj (by rw [e]))⟩ (by
  cases hA : blk A with
  | none => exact .inl rfl
  | some b =>
   have := (h.lt b hA).1;exact .inr (fun e => by injection e with e; omega))
theorem zcn (w : World) : ∃ Z, w.alloc (.cells (kc zr).toArray 69) = Z ∧ Fr w Z ∧ Fr Z Z ∧ Arr Z w.heap.size 69 (kc zr).toArray ∧ Z.heap.size = w.heap.size + 1 := ⟨_, rfl, zf (ze w) _, ze _, Arr.new w _ _, by simp⟩
end
section
attribute [local go_sem ↓] zt zbh zae zw zeW
end
section
attribute [local go_sem ↓] zt zbh zae zw zaX
theorem zfx : ∀ (cs : List Value) (k : Nat) (z : Array Value), k + cs.length ≤ z.size → List.foldl (fun (cs : Array Value) (x : Value × Nat) => cs.setIfInBounds x.snd x.fst) z (cs.zipIdx k) = (z.toList.take k ++ cs ++ z.toList.drop (k + cs.length)).toArray
 | [], k, z, h => by
  simp [List.take_append_drop]
 | v :: cs, k, z, h => by
  simp only [List.length_cons] at h;have h0 : k < z.toList.length := by simp; omega
  rw [List.zipIdx_cons, List.foldl_cons, zfx cs (k + 1) _ (by simp; omega)]
  congr 1
  simp only [Array.toList_setIfInBounds, List.length_cons];rw [List.drop_set_of_lt (by omega), show k + 1 + cs.length = k + (cs.length + 1) by omega]
  congr 1
  rw [List.take_add_one, List.take_set_of_le (by omega), List.getElem?_set_self (by simpa using h0)];simp
theorem znM (k : RK) {v : RV} (hl : v.bs.length = 16) : List.foldl (fun (cs : Array Value) (x : Value × Nat) => cs.setIfInBounds (11 + x.snd) x.fst) #[.int .i64 1, .int .u64 0, .int .i64 k.n, .int .u8 k.b0, .int .u8 k.b1, .int .u8 k.b2, .int .u8 k.b3, .int .u8 k.b4, .int .u8 k.b5, .int .u8 k.b6, .int .u8 k.b7, .int .i64 0, .int .u8 0, .int .u8 0, .int .u8 0, .int .u8 0, .int .u8 0, .int .u8 0, .int .u8 0, .int .u8 0, .int .u8 0, .int .u8 0, .int .u8 0, .int .u8 0, .int .u8 0, .int .u8 0, .int .u8 0, .int .u8 0, .int .u64 0] (vc v).zipIdx = (mc ⟨1, 0, k, v, 0⟩).toArray := by
 rw [ziv 11 (vc v) 0, zfx (vc v) (11 + 0) _ (by rw [zD hl]; exact (by decide : (28 : Nat) ≤ 29)), zD hl];rfl
set_option maxHeartbeats 2000000 in
theorem zkJ {w : World} {A : Option Addr} {n c B : Nat} {ns : List Int} {most : Int} (hl : Has w B A (ns.map (Value.int .i64))) (hB : B ≤ w.heap.size) (hn : ns.length = n) (hns : ∀ z ∈ ns, zal z) (hmost : 0 ≤ most ∧ most ≤ 1000000) (hnm : n ≤ maxLen) :
 Calls Try.prog 31 #[.slice A n c, .int .i64 most] w fun e w' => ∃ A' c', e = .returned (.slice A' (zef ns most).length c') ∧ zau w' w.heap.size A' c' (zef ns most) ∧ Fr w w' := by
 have Hl := zb hl;have Hn := zb hn;have Hns := zb hns;have hnm2 : (n : Int) ≤ 9223372036854775807 := by simp only [maxLen] at hnm; omega
 clear hl hn hns;go_enter Try.func31, Try.ntmps31;go_wp2_with fail
 go_loopg [5, 6] 80 (fun g s5 s6 wr => ∃ (j : Nat) (A' : Option Addr) (n' c' : Nat), j ≤ 80 ∧ 80 - j ≤ g ∧ j ≤ n ∧ s6 = .int .i64 j ∧ s5 = .slice A' n' c' ∧ Hid ((zbC ns most j).length = n') ∧ Hid (zau wr w.heap.size A' c' (zbC ns most j)) ∧ Hid (Fr w wr))
 case atStart => exact ⟨0, none, 0, 0, by omega, by omega, by omega, rfl, rfl, zb rfl, zb (Own.nil _ _ _ _), zb (ze w)⟩
 case round =>
  obtain ⟨j, A', n', c', hj60, hjg, hjn, rfl, rfl, Hn', hO, hF⟩ := hrel;have hlen := zgI ns most j;rw [Hn'.out] at hlen
  by_cases hlt : j < n
  ·have hjz : (j : Int) < (n : Int) := by omega
   by_cases h60 : j < 80
   ·have h60z : (j : Int) < 80 := by omega
    have hv : ns[j]? = some (ns[j]'(by rw [Hn.out]; exact hlt)) := List.getElem?_eq_getElem _;generalize ns[j]'(by rw [Hn.out]; exact hlt) = v at hv;obtain ⟨b, off, rfl, hb1, hx⟩ := zmJ Hl.out hv;have iv : zal v := Hns.out v (List.mem_of_getElem? hv);have hF1 := hF.out;have hrr := ze wr;have cell : wr.cell? ⟨b, off + j, none⟩ = some (.int .i64 v) := (hF1.cell (by show b < w.heap.size; omega)).trans hx;have cP := fun W h => zdg (W0 := wr) (W := W) iv h;have hplt := zdC v;have cK := fun W h => zex (W0 := wr) (W := W) (v := ((pl v : Nat) : Int)) (by unfold zal; omega) h;have hdiv : ((pl v : Nat) : Int).tdiv 16 = ((pl v / 16 : Nat) : Int) := rfl;have cV := fun W h => zfV (W0 := wr) (W := W) (v := ((pl v / 16 : Nat) : Int)) (by unfold zal; omega) h;have hdlt : pl v / 16 < 1099511627776 := by omega
    have wm := zm6 v;have om := zng v;have wk := zfj ((pl v : Nat) : Int);have wv := zgE ((pl v / 16 : Nat) : Int);have hfm := znM (zbL ((pl v : Nat) : Int)) wv.hl;have hlv : (vc (zgW ((pl v / 16 : Nat) : Int))).length = 17 := zD wv.hl
    have hstep : zbC ns most (j + 1) = if zQ (zba (zbC ns most j) (zij v)) ≤ most then zba (zbC ns most j) (zij v) else zbC ns most j := by
     have e : ns.getD j 0 = v := by simp [List.getD, hv]
     rw [zbC, e]
    have Hstep := zb hstep;have ol := zf4 ns most j;have ol2 := zfk ol wm om;have hpm : (mc ⟨1, 0, zbL ((pl v : Nat) : Int), zgW ((pl v / 16 : Nat) : Int), 0⟩).toArray = (mc (zij v)).toArray := rfl;rw [hpm] at hfm;generalize zij v = m at *;generalize zbC ns most j = q at *;generalize zbL ((pl v : Nat) : Int) = k at *;generalize zgW ((pl v / 16 : Nat) : Int) = y at *;generalize pl v / 16 = d at *;generalize pl v = p at *;have hle := zj2 q m;rw [Hn'.out] at hle;have hby := zbG ol2.sm
    have cA : ∀ W, Fr wr W → Calls Try.prog 60 #[.slice A' n' c', mm m] W fun e w' => ∃ A2 c2, e = .returned (.slice A2 (zba q m).length c2) ∧ Hid (zau w' w.heap.size A2 c2 (zba q m)) ∧ Fr wr w' := fun W hW =>
     (zig (c := c') (hO.out.fr hW).has (Nat.le_refl _) Hn'.out (by omega) ol wm om).mono fun e w' h => by
      obtain ⟨A2, c2, e1, h1, h2⟩ := h;exact ⟨A2, c2, e1, zb (h1.mono (Nat.le_trans hF1.size hW.size)), za hW h2⟩
    have cB : ∀ W A2 c2, Hid (zau W w.heap.size A2 c2 (zba q m)) → Calls Try.prog 63 #[.slice A2 (zba q m).length c2] W fun e w' => e = .returned (.int .i64 (zQ (zba q m))) ∧ Fr W w' := fun W A2 c2 ho =>
     zer ho.out.has (Nat.le_refl _) rfl (by omega) ol2.wfe ol2.sm
    generalize hq2 : zba q m = q2 at *;clear hv hx hlt wm om ol ol2 hstep hq2 h60 wk wv hpm
    by_cases hfit : zQ q2 ≤ most
    ·have Hs : Hid (zbC ns most (j + 1) = q2) := zb (by rw [Hstep.out, if_pos hfit])
     generalize zQ q2 = t at *;generalize hk2 : q2.length = k2 at *;have Hk2 := zb hk2;clear hk2
     go_wp2_with (first
      | (go_at_call 17; (with_reducible refine (cP _ hrr).mono ?_); rintro e w1 ⟨rfl, hz1⟩)
      | (go_at_call 61; (with_reducible refine (cK _ hz1).mono ?_); rintro e w2 ⟨rfl, hz2⟩)
      | (go_at_call 62; (with_reducible refine (cV _ hz2).mono ?_); rintro e w3 ⟨rfl, hz3⟩)
      | (go_at_call 60; (with_reducible refine (cA _ hz3).mono ?_); rintro e w4 ⟨A2, c2, rfl, ho2, hz4⟩)
      | (go_at_call 63; (with_reducible refine (cB _ _ _ ho2).mono ?_); rintro e w5 ⟨rfl, hz5⟩)
      | fail)
     go_roundg (gk - 1)
     case measure => omega
     case rel => exact ⟨j + 1, A2, k2, c2, by omega, by omega, by omega, rfl, rfl, by rw [Hs.out]; exact Hk2, by rw [Hs.out]; exact zb (ho2.out.fr hz5), zb (za hF1 (za hz4 hz5))⟩
    ·have Hs : Hid (zbC ns most (j + 1) = q) := zb (by rw [Hstep.out, if_neg hfit])
     generalize zQ q2 = t at *;generalize hk2 : q2.length = k2 at *;clear hk2
     go_wp2_with (first
      | (go_at_call 17; (with_reducible refine (cP _ hrr).mono ?_); rintro e w1 ⟨rfl, hz1⟩)
      | (go_at_call 61; (with_reducible refine (cK _ hz1).mono ?_); rintro e w2 ⟨rfl, hz2⟩)
      | (go_at_call 62; (with_reducible refine (cV _ hz2).mono ?_); rintro e w3 ⟨rfl, hz3⟩)
      | (go_at_call 60; (with_reducible refine (cA _ hz3).mono ?_); rintro e w4 ⟨A2, c2, rfl, ho2, hz4⟩)
      | (go_at_call 63; (with_reducible refine (cB _ _ _ ho2).mono ?_); rintro e w5 ⟨rfl, hz5⟩)
      | fail)
     go_roundg (gk - 1)
     case measure => omega
     case rel => exact ⟨j + 1, A', n', c', by omega, by omega, by omega, rfl, rfl, by rw [Hs.out]; exact Hn', by rw [Hs.out]; exact zb (hO.out.fr (za hz4 hz5)), zb (za hF1 (za hz4 hz5))⟩
   ·have h60z : ¬ (j : Int) < 80 := by omega
    have He : Hid (zef ns most = zbC ns most j) := zb (by unfold zef; rw [Hn.out, show min n 80 = j by omega]);clear hlt h60;go_wp2_with fail;go_ret;rw [He.out, Hn'.out];exact ⟨A', c', rfl, hO.out, hF.out⟩
  ·have hjz : ¬ (j : Int) < (n : Int) := by omega
   have He : Hid (zef ns most = zbC ns most j) := zb (by unfold zef; rw [Hn.out, show min n 80 = j by omega]);clear hlt;go_wp2_with fail;go_ret;rw [He.out, Hn'.out];exact ⟨A', c', rfl, hO.out, hF.out⟩
end
section
attribute [local go_sem ↓] zt zw zaX
section
variable {W : World} {A A2 : Option Addr} {c c2 : Nat} {l l2 : List RM} {m : RM} {k : RK}
end
def wantM (o : Option RM) (m : RM) : RM := match o with | some x => za7 x m | none => m
end
section
attribute [local go_sem ↓] zt zw zaX
end
section
attribute [local go_sem ↓] zt zbh zae zw zaX
end
section
theorem zkr {a b : Bool} {p : Prop} (ha : a = true ↔ p) (hb : b = true ↔ p) : a = b := by
 cases a <;> cases b <;> simp_all
end
section
def spl1 (l : List RE) : List RE := if l.length < 2 then [] else l.take (zaZ l)
def spl2 (l : List RE) : List RE := if l.length < 2 then [] else l.drop (zaZ l)
def splK (l : List RE) : RK := if l.length < 2 then zr else ((l.drop (zaZ l)).headD zea).key
def splB (l : List RE) : Bool := if l.length < 2 then false else true
section
variable {W : World} {A A2 : Option Addr} {c c2 : Nat} {l : List RE}
end
end
end Go.Proofs.Ytnbbjieblgpjfaa
