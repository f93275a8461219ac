/- Mathematics of leaves, buffers, kids that acts need. -/
import Derived.Test.YtnbbjieblgpjfaaNodD
import Derived.Test.YtnbbjieblgpjfaaFnE
import Derived.Test.YtnbbjieblgpjfaaShort
import Derived.Test.YtnbbjieblgpjfaaFnH
import Derived.Test.YtnbbjieblgpjfaaLfL
import Derived.Test.YtnbbjieblgpjfaaBufQ
import Derived.Test.YtnbbjieblgpjfaaOrP
namespace Go.Proofs.Ytnbbjieblgpjfaa
set_option linter.unusedVariables false
set_option linter.unusedSimpArgs false
set_option maxRecDepth 100000
open Go.RowKit
section
section
attribute [local go_sem ↓] zae
attribute [local go_sem ↓] zae
attribute [local go_sem ↓] zae
attribute [local go_sem ↓] zae
end
section
theorem zll : zr.wf := ⟨by simp [zr], by simp [zr, Byt], by simp [zr, Byt], by simp [zr, Byt], by simp [zr, Byt], by simp [zr, Byt], by simp [zr, Byt], by simp [zr, Byt], by simp [zr, Byt]⟩
attribute [local go_sem ↓] zae zt zw
end
section
attribute [local go_sem ↓] zae zt zw
section
attribute [local go_sem ↓] zaX
end
section
variable {a b c : RM}
end
attribute [local go_sem ↓] zae zt zw
section
attribute [local go_sem ↓] zl2
end
attribute [local go_sem ↓] zae zt zw
section
attribute [local go_sem ↓] zaX zeW
end
attribute [local go_sem ↓] zae zt zw
attribute [local go_sem ↓] zae zt zw
section
attribute [local go_sem ↓] zaX
end
end
section
theorem zf0 {l gone : List RM} (h : OkL l) : OkL (zaL l gone) := h.sub List.filter_sublist
theorem znb : ∀ (n : Int) (l : List RM), zdK n l ≤ l.length
 | _, [] => Nat.le_refl _
 | n, m :: l => by
  unfold zdK
  split
  ·exact Nat.zero_le _
  ·have := znb (n + zc9 m) l
   simp only [List.length_cons]; omega
theorem bytE_bd {e : RE} (h : e.ok) : 2 ≤ zcs e ∧ zcs e ≤ 26 := by
 have h1 := zmB h.ok;obtain ⟨m, h2, h3, _⟩ := ziC h.ov;unfold zcs;omega
end
section
attribute [local go_sem ↓] zt zw zaX
theorem zbH (l : List RM) (ps : List RK) (i : Nat) : (zah l ps i).length ≤ l.length := by
 unfold zah
 split
 ·simp
 ·exact List.length_filter_le _ _
end
section
attribute [local go_sem ↓] zt zw
theorem zgD (l g : List RM) : (zaL l g).length ≤ l.length := List.length_filter_le _ _
theorem batL_le (l : List RM) : (zfE l).length ≤ l.length := by
 unfold zfE;rw [List.length_take];omega
theorem zkC (l : List RM) : (zfE l).length = zdK 0 l := by
 unfold zfE;rw [List.length_take];have := znb 0 l;omega
end
section
attribute [local go_sem ↓] zt zbh zae zw zaX
theorem zjE {l : List RE} {p : RE} (h : ¬ l.length < 2) (hp : l[zaZ l]? = some p) : splK l = p.key := by
 unfold splK;rw [if_neg h];obtain ⟨hj, e⟩ := List.getElem?_eq_some_iff.1 hp;rw [List.drop_eq_getElem_cons hj, e];rfl
end
section
attribute [local go_sem ↓] zt zbh zae zw
theorem halves_fit {l : List RE} (ol : OkE l) (h2 : 2 ≤ l.length) (hm : zQ l ≤ 344) : zQ (l.take (zaZ l)) ≤ 248 ∧ zQ l - zQ (l.take (zaZ l)) ≤ 248 := by
 have hb := zfS h2;have hh := zja h2;have hf := zkR h2;have e1 : zQ l = zQ (l.take (zaZ l)) + zQ (l.drop (zaZ l)) := by rw [← zg3, List.take_append_drop]
 have hd := zbG (ol.sub (List.drop_sublist (zaZ l) l)).sm;have ht := zbG (ol.sub (List.take_sublist (zaZ l) l)).sm;have hlast : l[zaZ l - 1]? = some (l[zaZ l - 1]'(by omega)) := List.getElem?_eq_getElem _;have gl := bytE_bd (ol.good _ (za2 hlast));have e2 := zdy hlast;rw [show zaZ l - 1 + 1 = zaZ l by omega] at e2;rw [List.length_take] at ht;rw [List.length_drop] at hd;constructor
 ·rcases hf with hf | hf
  ·rw [hf] at ht ⊢
   omega
  ·omega
 ·rcases hh with hh | hh
  ·omega
  ·rw [hh] at hd
   omega
end
section
attribute [local go_sem ↓] zt zw
attribute [local go_sem ↓] zt zw
attribute [local go_sem ↓] zt zw
theorem findL_part {l : List RM} {ps : List RK} (hl : OkL l) (h : OkP ps) {i : Nat} (hi : i ≤ ps.length) {k : RK} (wk : k.wf) (ok : okB k = true) : zaj (zah l ps i) k = if i = zbN ps (zu k) then zaj l k else none := by
 rw [znJ h hi]
 induction l with
 | nil => show zaj [] k = _; rw [zds]; split <;> rfl
 | cons x l ih =>
  have IH := ih hl.tail;rw [List.filter_cons, zai]
  by_cases hx : x.key = k
  ·rw [if_pos hx]
   have hc : cd x = zu k := by unfold cd; rw [hx]
   rw [hc]
   by_cases hk : i = zbN ps (zu k)
   ·rw [if_pos (by simpa using hk), zai, if_pos hx, if_pos hk]
   ·rw [if_neg (by simpa using hk), if_neg hk, IH, if_neg hk]
  ·rw [if_neg hx]
   split
   ·rw [zai, if_neg hx, IH]
   ·exact IH
attribute [local go_sem ↓] zt zw
end
section
attribute [local go_sem ↓] zt zw
attribute [local go_sem ↓] zt zw
theorem zgd (ks : List Int) (i id : Int) : (zbu ks i id).length ≤ ks.length + 1 := by
 unfold zbu
 split
 ·simp; omega
 ·omega
theorem zgb (n : Nat) (ps : List RK) (i : Int) (x : RK) : (zbz n ps i x).length ≤ ps.length + 1 := by
 unfold zbz
 split
 ·simp; omega
 ·omega
attribute [local go_sem ↓] zt zw
attribute [local go_sem ↓] zt zw zeW
attribute [local go_sem ↓] zt zw zeW
end
section
attribute [local go_sem ↓] zt zw
end
section
theorem zcz {l : List RM} {ps : List RK} {i : Nat} (h : WfM l) : WfM (zah l ps i) := by
 unfold zah
 split
 ·intro m hm; simp at hm
 ·intro m hm; exact h m (List.mem_filter.1 hm).1
end
end
section
section
attribute [local go_sem ↓] zt zw zfl
attribute [local go_sem ↓] zt zw zfl
theorem kids_rng {np : Nat} {f : Int} {v : Int} (h : v ∈ zco np f) (hnp : np ≤ 3) : 1 ≤ v ∧ v ≤ 221 := by
 obtain ⟨j, hj⟩ := List.mem_iff_getElem?.1 h;have hl := (List.getElem?_eq_some_iff.1 hj).1;rw [zch] at hl;rw [zgF (by omega)] at hj
 injection hj with hj
 omega
theorem kids_inj {np : Nat} {f : Int} {a b : Nat} {v : Int} (ha : (zco np f)[a]? = some v) (hb : (zco np f)[b]? = some v) : a = b := by
 have h1 := (List.getElem?_eq_some_iff.1 ha).1;have h2 := (List.getElem?_eq_some_iff.1 hb).1;rw [zch] at h1 h2;rw [zgF (by omega)] at ha hb
 injection ha with ha
 injection hb with hb
 omega
theorem zmj (np : Nat) (f : Int) : (zco np f).Nodup :=
 List.pairwise_iff_getElem.2 fun i j hi hj hij e => by
  have h1 := List.getElem?_eq_getElem hi;have h2 := List.getElem?_eq_getElem hj;rw [← e] at h2;have := kids_inj h1 h2;omega
theorem kids_ok {np : Nat} {f : Int} (h1 : 1 ≤ np) (h2 : np ≤ 3) : zcZ (zco np f) :=
 ⟨by rw [zch]; omega, by rw [zch]; omega, fun x hx => by have := kids_rng hx h2; omega, zmj np f⟩
theorem zg8 : ∀ {l : List RK} {k : RK}, l.length ≤ (zdJ l k).length
 | [], k => by simp [zdJ]
 | x :: l, k => by
  unfold zdJ
  split
  ·simp only [List.length_cons]; exact Nat.succ_le_succ zg8
  ·split <;> simp
theorem pivs_one (ns : List Int) : 1 ≤ (zca (16 :: ns) 3).length := by
 have hm : ∀ j, 1 ≤ (zbD (16 :: ns) 3 (j + 1)).length := by
  intro j
  induction j with
  | zero => simp [zbD, zdJ]
  | succ j ih =>
   rw [zbD]
   split
   ·exact Nat.le_trans ih zg8
   ·exact ih
 have : ∃ j, min (16 :: ns).length 20 = j + 1 := ⟨min (16 :: ns).length 20 - 1, by simp; omega⟩;obtain ⟨j, hj⟩ := this;unfold zca;rw [hj];exact hm j
end
section
theorem zjo (ns : List Int) {most : Int} (h : 0 ≤ most) : ∀ j, zbB (zbY ns most j) ≤ most
 | 0 => by simpa [zbY, zbB] using h
 | j + 1 => by
  unfold zbY
  split
  ·assumption
  ·exact zjo ns h j
theorem znv (ns : List Int) {most : Int} (h : 0 ≤ most) : zbB (zdS ns most) ≤ most := zjo ns h _
theorem zi2 (ns : List Int) {most : Int} (h : 0 ≤ most) : ∀ j, zQ (zbC ns most j) ≤ most
 | 0 => by simpa [zbC, zQ] using h
 | j + 1 => by
  unfold zbC
  split
  ·assumption
  ·exact zi2 ns h j
theorem znV (ns : List Int) {most : Int} (h : 0 ≤ most) : zQ (zef ns most) ≤ most := zi2 ns h _
theorem zir (ns : List Int) : OkN (zcp ns) := .inl ⟨rfl, rfl, rfl, rfl, zeX ns 248⟩
theorem zm0 (ns : List Int) (f : Int) (ms : List Int) : OkN (zdY ns f ms) :=
 .inr ⟨rfl, rfl, kids_ok (pivs_one ns) (zfB ns), (zch _ _).symm, zh1 _ _, zgC _ _⟩
theorem zn6 (ns : List Int) : zcW (zcp ns) ≤ rmN (zcp ns) := znV ns (by omega)
theorem innN_byt (ns : List Int) (f : Int) (ms : List Int) : zcW (zdY ns f ms) ≤ rmN (zdY ns f ms) := znv ms (by omega)
attribute [local go_sem ↓] zt zw zaP
end
end
end Go.Proofs.Ytnbbjieblgpjfaa
