/- Mathematics of leaves, buffers, kids that acts need. -/
import Derived.Test.YtmjjjdikpnhpiaaGreatNodD
import Derived.Test.YtmjjjdikpnhpiaaGreatFnE
import Derived.Test.YtmjjjdikpnhpiaaGreatShort
import Derived.Test.YtmjjjdikpnhpiaaGreatFnH
import Derived.Test.YtmjjjdikpnhpiaaGreatLfL
import Derived.Test.YtmjjjdikpnhpiaaGreatBufQ
import Derived.Test.YtmjjjdikpnhpiaaGreatOrP
namespace Go.Proofs.YtmjjjdikpnhpiaaGreat
set_option linter.unusedVariables false
set_option linter.unusedSimpArgs false
set_option maxRecDepth 100000
open Go.RowKit
section
section
attribute [local go_sem ↓] zae
attribute [local go_sem ↓] zae
attribute [local go_sem ↓] zae
attribute [local go_sem ↓] zae
end
section
theorem zll : zr.wf := ⟨by simp [zr], by simp [zr, Byt], by simp [zr, Byt], by simp [zr, Byt], by simp [zr, Byt], by simp [zr, Byt], by simp [zr, Byt], by simp [zr, Byt], by simp [zr, Byt]⟩
attribute [local go_sem ↓] zae zt zw
end
section
attribute [local go_sem ↓] zae zt zw
section
attribute [local go_sem ↓] zaX
end
section
variable {a b c : RM}
end
attribute [local go_sem ↓] zae zt zw
section
attribute [local go_sem ↓] zl2
end
attribute [local go_sem ↓] zae zt zw
section
attribute [local go_sem ↓] zaX zeW
end
attribute [local go_sem ↓] zae zt zw
attribute [local go_sem ↓] zae zt zw
section
attribute [local go_sem ↓] zaX
end
end
section
theorem zf0 {l gone : List RM} (h : OkL l) : OkL (zaL l gone) := h.sub List.filter_sublist
theorem znb : ∀ (n : Int) (l : List RM), zdK n l ≤ l.length
 | _, [] => Nat.le_refl _
 | n, m :: l => by
  unfold zdK
  split
  ·exact Nat.zero_le _
  ·have := znb (n + zc9 m) l
   simp only [List.length_cons]; omega
theorem bytE_bd {e : RE} (h : e.ok) : 2 ≤ zcs e ∧ zcs e ≤ 26 := by
 have h1 := zmB h.ok;obtain ⟨m, h2, h3, _⟩ := ziC h.ov;unfold zcs;omega
end
section
attribute [local go_sem ↓] zt zw zaX
theorem zbH (l : List RM) (ps : List RK) (i : Nat) : (zah l ps i).length ≤ l.length := by
 unfold zah
 split
 ·simp
 ·exact List.length_filter_le _ _
end
section
attribute [local go_sem ↓] zt zw
theorem zgD (l g : List RM) : (zaL l g).length ≤ l.length := List.length_filter_le _ _
theorem batL_le (l : List RM) : (zfE l).length ≤ l.length := by
 unfold zfE;rw [List.length_take];omega
theorem zkC (l : List RM) : (zfE l).length = zdK 0 l := by
 unfold zfE;rw [List.length_take];have := znb 0 l;omega
end
section
attribute [local go_sem ↓] zt zbh zae zw zaX
theorem zjE {l : List RE} {p : RE} (h : ¬ l.length < 2) (hp : l[zaZ l]? = some p) : splK l = p.key := by
 unfold splK;rw [if_neg h];obtain ⟨hj, e⟩ := List.getElem?_eq_some_iff.1 hp;rw [List.drop_eq_getElem_cons hj, e];rfl
end
section
attribute [local go_sem ↓] zt zbh zae zw
theorem halves_fit {l : List RE} (ol : OkE l) (h2 : 2 ≤ l.length) (hm : zQ l ≤ 344) : zQ (l.take (zaZ l)) ≤ 248 ∧ zQ l - zQ (l.take (zaZ l)) ≤ 248 := by
 have hb := zfS h2;have hh := zja h2;have hf := zkR h2;have e1 : zQ l = zQ (l.take (zaZ l)) + zQ (l.drop (zaZ l)) := by rw [← zg3, List.take_append_drop]
 have hd := zbG (ol.sub (List.drop_sublist (zaZ l) l)).sm;have ht := zbG (ol.sub (List.take_sublist (zaZ l) l)).sm;have hlast : l[zaZ l - 1]? = some (l[zaZ l - 1]'(by omega)) := List.getElem?_eq_getElem _;have gl := bytE_bd (ol.good _ (za2 hlast));have e2 := zdy hlast;rw [show zaZ l - 1 + 1 = zaZ l by omega] at e2;rw [List.length_take] at ht;rw [List.length_drop] at hd;constructor
 ·rcases hf with hf | hf
  ·rw [hf] at ht ⊢
   omega
  ·omega
 ·rcases hh with hh | hh
  ·omega
  ·rw [hh] at hd
   omega
end
section
attribute [local go_sem ↓] zt zw
attribute [local go_sem ↓] zt zw
attribute [local go_sem ↓] zt zw
theorem findL_part {l : List RM} {ps : List RK} (hl : OkL l) (h : OkP ps) {i : Nat} (hi : i ≤ ps.length) {k : RK} (wk : k.wf) (ok : okB k = true) : zaj (zah l ps i) k = if i = zbN ps (zu k) then zaj l k else none := by
 rw [znJ h hi]
 induction l with
 | nil => show zaj [] k = _; rw [zds]; split <;> rfl
 | cons x l ih =>
  have IH := ih hl.tail;rw [List.filter_cons, zai]
  by_cases hx : x.key = k
  ·rw [if_pos hx]
   have hc : cd x = zu k := by unfold cd; rw [hx]
   rw [hc]
   by_cases hk : i = zbN ps (zu k)
   ·rw [if_pos (by simpa using hk), zai, if_pos hx, if_pos hk]
   ·rw [if_neg (by simpa using hk), if_neg hk, IH, if_neg hk]
  ·rw [if_neg hx]
   split
   ·rw [zai, if_neg hx, IH]
   ·exact IH
attribute [local go_sem ↓] zt zw
end
section
attribute [local go_sem ↓] zt zw
attribute [local go_sem ↓] zt zw
theorem zgd (ks : List Int) (i id : Int) : (zbu ks i id).length ≤ ks.length + 1 := by
 unfold zbu
 split
 ·simp; omega
 ·omega
theorem zgb (n : Nat) (ps : List RK) (i : Int) (x : RK) : (zbz n ps i x).length ≤ ps.length + 1 := by
 unfold zbz
 split
 ·simp; omega
 ·omega
attribute [local go_sem ↓] zt zw
attribute [local go_sem ↓] zt zw zeW
attribute [local go_sem ↓] zt zw zeW
end
section
attribute [local go_sem ↓] zt zw
end
section
theorem zcz {l : List RM} {ps : List RK} {i : Nat} (h : WfM l) : WfM (zah l ps i) := by
 unfold zah
 split
 ·intro m hm; simp at hm
 ·intro m hm; exact h m (List.mem_filter.1 hm).1
end
end
section
section
attribute [local go_sem ↓] zt zw zfl
attribute [local go_sem ↓] zt zw zfl
end
section
theorem zir (ns : List Int) : OkN (zcp ns) := .inl ⟨rfl, rfl, rfl, rfl, zeX ns 248⟩
attribute [local go_sem ↓] zt zw zaP
end
end
end Go.Proofs.YtmjjjdikpnhpiaaGreat
