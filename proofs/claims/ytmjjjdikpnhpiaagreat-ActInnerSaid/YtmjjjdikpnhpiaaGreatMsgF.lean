/- 'awake' of layer 5. -/
import Derived.Test.YtmjjjdikpnhpiaaGreatLawA
import Derived.Deep.RegionWith
import Derived.Deep.Cut
import Derived.Deep.CutRange
import Derived.Test.YtmjjjdikpnhpiaaGreatOwn
import Derived.Deep.RegionHeld3
namespace Go.Proofs.YtmjjjdikpnhpiaaGreat
set_option linter.unusedVariables false
set_option linter.unusedSimpArgs false
set_option maxRecDepth 100000
open Go.RowKit
section
theorem zaX (p v : Value) : Instr.storeAt 64 p v = stS 64 p v := rfl
attribute [local go_sem ↓] zae zt zw
section
variable {W0 W : World} {a b m : RM} {v : RV}
theorem znx (wm : m.wf) (hb : Fr W0 W) : Calls Tryz.prog 98 #[mm m] W fun e w' => e = .returned (.bool (okM m)) ∧ Fr W0 w' := (ziY m wm W).mono fun _ _ ⟨he, hw⟩ => ⟨he, za hb hw⟩
theorem zjc (wm : m.wf) (hb : Fr W0 W) : Calls Tryz.prog 75 #[mm m] W fun e w' => e = .returned (.int .i64 (zc9 m)) ∧ Fr W0 w' := (zou m wm W).mono fun _ _ ⟨he, hw⟩ => ⟨he, za hb hw⟩
theorem zku (wa : a.wf) (wb : b.wf) (oa : okM a = true) (ob : okM b = true) (hb : Fr W0 W) : Calls Tryz.prog 128 #[mm a, mm b] W fun e w' => e = .returned (mm (za7 a b)) ∧ Fr W0 w' := (zk0 a b wa wb oa ob W).mono fun _ _ ⟨he, hw⟩ => ⟨he, za hb hw⟩
theorem zh3 (wm : m.wf) (hb : Fr W0 W) : Calls Tryz.prog 70 #[mm m] W fun e w' => e = .returned (.int .i64 (zc9 m)) ∧ Fr W0 w' := (zmf m wm W).mono fun _ _ ⟨he, hw⟩ => ⟨he, za hb hw⟩
theorem zkf (wa : a.wf) (wb : b.wf) (oa : okM a = true) (ob : okM b = true) (hb : Fr W0 W) : Calls Tryz.prog 69 #[mm a, mm b] W fun e w' => e = .returned (mm (za7 a b)) ∧ Fr W0 w' := (zkG a b wa wb oa ob W).mono fun _ _ ⟨he, hw⟩ => ⟨he, za hb hw⟩
theorem ziu {there : Bool} (wv : v.wf) (ov : there = true → okV v = true) (wm : m.wf) (om : okM m = true) (hb : Fr W0 W) : Calls Tryz.prog 25 #[vv v, .bool there, mm m] W fun e w' => e = .returned (.tuple #[vv (zbx v there m), .bool (zcy m)]) ∧ Fr W0 w' := (zob v there m wv ov wm om W).mono fun _ _ ⟨he, hw⟩ => ⟨he, za hb hw⟩
end
theorem putM_wf {k : RK} (wk : k.wf) {v : RV} (wv : v.wf) {s : Int} (hs : zeb s) : RM.wf ⟨1, s, k, v, 0⟩ := ⟨by simp [zal], hs, wk, wv, by simp [zeb]⟩
theorem zjA {k : RK} (ok : okB k = true) {v : RV} (ov : okV v = true) {s : Int} : okM ⟨1, s, k, v, 0⟩ = true := by simp [okM, ok, ov]
section
attribute [local go_sem ↓] zaX
end
end
section
section
variable {a b c : RM}
theorem zkj (wa : a.wf) (wb : b.wf) : (za7 a b).wf := by
 unfold za7
 split
 ·exact wb
 ·split
  ·exact ⟨by simp [zal], wb.hs, wb.key, zaR _, by simp [zeb]⟩
  ·split
   ·exact ⟨by simp [zal], wb.hs, wb.key, zaR _, by simp [zeb]⟩
   ·exact ⟨wb.hk, wb.hs, wb.key, wb.val, zd6 _⟩
theorem comp_ok (ob : okM b = true) : okM (za7 a b) = true := by
 obtain ⟨_, hk, _, _, hz⟩ := zbp ob;unfold za7
 split
 ·exact ob
 ·rename_i h
  have h3 : b.kind = 3 := by
   rcases Decidable.em (b.kind = 3) with h3 | h3
   ·exact h3
   ·exact absurd (.inl h3) h
  split
  ·exact zjA hk (zd3 _)
  ·split
   ·exact zjA hk (zd3 _)
   ·have hv := hz (by omega)
    simp [okM, h3, hk, hv]
theorem zhS : (za7 a b).key = b.key := by
 unfold za7
 split
 ·rfl
 ·split
  ·rfl
  ·split <;> rfl
end
def withK (m : RM) (k : RK) : RM := { m with key := k }
theorem zaH {m : RM} (om : okM m = true) : okB m.key = true := (zbp om).2.1
end
section
attribute [local go_sem ↓] zae zt zw
theorem zl2 (p v : Value) : Instr.storeAt 37 p v = stS 37 p v := rfl
theorem zgj {v : RV} {t : Bool} {m : RM} (wv : v.wf) (wm : m.wf) : (zbx v t m).wf := by
 unfold zbx
 split
 ·exact wm.val
 ·split
  ·exact zcA
  ·split
   ·exact zaR _
   ·exact zaR _
theorem appV_ok {v : RV} {t : Bool} {m : RM} (om : okM m = true) : okV (zbx v t m) = true := by
 obtain ⟨_, _, h1, _, _⟩ := zbp om;unfold zbx
 split
 ·rename_i h
  exact (h1 h).2
 ·split
  ·decide
  ·split
   ·exact zd3 _
   ·exact zd3 _
section
attribute [local go_sem ↓] zl2
end
end
section
attribute [local go_sem ↓] zae zt zw
theorem zeW (p v : Value) : Instr.storeAt 33 p v = stS 33 p v := rfl
section
attribute [local go_sem ↓] zaX zeW
end
end
section
attribute [local go_sem ↓] zae zt zw
end
section
attribute [local go_sem ↓] zae zt zw
def moreK (k : RK) : RK := { k with n := k.n + 1 }
theorem bytM_of {m : RM} (om : okM m = true) : zc9 m = if m.kind = 1 then 11 + m.key.n + m.val.n else if m.kind = 3 then 18 + m.key.n else 10 + m.key.n := by rw [zc9, if_pos om]
theorem zmB {k : RK} (ok : okB k = true) : 0 ≤ k.n ∧ k.n ≤ 8 := by
 obtain ⟨a, h1, h2, _⟩ := zi4 ok;omega
theorem bytM_bd {m : RM} (om : okM m = true) : 10 ≤ zc9 m ∧ zc9 m ≤ 35 := by
 have hk := zmB (zaH om);rw [bytM_of om]
 split
 ·rename_i h
  obtain ⟨l, h1, h2, _⟩ := ziC ((zbp om).2.2.1 h).2;omega
 ·split <;> omega
section
attribute [local go_sem ↓] zaX
end
end
end Go.Proofs.YtmjjjdikpnhpiaaGreat
