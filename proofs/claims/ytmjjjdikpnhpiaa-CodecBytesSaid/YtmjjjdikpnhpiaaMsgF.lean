/- 'awake' of layer 5. -/
import Derived.Test.YtmjjjdikpnhpiaaLawA
import Derived.Deep.RegionWith
import Derived.Deep.Cut
import Derived.Deep.CutRange
import Derived.Test.YtmjjjdikpnhpiaaOwn
import Derived.Deep.RegionHeld3
namespace Go.Proofs.Ytmjjjdikpnhpiaa
set_option linter.unusedVariables false
set_option linter.unusedSimpArgs false
set_option maxRecDepth 100000
open Go.RowKit
section
theorem zaX (p v : Value) : Instr.storeAt 81 p v = stS 81 p v := rfl
attribute [local go_sem ↓] zae zt zw
section
variable {W0 W : World} {a b m : RM} {v : RV}
theorem znx (wm : m.wf) (hb : Fr W0 W) : Calls Try.prog 82 #[mm m] W fun e w' => e = .returned (.bool (okM m)) ∧ Fr W0 w' := (ziY m wm W).mono fun _ _ ⟨he, hw⟩ => ⟨he, za hb hw⟩
theorem zjc (wm : m.wf) (hb : Fr W0 W) : Calls Try.prog 84 #[mm m] W fun e w' => e = .returned (.int .i64 (zc9 m)) ∧ Fr W0 w' := (zou m wm W).mono fun _ _ ⟨he, hw⟩ => ⟨he, za hb hw⟩
theorem zh3 (wm : m.wf) (hb : Fr W0 W) : Calls Try.prog 90 #[mm m] W fun e w' => e = .returned (.int .i64 (zc9 m)) ∧ Fr W0 w' := (zmf m wm W).mono fun _ _ ⟨he, hw⟩ => ⟨he, za hb hw⟩
end
section
attribute [local go_sem ↓] zaX
end
end
section
section
variable {a b c : RM}
end
def withK (m : RM) (k : RK) : RM := { m with key := k }
theorem zaH {m : RM} (om : okM m = true) : okB m.key = true := (zbp om).2.1
end
section
attribute [local go_sem ↓] zae zt zw
theorem zl2 (p v : Value) : Instr.storeAt 72 p v = stS 72 p v := rfl
section
attribute [local go_sem ↓] zl2
end
end
section
attribute [local go_sem ↓] zae zt zw
theorem zeW (p v : Value) : Instr.storeAt 69 p v = stS 69 p v := rfl
section
attribute [local go_sem ↓] zaX zeW
end
end
section
attribute [local go_sem ↓] zae zt zw
end
section
attribute [local go_sem ↓] zae zt zw
def moreK (k : RK) : RK := { k with n := k.n + 1 }
theorem bytM_of {m : RM} (om : okM m = true) : zc9 m = if m.kind = 1 then 11 + m.key.n + m.val.n else if m.kind = 3 then 18 + m.key.n else 10 + m.key.n := by rw [zc9, if_pos om]
theorem zmB {k : RK} (ok : okB k = true) : 0 ≤ k.n ∧ k.n ≤ 8 := by
 obtain ⟨a, h1, h2, _⟩ := zi4 ok;omega
theorem bytM_bd {m : RM} (om : okM m = true) : 10 ≤ zc9 m ∧ zc9 m ≤ 35 := by
 have hk := zmB (zaH om);rw [bytM_of om]
 split
 ·rename_i h
  obtain ⟨l, h1, h2, _⟩ := ziC ((zbp om).2.2.1 h).2;omega
 ·split <;> omega
section
attribute [local go_sem ↓] zaX
end
end
end Go.Proofs.Ytmjjjdikpnhpiaa
