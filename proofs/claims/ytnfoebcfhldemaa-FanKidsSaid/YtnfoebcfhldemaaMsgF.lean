/- 'awake' of layer 5. -/
import Derived.Test.YtnfoebcfhldemaaLawA
import Derived.Deep.RegionWith
import Derived.Deep.Cut
import Derived.Deep.CutRange
namespace Go.Proofs.Ytnfoebcfhldemaa
set_option maxRecDepth 100000
open Go.RowKit
set_option linter.unusedVariables false
theorem msg_st (p v : Value) : Instr.storeAt 36 p v = stS 36 p v := rfl
attribute [local go_sem ↓] val_ld key_ld msg_ld
section
variable {W0 W : World} {a b m : RM} {v : RV}
theorem mcheck_at (wm : m.wf) (hb : Fr W0 W) : Calls Try.prog 52 #[mm m] W fun e w' => e = .returned (.bool (okM m)) ∧ Fr W0 w' := (msg_check m wm W).mono fun _ _ ⟨he, hw⟩ => ⟨he, fr_step hb hw⟩
theorem mbytes_at (wm : m.wf) (hb : Fr W0 W) : Calls Try.prog 55 #[mm m] W fun e w' => e = .returned (.int .i64 (bytM m)) ∧ Fr W0 w' := (msg_bytes m wm W).mono fun _ _ ⟨he, hw⟩ => ⟨he, fr_step hb hw⟩
theorem mcompose_at (wa : a.wf) (wb : b.wf) (oa : okM a = true) (ob : okM b = true) (hb : Fr W0 W) : Calls Try.prog 82 #[mm a, mm b] W fun e w' => e = .returned (mm (compM a b)) ∧ Fr W0 w' := (msg_compose a b wa wb oa ob W).mono fun _ _ ⟨he, hw⟩ => ⟨he, fr_step hb hw⟩
theorem rmcheck_at (wm : m.wf) (hb : Fr W0 W) : Calls Try.prog 54 #[mm m] W fun e w' => e = .returned (.bool (okM m)) ∧ Fr W0 w' := (ref_mcheck m wm W).mono fun _ _ ⟨he, hw⟩ => ⟨he, fr_step hb hw⟩
theorem rmbytes_at (wm : m.wf) (hb : Fr W0 W) : Calls Try.prog 56 #[mm m] W fun e w' => e = .returned (.int .i64 (bytM m)) ∧ Fr W0 w' := (ref_mbytes m wm W).mono fun _ _ ⟨he, hw⟩ => ⟨he, fr_step hb hw⟩
theorem rmcompose_at (wa : a.wf) (wb : b.wf) (oa : okM a = true) (ob : okM b = true) (hb : Fr W0 W) : Calls Try.prog 60 #[mm a, mm b] W fun e w' => e = .returned (mm (compM a b)) ∧ Fr W0 w' := (ref_compose a b wa wb oa ob W).mono fun _ _ ⟨he, hw⟩ => ⟨he, fr_step hb hw⟩
end
theorem add_wf {k : RK} (wk : k.wf) {s i : Int} (hs : Us64 s) (hi : Us64 i) : RM.wf ⟨3, s, k, zeroV, i⟩ := ⟨by simp [Is64], hs, wk, zeroV_wf, hi⟩
theorem add_ok {k : RK} (ok : okB k = true) {s i : Int} : okM ⟨3, s, k, zeroV, i⟩ = true := by simp [okM, ok]
theorem del_wf {k : RK} (wk : k.wf) {s : Int} (hs : Us64 s) : RM.wf ⟨2, s, k, zeroV, 0⟩ := ⟨by simp [Is64], hs, wk, zeroV_wf, by simp [Us64]⟩
theorem del_ok {k : RK} (ok : okB k = true) {s : Int} : okM ⟨2, s, k, zeroV, 0⟩ = true := by simp [okM, ok]
theorem putM_wf {k : RK} (wk : k.wf) {v : RV} (wv : v.wf) {s : Int} (hs : Us64 s) : RM.wf ⟨1, s, k, v, 0⟩ := ⟨by simp [Is64], hs, wk, wv, by simp [Us64]⟩
theorem putM_ok {k : RK} (ok : okB k = true) {v : RV} (ov : okV v = true) {s : Int} : okM ⟨1, s, k, v, 0⟩ = true := by simp [okM, ok, ov]
theorem lawK_0n : (lawK 0).n = 1 := by rw [lawK_n]; rfl
section
attribute [local go_sem ↓] msg_st
end
end Go.Proofs.Ytnfoebcfhldemaa
