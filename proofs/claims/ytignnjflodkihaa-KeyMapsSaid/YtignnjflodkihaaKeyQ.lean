/- KeyAll, walked. -/
import Derived.Test.YtignnjflodkihaaKeyP
namespace Go.Proofs.Ytignnjflodkihaa
open Go.RowKit Go.Maps
set_option linter.unusedVariables false
section
variable {w0 W : World} {A : Option Addr} {ks : List RK}
theorem kinds_at (hr : Has w0 w0.heap.size A (flat ks)) (hb : Fr w0 W) (n c : Nat) (hl : ks.length = n) (hn : n ≤ 1000000) (hw : WfAll ks) :
    Calls Try.prog 11 #[.slice A n c] W fun e w' => e = .returned (.int .i64 ((kinds ks).length : Int)) ∧ Fr W w' := key_kinds A n c ks W hl hn hw ((hr.below hb).mono hb.size)
theorem order_at (hr : Has w0 w0.heap.size A (flat ks)) (hb : Fr w0 W) (n c : Nat) (hl : ks.length = n) (hn : n ≤ 1000000) (hw : WfAll ks) :
    Calls Try.prog 29 #[.slice A n c] W (OrdOut W ks) := key_order A n c ks W hl hn hw ((hr.below hb).mono hb.size)
theorem ord_wf {os : List RK} (hw : WfAll ks) (h : IsOrd ks os) : WfAll os := fun k hk => hw k ((h.2 k).1 hk).1
end
def txtB (k : RK) : ByteArray := if okB k = true then txt k else ⟨#[]⟩
theorem key_text (k : RK) (wk : k.wf) (W : World) : Calls Try.prog 26 #[kv k] W fun e w' => e = .returned (.string (txtB k)) ∧ Fr W w' := by
  unfold txtB
  by_cases h : okB k = true
  · rw [if_pos h]; exact key_text_yes k wk h W
  · rw [if_neg h]; exact key_text_no k wk (by simpa using h) W
end Go.Proofs.Ytignnjflodkihaa
