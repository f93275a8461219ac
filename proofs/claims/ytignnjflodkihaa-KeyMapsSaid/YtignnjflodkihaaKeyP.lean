/- KeyTexts, walked. -/
import Derived.Test.YtignnjflodkihaaKeyP0
namespace Go.Proofs.Ytignnjflodkihaa
open Go.RowKit Go.Maps
set_option linter.unusedVariables false
theorem key_text_at {w0 W : World} (s : ByteArray) (hs : s.size ≤ 8) (hb : Fr w0 W) : Calls Try.prog 26 #[kv (ofS s)] W fun e w' => e = .returned (.string s) ∧ Fr w0 w' :=
  (key_text_yes (ofS s) (ofS_wf s hs) (ofS_ok s hs) W).mono fun _ _ ⟨he, hw⟩ => ⟨by rw [he, txt_ofS s hs], fr_step hb hw⟩
end Go.Proofs.Ytignnjflodkihaa
