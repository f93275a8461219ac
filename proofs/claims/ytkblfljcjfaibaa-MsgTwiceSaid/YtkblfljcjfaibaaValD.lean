/- The laws of layer 4, walked: what they have in common. -/
import Derived.Test.YtkblfljcjfaibaaValC
import Derived.Test.YtkblfljcjfaibaaOpen
namespace Go.Proofs.Ytkblfljcjfaibaa
open Go.RowKit
set_option linter.unusedVariables false
attribute [local go_sem ↓] val_ld

theorem txt_of {s : ByteArray} (h : s.size ≤ 16) : txtV (ofV s) = s := by
  rw [txtV, if_pos (ofV_ok h)]
  show strOfNums ((nums s ++ _).take (Int.toNat (s.size : Int))) = s
  rw [Int.toNat_natCast, ← nums_len s, List.take_left, str_nums]
section
variable {W0 W : World}
theorem of_at {s : ByteArray} (h : s.size ≤ 16) (hb : Fr W0 W) : Calls Try.prog 34 #[.string s] W fun e w' => e = .returned (.tuple #[vv (ofV s), .int .i64 0]) ∧ Fr W0 w' := (val_of_fits s h W).mono fun _ _ ⟨he, hw⟩ => ⟨he, fr_step hb hw⟩
theorem check_at {v : RV} (wv : v.wf) (hb : Fr W0 W) : Calls Try.prog 24 #[vv v] W fun e w' => e = .returned (.bool (okV v)) ∧ Fr W0 w' := (val_check v wv W).mono fun _ _ ⟨he, hw⟩ => ⟨he, fr_step hb hw⟩
theorem text_at {v : RV} (wv : v.wf) (hb : Fr W0 W) : Calls Try.prog 41 #[vv v] W fun e w' => e = .returned (.string (txtV v)) ∧ Fr W0 w' := (val_text v wv W).mono fun _ _ ⟨he, hw⟩ => ⟨he, fr_step hb hw⟩
theorem number_at {v : RV} (wv : v.wf) (ok : okV v = true) (hb : Fr W0 W) : Calls Try.prog 36 #[vv v] W fun e w' => e = .returned (.int .u64 (numV v)) ∧ Fr W0 w' := (val_number v wv ok W).mono fun _ _ ⟨he, hw⟩ => ⟨he, fr_step hb hw⟩
theorem from_at {n : Int} (hn : 0 ≤ n) (hb : Fr W0 W) : Calls Try.prog 26 #[.int .u64 n] W fun e w' => e = .returned (vv (fromV n)) ∧ Fr W0 w' := (val_from n hn W).mono fun _ _ ⟨he, hw⟩ => ⟨he, fr_step hb hw⟩
theorem plus_at {v : RV} (wv : v.wf) (ok : okV v = true) (k : Int) (hb : Fr W0 W) : Calls Try.prog 27 #[vv v, .int .u64 k] W fun e w' => e = .returned (vv (plusV v k)) ∧ Fr W0 w' := (val_plus v wv ok k W).mono fun _ _ ⟨he, hw⟩ => ⟨he, fr_step hb hw⟩
end
/-- A load of a value, from one world on. -/
theorem ld_fr {W0 : World} {g : Nat} {v : RV} (ha : Arr W0 g 28 (vc v).toArray) (hl : (vc v).length = 17) : ∀ W, Fr W0 W → (ldS 28 (.pointer (some ⟨g, 0, none⟩))).run Try.prog W = .ok (.agg (vc v).toArray) W := fun W h => valS.ld hl (ha.below h ha.lt)
theorem cell_fr {W0 : World} {g T : Nat} {cs : List Value} (ha : Arr W0 g T cs.toArray) (j : Nat) (u : Value) (hu : cs[j]? = some u) : ∀ W, Fr W0 W → W.cell? ⟨g, j, none⟩ = some u := fun W h => by
  rw [(ha.below h ha.lt).cell, ← hu]; simp
def one1 : ByteArray := ⟨#[1]⟩
theorem num_one : numV (ofV one1) = 1 := by decide
theorem plus_one : plusV (ofV one1) 255 = fromV 256 := by decide
end Go.Proofs.Ytkblfljcjfaibaa
