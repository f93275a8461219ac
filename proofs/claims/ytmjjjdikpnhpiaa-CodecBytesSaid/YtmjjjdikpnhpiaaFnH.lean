/- Both halves of the kids, by the program. -/
import Derived.Test.YtmjjjdikpnhpiaaFnE
import Derived.Test.YtmjjjdikpnhpiaaShort
namespace Go.Proofs.Ytmjjjdikpnhpiaa
set_option linter.unusedVariables false
set_option linter.unusedSimpArgs false
set_option maxRecDepth 100000
open Go.RowKit
section
attribute [local go_sem ↓] zt zw zeW
def zgH : Value := .tuple #[.slice none 0 0, .slice none 0 0, kv zr, .slice none 0 0, .slice none 0 0, .bool false]
def zfg (W0 : World) (ks : List Int) (ps : List RK) (m : RK) (e : Ending) (w' : World) : Prop := ∃ A1 c1 A2 c2 A3 c3 A4 c4, e = .returned (.tuple #[.slice A1 2 c1, .slice A2 1 c2, kv m, .slice A3 2 c3, .slice A4 1 c4, .bool true]) ∧ Hid (Own w' W0.heap.size 3 1 A1 2 c1 (zS (ks.take 2))) ∧ Hid (Own w' W0.heap.size 69 9 A2 1 c2 (zm kc (ps.take 1))) ∧ Hid (Own w' W0.heap.size 3 1 A3 2 c3 (zS (ks.drop 2))) ∧ Hid (Own w' W0.heap.size 69 9 A4 1 c4 (zm kc (ps.drop 2))) ∧ Fr W0 w'
abbrev hF4 (A : Option Addr) (c b2 off2 c2 : Nat) (w : World) (m : RK) (s21 s22 s25 s26 s32 s33 s36 s37 : Value) : Act := ⟨#[.slice A 4 c, .slice (some ⟨b2, off2, none⟩) 3 c2, undef, undef, .slice none 0 0, .slice none 0 0, .pointer (some ⟨w.heap.size, 0, none⟩), .slice none 0 0, .slice none 0 0, .bool false, .slice A 4 c, .int .i64 4, .bool false, .bool false, .slice (some ⟨b2, off2, none⟩) 3 c2, .int .i64 3, .bool false, .bool false, undef, .slice A 4 c, .slice A 2 c, s21, s22, .slice (some ⟨b2, off2, none⟩) 3 c2, .slice (some ⟨b2, off2, none⟩) 1 c2, s25, s26, .slice (some ⟨b2, off2, none⟩) 3 c2, .pointer (some ⟨b2, off2 + 9, none⟩), .agg (kc m).toArray, .slice A 4 c, .slice (zam A c 2) 2 (c - 2), s32, s33, .slice (some ⟨b2, off2, none⟩) 3 c2, .slice (zac (some ⟨b2, off2, none⟩) c2 2) 1 (c2 - 2), s36, s37], []⟩
end
section
attribute [local go_sem ↓] zt zw zeW
end
end Go.Proofs.Ytmjjjdikpnhpiaa
