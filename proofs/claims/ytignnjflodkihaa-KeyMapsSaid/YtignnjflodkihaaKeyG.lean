/- What the functions of layer 3 come to, seven: 'Next' of the document; both. -/
import Derived.Test.YtignnjflodkihaaKeyF
namespace Go.Proofs.Ytignnjflodkihaa
open Go.RowKit
set_option linter.unusedVariables false

theorem nextK_short {k : RK} (hn : k.n < 8) : nextV (nextK k) = .tuple #[kv (setN k (k.n + 1)), .bool true] := by unfold nextK; rw [if_pos hn]; rfl
theorem nextK_full {k : RK} (hn : k.n = 8) : nextK k = nextAt k 8 := by unfold nextK; rw [if_neg (by omega)]
theorem key_next (k : RK) (wk : k.wf) (ok : okB k = true) (w : World) : Calls Try.prog 25 #[kv k] w fun e w' => e = .returned (nextV (nextK k)) ∧ Below w.heap.size w w' := by
  by_cases hn : k.n < 8
  · rw [nextK_short hn]; exact key_next_short k wk ok hn w
  · have h8 : k.n = 8 := by have := (okB_len ok).2; omega
    rw [nextK_full h8]; exact key_next_full k wk ok h8 w
/-- The bytes from place j on gone, full. -/
def zk (k : RK) (j : Nat) : RK := setN (firstK k j) 8
theorem zk_start {k : RK} (hn : k.n = 8) : zk k 8 = k := by
  obtain ⟨n, b0, b1, b2, b3, b4, b5, b6, b7⟩ := k
  simp only at hn
  subst hn
  simp [zk, setN, firstK]
theorem zk_step (k : RK) (j : Nat) (h : j < 8) : setB (zk k (j + 1)) j 0 = zk k j := by
  rcases j with _|_|_|_|_|_|_|_|j
  all_goals first | omega | simp [zk, setN, firstK, setB]
theorem zk_end (k : RK) (j : Nat) (h : j < 8) : setN (setB (zk k (j + 1)) j (k.at j + 1)) ((j : Int) + 1) = setB (firstK k (j + 1)) j (k.at j + 1) := by
  rcases j with _|_|_|_|_|_|_|_|j
  all_goals first | omega | simp [zk, setN, firstK, setB]
theorem zk_at (k : RK) (j : Nat) (h : j < 8) : (zk k (j + 1)).at j = k.at j := by
  rcases j with _|_|_|_|_|_|_|_|j
  all_goals first | omega | simp [zk, setN, firstK, RK.at]
end Go.Proofs.Ytignnjflodkihaa
