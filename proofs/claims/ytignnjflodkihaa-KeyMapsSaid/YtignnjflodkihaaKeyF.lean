/- What the functions of layer 3 come to, six: 'Next', of the program and of the document. -/
import Derived.Test.YtignnjflodkihaaKeyE
namespace Go.Proofs.Ytignnjflodkihaa
open Go.RowKit
set_option linter.unusedVariables false

/-- k, its byte at place i laid anew. -/
def setB (k : RK) (i : Nat) (z : Int) : RK :=
  match i with
  | 0 => { k with b0 := z } | 1 => { k with b1 := z } | 2 => { k with b2 := z } | 3 => { k with b3 := z } | 4 => { k with b4 := z } | 5 => { k with b5 := z } | 6 => { k with b6 := z } | 7 => { k with b7 := z } | _ => k
theorem setB_cells (k : RK) (i : Nat) (z : Int) (h : i < 8) : (kc k).toArray.setIfInBounds (1 + i) (.int .u8 z) = (kc (setB k i z)).toArray := by
  rcases i with _|_|_|_|_|_|_|_|i
  all_goals first | omega | simp [setB]
def setN (k : RK) (z : Int) : RK := { k with n := z }
theorem setN_cells (k : RK) (z : Int) : (kc k).toArray.setIfInBounds 0 (.int .i64 z) = (kc (setN k z)).toArray := by simp [setN]
/-- The byte at place i risen, what is behind it gone. -/
def bump (k : RK) (i : Nat) : RK := setB (firstK k (i + 1)) i (k.at i + 1)
/-- The next one of a full key, looked for from place i down. -/
def nextAt (k : RK) : Nat → Option RK
  | 0 => none
  | i + 1 => if k.at i = 255 then nextAt k i else some (bump k i)
/-- The next key. -/
def nextK (k : RK) : Option RK := if k.n < 8 then some (setN k (k.n + 1)) else nextAt k 8
/-- What is handed back. -/
def nextV : Option RK → Value
  | some k => .tuple #[kv k, .bool true]
  | none => .tuple #[kv zeroK, .bool false]
theorem first_at (k : RK) (i : Nat) (h : i < 8) : (firstK k (i + 1)).at i = k.at i := by
  rcases i with _|_|_|_|_|_|_|_|i
  all_goals first | omega | simp [firstK, RK.at]
set_option maxRecDepth 100000 in
set_option maxHeartbeats 2000000 in
theorem key_next_short (k : RK) (wk : k.wf) (ok : okB k = true) (hn : k.n < 8) (w : World) : Calls Try.prog 25 #[kv k] w fun e w' => e = .returned (.tuple #[kv (setN k (k.n + 1)), .bool true]) ∧ Below w.heap.size w w' := by
  have l0 := (okB_len ok).1
  have d1 : decide (k.n < 8) = true := by simpa using hn
  have HC := keep (setN_cells k (k.n + 1))
  go_enter Try.func25, Try.ntmps25
  go_wp2_with (first
    | (go_at_call 28; refine (key_check k wk _).mono ?_; rw [ok]; rintro e w' ⟨rfl, hb⟩
       have h3 := (Arr.alloc (Arr.new w (kc k).toArray 30) (.cells (kc zeroK).toArray 30)).below hb (by simp; omega)
       have h4 := (arr_new_at (w.alloc (.cells (kc k).toArray 30)) (kc zeroK).toArray 30 (w.heap.size + 1) (by simp)).below hb (by simp)
       have hF := fr_step (fr_new (fr_new (fr_refl w) (.cells (kc k).toArray 30)) (.cells (kc zeroK).toArray 30)) hb
       have hc : w'.cell? ⟨w.heap.size, 0, none⟩ = some (.int .i64 k.n) := h3.cell 0
       have hf := h3.free 0
       have h5 := h3.set 0 (.int .i64 (k.n + 1))
       rw [HC.out] at h5
       have h6 := h4.other ⟨w.heap.size, 0, none⟩ (by simp) (.int .i64 (k.n + 1))
       clear hb)
    | (refine wpList_load_row rfl 30 (.tmp 1) rfl w.heap.size rfl 30 (kc (setN k (k.n + 1))).toArray (0, 0) _ h5 Try.underlying30 rfl key_info ?_)
    | (refine wpList_store_row rfl 30 (.tmp 2) (.tmp 17) rfl (w.heap.size + 1) (kc (setN k (k.n + 1))).toArray rfl rfl 30 (kc zeroK).toArray h6 key_info rfl (kc_all _) ?_)
    | fail)
  exact bodyPost_ret (results_cell_tmp rfl _ _ (w.heap.size + 1) 30 (kc (setN k (k.n + 1))).toArray (0, 0) _ rfl (setRow_heap _ _ _ _ _ _ h6) Try.underlying30 rfl key_info) rfl ⟨rfl, below_setRow (hF.setCell (by simp) _) (by omega) _⟩
set_option maxRecDepth 100000 in
set_option maxHeartbeats 4000000 in
theorem key_next_full (k : RK) (wk : k.wf) (ok : okB k = true) (hn : k.n = 8) (w : World) : Calls Try.prog 25 #[kv k] w fun e w' => e = .returned (nextV (nextAt k 8)) ∧ Below w.heap.size w w' := by
  have Hn := keep hn
  clear hn
  go_enter Try.func25, Try.ntmps25
  go_wp2_with (first
    | (go_at_call 28; refine (key_check k wk _).mono ?_; rw [ok]; rintro e w' ⟨rfl, hb⟩
       have h3 := (Arr.alloc (Arr.new w (kc k).toArray 30) (.cells (kc zeroK).toArray 30)).below hb (by simp; omega)
       have h4 := (arr_new_at (w.alloc (.cells (kc k).toArray 30)) (kc zeroK).toArray 30 (w.heap.size + 1) (by simp)).below hb (by simp)
       have hF := fr_step (fr_new (fr_new (fr_refl w) (.cells (kc k).toArray 30)) (.cells (kc zeroK).toArray 30)) hb
       have hc : w'.cell? ⟨w.heap.size, 0, none⟩ = some (.int .i64 8) := (h3.cell 0).trans (by rw [← Hn.out]; rfl)
       clear hb)
    | fail)
  go_loop [4] (fun i => ∃ j : Nat, j ≤ 8 ∧ i = .int .i64 j ∧ Hid (nextAt k 8 = nextAt k j)) (fun i => (intOf i).toNat)
  case atStart => exact ⟨8, by omega, rfl, keep rfl⟩
  case round =>
    obtain ⟨j, hj, rfl, Hx⟩ := hrel
    rcases j with _|j
    · go_wp2_with (first
        | (refine wpList_store_row rfl 30 (.tmp 2) (.tmp 34) rfl (w.heap.size + 1) (kc zeroK).toArray rfl rfl 30 (kc zeroK).toArray h4 key_info rfl (kc_all _) ?_)
        | fail)
      exact bodyPost_ret (results_cell_tmp rfl _ _ (w.heap.size + 1) 30 (kc zeroK).toArray (0, 0) _ rfl (setRow_heap _ _ _ _ _ _ h4) Try.underlying30 rfl key_info) rfl ⟨by rw [Hx.out]; rfl, below_setRow hF (by omega) _⟩
    · rw [show (((j + 1 : Nat) : Int)) = (j : Int) + 1 from by omega]
      have hcb : w'.cell? ⟨w.heap.size, 1 + j, none⟩ = some (.int .u8 (k.at j)) := (h3.cell (1 + j)).trans (kc_at k j (by omega))
      by_cases hb : k.at j = 255
      · have Hb := keep hb
        rw [hb] at hcb
        clear hb
        go_wp2_with fail
        go_round
        case rel => exact ⟨j, by omega, by go_num, keep (by rw [Hx.out, nextAt, if_pos Hb.out])⟩
        case measure => simp [intOf]
      · have d2 : (k.at j == 255) = false := by simpa using hb
        have Hb := keep hb
        clear hb
        have hby := at_byt wk j
        have hlt : k.at j + 1 ≤ 255 := by have := Hb.out; have := hby.2; omega
        have hge := hby.1
        have d3 : (((j : Int) + 1) == 0) = false := by simp; omega
        have hfst : ∀ W, Calls Try.prog 35 #[kv k, .int .i64 ((j : Int) + 1)] W fun e w' => e = .returned (kv (firstK k (j + 1))) ∧ Below W.heap.size W w' := fun W => by
          have h := key_first k (j + 1) (by omega) W
          rwa [show ((j + 1 : Nat) : Int) = (j : Int) + 1 from by omega] at h
        have hat := first_at k j (by omega)
        have HS := keep (setB_cells (firstK k (j + 1)) j (k.at j + 1) (by omega))
        have HR : Hid (nextV (nextAt k 8) = .tuple #[kv (setB (firstK k (j + 1)) j (k.at j + 1)), .bool true]) := keep (by rw [Hx.out, nextAt, if_neg Hb.out]; rfl)
        have HA := fun (W : World) (g : Nat) (h : Arr W g 30 (kc (firstK k (j + 1))).toArray) => (h.cell (1 + j)).trans ((kc_at _ j (by omega)).trans (by rw [hat]))
        generalize firstK k (j + 1) = F at hfst HS HR HA
        generalize setB F j (k.at j + 1) = G at HS HR
        clear hat
        go_wp2_with (first
          | (go_at_call 35; refine (hfst _).mono ?_; rintro e w2 ⟨rfl, hb2⟩; have h6 := h4.below hb2 h4.lt; have hF2 := fr_step hF hb2; have hz := hb2.size; have hz4 := h4.lt; clear hb2)
          | (refine wpList_load_row rfl 30 (.tmp 1) rfl w.heap.size rfl 30 (kc k).toArray (0, 0) _ h3 Try.underlying30 rfl key_info ?_)
          | (refine wpList_store_row rfl 30 (.tmp 5) (.tmp 37) rfl w2.heap.size (kc F).toArray rfl rfl 30 (kc zeroK).toArray (arr_new_at _ _ _ _ rfl) key_info rfl (kc_all _) ?_
             generalize hX : World.setRow _ _ _ = W3
             have h7 : Arr W3 w2.heap.size 30 (kc F).toArray := by rw [← hX]; exact setRow_heap _ _ _ _ _ _ (arr_new_at _ (kc zeroK).toArray _ _ rfl)
             have h8 : Arr W3 (w.heap.size + 1) 30 (kc zeroK).toArray := by rw [← hX]; exact (h6.alloc _).below (below_setRow (Below.refl w2.heap.size _) (Nat.le_refl _) _) h6.lt
             have hF3 : Fr w W3 := by rw [← hX]; exact below_setRow (fr_new hF2 _) (by omega) _
             clear hX
             have hcF := HA _ _ h7
             have hfF := h7.free (1 + j)
             have h9 := h7.set (1 + j) (.int .u8 (k.at j + 1))
             rw [HS.out] at h9
             have h10 := h8.other ⟨w2.heap.size, 1 + j, none⟩ (by simp; have := h6.lt; omega) (.int .u8 (k.at j + 1)))
          | (refine wpList_load_row rfl 30 (.tmp 5) rfl w2.heap.size rfl 30 (kc G).toArray (0, 0) _ h9 Try.underlying30 rfl key_info ?_)
          | (refine wpList_store_row rfl 30 (.tmp 2) (.tmp 46) rfl (w.heap.size + 1) (kc G).toArray rfl rfl 30 (kc zeroK).toArray h10 key_info rfl (kc_all _) ?_)
          | fail)
        exact bodyPost_ret (results_cell_tmp rfl _ _ (w.heap.size + 1) 30 (kc G).toArray (0, 0) _ rfl (setRow_heap _ _ _ _ _ _ h10) Try.underlying30 rfl key_info) rfl ⟨by rw [HR.out]; rfl, below_setRow (hF3.setCell (by simp; omega) _) (by omega) _⟩
end Go.Proofs.Ytignnjflodkihaa
