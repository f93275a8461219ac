/- What the functions of layer 3 come to, seven: 'Next' of the document; both. -/
import Derived.Test.YtfjglbkolhadaaaKeyF
namespace Go.Proofs.Ytfjglbkolhadaaa
open Go.RowKit
set_option linter.unusedVariables false

theorem nextK_short {k : RK} (hn : k.n < 8) : nextV (nextK k) = .tuple #[kv (setN k (k.n + 1)), .bool true] := by unfold nextK; rw [if_pos hn]; rfl
theorem nextK_full {k : RK} (hn : k.n = 8) : nextK k = nextAt k 8 := by unfold nextK; rw [if_neg (by omega)]
theorem key_next (k : RK) (wk : k.wf) (ok : okB k = true) (w : World) : Calls Try.prog 22 #[kv k] w fun e w' => e = .returned (nextV (nextK k)) ∧ Below w.heap.size w w' := by
  by_cases hn : k.n < 8
  · rw [nextK_short hn]; exact key_next_short k wk ok hn w
  · have h8 : k.n = 8 := by have := (okB_len ok).2; omega
    rw [nextK_full h8]; exact key_next_full k wk ok h8 w
set_option maxHeartbeats 2000000 in
theorem ref_next_short (k : RK) (wk : k.wf) (ok : okB k = true) (hn : k.n < 8) (w : World) : Calls Try.prog 23 #[kv k] w fun e w' => e = .returned (.tuple #[kv (setN k (k.n + 1)), .bool true]) ∧ Below w.heap.size w w' := by
  have l0 := (okB_len ok).1
  have d1 : decide (k.n < 8) = true := by simpa using hn
  have HC := keep (setN_cells k (k.n + 1))
  go_enter Try.func23, Try.ntmps23

  go_wp2_with fail
  exact bodyPost_ret (results_cell_tmp rfl _ _ (w.heap.size + 1) 24 (kc (setN k (k.n + 1))).toArray (0, 0) _ rfl (arr_new_at _ _ _ _ (by simp)) Try.underlying24 rfl key_info) rfl ⟨rfl, fr_new (fr_new (fr_refl w) _) _⟩
/-- The bytes from place j on gone, full. -/
def zk (k : RK) (j : Nat) : RK := setN (firstK k j) 8
theorem zk_start {k : RK} (hn : k.n = 8) : zk k 8 = k := by
  obtain ⟨n, b0, b1, b2, b3, b4, b5, b6, b7⟩ := k
  simp only at hn
  subst hn
  simp [zk, setN, firstK]
theorem zk_step (k : RK) (j : Nat) (h : j < 8) : setB (zk k (j + 1)) j 0 = zk k j := by
  rcases j with _|_|_|_|_|_|_|_|j
  all_goals first | omega | simp [zk, setN, firstK, setB]
theorem zk_end (k : RK) (j : Nat) (h : j < 8) : setN (setB (zk k (j + 1)) j (k.at j + 1)) ((j : Int) + 1) = setB (firstK k (j + 1)) j (k.at j + 1) := by
  rcases j with _|_|_|_|_|_|_|_|j
  all_goals first | omega | simp [zk, setN, firstK, setB]
theorem zk_at (k : RK) (j : Nat) (h : j < 8) : (zk k (j + 1)).at j = k.at j := by
  rcases j with _|_|_|_|_|_|_|_|j
  all_goals first | omega | simp [zk, setN, firstK, RK.at]
set_option maxHeartbeats 4000000 in
theorem ref_next_full (k : RK) (wk : k.wf) (hn : k.n = 8) (w : World) : Calls Try.prog 23 #[kv k] w fun e w' => e = .returned (nextV (nextAt k 8)) ∧ Below w.heap.size w w' := by
  have hz := zk_start hn
  have Hn := keep hn
  have d1 : decide (k.n < 8) = false := by simp; omega
  have HZ := keep hz
  clear hn hz
  go_enter Try.func23, Try.ntmps23
  go_wp2_with fail
  generalize hW : World.alloc (World.alloc w _) _ = W
  have hA : Arr W w.heap.size 24 (kc k).toArray := by rw [← hW]; exact (Arr.new w _ _).alloc _
  have hB : Arr W (w.heap.size + 1) 24 (kc zeroK).toArray := by rw [← hW]; exact arr_new_at _ _ _ _ (by simp)
  have hF : Fr w W := by rw [← hW]; exact fr_new (fr_new (fr_refl w) _) _
  clear hW
  go_loopg [4] 8 (fun g i wr => ∃ j : Nat, j ≤ 8 ∧ g = j ∧ i = .int .i64 ((j : Int) - 1) ∧ Hid (nextAt k 8 = nextAt k j) ∧ Arr wr w.heap.size 24 (kc (zk k j)).toArray ∧ Arr wr (w.heap.size + 1) 24 (kc zeroK).toArray ∧ Fr w wr)
  case atStart => exact ⟨8, by omega, rfl, rfl, keep rfl, by rw [HZ.out]; exact hA, hB, hF⟩
  case round =>
    clear hA hB hF
    obtain ⟨j, hj, hg, rfl, Hx, hA, hB, hF⟩ := hrel
    have Hg := keep hg
    clear hg
    rcases j with _|j
    · go_wp2_with (first
        | (refine wpList_store_row rfl 24 (.tmp 2) (.tmp 37) rfl (w.heap.size + 1) (kc zeroK).toArray rfl rfl 24 (kc zeroK).toArray hB key_info rfl (kc_all _) ?_)
        | fail)
      exact bodyPost_ret (results_cell_tmp rfl _ _ (w.heap.size + 1) 24 (kc zeroK).toArray (0, 0) _ rfl (setRow_heap _ _ _ _ _ _ hB) Try.underlying24 rfl key_info) rfl ⟨by rw [Hx.out]; rfl, below_setRow hF (by omega) _⟩
    · rw [show (((j + 1 : Nat) : Int)) - 1 = (j : Int) from by omega]
      have hcb : wr.cell? ⟨w.heap.size, 1 + j, none⟩ = some (.int .u8 (k.at j)) := (hA.cell (1 + j)).trans ((kc_at _ j (by omega)).trans (by rw [zk_at k j (by omega)]))
      have hfb := hA.free (1 + j)
      by_cases hb : k.at j = 255
      · have d2 : decide (k.at j < 255) = false := by simp; omega
        have Hb := keep hb
        have h5 := hA.set (1 + j) (.int .u8 0)
        rw [setB_cells _ j 0 (by omega), zk_step k j (by omega)] at h5
        have h6 := hB.other ⟨w.heap.size, 1 + j, none⟩ (by simp) (.int .u8 0)
        clear hb
        go_wp2_with fail
        go_roundg (gk - 1)
        case rel => exact ⟨j, by omega, by have := Hg.out; omega, by go_num, keep (by rw [Hx.out, nextAt, if_pos Hb.out]), h5, h6, hF.setCell (by simp) _⟩
        case measure => have := Hg.out; omega
      · have hby := at_byt wk j
        have hle : k.at j ≤ 255 := hby.2
        have hge : 0 ≤ k.at j := hby.1
        have d2 : decide (k.at j < 255) = true := by simp; omega
        have hlt : k.at j + 1 ≤ 255 := by omega
        have Hb := keep hb
        have HR : Hid (nextV (nextAt k 8) = .tuple #[kv (setB (firstK k (j + 1)) j (k.at j + 1)), .bool true]) := keep (by rw [Hx.out, nextAt, if_neg Hb.out]; rfl)
        have h5 := hA.set (1 + j) (.int .u8 (k.at j + 1))
        have hc0 : (wr.setCell ⟨w.heap.size, 1 + j, none⟩ (.int .u8 (k.at j + 1))).cell? ⟨w.heap.size, 0, none⟩ = some (.int .i64 8) := by
          rw [setB_cells _ j _ (by omega)] at h5
          refine (h5.cell 0).trans ?_
          rcases j with _|_|_|_|_|_|_|_|j
          all_goals first | rfl | omega
        have hf0 := h5.free 0
        have h7 := h5.set 0 (.int .i64 ((j : Int) + 1))
        rw [setB_cells _ j _ (by omega), setN_cells, zk_end k j (by omega)] at h7
        have h8 := (hB.other ⟨w.heap.size, 1 + j, none⟩ (by simp) (.int .u8 (k.at j + 1))).other ⟨w.heap.size, 0, none⟩ (by simp) (.int .i64 ((j : Int) + 1))
        clear hb
        generalize setB (firstK k (j + 1)) j (k.at j + 1) = G at *
        go_wp2_with (first
          | (refine wpList_load_row rfl 24 (.tmp 1) rfl w.heap.size rfl 24 (kc G).toArray (0, 0) _ h7 Try.underlying24 rfl key_info ?_)
          | (refine wpList_store_row rfl 24 (.tmp 2) (.tmp 33) rfl (w.heap.size + 1) (kc G).toArray rfl rfl 24 (kc zeroK).toArray h8 key_info rfl (kc_all _) ?_)
          | fail)
        exact bodyPost_ret (results_cell_tmp rfl _ _ (w.heap.size + 1) 24 (kc G).toArray (0, 0) _ rfl (setRow_heap _ _ _ _ _ _ h8) Try.underlying24 rfl key_info) rfl ⟨by rw [HR.out]; rfl, below_setRow ((hF.setCell (by simp) _).setCell (by simp) _) (by omega) _⟩
theorem ref_next (k : RK) (wk : k.wf) (ok : okB k = true) (w : World) : Calls Try.prog 23 #[kv k] w fun e w' => e = .returned (nextV (nextK k)) ∧ Below w.heap.size w w' := by
  by_cases hn : k.n < 8
  · rw [nextK_short hn]; exact ref_next_short k wk ok hn w
  · have h8 : k.n = 8 := by have := (okB_len ok).2; omega
    rw [nextK_full h8]; exact ref_next_full k wk h8 w
end Go.Proofs.Ytfjglbkolhadaaa
