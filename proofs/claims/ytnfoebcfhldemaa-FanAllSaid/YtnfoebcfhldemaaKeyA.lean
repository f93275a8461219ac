/- What the functions of layer 3 come to, one: the beginning of a key. -/
import Derived.Test.YtnfoebcfhldemaaKey0
import Derived.Deep.RegionLaw
namespace Go.Proofs.Ytnfoebcfhldemaa
set_option maxRecDepth 100000
open Go.RowKit
set_option linter.unusedVariables false
set_option maxRecDepth 100000 in
set_option maxHeartbeats 1000000 in
theorem key_first (k : RK) (m : Nat) (hm : m ≤ 8) (w : World) : Calls Try.prog 86 #[kv k, .int .i64 m] w fun e w' => e = .returned (kv (firstK k m)) ∧ Below w.heap.size w w' := by
  have HS := keep (splice_first k m hm)
  have hl : (((kbs k).take m).map (Value.int .u8)).length = Nat.min m m := by rcases m with _|_|_|_|_|_|_|_|_|m; all_goals first | rfl | omega
  have HL := keep hl
  have hl9 : 1 + (((kbs k).take m).map (Value.int .u8)).length ≤ 9 := by rw [hl, show Nat.min m m = m from Nat.min_self m]; omega
  clear hl
  have hsl := slice8 m hm
  go_enter Try.func86, Try.ntmps86
  go_wp2
  generalize hW : World.alloc (World.alloc (World.alloc w _) _) _ = W
  have h0 : Arr W w.heap.size 27 (kc k).toArray := by rw [← hW]; exact ((Arr.new w _ _).alloc _).alloc _
  have h1 : Arr W (w.heap.size + 1) 27 (kc zeroK).toArray := by rw [← hW]; exact Arr.alloc (arr_new_at _ (kc zeroK).toArray _ _ (by simp)) _
  have h2 : Arr W (w.heap.size + 1 + 1) 27 [.int .i64 (m : Int), .int .u8 0, .int .u8 0, .int .u8 0, .int .u8 0, .int .u8 0, .int .u8 0, .int .u8 0, .int .u8 0].toArray := by rw [← hW]; exact arr_new_at _ _ _ _ (by simp)
  have hF : Fr w W := by rw [← hW]; exact fr_new (fr_new (fr_new (fr_refl w) _) _) _
  clear hW
  go_region_law (first | (refine step_copy_splice rfl (.tmp 10) (.tmp 13) 66 66 rfl 5 Try.underlying66 u8_size _ _ m 8 m 8 rfl rfl (w.heap.size + 1 + 1) 1 [.int .i64 (m : Int), .int .u8 0, .int .u8 0, .int .u8 0, .int .u8 0, .int .u8 0, .int .u8 0, .int .u8 0, .int .u8 0] 27 h2 (((kbs k).take m).map (Value.int .u8)) HL.out (fun _ => ⟨rfl, _, rfl, fun j v hv => by rw [Addr.add_lit]; exact (h0.cell (1 + j)).trans ((by simp : (kc k).toArray[1 + j]? = (kc k)[1 + j]?).trans (kc_byte k m j v hv))⟩) hl9 (bytes_one _) (w.heap.size + 1 + 1) W (Below.drew (Below.refl _ _)) (by omega) ?_; intro w' hx hb))
  all_goals
    have h3 : Arr w' (w.heap.size + 1 + 1) 27 (kc (firstK k m)).toArray := by rw [← HS.out]; exact hx.out
    have h4 := h1.below hb (by omega)
    have hF2 : Fr w w' := Below.trans hF (hb.mono (by omega))
    clear hx hb
    go_wp2_with (first
      | (refine wpList_load_row rfl 27 (.tmp 5) rfl (w.heap.size + 1 + 1) rfl 27 (kc (firstK k m)).toArray (0, 0) _ h3 Try.underlying27 rfl key_info ?_)
      | (refine wpList_store_row rfl 27 (.tmp 4) (.tmp 15) rfl (w.heap.size + 1) (kc (firstK k m)).toArray rfl rfl 27 (kc zeroK).toArray h4 key_info rfl (kc_all _) ?_))
    exact bodyPost_ret (results_cell_row rfl _ _ (w.heap.size + 1) 27 (kc (firstK k m)).toArray (0, 0) _ rfl (setRow_heap _ _ _ _ _ _ h4) Try.underlying27 rfl key_info) rfl ⟨rfl, below_setRow hF2 (by omega) _⟩
end Go.Proofs.Ytnfoebcfhldemaa
