/- Keys as values: a number and eight bytes. -/
import Derived.Test.YtmjjjdikpnhpiaaGreatRows
import Derived.Test.YtmjjjdikpnhpiaaGreatBase
import Derived.DeepKeys5
import Derived.Maps.OwnSet
import Derived.Laws.CopyOwn
import Derived.Laws.Rows
import Derived.WalkLawsBesides
import Derived.Deep.RegionLaw
import Derived.Deep.RegionHeld3
import Derived.BigQuiet
import Derived.Deep.QuietTactic
import Derived.Outline
import Derived.Lib.BufferWrite
import Derived.Lib.SlBuf
import Derived.Laws.BytesArg
import Derived.Deep.LoopGhost
namespace Go.Proofs.YtmjjjdikpnhpiaaGreat
set_option linter.unusedVariables false
set_option linter.unusedSimpArgs false
set_option maxRecDepth 100000
open Go.RowKit
section
structure RK where
 n : Int
 b0 : Int
 b1 : Int
 b2 : Int
 b3 : Int
 b4 : Int
 b5 : Int
 b6 : Int
 b7 : Int
 deriving DecidableEq, Inhabited
abbrev kc (k : RK) : List Value := [.int .i64 k.n, .int .u8 k.b0, .int .u8 k.b1, .int .u8 k.b2, .int .u8 k.b3, .int .u8 k.b4, .int .u8 k.b5, .int .u8 k.b6, .int .u8 k.b7]
abbrev kv (k : RK) : Value := .agg #[.int .i64 k.n, .int .u8 k.b0, .int .u8 k.b1, .int .u8 k.b2, .int .u8 k.b3, .int .u8 k.b4, .int .u8 k.b5, .int .u8 k.b6, .int .u8 k.b7]
def Byt (z : Int) : Prop := 0 ≤ z ∧ z ≤ 255
structure RK.wf (k : RK) : Prop where
 hn : -9223372036854775808 ≤ k.n ∧ k.n ≤ 9223372036854775807
 h0 : Byt k.b0
 h1 : Byt k.b1
 h2 : Byt k.b2
 h3 : Byt k.b3
 h4 : Byt k.b4
 h5 : Byt k.b5
 h6 : Byt k.b6
 h7 : Byt k.b7
def RK.at (k : RK) : Nat → Int
 | 0 => k.b0 | 1 => k.b1 | 2 => k.b2 | 3 => k.b3 | 4 => k.b4 | 5 => k.b5 | 6 => k.b6 | 7 => k.b7 | _ => 0
def zbe (k : RK) (m : Nat) : RK := ⟨m, if 0 < m then k.b0 else 0, if 1 < m then k.b1 else 0, if 2 < m then k.b2 else 0, if 3 < m then k.b3 else 0, if 4 < m then k.b4 else 0, if 5 < m then k.b5 else 0, if 6 < m then k.b6 else 0, if 7 < m then k.b7 else 0⟩
def zr : RK := ⟨0, 0, 0, 0, 0, 0, 0, 0, 0⟩
theorem zC : (Tryz.prog.info? 33).map (·.size) = some 9 := by kernel_rfl
theorem zhx : (Tryz.prog.info? 5).map (·.size) = some 1 := by kernel_rfl
theorem zgJ : ∀ (l : List Int), ∀ v ∈ l.map (Value.int .u8), v.oneCell' = true := by
 intro l v hv;obtain ⟨z, _, rfl⟩ := List.mem_map.1 hv;rfl
theorem zcV (w : World) (cs : Array Value) (T g : Nat) (hg : w.heap.size = g) : Arr (w.alloc (.cells cs T)) g T cs := hg ▸ Arr.new w cs T
def kbs (k : RK) : List Int := [k.b0, k.b1, k.b2, k.b3, k.b4, k.b5, k.b6, k.b7]
theorem zgx {B g : Nat} {a w : World} (h : Below B a w) (hg : B ≤ g) (cs : Array Value) : Below B a (w.setRow g cs) :=
 h.trans ⟨rfl, rfl, rfl, by simp [World.setRow], fun k hk => by simp only [World.setRow, Array.getElem?_modify]; rw [if_neg (by omega)]⟩
theorem zj0 (k : RK) (m : Nat) (hm : m ≤ 8) : splice [.int .i64 (m : Int), .int .u8 0, .int .u8 0, .int .u8 0, .int .u8 0, .int .u8 0, .int .u8 0, .int .u8 0, .int .u8 0] 1 (((kbs k).take m).map (Value.int .u8)) = kc (zbe k m) := by
 rcases m with _|_|_|_|_|_|_|_|_|m
 all_goals first | (simp [splice, kbs, zbe]; done) | omega
theorem zU (k : RK) : ∀ v ∈ kc k, v.oneCell' = true := by
 intro v hv;simp at hv
 rcases hv with rfl | rfl | rfl | rfl | rfl | rfl | rfl | rfl | rfl <;> rfl
theorem kc_all (k : RK) : (kc k).toArray.all (·.oneCell') = true := by simp [Value.oneCell']
theorem kc_byte (k : RK) (m j : Nat) (v : Value) (h : (((kbs k).take m).map (Value.int .u8))[j]? = some v) : (kc k)[1 + j]? = some v := by
 rw [List.getElem?_map] at h
 have h' : (((kbs k).map (Value.int .u8)))[j]? = some v := by
  rw [List.getElem?_map]
  have hj : j < m := by
   rcases Nat.lt_or_ge j m with h1 | h1
   ·exact h1
   ·rw [List.getElem?_eq_none (by simp; omega)] at h
    simp at h
  rw [List.getElem?_take_of_lt hj] at h;exact h
 rw [← h', Nat.add_comm];rfl
theorem slice8 (m : Nat) (hm : m ≤ 8) (g : Nat) (W : World) : (Instr.sliceAt 31 (.pointer (some ⟨g, 1, none⟩)) none (some (.int .i64 (m : Int))) none).run Tryz.prog W = .ok (.slice (some ⟨g, 1, none⟩) m 8) W := by
 have hA : (Tryz.prog.arrayLen 31) = 8 := by kernel_rfl
 have h := run_sliceAt_array_h (P := Tryz.prog) (w := W) (t := 31) (a := ⟨g, 1, none⟩) (ht := by kernel_rfl) .i64 (m : Int) (by omega) (by rw [hA]; omega);rw [hA] at h;rw [h];have hs : (sizeOf (Tryz.prog.elem 31)).run Tryz.prog W = .ok 1 W := by kernel_rfl
 rw [hs];simp [Result.andThen, slicedAt, Addr.add]
theorem zg1 {P : Program} {fn : Func} {p t : Tmp} {ty : TypeId} (h : fn.results = #[.cell p ty, .tmp t]) (tmps : Array Value) (w : World) (g : Nat) (T : TypeId) (cs : Array Value) (fr : Nat × Nat) (d : TypeDesc)
 (hp : tmps.getD p undef = .pointer (some ⟨g, 0, none⟩)) (hg : w.heap[g]? = some (.cells cs T fr))
 (hu : P.underlying ty = some d) (hd : (match d with | .struct _ | .array _ _ => true | _ => false) = true) (hi : (P.info? ty).map (·.size) = some cs.size) :
 (results fn tmps).run P w = .ok (.tuple #[.agg cs, tmps.getD t undef]) w := by
 have hp' : tmps[p]?.getD undef = .pointer (some ⟨g, 0, none⟩) := by simpa using hp
 simp [results, h, hp', asAddr, run_loadVar_row w g T ty cs fr d hg hu hd hi]
end
section
theorem zkz : Tryz.prog.keyType 33 = true := by kernel_rfl
theorem zh8 : Tryz.prog.keyTypeAt (Tryz.prog.types.size + 1) 33 = true := by kernel_rfl
theorem zie : (match Tryz.prog.underlying 33 with | some (.array _ _) | some (.struct _) => true | _ => false) = true := by kernel_rfl
theorem znd : (33 : TypeId) < Tryz.prog.types.size := of_decide_eq_true (by kernel_rfl)
theorem zgp : laidOutB Tryz.prog = true := by kernel_rfl
theorem zdd : decide (Tryz.prog.types.size + 2 ≤ 10000) = true := by kernel_rfl
theorem key_law : WideMaps.KeyLaw Tryz.prog 33 := deep_law_gate zgp (of_decide_eq_true zdd) znd zkz zie
theorem znB : Go.Maps.Keyed Tryz.prog 33 := .of_law key_law
theorem zei : Tryz.prog.cellsOf 33 = 9 := by kernel_rfl
theorem zjl : Tryz.prog.cellsOf 31 = 8 := by kernel_rfl
theorem zcT : Tryz.prog.cellsOf 3 = 1 := by kernel_rfl
theorem zgs : Tryz.prog.cellsOf 5 = 1 := by kernel_rfl
theorem zbS {z : Int} (h : Byt z) : (Lit.int .u8 z).wf = true := by
 unfold Byt at h;simp [Lit.wf, IntKind.min, IntKind.max, IntKind.signed, IntKind.bits]; omega
theorem zh0 {z : Int} (h : -9223372036854775808 ≤ z ∧ z ≤ 9223372036854775807) : (Lit.int .i64 z).wf = true := by
 simp [Lit.wf, IntKind.min, IntKind.max, IntKind.signed, IntKind.bits]; omega
def zik (k : RK) : List Lit := [.int .i64 k.n, .int .u8 k.b0, .int .u8 k.b1, .int .u8 k.b2, .int .u8 k.b3, .int .u8 k.b4, .int .u8 k.b5, .int .u8 k.b6, .int .u8 k.b7]
def klit (k : RK) : Lit := .string (keyBytes (zik k))
theorem zeS : Tryz.prog.types.size + 1 ≤ 10000 := by have := of_decide_eq_true zdd; omega
theorem key_lits (k : RK) (h : k.wf) : Tryz.prog.keyLits (Tryz.prog.types.size + 1) 33 (kc k) = some (zik k) := by
 obtain ⟨D, hD⟩ : ∃ D, Tryz.prog.types.size + 1 = D + 1 + 1 + 1 := ⟨Tryz.prog.types.size - 2, by have h : 33 < Tryz.prog.types.size := znd; omega⟩;rw [hD];simp [Program.keyLits, Tryz.underlying33, Tryz.underlying3, Tryz.underlying31, Tryz.underlying5, zei, zjl, zcT, zgs, zh0 h.hn, zbS h.h0, zbS h.h1, zbS h.h2, zbS h.h3, zbS h.h4, zbS h.h5, zbS h.h6, zbS h.h7, zik, List.range, List.range.loop]
theorem zgQ (k : RK) (h : k.wf) : keyOf Tryz.prog 33 (kv k) = some (klit k) := by
 have hf : (kv k).formed Tryz.prog 33 = true := by simp [Value.formed, Tryz.underlying33, zei]
 have hl := key_lits k h;simp only [keyOf, Tryz.underlying33, zkz, hf, Bool.and_self, if_true, Value.cells];rw [hl];rfl
theorem kv_inj {a b : RK} (h : kv a = kv b) : a = b := by
 cases a; cases b; simp at h; simp [h]
theorem zkm {a b : RK} (ha : a.wf) (hb : b.wf) (h : klit a = klit b) : a = b := kv_inj (znB.inj (zgQ a ha) (h ▸ zgQ b hb))
theorem zcH {a b : RK} (ha : a.wf) (hb : b.wf) (W : World) : (binOp .eql 33 (kv a) (kv b)).run Tryz.prog W = .ok (.bool (decide (a = b))) W := by
 obtain ⟨r, h1, h2⟩ := run_equal_deep W (m := Tryz.prog.types.size + 1) zeS zh8 zie (zgQ a ha) (zgQ b hb)
 have : r = decide (a = b) := by
  rw [Bool.eq_iff_iff, h2, decide_eq_true_iff];exact ⟨zkm ha hb, fun e => by rw [e]⟩
 simp only [binOp, Sem.run_bind, h1, Result.andThen_ok, Sem.run_pure, this]
theorem zjI {a b : RK} (ha : a.wf) (hb : b.wf) (W : World) : (binOp .neq 33 (kv a) (kv b)).run Tryz.prog W = .ok (.bool (!decide (a = b))) W := by
 obtain ⟨r, h1, h2⟩ := run_equal_deep W (m := Tryz.prog.types.size + 1) zeS zh8 zie (zgQ a ha) (zgQ b hb)
 have : r = decide (a = b) := by
  rw [Bool.eq_iff_iff, h2, decide_eq_true_iff];exact ⟨zkm ha hb, fun e => by rw [e]⟩
 simp only [binOp, Sem.run_bind, h1, Result.andThen_ok, Sem.run_pure, this]
end
section
set_option maxRecDepth 100000 in
set_option maxHeartbeats 1000000 in
theorem znO (k : RK) (m : Nat) (hm : m ≤ 8) (w : World) : Calls Tryz.prog 116 #[kv k, .int .i64 m] w fun e w' => e = .returned (kv (zbe k m)) ∧ Below w.heap.size w w' := by
 have HS := zb (zj0 k m hm);have hl : (((kbs k).take m).map (Value.int .u8)).length = Nat.min m m := by rcases m with _|_|_|_|_|_|_|_|_|m; all_goals first | rfl | omega
 have HL := zb hl;have hl9 : 1 + (((kbs k).take m).map (Value.int .u8)).length ≤ 9 := by rw [hl, show Nat.min m m = m from Nat.min_self m]; omega
 clear hl;have hsl := slice8 m hm;go_enter Tryz.func116, Tryz.ntmps116
 go_wp2
 generalize hW : World.alloc (World.alloc (World.alloc w _) _) _ = W;have h0 : Arr W w.heap.size 33 (kc k).toArray := by rw [← hW]; exact ((Arr.new w _ _).alloc _).alloc _
 have h1 : Arr W (w.heap.size + 1) 33 (kc zr).toArray := by rw [← hW]; exact Arr.alloc (zcV _ (kc zr).toArray _ _ (by simp)) _
 have h2 : Arr W (w.heap.size + 1 + 1) 33 [.int .i64 (m : Int), .int .u8 0, .int .u8 0, .int .u8 0, .int .u8 0, .int .u8 0, .int .u8 0, .int .u8 0, .int .u8 0].toArray := by rw [← hW]; exact zcV _ _ _ _ (by simp)
 have hF : Fr w W := by rw [← hW]; exact zf (zf (zf (ze w) _) _) _
 clear hW
 go_region_law (first | (refine step_copy_splice rfl (.tmp 10) (.tmp 13) 58 58 rfl 5 Tryz.underlying58 zhx _ _ m 8 m 8 rfl rfl (w.heap.size + 1 + 1) 1 [.int .i64 (m : Int), .int .u8 0, .int .u8 0, .int .u8 0, .int .u8 0, .int .u8 0, .int .u8 0, .int .u8 0, .int .u8 0] 33 h2 (((kbs k).take m).map (Value.int .u8)) HL.out (fun _ => ⟨rfl, _, rfl, fun j v hv => by rw [Addr.add_lit]; exact (h0.cell (1 + j)).trans ((by simp : (kc k).toArray[1 + j]? = (kc k)[1 + j]?).trans (kc_byte k m j v hv))⟩) hl9 (zgJ _) (w.heap.size + 1 + 1) W (Below.drew (Below.refl _ _)) (by omega) ?_; intro w' hx hb))
 all_goals
  have h3 : Arr w' (w.heap.size + 1 + 1) 33 (kc (zbe k m)).toArray := by rw [← HS.out]; exact hx.out
  have h4 := h1.below hb (by omega);have hF2 : Fr w w' := Below.trans hF (hb.mono (by omega));clear hx hb
  go_wp2_with (first
   | (refine wpList_load_row rfl 33 (.tmp 5) rfl (w.heap.size + 1 + 1) rfl 33 (kc (zbe k m)).toArray (0, 0) _ h3 Tryz.underlying33 rfl zC ?_)
   | (refine wpList_store_row rfl 33 (.tmp 4) (.tmp 15) rfl (w.heap.size + 1) (kc (zbe k m)).toArray rfl rfl 33 (kc zr).toArray h4 zC rfl (kc_all _) ?_))
  exact bodyPost_ret (results_cell_row rfl _ _ (w.heap.size + 1) 33 (kc (zbe k m)).toArray (0, 0) _ rfl (setRow_heap _ _ _ _ _ _ h4) Tryz.underlying33 rfl zC) rfl ⟨rfl, zgx hF2 (by omega) _⟩
end
section
def okB (k : RK) : Bool := decide (0 ≤ k.n) && decide (k.n ≤ 8) && decide (k = zbe k k.n.toNat)
theorem zow (k : RK) (h : k.wf) (m : Nat) (hm : m ≤ 8) : (zbe k m).wf := by
 have z : Byt 0 := by unfold Byt; omega
 constructor
 ·simp [zbe]; omega
 all_goals (simp only [zbe]; split <;> first | exact h.h0 | exact h.h1 | exact h.h2 | exact h.h3 | exact h.h4 | exact h.h5 | exact h.h6 | exact h.h7 | exact z)
theorem zbd {a w : World} (h : Fr a w) (n : Nat) : Fr a (w.drewN n) := h.trans ⟨rfl, rfl, rfl, Nat.le_refl _, fun _ _ => rfl⟩
set_option maxRecDepth 100000 in
set_option maxHeartbeats 1000000 in
theorem zjB (k : RK) (hn : k.n < 0) (w : World) : Calls Tryz.prog 103 #[kv k] w fun e w' => e = .returned (.bool false) ∧ Below w.heap.size w w' := by
 have h1 : decide (0 ≤ k.n) = false := by simpa using hn
 go_enter Tryz.func103, Tryz.ntmps103;go_wp2_with fail
 go_quiet (fail)
 go_wp2
 go_ret;exact ⟨rfl, zbd (zf (ze w) _) _⟩
set_option maxRecDepth 100000 in
set_option maxHeartbeats 1000000 in
theorem zjY (k : RK) (hn : 8 < k.n) (w : World) : Calls Tryz.prog 103 #[kv k] w fun e w' => e = .returned (.bool false) ∧ Below w.heap.size w w' := by
 have h0 : decide (0 ≤ k.n) = true := by simp; omega
 have h1 : decide (k.n ≤ 8) = false := by simp; omega
 go_enter Tryz.func103, Tryz.ntmps103;go_wp2_with fail
 go_quiet (fail)
 go_wp2
 go_ret;exact ⟨rfl, zbd (zf (ze w) _) _⟩
set_option maxRecDepth 100000 in
set_option maxHeartbeats 4000000 in
theorem zj7 (k : RK) (hw : k.wf) (m : Nat) (hm : m ≤ 8) (hn : k.n = (m : Int)) (w : World) : Calls Tryz.prog 103 #[kv k] w fun e w' => e = .returned (.bool (decide (k = zbe k m))) ∧ Below w.heap.size w w' := by
 have heq := fun W => zcH hw (zow k hw m hm) W;have hc := fun W => znO k m hm W;have hfn : kv (zbe k m) = kv (zbe k m) := rfl;generalize hd : decide (k = zbe k m) = d at heq ⊢;clear hd;obtain ⟨n, b0, b1, b2, b3, b4, b5, b6, b7⟩ := k;simp only at hn;subst hn;generalize hf : zbe ⟨(m : Int), b0, b1, b2, b3, b4, b5, b6, b7⟩ m = f at heq hc;clear hf hfn hw;have hm1 : (m : Int) ≤ 8 := by omega
 go_enter Tryz.func103, Tryz.ntmps103;go_wp2_with fail;have hF : Fr w (w.alloc (.cells (kc ⟨(m : Int), b0, b1, b2, b3, b4, b5, b6, b7⟩).toArray 33)) := zf (ze w) _;have hz : w.heap.size < (w.alloc (.cells (kc ⟨(m : Int), b0, b1, b2, b3, b4, b5, b6, b7⟩).toArray 33)).heap.size := by simp
 go_region_held3 (fun w' => w'.cell? ⟨w.heap.size, 0, none⟩ = some (.int .i64 m) ∧ w'.cell? ⟨w.heap.size, 1, none⟩ = some (.int .u8 b0) ∧ w'.cell? ⟨w.heap.size, 2, none⟩ = some (.int .u8 b1) ∧ w'.cell? ⟨w.heap.size, 3, none⟩ = some (.int .u8 b2) ∧ w'.cell? ⟨w.heap.size, 4, none⟩ = some (.int .u8 b3) ∧ w'.cell? ⟨w.heap.size, 5, none⟩ = some (.int .u8 b4) ∧ w'.cell? ⟨w.heap.size, 6, none⟩ = some (.int .u8 b5) ∧ w'.cell? ⟨w.heap.size, 7, none⟩ = some (.int .u8 b6) ∧ w'.cell? ⟨w.heap.size, 8, none⟩ = some (.int .u8 b7) ∧ Fr w w' ∧ w.heap.size < w'.heap.size)
  (first
   | (go_split_ands; exact ⟨by simp, by simp, by simp, by simp, by simp, by simp, by simp, by simp, by simp, zn hF, hz⟩)
   | (go_split_ands
      refine ⟨?_, ?_, ?_, ?_, ?_, ?_, ?_, ?_, ?_, ?_, ?_⟩
      all_goals first | (rw [hb.cell (by assumption)]; assumption) | (refine za ?_ hb; assumption) | (refine Nat.lt_of_lt_of_le ?_ hb.size; assumption)))
  (first | (go_at_call 116; refine (hc _).mono ?_; rintro e w' ⟨rfl, hb⟩))
 rename_i hH;obtain ⟨_, _, _, _, _, _, _, _, _, hB, _⟩ := hH
 go_wp2
 go_ret;exact ⟨rfl, hB⟩
theorem okB_lo {k : RK} (h : k.n < 0) : okB k = false := by simp [okB]; omega
theorem okB_hi {k : RK} (h : 8 < k.n) : okB k = false := by simp [okB]; omega
theorem zmT {k : RK} {m : Nat} (hm : m ≤ 8) (h : k.n = m) : okB k = decide (k = zbe k m) := by
 have h1 : (0 : Int) ≤ k.n := by omega
 have h2 : k.n ≤ 8 := by omega
 simp [okB, h1, h2];rw [h, Int.toNat_natCast]
theorem zoh (k : RK) (hw : k.wf) (w : World) : Calls Tryz.prog 103 #[kv k] w fun e w' => e = .returned (.bool (okB k)) ∧ Below w.heap.size w w' := by
 by_cases h1 : k.n < 0
 ·rw [okB_lo h1]; exact zjB k h1 w
 ·by_cases h2 : 8 < k.n
  ·rw [okB_hi h2]; exact zjY k h2 w
  ·obtain ⟨m, hm⟩ : ∃ m : Nat, k.n = m := ⟨k.n.toNat, by omega⟩
   rw [zmT (by omega) hm]; exact zj7 k hw m (by omega) hm w
theorem kc_at (k : RK) (i : Nat) (h : i < 8) : (kc k).toArray[1 + i]? = some (.int .u8 (k.at i)) := by
 rcases i with _|_|_|_|_|_|_|_|i
 all_goals first | rfl | omega
theorem at_byt {k : RK} (hw : k.wf) (i : Nat) : Byt (k.at i) := by
 rcases i with _|_|_|_|_|_|_|_|i
 all_goals first | exact hw.h0 | exact hw.h1 | exact hw.h2 | exact hw.h3 | exact hw.h4 | exact hw.h5 | exact hw.h6 | exact hw.h7 | (simp [RK.at, Byt])
theorem zgX (k : RK) (m : Nat) (hm : m ≤ 8) (hn : k.n = m) : k = zbe k m ↔ ∀ t, m ≤ t → t < 8 → k.at t = 0 := by
 constructor
 ·intro e t h1 h2
  rw [e]
  rcases t with _|_|_|_|_|_|_|_|t
  all_goals first | omega | (simp only [RK.at, zbe]; rw [if_neg (by omega)])
 ·intro h
  obtain ⟨n, b0, b1, b2, b3, b4, b5, b6, b7⟩ := k;simp only at hn;subst hn;have g0 : b0 = if 0 < m then b0 else 0 := by split; rfl; exact h 0 (by omega) (by omega)
  have g1 : b1 = if 1 < m then b1 else 0 := by split; rfl; exact h 1 (by omega) (by omega)
  have g2 : b2 = if 2 < m then b2 else 0 := by split; rfl; exact h 2 (by omega) (by omega)
  have g3 : b3 = if 3 < m then b3 else 0 := by split; rfl; exact h 3 (by omega) (by omega)
  have g4 : b4 = if 4 < m then b4 else 0 := by split; rfl; exact h 4 (by omega) (by omega)
  have g5 : b5 = if 5 < m then b5 else 0 := by split; rfl; exact h 5 (by omega) (by omega)
  have g6 : b6 = if 6 < m then b6 else 0 := by split; rfl; exact h 6 (by omega) (by omega)
  have g7 : b7 = if 7 < m then b7 else 0 := by split; rfl; exact h 7 (by omega) (by omega)
  simp only [zbe, RK.mk.injEq];exact ⟨trivial, g0, g1, g2, g3, g4, g5, g6, g7⟩
set_option maxRecDepth 100000 in
set_option maxHeartbeats 1000000 in
theorem zfq (k : RK) (hn : k.n < 0 ∨ 8 < k.n) (w : World) : Calls Tryz.prog 68 #[kv k] w fun e w' => e = .returned (.bool false) ∧ Below w.heap.size w w' := by
 rcases hn with hn | hn
 ·go_enter Tryz.func68, Tryz.ntmps68
  go_wp2
  go_ret;exact ⟨rfl, zf (ze w) _⟩
 ·have h1 : decide (k.n < 0) = false := by simp; omega
  go_enter Tryz.func68, Tryz.ntmps68
  go_wp2
  go_ret;exact ⟨rfl, zf (ze w) _⟩
set_option maxRecDepth 100000 in
set_option maxHeartbeats 1000000 in
theorem zjM (k : RK) (hw : k.wf) (m : Nat) (hm : m ≤ 8) (hn : k.n = (m : Int)) (w : World) : Calls Tryz.prog 68 #[kv k] w fun e w' => e = .returned (.bool (decide (k = zbe k m))) ∧ Below w.heap.size w w' := by
 have Hi := zb (zgX k m hm hn);have Hn := zb hn;have h1 : decide (k.n < 0) = false := by simp; omega
 have h2 : decide (8 < k.n) = false := by simp; omega
 clear hn;go_enter Tryz.func68, Tryz.ntmps68
 go_wp2
 generalize hW : World.alloc w _ = W;have ha : Arr W w.heap.size 33 (kc k).toArray := by rw [← hW]; exact Arr.new w _ _
 have hF : Fr w W := by rw [← hW]; exact zf (ze w) _
 clear hW;rw [Hn.out]
 go_loop [3] (fun i => ∃ j : Nat, m ≤ j ∧ j ≤ 8 ∧ i = .int .i64 j ∧ Hid (∀ t, m ≤ t → t < j → k.at t = 0)) (fun i => 8 - (intOf i).toNat)
 case atStart => exact ⟨m, Nat.le_refl _, hm, rfl, zb fun t a b => by omega⟩
 case round =>
  obtain ⟨j, hj1, hj, rfl, Ht⟩ := hrel
  by_cases hlt : j < 8
  ·have hc := (ha.cell (1 + j)).trans (kc_at k j hlt)
   by_cases h0 : k.at j = 0
   ·have H0 := zb h0
    rw [h0] at hc;clear h0
    go_wp2
    go_round
    case rel => exact ⟨j + 1, by omega, by omega, by go_num, zb fun t a b => by
     by_cases e : t = j
     ·rw [e, H0.out]
     ·exact Ht.out t a (by omega)⟩
    case measure => simp [intOf]; omega
   ·have h3 : (k.at j != 0) = true := by simpa using h0
    have hd : decide (k = zbe k m) = false := by
     simp only [decide_eq_false_iff_not];intro e;exact h0 (Hi.out.1 e j hj1 hlt)
    have Hd := zb hd;clear hd
    go_wp2
    go_ret;exact ⟨zek Hd.out.symm, hF⟩
  ·obtain rfl : j = 8 := by omega
   have hd : decide (k = zbe k m) = true := by
    simp only [decide_eq_true_iff];exact Hi.out.2 fun t a b => Ht.out t a b
   have Hd := zb hd;clear hd
   go_wp2
   go_ret;exact ⟨zek Hd.out.symm, hF⟩
theorem zgO (k : RK) (hw : k.wf) (w : World) : Calls Tryz.prog 68 #[kv k] w fun e w' => e = .returned (.bool (okB k)) ∧ Below w.heap.size w w' := by
 by_cases h1 : k.n < 0
 ·rw [okB_lo h1]; exact zfq k (.inl h1) w
 ·by_cases h2 : 8 < k.n
  ·rw [okB_hi h2]; exact zfq k (.inr h2) w
  ·obtain ⟨m, hm⟩ : ∃ m : Nat, k.n = m := ⟨k.n.toNat, by omega⟩
   rw [zmT (by omega) hm]; exact zjM k hw m (by omega) hm w
end
section
def sb (s : ByteArray) (i : Nat) : Int := if h : i < s.size then ((s[i]).toNat : Int) else 0
def ofS (s : ByteArray) : RK := ⟨s.size, sb s 0, sb s 1, sb s 2, sb s 3, sb s 4, sb s 5, sb s 6, sb s 7⟩
theorem sb_byt (s : ByteArray) (i : Nat) : Byt (sb s i) := by
 unfold sb Byt
 split
 ·have := (s[i]).toNat_lt; omega
 ·omega
theorem sb_in (s : ByteArray) (i : Nat) (h : i < s.size) : sb s i = ((s[i]).toNat : Int) := by simp [sb, h]
theorem sb_out (s : ByteArray) (i : Nat) (h : s.size ≤ i) : sb s i = 0 := by simp [sb, Nat.not_lt.2 h]
theorem ofS_wf (s : ByteArray) (h : s.size ≤ 8) : (ofS s).wf := by
 constructor
 ·simp [ofS]; omega
 all_goals exact sb_byt s _
theorem ofS_at (s : ByteArray) (i : Nat) (h : i < 8) : (ofS s).at i = sb s i := by
 rcases i with _|_|_|_|_|_|_|_|i
 all_goals first | rfl | omega
theorem ofS_ok (s : ByteArray) (h : s.size ≤ 8) : okB (ofS s) = true := by
 rw [zmT (m := s.size) h rfl, decide_eq_true_iff];exact (zgX _ _ h rfl).2 fun t a b => by rw [ofS_at s t b, sb_out s t a]
def ofSj (s : ByteArray) (j : Nat) : RK := ⟨s.size, if 0 < j then sb s 0 else 0, if 1 < j then sb s 1 else 0, if 2 < j then sb s 2 else 0, if 3 < j then sb s 3 else 0, if 4 < j then sb s 4 else 0, if 5 < j then sb s 5 else 0, if 6 < j then sb s 6 else 0, if 7 < j then sb s 7 else 0⟩
theorem ofSj_end (s : ByteArray) : ofSj s s.size = ofS s := by
 have h : ∀ i, (if i < s.size then sb s i else 0) = sb s i := fun i => by
  split
  ·rfl
  ·rw [sb_out s i (by omega)]
 simp only [ofSj, ofS, h]
theorem ofSj_set (s : ByteArray) (j : Nat) (h : j < 8) : (kc (ofSj s j)).toArray.setIfInBounds (1 + j) (.int .u8 (sb s j)) = (kc (ofSj s (j + 1))).toArray := by
 rcases j with _|_|_|_|_|_|_|_|j
 all_goals first | omega | simp [ofSj]
set_option maxRecDepth 100000 in
set_option maxHeartbeats 1000000 in
theorem zbK (s : ByteArray) (h : s.size ≤ 8) (w : World) : Calls Tryz.prog 22 #[.string s] w fun e w' => e = .returned (.tuple #[kv (ofS s), .int .i64 0]) ∧ Below w.heap.size w w' := by
 have h1 : decide ((8 : Int) < (s.size : Int)) = false := by simp; omega
 go_enter Tryz.func22, Tryz.ntmps22;go_wp2_with fail
 go_loopg [5] s.size (fun g i wr => ∃ j : Nat, j + g = s.size ∧ i = .int .i64 j ∧ Arr wr (w.heap.size + 1) 33 (kc (ofSj s j)).toArray ∧ Arr wr w.heap.size 33 (kc zr).toArray ∧ Fr w wr)
 case atStart => exact ⟨0, by omega, rfl, zcV _ _ _ _ (by simp), Arr.alloc (zcV _ (kc zr).toArray _ _ rfl) _, zf (zf (ze w) _) _⟩
 case round =>
  obtain ⟨j, hj, rfl, h3, h4, hF⟩ := hrel;have Hj := zb hj
  by_cases hlt : j < s.size
  ·have hc := (h3.cell (1 + j)).trans (kc_at _ j (by omega))
   have hf := h3.free (1 + j);have hx := sb_in s j hlt;have Hx := zb hx;clear hj hx;go_wp2_with fail
   go_roundg (gk - 1)
   case measure => have := Hj.out; omega
   case rel => exact ⟨j + 1, by have := Hj.out; omega, by go_num, by rw [← ofSj_set s j (by omega), Hx.out]; exact h3.set _ _, h4.other _ (by simp) _, hF.setCell (by simp) _⟩
  ·obtain rfl : j = s.size := by omega
   rw [ofSj_end] at h3;clear hj
   go_wp2_with (first
    | (refine wpList_load_row rfl 33 (.tmp 4) rfl (w.heap.size + 1) rfl 33 (kc (ofS s)).toArray (0, 0) _ h3 Tryz.underlying33 rfl zC ?_)
    | (refine wpList_store_row rfl 33 (.tmp 2) (.tmp 26) rfl w.heap.size (kc (ofS s)).toArray rfl rfl 33 (kc zr).toArray h4 zC rfl (kc_all _) ?_)
    | fail)
   exact bodyPost_ret (zg1 rfl _ _ w.heap.size 33 (kc (ofS s)).toArray (0, 0) _ rfl (setRow_heap _ _ _ _ _ _ h4) Tryz.underlying33 rfl zC) rfl ⟨rfl, zgx hF (Nat.le_refl _) _⟩
def txt (k : RK) : ByteArray := strOfNums ((kbs k).take k.n.toNat)
theorem zi4 {k : RK} (h : okB k = true) : ∃ m : Nat, m ≤ 8 ∧ k.n = m ∧ k = zbe k m := by
 simp only [okB, Bool.and_eq_true, decide_eq_true_iff] at h;refine ⟨k.n.toNat, by omega, by omega, h.2⟩
end
end Go.Proofs.YtmjjjdikpnhpiaaGreat
