/- Keys as values: a number and eight bytes. -/
import Derived.Test.YtmoaddbpfekdbaaRows
import Derived.Test.YtmoaddbpfekdbaaM01
import Derived.DeepKeys5
import Derived.Maps.OwnSet
import Derived.Laws.CopyOwn
import Derived.Laws.Rows
import Derived.WalkLawsBesides
import Derived.Deep.RegionLaw
import Derived.Deep.RegionHeld3
import Derived.BigQuiet
import Derived.Deep.QuietTactic
import Derived.Outline
import Derived.Lib.BufferWrite
import Derived.Lib.SlBuf
import Derived.Laws.BytesArg
import Derived.Deep.LoopGhost
namespace Go.Proofs.Ytmoaddbpfekdbaa
set_option maxRecDepth 100000
open Go.RowKit
set_option linter.unusedVariables false

/-- A key, valid or not. -/
structure RK where
  n : Int
  b0 : Int
  b1 : Int
  b2 : Int
  b3 : Int
  b4 : Int
  b5 : Int
  b6 : Int
  b7 : Int
  deriving DecidableEq, Inhabited
/-- Its cells. -/
abbrev kc (k : RK) : List Value := [.int .i64 k.n, .int .u8 k.b0, .int .u8 k.b1, .int .u8 k.b2, .int .u8 k.b3, .int .u8 k.b4, .int .u8 k.b5, .int .u8 k.b6, .int .u8 k.b7]
abbrev kv (k : RK) : Value := .agg #[.int .i64 k.n, .int .u8 k.b0, .int .u8 k.b1, .int .u8 k.b2, .int .u8 k.b3, .int .u8 k.b4, .int .u8 k.b5, .int .u8 k.b6, .int .u8 k.b7]
def Byt (z : Int) : Prop := 0 ≤ z ∧ z ≤ 255
/-- What every key that comes in is. -/
structure RK.wf (k : RK) : Prop where
  hn : -9223372036854775808 ≤ k.n ∧ k.n ≤ 9223372036854775807
  h0 : Byt k.b0
  h1 : Byt k.b1
  h2 : Byt k.b2
  h3 : Byt k.b3
  h4 : Byt k.b4
  h5 : Byt k.b5
  h6 : Byt k.b6
  h7 : Byt k.b7
def RK.at (k : RK) : Nat → Int
  | 0 => k.b0 | 1 => k.b1 | 2 => k.b2 | 3 => k.b3 | 4 => k.b4 | 5 => k.b5 | 6 => k.b6 | 7 => k.b7 | _ => 0
/-- The first m bytes of k, as a key. -/
def firstK (k : RK) (m : Nat) : RK := ⟨m, if 0 < m then k.b0 else 0, if 1 < m then k.b1 else 0, if 2 < m then k.b2 else 0, if 3 < m then k.b3 else 0, if 4 < m then k.b4 else 0, if 5 < m then k.b5 else 0, if 6 < m then k.b6 else 0, if 7 < m then k.b7 else 0⟩
def zeroK : RK := ⟨0, 0, 0, 0, 0, 0, 0, 0, 0⟩
theorem key_info : (Try.prog.info? 97).map (·.size) = some 9 := by kernel_rfl
theorem bytes_one : ∀ (l : List Int), ∀ v ∈ l.map (Value.int .u8), v.oneCell' = true := by
  intro l v hv
  obtain ⟨z, _, rfl⟩ := List.mem_map.1 hv
  rfl
theorem arr_new_at (w : World) (cs : Array Value) (T g : Nat) (hg : w.heap.size = g) : Arr (w.alloc (.cells cs T)) g T cs := hg ▸ Arr.new w cs T
def kbs (k : RK) : List Int := [k.b0, k.b1, k.b2, k.b3, k.b4, k.b5, k.b6, k.b7]
theorem below_setRow {B g : Nat} {a w : World} (h : Below B a w) (hg : B ≤ g) (cs : Array Value) : Below B a (w.setRow g cs) :=
  h.trans ⟨rfl, rfl, rfl, by simp [World.setRow], fun k hk => by simp only [World.setRow, Array.getElem?_modify]; rw [if_neg (by omega)]⟩
theorem kc_one (k : RK) : ∀ v ∈ kc k, v.oneCell' = true := by
  intro v hv
  simp at hv
  rcases hv with rfl | rfl | rfl | rfl | rfl | rfl | rfl | rfl | rfl <;> rfl
theorem kc_all (k : RK) : (kc k).toArray.all (·.oneCell') = true := by simp [Value.oneCell']
theorem results_cell_tmp {P : Program} {fn : Func} {p t : Tmp} {ty : TypeId} (h : fn.results = #[.cell p ty, .tmp t]) (tmps : Array Value) (w : World) (g : Nat) (T : TypeId) (cs : Array Value) (fr : Nat × Nat) (d : TypeDesc)
    (hp : tmps.getD p undef = .pointer (some ⟨g, 0, none⟩)) (hg : w.heap[g]? = some (.cells cs T fr))
    (hu : P.underlying ty = some d) (hd : (match d with | .struct _ | .array _ _ => true | _ => false) = true) (hi : (P.info? ty).map (·.size) = some cs.size) :
    (results fn tmps).run P w = .ok (.tuple #[.agg cs, tmps.getD t undef]) w := by
  have hp' : tmps[p]?.getD undef = .pointer (some ⟨g, 0, none⟩) := by simpa using hp
  simp [results, h, hp', asAddr, run_loadVar_row w g T ty cs fr d hg hu hd hi]
end Go.Proofs.Ytmoaddbpfekdbaa
/- Keys compared by '==', and as a map's keys. -/
namespace Go.Proofs.Ytmoaddbpfekdbaa
set_option maxRecDepth 100000
open Go.RowKit
set_option linter.unusedVariables false
theorem key_type : Try.prog.keyType 97 = true := by kernel_rfl
theorem key_typeAt : Try.prog.keyTypeAt (Try.prog.types.size + 1) 97 = true := by kernel_rfl
theorem key_wide : (match Try.prog.underlying 97 with | some (.array _ _) | some (.struct _) => true | _ => false) = true := by kernel_rfl
theorem key_row : (97 : TypeId) < Try.prog.types.size := of_decide_eq_true (by kernel_rfl)
theorem laid_out : laidOutB Try.prog = true := by kernel_rfl
theorem types_small : decide (Try.prog.types.size + 2 ≤ 10000) = true := by kernel_rfl
theorem key_law : WideMaps.KeyLaw Try.prog 97 := deep_law_gate laid_out (of_decide_eq_true types_small) key_row key_type key_wide
theorem key_keyed : Go.Maps.Keyed Try.prog 97 := .of_law key_law
theorem key_cells : Try.prog.cellsOf 97 = 9 := by kernel_rfl
theorem arr_cells : Try.prog.cellsOf 95 = 8 := by kernel_rfl
theorem int_cells : Try.prog.cellsOf 3 = 1 := by kernel_rfl
theorem u8_cells : Try.prog.cellsOf 5 = 1 := by kernel_rfl
theorem byt_wf {z : Int} (h : Byt z) : (Lit.int .u8 z).wf = true := by
  unfold Byt at h
  simp [Lit.wf, IntKind.min, IntKind.max, IntKind.signed, IntKind.bits]; omega
theorem i64_wf {z : Int} (h : -9223372036854775808 ≤ z ∧ z ≤ 9223372036854775807) : (Lit.int .i64 z).wf = true := by
  simp [Lit.wf, IntKind.min, IntKind.max, IntKind.signed, IntKind.bits]; omega
def klits (k : RK) : List Lit := [.int .i64 k.n, .int .u8 k.b0, .int .u8 k.b1, .int .u8 k.b2, .int .u8 k.b3, .int .u8 k.b4, .int .u8 k.b5, .int .u8 k.b6, .int .u8 k.b7]
/-- What a key reads as, as a map's key. -/
def klit (k : RK) : Lit := .string (keyBytes (klits k))
theorem types_le : Try.prog.types.size + 1 ≤ 10000 := by have := of_decide_eq_true types_small; omega
theorem key_lits (k : RK) (h : k.wf) : Try.prog.keyLits (Try.prog.types.size + 1) 97 (kc k) = some (klits k) := by
  obtain ⟨D, hD⟩ : ∃ D, Try.prog.types.size + 1 = D + 1 + 1 + 1 := ⟨Try.prog.types.size - 2, by have h : 97 < Try.prog.types.size := key_row; omega⟩
  rw [hD]
  simp [Program.keyLits, Try.underlying97, Try.underlying3, Try.underlying95, Try.underlying5, key_cells, arr_cells, int_cells, u8_cells, i64_wf h.hn, byt_wf h.h0, byt_wf h.h1, byt_wf h.h2, byt_wf h.h3, byt_wf h.h4, byt_wf h.h5, byt_wf h.h6, byt_wf h.h7, klits, List.range, List.range.loop]
theorem key_of (k : RK) (h : k.wf) : keyOf Try.prog 97 (kv k) = some (klit k) := by
  have hf : (kv k).formed Try.prog 97 = true := by simp [Value.formed, Try.underlying97, key_cells]
  have hl := key_lits k h
  simp only [keyOf, Try.underlying97, key_type, hf, Bool.and_self, if_true, Value.cells]
  rw [hl]
  rfl
theorem kv_inj {a b : RK} (h : kv a = kv b) : a = b := by
  cases a; cases b; simp at h; simp [h]
theorem klit_inj {a b : RK} (ha : a.wf) (hb : b.wf) (h : klit a = klit b) : a = b := kv_inj (key_keyed.inj (key_of a ha) (h ▸ key_of b hb))
theorem key_eql {a b : RK} (ha : a.wf) (hb : b.wf) (W : World) : (binOp .eql 97 (kv a) (kv b)).run Try.prog W = .ok (.bool (decide (a = b))) W := by
  obtain ⟨r, h1, h2⟩ := run_equal_deep W (m := Try.prog.types.size + 1) types_le key_typeAt key_wide (key_of a ha) (key_of b hb)
  have : r = decide (a = b) := by
    rw [Bool.eq_iff_iff, h2, decide_eq_true_iff]
    exact ⟨klit_inj ha hb, fun e => by rw [e]⟩
  simp only [binOp, Sem.run_bind, h1, Result.andThen_ok, Sem.run_pure, this]
end Go.Proofs.Ytmoaddbpfekdbaa
/- What the functions of layer 3 come to, one: the beginning of a key. -/
namespace Go.Proofs.Ytmoaddbpfekdbaa
set_option maxRecDepth 100000
open Go.RowKit
set_option linter.unusedVariables false
end Go.Proofs.Ytmoaddbpfekdbaa
/- What the functions of layer 3 come to, two: 'Check', of the program and of the document. -/
namespace Go.Proofs.Ytmoaddbpfekdbaa
set_option maxRecDepth 100000
open Go.RowKit
set_option linter.unusedVariables false
def okB (k : RK) : Bool := decide (0 ≤ k.n) && decide (k.n ≤ 8) && decide (k = firstK k k.n.toNat)
theorem fr_drewN {a w : World} (h : Fr a w) (n : Nat) : Fr a (w.drewN n) := h.trans ⟨rfl, rfl, rfl, Nat.le_refl _, fun _ _ => rfl⟩
theorem okB_in {k : RK} {m : Nat} (hm : m ≤ 8) (h : k.n = m) : okB k = decide (k = firstK k m) := by
  have h1 : (0 : Int) ≤ k.n := by omega
  have h2 : k.n ≤ 8 := by omega
  simp [okB, h1, h2]
  rw [h, Int.toNat_natCast]
/-- The bytes of k, by their places. -/
theorem kc_at (k : RK) (i : Nat) (h : i < 8) : (kc k).toArray[1 + i]? = some (.int .u8 (k.at i)) := by
  rcases i with _|_|_|_|_|_|_|_|i
  all_goals first | rfl | omega
theorem at_byt {k : RK} (hw : k.wf) (i : Nat) : Byt (k.at i) := by
  rcases i with _|_|_|_|_|_|_|_|i
  all_goals first | exact hw.h0 | exact hw.h1 | exact hw.h2 | exact hw.h3 | exact hw.h4 | exact hw.h5 | exact hw.h6 | exact hw.h7 | (simp [RK.at, Byt])
theorem first_iff (k : RK) (m : Nat) (hm : m ≤ 8) (hn : k.n = m) : k = firstK k m ↔ ∀ t, m ≤ t → t < 8 → k.at t = 0 := by
  constructor
  · intro e t h1 h2
    rw [e]
    rcases t with _|_|_|_|_|_|_|_|t
    all_goals first | omega | (simp only [RK.at, firstK]; rw [if_neg (by omega)])
  · intro h
    obtain ⟨n, b0, b1, b2, b3, b4, b5, b6, b7⟩ := k
    simp only at hn
    subst hn
    have g0 : b0 = if 0 < m then b0 else 0 := by split; rfl; exact h 0 (by omega) (by omega)
    have g1 : b1 = if 1 < m then b1 else 0 := by split; rfl; exact h 1 (by omega) (by omega)
    have g2 : b2 = if 2 < m then b2 else 0 := by split; rfl; exact h 2 (by omega) (by omega)
    have g3 : b3 = if 3 < m then b3 else 0 := by split; rfl; exact h 3 (by omega) (by omega)
    have g4 : b4 = if 4 < m then b4 else 0 := by split; rfl; exact h 4 (by omega) (by omega)
    have g5 : b5 = if 5 < m then b5 else 0 := by split; rfl; exact h 5 (by omega) (by omega)
    have g6 : b6 = if 6 < m then b6 else 0 := by split; rfl; exact h 6 (by omega) (by omega)
    have g7 : b7 = if 7 < m then b7 else 0 := by split; rfl; exact h 7 (by omega) (by omega)
    simp only [firstK, RK.mk.injEq]
    exact ⟨trivial, g0, g1, g2, g3, g4, g5, g6, g7⟩
end Go.Proofs.Ytmoaddbpfekdbaa
/- What the functions of layer 3 come to, three: 'Of' and 'Text', of the program and of the document. -/
namespace Go.Proofs.Ytmoaddbpfekdbaa
set_option maxRecDepth 100000
open Go.RowKit
set_option linter.unusedVariables false

/-- The byte of s at place i; 0 behind its end. -/
def sb (s : ByteArray) (i : Nat) : Int := if h : i < s.size then ((s[i]).toNat : Int) else 0
/-- The key of the bytes of s, where they are not too many. -/
def ofS (s : ByteArray) : RK := ⟨s.size, sb s 0, sb s 1, sb s 2, sb s 3, sb s 4, sb s 5, sb s 6, sb s 7⟩
theorem sb_byt (s : ByteArray) (i : Nat) : Byt (sb s i) := by
  unfold sb Byt
  split
  · have := (s[i]).toNat_lt; omega
  · omega
theorem sb_in (s : ByteArray) (i : Nat) (h : i < s.size) : sb s i = ((s[i]).toNat : Int) := by simp [sb, h]
theorem sb_out (s : ByteArray) (i : Nat) (h : s.size ≤ i) : sb s i = 0 := by simp [sb, Nat.not_lt.2 h]
theorem ofS_wf (s : ByteArray) (h : s.size ≤ 8) : (ofS s).wf := by
  constructor
  · simp [ofS]; omega
  all_goals exact sb_byt s _
theorem ofS_at (s : ByteArray) (i : Nat) (h : i < 8) : (ofS s).at i = sb s i := by
  rcases i with _|_|_|_|_|_|_|_|i
  all_goals first | rfl | omega
theorem ofS_ok (s : ByteArray) (h : s.size ≤ 8) : okB (ofS s) = true := by
  rw [okB_in (m := s.size) h rfl, decide_eq_true_iff]
  exact (first_iff _ _ h rfl).2 fun t a b => by rw [ofS_at s t b, sb_out s t a]
/-- The first j bytes laid. -/
def ofSj (s : ByteArray) (j : Nat) : RK := ⟨s.size, if 0 < j then sb s 0 else 0, if 1 < j then sb s 1 else 0, if 2 < j then sb s 2 else 0, if 3 < j then sb s 3 else 0, if 4 < j then sb s 4 else 0, if 5 < j then sb s 5 else 0, if 6 < j then sb s 6 else 0, if 7 < j then sb s 7 else 0⟩
theorem ofSj_end (s : ByteArray) : ofSj s s.size = ofS s := by
  have h : ∀ i, (if i < s.size then sb s i else 0) = sb s i := fun i => by
    split
    · rfl
    · rw [sb_out s i (by omega)]
  simp only [ofSj, ofS, h]
theorem ofSj_set (s : ByteArray) (j : Nat) (h : j < 8) : (kc (ofSj s j)).toArray.setIfInBounds (1 + j) (.int .u8 (sb s j)) = (kc (ofSj s (j + 1))).toArray := by
  rcases j with _|_|_|_|_|_|_|_|j
  all_goals first | omega | simp [ofSj]
set_option maxRecDepth 100000 in
set_option maxHeartbeats 1000000 in
theorem ref_of_fits (s : ByteArray) (h : s.size ≤ 8) (w : World) : Calls Try.prog 75 #[.string s] w fun e w' => e = .returned (.tuple #[kv (ofS s), .int .i64 0]) ∧ Below w.heap.size w w' := by
  have h1 : decide ((8 : Int) < (s.size : Int)) = false := by simp; omega
  go_enter Try.func75, Try.ntmps75
  go_wp2_with fail
  go_loopg [5] s.size (fun g i wr => ∃ j : Nat, j + g = s.size ∧ i = .int .i64 j ∧ Arr wr (w.heap.size + 1) 97 (kc (ofSj s j)).toArray ∧ Arr wr w.heap.size 97 (kc zeroK).toArray ∧ Fr w wr)
  case atStart => exact ⟨0, by omega, rfl, arr_new_at _ _ _ _ (by simp), Arr.alloc (arr_new_at _ (kc zeroK).toArray _ _ rfl) _, fr_new (fr_new (fr_refl w) _) _⟩
  case round =>
    obtain ⟨j, hj, rfl, h3, h4, hF⟩ := hrel
    have Hj := keep hj
    by_cases hlt : j < s.size
    · have hc := (h3.cell (1 + j)).trans (kc_at _ j (by omega))
      have hf := h3.free (1 + j)
      have hx := sb_in s j hlt
      have Hx := keep hx
      clear hj hx
      go_wp2_with fail
      go_roundg (gk - 1)
      case measure => have := Hj.out; omega
      case rel => exact ⟨j + 1, by have := Hj.out; omega, by go_num, by rw [← ofSj_set s j (by omega), Hx.out]; exact h3.set _ _, h4.other _ (by simp) _, hF.setCell (by simp) _⟩
    · obtain rfl : j = s.size := by omega
      rw [ofSj_end] at h3
      clear hj
      go_wp2_with (first
        | (refine wpList_load_row rfl 97 (.tmp 4) rfl (w.heap.size + 1) rfl 97 (kc (ofS s)).toArray (0, 0) _ h3 Try.underlying97 rfl key_info ?_)
        | (refine wpList_store_row rfl 97 (.tmp 2) (.tmp 26) rfl w.heap.size (kc (ofS s)).toArray rfl rfl 97 (kc zeroK).toArray h4 key_info rfl (kc_all _) ?_)
        | fail)
      exact bodyPost_ret (results_cell_tmp rfl _ _ w.heap.size 97 (kc (ofS s)).toArray (0, 0) _ rfl (setRow_heap _ _ _ _ _ _ h4) Try.underlying97 rfl key_info) rfl ⟨rfl, below_setRow hF (Nat.le_refl _) _⟩
/-- The bytes of a key, as a text. -/
def txt (k : RK) : ByteArray := strOfNums ((kbs k).take k.n.toNat)
theorem okB_n {k : RK} (h : okB k = true) : ∃ m : Nat, m ≤ 8 ∧ k.n = m ∧ k = firstK k m := by
  simp only [okB, Bool.and_eq_true, decide_eq_true_iff] at h
  refine ⟨k.n.toNat, by omega, by omega, h.2⟩
end Go.Proofs.Ytmoaddbpfekdbaa
