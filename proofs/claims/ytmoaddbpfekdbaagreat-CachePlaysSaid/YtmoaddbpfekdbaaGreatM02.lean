/- Keys as values: a number and eight bytes. -/
import Derived.Test.YtmoaddbpfekdbaaGreatRows
import Derived.Test.YtmoaddbpfekdbaaGreatM01
import Derived.DeepKeys5
import Derived.Maps.OwnSet
import Derived.Laws.CopyOwn
import Derived.Laws.Rows
import Derived.WalkLawsBesides
import Derived.Deep.RegionLaw
import Derived.Deep.RegionHeld3
import Derived.BigQuiet
import Derived.Deep.QuietTactic
import Derived.Outline
import Derived.Lib.BufferWrite
import Derived.Lib.SlBuf
import Derived.Laws.BytesArg
import Derived.Deep.LoopGhost
import Derived.WalkSpells
namespace Go.Proofs.YtmoaddbpfekdbaaGreat
set_option maxRecDepth 100000
open Go.RowKit
set_option linter.unusedVariables false

/-- A key, valid or not. -/
structure RK where
  n : Int
  b0 : Int
  b1 : Int
  b2 : Int
  b3 : Int
  b4 : Int
  b5 : Int
  b6 : Int
  b7 : Int
  deriving DecidableEq, Inhabited
/-- Its cells. -/
abbrev kc (k : RK) : List Value := [.int .i64 k.n, .int .u8 k.b0, .int .u8 k.b1, .int .u8 k.b2, .int .u8 k.b3, .int .u8 k.b4, .int .u8 k.b5, .int .u8 k.b6, .int .u8 k.b7]
abbrev kv (k : RK) : Value := .agg #[.int .i64 k.n, .int .u8 k.b0, .int .u8 k.b1, .int .u8 k.b2, .int .u8 k.b3, .int .u8 k.b4, .int .u8 k.b5, .int .u8 k.b6, .int .u8 k.b7]
def Byt (z : Int) : Prop := 0 ≤ z ∧ z ≤ 255
/-- What every key that comes in is. -/
structure RK.wf (k : RK) : Prop where
  hn : -9223372036854775808 ≤ k.n ∧ k.n ≤ 9223372036854775807
  h0 : Byt k.b0
  h1 : Byt k.b1
  h2 : Byt k.b2
  h3 : Byt k.b3
  h4 : Byt k.b4
  h5 : Byt k.b5
  h6 : Byt k.b6
  h7 : Byt k.b7
def RK.at (k : RK) : Nat → Int
  | 0 => k.b0 | 1 => k.b1 | 2 => k.b2 | 3 => k.b3 | 4 => k.b4 | 5 => k.b5 | 6 => k.b6 | 7 => k.b7 | _ => 0
/-- The first m bytes of k, as a key. -/
def firstK (k : RK) (m : Nat) : RK := ⟨m, if 0 < m then k.b0 else 0, if 1 < m then k.b1 else 0, if 2 < m then k.b2 else 0, if 3 < m then k.b3 else 0, if 4 < m then k.b4 else 0, if 5 < m then k.b5 else 0, if 6 < m then k.b6 else 0, if 7 < m then k.b7 else 0⟩
def zeroK : RK := ⟨0, 0, 0, 0, 0, 0, 0, 0, 0⟩
theorem key_info : (Tryz.prog.info? 112).map (·.size) = some 9 := by kernel_rfl
theorem bytes_one : ∀ (l : List Int), ∀ v ∈ l.map (Value.int .u8), v.oneCell' = true := by
  intro l v hv
  obtain ⟨z, _, rfl⟩ := List.mem_map.1 hv
  rfl
theorem arr_new_at (w : World) (cs : Array Value) (T g : Nat) (hg : w.heap.size = g) : Arr (w.alloc (.cells cs T)) g T cs := hg ▸ Arr.new w cs T
def kbs (k : RK) : List Int := [k.b0, k.b1, k.b2, k.b3, k.b4, k.b5, k.b6, k.b7]
theorem below_setRow {B g : Nat} {a w : World} (h : Below B a w) (hg : B ≤ g) (cs : Array Value) : Below B a (w.setRow g cs) :=
  h.trans ⟨rfl, rfl, rfl, by simp [World.setRow], fun k hk => by simp only [World.setRow, Array.getElem?_modify]; rw [if_neg (by omega)]⟩
theorem kc_one (k : RK) : ∀ v ∈ kc k, v.oneCell' = true := by
  intro v hv
  simp at hv
  rcases hv with rfl | rfl | rfl | rfl | rfl | rfl | rfl | rfl | rfl <;> rfl
theorem kc_all (k : RK) : (kc k).toArray.all (·.oneCell') = true := by simp [Value.oneCell']
theorem results_cell_tmp {P : Program} {fn : Func} {p t : Tmp} {ty : TypeId} (h : fn.results = #[.cell p ty, .tmp t]) (tmps : Array Value) (w : World) (g : Nat) (T : TypeId) (cs : Array Value) (fr : Nat × Nat) (d : TypeDesc)
    (hp : tmps.getD p undef = .pointer (some ⟨g, 0, none⟩)) (hg : w.heap[g]? = some (.cells cs T fr))
    (hu : P.underlying ty = some d) (hd : (match d with | .struct _ | .array _ _ => true | _ => false) = true) (hi : (P.info? ty).map (·.size) = some cs.size) :
    (results fn tmps).run P w = .ok (.tuple #[.agg cs, tmps.getD t undef]) w := by
  have hp' : tmps[p]?.getD undef = .pointer (some ⟨g, 0, none⟩) := by simpa using hp
  simp [results, h, hp', asAddr, run_loadVar_row w g T ty cs fr d hg hu hd hi]
end Go.Proofs.YtmoaddbpfekdbaaGreat
/- Keys compared by '==', and as a map's keys. -/
namespace Go.Proofs.YtmoaddbpfekdbaaGreat
set_option maxRecDepth 100000
open Go.RowKit
set_option linter.unusedVariables false
theorem key_type : Tryz.prog.keyType 112 = true := by kernel_rfl
theorem key_typeAt : Tryz.prog.keyTypeAt (Tryz.prog.types.size + 1) 112 = true := by kernel_rfl
theorem key_wide : (match Tryz.prog.underlying 112 with | some (.array _ _) | some (.struct _) => true | _ => false) = true := by kernel_rfl
theorem key_row : (112 : TypeId) < Tryz.prog.types.size := of_decide_eq_true (by kernel_rfl)
theorem laid_out : laidOutB Tryz.prog = true := by kernel_rfl
theorem types_small : decide (Tryz.prog.types.size + 2 ≤ 10000) = true := by kernel_rfl
theorem key_law : WideMaps.KeyLaw Tryz.prog 112 := deep_law_gate laid_out (of_decide_eq_true types_small) key_row key_type key_wide
theorem key_keyed : Go.Maps.Keyed Tryz.prog 112 := .of_law key_law
theorem key_cells : Tryz.prog.cellsOf 112 = 9 := by kernel_rfl
theorem arr_cells : Tryz.prog.cellsOf 110 = 8 := by kernel_rfl
theorem int_cells : Tryz.prog.cellsOf 3 = 1 := by kernel_rfl
theorem u8_cells : Tryz.prog.cellsOf 5 = 1 := by kernel_rfl
theorem byt_wf {z : Int} (h : Byt z) : (Lit.int .u8 z).wf = true := by
  unfold Byt at h
  simp [Lit.wf, IntKind.min, IntKind.max, IntKind.signed, IntKind.bits]; omega
theorem i64_wf {z : Int} (h : -9223372036854775808 ≤ z ∧ z ≤ 9223372036854775807) : (Lit.int .i64 z).wf = true := by
  simp [Lit.wf, IntKind.min, IntKind.max, IntKind.signed, IntKind.bits]; omega
def klits (k : RK) : List Lit := [.int .i64 k.n, .int .u8 k.b0, .int .u8 k.b1, .int .u8 k.b2, .int .u8 k.b3, .int .u8 k.b4, .int .u8 k.b5, .int .u8 k.b6, .int .u8 k.b7]
/-- What a key reads as, as a map's key. -/
def klit (k : RK) : Lit := .string (keyBytes (klits k))
theorem types_le : Tryz.prog.types.size + 1 ≤ 10000 := by have := of_decide_eq_true types_small; omega
theorem key_lits (k : RK) (h : k.wf) : Tryz.prog.keyLits (Tryz.prog.types.size + 1) 112 (kc k) = some (klits k) := by
  obtain ⟨D, hD⟩ : ∃ D, Tryz.prog.types.size + 1 = D + 1 + 1 + 1 := ⟨Tryz.prog.types.size - 2, by have h : 112 < Tryz.prog.types.size := key_row; omega⟩
  rw [hD]
  simp [Program.keyLits, Tryz.underlying112, Tryz.underlying3, Tryz.underlying110, Tryz.underlying5, key_cells, arr_cells, int_cells, u8_cells, i64_wf h.hn, byt_wf h.h0, byt_wf h.h1, byt_wf h.h2, byt_wf h.h3, byt_wf h.h4, byt_wf h.h5, byt_wf h.h6, byt_wf h.h7, klits, List.range, List.range.loop]
theorem key_of (k : RK) (h : k.wf) : keyOf Tryz.prog 112 (kv k) = some (klit k) := by
  have hf : (kv k).formed Tryz.prog 112 = true := by simp [Value.formed, Tryz.underlying112, key_cells]
  have hl := key_lits k h
  simp only [keyOf, Tryz.underlying112, key_type, hf, Bool.and_self, if_true, Value.cells]
  rw [hl]
  rfl
theorem kv_inj {a b : RK} (h : kv a = kv b) : a = b := by
  cases a; cases b; simp at h; simp [h]
theorem klit_inj {a b : RK} (ha : a.wf) (hb : b.wf) (h : klit a = klit b) : a = b := kv_inj (key_keyed.inj (key_of a ha) (h ▸ key_of b hb))
theorem key_eql {a b : RK} (ha : a.wf) (hb : b.wf) (W : World) : (binOp .eql 112 (kv a) (kv b)).run Tryz.prog W = .ok (.bool (decide (a = b))) W := by
  obtain ⟨r, h1, h2⟩ := run_equal_deep W (m := Tryz.prog.types.size + 1) types_le key_typeAt key_wide (key_of a ha) (key_of b hb)
  have : r = decide (a = b) := by
    rw [Bool.eq_iff_iff, h2, decide_eq_true_iff]
    exact ⟨klit_inj ha hb, fun e => by rw [e]⟩
  simp only [binOp, Sem.run_bind, h1, Result.andThen_ok, Sem.run_pure, this]
theorem key_neq {a b : RK} (ha : a.wf) (hb : b.wf) (W : World) : (binOp .neq 112 (kv a) (kv b)).run Tryz.prog W = .ok (.bool (!decide (a = b))) W := by
  obtain ⟨r, h1, h2⟩ := run_equal_deep W (m := Tryz.prog.types.size + 1) types_le key_typeAt key_wide (key_of a ha) (key_of b hb)
  have : r = decide (a = b) := by
    rw [Bool.eq_iff_iff, h2, decide_eq_true_iff]
    exact ⟨klit_inj ha hb, fun e => by rw [e]⟩
  simp only [binOp, Sem.run_bind, h1, Result.andThen_ok, Sem.run_pure, this]
end Go.Proofs.YtmoaddbpfekdbaaGreat
/- What the functions of layer 3 come to, one: the beginning of a key. -/
namespace Go.Proofs.YtmoaddbpfekdbaaGreat
set_option maxRecDepth 100000
open Go.RowKit
set_option linter.unusedVariables false
end Go.Proofs.YtmoaddbpfekdbaaGreat
/- What the functions of layer 3 come to, two: 'Check', of the program and of the document. -/
namespace Go.Proofs.YtmoaddbpfekdbaaGreat
set_option maxRecDepth 100000
open Go.RowKit
set_option linter.unusedVariables false
def okB (k : RK) : Bool := decide (0 ≤ k.n) && decide (k.n ≤ 8) && decide (k = firstK k k.n.toNat)
theorem fr_drewN {a w : World} (h : Fr a w) (n : Nat) : Fr a (w.drewN n) := h.trans ⟨rfl, rfl, rfl, Nat.le_refl _, fun _ _ => rfl⟩
theorem okB_in {k : RK} {m : Nat} (hm : m ≤ 8) (h : k.n = m) : okB k = decide (k = firstK k m) := by
  have h1 : (0 : Int) ≤ k.n := by omega
  have h2 : k.n ≤ 8 := by omega
  simp [okB, h1, h2]
  rw [h, Int.toNat_natCast]
/-- The bytes of k, by their places. -/
theorem kc_at (k : RK) (i : Nat) (h : i < 8) : (kc k).toArray[1 + i]? = some (.int .u8 (k.at i)) := by
  rcases i with _|_|_|_|_|_|_|_|i
  all_goals first | rfl | omega
theorem at_byt {k : RK} (hw : k.wf) (i : Nat) : Byt (k.at i) := by
  rcases i with _|_|_|_|_|_|_|_|i
  all_goals first | exact hw.h0 | exact hw.h1 | exact hw.h2 | exact hw.h3 | exact hw.h4 | exact hw.h5 | exact hw.h6 | exact hw.h7 | (simp [RK.at, Byt])
theorem first_iff (k : RK) (m : Nat) (hm : m ≤ 8) (hn : k.n = m) : k = firstK k m ↔ ∀ t, m ≤ t → t < 8 → k.at t = 0 := by
  constructor
  · intro e t h1 h2
    rw [e]
    rcases t with _|_|_|_|_|_|_|_|t
    all_goals first | omega | (simp only [RK.at, firstK]; rw [if_neg (by omega)])
  · intro h
    obtain ⟨n, b0, b1, b2, b3, b4, b5, b6, b7⟩ := k
    simp only at hn
    subst hn
    have g0 : b0 = if 0 < m then b0 else 0 := by split; rfl; exact h 0 (by omega) (by omega)
    have g1 : b1 = if 1 < m then b1 else 0 := by split; rfl; exact h 1 (by omega) (by omega)
    have g2 : b2 = if 2 < m then b2 else 0 := by split; rfl; exact h 2 (by omega) (by omega)
    have g3 : b3 = if 3 < m then b3 else 0 := by split; rfl; exact h 3 (by omega) (by omega)
    have g4 : b4 = if 4 < m then b4 else 0 := by split; rfl; exact h 4 (by omega) (by omega)
    have g5 : b5 = if 5 < m then b5 else 0 := by split; rfl; exact h 5 (by omega) (by omega)
    have g6 : b6 = if 6 < m then b6 else 0 := by split; rfl; exact h 6 (by omega) (by omega)
    have g7 : b7 = if 7 < m then b7 else 0 := by split; rfl; exact h 7 (by omega) (by omega)
    simp only [firstK, RK.mk.injEq]
    exact ⟨trivial, g0, g1, g2, g3, g4, g5, g6, g7⟩
end Go.Proofs.YtmoaddbpfekdbaaGreat
/- What the functions of layer 3 come to, three: 'Of' and 'Text', of the program and of the document. -/
namespace Go.Proofs.YtmoaddbpfekdbaaGreat
set_option maxRecDepth 100000
open Go.RowKit
set_option linter.unusedVariables false

/-- The byte of s at place i; 0 behind its end. -/
def sb (s : ByteArray) (i : Nat) : Int := if h : i < s.size then ((s[i]).toNat : Int) else 0
/-- The key of the bytes of s, where they are not too many. -/
def ofS (s : ByteArray) : RK := ⟨s.size, sb s 0, sb s 1, sb s 2, sb s 3, sb s 4, sb s 5, sb s 6, sb s 7⟩
theorem sb_byt (s : ByteArray) (i : Nat) : Byt (sb s i) := by
  unfold sb Byt
  split
  · have := (s[i]).toNat_lt; omega
  · omega
theorem sb_in (s : ByteArray) (i : Nat) (h : i < s.size) : sb s i = ((s[i]).toNat : Int) := by simp [sb, h]
theorem sb_out (s : ByteArray) (i : Nat) (h : s.size ≤ i) : sb s i = 0 := by simp [sb, Nat.not_lt.2 h]
theorem ofS_wf (s : ByteArray) (h : s.size ≤ 8) : (ofS s).wf := by
  constructor
  · simp [ofS]; omega
  all_goals exact sb_byt s _
theorem ofS_at (s : ByteArray) (i : Nat) (h : i < 8) : (ofS s).at i = sb s i := by
  rcases i with _|_|_|_|_|_|_|_|i
  all_goals first | rfl | omega
theorem ofS_ok (s : ByteArray) (h : s.size ≤ 8) : okB (ofS s) = true := by
  rw [okB_in (m := s.size) h rfl, decide_eq_true_iff]
  exact (first_iff _ _ h rfl).2 fun t a b => by rw [ofS_at s t b, sb_out s t a]
/-- The first j bytes laid. -/
def ofSj (s : ByteArray) (j : Nat) : RK := ⟨s.size, if 0 < j then sb s 0 else 0, if 1 < j then sb s 1 else 0, if 2 < j then sb s 2 else 0, if 3 < j then sb s 3 else 0, if 4 < j then sb s 4 else 0, if 5 < j then sb s 5 else 0, if 6 < j then sb s 6 else 0, if 7 < j then sb s 7 else 0⟩
theorem ofSj_end (s : ByteArray) : ofSj s s.size = ofS s := by
  have h : ∀ i, (if i < s.size then sb s i else 0) = sb s i := fun i => by
    split
    · rfl
    · rw [sb_out s i (by omega)]
  simp only [ofSj, ofS, h]
theorem ofSj_set (s : ByteArray) (j : Nat) (h : j < 8) : (kc (ofSj s j)).toArray.setIfInBounds (1 + j) (.int .u8 (sb s j)) = (kc (ofSj s (j + 1))).toArray := by
  rcases j with _|_|_|_|_|_|_|_|j
  all_goals first | omega | simp [ofSj]
set_option maxRecDepth 100000 in
set_option maxHeartbeats 1000000 in
theorem ref_of_fits (s : ByteArray) (h : s.size ≤ 8) (w : World) : Calls Tryz.prog 93 #[.string s] w fun e w' => e = .returned (.tuple #[kv (ofS s), .int .i64 0]) ∧ Below w.heap.size w w' := by
  have h1 : decide ((8 : Int) < (s.size : Int)) = false := by simp; omega
  go_enter Tryz.func93, Tryz.ntmps93
  go_wp2_with fail
  go_loopg [5] s.size (fun g i wr => ∃ j : Nat, j + g = s.size ∧ i = .int .i64 j ∧ Arr wr (w.heap.size + 1) 112 (kc (ofSj s j)).toArray ∧ Arr wr w.heap.size 112 (kc zeroK).toArray ∧ Fr w wr)
  case atStart => exact ⟨0, by omega, rfl, arr_new_at _ _ _ _ (by simp), Arr.alloc (arr_new_at _ (kc zeroK).toArray _ _ rfl) _, fr_new (fr_new (fr_refl w) _) _⟩
  case round =>
    obtain ⟨j, hj, rfl, h3, h4, hF⟩ := hrel
    have Hj := keep hj
    by_cases hlt : j < s.size
    · have hc := (h3.cell (1 + j)).trans (kc_at _ j (by omega))
      have hf := h3.free (1 + j)
      have hx := sb_in s j hlt
      have Hx := keep hx
      clear hj hx
      go_wp2_with fail
      go_roundg (gk - 1)
      case measure => have := Hj.out; omega
      case rel => exact ⟨j + 1, by have := Hj.out; omega, by go_num, by rw [← ofSj_set s j (by omega), Hx.out]; exact h3.set _ _, h4.other _ (by simp) _, hF.setCell (by simp) _⟩
    · obtain rfl : j = s.size := by omega
      rw [ofSj_end] at h3
      clear hj
      go_wp2_with (first
        | (refine wpList_load_row rfl 112 (.tmp 4) rfl (w.heap.size + 1) rfl 112 (kc (ofS s)).toArray (0, 0) _ h3 Tryz.underlying112 rfl key_info ?_)
        | (refine wpList_store_row rfl 112 (.tmp 2) (.tmp 26) rfl w.heap.size (kc (ofS s)).toArray rfl rfl 112 (kc zeroK).toArray h4 key_info rfl (kc_all _) ?_)
        | fail)
      exact bodyPost_ret (results_cell_tmp rfl _ _ w.heap.size 112 (kc (ofS s)).toArray (0, 0) _ rfl (setRow_heap _ _ _ _ _ _ h4) Tryz.underlying112 rfl key_info) rfl ⟨rfl, below_setRow hF (Nat.le_refl _) _⟩
/-- The bytes of a key, as a text. -/
def txt (k : RK) : ByteArray := strOfNums ((kbs k).take k.n.toNat)
theorem okB_n {k : RK} (h : okB k = true) : ∃ m : Nat, m ≤ 8 ∧ k.n = m ∧ k = firstK k m := by
  simp only [okB, Bool.and_eq_true, decide_eq_true_iff] at h
  refine ⟨k.n.toNat, by omega, by omega, h.2⟩
end Go.Proofs.YtmoaddbpfekdbaaGreat
/- Plain arithmetic of layer 1: what shifting, reading and writing bytes come to, as functions on numbers and lists. No program text. -/
namespace Go.Proofs.YtmoaddbpfekdbaaGreat
set_option maxRecDepth 100000
open Go.RowKit
set_option linter.unusedVariables false

def two64 : Int := 18446744073709551616
/-- A 64-bit number without sign, moved by that many places up, or down if below 0. -/
def shU (n c : Int) : Int := if c < 0 then n / 2 ^ min (-c).toNat 64 else (n * 2 ^ min c.toNat 64) % 18446744073709551616
/-- A 64-bit number with a sign, moved likewise. -/
def shI (n c : Int) : Int := if c < 0 then n / 2 ^ min (-c).toNat 64 else (n * 2 ^ min c.toNat 64 + 9223372036854775808) % 18446744073709551616 - 9223372036854775808

theorem u64_of (n : Int) : IntKind.u64.wrap n = n % 18446744073709551616 := by
  simp [IntKind.wrap, IntKind.bits, IntKind.signed]
/-- May a number have that many bytes? -/
def okW (w : Int) : Bool := decide (1 ≤ w) && decide (w ≤ 8)
theorem eight (w : Int) (h : 1 ≤ w) (h' : w ≤ 8) : w = 1 ∨ w = 2 ∨ w = 3 ∨ w = 4 ∨ w = 5 ∨ w = 6 ∨ w = 7 ∨ w = 8 := by omega

/-- 256 to the power of w. -/
def p256 (w : Int) : Int := 256 ^ w.toNat
/-- n's w lowest bytes. -/
def lowS (n w : Int) : Int := n % p256 w
def fitsS (n w : Int) : Bool := okW w && decide (n < p256 w)
/-- What the w lowest bytes of n are in two's complement. -/
def sgnS (n w : Int) : Int := if okW w then (n + p256 w / 2) % p256 w - p256 w / 2 else 0
/-- Has n room in w bytes in two's complement? -/
def inS (n w : Int) : Bool := okW w && (decide (-(p256 w / 2) ≤ n) && decide (n < p256 w / 2))

end Go.Proofs.YtmoaddbpfekdbaaGreat
/- What the functions of layer 1 on numbers alone come to, of the program and of the document. -/
namespace Go.Proofs.YtmoaddbpfekdbaaGreat
set_option maxRecDepth 100000
open Go.RowKit
set_option linter.unusedVariables false

end Go.Proofs.YtmoaddbpfekdbaaGreat
/- What Clone, Put and Num come to, of the program and of the document. -/
namespace Go.Proofs.YtmoaddbpfekdbaaGreat
set_option maxRecDepth 100000
open Go.RowKit
set_option linter.unusedVariables false

theorem info_u8 : (Tryz.prog.info? 5).map (fun i => (i.zero, i.size, i.bytes)) = some (some (.int .u8 0), 1, 1) := by kernel_rfl
/-- Bytes as cells. -/
abbrev u8s (zs : List Int) : List Value := zs.map (Value.int .u8)

/-- 'append(s, x...)' of bytes, s the call's own. -/
theorem append_u8 {w : World} {ops : Array Oper} {rest : List Oper} {o : Oper} {a : Act} {Q : Exit → Act → World → Prop} (hgd : o.guard = none) (s x : Operand)
    (hop : o.op = .call { callee := .builtin .append, args := #[s, x], argTypes := #[144, 144] }) (B : Nat)
    (A : Option Addr) (n c : Nat) (zs : List Int) (hs : a.eval s = .slice A n c) (ho : Own w B 5 1 A n c (u8s zs))
    (C : Nat) (A2 : Option Addr) (m c2 : Nat) (ys : List Int) (hx : a.eval x = .slice A2 m c2) (hl : ys.length = m) (hn : Has w C A2 (u8s ys)) (hb : n + m ≤ 1000000) (hB : B ≤ w.heap.size)
    (h : ∀ A' c' w', Own w' B 5 1 A' (n + m) c' (u8s (zs ++ ys)) → w.grownBy w' (blk A) → (blk A' = blk A ∨ blk A' = some w.heap.size) → wpList Tryz.prog ops Q rest (a.put o.dst (.slice A' (n + m) c')) w') :
    wpList Tryz.prog ops Q (o :: rest) a w := by
  obtain ⟨i0, hi0, hz0, hz1, hz2⟩ := info_parts info_u8
  refine wpList_append_has w hgd s x _ hop B 5 i0 _ 1 1 Tryz.underlying144 hi0 hz0 hz1 hz2 rfl (by omega) A n c (u8s zs) hs ho C A2 m c2 (u8s ys) hx (by simpa using hl) hn (ints_oneCell _ _) (by unfold maxLen; omega) (by omega) hB ?_
  intro A' c' w' h1 h2 h3
  exact h A' c' w' (by simpa using h1) h2 h3

/-- A number's lowest bytes, the lowest first. -/
def leB (n : Int) : Nat → List Int
  | 0 => []
  | k + 1 => (n % 256) :: leB (n / 256) k
theorem leB_len (k : Nat) : ∀ n, (leB n k).length = k := by
  induction k with
  | zero => intro n; rfl
  | succ k ih => intro n; simp [leB, ih]
/-- The number behind k bytes less. -/
def sh8 (n : Int) : Nat → Int
  | 0 => n
  | k + 1 => sh8 (n / 256) k
theorem sh8_succ (k : Nat) : ∀ n, sh8 n (k + 1) = sh8 n k / 256 := by
  induction k with
  | zero => intro n; rfl
  | succ k ih => intro n; show sh8 (n / 256) (k + 1) = _; rw [ih]; rfl
theorem leB_snoc (k : Nat) : ∀ n, leB n (k + 1) = leB n k ++ [sh8 n k % 256] := by
  induction k with
  | zero => intro n; rfl
  | succ k ih => intro n; show _ :: leB (n / 256) (k + 1) = _; rw [ih]; rfl
theorem sh8_nonneg (k : Nat) : ∀ n, 0 ≤ n → 0 ≤ sh8 n k := by
  induction k with
  | zero => intro n h; exact h
  | succ k ih => intro n h; exact ih _ (by omega)
theorem sh8_lt (k : Nat) : ∀ n, 0 ≤ n → n < 18446744073709551616 → sh8 n k < 18446744073709551616 := by
  induction k with
  | zero => intro n _ h; exact h
  | succ k ih => intro n h h'; exact ih _ (by omega) (by omega)
/-- 'append([]byte{}, b...)' of the document's Put, and what it goes on with where the width is one. -/
theorem and255 (n : Int) (h : 0 ≤ n) (h' : n < 18446744073709551616) : bits .and .u64 n 255 = n % 256 := by
  rw [u64_and n 255 h h' (by omega) (by omega)]
  obtain ⟨N, rfl⟩ := Int.eq_ofNat_of_zero_le h
  rw [Int.toNat_natCast]
  have : (255 : Int).toNat = 2 ^ 8 - 1 := by decide
  rw [this, Nat.and_two_pow_sub_one_eq_mod]
  omega

set_option maxHeartbeats 400000 in
theorem ref_put_ok (A : Option Addr) (n c : Nat) (zs : List Int) (hl : zs.length = n) (hn : n ≤ 90000) (x k : Int) (hx : 0 ≤ x) (hx' : x < 18446744073709551616) (h1 : 1 ≤ k) (h2 : k ≤ 8) (w : World) (hr : Has w w.heap.size A (u8s zs)) :
    Calls Tryz.prog 103 #[.slice A n c, .int .u64 x, .int .i64 k] w fun e w' =>
      ∃ A' c', e = .returned (.slice A' (n + k.toNat) c') ∧ Own w' w.heap.size 5 1 A' (n + k.toNat) c' (u8s (zs ++ leB x k.toNat)) ∧ Below w.heap.size w w' := by
  obtain ⟨K, rfl⟩ := Int.eq_ofNat_of_zero_le (show 0 ≤ k by omega)
  rw [Int.toNat_natCast]
  have Hx := keep hx'
  clear hx'
  go_enter Tryz.func103, Tryz.ntmps103
  go_wp2_with (at_builtin; refine append_u8 rfl (.tmp 9) (.tmp 10) rfl w.heap.size _ 0 0 [] rfl (Own.lit w w.heap.size 5 #[] 0 1 (Nat.le_refl _) (by unfold maxLen; omega) rfl) w.heap.size A n c zs rfl hl (hr.below ((Below.refl _ _).alloc (Nat.le_refl _) _)) (by omega) (by simp) ?_; intro A1 c1 w1 ho1 hg1 _)
  have hb1 := below_grown (B := w.heap.size) ((Below.refl _ _).alloc (Nat.le_refl _) (.cells #[] 5)) (Own.lit w w.heap.size 5 #[] 0 1 (Nat.le_refl _) (by unfold maxLen; omega) rfl) hg1 (by simp) (Nat.le_refl _)
  simp only [Nat.zero_add, List.nil_append] at ho1
  go_loopw [1, 7, 8] (fun y v i wr => ∃ (j : Nat) (A' : Option Addr) (c' : Nat), j ≤ K ∧ i = .int .i64 j ∧ y = .int .u64 (sh8 x j) ∧ v = .slice A' (n + j) c' ∧ Own wr w.heap.size 5 1 A' (n + j) c' (u8s (zs ++ leB x j)) ∧ Below w.heap.size w wr) (fun _ _ i _ => K - (intOf i).toNat)
  case atStart => exact ⟨0, A1, c1, by omega, rfl, rfl, by simp, by simpa [leB] using ho1, hb1⟩
  case round =>
    obtain ⟨j, A', c', hj, rfl, rfl, rfl, ho, hb⟩ := hrel
    by_cases hlt : j < K
    · have hby : IntKind.u8.wrap (bits .and .u64 (sh8 x j) 255) = sh8 x j % 256 := by
        rw [and255 _ (sh8_nonneg j x hx) (sh8_lt j x hx Hx.out), IntKind.wrap_u8]; omega
      have hz := hb.size
      have hs := keep (sh8_succ j x)
      go_wp2_with (at_builtin; refine append_u8 rfl (.tmp 24) (.tmp 28) rfl w.heap.size _ _ _ _ rfl (ho.alloc _) _ _ 1 1 [sh8 x j % 256] rfl rfl (has_one _ _ _) (by omega) (Nat.le_trans hz (by simp)) ?_; intro A2 c2 w2 ho2 hg2 _)
      go_roundw
      case rel => exact ⟨j + 1, A2, c2, by omega, by go_num, by rw [hs.out], rfl, by rw [leB_snoc, ← List.append_assoc]; exact ho2, below_grown (hb.alloc hz _) (ho.alloc _) hg2 (Nat.le_trans hz (by simp)) (Nat.le_refl _)⟩
      case measure => simp [intOf]; omega
    · go_wp2
      go_ret
      obtain rfl : j = K := by omega
      exact ⟨A', c', rfl, ho, hb⟩

/-- The number that bytes are, the lowest first. -/
def leN : List Int → Int
  | [] => 0
  | b :: l => b + 256 * leN l
def Bytes (l : List Int) : Prop := ∀ z ∈ l, 0 ≤ z ∧ z ≤ 255
theorem leN_bd : ∀ l, Bytes l → 0 ≤ leN l ∧ leN l < 256 ^ l.length
  | [], _ => by simp [leN]
  | b :: l, h => by
    have hb := h b (by simp)
    have hl := leN_bd l fun z hz => h z (by simp [hz])
    simp only [leN, List.length_cons, Int.pow_succ]
    omega
theorem bytes_leB (k : Nat) : ∀ n, Bytes (leB n k) := by
  induction k with
  | zero => intro n z hz; simp [leB] at hz
  | succ k ih =>
    intro n z hz
    rcases List.mem_cons.1 hz with rfl | hz
    · omega
    · exact ih _ z hz

theorem p256_le {l : Nat} (h : l ≤ 7) : (256 : Int) ^ l ≤ 72057594037927936 := by
  have : l = 0 ∨ l = 1 ∨ l = 2 ∨ l = 3 ∨ l = 4 ∨ l = 5 ∨ l = 6 ∨ l = 7 := by omega
  rcases this with rfl | rfl | rfl | rfl | rfl | rfl | rfl | rfl <;> decide
/-- 'n << 8 | b': one byte more, below. -/
theorem or_low (a x : Int) (ha : 0 ≤ a) (ha' : a < 72057594037927936) (hx : 0 ≤ x) (hx' : x ≤ 255) : bits .or .u64 (IntKind.u64.wrap (a * 256)) x = x + 256 * a := by
  rw [u64_of, Int.emod_eq_of_lt (by omega) (by omega), u64_or (a * 256) x (by omega) (by omega) hx (by omega)]
  obtain ⟨A, rfl⟩ := Int.eq_ofNat_of_zero_le ha
  obtain ⟨X, rfl⟩ := Int.eq_ofNat_of_zero_le hx
  have h := Nat.two_pow_add_eq_or_of_lt (i := 8) (b := X) (by omega) A
  rw [show ((A : Int) * 256).toNat = 2 ^ 8 * A from by omega, Int.toNat_natCast, ← h]
  omega

theorem num_down {zs : List Int} {n P K j : Nat} {w : World} {b off : Nat} (hl : zs.length = n) (hz : Bytes zs) (hp : P + K ≤ n) (hj : j < K)
    (hcell : ∀ i u, (u8s zs)[i]? = some u → w.cell? ⟨b, off + i, none⟩ = some u) :
    ∃ z : Int, 0 ≤ z ∧ z ≤ 255 ∧ w.cell? ⟨b, off + (P + j), none⟩ = some (.int .u8 z) ∧ leN ((zs.drop (P + j)).take (K - j)) = z + 256 * leN ((zs.drop (P + (j + 1))).take (K - (j + 1))) := by
  have hi : P + j < zs.length := by omega
  refine ⟨zs[P + j], (hz _ (List.getElem_mem hi)).1, (hz _ (List.getElem_mem hi)).2, hcell (P + j) (.int .u8 zs[P + j]) (by simp [hi]), ?_⟩
  rw [List.drop_eq_getElem_cons hi, show K - j = (K - (j + 1)) + 1 from by omega, List.take_succ_cons, leN, Nat.add_assoc]

set_option maxHeartbeats 400000 in
theorem ref_num_ok (A : Option Addr) (n c : Nat) (zs : List Int) (hl : zs.length = n) (hn : n ≤ 100000) (hz : Bytes zs) (P K : Nat) (hk1 : 1 ≤ K) (hk2 : K ≤ 8) (hp : P + K ≤ n) (w : World) (hr : Has w w.heap.size A (u8s zs)) :
    Calls Tryz.prog 105 #[.slice A n c, .int .i64 P, .int .i64 K] w fun e w' => e = .returned (.tuple #[.int .u64 (leN ((zs.drop P).take K)), .bool true]) ∧ w = w' := by
  obtain ⟨b, off, rfl, _, hcell⟩ := hr.form (by intro h; simp at h; subst h; simp at hl; omega)
  have h1 : (0 : Int) ≤ P := by omega
  have h2 : (P : Int) ≤ n - K := by omega
  go_enter Tryz.func105, Tryz.ntmps105
  go_wp2
  go_loopg [8, 9] K (fun g v i wr => i = .int .i64 ((g : Int) - 1) ∧ g ≤ K ∧ v = .int .u64 (leN ((zs.drop (P + g)).take (K - g))) ∧ w = wr)
  case atStart => exact ⟨rfl, Nat.le_refl _, by simp [leN], rfl⟩
  case round =>
    obtain ⟨rfl, hj, rfl, rfl⟩ := hrel
    rcases Nat.eq_zero_or_pos gk with h0 | h0
    · subst h0
      go_wp2
      go_ret2
      exact ⟨by simp, rfl⟩
    · obtain ⟨j, rfl⟩ : ∃ j, gk = j + 1 := ⟨gk - 1, by omega⟩
      obtain ⟨z, hz1, hz2, hzc, htake⟩ := num_down hl hz hp (j := j) (by omega) hcell
      have hbd := leN_bd ((zs.drop (P + (j + 1))).take (K - (j + 1))) (fun y hy => hz y (List.mem_of_mem_drop (List.mem_of_mem_take hy)))
      have hlen : ((zs.drop (P + (j + 1))).take (K - (j + 1))).length ≤ 7 := by simp; omega
      have h7 : leN ((zs.drop (P + (j + 1))).take (K - (j + 1))) < 72057594037927936 := Int.lt_of_lt_of_le hbd.2 (p256_le hlen)
      have hor := keep (or_low _ z hbd.1 h7 hz1 hz2)
      have ht := keep htake
      clear htake hbd hlen h7
      rw [show (((j + 1 : Nat) : Int) - 1) = (j : Int) from by omega]
      go_wp2
      go_roundg j
      case measure => omega
      case rel => exact ⟨rfl, by omega, by rw [hor.out, ht.out], rfl⟩

end Go.Proofs.YtmoaddbpfekdbaaGreat
/- Values as values: a number and sixteen bytes. -/
namespace Go.Proofs.YtmoaddbpfekdbaaGreat
set_option maxRecDepth 100000
open Go.RowKit
set_option linter.unusedVariables false

/-- A value, valid or not. -/
structure RV where
  n : Int
  bs : List Int
  deriving DecidableEq, Inhabited
/-- Its cells. -/
def vc (v : RV) : List Value := .int .i64 v.n :: u8s v.bs
abbrev vv (v : RV) : Value := .agg (vc v).toArray
/-- What every value that comes in is. -/
structure RV.wf (v : RV) : Prop where
  hn : -9223372036854775808 ≤ v.n ∧ v.n ≤ 9223372036854775807
  hl : v.bs.length = 16
  hb : Bytes v.bs
def zeroV : RV := ⟨0, List.replicate 16 0⟩
theorem bytes_zeros (n : Nat) : Bytes (List.replicate n 0) := fun z hz => by
  rw [List.eq_of_mem_replicate hz]; omega
theorem zeroV_wf : zeroV.wf := ⟨by simp [zeroV], by simp [zeroV], bytes_zeros 16⟩
theorem vc_len {v : RV} (h : v.bs.length = 16) : (vc v).length = 17 := by simp [vc, h]
theorem vc_one (v : RV) : ∀ x ∈ vc v, x.oneCell' = true := by
  intro x hx
  rcases List.mem_cons.1 hx with rfl | hx
  · rfl
  · exact bytes_one _ _ hx
theorem vc_at (v : RV) (j : Nat) (hj : j < v.bs.length) : (vc v)[1 + j]? = some (.int .u8 (v.bs.getD j 0)) := by
  rw [Nat.add_comm]
  simp [vc, hj]
theorem val_info : (Tryz.prog.info? 115).map (·.size) = some 17 := by kernel_rfl
theorem val_cells : Tryz.prog.cellsOf 115 = 17 := by kernel_rfl
theorem arr16_cells : Tryz.prog.cellsOf 113 = 16 := by kernel_rfl
def vlits (v : RV) : List Lit := .int .i64 v.n :: v.bs.map (Lit.int .u8)
def vlit (v : RV) : Lit := .string (keyBytes (vlits v))
theorem u8s_inj {a b : List Int} (h : u8s a = u8s b) : a = b := by
  induction a generalizing b with
  | nil => cases b with | nil => rfl | cons _ _ => simp [u8s] at h
  | cons x a ih => cases b with
    | nil => simp [u8s] at h
    | cons y b =>
      simp only [u8s, List.map_cons, List.cons.injEq, Value.int.injEq, true_and] at h
      rw [h.1, ih h.2]
theorem vc_inj {a b : RV} (h : vc a = vc b) : a = b := by
  obtain ⟨n, bs⟩ := a
  obtain ⟨m, cs⟩ := b
  simp only [vc, List.cons.injEq, Value.int.injEq, true_and] at h
  rw [h.1, u8s_inj h.2]
/-- 'B[:m]' of an array of sixteen bytes. -/
theorem slice16 (m : Nat) (hm : m ≤ 16) (g : Nat) (W : World) : (Instr.sliceAt 113 (.pointer (some ⟨g, 1, none⟩)) none (some (.int .i64 (m : Int))) none).run Tryz.prog W = .ok (.slice (some ⟨g, 1, none⟩) m 16) W := by
  have hA : (Tryz.prog.arrayLen 113) = 16 := by kernel_rfl
  have h := run_sliceAt_array_h (P := Tryz.prog) (w := W) (t := 113) (a := ⟨g, 1, none⟩) (ht := by kernel_rfl) .i64 (m : Int) (by omega) (by rw [hA]; omega)
  rw [hA] at h
  rw [h]
  have hs : (sizeOf (Tryz.prog.elem 113)).run Tryz.prog W = .ok 1 W := by kernel_rfl
  rw [hs]
  simp [Result.andThen, slicedAt, Addr.add]
/-- The bytes of a value lie behind its number. -/
theorem has_bytes {w : World} {g : Nat} {v : RV} (ha : Arr w g 115 (vc v).toArray) : Has w w.heap.size (some ⟨g, 1, none⟩) (u8s v.bs) := fun j u hu => by
  refine ⟨g, 1, rfl, ha.lt, ?_⟩
  rw [ha.cell, ← hu, Nat.add_comm]
  simp [vc]
end Go.Proofs.YtmoaddbpfekdbaaGreat
/- What the functions of layer 4 come to, one: 'Of', 'Check', 'Text', of the program and of the document. -/
namespace Go.Proofs.YtmoaddbpfekdbaaGreat
set_option maxRecDepth 100000
open Go.RowKit
set_option linter.unusedVariables false

def nums (s : ByteArray) : List Int := s.data.toList.map fun u => (u.toNat : Int)
theorem nums_len (s : ByteArray) : (nums s).length = s.size := by rw [nums, List.length_map, ← Lib.size_eq]
theorem nums_bytes (s : ByteArray) : Bytes (nums s) := fun z hz => by
  obtain ⟨u, _, rfl⟩ := List.mem_map.1 hz
  have := u.toNat_lt
  omega
theorem str_size (l : List Int) : (strOfNums l).size = l.length := by
  show ((l.map fun n => UInt8.ofNat n.toNat).toArray).size = l.length
  simp
theorem nums_at (s : ByteArray) (j : Nat) (h : j < s.size) : (nums s).getD j 0 = ((s[j]).toNat : Int) := by
  have h' : j < s.data.toList.length := by rw [← Lib.size_eq]; exact h
  rw [nums, List.getD, List.getElem?_map, List.getElem?_eq_getElem h']
  rfl
/-- The value of the bytes of s, where they are not too many. -/
def ofV (s : ByteArray) : RV := ⟨s.size, nums s ++ List.replicate (16 - s.size) 0⟩
theorem ofV_wf {s : ByteArray} (h : s.size ≤ 16) : (ofV s).wf := ⟨by simp [ofV]; omega, by simp [ofV, nums_len]; omega, fun z hz => by
  rcases List.mem_append.1 hz with hz | hz
  · exact nums_bytes s z hz
  · exact bytes_zeros _ z hz⟩
/-- The value of bytes. -/
def mkV (l : List Int) : RV := ⟨l.length, l ++ List.replicate (16 - l.length) 0⟩
theorem ofV_mk (s : ByteArray) : ofV s = mkV (nums s) := by simp [ofV, mkV, nums_len]
/-- N is from 0 to 16, and what lies behind is 0. -/
def okV (v : RV) : Bool := decide (0 ≤ v.n) && (decide (v.n ≤ 16) && decide (v = mkV (v.bs.take v.n.toNat)))
theorem okV_in {v : RV} {m : Nat} (hm : m ≤ 16) (hn : v.n = m) : okV v = decide (v = mkV (v.bs.take m)) := by
  have h1 : 0 ≤ v.n := by omega
  have h2 : v.n ≤ 16 := by omega
  rw [okV, decide_eq_true h1, decide_eq_true h2, Bool.true_and, Bool.true_and, hn, Int.toNat_natCast]
theorem okV_n {v : RV} (h : okV v = true) : ∃ m : Nat, m ≤ 16 ∧ v.n = m ∧ v = mkV (v.bs.take m) := by
  simp only [okV, Bool.and_eq_true, decide_eq_true_iff] at h
  exact ⟨v.n.toNat, by omega, by omega, h.2.2⟩
theorem ofV_ok {s : ByteArray} (h : s.size ≤ 16) : okV (ofV s) = true := by
  rw [okV_in (m := s.size) h rfl, decide_eq_true_iff]
  have : (ofV s).bs.take s.size = nums s := by
    show (nums s ++ _).take s.size = _
    rw [← nums_len s, List.take_left]
  rw [this, ofV_mk]
theorem valS : Sty Tryz.prog 115 17 := ⟨val_info, _, Tryz.underlying115, rfl⟩
theorem val_ld (p : Value) : Instr.loadAt 115 p = ldS 115 p := rfl
/-- The cells of a value of so many bytes, all 0. -/
def lit0 (n : Int) : List Value := .int .i64 n :: List.replicate 16 (.int .u8 0)
theorem lit0_one (n : Int) : One (lit0 n) := One.cons rfl fun v hv => by rw [List.eq_of_mem_replicate hv]; rfl
theorem lit0_len (n : Int) : (lit0 n).length = 17 := by simp [lit0]
theorem zeroV_len : (vc zeroV).length = 17 := rfl
/-- The first j bytes laid. -/
def ofVj (s : ByteArray) (j : Nat) : RV := ⟨s.size, (nums s).take j ++ List.replicate (16 - j) 0⟩
theorem ofVj_zero (s : ByteArray) : vc (ofVj s 0) = lit0 s.size := by simp [ofVj, lit0, vc, u8s]
theorem ofVj_end (s : ByteArray) : ofVj s s.size = ofV s := by
  rw [ofVj, ofV, List.take_of_length_le (by rw [nums_len]; exact Nat.le_refl _)]
theorem ofVj_len (s : ByteArray) (j : Nat) (h : j ≤ s.size) (h2 : s.size ≤ 16) : (vc (ofVj s j)).length = 17 := by simp [vc, ofVj, nums_len]; omega
theorem ofVj_set (s : ByteArray) (j : Nat) (h : j < s.size) (h2 : s.size ≤ 16) : (vc (ofVj s j)).toArray.setIfInBounds (1 + j) (.int .u8 (nums s)[j]!) = (vc (ofVj s (j + 1))).toArray := by
  have hlen := nums_len s
  apply Array.ext'
  rw [Array.toList_setIfInBounds]
  show (vc (ofVj s j)).set (1 + j) _ = vc (ofVj s (j + 1))
  apply List.ext_getElem?
  intro i
  rw [List.getElem?_set]
  rcases i with _ | i
  · rw [if_neg (by omega)]; rfl
  · have e : ∀ k, (vc (ofVj s k))[i + 1]? = (((nums s).take k ++ List.replicate (16 - k) 0).map (Value.int .u8))[i]? := fun k => by simp [vc, ofVj, u8s]
    rw [e, e]
    have hl : (vc (ofVj s j)).length = 17 := ofVj_len s j (by omega) h2
    by_cases hi : i = j
    · subst hi
      rw [if_pos (by omega), if_pos (by omega), List.getElem?_map, List.getElem?_append_left (by simp; omega), List.getElem?_take_of_lt (by omega)]
      have : i < (nums s).length := by omega
      simp [this]
    · rw [if_neg (by omega), List.getElem?_map, List.getElem?_map]
      congr 1
      by_cases hij : i < j
      · rw [List.getElem?_append_left (by simp; omega), List.getElem?_append_left (by simp; omega), List.getElem?_take_of_lt hij, List.getElem?_take_of_lt (by omega)]
      · rw [List.getElem?_append_right (by simp; omega), List.getElem?_append_right (by simp; omega), List.getElem?_replicate, List.getElem?_replicate]
        simp only [List.length_take]
        split <;> split <;> first | rfl | omega
theorem nums_get (s : ByteArray) (j : Nat) (h : j < s.size) : (nums s)[j]! = ((s[j]).toNat : Int) := by
  have h' : j < (nums s).length := by rw [nums_len]; exact h
  rw [getElem!_pos (nums s) j h', ← nums_at s j h, List.getD, List.getElem?_eq_getElem h']
  rfl
set_option maxRecDepth 100000 in
set_option maxHeartbeats 1000000 in
theorem ref_vof_fits (s : ByteArray) (h : s.size ≤ 16) (w : World) : Calls Tryz.prog 94 #[.string s] w fun e w' => e = .returned (.tuple #[vv (ofV s), .int .i64 0]) ∧ Fr w w' := by
  have h1 : decide ((16 : Int) < (s.size : Int)) = false := by simp; omega
  have hl := vc_len (ofV_wf h).hl
  go_enter Tryz.func94, Tryz.ntmps94
  go_wp2_with (first
    | (refine wpList_store_new valS rfl (.tmp 4) (.tmp 6) rfl (w.heap.size + 1) (vc zeroV) rfl rfl rfl (vc_one _) rfl (by simp) ?_
       generalize hX : World.alloc (World.alloc w _) _ = W
       have h3 : Arr W w.heap.size 115 (vc zeroV).toArray := by rw [← hX]; exact Arr.alloc (arr_at _ _ _ _ rfl) _
       have h4 : Arr W (w.heap.size + 1) 115 (vc zeroV).toArray := by rw [← hX]; exact arr_at _ _ _ _ (by simp)
       have hF : Fr w W := by rw [← hX]; exact fr_new (fr_new (fr_refl w) _) _
       have hc4 : W.cell? ⟨w.heap.size + 1, 0, none⟩ = some (.int .i64 0) := h4.cell 0
       have hf4 := h4.free 0
       clear hX)
    | fail)
  have h5 : Arr (W.setCell ⟨w.heap.size + 1, 0, none⟩ (.int .i64 (s.size : Int))) (w.heap.size + 1) 115 (vc (ofVj s 0)).toArray := by rw [ofVj_zero]; exact h4.set 0 _
  have h6 : Arr (W.setCell ⟨w.heap.size + 1, 0, none⟩ (.int .i64 (s.size : Int))) w.heap.size 115 (vc zeroV).toArray := h3.other _ (by simp) _
  have hF2 : Fr w (W.setCell ⟨w.heap.size + 1, 0, none⟩ (.int .i64 (s.size : Int))) := hF.setCell (by simp) _
  generalize W.setCell ⟨w.heap.size + 1, 0, none⟩ (.int .i64 (s.size : Int)) = W1 at *
  clear h3 h4 hF hc4 hf4
  go_loopg [5] s.size (fun g i wr => ∃ j : Nat, j + g = s.size ∧ i = .int .i64 j ∧ Arr wr (w.heap.size + 1) 115 (vc (ofVj s j)).toArray ∧ Arr wr w.heap.size 115 (vc zeroV).toArray ∧ Fr w wr)
  case atStart => exact ⟨0, by omega, rfl, h5, h6, hF2⟩
  case round =>
    obtain ⟨j, hj, rfl, h3, h4, hF⟩ := hrel
    have Hj := keep hj
    by_cases hlt : j < s.size
    · have hc := (h3.cell (1 + j)).trans ((by simp : (vc (ofVj s j)).toArray[1 + j]? = (vc (ofVj s j))[1 + j]?).trans (vc_at _ j (by simp [ofVj, nums_len]; omega)))
      have hf := h3.free (1 + j)
      have Hx := keep (nums_get s j hlt)
      clear hj h5 h6 hF2
      go_wp2_with fail
      go_roundg (gk - 1)
      case measure => have := Hj.out; omega
      case rel => exact ⟨j + 1, by have := Hj.out; omega, by go_num, by rw [← ofVj_set s j hlt h, Hx.out]; exact h3.set _ _, h4.other _ (by simp) _, hF.setCell (by simp) _⟩
    · obtain rfl : j = s.size := by omega
      rw [ofVj_end] at h3
      clear hj h5 h6 hF2
      go_wp2_with (first
        | (refine wpList_load_sty valS rfl (.tmp 4) rfl (w.heap.size + 1) rfl hl h3 ?_)
        | (refine wpList_store_sty valS rfl (.tmp 2) (.tmp 26) rfl w.heap.size (vc (ofV s)) rfl rfl hl (vc_one _) zeroV_len h4 ?_)
        | fail)
      exact bodyPost_ret (valS.result2 rfl _ w.heap.size rfl hl (h4.setRow _)) rfl ⟨rfl, fr_setRow hF (Nat.le_refl _) _⟩
end Go.Proofs.YtmoaddbpfekdbaaGreat
/- What the functions of layer 4 come to, two: 'Check', 'Text', of the program and of the document. -/
namespace Go.Proofs.YtmoaddbpfekdbaaGreat
set_option maxRecDepth 100000
open Go.RowKit
set_option linter.unusedVariables false

theorem take_bytes {l : List Int} (h : Bytes l) (m : Nat) : Bytes (l.take m) := fun z hz => h z (List.mem_of_mem_take hz)
/-- The text of a value; none, if it is not valid. -/
def txtV (v : RV) : ByteArray := if okV v = true then strOfNums (v.bs.take v.n.toNat) else ⟨#[]⟩
end Go.Proofs.YtmoaddbpfekdbaaGreat
