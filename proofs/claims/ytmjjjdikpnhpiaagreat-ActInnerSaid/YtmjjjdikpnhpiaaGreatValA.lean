/- Values as values: a number and sixteen bytes. -/
import Derived.Test.YtmjjjdikpnhpiaaGreatKeyA
import Derived.Test.YtmjjjdikpnhpiaaGreatBInts
import Derived.Test.YtmjjjdikpnhpiaaGreatBase
import Derived.Lib.BufferWrite
import Derived.Lib.SlBuf
import Derived.Laws.BytesArg
import Derived.Deep.LoopGhost
import Derived.BigQuiet
import Derived.Deep.QuietTactic
import Derived.Outline
namespace Go.Proofs.YtmjjjdikpnhpiaaGreat
set_option linter.unusedVariables false
set_option linter.unusedSimpArgs false
set_option maxRecDepth 100000
open Go.RowKit
section
structure RV where
 n : Int
 bs : List Int
 deriving DecidableEq, Inhabited
def vc (v : RV) : List Value := .int .i64 v.n :: u8s v.bs
abbrev vv (v : RV) : Value := .agg (vc v).toArray
structure RV.wf (v : RV) : Prop where
 hn : -9223372036854775808 ≤ v.n ∧ v.n ≤ 9223372036854775807
 hl : v.bs.length = 16
 hb : zdi v.bs
def zE : RV := ⟨0, List.replicate 16 0⟩
theorem zeR (n : Nat) : zdi (List.replicate n 0) := fun z hz => by
 rw [List.eq_of_mem_replicate hz]; omega
theorem zcA : zE.wf := ⟨by simp [zE], by simp [zE], zeR 16⟩
theorem zD {v : RV} (h : v.bs.length = 16) : (vc v).length = 17 := by simp [vc, h]
theorem zar (v : RV) : ∀ x ∈ vc v, x.oneCell' = true := by
 intro x hx
 rcases List.mem_cons.1 hx with rfl | hx
 ·rfl
 ·exact zgJ _ _ hx
theorem vc_at (v : RV) (j : Nat) (hj : j < v.bs.length) : (vc v)[1 + j]? = some (.int .u8 (v.bs.getD j 0)) := by
 rw [Nat.add_comm];simp [vc, hj]
theorem zad : (Tryz.prog.info? 37).map (·.size) = some 17 := by kernel_rfl
theorem zlQ : Tryz.prog.keyType 37 = true := by kernel_rfl
theorem zmc : Tryz.prog.keyTypeAt (Tryz.prog.types.size + 1) 37 = true := by kernel_rfl
theorem zln : (match Tryz.prog.underlying 37 with | some (.array _ _) | some (.struct _) => true | _ => false) = true := by kernel_rfl
theorem zmV : (37 : TypeId) < Tryz.prog.types.size := of_decide_eq_true (by kernel_rfl)
theorem val_law : WideMaps.KeyLaw Tryz.prog 37 := deep_law_gate zgp (of_decide_eq_true zdd) zmV zlQ zln
theorem znA : Go.Maps.Keyed Tryz.prog 37 := .of_law val_law
theorem zej : Tryz.prog.cellsOf 37 = 17 := by kernel_rfl
theorem zhc : Tryz.prog.cellsOf 35 = 16 := by kernel_rfl
def zhN (v : RV) : List Lit := .int .i64 v.n :: v.bs.map (Lit.int .u8)
def vlit (v : RV) : Lit := .string (keyBytes (zhN v))
theorem val_lits (v : RV) (h : v.wf) : Tryz.prog.keyLits (Tryz.prog.types.size + 1) 37 (vc v) = some (zhN v) := by
 obtain ⟨D, hD⟩ : ∃ D, Tryz.prog.types.size + 1 = D + 1 + 1 + 1 := ⟨Tryz.prog.types.size - 2, by have h : 37 < Tryz.prog.types.size := zmV; omega⟩;rw [hD];obtain ⟨hn, hl, hb⟩ := h;obtain ⟨n, bs⟩ := v;simp only at hn hl hb
 match bs, hl with
 | [b0, b1, b2, b3, b4, b5, b6, b7, b8, b9, b10, b11, b12, b13, b14, b15], _ =>
  have q : ∀ z ∈ [b0, b1, b2, b3, b4, b5, b6, b7, b8, b9, b10, b11, b12, b13, b14, b15], (Lit.int .u8 z).wf = true := fun z hz => zbS (hb z hz);simp only [List.forall_mem_cons, List.not_mem_nil, false_implies, implies_true, and_true] at q;obtain ⟨q0, q1, q2, q3, q4, q5, q6, q7, q8, q9, q10, q11, q12, q13, q14, q15⟩ := q;simp [Program.keyLits, Tryz.underlying37, Tryz.underlying3, Tryz.underlying35, Tryz.underlying5, zej, zhc, zcT, zgs, vc, zh0 hn, q0, q1, q2, q3, q4, q5, q6, q7, q8, q9, q10, q11, q12, q13, q14, q15, zhN, List.range, List.range.loop]
theorem zkb (v : RV) (h : v.wf) : keyOf Tryz.prog 37 (vv v) = some (vlit v) := by
 have hf : (vv v).formed Tryz.prog 37 = true := by simp [Value.formed, Tryz.underlying37, zej, zD h.hl]
 have hl := val_lits v h;simp only [keyOf, Tryz.underlying37, zlQ, hf, Bool.and_self, if_true, Value.cells];rw [hl];rfl
theorem u8s_inj {a b : List Int} (h : u8s a = u8s b) : a = b := by
 induction a generalizing b with
 | nil => cases b with | nil => rfl | cons _ _ => simp [u8s] at h
 | cons x a ih => cases b with
  | nil => simp [u8s] at h
  | cons y b =>
   simp only [u8s, List.map_cons, List.cons.injEq, Value.int.injEq, true_and] at h;rw [h.1, ih h.2]
theorem zms {a b : RV} (h : vc a = vc b) : a = b := by
 obtain ⟨n, bs⟩ := a;obtain ⟨m, cs⟩ := b;simp only [vc, List.cons.injEq, Value.int.injEq, true_and] at h;rw [h.1, u8s_inj h.2]
theorem vv_inj {a b : RV} (h : vv a = vv b) : a = b := by
 injection h with h
 exact zms (by simpa using congrArg Array.toList h)
theorem vlit_inj {a b : RV} (ha : a.wf) (hb : b.wf) (h : vlit a = vlit b) : a = b := vv_inj (znA.inj (zkb a ha) (h ▸ zkb b hb))
theorem znr {a b : RV} (ha : a.wf) (hb : b.wf) (W : World) : (Op.equal 37 (vv a) (vv b)).run Tryz.prog W = .ok (decide (a = b)) W := by
 obtain ⟨r, h1, h2⟩ := run_equal_deep W (m := Tryz.prog.types.size + 1) zeS zmc zln (zkb a ha) (zkb b hb)
 have : r = decide (a = b) := by
  rw [Bool.eq_iff_iff, h2, decide_eq_true_iff];exact ⟨vlit_inj ha hb, fun e => by rw [e]⟩
 rw [h1, this]
theorem znq {a b : RV} (ha : a.wf) (hb : b.wf) (W : World) : (binOp .eql 37 (vv a) (vv b)).run Tryz.prog W = .ok (.bool (decide (a = b))) W := by
 simp only [binOp, Sem.run_bind, znr ha hb, Result.andThen_ok, Sem.run_pure]
theorem val_neq {a b : RV} (ha : a.wf) (hb : b.wf) (W : World) : (binOp .neq 37 (vv a) (vv b)).run Tryz.prog W = .ok (.bool (!decide (a = b))) W := by
 simp only [binOp, Sem.run_bind, znr ha hb, Result.andThen_ok, Sem.run_pure]
theorem zhE (m : Nat) (hm : m ≤ 16) (g : Nat) (W : World) : (Instr.sliceAt 35 (.pointer (some ⟨g, 1, none⟩)) none (some (.int .i64 (m : Int))) none).run Tryz.prog W = .ok (.slice (some ⟨g, 1, none⟩) m 16) W := by
 have hA : (Tryz.prog.arrayLen 35) = 16 := by kernel_rfl
 have h := run_sliceAt_array_h (P := Tryz.prog) (w := W) (t := 35) (a := ⟨g, 1, none⟩) (ht := by kernel_rfl) .i64 (m : Int) (by omega) (by rw [hA]; omega);rw [hA] at h;rw [h];have hs : (sizeOf (Tryz.prog.elem 35)).run Tryz.prog W = .ok 1 W := by kernel_rfl
 rw [hs];simp [Result.andThen, slicedAt, Addr.add]
theorem znw {w : World} {g : Nat} {v : RV} (ha : Arr w g 37 (vc v).toArray) : Has w w.heap.size (some ⟨g, 1, none⟩) (u8s v.bs) := fun j u hu => by
 refine ⟨g, 1, rfl, ha.lt, ?_⟩;rw [ha.cell, ← hu, Nat.add_comm];simp [vc]
theorem zhY {w : World} {g m : Nat} {v : RV} (ha : Arr w g 37 (vc v).toArray) (hl : v.bs.length = 16) (hm : m ≤ 16) : (convert 58 9 (.slice (some ⟨g, 1, none⟩) m 16)).run Tryz.prog w = .ok (.string (strOfNums (v.bs.take m))) w :=
 run_convert_bytes_arg w 58 5 Tryz.underlying58 Tryz.underlying5 g 1 m 16 _ (by simp [hl]; omega) (fun i hi => by
  rw [ha.cell];have : (vc v).toArray[1 + i]? = (vc v)[1 + i]? := by simp
  rw [this, vc_at v i (by omega), List.getD, List.getD, List.getElem?_take_of_lt hi]) 9 Tryz.underlying9
end
section
def zec (s : ByteArray) : List Int := s.data.toList.map fun u => (u.toNat : Int)
theorem zdc (s : ByteArray) : (zec s).length = s.size := by rw [zec, List.length_map, ← Lib.size_eq]
theorem zlY (s : ByteArray) : Lib.byteCells s.data.toList = u8s (zec s) := by simp [Lib.byteCells, zec, u8s]
theorem zmh (s : ByteArray) : zdi (zec s) := fun z hz => by
 obtain ⟨u, _, rfl⟩ := List.mem_map.1 hz;have := u.toNat_lt;omega
theorem zlx {l : List Int} (h : zdi l) : zec (strOfNums l) = l := by
 show (l.map fun n => UInt8.ofNat n.toNat).map (fun u => (u.toNat : Int)) = l
 rw [List.map_map]
 conv => rhs; rw [← List.map_id l]
 apply List.map_congr_left;intro z hz;have hb := h z hz
 show ((UInt8.ofNat z.toNat).toNat : Int) = z
 rw [UInt8.toNat_ofNat_of_lt' (by show z.toNat < 256; omega)];omega
theorem zfP (l : List Int) : (strOfNums l).size = l.length := by
 show ((l.map fun n => UInt8.ofNat n.toNat).toArray).size = l.length
 simp
theorem nums_at (s : ByteArray) (j : Nat) (h : j < s.size) : (zec s).getD j 0 = ((s[j]).toNat : Int) := by
 have h' : j < s.data.toList.length := by rw [← Lib.size_eq]; exact h
 rw [zec, List.getD, List.getElem?_map, List.getElem?_eq_getElem h'];rfl
def ofV (s : ByteArray) : RV := ⟨s.size, zec s ++ List.replicate (16 - s.size) 0⟩
theorem zjS {s : ByteArray} (h : s.size ≤ 16) : (ofV s).wf := ⟨by simp [ofV]; omega, by simp [ofV, zdc]; omega, fun z hz => by
 rcases List.mem_append.1 hz with hz | hz
 ·exact zmh s z hz
 ·exact zeR _ z hz⟩
def mkV (l : List Int) : RV := ⟨l.length, l ++ List.replicate (16 - l.length) 0⟩
theorem ofV_mk (s : ByteArray) : ofV s = mkV (zec s) := by simp [ofV, mkV, zdc]
def okV (v : RV) : Bool := decide (0 ≤ v.n) && (decide (v.n ≤ 16) && decide (v = mkV (v.bs.take v.n.toNat)))
theorem okV_lo {v : RV} (h : v.n < 0) : okV v = false := by simp [okV]; omega
theorem okV_hi {v : RV} (h : 16 < v.n) : okV v = false := by simp [okV]; omega
theorem zka {v : RV} {m : Nat} (hm : m ≤ 16) (hn : v.n = m) : okV v = decide (v = mkV (v.bs.take m)) := by
 have h1 : 0 ≤ v.n := by omega
 have h2 : v.n ≤ 16 := by omega
 rw [okV, decide_eq_true h1, decide_eq_true h2, Bool.true_and, Bool.true_and, hn, Int.toNat_natCast]
theorem ziC {v : RV} (h : okV v = true) : ∃ m : Nat, m ≤ 16 ∧ v.n = m ∧ v = mkV (v.bs.take m) := by
 simp only [okV, Bool.and_eq_true, decide_eq_true_iff] at h;exact ⟨v.n.toNat, by omega, by omega, h.2.2⟩
theorem ofV_ok {s : ByteArray} (h : s.size ≤ 16) : okV (ofV s) = true := by
 rw [zka (m := s.size) h rfl, decide_eq_true_iff]
 have : (ofV s).bs.take s.size = zec s := by
  show (zec s ++ _).take s.size = _
  rw [← zdc s, List.take_left]
 rw [this, ofV_mk]
theorem mk_iff {v : RV} {m : Nat} (hm : m ≤ 16) (hn : v.n = m) (hl : v.bs.length = 16) : v = mkV (v.bs.take m) ↔ ∀ t, m ≤ t → t < 16 → v.bs.getD t 0 = 0 := by
 have hlen : (v.bs.take m).length = m := by simp [hl]; omega
 constructor
 ·intro e t h1 h2
  rw [e]
  show (v.bs.take m ++ List.replicate (16 - (v.bs.take m).length) 0).getD t 0 = 0
  rw [List.getD, List.getElem?_append_right (by omega), hlen];simp [List.getElem?_replicate]
  split <;> rfl
 ·intro h
  obtain ⟨n, bs⟩ := v;simp only at hn hl h hlen;subst hn;simp only [mkV, RV.mk.injEq, hlen, true_and];apply List.ext_getElem (by simp [hl]; omega);intro i h1 h2
  by_cases hi : i < m
  ·rw [List.getElem_append_left (by omega)]
   simp
  ·rw [List.getElem_append_right (by omega)]
   have := h i (by omega) (by omega);simp [h1] at this;simp [this]
theorem zbs : Sty Tryz.prog 37 17 := ⟨zad, _, Tryz.underlying37, rfl⟩
theorem zae (p : Value) : Instr.loadAt 37 p = ldS 37 p := rfl
def zdI (n : Int) : List Value := .int .i64 n :: List.replicate 16 (.int .u8 0)
theorem zh7 (n : Int) : One (zdI n) := One.cons rfl fun v hv => by rw [List.eq_of_mem_replicate hv]; rfl
theorem ziy (n : Int) : (zdI n).length = 17 := by simp [zdI]
theorem zdr : (vc zE).length = 17 := rfl
theorem of_cells (s : ByteArray) (h : s.size ≤ 16) : (zdI s.size).take 1 ++ Lib.byteCells s.data.toList ++ (zdI s.size).drop (1 + s.size) = vc (ofV s) := by
 rw [zlY, Nat.add_comm 1, zdI, List.drop_succ_cons, List.drop_replicate];simp [vc, ofV, u8s]
theorem of_copy {w : World} {g : Nat} (s : ByteArray) (h : s.size ≤ 16) (ha : Arr w g 37 (zdI s.size).toArray) :
 (Builtin.copy_ #[58, 9] 3 #[.slice (some ⟨g, 1, none⟩) 16 16, .string s]).run Tryz.prog w = .ok (goInt s.size) (w.setRow g (vc (ofV s)).toArray) := by
 rw [Lib.run_copy_row_string w 58 9 3 5 g 1 16 16 s _ 37 Tryz.underlying58 zhx ha h (by simp [zdI]; omega)];rw [show ∀ l : List Value, l.toArray.toList = l from fun _ => rfl, of_cells s h]
set_option maxRecDepth 100000 in
set_option maxHeartbeats 4000000 in
theorem zlb (s : ByteArray) (h : s.size ≤ 16) (w : World) : Calls Tryz.prog 117 #[.string s] w fun e w' => e = .returned (.tuple #[vv (ofV s), .int .i64 0]) ∧ Fr w w' := by
 have h1 : decide ((16 : Int) < (s.size : Int)) = false := by simp; omega
 have hl := zD (zjS h).hl;go_enter Tryz.func117, Tryz.ntmps117
 go_wp2_with (first
  | (refine zbF zbs rfl (.tmp 4) (.tmp 11) rfl (w.heap.size + 1) (zdI s.size) rfl rfl (ziy _) (zh7 _) rfl (by simp) ?_
     generalize hX : World.alloc (World.alloc w _) _ = W;have h3 : Arr W (w.heap.size + 1) 37 (zdI s.size).toArray := by rw [← hX]; exact zbr _ _ _ _ (by simp)
     have h4 : Arr W w.heap.size 37 (vc zE).toArray := by rw [← hX]; exact Arr.alloc (zbr _ _ _ _ rfl) _
     have hF : Fr w W := by rw [← hX]; exact zf (zf (ze w) _) _
     clear hX)
  | (refine Lib.wpList_copy_run _ rfl (.tmp 13) (.tmp 14) 58 9 rfl _ _ rfl rfl (of_copy s h h3) ?_
     generalize hX : World.setRow _ _ _ = W2;have h5 : Arr W2 (w.heap.size + 1) 37 (vc (ofV s)).toArray := by rw [← hX]; exact h3.setRow _
     have h6 : Arr W2 w.heap.size 37 (vc zE).toArray := by rw [← hX]; exact h4.setRowOther _ (by omega)
     have hF2 : Fr w W2 := by rw [← hX]; exact zaM hF (by omega) _
     clear hX h3 h4 hF)
  | (refine zB zbs rfl (.tmp 4) rfl (w.heap.size + 1) rfl hl h5 ?_)
  | (refine zbn zbs rfl (.tmp 2) (.tmp 16) rfl w.heap.size (vc (ofV s)) rfl rfl hl (zar _) zdr h6 ?_)
  | fail)
 exact bodyPost_ret (zbs.result2 rfl _ w.heap.size rfl hl (h6.setRow _)) rfl ⟨rfl, zaM hF2 (Nat.le_refl _) _⟩
def zeH (s : ByteArray) (j : Nat) : RV := ⟨s.size, (zec s).take j ++ List.replicate (16 - j) 0⟩
theorem zn3 (s : ByteArray) : vc (zeH s 0) = zdI s.size := by simp [zeH, zdI, vc, u8s]
theorem ofVj_end (s : ByteArray) : zeH s s.size = ofV s := by
 rw [zeH, ofV, List.take_of_length_le (by rw [zdc]; exact Nat.le_refl _)]
theorem ofVj_len (s : ByteArray) (j : Nat) (h : j ≤ s.size) (h2 : s.size ≤ 16) : (vc (zeH s j)).length = 17 := by simp [vc, zeH, zdc]; omega
theorem ofVj_set (s : ByteArray) (j : Nat) (h : j < s.size) (h2 : s.size ≤ 16) : (vc (zeH s j)).toArray.setIfInBounds (1 + j) (.int .u8 (zec s)[j]!) = (vc (zeH s (j + 1))).toArray := by
 have hlen := zdc s;apply Array.ext';rw [Array.toList_setIfInBounds]
 show (vc (zeH s j)).set (1 + j) _ = vc (zeH s (j + 1))
 apply List.ext_getElem?;intro i;rw [List.getElem?_set]
 rcases i with _ | i
 ·rw [if_neg (by omega)]; rfl
 ·have e : ∀ k, (vc (zeH s k))[i + 1]? = (((zec s).take k ++ List.replicate (16 - k) 0).map (Value.int .u8))[i]? := fun k => by simp [vc, zeH, u8s]
  rw [e, e];have hl : (vc (zeH s j)).length = 17 := ofVj_len s j (by omega) h2
  by_cases hi : i = j
  ·subst hi
   rw [if_pos (by omega), if_pos (by omega), List.getElem?_map, List.getElem?_append_left (by simp; omega), List.getElem?_take_of_lt (by omega)];have : i < (zec s).length := by omega
   simp [this]
  ·rw [if_neg (by omega), List.getElem?_map, List.getElem?_map]
   congr 1
   by_cases hij : i < j
   ·rw [List.getElem?_append_left (by simp; omega), List.getElem?_append_left (by simp; omega), List.getElem?_take_of_lt hij, List.getElem?_take_of_lt (by omega)]
   ·rw [List.getElem?_append_right (by simp; omega), List.getElem?_append_right (by simp; omega), List.getElem?_replicate, List.getElem?_replicate]
    simp only [List.length_take]
    split <;> split <;> first | rfl | omega
theorem nums_get (s : ByteArray) (j : Nat) (h : j < s.size) : (zec s)[j]! = ((s[j]).toNat : Int) := by
 have h' : j < (zec s).length := by rw [zdc]; exact h
 rw [getElem!_pos (zec s) j h', ← nums_at s j h, List.getD, List.getElem?_eq_getElem h'];rfl
set_option maxRecDepth 100000 in
set_option maxHeartbeats 1000000 in
theorem zj1 (s : ByteArray) (h : s.size ≤ 16) (w : World) : Calls Tryz.prog 38 #[.string s] w fun e w' => e = .returned (.tuple #[vv (ofV s), .int .i64 0]) ∧ Fr w w' := by
 have h1 : decide ((16 : Int) < (s.size : Int)) = false := by simp; omega
 have hl := zD (zjS h).hl;go_enter Tryz.func38, Tryz.ntmps38
 go_wp2_with (first
  | (refine zbF zbs rfl (.tmp 4) (.tmp 6) rfl (w.heap.size + 1) (vc zE) rfl rfl rfl (zar _) rfl (by simp) ?_
     generalize hX : World.alloc (World.alloc w _) _ = W;have h3 : Arr W w.heap.size 37 (vc zE).toArray := by rw [← hX]; exact Arr.alloc (zbr _ _ _ _ rfl) _
     have h4 : Arr W (w.heap.size + 1) 37 (vc zE).toArray := by rw [← hX]; exact zbr _ _ _ _ (by simp)
     have hF : Fr w W := by rw [← hX]; exact zf (zf (ze w) _) _
     have hc4 : W.cell? ⟨w.heap.size + 1, 0, none⟩ = some (.int .i64 0) := h4.cell 0;have hf4 := h4.free 0;clear hX)
  | fail)
 have h5 : Arr (W.setCell ⟨w.heap.size + 1, 0, none⟩ (.int .i64 (s.size : Int))) (w.heap.size + 1) 37 (vc (zeH s 0)).toArray := by rw [zn3]; exact h4.set 0 _
 have h6 : Arr (W.setCell ⟨w.heap.size + 1, 0, none⟩ (.int .i64 (s.size : Int))) w.heap.size 37 (vc zE).toArray := h3.other _ (by simp) _;have hF2 : Fr w (W.setCell ⟨w.heap.size + 1, 0, none⟩ (.int .i64 (s.size : Int))) := hF.setCell (by simp) _;generalize W.setCell ⟨w.heap.size + 1, 0, none⟩ (.int .i64 (s.size : Int)) = W1 at *;clear h3 h4 hF hc4 hf4
 go_loopg [5] s.size (fun g i wr => ∃ j : Nat, j + g = s.size ∧ i = .int .i64 j ∧ Arr wr (w.heap.size + 1) 37 (vc (zeH s j)).toArray ∧ Arr wr w.heap.size 37 (vc zE).toArray ∧ Fr w wr)
 case atStart => exact ⟨0, by omega, rfl, h5, h6, hF2⟩
 case round =>
  obtain ⟨j, hj, rfl, h3, h4, hF⟩ := hrel;have Hj := zb hj
  by_cases hlt : j < s.size
  ·have hc := (h3.cell (1 + j)).trans ((by simp : (vc (zeH s j)).toArray[1 + j]? = (vc (zeH s j))[1 + j]?).trans (vc_at _ j (by simp [zeH, zdc]; omega)))
   have hf := h3.free (1 + j);have Hx := zb (nums_get s j hlt);clear hj h5 h6 hF2;go_wp2_with fail
   go_roundg (gk - 1)
   case measure => have := Hj.out; omega
   case rel => exact ⟨j + 1, by have := Hj.out; omega, by go_num, by rw [← ofVj_set s j hlt h, Hx.out]; exact h3.set _ _, h4.other _ (by simp) _, hF.setCell (by simp) _⟩
  ·obtain rfl : j = s.size := by omega
   rw [ofVj_end] at h3;clear hj h5 h6 hF2
   go_wp2_with (first
    | (refine zB zbs rfl (.tmp 4) rfl (w.heap.size + 1) rfl hl h3 ?_)
    | (refine zbn zbs rfl (.tmp 2) (.tmp 26) rfl w.heap.size (vc (ofV s)) rfl rfl hl (zar _) zdr h4 ?_)
    | fail)
   exact bodyPost_ret (zbs.result2 rfl _ w.heap.size rfl hl (h4.setRow _)) rfl ⟨rfl, zaM hF (Nat.le_refl _) _⟩
end
section
theorem zdD {l : List Int} (h : zdi l) (m : Nat) : zdi (l.take m) := fun z hz => h z (List.mem_of_mem_take hz)
set_option maxRecDepth 100000 in
set_option maxHeartbeats 1000000 in
theorem zfu (v : RV) (hn : v.n < 0 ∨ 16 < v.n) (w : World) : Calls Tryz.prog 104 #[vv v] w fun e w' => e = .returned (.bool false) ∧ Fr w w' := by
 have hv0 : (vc v)[0]? = some (.int .i64 v.n) := rfl
 rcases hn with hn | hn
 ·have h1 : decide (v.n < 0) = true := by simpa using hn
  go_enter Tryz.func104, Tryz.ntmps104;go_wp2_with fail;go_ret;exact ⟨rfl, zf (ze w) _⟩
 ·have h1 : decide (v.n < 0) = false := by simp; omega
  have h2 : decide (16 < v.n) = true := by simpa using hn
  go_enter Tryz.func104, Tryz.ntmps104;go_wp2_with fail;go_ret;exact ⟨rfl, zf (ze w) _⟩
theorem mk_str {l : List Int} (h : zdi l) : ofV (strOfNums l) = mkV l := by rw [ofV_mk, zlx h]
set_option maxRecDepth 100000 in
set_option maxHeartbeats 4000000 in
theorem zkc (v : RV) (wv : v.wf) (m : Nat) (hm : m ≤ 16) (hn : v.n = m) (w : World) : Calls Tryz.prog 104 #[vv v] w fun e w' => e = .returned (.bool (decide (v = mkV (v.bs.take m)))) ∧ Fr w w' := by
 have Hlv := zb (zD wv.hl);have hsz : (strOfNums (v.bs.take m)).size ≤ 16 := by rw [zfP]; simp; omega
 have wx := zjS hsz;have hlx := zD wx.hl;have heq := fun W => znq wv wx W;rw [mk_str (zdD wv.hb m)] at heq;have cO := fun W => zlb _ hsz W;have hv0 : (vc v)[0]? = some (.int .i64 (m : Int)) := by rw [← hn]; rfl
 have hcv := zhY (Arr.new w (vc v).toArray 37) wv.hl hm;generalize decide (v = mkV (v.bs.take m)) = d at heq ⊢;rw [← mk_str (zdD wv.hb m)] at heq;generalize strOfNums (v.bs.take m) = T at *;generalize ofV T = x at *;have hsl := zhE m hm;have hm2 : (m : Int) ≤ 16 := by omega
 clear hn wv wx;go_enter Tryz.func104, Tryz.ntmps104
 go_wp2_with (first
  | (go_at_call 117; refine (cO _).mono ?_; rintro e w1 ⟨rfl, hF1⟩; have hA := (Arr.new w (vc v).toArray 37).below hF1 (by simp); have hF := za (zf (ze w) _) hF1; clear hF1 hcv cO)
  | (refine zbF zbs rfl (.tmp 3) (.tmp 20) rfl w1.heap.size (vc x) rfl rfl hlx (zar x) rfl rfl ?_
     generalize hX : World.alloc w1 _ = W;have h3 : Arr W w1.heap.size 37 (vc x).toArray := by rw [← hX]; exact Arr.new w1 _ _
     have h4 : Arr W w.heap.size 37 (vc v).toArray := by rw [← hX]; exact hA.alloc _
     have hF2 : Fr w W := by rw [← hX]; exact zf hF _
     clear hX hA hF)
  | (refine zB zbs rfl (.tmp 1) rfl w.heap.size rfl Hlv.out h4 ?_)
  | (refine zB zbs rfl (.tmp 3) rfl w1.heap.size rfl hlx h3 ?_)
  | fail)
 go_ret;exact ⟨rfl, hF2⟩
theorem zi6 (v : RV) (wv : v.wf) (w : World) : Calls Tryz.prog 104 #[vv v] w fun e w' => e = .returned (.bool (okV v)) ∧ Fr w w' := by
 by_cases h1 : v.n < 0
 ·rw [okV_lo h1]; exact zfu v (.inl h1) w
 ·by_cases h2 : 16 < v.n
  ·rw [okV_hi h2]; exact zfu v (.inr h2) w
  ·obtain ⟨m, hm⟩ : ∃ m : Nat, v.n = m := ⟨v.n.toNat, by omega⟩
   rw [zka (by omega) hm]; exact zkc v wv m (by omega) hm w
set_option maxRecDepth 100000 in
set_option maxHeartbeats 1000000 in
theorem ze7 (v : RV) (hn : v.n < 0 ∨ 16 < v.n) (w : World) : Calls Tryz.prog 86 #[vv v] w fun e w' => e = .returned (.bool false) ∧ Fr w w' := by
 have hv0 : (vc v)[0]? = some (.int .i64 v.n) := rfl
 rcases hn with hn | hn
 ·have h1 : decide (v.n < 0) = true := by simpa using hn
  go_enter Tryz.func86, Tryz.ntmps86;go_wp2_with fail;go_ret;exact ⟨rfl, zf (ze w) _⟩
 ·have h1 : decide (v.n < 0) = false := by simp; omega
  have h2 : decide (16 < v.n) = true := by simpa using hn
  go_enter Tryz.func86, Tryz.ntmps86;go_wp2_with fail;go_ret;exact ⟨rfl, zf (ze w) _⟩
set_option maxRecDepth 100000 in
set_option maxHeartbeats 2000000 in
theorem ziF (v : RV) (wv : v.wf) (m : Nat) (hm : m ≤ 16) (hn : v.n = m) (w : World) : Calls Tryz.prog 86 #[vv v] w fun e w' => e = .returned (.bool (decide (v = mkV (v.bs.take m)))) ∧ Fr w w' := by
 have Hi := zb (mk_iff hm hn wv.hl);have Hl := zb wv.hl;have hv0 : (vc v)[0]? = some (.int .i64 (m : Int)) := by rw [← hn]; rfl
 have hm2 : (m : Int) ≤ 16 := by omega
 clear hn;go_enter Tryz.func86, Tryz.ntmps86;go_wp2_with fail;generalize hW : World.alloc w _ = W;have ha : Arr W w.heap.size 37 (vc v).toArray := by rw [← hW]; exact Arr.new w _ _
 have hF : Fr w W := by rw [← hW]; exact zf (ze w) _
 clear hW hv0
 go_loop [3] (fun i => ∃ j : Nat, m ≤ j ∧ j ≤ 16 ∧ i = .int .i64 j ∧ Hid (∀ t, m ≤ t → t < j → v.bs.getD t 0 = 0)) (fun i => 16 - (intOf i).toNat)
 case atStart => exact ⟨m, Nat.le_refl _, hm, rfl, zb fun t a b => by omega⟩
 case round =>
  obtain ⟨j, hj1, hj, rfl, Ht⟩ := hrel
  by_cases hlt : j < 16
  ·have hc := (ha.cell (1 + j)).trans ((by simp : (vc v).toArray[1 + j]? = (vc v)[1 + j]?).trans (vc_at v j (by rw [Hl.out]; omega)))
   by_cases h0 : v.bs.getD j 0 = 0
   ·have H0 := zb h0
    rw [h0] at hc;clear h0
    go_wp2
    go_round
    case rel => exact ⟨j + 1, by omega, by omega, by go_num, zb fun t a b => by
     by_cases e : t = j
     ·rw [e, H0.out]
     ·exact Ht.out t a (by omega)⟩
    case measure => simp [intOf]; omega
   ·have hd : decide (v = mkV (v.bs.take m)) = false := by
     simp only [decide_eq_false_iff_not];intro e;exact h0 (Hi.out.1 e j hj1 hlt)
    generalize v.bs.getD j 0 = z at hc h0;have h3 : (z != 0) = true := by simpa using h0
    have Hd := zb hd;clear hd h0
    go_wp2
    go_ret;exact ⟨zek Hd.out.symm, hF⟩
  ·obtain rfl : j = 16 := by omega
   have hd : decide (v = mkV (v.bs.take m)) = true := by
    simp only [decide_eq_true_iff];exact Hi.out.2 fun t a b => Ht.out t a b
   have Hd := zb hd;clear hd
   go_wp2
   go_ret;exact ⟨zek Hd.out.symm, hF⟩
theorem zml (v : RV) (wv : v.wf) (w : World) : Calls Tryz.prog 86 #[vv v] w fun e w' => e = .returned (.bool (okV v)) ∧ Fr w w' := by
 by_cases h1 : v.n < 0
 ·rw [okV_lo h1]; exact ze7 v (.inl h1) w
 ·by_cases h2 : 16 < v.n
  ·rw [okV_hi h2]; exact ze7 v (.inr h2) w
  ·obtain ⟨m, hm⟩ : ∃ m : Nat, v.n = m := ⟨v.n.toNat, by omega⟩
   rw [zka (by omega) hm]; exact ziF v wv m (by omega) hm w
def txtV (v : RV) : ByteArray := if okV v = true then strOfNums (v.bs.take v.n.toNat) else ⟨#[]⟩
set_option maxRecDepth 100000 in
set_option maxHeartbeats 1000000 in
theorem val_text (v : RV) (wv : v.wf) (w : World) : Calls Tryz.prog 142 #[vv v] w fun e w' => e = .returned (.string (txtV v)) ∧ Fr w w' := by
 have hlv := zD wv.hl;have cC := fun W => zi6 v wv W
 cases hk : okV v
 ·have HT : Hid (txtV v = ⟨#[]⟩) := zb (by simp [txtV, hk])
  rw [hk] at cC;clear hk;go_enter Tryz.func142, Tryz.ntmps142
  go_wp2_with (first
   | (refine zB zbs rfl (.tmp 1) rfl w.heap.size rfl hlv (Arr.new w _ _) ?_)
   | (go_at_call 104; refine (cC _).mono ?_; rintro e w1 ⟨rfl, hF1⟩; have hF := za (zf (ze w) _) hF1; clear hF1)
   | fail)
  go_ret;exact ⟨by rw [HT.out]; rfl, hF⟩
 ·obtain ⟨m, hm, hn, -⟩ := ziC hk
  have HT : Hid (txtV v = strOfNums (v.bs.take m)) := zb (by unfold txtV; rw [if_pos hk, hn, Int.toNat_natCast]);have Hn : Hid ((vc v)[0]? = some (.int .i64 (m : Int))) := zb (by rw [← hn]; rfl);have hsl := zhE m hm;have Hl := zb wv.hl;rw [hk] at cC;clear hk hn;go_enter Tryz.func142, Tryz.ntmps142
  go_wp2_with (first
   | (refine zB zbs rfl (.tmp 1) rfl w.heap.size rfl hlv (Arr.new w _ _) ?_)
   | (go_at_call 104; refine (cC _).mono ?_; rintro e w1 ⟨rfl, hF1⟩; have hF := za (zf (ze w) _) hF1; have hA := (Arr.new w (vc v).toArray 37).below hF1 (by simp); have hc : w1.cell? ⟨w.heap.size, 0, none⟩ = some (.int .i64 (m : Int)) := (hA.cell 0).trans (by simpa using Hn.out); have hcv := zhY hA Hl.out hm; generalize strOfNums (v.bs.take m) = T at hcv HT; clear hF1 hA)
   | fail)
  go_ret;exact ⟨by rw [HT.out]; rfl, hF⟩
end
end Go.Proofs.YtmjjjdikpnhpiaaGreat
