/- What came in, in the words of these texts. No program text. -/
import Derived.Test.YtmoaddbpfekdbaaGreatRows
import Derived.Test.YtmoaddbpfekdbaaGreatM01
import Derived.Test.YtmoaddbpfekdbaaGreatM02
import Derived.Deep.RegionLaw
import Derived.Deep.RegionHeld3
import Derived.Laws.CopyOwn
import Derived.Deep.RegionWith
namespace Go.Proofs.YtmoaddbpfekdbaaGreat
set_option maxRecDepth 100000
open Go.RowKit
set_option linter.unusedVariables false

theorem bd_i64 {z : Int} (h : (Lit.int .i64 z).wf = true) : -9223372036854775808 ≤ z ∧ z ≤ 9223372036854775807 := by
  simpa [Lit.wf, IntKind.min, IntKind.max, IntKind.signed, IntKind.bits] using h
theorem bd_u8 {z : Int} (h : (Lit.int .u8 z).wf = true) : 0 ≤ z ∧ z ≤ 255 := by
  simpa [Lit.wf, IntKind.min, IntKind.max, IntKind.signed, IntKind.bits] using h
end Go.Proofs.YtmoaddbpfekdbaaGreat
/- What the functions of layer 4 come to, three: 'Number', 'From', 'Plus', of the program and of the document. -/
namespace Go.Proofs.YtmoaddbpfekdbaaGreat
set_option maxRecDepth 100000
open Go.RowKit
set_option linter.unusedVariables false

/-- The number of a value. -/
def numV (v : RV) : Int := leN (v.bs.take 8)
/-- The value of a number. -/
def fromV (n : Int) : RV := ⟨8, leB n 8 ++ List.replicate 8 0⟩
theorem fromV_wf (n : Int) : (fromV n).wf := ⟨by simp [fromV], by simp [fromV, leB_len], fun z hz => by
  rcases List.mem_append.1 hz with hz | hz
  · exact bytes_leB 8 n z hz
  · exact bytes_zeros 8 z hz⟩
theorem fromV_mk (n : Int) : fromV n = mkV (leB n 8) := by simp [fromV, mkV, leB_len]
theorem fromV_ok (n : Int) : okV (fromV n) = true := by
  rw [okV_in (m := 8) (by omega) rfl, decide_eq_true_iff]
  have : (fromV n).bs.take 8 = leB n 8 := by
    show (leB n 8 ++ _).take 8 = _
    rw [List.take_append_of_le_length (by rw [leB_len]; exact Nat.le_refl _), List.take_of_length_le (by rw [leB_len]; exact Nat.le_refl _)]
  rw [this, fromV_mk]
/-- The sum, as a value. -/
def plusV (v : RV) (k : Int) : RV := fromV (IntKind.u64.wrap (numV v + k))
theorem rnum8 {A : Option Addr} {c : Nat} {zs : List Int} (hl : zs.length = 8) (hz : Bytes zs) {w : World} (hr : Has w w.heap.size A (u8s zs)) :
    Calls Tryz.prog 105 #[.slice A 8 c, .int .i64 0, .int .i64 8] w fun e w' => e = .returned (.tuple #[.int .u64 (leN zs), .bool true]) ∧ w = w' := by
  have h := ref_num_ok A 8 c zs hl (by omega) hz 0 8 (by omega) (by omega) (by omega) w hr
  rw [List.drop_zero, List.take_of_length_le (by omega)] at h
  exact h
theorem rput8 {x : Int} (hx : 0 ≤ x) (hx2 : x < 18446744073709551616) (w : World) : Calls Tryz.prog 103 #[.slice none 0 0, .int .u64 x, .int .i64 8] w fun e w' => ∃ A' c', e = .returned (.slice A' 8 c') ∧ Own w' w.heap.size 5 1 A' 8 c' (u8s (leB x 8)) ∧ Fr w w' := by
  have h := ref_put_ok none 0 0 [] rfl (by omega) x 8 hx hx2 (by omega) (by omega) w Has.nil
  exact h
attribute [local go_sem ↓] val_ld
theorem zero_has {w : World} {g : Nat} {v : RV} (ha : Arr w g 115 (vc v).toArray) : Has w w.heap.size (some ⟨g, 1, none⟩) (u8s (v.bs.take 8)) := by
  rw [show u8s (v.bs.take 8) = (u8s v.bs).take 8 from List.map_take]
  exact (has_bytes ha).take 8
set_option maxRecDepth 100000 in
set_option maxHeartbeats 1000000 in
theorem ref_number (v : RV) (wv : v.wf) (w : World) : Calls Tryz.prog 104 #[vv v] w fun e w' => e = .returned (.int .u64 (numV v)) ∧ Fr w w' := by
  have H8 := keep (show (v.bs.take 8).length = 8 by simp [wv.hl])
  have Hb8 := keep (take_bytes wv.hb 8)
  have hn8 := fun W' (h : Has W' W'.heap.size (some ⟨w.heap.size, 1, none⟩) (u8s (v.bs.take 8))) => rnum8 (c := 16) H8.out Hb8.out h
  have hsl : ∀ (g : Nat) (W : World), (Instr.sliceAt 113 (.pointer (some ⟨g, 1, none⟩)) none (some (.int .i64 8)) none).run Tryz.prog W = .ok (.slice (some ⟨g, 1, none⟩) 8 16) W := fun g W => slice16 8 (by omega) g W
  go_enter Tryz.func104, Tryz.ntmps104
  go_wp2_with (go_at_call 105; refine (hn8 _ (zero_has (Arr.new w _ _))).mono ?_; rintro e w3 ⟨rfl, rfl⟩)
  go_ret
  exact ⟨rfl, fr_new (fr_refl w) _⟩
/-- The first j bytes laid. -/
def fillV (N : Int) (l : List Int) (j : Nat) : RV := ⟨N, l.take j ++ List.replicate (16 - j) 0⟩
theorem fillV_zero (N : Int) (l : List Int) : vc (fillV N l 0) = lit0 N := by simp [fillV, lit0, vc, u8s]
theorem fillV_len (N : Int) (l : List Int) (j : Nat) (h : j ≤ l.length) (h2 : l.length ≤ 16) : (vc (fillV N l j)).length = 17 := by simp [vc, fillV]; omega
theorem fillV_set (N : Int) (l : List Int) (j : Nat) (h : j < l.length) (h2 : l.length ≤ 16) : (vc (fillV N l j)).toArray.setIfInBounds (1 + j) (.int .u8 (l.getD j 0)) = (vc (fillV N l (j + 1))).toArray := by
  apply Array.ext'
  rw [Array.toList_setIfInBounds]
  show (vc (fillV N l j)).set (1 + j) _ = vc (fillV N l (j + 1))
  apply List.ext_getElem?
  intro i
  rw [List.getElem?_set]
  rcases i with _ | i
  · rw [if_neg (by omega)]; rfl
  · have e : ∀ k, (vc (fillV N l k))[i + 1]? = ((l.take k ++ List.replicate (16 - k) 0).map (Value.int .u8))[i]? := fun k => by simp [vc, fillV, u8s]
    rw [e, e]
    have hl : (vc (fillV N l j)).length = 17 := fillV_len N l j (by omega) h2
    by_cases hi : i = j
    · subst hi
      rw [if_pos (by omega), if_pos (by omega), List.getElem?_map, List.getElem?_append_left (by simp; omega), List.getElem?_take_of_lt (by omega)]
      simp [h]
    · rw [if_neg (by omega), List.getElem?_map, List.getElem?_map]
      congr 1
      by_cases hij : i < j
      · rw [List.getElem?_append_left (by simp; omega), List.getElem?_append_left (by simp; omega), List.getElem?_take_of_lt hij, List.getElem?_take_of_lt (by omega)]
      · rw [List.getElem?_append_right (by simp; omega), List.getElem?_append_right (by simp; omega), List.getElem?_replicate, List.getElem?_replicate]
        simp only [List.length_take]
        split <;> split <;> first | rfl | omega
theorem fillV_from (n : Int) : fillV 8 (leB n 8) 8 = fromV n := by
  rw [fillV, fromV, List.take_of_length_le (by rw [leB_len]; exact Nat.le_refl _)]
set_option maxRecDepth 100000 in
set_option maxHeartbeats 4000000 in
theorem ref_from (n : Int) (hn : 0 ≤ n) (hn2 : n < 18446744073709551616) (w : World) : Calls Tryz.prog 100 #[.int .u64 n] w fun e w' => e = .returned (vv (fromV n)) ∧ Fr w w' := by
  have hl := vc_len (fromV_wf n).hl
  have HL := keep (leB_len 8 n)
  have cP := fun W => rput8 hn hn2 W
  clear hn2
  go_enter Tryz.func100, Tryz.ntmps100
  go_wp2_with (first
    | (refine wpList_store_new valS rfl (.tmp 3) (.tmp 6) rfl (w.heap.size + 1) (lit0 8) rfl rfl (lit0_len _) (lit0_one _) rfl (by simp) ?_
       generalize hX : World.alloc (World.alloc w _) _ = W
       have h0 : Arr W (w.heap.size + 1) 115 (vc (fillV 8 (leB n 8) 0)).toArray := by rw [fillV_zero, ← hX]; exact arr_at _ _ _ _ (by simp)
       have h1 : Arr W w.heap.size 115 (vc zeroV).toArray := by rw [← hX]; exact Arr.alloc (arr_at _ _ _ _ rfl) _
       have hF : Fr w W := by rw [← hX]; exact fr_new (fr_new (fr_refl w) _) _
       clear hX)
    | (go_at_call 103; refine (cP _).mono ?_; rintro e w1 ⟨A1, c1, rfl, ho, hb⟩
       have h2 := h0.below hb h0.lt
       have h3 := h1.below hb h1.lt
       have hF1 := fr_step hF hb
       have hh := ho.has
       have hlt0 := h0.lt
       clear hb h0 h1 hF))
  obtain ⟨b, off, rfl, hb, hc⟩ := hh.form (fun e => by have := congrArg List.length e; rw [List.length_map, HL.out] at this; simp at this)
  have hne : b ≠ w.heap.size + 1 := fun e => by
    have hh2 := (ho.lt b rfl).1
    omega
  go_loopg [5] 8 (fun g i wr => ∃ j : Nat, j + g = 8 ∧ i = .int .i64 j ∧ Arr wr (w.heap.size + 1) 115 (vc (fillV 8 (leB n 8) j)).toArray ∧ Arr wr w.heap.size 115 (vc zeroV).toArray ∧ Hid (∀ k u, (u8s (leB n 8))[k]? = some u → wr.cell? ⟨b, off + k, none⟩ = some u) ∧ Fr w wr)
  case atStart => exact ⟨0, by omega, rfl, h2, h3, keep hc, hF1⟩
  case round =>
    clear hc h2 h3 hF1
    obtain ⟨j, hj, rfl, h2, h3, Hc, hF1⟩ := hrel
    have Hj := keep hj
    by_cases hlt : j < 8
    · have hcb := Hc.out j (.int .u8 ((leB n 8).getD j 0)) (by simp [HL.out, hlt])
      have hcv := (h2.cell (1 + j)).trans ((by simp : (vc (fillV 8 (leB n 8) j)).toArray[1 + j]? = (vc (fillV 8 (leB n 8) j))[1 + j]?).trans (vc_at _ j (by simp [fillV, HL.out]; omega)))
      have hf := h2.free (1 + j)
      clear hj
      go_wp2_with fail
      go_roundg (gk - 1)
      case measure => have := Hj.out; omega
      case rel => exact ⟨j + 1, by have := Hj.out; omega, by go_num, by rw [← fillV_set 8 _ j (by have := HL.out; omega) (by have := HL.out; omega)]; exact h2.set _ _, h3.other _ (by simp) _, keep fun k u hk => by rw [World.cell?_setCell_other _ _ _ _ (fun e => hne (congrArg Addr.block e).symm)]; exact Hc.out k u hk, hF1.setCell (by simp) _⟩
    · obtain rfl : j = 8 := by omega
      rw [fillV_from] at h2
      clear hj
      go_wp2_with (first
        | (refine wpList_load_sty valS rfl (.tmp 3) rfl (w.heap.size + 1) rfl hl h2 ?_)
        | (refine wpList_store_sty valS rfl (.tmp 2) (.tmp 20) rfl w.heap.size (vc (fromV n)) rfl rfl hl (vc_one _) zeroV_len h3 ?_)
        | fail)
      exact bodyPost_ret (valS.result rfl _ w.heap.size rfl hl (h3.setRow _)) rfl ⟨rfl, fr_setRow hF1 (Nat.le_refl _) _⟩
theorem wrap_u64 (n : Int) : 0 ≤ IntKind.u64.wrap n ∧ IntKind.u64.wrap n < 18446744073709551616 := by rw [u64_of]; omega
set_option maxRecDepth 100000 in
set_option maxHeartbeats 1000000 in
theorem ref_plus (v : RV) (wv : v.wf) (k : Int) (w : World) : Calls Tryz.prog 101 #[vv v, .int .u64 k] w fun e w' => e = .returned (vv (plusV v k)) ∧ Fr w w' := by
  have Hlv := keep (vc_len wv.hl)
  have hl := vc_len (fromV_wf (IntKind.u64.wrap (numV v + k))).hl
  have cN := fun W => ref_number v wv W
  have cF := fun W => ref_from (IntKind.u64.wrap (numV v + k)) (wrap_u64 _).1 (wrap_u64 _).2 W
  clear wv
  unfold plusV
  generalize numV v = z at *
  go_enter Tryz.func101, Tryz.ntmps101
  go_wp2_with (first
    | (refine wpList_load_sty valS rfl (.tmp 2) rfl w.heap.size rfl Hlv.out (Arr.alloc (Arr.new w _ _) _) ?_
       generalize hX : World.alloc (World.alloc w _) _ = W
       have h0 : Arr W (w.heap.size + 1) 115 (vc zeroV).toArray := by rw [← hX]; exact arr_at _ _ _ _ (by simp)
       have hF : Fr w W := by rw [← hX]; exact fr_new (fr_new (fr_refl w) _) _
       clear hX)
    | (go_at_call 104; refine (cN _).mono ?_; rintro e w1 ⟨rfl, hb⟩; have h1 := h0.below hb h0.lt; have hF1 := fr_step hF hb; clear hb)
    | (go_at_call 100; refine (cF _).mono ?_; rintro e w2 ⟨rfl, hb⟩; have h2 := h1.below hb h1.lt; have hF2 := fr_step hF1 hb; clear hb)
    | (refine wpList_store_sty valS rfl (.tmp 4) (.tmp 9) rfl (w.heap.size + 1) (vc (fromV (IntKind.u64.wrap (z + k)))) rfl rfl hl (vc_one _) zeroV_len h2 ?_)
    | fail)
  exact bodyPost_ret (valS.result rfl _ (w.heap.size + 1) rfl hl (h2.setRow _)) rfl ⟨rfl, fr_setRow hF2 (by omega) _⟩
end Go.Proofs.YtmoaddbpfekdbaaGreat
/- The laws of layer 4, walked: what they have in common. -/
namespace Go.Proofs.YtmoaddbpfekdbaaGreat
set_option maxRecDepth 100000
open Go.RowKit
set_option linter.unusedVariables false
attribute [local go_sem ↓] val_ld

section
variable {W0 W : World}
end
/-- A load of a value, from one world on. -/
theorem ld_fr {W0 : World} {g : Nat} {v : RV} (ha : Arr W0 g 115 (vc v).toArray) (hl : (vc v).length = 17) : ∀ W, Fr W0 W → (ldS 115 (.pointer (some ⟨g, 0, none⟩))).run Tryz.prog W = .ok (.agg (vc v).toArray) W := fun W h => valS.ld hl (ha.below h ha.lt)
theorem cell_fr {W0 : World} {g T : Nat} {cs : List Value} (ha : Arr W0 g T cs.toArray) (j : Nat) (u : Value) (hu : cs[j]? = some u) : ∀ W, Fr W0 W → W.cell? ⟨g, j, none⟩ = some u := fun W h => by
  rw [(ha.below h ha.lt).cell, ← hu]; simp
def one1 : ByteArray := ⟨#[1]⟩
end Go.Proofs.YtmoaddbpfekdbaaGreat
/- ValueNumbers, ValuePluses, walked. -/
namespace Go.Proofs.YtmoaddbpfekdbaaGreat
set_option maxRecDepth 100000
open Go.RowKit
set_option linter.unusedVariables false
attribute [local go_sem ↓] val_ld
end Go.Proofs.YtmoaddbpfekdbaaGreat
/- ValueAll, walked. -/
namespace Go.Proofs.YtmoaddbpfekdbaaGreat
set_option maxRecDepth 100000
open Go.RowKit
set_option linter.unusedVariables false
attribute [local go_sem ↓] val_ld
theorem rfrom_at {W0 W : World} {n : Int} (hn : 0 ≤ n) (hn2 : n < 18446744073709551616) (hb : Fr W0 W) : Calls Tryz.prog 100 #[.int .u64 n] W fun e w' => e = .returned (vv (fromV n)) ∧ Fr W0 w' := (ref_from n hn hn2 W).mono fun _ _ ⟨he, hw⟩ => ⟨he, fr_step hb hw⟩
theorem rplus_at {W0 W : World} {v : RV} (wv : v.wf) (k : Int) (hb : Fr W0 W) : Calls Tryz.prog 101 #[vv v, .int .u64 k] W fun e w' => e = .returned (vv (plusV v k)) ∧ Fr W0 w' := (ref_plus v wv k W).mono fun _ _ ⟨he, hw⟩ => ⟨he, fr_step hb hw⟩
end Go.Proofs.YtmoaddbpfekdbaaGreat
/- Messages as values: a kind, a number, a key, a value, a number: 29 cells. -/
namespace Go.Proofs.YtmoaddbpfekdbaaGreat
set_option maxRecDepth 100000
open Go.RowKit
set_option linter.unusedVariables false

/-- A message, valid or not. -/
structure RM where
  kind : Int
  seq : Int
  key : RK
  val : RV
  inc : Int
  deriving DecidableEq, Inhabited
/-- Its cells. -/
def mc (m : RM) : List Value := .int .i64 m.kind :: .int .u64 m.seq :: (kc m.key ++ (vc m.val ++ [.int .u64 m.inc]))
abbrev mm (m : RM) : Value := .agg (mc m).toArray
def Is64 (z : Int) : Prop := -9223372036854775808 ≤ z ∧ z ≤ 9223372036854775807
def Us64 (z : Int) : Prop := 0 ≤ z ∧ z < 18446744073709551616
/-- What every message that comes in is. -/
structure RM.wf (m : RM) : Prop where
  hk : Is64 m.kind
  hs : Us64 m.seq
  key : m.key.wf
  val : m.val.wf
  hi : Us64 m.inc
def zeroM : RM := ⟨0, 0, zeroK, zeroV, 0⟩
theorem kc_len (k : RK) : (kc k).length = 9 := rfl
theorem mc_len {m : RM} (h : m.val.bs.length = 16) : (mc m).length = 29 := by simp [mc, vc_len h]
theorem mc_0 (m : RM) : (mc m)[0]? = some (.int .i64 m.kind) := rfl
theorem mc_1 (m : RM) : (mc m)[1]? = some (.int .u64 m.seq) := rfl
theorem mc_28 {m : RM} (h : m.val.bs.length = 16) : (mc m)[28]? = some (.int .u64 m.inc) := by
  have h17 := vc_len h
  have e : mc m = (.int .i64 m.kind :: .int .u64 m.seq :: (kc m.key ++ vc m.val)) ++ [.int .u64 m.inc] := by simp [mc]
  rw [e, List.getElem?_append_right (by simp [h17])]
  simp [h17]
theorem mc_key (m : RM) : ((mc m).drop 2).take 9 = kc m.key := by
  rw [mc, List.drop_succ_cons, List.drop_succ_cons, List.drop_zero]
  exact List.take_left' (kc_len _)
theorem mc_val {m : RM} (h : m.val.bs.length = 16) : ((mc m).drop 11).take 17 = vc m.val := by
  have e : (mc m).drop 11 = vc m.val ++ [.int .u64 m.inc] := by
    rw [mc, List.drop_succ_cons, List.drop_succ_cons]
    exact List.drop_left' (kc_len _)
  rw [e]
  exact List.take_left' (vc_len h)
theorem msg_info : (Tryz.prog.info? 123).map (·.size) = some 29 := by kernel_rfl
theorem msgS : Sty Tryz.prog 123 29 := ⟨msg_info, _, Tryz.underlying123, rfl⟩
theorem keyS : Sty Tryz.prog 112 9 := ⟨key_info, _, Tryz.underlying112, rfl⟩
theorem msg_ld (p : Value) : Instr.loadAt 123 p = ldS 123 p := rfl
theorem key_ld (p : Value) : Instr.loadAt 112 p = ldS 112 p := rfl
theorem msg_type : Tryz.prog.keyType 123 = true := by kernel_rfl
theorem msg_typeAt : Tryz.prog.keyTypeAt (Tryz.prog.types.size + 1) 123 = true := by kernel_rfl
theorem msg_wide : (match Tryz.prog.underlying 123 with | some (.array _ _) | some (.struct _) => true | _ => false) = true := by kernel_rfl
theorem msg_row : (123 : TypeId) < Tryz.prog.types.size := of_decide_eq_true (by kernel_rfl)
theorem msg_law : WideMaps.KeyLaw Tryz.prog 123 := deep_law_gate laid_out (of_decide_eq_true types_small) msg_row msg_type msg_wide
theorem msg_keyed : Go.Maps.Keyed Tryz.prog 123 := .of_law msg_law
theorem msg_cells : Tryz.prog.cellsOf 123 = 29 := by kernel_rfl
theorem u64_cells : Tryz.prog.cellsOf 121 = 1 := by kernel_rfl
theorem u64_wf {z : Int} (h : Us64 z) : (Lit.int .u64 z).wf = true := by
  unfold Us64 at h
  simp [Lit.wf, IntKind.min, IntKind.max, IntKind.signed, IntKind.bits]; omega
theorem key_lits_at (k : RK) (h : k.wf) (D : Nat) : Tryz.prog.keyLits (D + 3) 112 (kc k) = some (klits k) := by
  simp [Program.keyLits, Tryz.underlying112, Tryz.underlying3, Tryz.underlying110, Tryz.underlying5, key_cells, arr_cells, int_cells, u8_cells, i64_wf h.hn, byt_wf h.h0, byt_wf h.h1, byt_wf h.h2, byt_wf h.h3, byt_wf h.h4, byt_wf h.h5, byt_wf h.h6, byt_wf h.h7, klits, List.range, List.range.loop]
theorem val_lits_at (v : RV) (h : v.wf) (D : Nat) : Tryz.prog.keyLits (D + 3) 115 (vc v) = some (vlits v) := by
  obtain ⟨hn, hl, hb⟩ := h
  obtain ⟨n, bs⟩ := v
  simp only at hn hl hb
  match bs, hl with
  | [b0, b1, b2, b3, b4, b5, b6, b7, b8, b9, b10, b11, b12, b13, b14, b15], _ =>
    have q : ∀ z ∈ [b0, b1, b2, b3, b4, b5, b6, b7, b8, b9, b10, b11, b12, b13, b14, b15], (Lit.int .u8 z).wf = true := fun z hz => byt_wf (hb z hz)
    simp only [List.forall_mem_cons, List.not_mem_nil, false_implies, implies_true, and_true] at q
    obtain ⟨q0, q1, q2, q3, q4, q5, q6, q7, q8, q9, q10, q11, q12, q13, q14, q15⟩ := q
    simp [Program.keyLits, Tryz.underlying115, Tryz.underlying3, Tryz.underlying113, Tryz.underlying5, val_cells, arr16_cells, int_cells, u8_cells, vc, i64_wf hn, q0, q1, q2, q3, q4, q5, q6, q7, q8, q9, q10, q11, q12, q13, q14, q15, vlits, List.range, List.range.loop]
def mlits (m : RM) : List Lit := .int .i64 m.kind :: .int .u64 m.seq :: (klits m.key ++ (vlits m.val ++ [.int .u64 m.inc]))
def mlit (m : RM) : Lit := .string (keyBytes (mlits m))
theorem int_lits_at (z : Int) (h : Is64 z) (D : Nat) : Tryz.prog.keyLits (D + 1) 3 [.int .i64 z] = some [.int .i64 z] := by
  simp [Program.keyLits, Tryz.underlying3, i64_wf h]
theorem u64_lits_at (z : Int) (h : Us64 z) (D : Nat) : Tryz.prog.keyLits (D + 1) 121 [.int .u64 z] = some [.int .u64 z] := by
  simp [Program.keyLits, Tryz.underlying121, u64_wf h]
theorem mc_p0 (m : RM) : ((mc m).drop 0).take 1 = [.int .i64 m.kind] := rfl
theorem mc_p1 (m : RM) : ((mc m).drop 1).take 1 = [.int .u64 m.seq] := rfl
theorem mc_p28 {m : RM} (h : m.val.bs.length = 16) : ((mc m).drop 28).take 1 = [.int .u64 m.inc] := by
  have hl := mc_len h
  have h28 : 28 < (mc m).length := by omega
  rw [List.drop_eq_getElem_cons h28]
  have e := mc_28 h
  rw [List.getElem?_eq_getElem h28] at e
  injection e with e
  rw [e, List.take_succ_cons, List.take_zero]
theorem msg_lits (m : RM) (h : m.wf) (D : Nat) : Tryz.prog.keyLits (D + 4) 123 (mc m) = some (mlits m) := by
  have hl := mc_len h.val.hl
  have e0 := int_lits_at m.kind h.hk (D + 2)
  have e1 := u64_lits_at m.seq h.hs (D + 2)
  have e2 := key_lits_at m.key h.key D
  have e3 := val_lits_at m.val h.val D
  have e4 := u64_lits_at m.inc h.hi (D + 2)
  unfold Program.keyLits
  simp only [Tryz.underlying123]
  rw [if_pos ⟨by rw [hl]; exact msg_cells.symm, by kernel_rfl⟩]
  simp only [List.mapM_cons, List.mapM_nil, int_cells, u64_cells, key_cells, val_cells, mc_p0, mc_p1, mc_key, mc_val h.val.hl, mc_p28 h.val.hl, e0, e1, e2, e3, e4]
  simp [mlits]
theorem msg_of (m : RM) (h : m.wf) : keyOf Tryz.prog 123 (mm m) = some (mlit m) := by
  have hf : (mm m).formed Tryz.prog 123 = true := by simp [Value.formed, Tryz.underlying123, msg_cells, mc_len h.val.hl]
  obtain ⟨D, hD⟩ : ∃ D, Tryz.prog.types.size + 1 = D + 4 := ⟨Tryz.prog.types.size - 3, by have h : 123 < Tryz.prog.types.size := msg_row; omega⟩
  have hl := msg_lits m h D
  simp only [keyOf, Tryz.underlying123, msg_type, hf, Bool.and_self, if_true, Value.cells]
  rw [hD, hl]
  rfl
theorem kc_inj {a b : RK} (h : kc a = kc b) : a = b := kv_inj (congrArg (fun l : List Value => Value.agg l.toArray) h)
theorem mc_inj {a b : RM} (ha : a.val.bs.length = 16) (hb : b.val.bs.length = 16) (h : mc a = mc b) : a = b := by
  have h0 : some (Value.int .i64 a.kind) = some (.int .i64 b.kind) := by rw [← mc_0 a, ← mc_0 b, h]
  have h1 : some (Value.int .u64 a.seq) = some (.int .u64 b.seq) := by rw [← mc_1 a, ← mc_1 b, h]
  have h2 : kc a.key = kc b.key := by rw [← mc_key a, ← mc_key b, h]
  have h3 : vc a.val = vc b.val := by rw [← mc_val ha, ← mc_val hb, h]
  have h4 : some (Value.int .u64 a.inc) = some (.int .u64 b.inc) := by rw [← mc_28 ha, ← mc_28 hb, h]
  obtain ⟨k1, s1, e1, v1, i1⟩ := a
  obtain ⟨k2, s2, e2, v2, i2⟩ := b
  have e2 := kc_inj h2
  have e3 := vc_inj h3
  clear h2 h3
  simp only [Option.some.injEq, Value.int.injEq, true_and] at h0 h1 h4
  simp only at e2 e3
  subst h0 h1 e2 e3 h4
  rfl
theorem mm_inj {a b : RM} (ha : a.wf) (hb : b.wf) (h : mm a = mm b) : a = b := by
  injection h with h
  exact mc_inj ha.val.hl hb.val.hl (by simpa using congrArg Array.toList h)
theorem mlit_inj {a b : RM} (ha : a.wf) (hb : b.wf) (h : mlit a = mlit b) : a = b := mm_inj ha hb (msg_keyed.inj (msg_of a ha) (h ▸ msg_of b hb))
theorem msg_eqr {a b : RM} (ha : a.wf) (hb : b.wf) (W : World) : (Op.equal 123 (mm a) (mm b)).run Tryz.prog W = .ok (decide (a = b)) W := by
  obtain ⟨r, h1, h2⟩ := run_equal_deep W (m := Tryz.prog.types.size + 1) types_le msg_typeAt msg_wide (msg_of a ha) (msg_of b hb)
  have : r = decide (a = b) := by
    rw [Bool.eq_iff_iff, h2, decide_eq_true_iff]
    exact ⟨mlit_inj ha hb, fun e => by rw [e]⟩
  rw [h1, this]
/-! What is read of a message's block, from one world on. -/
section
variable {Z : World} {g T : Nat} {m : RM}
theorem msg_all (ha : Arr Z g T (mc m).toArray) (hl : m.val.bs.length = 16) : ∀ W, Fr Z W → (ldS 123 (.pointer (some ⟨g, 0, none⟩))).run Tryz.prog W = .ok (.agg (mc m).toArray) W := fun W h => msgS.ld (mc_len hl) (ha.below h ha.lt)
theorem msg_keyAt (ha : Arr Z g T (mc m).toArray) : ∀ W, Fr Z W → (ldS 112 (.pointer (some ⟨g, 2, none⟩))).run Tryz.prog W = .ok (.agg (kc m.key).toArray) W := fun W h => keyS.ldMid (kc_len _) (range_of_arr (ha.below h ha.lt) (by rw [kc_len]; exact mc_key m))
theorem msg_valAt (ha : Arr Z g T (mc m).toArray) (hl : m.val.bs.length = 16) : ∀ W, Fr Z W → (ldS 115 (.pointer (some ⟨g, 11, none⟩))).run Tryz.prog W = .ok (.agg (vc m.val).toArray) W := fun W h => valS.ldMid (vc_len hl) (range_of_arr (ha.below h ha.lt) (by rw [vc_len hl]; exact mc_val hl))
theorem cellZ {cs : List Value} (ha : Arr Z g T cs.toArray) (j : Nat) {u : Value} (hu : cs[j]? = some u) : ∀ W, Fr Z W → W.cell? ⟨g, j, none⟩ = some u := cell_fr ha j u hu
end
end Go.Proofs.YtmoaddbpfekdbaaGreat
/- What the functions of layer 5 come to, one: 'Check', 'Bytes'. -/
namespace Go.Proofs.YtmoaddbpfekdbaaGreat
set_option maxRecDepth 100000
open Go.RowKit
set_option linter.unusedVariables false
attribute [local go_sem ↓] val_ld key_ld msg_ld

def okM (m : RM) : Bool :=
  if m.kind = 1 then decide (m.inc = 0) && (okB m.key && okV m.val)
  else if m.kind = 2 then decide (m.inc = 0) && (okB m.key && decide (m.val = zeroV))
  else if m.kind = 3 then okB m.key && decide (m.val = zeroV)
  else false
end Go.Proofs.YtmoaddbpfekdbaaGreat
