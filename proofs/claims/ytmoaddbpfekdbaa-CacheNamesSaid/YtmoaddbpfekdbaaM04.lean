/- What came in, in the words of these texts. No program text. -/
import Derived.Test.YtmoaddbpfekdbaaRows
import Derived.Test.YtmoaddbpfekdbaaM01
import Derived.Test.YtmoaddbpfekdbaaM03
import Derived.Deep.RegionLaw
import Derived.Deep.RegionHeld3
import Derived.Laws.CopyOwn
import Derived.Deep.RegionWith
namespace Go.Proofs.Ytmoaddbpfekdbaa
set_option maxRecDepth 100000
open Go.RowKit
set_option linter.unusedVariables false

theorem bd_i64 {z : Int} (h : (Lit.int .i64 z).wf = true) : -9223372036854775808 ≤ z ∧ z ≤ 9223372036854775807 := by
  simpa [Lit.wf, IntKind.min, IntKind.max, IntKind.signed, IntKind.bits] using h
theorem bd_u8 {z : Int} (h : (Lit.int .u8 z).wf = true) : 0 ≤ z ∧ z ≤ 255 := by
  simpa [Lit.wf, IntKind.min, IntKind.max, IntKind.signed, IntKind.bits] using h
end Go.Proofs.Ytmoaddbpfekdbaa
/- What the functions of layer 4 come to, three: 'Number', 'From', 'Plus', of the program and of the document. -/
namespace Go.Proofs.Ytmoaddbpfekdbaa
set_option maxRecDepth 100000
open Go.RowKit
set_option linter.unusedVariables false

/-- The number of a value. -/
def numV (v : RV) : Int := leN (v.bs.take 8)
/-- The value of a number. -/
def fromV (n : Int) : RV := ⟨8, leB n 8 ++ List.replicate 8 0⟩
theorem fromV_wf (n : Int) : (fromV n).wf := ⟨by simp [fromV], by simp [fromV, leB_len], fun z hz => by
  rcases List.mem_append.1 hz with hz | hz
  · exact bytes_leB 8 n z hz
  · exact bytes_zeros 8 z hz⟩
theorem fromV_mk (n : Int) : fromV n = mkV (leB n 8) := by simp [fromV, mkV, leB_len]
theorem fromV_ok (n : Int) : okV (fromV n) = true := by
  rw [okV_in (m := 8) (by omega) rfl, decide_eq_true_iff]
  have : (fromV n).bs.take 8 = leB n 8 := by
    show (leB n 8 ++ _).take 8 = _
    rw [List.take_append_of_le_length (by rw [leB_len]; exact Nat.le_refl _), List.take_of_length_le (by rw [leB_len]; exact Nat.le_refl _)]
  rw [this, fromV_mk]
/-- The sum, as a value. -/
def plusV (v : RV) (k : Int) : RV := fromV (IntKind.u64.wrap (numV v + k))
theorem rnum8 {A : Option Addr} {c : Nat} {zs : List Int} (hl : zs.length = 8) (hz : Bytes zs) {w : World} (hr : Has w w.heap.size A (u8s zs)) :
    Calls Try.prog 82 #[.slice A 8 c, .int .i64 0, .int .i64 8] w fun e w' => e = .returned (.tuple #[.int .u64 (leN zs), .bool true]) ∧ w = w' := by
  have h := ref_num_ok A 8 c zs hl (by omega) hz 0 8 (by omega) (by omega) (by omega) w hr
  rw [List.drop_zero, List.take_of_length_le (by omega)] at h
  exact h
theorem rput8 {x : Int} (hx : 0 ≤ x) (hx2 : x < 18446744073709551616) (w : World) : Calls Try.prog 80 #[.slice none 0 0, .int .u64 x, .int .i64 8] w fun e w' => ∃ A' c', e = .returned (.slice A' 8 c') ∧ Own w' w.heap.size 5 1 A' 8 c' (u8s (leB x 8)) ∧ Fr w w' := by
  have h := ref_put_ok none 0 0 [] rfl (by omega) x 8 hx hx2 (by omega) (by omega) w Has.nil
  exact h
attribute [local go_sem ↓] val_ld
theorem zero_has {w : World} {g : Nat} {v : RV} (ha : Arr w g 100 (vc v).toArray) : Has w w.heap.size (some ⟨g, 1, none⟩) (u8s (v.bs.take 8)) := by
  rw [show u8s (v.bs.take 8) = (u8s v.bs).take 8 from List.map_take]
  exact (has_bytes ha).take 8
set_option maxRecDepth 100000 in
set_option maxHeartbeats 1000000 in
theorem ref_number (v : RV) (wv : v.wf) (w : World) : Calls Try.prog 81 #[vv v] w fun e w' => e = .returned (.int .u64 (numV v)) ∧ Fr w w' := by
  have H8 := keep (show (v.bs.take 8).length = 8 by simp [wv.hl])
  have Hb8 := keep (take_bytes wv.hb 8)
  have hn8 := fun W' (h : Has W' W'.heap.size (some ⟨w.heap.size, 1, none⟩) (u8s (v.bs.take 8))) => rnum8 (c := 16) H8.out Hb8.out h
  have hsl : ∀ (g : Nat) (W : World), (Instr.sliceAt 98 (.pointer (some ⟨g, 1, none⟩)) none (some (.int .i64 8)) none).run Try.prog W = .ok (.slice (some ⟨g, 1, none⟩) 8 16) W := fun g W => slice16 8 (by omega) g W
  go_enter Try.func81, Try.ntmps81
  go_wp2_with (go_at_call 82; refine (hn8 _ (zero_has (Arr.new w _ _))).mono ?_; rintro e w3 ⟨rfl, rfl⟩)
  go_ret
  exact ⟨rfl, fr_new (fr_refl w) _⟩
/-- The first j bytes laid. -/
def fillV (N : Int) (l : List Int) (j : Nat) : RV := ⟨N, l.take j ++ List.replicate (16 - j) 0⟩
theorem fillV_zero (N : Int) (l : List Int) : vc (fillV N l 0) = lit0 N := by simp [fillV, lit0, vc, u8s]
theorem fillV_len (N : Int) (l : List Int) (j : Nat) (h : j ≤ l.length) (h2 : l.length ≤ 16) : (vc (fillV N l j)).length = 17 := by simp [vc, fillV]; omega
theorem fillV_set (N : Int) (l : List Int) (j : Nat) (h : j < l.length) (h2 : l.length ≤ 16) : (vc (fillV N l j)).toArray.setIfInBounds (1 + j) (.int .u8 (l.getD j 0)) = (vc (fillV N l (j + 1))).toArray := by
  apply Array.ext'
  rw [Array.toList_setIfInBounds]
  show (vc (fillV N l j)).set (1 + j) _ = vc (fillV N l (j + 1))
  apply List.ext_getElem?
  intro i
  rw [List.getElem?_set]
  rcases i with _ | i
  · rw [if_neg (by omega)]; rfl
  · have e : ∀ k, (vc (fillV N l k))[i + 1]? = ((l.take k ++ List.replicate (16 - k) 0).map (Value.int .u8))[i]? := fun k => by simp [vc, fillV, u8s]
    rw [e, e]
    have hl : (vc (fillV N l j)).length = 17 := fillV_len N l j (by omega) h2
    by_cases hi : i = j
    · subst hi
      rw [if_pos (by omega), if_pos (by omega), List.getElem?_map, List.getElem?_append_left (by simp; omega), List.getElem?_take_of_lt (by omega)]
      simp [h]
    · rw [if_neg (by omega), List.getElem?_map, List.getElem?_map]
      congr 1
      by_cases hij : i < j
      · rw [List.getElem?_append_left (by simp; omega), List.getElem?_append_left (by simp; omega), List.getElem?_take_of_lt hij, List.getElem?_take_of_lt (by omega)]
      · rw [List.getElem?_append_right (by simp; omega), List.getElem?_append_right (by simp; omega), List.getElem?_replicate, List.getElem?_replicate]
        simp only [List.length_take]
        split <;> split <;> first | rfl | omega
theorem fillV_from (n : Int) : fillV 8 (leB n 8) 8 = fromV n := by
  rw [fillV, fromV, List.take_of_length_le (by rw [leB_len]; exact Nat.le_refl _)]
set_option maxRecDepth 100000 in
set_option maxHeartbeats 4000000 in
theorem ref_from (n : Int) (hn : 0 ≤ n) (hn2 : n < 18446744073709551616) (w : World) : Calls Try.prog 78 #[.int .u64 n] w fun e w' => e = .returned (vv (fromV n)) ∧ Fr w w' := by
  have hl := vc_len (fromV_wf n).hl
  have HL := keep (leB_len 8 n)
  have cP := fun W => rput8 hn hn2 W
  clear hn2
  go_enter Try.func78, Try.ntmps78
  go_wp2_with (first
    | (refine wpList_store_new valS rfl (.tmp 3) (.tmp 6) rfl (w.heap.size + 1) (lit0 8) rfl rfl (lit0_len _) (lit0_one _) rfl (by simp) ?_
       generalize hX : World.alloc (World.alloc w _) _ = W
       have h0 : Arr W (w.heap.size + 1) 100 (vc (fillV 8 (leB n 8) 0)).toArray := by rw [fillV_zero, ← hX]; exact arr_at _ _ _ _ (by simp)
       have h1 : Arr W w.heap.size 100 (vc zeroV).toArray := by rw [← hX]; exact Arr.alloc (arr_at _ _ _ _ rfl) _
       have hF : Fr w W := by rw [← hX]; exact fr_new (fr_new (fr_refl w) _) _
       clear hX)
    | (go_at_call 80; refine (cP _).mono ?_; rintro e w1 ⟨A1, c1, rfl, ho, hb⟩
       have h2 := h0.below hb h0.lt
       have h3 := h1.below hb h1.lt
       have hF1 := fr_step hF hb
       have hh := ho.has
       have hlt0 := h0.lt
       clear hb h0 h1 hF))
  obtain ⟨b, off, rfl, hb, hc⟩ := hh.form (fun e => by have := congrArg List.length e; rw [List.length_map, HL.out] at this; simp at this)
  have hne : b ≠ w.heap.size + 1 := fun e => by
    have hh2 := (ho.lt b rfl).1
    omega
  go_loopg [5] 8 (fun g i wr => ∃ j : Nat, j + g = 8 ∧ i = .int .i64 j ∧ Arr wr (w.heap.size + 1) 100 (vc (fillV 8 (leB n 8) j)).toArray ∧ Arr wr w.heap.size 100 (vc zeroV).toArray ∧ Hid (∀ k u, (u8s (leB n 8))[k]? = some u → wr.cell? ⟨b, off + k, none⟩ = some u) ∧ Fr w wr)
  case atStart => exact ⟨0, by omega, rfl, h2, h3, keep hc, hF1⟩
  case round =>
    clear hc h2 h3 hF1
    obtain ⟨j, hj, rfl, h2, h3, Hc, hF1⟩ := hrel
    have Hj := keep hj
    by_cases hlt : j < 8
    · have hcb := Hc.out j (.int .u8 ((leB n 8).getD j 0)) (by simp [HL.out, hlt])
      have hcv := (h2.cell (1 + j)).trans ((by simp : (vc (fillV 8 (leB n 8) j)).toArray[1 + j]? = (vc (fillV 8 (leB n 8) j))[1 + j]?).trans (vc_at _ j (by simp [fillV, HL.out]; omega)))
      have hf := h2.free (1 + j)
      clear hj
      go_wp2_with fail
      go_roundg (gk - 1)
      case measure => have := Hj.out; omega
      case rel => exact ⟨j + 1, by have := Hj.out; omega, by go_num, by rw [← fillV_set 8 _ j (by have := HL.out; omega) (by have := HL.out; omega)]; exact h2.set _ _, h3.other _ (by simp) _, keep fun k u hk => by rw [World.cell?_setCell_other _ _ _ _ (fun e => hne (congrArg Addr.block e).symm)]; exact Hc.out k u hk, hF1.setCell (by simp) _⟩
    · obtain rfl : j = 8 := by omega
      rw [fillV_from] at h2
      clear hj
      go_wp2_with (first
        | (refine wpList_load_sty valS rfl (.tmp 3) rfl (w.heap.size + 1) rfl hl h2 ?_)
        | (refine wpList_store_sty valS rfl (.tmp 2) (.tmp 20) rfl w.heap.size (vc (fromV n)) rfl rfl hl (vc_one _) zeroV_len h3 ?_)
        | fail)
      exact bodyPost_ret (valS.result rfl _ w.heap.size rfl hl (h3.setRow _)) rfl ⟨rfl, fr_setRow hF1 (Nat.le_refl _) _⟩
theorem wrap_u64 (n : Int) : 0 ≤ IntKind.u64.wrap n ∧ IntKind.u64.wrap n < 18446744073709551616 := by rw [u64_of]; omega
set_option maxRecDepth 100000 in
set_option maxHeartbeats 1000000 in
theorem ref_plus (v : RV) (wv : v.wf) (k : Int) (w : World) : Calls Try.prog 79 #[vv v, .int .u64 k] w fun e w' => e = .returned (vv (plusV v k)) ∧ Fr w w' := by
  have Hlv := keep (vc_len wv.hl)
  have hl := vc_len (fromV_wf (IntKind.u64.wrap (numV v + k))).hl
  have cN := fun W => ref_number v wv W
  have cF := fun W => ref_from (IntKind.u64.wrap (numV v + k)) (wrap_u64 _).1 (wrap_u64 _).2 W
  clear wv
  unfold plusV
  generalize numV v = z at *
  go_enter Try.func79, Try.ntmps79
  go_wp2_with (first
    | (refine wpList_load_sty valS rfl (.tmp 2) rfl w.heap.size rfl Hlv.out (Arr.alloc (Arr.new w _ _) _) ?_
       generalize hX : World.alloc (World.alloc w _) _ = W
       have h0 : Arr W (w.heap.size + 1) 100 (vc zeroV).toArray := by rw [← hX]; exact arr_at _ _ _ _ (by simp)
       have hF : Fr w W := by rw [← hX]; exact fr_new (fr_new (fr_refl w) _) _
       clear hX)
    | (go_at_call 81; refine (cN _).mono ?_; rintro e w1 ⟨rfl, hb⟩; have h1 := h0.below hb h0.lt; have hF1 := fr_step hF hb; clear hb)
    | (go_at_call 78; refine (cF _).mono ?_; rintro e w2 ⟨rfl, hb⟩; have h2 := h1.below hb h1.lt; have hF2 := fr_step hF1 hb; clear hb)
    | (refine wpList_store_sty valS rfl (.tmp 4) (.tmp 9) rfl (w.heap.size + 1) (vc (fromV (IntKind.u64.wrap (z + k)))) rfl rfl hl (vc_one _) zeroV_len h2 ?_)
    | fail)
  exact bodyPost_ret (valS.result rfl _ (w.heap.size + 1) rfl hl (h2.setRow _)) rfl ⟨rfl, fr_setRow hF2 (by omega) _⟩
end Go.Proofs.Ytmoaddbpfekdbaa
/- The laws of layer 4, walked: what they have in common. -/
namespace Go.Proofs.Ytmoaddbpfekdbaa
set_option maxRecDepth 100000
open Go.RowKit
set_option linter.unusedVariables false
attribute [local go_sem ↓] val_ld

section
variable {W0 W : World}
end
/-- A load of a value, from one world on. -/
theorem ld_fr {W0 : World} {g : Nat} {v : RV} (ha : Arr W0 g 100 (vc v).toArray) (hl : (vc v).length = 17) : ∀ W, Fr W0 W → (ldS 100 (.pointer (some ⟨g, 0, none⟩))).run Try.prog W = .ok (.agg (vc v).toArray) W := fun W h => valS.ld hl (ha.below h ha.lt)
theorem cell_fr {W0 : World} {g T : Nat} {cs : List Value} (ha : Arr W0 g T cs.toArray) (j : Nat) (u : Value) (hu : cs[j]? = some u) : ∀ W, Fr W0 W → W.cell? ⟨g, j, none⟩ = some u := fun W h => by
  rw [(ha.below h ha.lt).cell, ← hu]; simp
def one1 : ByteArray := ⟨#[1]⟩
end Go.Proofs.Ytmoaddbpfekdbaa
/- ValueNumbers, ValuePluses, walked. -/
namespace Go.Proofs.Ytmoaddbpfekdbaa
set_option maxRecDepth 100000
open Go.RowKit
set_option linter.unusedVariables false
attribute [local go_sem ↓] val_ld
end Go.Proofs.Ytmoaddbpfekdbaa
/- ValueAll, walked. -/
namespace Go.Proofs.Ytmoaddbpfekdbaa
set_option maxRecDepth 100000
open Go.RowKit
set_option linter.unusedVariables false
attribute [local go_sem ↓] val_ld
theorem rfrom_at {W0 W : World} {n : Int} (hn : 0 ≤ n) (hn2 : n < 18446744073709551616) (hb : Fr W0 W) : Calls Try.prog 78 #[.int .u64 n] W fun e w' => e = .returned (vv (fromV n)) ∧ Fr W0 w' := (ref_from n hn hn2 W).mono fun _ _ ⟨he, hw⟩ => ⟨he, fr_step hb hw⟩
theorem rplus_at {W0 W : World} {v : RV} (wv : v.wf) (k : Int) (hb : Fr W0 W) : Calls Try.prog 79 #[vv v, .int .u64 k] W fun e w' => e = .returned (vv (plusV v k)) ∧ Fr W0 w' := (ref_plus v wv k W).mono fun _ _ ⟨he, hw⟩ => ⟨he, fr_step hb hw⟩
end Go.Proofs.Ytmoaddbpfekdbaa
