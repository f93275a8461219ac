/- What came in, in the words of these texts. No program text. -/
import Derived.Test.YtmjjjdikpnhpiaaGreatRows
import Derived.Test.YtmjjjdikpnhpiaaGreatBase
import Derived.Test.YtmjjjdikpnhpiaaGreatValA
import Derived.Deep.RegionLaw
import Derived.Deep.RegionHeld3
import Derived.Laws.CopyOwn
import Derived.Deep.RegionWith
namespace Go.Proofs.YtmjjjdikpnhpiaaGreat
set_option linter.unusedVariables false
set_option linter.unusedSimpArgs false
set_option maxRecDepth 100000
open Go.RowKit
section
def zfF (v : RV) : Int := leN (v.bs.take 8)
def zaO (n : Int) : RV := ⟨8, leB n 8 ++ List.replicate 8 0⟩
theorem zaR (n : Int) : (zaO n).wf := ⟨by simp [zaO], by simp [zaO, zcP], fun z hz => by
 rcases List.mem_append.1 hz with hz | hz
 ·exact znQ 8 n z hz
 ·exact zeR 8 z hz⟩
theorem fromV_mk (n : Int) : zaO n = mkV (leB n 8) := by simp [zaO, mkV, zcP]
theorem zd3 (n : Int) : okV (zaO n) = true := by
 rw [zka (m := 8) (by omega) rfl, decide_eq_true_iff]
 have : (zaO n).bs.take 8 = leB n 8 := by
  show (leB n 8 ++ _).take 8 = _
  rw [List.take_append_of_le_length (by rw [zcP]; exact Nat.le_refl _), List.take_of_length_le (by rw [zcP]; exact Nat.le_refl _)]
 rw [this, fromV_mk]
theorem num_from {n : Int} (h0 : 0 ≤ n) (h1 : n < 18446744073709551616) : zfF (zaO n) = n := by
 have : (zaO n).bs.take 8 = leB n 8 := by
  show (leB n 8 ++ _).take 8 = _
  rw [List.take_append_of_le_length (by rw [zcP]; exact Nat.le_refl _), List.take_of_length_le (by rw [zcP]; exact Nat.le_refl _)]
 rw [zfF, this, leN_leB 8 n h0];exact Int.emod_eq_of_lt h0 h1
def zbJ (v : RV) (k : Int) : RV := zaO (IntKind.u64.wrap (zfF v + k))
theorem low_of {v : RV} {m : Nat} (hm : m ≤ 16) (he : v = mkV (v.bs.take m)) (hl : v.bs.length = 16) : u8s ((v.bs.take m).take 8) ++ (u8s (List.replicate 8 0)).drop (u8s ((v.bs.take m).take 8)).length = u8s (v.bs.take 8) := by
 have hb : v.bs = v.bs.take m ++ List.replicate (16 - m) 0 := by
  have h := congrArg RV.bs he;rw [mkV] at h;simp only at h;have e : (v.bs.take m).length = m := by simp [hl]; omega
  rw [e] at h;exact h
 have e : (v.bs.take m).length = m := by simp [hl]; omega
 rw [← List.map_drop, ← List.map_append]
 congr 1
 conv => rhs; rw [hb]
 rw [List.take_append, e, List.length_map, List.length_take, e, List.take_replicate, List.drop_replicate]
 congr 2
 omega
theorem zjU (l : List Int) (h : zdi l) : ((strOfNums l).data.toList.map fun b : UInt8 => Value.int .u8 (b.toNat : Int)) = u8s l := by
 have := zlx h;rw [zec] at this;rw [u8s]
 conv => rhs; rw [← this]
 rw [List.map_map];rfl
theorem num8 {A : Option Addr} {c : Nat} {zs : List Int} (hl : zs.length = 8) (hc : 8 ≤ c) (hz : zdi zs) {w : World} (hr : Has w w.heap.size A (u8s zs)) :
 Calls Tryz.prog 143 #[.slice A 8 c, .int .i64 0, .int .i64 8] w fun e w' => e = .returned (.tuple #[.int .u64 (leN zs), .bool true]) ∧ w = w' := by
 have h := num_ok A 8 c zs hl (by omega) hc hz 0 8 (by omega) (by omega) (by omega) w hr;rw [List.drop_zero, List.take_of_length_le (by omega)] at h;exact h
theorem rnum8 {A : Option Addr} {c : Nat} {zs : List Int} (hl : zs.length = 8) (hz : zdi zs) {w : World} (hr : Has w w.heap.size A (u8s zs)) :
 Calls Tryz.prog 92 #[.slice A 8 c, .int .i64 0, .int .i64 8] w fun e w' => e = .returned (.tuple #[.int .u64 (leN zs), .bool true]) ∧ w = w' := by
 have h := zmN A 8 c zs hl (by omega) hz 0 8 (by omega) (by omega) (by omega) w hr;rw [List.drop_zero, List.take_of_length_le (by omega)] at h;exact h
theorem put8 {x : Int} (hx : 0 ≤ x) (w : World) : Calls Tryz.prog 135 #[.slice none 0 0, .int .u64 x, .int .i64 8] w fun e w' => ∃ A' c', e = .returned (.slice A' 8 c') ∧ Own w' w.heap.size 5 1 A' 8 c' (u8s (leB x 8)) ∧ Fr w w' := by
 have h := put_ok none 0 0 [] rfl (by omega) x 8 hx (by omega) (by omega) w Has.nil;exact h
theorem rput8 {x : Int} (hx : 0 ≤ x) (hx2 : x < 18446744073709551616) (w : World) : Calls Tryz.prog 72 #[.slice none 0 0, .int .u64 x, .int .i64 8] w fun e w' => ∃ A' c', e = .returned (.slice A' 8 c') ∧ Own w' w.heap.size 5 1 A' 8 c' (u8s (leB x 8)) ∧ Fr w w' := by
 have h := zmD none 0 0 [] rfl (by omega) x 8 hx hx2 (by omega) (by omega) w Has.nil;exact h
attribute [local go_sem ↓] zae
theorem has_arr {w : World} {g T : Nat} {xs : List Value} (h : Arr w g T xs.toArray) : Has w w.heap.size (some ⟨g, 0, none⟩) xs := fun j u hu => ⟨g, 0, rfl, h.lt, by rw [h.cell, ← hu]; simp⟩
set_option maxRecDepth 100000 in
set_option maxHeartbeats 4000000 in
theorem zmP (v : RV) (wv : v.wf) (ok : okV v = true) (w : World) : Calls Tryz.prog 136 #[vv v] w fun e w' => e = .returned (.int .u64 (zfF v)) ∧ Fr w w' := by
 have Hlv := zb (zD wv.hl);obtain ⟨m, hm, hn, he⟩ := ziC ok;have HT := zb (show txtV v = strOfNums (v.bs.take m) by unfold txtV; rw [if_pos ok, hn, Int.toNat_natCast]);have Hlow := zb (low_of hm he wv.hl);have Hcs := zb (show ((strOfNums (v.bs.take m)).data.toList.map fun b : UInt8 => Value.int .u8 (b.toNat : Int)).take 8 = u8s ((v.bs.take m).take 8) from by rw [zjU _ (zdD wv.hb m)]; exact List.map_take.symm);have Hfit := zb (show 0 + (u8s ((v.bs.take m).take 8)).length ≤ (u8s (List.replicate 8 0)).length from by simp; omega);have H8 := zb (show (v.bs.take 8).length = 8 by simp [wv.hl]);have Hb8 := zb (zdD wv.hb 8);have cT := fun W => val_text v wv W;rw [HT.out] at cT;clear hn he HT;go_enter Tryz.func136, Tryz.ntmps136;go_wp2_with fail;generalize hW : World.alloc (World.alloc w _) _ = W;have h0 : Arr W w.heap.size 37 (vc v).toArray := by rw [← hW]; exact (Arr.new w _ _).alloc _
 have h1 : Arr W (w.heap.size + 1) 31 (u8s (List.replicate 8 0)).toArray := by rw [← hW]; exact zbr _ _ _ _ (by simp)
 have hF : Fr w W := by rw [← hW]; exact zf (zf (ze w) _) _
 clear hW;have hld : ∀ W', Arr W' w.heap.size 37 (vc v).toArray → (ldS 37 (.pointer (some ⟨w.heap.size, 0, none⟩))).run Tryz.prog W' = .ok (.agg (vc v).toArray) W' := fun W' h => zbs.ld Hlv.out h
 go_region_held3 (fun w' => Arr w' w.heap.size 37 (vc v).toArray ∧ Fr w w')
  (first
   | exact ⟨h0.below (zn (ze W)) h0.lt, zn hF⟩
   | exact ⟨h0.below (za (zn (ze W)) hF1) h0.lt, za (zn hF) hF1⟩
   | exact ⟨h6, hF2⟩)
  (first
   | (go_at_call 142; refine (cT _).mono ?_; rintro e w1 ⟨rfl, hF1⟩)
   | (refine zcx (zjW rfl _) (.tmp 6) (.tmp 8) 58 9 rfl _ _ rfl rfl (ziH w1 58 9 3 5 (w.heap.size + 1) 0 8 8 _ (u8s (List.replicate 8 0)) 31 Tryz.underlying58 zhx (h1.below (za (zn (ze W)) hF1) h1.lt) (u8s ((v.bs.take m).take 8)) Hcs.out Hfit.out) ?_
      generalize hX : World.setRow _ _ _ = W2
      have h5 : Arr W2 (w.heap.size + 1) 31 (u8s (v.bs.take 8)).toArray := by
       rw [← hX, List.take_zero, List.nil_append, Nat.zero_add, Hlow.out];exact (h1.below (za (zn (ze W)) hF1) h1.lt).setRow _
      have h6 : Arr W2 w.heap.size 37 (vc v).toArray := by rw [← hX]; exact (h0.below (za (zn (ze W)) hF1) h0.lt).setRowOther _ (by omega)
      have hF2 : Fr w W2 := by rw [← hX]; exact zaM (za (zn hF) hF1) (by omega) _
      clear hX))
 rename_i hH;clear hH hld;have hn8 := fun W' (h : Has W' W'.heap.size (some ⟨w.heap.size + 1, 0, none⟩) (u8s (v.bs.take 8))) => num8 (c := 8) H8.out (Nat.le_refl _) Hb8.out h
 go_wp2_with (go_at_call 143; refine (hn8 _ (has_arr h5)).mono ?_; rintro e w3 ⟨rfl, rfl⟩)
 go_ret;exact ⟨rfl, hF2⟩
theorem zero_has {w : World} {g : Nat} {v : RV} (ha : Arr w g 37 (vc v).toArray) : Has w w.heap.size (some ⟨g, 1, none⟩) (u8s (v.bs.take 8)) := by
 rw [show u8s (v.bs.take 8) = (u8s v.bs).take 8 from List.map_take];exact (znw ha).take 8
set_option maxRecDepth 100000 in
set_option maxHeartbeats 1000000 in
theorem zmR (v : RV) (wv : v.wf) (w : World) : Calls Tryz.prog 73 #[vv v] w fun e w' => e = .returned (.int .u64 (zfF v)) ∧ Fr w w' := by
 have H8 := zb (show (v.bs.take 8).length = 8 by simp [wv.hl]);have Hb8 := zb (zdD wv.hb 8);have hn8 := fun W' (h : Has W' W'.heap.size (some ⟨w.heap.size, 1, none⟩) (u8s (v.bs.take 8))) => rnum8 (c := 16) H8.out Hb8.out h;have hsl : ∀ (g : Nat) (W : World), (Instr.sliceAt 35 (.pointer (some ⟨g, 1, none⟩)) none (some (.int .i64 8)) none).run Tryz.prog W = .ok (.slice (some ⟨g, 1, none⟩) 8 16) W := fun g W => zhE 8 (by omega) g W;go_enter Tryz.func73, Tryz.ntmps73
 go_wp2_with (go_at_call 92; refine (hn8 _ (zero_has (Arr.new w _ _))).mono ?_; rintro e w3 ⟨rfl, rfl⟩)
 go_ret;exact ⟨rfl, zf (ze w) _⟩
theorem zlW (n : Int) : splice (zdI 8) 1 (u8s (leB n 8)) = vc (zaO n) := by
 have h : (u8s (leB n 8)).length = 8 := by simp [zcP]
 simp only [splice, h];simp [zdI, vc, zaO, u8s]
set_option maxRecDepth 100000 in
set_option maxHeartbeats 4000000 in
theorem zkw (n : Int) (hn : 0 ≤ n) (w : World) : Calls Tryz.prog 129 #[.int .u64 n] w fun e w' => e = .returned (vv (zaO n)) ∧ Fr w w' := by
 have hl := zD (zaR n).hl;have Hsp := zb (zlW n);have HL := zb (show (u8s (leB n 8)).length = Nat.min 8 8 by simp [zcP]);have Hfit := zb (show 1 + (u8s (leB n 8)).length ≤ (zdI 8).length by simp [zcP, zdI]);have hsl : ∀ (g : Nat) (W : World), (Instr.sliceAt 35 (.pointer (some ⟨g, 1, none⟩)) none (some (.int .i64 8)) none).run Tryz.prog W = .ok (.slice (some ⟨g, 1, none⟩) 8 16) W := fun g W => zhE 8 (by omega) g W;have cP := fun W => put8 hn W;go_enter Tryz.func129, Tryz.ntmps129
 go_wp2_with (refine zbF zbs rfl (.tmp 3) (.tmp 4) rfl (w.heap.size + 1) (zdI 8) rfl rfl (ziy _) (zh7 _) rfl (by simp) ?_
              generalize hX : World.alloc (World.alloc w _) _ = W;have h0 : Arr W (w.heap.size + 1) 37 (zdI 8).toArray := by rw [← hX]; exact zbr _ _ _ _ (by simp)
              have h1 : Arr W w.heap.size 37 (vc zE).toArray := by rw [← hX]; exact Arr.alloc (zbr _ _ _ _ rfl) _
              have hF : Fr w W := by rw [← hX]; exact zf (zf (ze w) _) _
              clear hX)
 go_region_held3 (fun w' => Fr w w')
  (first
   | exact zn hF
   | exact hF1
   | exact hF2)
  (first
   | (go_at_call 135; refine (cP _).mono ?_; rintro e w1 ⟨A1, c1, rfl, ho, hb⟩
      have h2 := h0.below (za (zn (ze W)) hb) h0.lt;have h3 := h1.below (za (zn (ze W)) hb) h1.lt;have hF1 := za (zn hF) hb;have hh := ho.has;clear hb ho)
   | (refine step_copy_splice rfl (.tmp 6) (.tmp 8) 58 58 rfl 5 Tryz.underlying58 zhx _ A1 8 16 8 c1 rfl rfl (w.heap.size + 1) 1 (zdI 8) 37 h2 (u8s (leB n 8)) HL.out (fun hp => ⟨rfl, (hh.form (fun e => by rw [e] at hp; simp at hp)).elim fun b h => h.elim fun off h => ⟨⟨b, off, none⟩, h.1, fun j x hj => by rw [Addr.add_lit]; exact h.2.2 j x hj⟩⟩) Hfit.out (zgJ _) (w.heap.size + 1) w1 (Below.refl _ _) (Nat.le_refl _) ?_
      intro W2 hx hb2;rw [Hsp.out] at hx;have h5 : Arr W2 (w.heap.size + 1) 37 (vc (zaO n)).toArray := hx.out;have h6 : Arr W2 w.heap.size 37 (vc zE).toArray := h3.below hb2 (by omega);have hF2 := Below.trans hF1 (hb2.mono (by omega));clear hx hb2))
 clear h2 h3 hF hF1 h0 h1 hh
 go_wp2_with (first
  | (refine zB zbs rfl (.tmp 3) rfl (w.heap.size + 1) rfl hl h5 ?_)
  | (refine zbn zbs rfl (.tmp 2) (.tmp 10) rfl w.heap.size (vc (zaO n)) rfl rfl hl (zar _) zdr h6 ?_)
  | fail)
 exact bodyPost_ret (zbs.result rfl _ w.heap.size rfl hl (h6.setRow _)) rfl ⟨rfl, zaM hF2 (Nat.le_refl _) _⟩
def zcR (N : Int) (l : List Int) (j : Nat) : RV := ⟨N, l.take j ++ List.replicate (16 - j) 0⟩
theorem zmQ (N : Int) (l : List Int) : vc (zcR N l 0) = zdI N := by simp [zcR, zdI, vc, u8s]
theorem zoc (N : Int) (l : List Int) (j : Nat) (h : j ≤ l.length) (h2 : l.length ≤ 16) : (vc (zcR N l j)).length = 17 := by simp [vc, zcR]; omega
theorem zod (N : Int) (l : List Int) (j : Nat) (h : j < l.length) (h2 : l.length ≤ 16) : (vc (zcR N l j)).toArray.setIfInBounds (1 + j) (.int .u8 (l.getD j 0)) = (vc (zcR N l (j + 1))).toArray := by
 apply Array.ext';rw [Array.toList_setIfInBounds]
 show (vc (zcR N l j)).set (1 + j) _ = vc (zcR N l (j + 1))
 apply List.ext_getElem?;intro i;rw [List.getElem?_set]
 rcases i with _ | i
 ·rw [if_neg (by omega)]; rfl
 ·have e : ∀ k, (vc (zcR N l k))[i + 1]? = ((l.take k ++ List.replicate (16 - k) 0).map (Value.int .u8))[i]? := fun k => by simp [vc, zcR, u8s]
  rw [e, e];have hl : (vc (zcR N l j)).length = 17 := zoc N l j (by omega) h2
  by_cases hi : i = j
  ·subst hi
   rw [if_pos (by omega), if_pos (by omega), List.getElem?_map, List.getElem?_append_left (by simp; omega), List.getElem?_take_of_lt (by omega)];simp [h]
  ·rw [if_neg (by omega), List.getElem?_map, List.getElem?_map]
   congr 1
   by_cases hij : i < j
   ·rw [List.getElem?_append_left (by simp; omega), List.getElem?_append_left (by simp; omega), List.getElem?_take_of_lt hij, List.getElem?_take_of_lt (by omega)]
   ·rw [List.getElem?_append_right (by simp; omega), List.getElem?_append_right (by simp; omega), List.getElem?_replicate, List.getElem?_replicate]
    simp only [List.length_take]
    split <;> split <;> first | rfl | omega
theorem zmg (n : Int) : zcR 8 (leB n 8) 8 = zaO n := by
 rw [zcR, zaO, List.take_of_length_le (by rw [zcP]; exact Nat.le_refl _)]
set_option maxRecDepth 100000 in
set_option maxHeartbeats 4000000 in
theorem zly (n : Int) (hn : 0 ≤ n) (hn2 : n < 18446744073709551616) (w : World) : Calls Tryz.prog 43 #[.int .u64 n] w fun e w' => e = .returned (vv (zaO n)) ∧ Fr w w' := by
 have hl := zD (zaR n).hl;have HL := zb (zcP 8 n);have cP := fun W => rput8 hn hn2 W;clear hn2;go_enter Tryz.func43, Tryz.ntmps43
 go_wp2_with (first
  | (refine zbF zbs rfl (.tmp 3) (.tmp 6) rfl (w.heap.size + 1) (zdI 8) rfl rfl (ziy _) (zh7 _) rfl (by simp) ?_
     generalize hX : World.alloc (World.alloc w _) _ = W;have h0 : Arr W (w.heap.size + 1) 37 (vc (zcR 8 (leB n 8) 0)).toArray := by rw [zmQ, ← hX]; exact zbr _ _ _ _ (by simp)
     have h1 : Arr W w.heap.size 37 (vc zE).toArray := by rw [← hX]; exact Arr.alloc (zbr _ _ _ _ rfl) _
     have hF : Fr w W := by rw [← hX]; exact zf (zf (ze w) _) _
     clear hX)
  | (go_at_call 72; refine (cP _).mono ?_; rintro e w1 ⟨A1, c1, rfl, ho, hb⟩
     have h2 := h0.below hb h0.lt;have h3 := h1.below hb h1.lt;have hF1 := za hF hb;have hh := ho.has;have hlt0 := h0.lt;clear hb h0 h1 hF))
 obtain ⟨b, off, rfl, hb, hc⟩ := hh.form (fun e => by have := congrArg List.length e; rw [List.length_map, HL.out] at this; simp at this)
 have hne : b ≠ w.heap.size + 1 := fun e => by
  have hh2 := (ho.lt b rfl).1;omega
 go_loopg [5] 8 (fun g i wr => ∃ j : Nat, j + g = 8 ∧ i = .int .i64 j ∧ Arr wr (w.heap.size + 1) 37 (vc (zcR 8 (leB n 8) j)).toArray ∧ Arr wr w.heap.size 37 (vc zE).toArray ∧ Hid (∀ k u, (u8s (leB n 8))[k]? = some u → wr.cell? ⟨b, off + k, none⟩ = some u) ∧ Fr w wr)
 case atStart => exact ⟨0, by omega, rfl, h2, h3, zb hc, hF1⟩
 case round =>
  clear hc h2 h3 hF1;obtain ⟨j, hj, rfl, h2, h3, Hc, hF1⟩ := hrel;have Hj := zb hj
  by_cases hlt : j < 8
  ·have hcb := Hc.out j (.int .u8 ((leB n 8).getD j 0)) (by simp [HL.out, hlt])
   have hcv := (h2.cell (1 + j)).trans ((by simp : (vc (zcR 8 (leB n 8) j)).toArray[1 + j]? = (vc (zcR 8 (leB n 8) j))[1 + j]?).trans (vc_at _ j (by simp [zcR, HL.out]; omega)));have hf := h2.free (1 + j);clear hj;go_wp2_with fail
   go_roundg (gk - 1)
   case measure => have := Hj.out; omega
   case rel => exact ⟨j + 1, by have := Hj.out; omega, by go_num, by rw [← zod 8 _ j (by have := HL.out; omega) (by have := HL.out; omega)]; exact h2.set _ _, h3.other _ (by simp) _, zb fun k u hk => by rw [World.cell?_setCell_other _ _ _ _ (fun e => hne (congrArg Addr.block e).symm)]; exact Hc.out k u hk, hF1.setCell (by simp) _⟩
  ·obtain rfl : j = 8 := by omega
   rw [zmg] at h2;clear hj
   go_wp2_with (first
    | (refine zB zbs rfl (.tmp 3) rfl (w.heap.size + 1) rfl hl h2 ?_)
    | (refine zbn zbs rfl (.tmp 2) (.tmp 20) rfl w.heap.size (vc (zaO n)) rfl rfl hl (zar _) zdr h3 ?_)
    | fail)
   exact bodyPost_ret (zbs.result rfl _ w.heap.size rfl hl (h3.setRow _)) rfl ⟨rfl, zaM hF1 (Nat.le_refl _) _⟩
theorem zd6 (n : Int) : 0 ≤ IntKind.u64.wrap n ∧ IntKind.u64.wrap n < 18446744073709551616 := by rw [zeB]; omega
set_option maxRecDepth 100000 in
set_option maxHeartbeats 1000000 in
theorem val_plus (v : RV) (wv : v.wf) (ok : okV v = true) (k : Int) (w : World) : Calls Tryz.prog 130 #[vv v, .int .u64 k] w fun e w' => e = .returned (vv (zbJ v k)) ∧ Fr w w' := by
 have Hlv := zb (zD wv.hl);have hl := zD (zaR (IntKind.u64.wrap (zfF v + k))).hl;have cN := fun W => zmP v wv ok W;have cF := fun W => zkw (IntKind.u64.wrap (zfF v + k)) (zd6 _).1 W;clear wv ok;unfold zbJ;generalize zfF v = z at *;go_enter Tryz.func130, Tryz.ntmps130
 go_wp2_with (first
  | (refine zB zbs rfl (.tmp 2) rfl w.heap.size rfl Hlv.out (Arr.alloc (Arr.new w _ _) _) ?_
     generalize hX : World.alloc (World.alloc w _) _ = W;have h0 : Arr W (w.heap.size + 1) 37 (vc zE).toArray := by rw [← hX]; exact zbr _ _ _ _ (by simp)
     have hF : Fr w W := by rw [← hX]; exact zf (zf (ze w) _) _
     clear hX)
  | (go_at_call 136; refine (cN _).mono ?_; rintro e w1 ⟨rfl, hb⟩; have h1 := h0.below hb h0.lt; have hF1 := za hF hb; clear hb)
  | (go_at_call 129; refine (cF _).mono ?_; rintro e w2 ⟨rfl, hb⟩; have h2 := h1.below hb h1.lt; have hF2 := za hF1 hb; clear hb)
  | (refine zbn zbs rfl (.tmp 4) (.tmp 9) rfl (w.heap.size + 1) (vc (zaO (IntKind.u64.wrap (z + k)))) rfl rfl hl (zar _) zdr h2 ?_)
  | fail)
 exact bodyPost_ret (zbs.result rfl _ (w.heap.size + 1) rfl hl (h2.setRow _)) rfl ⟨rfl, zaM hF2 (by omega) _⟩
set_option maxRecDepth 100000 in
set_option maxHeartbeats 1000000 in
theorem ref_plus (v : RV) (wv : v.wf) (k : Int) (w : World) : Calls Tryz.prog 44 #[vv v, .int .u64 k] w fun e w' => e = .returned (vv (zbJ v k)) ∧ Fr w w' := by
 have Hlv := zb (zD wv.hl);have hl := zD (zaR (IntKind.u64.wrap (zfF v + k))).hl;have cN := fun W => zmR v wv W;have cF := fun W => zly (IntKind.u64.wrap (zfF v + k)) (zd6 _).1 (zd6 _).2 W;clear wv;unfold zbJ;generalize zfF v = z at *;go_enter Tryz.func44, Tryz.ntmps44
 go_wp2_with (first
  | (refine zB zbs rfl (.tmp 2) rfl w.heap.size rfl Hlv.out (Arr.alloc (Arr.new w _ _) _) ?_
     generalize hX : World.alloc (World.alloc w _) _ = W;have h0 : Arr W (w.heap.size + 1) 37 (vc zE).toArray := by rw [← hX]; exact zbr _ _ _ _ (by simp)
     have hF : Fr w W := by rw [← hX]; exact zf (zf (ze w) _) _
     clear hX)
  | (go_at_call 73; refine (cN _).mono ?_; rintro e w1 ⟨rfl, hb⟩; have h1 := h0.below hb h0.lt; have hF1 := za hF hb; clear hb)
  | (go_at_call 43; refine (cF _).mono ?_; rintro e w2 ⟨rfl, hb⟩; have h2 := h1.below hb h1.lt; have hF2 := za hF1 hb; clear hb)
  | (refine zbn zbs rfl (.tmp 4) (.tmp 9) rfl (w.heap.size + 1) (vc (zaO (IntKind.u64.wrap (z + k)))) rfl rfl hl (zar _) zdr h2 ?_)
  | fail)
 exact bodyPost_ret (zbs.result rfl _ (w.heap.size + 1) rfl hl (h2.setRow _)) rfl ⟨rfl, zaM hF2 (by omega) _⟩
end
section
attribute [local go_sem ↓] zae
section
variable {W0 W : World}
theorem zlC {v : RV} (wv : v.wf) (hb : Fr W0 W) : Calls Tryz.prog 104 #[vv v] W fun e w' => e = .returned (.bool (okV v)) ∧ Fr W0 w' := (zi6 v wv W).mono fun _ _ ⟨he, hw⟩ => ⟨he, za hb hw⟩
theorem znf {n : Int} (hn : 0 ≤ n) (hb : Fr W0 W) : Calls Tryz.prog 129 #[.int .u64 n] W fun e w' => e = .returned (vv (zaO n)) ∧ Fr W0 w' := (zkw n hn W).mono fun _ _ ⟨he, hw⟩ => ⟨he, za hb hw⟩
theorem zhB {v : RV} (wv : v.wf) (ok : okV v = true) (k : Int) (hb : Fr W0 W) : Calls Tryz.prog 130 #[vv v, .int .u64 k] W fun e w' => e = .returned (vv (zbJ v k)) ∧ Fr W0 w' := (val_plus v wv ok k W).mono fun _ _ ⟨he, hw⟩ => ⟨he, za hb hw⟩
end
theorem zee {W0 : World} {g : Nat} {v : RV} (ha : Arr W0 g 37 (vc v).toArray) (hl : (vc v).length = 17) : ∀ W, Fr W0 W → (ldS 37 (.pointer (some ⟨g, 0, none⟩))).run Tryz.prog W = .ok (.agg (vc v).toArray) W := fun W h => zbs.ld hl (ha.below h ha.lt)
theorem cell_fr {W0 : World} {g T : Nat} {cs : List Value} (ha : Arr W0 g T cs.toArray) (j : Nat) (u : Value) (hu : cs[j]? = some u) : ∀ W, Fr W0 W → W.cell? ⟨g, j, none⟩ = some u := fun W h => by
 rw [(ha.below h ha.lt).cell, ← hu]; simp
def one1 : ByteArray := ⟨#[1]⟩
end
section
attribute [local go_sem ↓] zae
theorem zgL {n k : Int} (h0 : 0 ≤ n) (h1 : n < 18446744073709551616) : zbJ (zaO n) k = zaO (IntKind.u64.wrap (n + k)) := by rw [zbJ, num_from h0 h1]
end
section
attribute [local go_sem ↓] zae
theorem zju {W0 W : World} {v : RV} (wv : v.wf) (hb : Fr W0 W) : Calls Tryz.prog 86 #[vv v] W fun e w' => e = .returned (.bool (okV v)) ∧ Fr W0 w' := (zml v wv W).mono fun _ _ ⟨he, hw⟩ => ⟨he, za hb hw⟩
theorem rfrom_at {W0 W : World} {n : Int} (hn : 0 ≤ n) (hn2 : n < 18446744073709551616) (hb : Fr W0 W) : Calls Tryz.prog 43 #[.int .u64 n] W fun e w' => e = .returned (vv (zaO n)) ∧ Fr W0 w' := (zly n hn hn2 W).mono fun _ _ ⟨he, hw⟩ => ⟨he, za hb hw⟩
theorem zli {W0 W : World} {v : RV} (wv : v.wf) (k : Int) (hb : Fr W0 W) : Calls Tryz.prog 44 #[vv v, .int .u64 k] W fun e w' => e = .returned (vv (zbJ v k)) ∧ Fr W0 w' := (ref_plus v wv k W).mono fun _ _ ⟨he, hw⟩ => ⟨he, za hb hw⟩
end
end Go.Proofs.YtmjjjdikpnhpiaaGreat
