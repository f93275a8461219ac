/- What the functions of layer 4 come to, two: 'Check', 'Text', of the program and of the document. -/
import Derived.Test.YtnfoebcfhldemaaValA
namespace Go.Proofs.Ytnfoebcfhldemaa
set_option maxRecDepth 100000
open Go.RowKit
set_option linter.unusedVariables false

theorem take_bytes {l : List Int} (h : Bytes l) (m : Nat) : Bytes (l.take m) := fun z hz => h z (List.mem_of_mem_take hz)
set_option maxRecDepth 100000 in
set_option maxHeartbeats 1000000 in
theorem val_check_out (v : RV) (hn : v.n < 0 ∨ 16 < v.n) (w : World) : Calls Try.prog 76 #[vv v] w fun e w' => e = .returned (.bool false) ∧ Fr w w' := by
  have hv0 : (vc v)[0]? = some (.int .i64 v.n) := rfl
  rcases hn with hn | hn
  · have h1 : decide (v.n < 0) = true := by simpa using hn
    go_enter Try.func76, Try.ntmps76
    go_wp2_with fail
    go_ret
    exact ⟨rfl, fr_new (fr_refl w) _⟩
  · have h1 : decide (v.n < 0) = false := by simp; omega
    have h2 : decide (16 < v.n) = true := by simpa using hn
    go_enter Try.func76, Try.ntmps76
    go_wp2_with fail
    go_ret
    exact ⟨rfl, fr_new (fr_refl w) _⟩
theorem mk_str {l : List Int} (h : Bytes l) : ofV (strOfNums l) = mkV l := by rw [ofV_mk, nums_str h]
set_option maxRecDepth 100000 in
set_option maxHeartbeats 4000000 in
theorem val_check_in (v : RV) (wv : v.wf) (m : Nat) (hm : m ≤ 16) (hn : v.n = m) (w : World) : Calls Try.prog 76 #[vv v] w fun e w' => e = .returned (.bool (decide (v = mkV (v.bs.take m)))) ∧ Fr w w' := by
  have Hlv := keep (vc_len wv.hl)
  have hsz : (strOfNums (v.bs.take m)).size ≤ 16 := by rw [str_size]; simp; omega
  have wx := ofV_wf hsz
  have hlx := vc_len wx.hl
  have heq := fun W => val_eql wv wx W
  rw [mk_str (take_bytes wv.hb m)] at heq
  have cO := fun W => val_of_fits _ hsz W
  have hv0 : (vc v)[0]? = some (.int .i64 (m : Int)) := by rw [← hn]; rfl
  have hcv := val_string (Arr.new w (vc v).toArray 34) wv.hl hm
  generalize decide (v = mkV (v.bs.take m)) = d at heq ⊢
  rw [← mk_str (take_bytes wv.hb m)] at heq
  generalize strOfNums (v.bs.take m) = T at *
  generalize ofV T = x at *
  have hsl := slice16 m hm
  have hm2 : (m : Int) ≤ 16 := by omega
  clear hn wv wx
  go_enter Try.func76, Try.ntmps76
  go_wp2_with (first
    | (go_at_call 87; refine (cO _).mono ?_; rintro e w1 ⟨rfl, hF1⟩; have hA := (Arr.new w (vc v).toArray 34).below hF1 (by simp); have hF := fr_step (fr_new (fr_refl w) _) hF1; clear hF1 hcv cO)
    | (refine wpList_store_new valS rfl (.tmp 3) (.tmp 20) rfl w1.heap.size (vc x) rfl rfl hlx (vc_one x) rfl rfl ?_
       generalize hX : World.alloc w1 _ = W
       have h3 : Arr W w1.heap.size 34 (vc x).toArray := by rw [← hX]; exact Arr.new w1 _ _
       have h4 : Arr W w.heap.size 34 (vc v).toArray := by rw [← hX]; exact hA.alloc _
       have hF2 : Fr w W := by rw [← hX]; exact fr_new hF _
       clear hX hA hF)
    | (refine wpList_load_sty valS rfl (.tmp 1) rfl w.heap.size rfl Hlv.out h4 ?_)
    | (refine wpList_load_sty valS rfl (.tmp 3) rfl w1.heap.size rfl hlx h3 ?_)
    | fail)
  go_ret
  exact ⟨rfl, hF2⟩
theorem val_check (v : RV) (wv : v.wf) (w : World) : Calls Try.prog 76 #[vv v] w fun e w' => e = .returned (.bool (okV v)) ∧ Fr w w' := by
  by_cases h1 : v.n < 0
  · rw [okV_lo h1]; exact val_check_out v (.inl h1) w
  · by_cases h2 : 16 < v.n
    · rw [okV_hi h2]; exact val_check_out v (.inr h2) w
    · obtain ⟨m, hm⟩ : ∃ m : Nat, v.n = m := ⟨v.n.toNat, by omega⟩
      rw [okV_in (by omega) hm]; exact val_check_in v wv m (by omega) hm w
set_option maxRecDepth 100000 in
set_option maxHeartbeats 1000000 in
theorem ref_vcheck_out (v : RV) (hn : v.n < 0 ∨ 16 < v.n) (w : World) : Calls Try.prog 80 #[vv v] w fun e w' => e = .returned (.bool false) ∧ Fr w w' := by
  have hv0 : (vc v)[0]? = some (.int .i64 v.n) := rfl
  rcases hn with hn | hn
  · have h1 : decide (v.n < 0) = true := by simpa using hn
    go_enter Try.func80, Try.ntmps80
    go_wp2_with fail
    go_ret
    exact ⟨rfl, fr_new (fr_refl w) _⟩
  · have h1 : decide (v.n < 0) = false := by simp; omega
    have h2 : decide (16 < v.n) = true := by simpa using hn
    go_enter Try.func80, Try.ntmps80
    go_wp2_with fail
    go_ret
    exact ⟨rfl, fr_new (fr_refl w) _⟩
set_option maxRecDepth 100000 in
set_option maxHeartbeats 2000000 in
theorem ref_vcheck_in (v : RV) (wv : v.wf) (m : Nat) (hm : m ≤ 16) (hn : v.n = m) (w : World) : Calls Try.prog 80 #[vv v] w fun e w' => e = .returned (.bool (decide (v = mkV (v.bs.take m)))) ∧ Fr w w' := by
  have Hi := keep (mk_iff hm hn wv.hl)
  have Hl := keep wv.hl
  have hv0 : (vc v)[0]? = some (.int .i64 (m : Int)) := by rw [← hn]; rfl
  have hm2 : (m : Int) ≤ 16 := by omega
  clear hn
  go_enter Try.func80, Try.ntmps80
  go_wp2_with fail
  generalize hW : World.alloc w _ = W
  have ha : Arr W w.heap.size 34 (vc v).toArray := by rw [← hW]; exact Arr.new w _ _
  have hF : Fr w W := by rw [← hW]; exact fr_new (fr_refl w) _
  clear hW hv0
  go_loop [3] (fun i => ∃ j : Nat, m ≤ j ∧ j ≤ 16 ∧ i = .int .i64 j ∧ Hid (∀ t, m ≤ t → t < j → v.bs.getD t 0 = 0)) (fun i => 16 - (intOf i).toNat)
  case atStart => exact ⟨m, Nat.le_refl _, hm, rfl, keep fun t a b => by omega⟩
  case round =>
    obtain ⟨j, hj1, hj, rfl, Ht⟩ := hrel
    by_cases hlt : j < 16
    · have hc := (ha.cell (1 + j)).trans ((by simp : (vc v).toArray[1 + j]? = (vc v)[1 + j]?).trans (vc_at v j (by rw [Hl.out]; omega)))
      by_cases h0 : v.bs.getD j 0 = 0
      · have H0 := keep h0
        rw [h0] at hc
        clear h0
        go_wp2
        go_round
        case rel => exact ⟨j + 1, by omega, by omega, by go_num, keep fun t a b => by
          by_cases e : t = j
          · rw [e, H0.out]
          · exact Ht.out t a (by omega)⟩
        case measure => simp [intOf]; omega
      · have hd : decide (v = mkV (v.bs.take m)) = false := by
          simp only [decide_eq_false_iff_not]
          intro e
          exact h0 (Hi.out.1 e j hj1 hlt)
        generalize v.bs.getD j 0 = z at hc h0
        have h3 : (z != 0) = true := by simpa using h0
        have Hd := keep hd
        clear hd h0
        go_wp2
        go_ret
        exact ⟨ret_bool Hd.out.symm, hF⟩
    · obtain rfl : j = 16 := by omega
      have hd : decide (v = mkV (v.bs.take m)) = true := by
        simp only [decide_eq_true_iff]
        exact Hi.out.2 fun t a b => Ht.out t a b
      have Hd := keep hd
      clear hd
      go_wp2
      go_ret
      exact ⟨ret_bool Hd.out.symm, hF⟩
theorem ref_vcheck (v : RV) (wv : v.wf) (w : World) : Calls Try.prog 80 #[vv v] w fun e w' => e = .returned (.bool (okV v)) ∧ Fr w w' := by
  by_cases h1 : v.n < 0
  · rw [okV_lo h1]; exact ref_vcheck_out v (.inl h1) w
  · by_cases h2 : 16 < v.n
    · rw [okV_hi h2]; exact ref_vcheck_out v (.inr h2) w
    · obtain ⟨m, hm⟩ : ∃ m : Nat, v.n = m := ⟨v.n.toNat, by omega⟩
      rw [okV_in (by omega) hm]; exact ref_vcheck_in v wv m (by omega) hm w
/-- The text of a value; none, if it is not valid. -/
def txtV (v : RV) : ByteArray := if okV v = true then strOfNums (v.bs.take v.n.toNat) else ⟨#[]⟩
set_option maxRecDepth 100000 in
set_option maxHeartbeats 1000000 in
theorem val_text (v : RV) (wv : v.wf) (w : World) : Calls Try.prog 104 #[vv v] w fun e w' => e = .returned (.string (txtV v)) ∧ Fr w w' := by
  have hlv := vc_len wv.hl
  have cC := fun W => val_check v wv W
  cases hk : okV v
  · have HT : Hid (txtV v = ⟨#[]⟩) := keep (by simp [txtV, hk])
    rw [hk] at cC
    clear hk
    go_enter Try.func104, Try.ntmps104
    go_wp2_with (first
      | (refine wpList_load_sty valS rfl (.tmp 1) rfl w.heap.size rfl hlv (Arr.new w _ _) ?_)
      | (go_at_call 76; refine (cC _).mono ?_; rintro e w1 ⟨rfl, hF1⟩; have hF := fr_step (fr_new (fr_refl w) _) hF1; clear hF1)
      | fail)
    go_ret
    exact ⟨by rw [HT.out]; rfl, hF⟩
  · obtain ⟨m, hm, hn, -⟩ := okV_n hk
    have HT : Hid (txtV v = strOfNums (v.bs.take m)) := keep (by unfold txtV; rw [if_pos hk, hn, Int.toNat_natCast])
    have Hn : Hid ((vc v)[0]? = some (.int .i64 (m : Int))) := keep (by rw [← hn]; rfl)
    have hsl := slice16 m hm
    have Hl := keep wv.hl
    rw [hk] at cC
    clear hk hn
    go_enter Try.func104, Try.ntmps104
    go_wp2_with (first
      | (refine wpList_load_sty valS rfl (.tmp 1) rfl w.heap.size rfl hlv (Arr.new w _ _) ?_)
      | (go_at_call 76; refine (cC _).mono ?_; rintro e w1 ⟨rfl, hF1⟩; have hF := fr_step (fr_new (fr_refl w) _) hF1; have hA := (Arr.new w (vc v).toArray 34).below hF1 (by simp); have hc : w1.cell? ⟨w.heap.size, 0, none⟩ = some (.int .i64 (m : Int)) := (hA.cell 0).trans (by simpa using Hn.out); have hcv := val_string hA Hl.out hm; generalize strOfNums (v.bs.take m) = T at hcv HT; clear hF1 hA)
      | fail)
    go_ret
    exact ⟨by rw [HT.out]; rfl, hF⟩
end Go.Proofs.Ytnfoebcfhldemaa
