/- What the functions of the laws' package 00 come to: a message by a number. -/
import Derived.Test.YtkblfljcjfaibaaLaw1
namespace Go.Proofs.Ytkblfljcjfaibaa
open Go.RowKit
set_option linter.unusedVariables false
attribute [local go_sem ↓] val_ld key_ld msg_ld
/-- The message by a number, with another one. -/
def lawM (v s : Int) : RM :=
  ⟨1 + ((pl v % 3 : Nat) : Int), ((pl s : Nat) : Int), lawK ((pl v / 4 : Nat) : Int), if pl v % 3 = 0 then lawV ((pl v / 64 : Nat) : Int) else zeroV, if pl v % 3 = 2 then ((pl v / 1024 : Nat) : Int) * 65537 else 0⟩
theorem pl_64 (v : Int) (d : Nat) : Is64 ((pl v / d : Nat) : Int) := by
  have := pl_lt v
  have h : pl v / d ≤ pl v := Nat.div_le_self _ _
  unfold Is64
  generalize pl v / d = q at *
  omega
theorem lawM_wf (v s : Int) : (lawM v s).wf := by
  have h1 := pl_lt v
  have h2 := pl_lt s
  refine ⟨?_, ?_, lawK_wf _, ?_, ?_⟩
  · show Is64 (1 + ((pl v % 3 : Nat) : Int))
    unfold Is64; omega
  · show Us64 ((pl s : Nat) : Int)
    unfold Us64; omega
  · show (if pl v % 3 = 0 then lawV ((pl v / 64 : Nat) : Int) else zeroV).wf
    split
    · exact lawV_wf _
    · exact zeroV_wf
  · show Us64 (if pl v % 3 = 2 then ((pl v / 1024 : Nat) : Int) * 65537 else 0)
    unfold Us64
    split <;> omega
theorem lawM_kind (v s : Int) : (lawM v s).kind = 1 + ((pl v % 3 : Nat) : Int) := rfl
theorem lawM_ok (v s : Int) : okM (lawM v s) = true := by
  have hk : okB (lawM v s).key = true := lawK_ok _
  have h3 : pl v % 3 < 3 := Nat.mod_lt _ (by decide)
  have e1 : (lawM v s).val = if pl v % 3 = 0 then lawV ((pl v / 64 : Nat) : Int) else zeroV := rfl
  have e2 : (lawM v s).inc = if pl v % 3 = 2 then ((pl v / 1024 : Nat) : Int) * 65537 else 0 := rfl
  unfold okM
  rw [lawM_kind, hk, e1, e2]
  by_cases a0 : pl v % 3 = 0
  · rw [a0]; simp [lawV_ok]
  · by_cases a1 : pl v % 3 = 1
    · rw [a1]; simp
    · have a2 : pl v % 3 = 2 := by omega
      rw [a2]; simp
set_option maxRecDepth 100000 in
set_option maxHeartbeats 4000000 in
theorem law_msg (v s : Int) (hv : Is64 v) (hs : Is64 s) (w : World) : Calls Try.prog 19 #[.int .i64 v, .int .i64 s] w fun e w' => e = .returned (mm (lawM v s)) ∧ Fr w w' := by
  have cP := fun W0 W h => law_pl (W0 := W0) (W := W) hv h
  have cQ := fun W0 W h => law_pl (W0 := W0) (W := W) hs h
  have cK := fun W0 W h => law_key_at (W0 := W0) (W := W) (pl_64 v 4) h
  have cV := fun W0 W h => law_value_at (W0 := W0) (W := W) (pl_64 v 64) h
  have HlV := keep (lawV_wf ((pl v / 64 : Nat) : Int)).hl
  unfold lawM
  have hlt := pl_lt v
  have hls := pl_lt s
  have r1 : ((pl v : Nat) : Int).tmod 3 = ((pl v % 3 : Nat) : Int) := rfl
  have q1 : ((pl v : Nat) : Int).tdiv 4 = ((pl v / 4 : Nat) : Int) := rfl
  have q2 : ((pl v : Nat) : Int).tdiv 64 = ((pl v / 64 : Nat) : Int) := rfl
  have q3 : ((pl v : Nat) : Int).tdiv 1024 = ((pl v / 1024 : Nat) : Int) := rfl
  have b1 : pl v % 3 < 3 := Nat.mod_lt _ (by decide)
  have g1 : pl v / 4 < 1099511627776 := by omega
  have g2 : pl v / 64 < 1099511627776 := by omega
  have g3 : pl v / 1024 < 1099511627776 := by omega
  have g4 : pl v / 1024 < 1073741824 := by omega
  generalize pl v % 3 = r at *
  generalize pl v / 4 = x1 at *
  generalize pl v / 64 = x2 at *
  generalize pl v / 1024 = x3 at *
  generalize pl v = K at *
  generalize pl s = S at *
  generalize lawK (x1 : Int) = k at *
  generalize lawV (x2 : Int) = y at *
  have hmul : ((x3 : Int) * 65537) % 18446744073709551616 = (x3 : Int) * 65537 := by omega
  have hSm : (S : Int) % 18446744073709551616 = (S : Int) := by omega
  have hxm : (x3 : Int) % 18446744073709551616 = (x3 : Int) := by omega
  obtain ⟨Z, hZ, hZO, hZF⟩ : ∃ Z, w.alloc (.cells #[.int .i64 0, .int .u64 0, .int .i64 0, .int .u8 0, .int .u8 0, .int .u8 0, .int .u8 0, .int .u8 0, .int .u8 0, .int .u8 0, .int .u8 0, .int .i64 0, .int .u8 0, .int .u8 0, .int .u8 0, .int .u8 0, .int .u8 0, .int .u8 0, .int .u8 0, .int .u8 0, .int .u8 0, .int .u8 0, .int .u8 0, .int .u8 0, .int .u8 0, .int .u8 0, .int .u8 0, .int .u8 0, .int .u64 0] 30) = Z ∧ Arr Z w.heap.size 30 (mc zeroM).toArray ∧ Fr w Z := ⟨_, rfl, Arr.new w _ _, fr_new (fr_refl w) _⟩
  have hZZ := fr_refl Z
  have hwZ : w.heap.size < Z.heap.size := hZO.lt
  rcases r with _|_|_|r
  · have HlM := keep (mc_len (m := ⟨1, (S : Int), k, zeroV, 0⟩) rfl)
    have HlR := keep (mc_len (m := ⟨1, (S : Int), k, y, 0⟩) HlV.out)
    show Calls _ _ _ _ fun e w' => e = .returned (mm ⟨1, (S : Int), k, y, 0⟩) ∧ Fr w w'
    go_enter Try.func19, Try.ntmps19
    go_wp2_with (first
      | (go_at_call_of 29 v; refine (cP Z _ hZZ).mono ?_; rintro e w0 ⟨rfl, hz0⟩)
      | (go_at_call_of 29 s; refine (cQ Z _ hz0).mono ?_; rintro e w1 ⟨rfl, hz1⟩)
      | (go_at_call 21; refine (cK Z _ hz1).mono ?_; rintro e w2 ⟨rfl, hz2⟩
         have hO2 := hZO.below hz2 hZO.lt
         have hF2 := fr_step hZF hz2
         have hs2 := hz2.size)
      | (refine wpList_store_at (ds := mc ⟨1, (S : Int), k, zeroV, 0⟩) msg_info rfl (.tmp 6) (.tmp 18) rfl w2.heap.size 0 rfl rfl HlM.out (mc_one _) (Arr.new w2 (mc zeroM).toArray 30) (by decide) (splice_all _ _ (by rw [HlM.out]; decide)) ?_; intro Y hD hky
         have hOy := hky.other (hO2.alloc _) (by omega)
         have hFy := hky.fr (fr_new hF2 _) (by omega)
         have hYY := fr_refl Y
         have c0 := cellZ hD 0 (mc_0 ⟨1, (S : Int), k, zeroV, 0⟩)
         clear hky hO2 hF2)
      | (go_at_call 20; refine (cV Y _ hYY).mono ?_; rintro e w5 ⟨rfl, hz5⟩; have hD5 := hD.below hz5 hD.lt; have hO5 := hOy.below hz5 hOy.lt; have hF5 := fr_step hFy hz5; clear hD hOy hFy)
      | (refine wpList_store_at (ds := vc y) val_info rfl (.tmp 26) (.tmp 25) rfl w2.heap.size 11 rfl rfl (vc_len HlV.out) (vc_one _) hD5 (by rw [HlM.out]; decide) (mc_spliceV (m := ⟨1, (S : Int), k, zeroV, 0⟩) rfl HlV.out) ?_; intro X hDx hkx; have hOx := hkx.other hO5 (by omega); have hFx := hkx.fr hF5 (by omega); clear hkx hD5 hO5 hF5)
      | (refine wpList_load_sty msgS rfl (.tmp 6) rfl w2.heap.size rfl HlR.out hDx ?_)
      | (refine wpList_store_at (ds := mc ⟨1, (S : Int), k, y, 0⟩) msg_info rfl (.tmp 4) (.tmp 34) rfl w.heap.size 0 rfl rfl HlR.out (mc_one _) hOx (by decide) (splice_all _ _ (by rw [HlR.out]; decide)) ?_; intro W9 hO9 hk9; have hF9 := hk9.fr hFx (by omega); clear hk9)
      | fail)
    exact bodyPost_ret (msgS.result rfl _ w.heap.size rfl HlR.out hO9) rfl ⟨rfl, hF9⟩
  · have HlM := keep (mc_len (m := ⟨2, (S : Int), k, zeroV, 0⟩) rfl)
    have HlR := keep (mc_len (m := ⟨2, (S : Int), k, zeroV, 0⟩) rfl)
    show Calls _ _ _ _ fun e w' => e = .returned (mm ⟨2, (S : Int), k, zeroV, 0⟩) ∧ Fr w w'
    go_enter Try.func19, Try.ntmps19
    go_wp2_with (first
      | (go_at_call_of 29 v; refine (cP Z _ hZZ).mono ?_; rintro e w0 ⟨rfl, hz0⟩)
      | (go_at_call_of 29 s; refine (cQ Z _ hz0).mono ?_; rintro e w1 ⟨rfl, hz1⟩)
      | (go_at_call 21; refine (cK Z _ hz1).mono ?_; rintro e w2 ⟨rfl, hz2⟩
         have hO2 := hZO.below hz2 hZO.lt
         have hF2 := fr_step hZF hz2
         have hs2 := hz2.size)
      | (refine wpList_store_at (ds := mc ⟨2, (S : Int), k, zeroV, 0⟩) msg_info rfl (.tmp 6) (.tmp 18) rfl w2.heap.size 0 rfl rfl HlM.out (mc_one _) (Arr.new w2 (mc zeroM).toArray 30) (by decide) (splice_all _ _ (by rw [HlM.out]; decide)) ?_; intro Y hD hky
         have hOy := hky.other (hO2.alloc _) (by omega)
         have hFy := hky.fr (fr_new hF2 _) (by omega)
         have hYY := fr_refl Y
         have c0 := cellZ hD 0 (mc_0 ⟨2, (S : Int), k, zeroV, 0⟩)
         clear hky hO2 hF2)
        | (refine wpList_load_sty msgS rfl (.tmp 6) rfl w2.heap.size rfl HlR.out hD ?_)
      | (refine wpList_store_at (ds := mc ⟨2, (S : Int), k, zeroV, 0⟩) msg_info rfl (.tmp 4) (.tmp 34) rfl w.heap.size 0 rfl rfl HlR.out (mc_one _) hOy (by decide) (splice_all _ _ (by rw [HlR.out]; decide)) ?_; intro W9 hO9 hk9; have hF9 := hk9.fr hFy (by omega); clear hk9)
      | fail)
    exact bodyPost_ret (msgS.result rfl _ w.heap.size rfl HlR.out hO9) rfl ⟨rfl, hF9⟩
  · have HlM := keep (mc_len (m := ⟨3, (S : Int), k, zeroV, 0⟩) rfl)
    have HlR := keep (mc_len (m := ⟨3, (S : Int), k, zeroV, (x3 : Int) * 65537⟩) rfl)
    show Calls _ _ _ _ fun e w' => e = .returned (mm ⟨3, (S : Int), k, zeroV, (x3 : Int) * 65537⟩) ∧ Fr w w'
    go_enter Try.func19, Try.ntmps19
    go_wp2_with (first
      | (go_at_call_of 29 v; refine (cP Z _ hZZ).mono ?_; rintro e w0 ⟨rfl, hz0⟩)
      | (go_at_call_of 29 s; refine (cQ Z _ hz0).mono ?_; rintro e w1 ⟨rfl, hz1⟩)
      | (go_at_call 21; refine (cK Z _ hz1).mono ?_; rintro e w2 ⟨rfl, hz2⟩
         have hO2 := hZO.below hz2 hZO.lt
         have hF2 := fr_step hZF hz2
         have hs2 := hz2.size)
      | (refine wpList_store_at (ds := mc ⟨3, (S : Int), k, zeroV, 0⟩) msg_info rfl (.tmp 6) (.tmp 18) rfl w2.heap.size 0 rfl rfl HlM.out (mc_one _) (Arr.new w2 (mc zeroM).toArray 30) (by decide) (splice_all _ _ (by rw [HlM.out]; decide)) ?_; intro Y hD hky
         have hOy := hky.other (hO2.alloc _) (by omega)
         have hFy := hky.fr (fr_new hF2 _) (by omega)
         have hYY := fr_refl Y
         have c0 := cellZ hD 0 (mc_0 ⟨3, (S : Int), k, zeroV, 0⟩)
         clear hky hO2 hF2)
      | (refine wpList_store_at (ds := [.int .u64 ((x3 : Int) * 65537)]) u64_info rfl (.tmp 33) (.tmp 32) rfl w2.heap.size 28 rfl rfl rfl (one_of _ rfl) hD (by rw [HlM.out]; decide) ((splice_cell _ _ _ (by rw [HlM.out]; decide)).trans (mc_set28 (m := ⟨3, (S : Int), k, zeroV, 0⟩) rfl _)) ?_; intro X hDx hkx; have hOx := hkx.other hOy (by omega); have hFx := hkx.fr hFy (by omega); clear hkx)
      | (refine wpList_load_sty msgS rfl (.tmp 6) rfl w2.heap.size rfl HlR.out hDx ?_)
      | (refine wpList_store_at (ds := mc ⟨3, (S : Int), k, zeroV, (x3 : Int) * 65537⟩) msg_info rfl (.tmp 4) (.tmp 34) rfl w.heap.size 0 rfl rfl HlR.out (mc_one _) hOx (by decide) (splice_all _ _ (by rw [HlR.out]; decide)) ?_; intro W9 hO9 hk9; have hF9 := hk9.fr hFx (by omega); clear hk9)
      | fail)
    exact bodyPost_ret (msgS.result rfl _ w.heap.size rfl HlR.out hO9) rfl ⟨rfl, hF9⟩
  · omega
theorem law_msg_at {W0 W : World} {v s : Int} (hv : Is64 v) (hs : Is64 s) (hb : Fr W0 W) : Calls Try.prog 19 #[.int .i64 v, .int .i64 s] W fun e w' => e = .returned (mm (lawM v s)) ∧ Fr W0 w' := (law_msg v s hv hs W).mono fun _ _ ⟨he, hw⟩ => ⟨he, fr_step hb hw⟩
end Go.Proofs.Ytkblfljcjfaibaa
