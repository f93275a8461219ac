/- What the functions of the laws' package 00 come to: a place, a key, a value, a message by a number. -/
import Derived.Test.YtmoaddbpfekdbaaGreatM04
import Derived.Laws.MakeOwn
namespace Go.Proofs.YtmoaddbpfekdbaaGreat
set_option maxRecDepth 100000
open Go.RowKit
set_option linter.unusedVariables false
attribute [local go_sem ↓] val_ld key_ld msg_ld
theorem emod_of_tmod (v : Int) (n : Nat) : v % (n : Int) = (v.tmod n) % n := by
  conv => lhs; rw [← Int.mul_tdiv_add_tmod v n]
  exact Int.mul_add_emod_self_left _ _ _
set_option maxRecDepth 100000 in
set_option maxHeartbeats 1000000 in
theorem law_place (v : Int) (n : Nat) (hv : Is64 v) (hn : 0 < n) (hn2 : (n : Int) ≤ 1099511627776) (w : World) : Calls Tryz.prog 24 #[.int .i64 v, .int .i64 n] w fun e w' => e = .returned (.int .i64 (v % n)) ∧ Fr w w' := by
  have he := emod_of_tmod v n
  unfold Is64 at hv
  have hn0 : ((n : Int) == 0) = false := by simp; omega
  rcases tmod_cases v n (by omega) with ⟨k, e, h1, h2⟩ | ⟨k, e, h2⟩
  · rw [e] at he
    have hr : v % (n : Int) = -(k : Int) + n := by
      rw [he, ← Int.add_emod_right, Int.emod_eq_of_lt (by omega) (by omega)]
    rw [hr]
    clear he hr
    go_enter Tryz.func24, Tryz.ntmps24
    go_wp2_with fail
    go_ret
    exact ⟨rfl, fr_refl w⟩
  · rw [e, Int.emod_eq_of_lt (a := (k : Int)) (by omega) (by omega)] at he
    rw [he]
    clear he
    go_enter Tryz.func24, Tryz.ntmps24
    go_wp2_with fail
    go_ret
    exact ⟨rfl, fr_refl w⟩
/-- The place below 2 to the 40, as a natural number. -/
def pl (v : Int) : Nat := (v % 1099511627776).toNat
theorem pl_lt (v : Int) : pl v < 1099511627776 := by unfold pl; omega
theorem law_pl {W0 W : World} {v : Int} (hv : Is64 v) (hb : Fr W0 W) : Calls Tryz.prog 24 #[.int .i64 v, .int .i64 1099511627776] W fun e w' => e = .returned (.int .i64 (pl v : Nat)) ∧ Fr W0 w' :=
  (law_place v 1099511627776 hv (by decide) (by decide) W).mono fun _ _ ⟨he, hw⟩ => ⟨by rw [he]; exact ret_int (by unfold pl; omega), fr_step hb hw⟩
/-- The bytes of the key by a number. -/
def lawKB (K : Nat) : List Int :=
  if K % 8 ≤ 2 then [97 + ((K / 8 % 6 : Nat) : Int)]
  else if K % 8 ≤ 4 then [97 + ((K / 8 % 5 : Nat) : Int), 97 + ((K / 40 % 4 : Nat) : Int)]
  else if K % 8 = 5 then [97 + ((K / 8 % 4 : Nat) : Int), 0, ((K / 32 % 256 : Nat) : Int), ((K / 8192 % 4 : Nat) : Int), 255, 120, 121, 97 + ((K / 32768 % 3 : Nat) : Int)]
  else if K % 8 = 6 then [98 + ((K / 8 % 3 : Nat) : Int), 108, 111, 110, 103, 101, 114, 48 + ((K / 24 % 9 : Nat) : Int)]
  else [((K / 8 % 256 : Nat) : Int), ((K / 2048 % 256 : Nat) : Int)].take (K / 524288 % 3)
theorem lawKB_len (K : Nat) : (lawKB K).length ≤ 8 := by
  unfold lawKB
  split
  · simp
  · split
    · simp
    · split
      · simp
      · split
        · simp
        · simp; omega
/-- The key by a number. -/
def lawK (v : Int) : RK := ofS (strOfNums (lawKB (pl v)))
theorem lawK_size (K : Nat) : (strOfNums (lawKB K)).size ≤ 8 := by rw [str_size]; exact lawKB_len K
theorem lawK_wf (v : Int) : (lawK v).wf := ofS_wf _ (lawK_size _)
theorem lawK_ok (v : Int) : okB (lawK v) = true := ofS_ok _ (lawK_size _)
/-- A new row of bytes, as a text. -/
theorem bytes_text {W : World} {g n c : Nat} {zs : List Int} (hl : zs.length = n) (ha : Arr W g 5 (u8s zs).toArray) : (convert 144 9 (.slice (some ⟨g, 0, none⟩) n c)).run Tryz.prog W = .ok (.string (strOfNums zs)) W :=
  run_convert_bytes_arg W 144 5 Tryz.underlying144 Tryz.underlying5 g 0 n c zs hl (fun i hi => by
    rw [Nat.zero_add, ha.cell]
    have h : i < zs.length := by omega
    simp [u8s, h]) 9 Tryz.underlying9
set_option maxRecDepth 100000 in
set_option maxHeartbeats 4000000 in
theorem law_key_0 (v : Int) (hv : Is64 v) (hr : pl v % 8 = 0) (w : World) : Calls Tryz.prog 79 #[.int .i64 v] w fun e w' => e = .returned (kv (lawK v)) ∧ Fr w w' := by
  have cP := fun W0 W h => law_pl (W0 := W0) (W := W) hv h
  have hO := ref_of_fits _ (lawK_size (pl v))
  have hKB : lawKB (pl v) = [97 + ((pl v / 8 % 6 : Nat) : Int)] := by simp [lawKB, hr]
  have cO := fun (W : World) => hO W
  unfold lawK
  have hlt := pl_lt v
  generalize pl v = K at *
  rw [hKB] at cO ⊢
  have hr' : (K : Int).tmod 8 = 0 := by
    have h : (K : Int).tmod 8 = ((K % 8 : Nat) : Int) := rfl
    rw [h, hr]; rfl
  have q1 : (K : Int).tdiv 8 = ((K / 8 : Nat) : Int) := rfl
  have m1 : ((K / 8 : Nat) : Int).tmod 6 = ((K / 8 % 6 : Nat) : Int) := rfl
  have b1 : K / 8 % 6 < 6 := Nat.mod_lt _ (by decide)
  clear hO hKB hr
  generalize K / 8 % 6 = y1 at *
  have u1 : (97 + (y1 : Int)) % 256 = 97 + (y1 : Int) := by omega
  have g1 : K / 8 < 1099511627776 := by omega
  generalize K / 8 = x1 at *
  obtain ⟨Z, hZ, hZO, hZF⟩ : ∃ Z, w.alloc (.cells #[.int .i64 0, .int .u8 0, .int .u8 0, .int .u8 0, .int .u8 0, .int .u8 0, .int .u8 0, .int .u8 0, .int .u8 0] 112) = Z ∧ Arr Z w.heap.size 112 (kc zeroK).toArray ∧ Fr w Z := ⟨_, rfl, Arr.new w _ _, fr_new (fr_refl w) _⟩
  have hZZ := fr_refl Z
  have hcv := fun (W : World) => bytes_text (W := W.alloc (.cells #[.int .u8 (97 + (y1 : Int))] 5)) (g := W.heap.size) (n := 1) (c := 1) (zs := [97 + (y1 : Int)]) rfl (Arr.new W _ _)
  generalize strOfNums [97 + (y1 : Int)] = T at *
  generalize ofS T = k at *
  go_enter Tryz.func79, Tryz.ntmps79
  go_wp2_with (first
    | (go_at_call 24; refine (cP Z _ hZZ).mono ?_; rintro e w1 ⟨rfl, hz1⟩
       have hOw := (hZO.below hz1 hZO.lt).alloc (.cells #[.int .u8 (97 + (y1 : Int))] 5)
       have hFw := fr_new (fr_step hZF hz1) (.cells #[.int .u8 (97 + (y1 : Int))] 5))
    | (go_at_call 93; refine (cO _).mono ?_; rintro e w2 ⟨rfl, hz2⟩
       have hZ2 : Arr w2 w.heap.size 112 (kc zeroK).toArray := hOw.below hz2 hOw.lt
       have hF2 := fr_step hFw hz2
       clear hOw hFw)
    | (refine wpList_store_at (ds := kc k) key_info rfl (.tmp 5) (.tmp 90) rfl w2.heap.size 0 rfl rfl (kc_len k) (kc_one _) (Arr.new w2 (kc zeroK).toArray 112) (by rw [kc_len]; decide) (splice_all _ _ (by rw [kc_len, kc_len]; decide)) ?_; intro X h3 hkx
       have h4 := hkx.other (hZ2.alloc _) (by have := hZ2.lt; omega)
       have hF3 := hkx.fr (fr_new hF2 _) hF2.size
       clear hkx hZ2 hF2)
    | (refine wpList_load_sty keyS rfl (.tmp 5) rfl w2.heap.size rfl (kc_len k) h3 ?_)
    | (refine wpList_store_at (ds := kc k) key_info rfl (.tmp 2) (.tmp 92) rfl w.heap.size 0 rfl rfl (kc_len k) (kc_one _) h4 (by rw [kc_len]; decide) (splice_all _ _ (by rw [kc_len, kc_len]; decide)) ?_; intro W5 hO5 hk5; have hF5 := hk5.fr hF3 (by omega); clear hk5)
    | fail)
  exact bodyPost_ret (keyS.result rfl _ w.heap.size rfl (kc_len k) hO5) rfl ⟨rfl, hF5⟩
set_option maxRecDepth 100000 in
set_option maxHeartbeats 4000000 in
theorem law_key_1 (v : Int) (hv : Is64 v) (hr : pl v % 8 = 1) (w : World) : Calls Tryz.prog 79 #[.int .i64 v] w fun e w' => e = .returned (kv (lawK v)) ∧ Fr w w' := by
  have cP := fun W0 W h => law_pl (W0 := W0) (W := W) hv h
  have hO := ref_of_fits _ (lawK_size (pl v))
  have hKB : lawKB (pl v) = [97 + ((pl v / 8 % 6 : Nat) : Int)] := by simp [lawKB, hr]
  have cO := fun (W : World) => hO W
  unfold lawK
  have hlt := pl_lt v
  generalize pl v = K at *
  rw [hKB] at cO ⊢
  have hr' : (K : Int).tmod 8 = 1 := by
    have h : (K : Int).tmod 8 = ((K % 8 : Nat) : Int) := rfl
    rw [h, hr]; rfl
  have q1 : (K : Int).tdiv 8 = ((K / 8 : Nat) : Int) := rfl
  have m1 : ((K / 8 : Nat) : Int).tmod 6 = ((K / 8 % 6 : Nat) : Int) := rfl
  have b1 : K / 8 % 6 < 6 := Nat.mod_lt _ (by decide)
  clear hO hKB hr
  generalize K / 8 % 6 = y1 at *
  have u1 : (97 + (y1 : Int)) % 256 = 97 + (y1 : Int) := by omega
  have g1 : K / 8 < 1099511627776 := by omega
  generalize K / 8 = x1 at *
  obtain ⟨Z, hZ, hZO, hZF⟩ : ∃ Z, w.alloc (.cells #[.int .i64 0, .int .u8 0, .int .u8 0, .int .u8 0, .int .u8 0, .int .u8 0, .int .u8 0, .int .u8 0, .int .u8 0] 112) = Z ∧ Arr Z w.heap.size 112 (kc zeroK).toArray ∧ Fr w Z := ⟨_, rfl, Arr.new w _ _, fr_new (fr_refl w) _⟩
  have hZZ := fr_refl Z
  have hcv := fun (W : World) => bytes_text (W := W.alloc (.cells #[.int .u8 (97 + (y1 : Int))] 5)) (g := W.heap.size) (n := 1) (c := 1) (zs := [97 + (y1 : Int)]) rfl (Arr.new W _ _)
  generalize strOfNums [97 + (y1 : Int)] = T at *
  generalize ofS T = k at *
  go_enter Tryz.func79, Tryz.ntmps79
  go_wp2_with (first
    | (go_at_call 24; refine (cP Z _ hZZ).mono ?_; rintro e w1 ⟨rfl, hz1⟩
       have hOw := (hZO.below hz1 hZO.lt).alloc (.cells #[.int .u8 (97 + (y1 : Int))] 5)
       have hFw := fr_new (fr_step hZF hz1) (.cells #[.int .u8 (97 + (y1 : Int))] 5))
    | (go_at_call 93; refine (cO _).mono ?_; rintro e w2 ⟨rfl, hz2⟩
       have hZ2 : Arr w2 w.heap.size 112 (kc zeroK).toArray := hOw.below hz2 hOw.lt
       have hF2 := fr_step hFw hz2
       clear hOw hFw)
    | (refine wpList_store_at (ds := kc k) key_info rfl (.tmp 5) (.tmp 90) rfl w2.heap.size 0 rfl rfl (kc_len k) (kc_one _) (Arr.new w2 (kc zeroK).toArray 112) (by rw [kc_len]; decide) (splice_all _ _ (by rw [kc_len, kc_len]; decide)) ?_; intro X h3 hkx
       have h4 := hkx.other (hZ2.alloc _) (by have := hZ2.lt; omega)
       have hF3 := hkx.fr (fr_new hF2 _) hF2.size
       clear hkx hZ2 hF2)
    | (refine wpList_load_sty keyS rfl (.tmp 5) rfl w2.heap.size rfl (kc_len k) h3 ?_)
    | (refine wpList_store_at (ds := kc k) key_info rfl (.tmp 2) (.tmp 92) rfl w.heap.size 0 rfl rfl (kc_len k) (kc_one _) h4 (by rw [kc_len]; decide) (splice_all _ _ (by rw [kc_len, kc_len]; decide)) ?_; intro W5 hO5 hk5; have hF5 := hk5.fr hF3 (by omega); clear hk5)
    | fail)
  exact bodyPost_ret (keyS.result rfl _ w.heap.size rfl (kc_len k) hO5) rfl ⟨rfl, hF5⟩
set_option maxRecDepth 100000 in
set_option maxHeartbeats 4000000 in
theorem law_key_2 (v : Int) (hv : Is64 v) (hr : pl v % 8 = 2) (w : World) : Calls Tryz.prog 79 #[.int .i64 v] w fun e w' => e = .returned (kv (lawK v)) ∧ Fr w w' := by
  have cP := fun W0 W h => law_pl (W0 := W0) (W := W) hv h
  have hO := ref_of_fits _ (lawK_size (pl v))
  have hKB : lawKB (pl v) = [97 + ((pl v / 8 % 6 : Nat) : Int)] := by simp [lawKB, hr]
  have cO := fun (W : World) => hO W
  unfold lawK
  have hlt := pl_lt v
  generalize pl v = K at *
  rw [hKB] at cO ⊢
  have hr' : (K : Int).tmod 8 = 2 := by
    have h : (K : Int).tmod 8 = ((K % 8 : Nat) : Int) := rfl
    rw [h, hr]; rfl
  have q1 : (K : Int).tdiv 8 = ((K / 8 : Nat) : Int) := rfl
  have m1 : ((K / 8 : Nat) : Int).tmod 6 = ((K / 8 % 6 : Nat) : Int) := rfl
  have b1 : K / 8 % 6 < 6 := Nat.mod_lt _ (by decide)
  clear hO hKB hr
  generalize K / 8 % 6 = y1 at *
  have u1 : (97 + (y1 : Int)) % 256 = 97 + (y1 : Int) := by omega
  have g1 : K / 8 < 1099511627776 := by omega
  generalize K / 8 = x1 at *
  obtain ⟨Z, hZ, hZO, hZF⟩ : ∃ Z, w.alloc (.cells #[.int .i64 0, .int .u8 0, .int .u8 0, .int .u8 0, .int .u8 0, .int .u8 0, .int .u8 0, .int .u8 0, .int .u8 0] 112) = Z ∧ Arr Z w.heap.size 112 (kc zeroK).toArray ∧ Fr w Z := ⟨_, rfl, Arr.new w _ _, fr_new (fr_refl w) _⟩
  have hZZ := fr_refl Z
  have hcv := fun (W : World) => bytes_text (W := W.alloc (.cells #[.int .u8 (97 + (y1 : Int))] 5)) (g := W.heap.size) (n := 1) (c := 1) (zs := [97 + (y1 : Int)]) rfl (Arr.new W _ _)
  generalize strOfNums [97 + (y1 : Int)] = T at *
  generalize ofS T = k at *
  go_enter Tryz.func79, Tryz.ntmps79
  go_wp2_with (first
    | (go_at_call 24; refine (cP Z _ hZZ).mono ?_; rintro e w1 ⟨rfl, hz1⟩
       have hOw := (hZO.below hz1 hZO.lt).alloc (.cells #[.int .u8 (97 + (y1 : Int))] 5)
       have hFw := fr_new (fr_step hZF hz1) (.cells #[.int .u8 (97 + (y1 : Int))] 5))
    | (go_at_call 93; refine (cO _).mono ?_; rintro e w2 ⟨rfl, hz2⟩
       have hZ2 : Arr w2 w.heap.size 112 (kc zeroK).toArray := hOw.below hz2 hOw.lt
       have hF2 := fr_step hFw hz2
       clear hOw hFw)
    | (refine wpList_store_at (ds := kc k) key_info rfl (.tmp 5) (.tmp 90) rfl w2.heap.size 0 rfl rfl (kc_len k) (kc_one _) (Arr.new w2 (kc zeroK).toArray 112) (by rw [kc_len]; decide) (splice_all _ _ (by rw [kc_len, kc_len]; decide)) ?_; intro X h3 hkx
       have h4 := hkx.other (hZ2.alloc _) (by have := hZ2.lt; omega)
       have hF3 := hkx.fr (fr_new hF2 _) hF2.size
       clear hkx hZ2 hF2)
    | (refine wpList_load_sty keyS rfl (.tmp 5) rfl w2.heap.size rfl (kc_len k) h3 ?_)
    | (refine wpList_store_at (ds := kc k) key_info rfl (.tmp 2) (.tmp 92) rfl w.heap.size 0 rfl rfl (kc_len k) (kc_one _) h4 (by rw [kc_len]; decide) (splice_all _ _ (by rw [kc_len, kc_len]; decide)) ?_; intro W5 hO5 hk5; have hF5 := hk5.fr hF3 (by omega); clear hk5)
    | fail)
  exact bodyPost_ret (keyS.result rfl _ w.heap.size rfl (kc_len k) hO5) rfl ⟨rfl, hF5⟩
set_option maxRecDepth 100000 in
set_option maxHeartbeats 4000000 in
theorem law_key_3 (v : Int) (hv : Is64 v) (hr : pl v % 8 = 3) (w : World) : Calls Tryz.prog 79 #[.int .i64 v] w fun e w' => e = .returned (kv (lawK v)) ∧ Fr w w' := by
  have cP := fun W0 W h => law_pl (W0 := W0) (W := W) hv h
  have hO := ref_of_fits _ (lawK_size (pl v))
  have hKB : lawKB (pl v) = [97 + ((pl v / 8 % 5 : Nat) : Int), 97 + ((pl v / 40 % 4 : Nat) : Int)] := by simp [lawKB, hr]
  have cO := fun (W : World) => hO W
  unfold lawK
  have hlt := pl_lt v
  generalize pl v = K at *
  rw [hKB] at cO ⊢
  have hr' : (K : Int).tmod 8 = 3 := by
    have h : (K : Int).tmod 8 = ((K % 8 : Nat) : Int) := rfl
    rw [h, hr]; rfl
  have q1 : (K : Int).tdiv 8 = ((K / 8 : Nat) : Int) := rfl
  have m1 : ((K / 8 : Nat) : Int).tmod 5 = ((K / 8 % 5 : Nat) : Int) := rfl
  have b1 : K / 8 % 5 < 5 := Nat.mod_lt _ (by decide)
  have q2 : (K : Int).tdiv 40 = ((K / 40 : Nat) : Int) := rfl
  have m2 : ((K / 40 : Nat) : Int).tmod 4 = ((K / 40 % 4 : Nat) : Int) := rfl
  have b2 : K / 40 % 4 < 4 := Nat.mod_lt _ (by decide)
  clear hO hKB hr
  generalize K / 8 % 5 = y1 at *
  have u1 : (97 + (y1 : Int)) % 256 = 97 + (y1 : Int) := by omega
  generalize K / 40 % 4 = y2 at *
  have u2 : (97 + (y2 : Int)) % 256 = 97 + (y2 : Int) := by omega
  have g1 : K / 8 < 1099511627776 := by omega
  generalize K / 8 = x1 at *
  have g2 : K / 40 < 1099511627776 := by omega
  generalize K / 40 = x2 at *
  obtain ⟨Z, hZ, hZO, hZF⟩ : ∃ Z, w.alloc (.cells #[.int .i64 0, .int .u8 0, .int .u8 0, .int .u8 0, .int .u8 0, .int .u8 0, .int .u8 0, .int .u8 0, .int .u8 0] 112) = Z ∧ Arr Z w.heap.size 112 (kc zeroK).toArray ∧ Fr w Z := ⟨_, rfl, Arr.new w _ _, fr_new (fr_refl w) _⟩
  have hZZ := fr_refl Z
  have hcv := fun (W : World) => bytes_text (W := W.alloc (.cells #[.int .u8 (97 + (y1 : Int)), .int .u8 (97 + (y2 : Int))] 5)) (g := W.heap.size) (n := 2) (c := 2) (zs := [97 + (y1 : Int), 97 + (y2 : Int)]) rfl (Arr.new W _ _)
  generalize strOfNums [97 + (y1 : Int), 97 + (y2 : Int)] = T at *
  generalize ofS T = k at *
  go_enter Tryz.func79, Tryz.ntmps79
  go_wp2_with (first
    | (go_at_call 24; refine (cP Z _ hZZ).mono ?_; rintro e w1 ⟨rfl, hz1⟩
       have hOw := (hZO.below hz1 hZO.lt).alloc (.cells #[.int .u8 (97 + (y1 : Int)), .int .u8 (97 + (y2 : Int))] 5)
       have hFw := fr_new (fr_step hZF hz1) (.cells #[.int .u8 (97 + (y1 : Int)), .int .u8 (97 + (y2 : Int))] 5))
    | (go_at_call 93; refine (cO _).mono ?_; rintro e w2 ⟨rfl, hz2⟩
       have hZ2 : Arr w2 w.heap.size 112 (kc zeroK).toArray := hOw.below hz2 hOw.lt
       have hF2 := fr_step hFw hz2
       clear hOw hFw)
    | (refine wpList_store_at (ds := kc k) key_info rfl (.tmp 5) (.tmp 90) rfl w2.heap.size 0 rfl rfl (kc_len k) (kc_one _) (Arr.new w2 (kc zeroK).toArray 112) (by rw [kc_len]; decide) (splice_all _ _ (by rw [kc_len, kc_len]; decide)) ?_; intro X h3 hkx
       have h4 := hkx.other (hZ2.alloc _) (by have := hZ2.lt; omega)
       have hF3 := hkx.fr (fr_new hF2 _) hF2.size
       clear hkx hZ2 hF2)
    | (refine wpList_load_sty keyS rfl (.tmp 5) rfl w2.heap.size rfl (kc_len k) h3 ?_)
    | (refine wpList_store_at (ds := kc k) key_info rfl (.tmp 2) (.tmp 92) rfl w.heap.size 0 rfl rfl (kc_len k) (kc_one _) h4 (by rw [kc_len]; decide) (splice_all _ _ (by rw [kc_len, kc_len]; decide)) ?_; intro W5 hO5 hk5; have hF5 := hk5.fr hF3 (by omega); clear hk5)
    | fail)
  exact bodyPost_ret (keyS.result rfl _ w.heap.size rfl (kc_len k) hO5) rfl ⟨rfl, hF5⟩
set_option maxRecDepth 100000 in
set_option maxHeartbeats 4000000 in
theorem law_key_4 (v : Int) (hv : Is64 v) (hr : pl v % 8 = 4) (w : World) : Calls Tryz.prog 79 #[.int .i64 v] w fun e w' => e = .returned (kv (lawK v)) ∧ Fr w w' := by
  have cP := fun W0 W h => law_pl (W0 := W0) (W := W) hv h
  have hO := ref_of_fits _ (lawK_size (pl v))
  have hKB : lawKB (pl v) = [97 + ((pl v / 8 % 5 : Nat) : Int), 97 + ((pl v / 40 % 4 : Nat) : Int)] := by simp [lawKB, hr]
  have cO := fun (W : World) => hO W
  unfold lawK
  have hlt := pl_lt v
  generalize pl v = K at *
  rw [hKB] at cO ⊢
  have hr' : (K : Int).tmod 8 = 4 := by
    have h : (K : Int).tmod 8 = ((K % 8 : Nat) : Int) := rfl
    rw [h, hr]; rfl
  have q1 : (K : Int).tdiv 8 = ((K / 8 : Nat) : Int) := rfl
  have m1 : ((K / 8 : Nat) : Int).tmod 5 = ((K / 8 % 5 : Nat) : Int) := rfl
  have b1 : K / 8 % 5 < 5 := Nat.mod_lt _ (by decide)
  have q2 : (K : Int).tdiv 40 = ((K / 40 : Nat) : Int) := rfl
  have m2 : ((K / 40 : Nat) : Int).tmod 4 = ((K / 40 % 4 : Nat) : Int) := rfl
  have b2 : K / 40 % 4 < 4 := Nat.mod_lt _ (by decide)
  clear hO hKB hr
  generalize K / 8 % 5 = y1 at *
  have u1 : (97 + (y1 : Int)) % 256 = 97 + (y1 : Int) := by omega
  generalize K / 40 % 4 = y2 at *
  have u2 : (97 + (y2 : Int)) % 256 = 97 + (y2 : Int) := by omega
  have g1 : K / 8 < 1099511627776 := by omega
  generalize K / 8 = x1 at *
  have g2 : K / 40 < 1099511627776 := by omega
  generalize K / 40 = x2 at *
  obtain ⟨Z, hZ, hZO, hZF⟩ : ∃ Z, w.alloc (.cells #[.int .i64 0, .int .u8 0, .int .u8 0, .int .u8 0, .int .u8 0, .int .u8 0, .int .u8 0, .int .u8 0, .int .u8 0] 112) = Z ∧ Arr Z w.heap.size 112 (kc zeroK).toArray ∧ Fr w Z := ⟨_, rfl, Arr.new w _ _, fr_new (fr_refl w) _⟩
  have hZZ := fr_refl Z
  have hcv := fun (W : World) => bytes_text (W := W.alloc (.cells #[.int .u8 (97 + (y1 : Int)), .int .u8 (97 + (y2 : Int))] 5)) (g := W.heap.size) (n := 2) (c := 2) (zs := [97 + (y1 : Int), 97 + (y2 : Int)]) rfl (Arr.new W _ _)
  generalize strOfNums [97 + (y1 : Int), 97 + (y2 : Int)] = T at *
  generalize ofS T = k at *
  go_enter Tryz.func79, Tryz.ntmps79
  go_wp2_with (first
    | (go_at_call 24; refine (cP Z _ hZZ).mono ?_; rintro e w1 ⟨rfl, hz1⟩
       have hOw := (hZO.below hz1 hZO.lt).alloc (.cells #[.int .u8 (97 + (y1 : Int)), .int .u8 (97 + (y2 : Int))] 5)
       have hFw := fr_new (fr_step hZF hz1) (.cells #[.int .u8 (97 + (y1 : Int)), .int .u8 (97 + (y2 : Int))] 5))
    | (go_at_call 93; refine (cO _).mono ?_; rintro e w2 ⟨rfl, hz2⟩
       have hZ2 : Arr w2 w.heap.size 112 (kc zeroK).toArray := hOw.below hz2 hOw.lt
       have hF2 := fr_step hFw hz2
       clear hOw hFw)
    | (refine wpList_store_at (ds := kc k) key_info rfl (.tmp 5) (.tmp 90) rfl w2.heap.size 0 rfl rfl (kc_len k) (kc_one _) (Arr.new w2 (kc zeroK).toArray 112) (by rw [kc_len]; decide) (splice_all _ _ (by rw [kc_len, kc_len]; decide)) ?_; intro X h3 hkx
       have h4 := hkx.other (hZ2.alloc _) (by have := hZ2.lt; omega)
       have hF3 := hkx.fr (fr_new hF2 _) hF2.size
       clear hkx hZ2 hF2)
    | (refine wpList_load_sty keyS rfl (.tmp 5) rfl w2.heap.size rfl (kc_len k) h3 ?_)
    | (refine wpList_store_at (ds := kc k) key_info rfl (.tmp 2) (.tmp 92) rfl w.heap.size 0 rfl rfl (kc_len k) (kc_one _) h4 (by rw [kc_len]; decide) (splice_all _ _ (by rw [kc_len, kc_len]; decide)) ?_; intro W5 hO5 hk5; have hF5 := hk5.fr hF3 (by omega); clear hk5)
    | fail)
  exact bodyPost_ret (keyS.result rfl _ w.heap.size rfl (kc_len k) hO5) rfl ⟨rfl, hF5⟩
set_option maxRecDepth 100000 in
set_option maxHeartbeats 4000000 in
theorem law_key_5 (v : Int) (hv : Is64 v) (hr : pl v % 8 = 5) (w : World) : Calls Tryz.prog 79 #[.int .i64 v] w fun e w' => e = .returned (kv (lawK v)) ∧ Fr w w' := by
  have cP := fun W0 W h => law_pl (W0 := W0) (W := W) hv h
  have hO := ref_of_fits _ (lawK_size (pl v))
  have hKB : lawKB (pl v) = [97 + ((pl v / 8 % 4 : Nat) : Int), 0, ((pl v / 32 % 256 : Nat) : Int), ((pl v / 8192 % 4 : Nat) : Int), 255, 120, 121, 97 + ((pl v / 32768 % 3 : Nat) : Int)] := by simp [lawKB, hr]
  have cO := fun (W : World) => hO W
  unfold lawK
  have hlt := pl_lt v
  generalize pl v = K at *
  rw [hKB] at cO ⊢
  have hr' : (K : Int).tmod 8 = 5 := by
    have h : (K : Int).tmod 8 = ((K % 8 : Nat) : Int) := rfl
    rw [h, hr]; rfl
  have q1 : (K : Int).tdiv 8 = ((K / 8 : Nat) : Int) := rfl
  have m1 : ((K / 8 : Nat) : Int).tmod 4 = ((K / 8 % 4 : Nat) : Int) := rfl
  have b1 : K / 8 % 4 < 4 := Nat.mod_lt _ (by decide)
  have q2 : (K : Int).tdiv 32 = ((K / 32 : Nat) : Int) := rfl
  have m2 : ((K / 32 : Nat) : Int).tmod 256 = ((K / 32 % 256 : Nat) : Int) := rfl
  have b2 : K / 32 % 256 < 256 := Nat.mod_lt _ (by decide)
  have q3 : (K : Int).tdiv 8192 = ((K / 8192 : Nat) : Int) := rfl
  have m3 : ((K / 8192 : Nat) : Int).tmod 4 = ((K / 8192 % 4 : Nat) : Int) := rfl
  have b3 : K / 8192 % 4 < 4 := Nat.mod_lt _ (by decide)
  have q4 : (K : Int).tdiv 32768 = ((K / 32768 : Nat) : Int) := rfl
  have m4 : ((K / 32768 : Nat) : Int).tmod 3 = ((K / 32768 % 3 : Nat) : Int) := rfl
  have b4 : K / 32768 % 3 < 3 := Nat.mod_lt _ (by decide)
  clear hO hKB hr
  generalize K / 8 % 4 = y1 at *
  have u1 : (97 + (y1 : Int)) % 256 = 97 + (y1 : Int) := by omega
  generalize K / 32 % 256 = y2 at *
  have u2 : ((y2 : Int)) % 256 = (y2 : Int) := by omega
  generalize K / 8192 % 4 = y3 at *
  have u3 : ((y3 : Int)) % 256 = (y3 : Int) := by omega
  generalize K / 32768 % 3 = y4 at *
  have u4 : (97 + (y4 : Int)) % 256 = 97 + (y4 : Int) := by omega
  have g1 : K / 8 < 1099511627776 := by omega
  generalize K / 8 = x1 at *
  have g2 : K / 32 < 1099511627776 := by omega
  generalize K / 32 = x2 at *
  have g3 : K / 8192 < 1099511627776 := by omega
  generalize K / 8192 = x3 at *
  have g4 : K / 32768 < 1099511627776 := by omega
  generalize K / 32768 = x4 at *
  obtain ⟨Z, hZ, hZO, hZF⟩ : ∃ Z, w.alloc (.cells #[.int .i64 0, .int .u8 0, .int .u8 0, .int .u8 0, .int .u8 0, .int .u8 0, .int .u8 0, .int .u8 0, .int .u8 0] 112) = Z ∧ Arr Z w.heap.size 112 (kc zeroK).toArray ∧ Fr w Z := ⟨_, rfl, Arr.new w _ _, fr_new (fr_refl w) _⟩
  have hZZ := fr_refl Z
  have hcv := fun (W : World) => bytes_text (W := W.alloc (.cells #[.int .u8 (97 + (y1 : Int)), .int .u8 0, .int .u8 ((y2 : Int)), .int .u8 ((y3 : Int)), .int .u8 255, .int .u8 120, .int .u8 121, .int .u8 (97 + (y4 : Int))] 5)) (g := W.heap.size) (n := 8) (c := 8) (zs := [97 + (y1 : Int), 0, (y2 : Int), (y3 : Int), 255, 120, 121, 97 + (y4 : Int)]) rfl (Arr.new W _ _)
  generalize strOfNums [97 + (y1 : Int), 0, (y2 : Int), (y3 : Int), 255, 120, 121, 97 + (y4 : Int)] = T at *
  generalize ofS T = k at *
  go_enter Tryz.func79, Tryz.ntmps79
  go_wp2_with (first
    | (go_at_call 24; refine (cP Z _ hZZ).mono ?_; rintro e w1 ⟨rfl, hz1⟩
       have hOw := (hZO.below hz1 hZO.lt).alloc (.cells #[.int .u8 (97 + (y1 : Int)), .int .u8 0, .int .u8 ((y2 : Int)), .int .u8 ((y3 : Int)), .int .u8 255, .int .u8 120, .int .u8 121, .int .u8 (97 + (y4 : Int))] 5)
       have hFw := fr_new (fr_step hZF hz1) (.cells #[.int .u8 (97 + (y1 : Int)), .int .u8 0, .int .u8 ((y2 : Int)), .int .u8 ((y3 : Int)), .int .u8 255, .int .u8 120, .int .u8 121, .int .u8 (97 + (y4 : Int))] 5))
    | (go_at_call 93; refine (cO _).mono ?_; rintro e w2 ⟨rfl, hz2⟩
       have hZ2 : Arr w2 w.heap.size 112 (kc zeroK).toArray := hOw.below hz2 hOw.lt
       have hF2 := fr_step hFw hz2
       clear hOw hFw)
    | (refine wpList_store_at (ds := kc k) key_info rfl (.tmp 5) (.tmp 90) rfl w2.heap.size 0 rfl rfl (kc_len k) (kc_one _) (Arr.new w2 (kc zeroK).toArray 112) (by rw [kc_len]; decide) (splice_all _ _ (by rw [kc_len, kc_len]; decide)) ?_; intro X h3 hkx
       have h4 := hkx.other (hZ2.alloc _) (by have := hZ2.lt; omega)
       have hF3 := hkx.fr (fr_new hF2 _) hF2.size
       clear hkx hZ2 hF2)
    | (refine wpList_load_sty keyS rfl (.tmp 5) rfl w2.heap.size rfl (kc_len k) h3 ?_)
    | (refine wpList_store_at (ds := kc k) key_info rfl (.tmp 2) (.tmp 92) rfl w.heap.size 0 rfl rfl (kc_len k) (kc_one _) h4 (by rw [kc_len]; decide) (splice_all _ _ (by rw [kc_len, kc_len]; decide)) ?_; intro W5 hO5 hk5; have hF5 := hk5.fr hF3 (by omega); clear hk5)
    | fail)
  exact bodyPost_ret (keyS.result rfl _ w.heap.size rfl (kc_len k) hO5) rfl ⟨rfl, hF5⟩
set_option maxRecDepth 100000 in
set_option maxHeartbeats 4000000 in
theorem law_key_6 (v : Int) (hv : Is64 v) (hr : pl v % 8 = 6) (w : World) : Calls Tryz.prog 79 #[.int .i64 v] w fun e w' => e = .returned (kv (lawK v)) ∧ Fr w w' := by
  have cP := fun W0 W h => law_pl (W0 := W0) (W := W) hv h
  have hO := ref_of_fits _ (lawK_size (pl v))
  have hKB : lawKB (pl v) = [98 + ((pl v / 8 % 3 : Nat) : Int), 108, 111, 110, 103, 101, 114, 48 + ((pl v / 24 % 9 : Nat) : Int)] := by simp [lawKB, hr]
  have cO := fun (W : World) => hO W
  unfold lawK
  have hlt := pl_lt v
  generalize pl v = K at *
  rw [hKB] at cO ⊢
  have hr' : (K : Int).tmod 8 = 6 := by
    have h : (K : Int).tmod 8 = ((K % 8 : Nat) : Int) := rfl
    rw [h, hr]; rfl
  have q1 : (K : Int).tdiv 8 = ((K / 8 : Nat) : Int) := rfl
  have m1 : ((K / 8 : Nat) : Int).tmod 3 = ((K / 8 % 3 : Nat) : Int) := rfl
  have b1 : K / 8 % 3 < 3 := Nat.mod_lt _ (by decide)
  have q2 : (K : Int).tdiv 24 = ((K / 24 : Nat) : Int) := rfl
  have m2 : ((K / 24 : Nat) : Int).tmod 9 = ((K / 24 % 9 : Nat) : Int) := rfl
  have b2 : K / 24 % 9 < 9 := Nat.mod_lt _ (by decide)
  clear hO hKB hr
  generalize K / 8 % 3 = y1 at *
  have u1 : (98 + (y1 : Int)) % 256 = 98 + (y1 : Int) := by omega
  generalize K / 24 % 9 = y2 at *
  have u2 : (48 + (y2 : Int)) % 256 = 48 + (y2 : Int) := by omega
  have g1 : K / 8 < 1099511627776 := by omega
  generalize K / 8 = x1 at *
  have g2 : K / 24 < 1099511627776 := by omega
  generalize K / 24 = x2 at *
  obtain ⟨Z, hZ, hZO, hZF⟩ : ∃ Z, w.alloc (.cells #[.int .i64 0, .int .u8 0, .int .u8 0, .int .u8 0, .int .u8 0, .int .u8 0, .int .u8 0, .int .u8 0, .int .u8 0] 112) = Z ∧ Arr Z w.heap.size 112 (kc zeroK).toArray ∧ Fr w Z := ⟨_, rfl, Arr.new w _ _, fr_new (fr_refl w) _⟩
  have hZZ := fr_refl Z
  have hcv := fun (W : World) => bytes_text (W := W.alloc (.cells #[.int .u8 (98 + (y1 : Int)), .int .u8 108, .int .u8 111, .int .u8 110, .int .u8 103, .int .u8 101, .int .u8 114, .int .u8 (48 + (y2 : Int))] 5)) (g := W.heap.size) (n := 8) (c := 8) (zs := [98 + (y1 : Int), 108, 111, 110, 103, 101, 114, 48 + (y2 : Int)]) rfl (Arr.new W _ _)
  generalize strOfNums [98 + (y1 : Int), 108, 111, 110, 103, 101, 114, 48 + (y2 : Int)] = T at *
  generalize ofS T = k at *
  go_enter Tryz.func79, Tryz.ntmps79
  go_wp2_with (first
    | (go_at_call 24; refine (cP Z _ hZZ).mono ?_; rintro e w1 ⟨rfl, hz1⟩
       have hOw := (hZO.below hz1 hZO.lt).alloc (.cells #[.int .u8 (98 + (y1 : Int)), .int .u8 108, .int .u8 111, .int .u8 110, .int .u8 103, .int .u8 101, .int .u8 114, .int .u8 (48 + (y2 : Int))] 5)
       have hFw := fr_new (fr_step hZF hz1) (.cells #[.int .u8 (98 + (y1 : Int)), .int .u8 108, .int .u8 111, .int .u8 110, .int .u8 103, .int .u8 101, .int .u8 114, .int .u8 (48 + (y2 : Int))] 5))
    | (go_at_call 93; refine (cO _).mono ?_; rintro e w2 ⟨rfl, hz2⟩
       have hZ2 : Arr w2 w.heap.size 112 (kc zeroK).toArray := hOw.below hz2 hOw.lt
       have hF2 := fr_step hFw hz2
       clear hOw hFw)
    | (refine wpList_store_at (ds := kc k) key_info rfl (.tmp 5) (.tmp 90) rfl w2.heap.size 0 rfl rfl (kc_len k) (kc_one _) (Arr.new w2 (kc zeroK).toArray 112) (by rw [kc_len]; decide) (splice_all _ _ (by rw [kc_len, kc_len]; decide)) ?_; intro X h3 hkx
       have h4 := hkx.other (hZ2.alloc _) (by have := hZ2.lt; omega)
       have hF3 := hkx.fr (fr_new hF2 _) hF2.size
       clear hkx hZ2 hF2)
    | (refine wpList_load_sty keyS rfl (.tmp 5) rfl w2.heap.size rfl (kc_len k) h3 ?_)
    | (refine wpList_store_at (ds := kc k) key_info rfl (.tmp 2) (.tmp 92) rfl w.heap.size 0 rfl rfl (kc_len k) (kc_one _) h4 (by rw [kc_len]; decide) (splice_all _ _ (by rw [kc_len, kc_len]; decide)) ?_; intro W5 hO5 hk5; have hF5 := hk5.fr hF3 (by omega); clear hk5)
    | fail)
  exact bodyPost_ret (keyS.result rfl _ w.heap.size rfl (kc_len k) hO5) rfl ⟨rfl, hF5⟩
end Go.Proofs.YtmoaddbpfekdbaaGreat
/- What the functions of the laws' package 00 come to: a key (the last case), a value. -/
namespace Go.Proofs.YtmoaddbpfekdbaaGreat
set_option maxRecDepth 100000
open Go.RowKit
set_option linter.unusedVariables false
attribute [local go_sem ↓] val_ld key_ld msg_ld
set_option maxRecDepth 100000 in
set_option maxHeartbeats 4000000 in
theorem law_key_7 (v : Int) (hv : Is64 v) (hr : pl v % 8 = 7) (w : World) : Calls Tryz.prog 79 #[.int .i64 v] w fun e w' => e = .returned (kv (lawK v)) ∧ Fr w w' := by
  have cP := fun W0 W h => law_pl (W0 := W0) (W := W) hv h
  have hO := ref_of_fits _ (lawK_size (pl v))
  have hKB : lawKB (pl v) = [((pl v / 8 % 256 : Nat) : Int), ((pl v / 2048 % 256 : Nat) : Int)].take (pl v / 524288 % 3) := by simp [lawKB, hr]
  have cO := fun (W : World) => hO W
  unfold lawK
  have hlt := pl_lt v
  generalize pl v = K at *
  rw [hKB] at cO ⊢
  have hr' : (K : Int).tmod 8 = 7 := by
    have h : (K : Int).tmod 8 = ((K % 8 : Nat) : Int) := rfl
    rw [h, hr]; rfl
  have q1 : (K : Int).tdiv 8 = ((K / 8 : Nat) : Int) := rfl
  have m1 : ((K / 8 : Nat) : Int).tmod 256 = ((K / 8 % 256 : Nat) : Int) := rfl
  have b1 : K / 8 % 256 < 256 := Nat.mod_lt _ (by decide)
  have q2 : (K : Int).tdiv 2048 = ((K / 2048 : Nat) : Int) := rfl
  have m2 : ((K / 2048 : Nat) : Int).tmod 256 = ((K / 2048 % 256 : Nat) : Int) := rfl
  have b2 : K / 2048 % 256 < 256 := Nat.mod_lt _ (by decide)
  have q3 : (K : Int).tdiv 524288 = ((K / 524288 : Nat) : Int) := rfl
  have m3 : ((K / 524288 : Nat) : Int).tmod 3 = ((K / 524288 % 3 : Nat) : Int) := rfl
  have b3 : K / 524288 % 3 < 3 := Nat.mod_lt _ (by decide)
  clear hO hKB hr
  generalize K / 8 % 256 = y1 at *
  generalize K / 2048 % 256 = y2 at *
  generalize K / 524288 % 3 = y3 at *
  have u1 : (y1 : Int) % 256 = (y1 : Int) := by omega
  have u2 : (y2 : Int) % 256 = (y2 : Int) := by omega
  have g1 : K / 8 < 1099511627776 := by omega
  generalize K / 8 = x1 at *
  have g2 : K / 2048 < 1099511627776 := by omega
  generalize K / 2048 = x2 at *
  have g3 : K / 524288 < 1099511627776 := by omega
  generalize K / 524288 = x3 at *
  obtain ⟨Z, hZ, hZO, hZF⟩ : ∃ Z, w.alloc (.cells #[.int .i64 0, .int .u8 0, .int .u8 0, .int .u8 0, .int .u8 0, .int .u8 0, .int .u8 0, .int .u8 0, .int .u8 0] 112) = Z ∧ Arr Z w.heap.size 112 (kc zeroK).toArray ∧ Fr w Z := ⟨_, rfl, Arr.new w _ _, fr_new (fr_refl w) _⟩
  have hZZ := fr_refl Z
  have hcv := fun (W : World) => bytes_text (W := W.alloc (.cells #[.int .u8 (y1 : Int), .int .u8 (y2 : Int)] 5)) (g := W.heap.size) (n := 2) (c := 2) (zs := [(y1 : Int), (y2 : Int)]) rfl (Arr.new W _ _)
  have hsz : (strOfNums [(y1 : Int), (y2 : Int)]).size = 2 := by rw [str_size]; rfl
  have hsl : (strOfNums [(y1 : Int), (y2 : Int)]).extract 0 y3 = strOfNums ([(y1 : Int), (y2 : Int)].take y3) := by
    rcases y3 with _|_|_|y3
    · rfl
    · rfl
    · rfl
    · omega
  generalize strOfNums [(y1 : Int), (y2 : Int)] = T at *
  generalize strOfNums ([(y1 : Int), (y2 : Int)].take y3) = T2 at *
  generalize ofS T2 = k at *
  go_enter Tryz.func79, Tryz.ntmps79
  go_wp2_with (first
    | (go_at_call 24; refine (cP Z _ hZZ).mono ?_; rintro e w1 ⟨rfl, hz1⟩
       have hOw := (hZO.below hz1 hZO.lt).alloc (.cells #[.int .u8 (y1 : Int), .int .u8 (y2 : Int)] 5)
       have hFw := fr_new (fr_step hZF hz1) (.cells #[.int .u8 (y1 : Int), .int .u8 (y2 : Int)] 5))
    | (go_at_call 93; refine (cO _).mono ?_; rintro e w2 ⟨rfl, hz2⟩
       have hZ2 : Arr w2 w.heap.size 112 (kc zeroK).toArray := hOw.below hz2 hOw.lt
       have hF2 := fr_step hFw hz2
       clear hOw hFw)
    | (refine wpList_store_at (ds := kc k) key_info rfl (.tmp 5) (.tmp 90) rfl w2.heap.size 0 rfl rfl (kc_len k) (kc_one _) (Arr.new w2 (kc zeroK).toArray 112) (by rw [kc_len]; decide) (splice_all _ _ (by rw [kc_len, kc_len]; decide)) ?_; intro X h3 hkx
       have h4 := hkx.other (hZ2.alloc _) (by have := hZ2.lt; omega)
       have hF3 := hkx.fr (fr_new hF2 _) hF2.size
       clear hkx hZ2 hF2)
    | (refine wpList_load_sty keyS rfl (.tmp 5) rfl w2.heap.size rfl (kc_len k) h3 ?_)
    | (refine wpList_store_at (ds := kc k) key_info rfl (.tmp 2) (.tmp 92) rfl w.heap.size 0 rfl rfl (kc_len k) (kc_one _) h4 (by rw [kc_len]; decide) (splice_all _ _ (by rw [kc_len, kc_len]; decide)) ?_; intro W5 hO5 hk5; have hF5 := hk5.fr hF3 (by omega); clear hk5)
    | fail)
  exact bodyPost_ret (keyS.result rfl _ w.heap.size rfl (kc_len k) hO5) rfl ⟨rfl, hF5⟩
theorem law_key (v : Int) (hv : Is64 v) (w : World) : Calls Tryz.prog 79 #[.int .i64 v] w fun e w' => e = .returned (kv (lawK v)) ∧ Fr w w' := by
  rcases h : pl v % 8 with _|_|_|_|_|_|_|_|k
  · exact law_key_0 v hv h w
  · exact law_key_1 v hv h w
  · exact law_key_2 v hv h w
  · exact law_key_3 v hv h w
  · exact law_key_4 v hv h w
  · exact law_key_5 v hv h w
  · exact law_key_6 v hv h w
  · exact law_key_7 v hv h w
  · omega
theorem law_key_at {W0 W : World} {v : Int} (hv : Is64 v) (hb : Fr W0 W) : Calls Tryz.prog 79 #[.int .i64 v] W fun e w' => e = .returned (kv (lawK v)) ∧ Fr W0 w' := (law_key v hv W).mono fun _ _ ⟨he, hw⟩ => ⟨he, fr_step hb hw⟩
/-- The byte at a place of the value by a number. -/
def lawVb (K i : Nat) : Int := (((K / 17 + i * (K / 4352)) % 256 : Nat) : Int)
/-- The bytes of the value by a number. -/
def lawVB (K : Nat) : List Int := (List.range (K % 17)).map (lawVb K)
theorem lawVB_len (K : Nat) : (lawVB K).length = K % 17 := by simp [lawVB]
theorem lawV_size (K : Nat) : (strOfNums (lawVB K)).size ≤ 16 := by
  have : K % 17 < 17 := Nat.mod_lt _ (by decide)
  rw [str_size, lawVB_len]; omega
/-- The value by a number. -/
def lawV (v : Int) : RV := ofV (strOfNums (lawVB (pl v)))
theorem lawV_wf (v : Int) : (lawV v).wf := ofV_wf (lawV_size _)
theorem lawV_ok (v : Int) : okV (lawV v) = true := ofV_ok (lawV_size _)
/-- The first j bytes laid. -/
def lawVj (K n j : Nat) : List Int := (List.range j).map (lawVb K) ++ List.replicate (n - j) 0
theorem lawVj_len (K n j : Nat) (h : j ≤ n) : (lawVj K n j).length = n := by simp [lawVj]; omega
theorem lawVj_set (K n j : Nat) (h : j < n) : (u8s (lawVj K n j)).toArray.setIfInBounds j (.int .u8 (lawVb K j)) = (u8s (lawVj K n (j + 1))).toArray := by
  apply Array.ext'
  rw [Array.toList_setIfInBounds]
  show (u8s (lawVj K n j)).set j (.int .u8 (lawVb K j)) = u8s (lawVj K n (j + 1))
  unfold u8s lawVj
  rw [← List.map_set, List.range_succ]
  congr 1
  obtain ⟨d, hd⟩ : ∃ d, n - j = d + 1 := ⟨n - j - 1, by omega⟩
  rw [hd, List.replicate_succ, List.set_append_right _ _ (by simp), show n - (j + 1) = d by omega]
  simp
theorem lawVj_zero (K n : Nat) : (u8s (lawVj K n 0)).toArray = Array.replicate n (.int .u8 0) := by
  apply Array.ext'
  simp [lawVj, u8s]
theorem lawVj_end (n K : Nat) (h : n = K % 17) : lawVj K n n = lawVB K := by simp [lawVj, lawVB, h]
theorem u8_row : ∃ i, Tryz.prog.info? 5 = some i ∧ i.zero = some (.int .u8 0) ∧ i.size = 1 ∧ i.bytes = 1 := by
  have e1 : (Tryz.prog.info? 5).bind (·.zero) = some (.int .u8 0) := by kernel_rfl
  have e2 : (Tryz.prog.info? 5).map (·.size) = some 1 := by kernel_rfl
  have e3 : (Tryz.prog.info? 5).map (·.bytes) = some 1 := by kernel_rfl
  cases h : Tryz.prog.info? 5 with
  | none => rw [h] at e2; cases e2
  | some i =>
    rw [h] at e1 e2 e3
    exact ⟨i, rfl, by simpa using e1, by simpa using e2, by simpa using e3⟩
theorem make_bytes (n : Nat) (hn : n ≤ 1048576) (W : World) : (Instr.makeSlice 144 (.int .i64 (n : Int)) (.int .i64 (n : Int))).run Tryz.prog W = .ok (.slice (some ⟨W.heap.size, 0, none⟩) n n) (W.alloc (.cells (Array.replicate n (.int .u8 0)) 5)) := by
  obtain ⟨i, hi, hz, hs, hb⟩ := u8_row
  have h := run_make (P := Tryz.prog) W 144 5 i _ Tryz.underlying144 hi hz .i64 .i64 n n (by omega) (Int.le_refl _) (by rw [hb]; omega) (by omega)
  rw [h, hs]
  congr 3
  apply Array.ext'
  simp [madeCells, Value.cells]
  apply List.ext_getElem (by simp)
  intro j h1 h2
  simp [Nat.mod_one]
set_option maxRecDepth 100000 in
set_option maxHeartbeats 4000000 in
theorem law_value (v : Int) (hv : Is64 v) (w : World) : Calls Tryz.prog 80 #[.int .i64 v] w fun e w' => e = .returned (vv (lawV v)) ∧ Fr w w' := by
  have cP := fun W0 W h => law_pl (W0 := W0) (W := W) hv h
  have cO := fun (W : World) => ref_vof_fits _ (lawV_size (pl v)) W
  have Hlv := keep (vc_len (lawV_wf v).hl)
  unfold lawV at Hlv ⊢
  have hlt := pl_lt v
  generalize pl v = K at *
  have m1 : (K : Int).tmod 17 = ((K % 17 : Nat) : Int) := rfl
  have b1 : K % 17 < 17 := Nat.mod_lt _ (by decide)
  have hend := fun n => lawVj_end n K
  have hset := fun n j h => lawVj_set K n j h
  have hlen := fun n j h => lawVj_len K n j h
  have q1 : (K : Int).tdiv 17 = ((K / 17 : Nat) : Int) := rfl
  have q2 : (K : Int).tdiv 4352 = ((K / 4352 : Nat) : Int) := rfl
  have hb : ∀ j : Nat, lawVb K j = (((K / 17 + j * (K / 4352)) % 256 : Nat) : Int) := fun j => rfl
  have hn17 : ∀ n, n = K % 17 → K % 17 = n := fun n h => h.symm
  have Hend := keep (hend _ rfl)
  have Hset := keep (hset (K % 17))
  have Hlen := keep (hlen (K % 17))
  clear hend hset hlen hn17
  have g1 : K / 17 < 1099511627776 := by omega
  have g2 : K / 4352 < 1099511627776 := by omega
  generalize K / 17 = x1 at *
  generalize K / 4352 = x2 at *
  generalize lawVB K = B at *
  generalize hN : K % 17 = n at *
  clear hN
  have hmk := make_bytes n (by omega)
  obtain ⟨Z, hZ, hZO, hZF⟩ : ∃ Z, w.alloc (.cells #[.int .i64 0, .int .u8 0, .int .u8 0, .int .u8 0, .int .u8 0, .int .u8 0, .int .u8 0, .int .u8 0, .int .u8 0, .int .u8 0, .int .u8 0, .int .u8 0, .int .u8 0, .int .u8 0, .int .u8 0, .int .u8 0, .int .u8 0] 115) = Z ∧ Arr Z w.heap.size 115 (vc zeroV).toArray ∧ Fr w Z := ⟨_, rfl, Arr.new w _ _, fr_new (fr_refl w) _⟩
  have hZZ := fr_refl Z
  have hcv := fun (W : World) (g : Nat) (ha : Arr W g 5 (u8s (lawVj K n n)).toArray) => bytes_text (c := n) (Hlen.out n (Nat.le_refl _)) ha
  rw [Hend.out] at hcv
  generalize strOfNums B = T at *
  generalize ofV T = k at *
  go_enter Tryz.func80, Tryz.ntmps80
  go_wp2_with (first
    | (go_at_call 24; refine (cP Z _ hZZ).mono ?_; rintro e w1 ⟨rfl, hz1⟩
       have hOw := (hZO.below hz1 hZO.lt).alloc (.cells (Array.replicate n (.int .u8 0)) 5)
       have hFw := fr_new (fr_step hZF hz1) (.cells (Array.replicate n (.int .u8 0)) 5)
       have hBw : Arr (w1.alloc (.cells (Array.replicate n (.int .u8 0)) 5)) w1.heap.size 5 (u8s (lawVj K n 0)).toArray := by rw [lawVj_zero]; exact Arr.new w1 _ _
       have hne : w.heap.size < w1.heap.size := by have := hZO.lt; have := hz1.size; omega)
    | fail)
  go_loopg [6] n (fun g i wr => ∃ j : Nat, j + g = n ∧ i = .int .i64 j ∧ Arr wr w1.heap.size 5 (u8s (lawVj K n j)).toArray ∧ Arr wr w.heap.size 115 (vc zeroV).toArray ∧ Fr w wr)
  case atStart => exact ⟨0, by omega, rfl, hBw, hOw, hFw⟩
  case round =>
    clear hBw hOw hFw
    obtain ⟨j, hj, rfl, h3, h4, hF⟩ := hrel
    have Hj := keep hj
    by_cases hlt : j < n
    · have hc : wr.cell? ⟨w1.heap.size, j, none⟩ = some (.int .u8 ((lawVj K n j).getD j 0)) := by
        have hl : (lawVj K n j).length = n := Hlen.out j (by omega)
        rw [h3.cell, List.getElem?_toArray]
        simp [u8s, List.getD, hl, hlt]
      have hf := h3.free j
      have hp : (j : Int) * (x2 : Int) = ((j * x2 : Nat) : Int) := (Int.natCast_mul j x2).symm
      have hpb : j * x2 < 20 * 1099511627776 := by
        have h1 : j * x2 ≤ j * 1099511627776 := Nat.mul_le_mul_left _ (by omega)
        have h2 : j * 1099511627776 ≤ 17 * 1099511627776 := Nat.mul_le_mul_right _ (by omega)
        omega
      have hv' := hb j
      generalize j * x2 = p at *
      have hw : ((x1 : Int) + (p : Int)) % 256 = lawVb K j := by rw [hv']; omega
      clear hb hv' hj
      go_wp2_with fail
      go_roundg (gk - 1)
      case measure => have := Hj.out; omega
      case rel => exact ⟨j + 1, by have := Hj.out; omega, by go_num, by rw [← Hset.out j hlt]; exact h3.set _ _, h4.other _ (by simp; omega) _, hF.setCell (by simp; omega) _⟩
    · obtain rfl : j = n := by omega
      have hcv' := hcv _ _ (by rw [← Hend.out]; exact h3)
      clear hb hj
      go_wp2_with (first
        | (go_at_call 94; refine (cO _).mono ?_; rintro e w2 ⟨rfl, hz2⟩
           have hO2 := h4.below hz2 h4.lt
           have hF2 := fr_step hF hz2)
        | (refine wpList_store_at (ds := vc k) val_info rfl (.tmp 7) (.tmp 35) rfl w2.heap.size 0 rfl rfl Hlv.out (vc_one _) (Arr.new w2 (vc zeroV).toArray 115) (by decide) (splice_all _ _ (by rw [Hlv.out]; decide)) ?_; intro X h5 hkx
           have h6 := hkx.other (hO2.alloc _) (by have := hO2.lt; omega)
           have hF3 := hkx.fr (fr_new hF2 _) hF2.size
           clear hkx hO2 hF2)
        | (refine wpList_load_sty valS rfl (.tmp 7) rfl w2.heap.size rfl Hlv.out h5 ?_)
        | (refine wpList_store_at (ds := vc k) val_info rfl (.tmp 2) (.tmp 37) rfl w.heap.size 0 rfl rfl Hlv.out (vc_one _) h6 (by decide) (splice_all _ _ (by rw [Hlv.out]; decide)) ?_; intro W5 hO5 hk5; have hF5 := hk5.fr hF3 (by omega); clear hk5)
        | fail)
      exact bodyPost_ret (valS.result rfl _ w.heap.size rfl Hlv.out hO5) rfl ⟨rfl, hF5⟩
theorem law_value_at {W0 W : World} {v : Int} (hv : Is64 v) (hb : Fr W0 W) : Calls Tryz.prog 80 #[.int .i64 v] W fun e w' => e = .returned (vv (lawV v)) ∧ Fr W0 w' := (law_value v hv W).mono fun _ _ ⟨he, hw⟩ => ⟨he, fr_step hb hw⟩
end Go.Proofs.YtmoaddbpfekdbaaGreat
/- What the functions of the laws' package 00 come to: a message by a number. -/
namespace Go.Proofs.YtmoaddbpfekdbaaGreat
set_option maxRecDepth 100000
open Go.RowKit
set_option linter.unusedVariables false
attribute [local go_sem ↓] val_ld key_ld msg_ld
/-- The message by a number, with another one. -/
def lawM (v s : Int) : RM :=
  ⟨1 + ((pl v % 3 : Nat) : Int), ((pl s : Nat) : Int), lawK ((pl v / 4 : Nat) : Int), if pl v % 3 = 0 then lawV ((pl v / 64 : Nat) : Int) else zeroV, if pl v % 3 = 2 then ((pl v / 1024 : Nat) : Int) * 65537 else 0⟩
end Go.Proofs.YtmoaddbpfekdbaaGreat
