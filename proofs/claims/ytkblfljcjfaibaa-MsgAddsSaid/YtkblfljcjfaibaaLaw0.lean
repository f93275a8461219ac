/- What the functions of the laws' package 00 come to: a place, a key, a value, a message by a number. -/
import Derived.Test.YtkblfljcjfaibaaMsgE
namespace Go.Proofs.Ytkblfljcjfaibaa
open Go.RowKit
set_option linter.unusedVariables false
attribute [local go_sem ↓] val_ld key_ld msg_ld
theorem u8_of (n : Int) : IntKind.u8.wrap n = n % 256 := by
  simp [IntKind.wrap, IntKind.min, IntKind.max, IntKind.signed, IntKind.bits]
theorem emod_of_tmod (v : Int) (n : Nat) : v % (n : Int) = (v.tmod n) % n := by
  conv => lhs; rw [← Int.mul_tdiv_add_tmod v n]
  exact Int.mul_add_emod_self_left _ _ _
set_option maxRecDepth 100000 in
set_option maxHeartbeats 1000000 in
theorem law_place (v : Int) (n : Nat) (hv : Is64 v) (hn : 0 < n) (hn2 : (n : Int) ≤ 1099511627776) (w : World) : Calls Try.prog 29 #[.int .i64 v, .int .i64 n] w fun e w' => e = .returned (.int .i64 (v % n)) ∧ Fr w w' := by
  have he := emod_of_tmod v n
  unfold Is64 at hv
  have hn0 : ((n : Int) == 0) = false := by simp; omega
  rcases tmod_cases v n (by omega) with ⟨k, e, h1, h2⟩ | ⟨k, e, h2⟩
  · rw [e] at he
    have hr : v % (n : Int) = -(k : Int) + n := by
      rw [he, ← Int.add_emod_right, Int.emod_eq_of_lt (by omega) (by omega)]
    rw [hr]
    clear he hr
    go_enter Try.func29, Try.ntmps29
    go_wp2_with fail
    go_ret
    exact ⟨rfl, fr_refl w⟩
  · rw [e, Int.emod_eq_of_lt (a := (k : Int)) (by omega) (by omega)] at he
    rw [he]
    clear he
    go_enter Try.func29, Try.ntmps29
    go_wp2_with fail
    go_ret
    exact ⟨rfl, fr_refl w⟩
/-- The place below 2 to the 40, as a natural number. -/
def pl (v : Int) : Nat := (v % 1099511627776).toNat
theorem pl_lt (v : Int) : pl v < 1099511627776 := by unfold pl; omega
theorem law_pl {W0 W : World} {v : Int} (hv : Is64 v) (hb : Fr W0 W) : Calls Try.prog 29 #[.int .i64 v, .int .i64 1099511627776] W fun e w' => e = .returned (.int .i64 (pl v : Nat)) ∧ Fr W0 w' :=
  (law_place v 1099511627776 hv (by decide) (by decide) W).mono fun _ _ ⟨he, hw⟩ => ⟨by rw [he]; exact ret_int (by unfold pl; omega), fr_step hb hw⟩
/-- The bytes of the key by a number. -/
def lawKB (K : Nat) : List Int :=
  if K % 8 ≤ 2 then [97 + ((K / 8 % 6 : Nat) : Int)]
  else if K % 8 ≤ 4 then [97 + ((K / 8 % 5 : Nat) : Int), 97 + ((K / 40 % 4 : Nat) : Int)]
  else if K % 8 = 5 then [97 + ((K / 8 % 4 : Nat) : Int), 0, ((K / 32 % 256 : Nat) : Int), ((K / 8192 % 4 : Nat) : Int), 255, 120, 121, 97 + ((K / 32768 % 3 : Nat) : Int)]
  else if K % 8 = 6 then [98 + ((K / 8 % 3 : Nat) : Int), 108, 111, 110, 103, 101, 114, 48 + ((K / 24 % 9 : Nat) : Int)]
  else [((K / 8 % 256 : Nat) : Int), ((K / 2048 % 256 : Nat) : Int)].take (K / 524288 % 3)
theorem lawKB_bytes (K : Nat) : Bytes (lawKB K) := by
  unfold lawKB
  intro z hz
  split at hz
  · simp at hz; omega
  · split at hz
    · simp at hz; omega
    · split at hz
      · simp at hz; omega
      · split at hz
        · simp at hz; omega
        · have hz := List.mem_of_mem_take hz
          simp at hz; omega
theorem lawKB_len (K : Nat) : (lawKB K).length ≤ 8 := by
  unfold lawKB
  split
  · simp
  · split
    · simp
    · split
      · simp
      · split
        · simp
        · simp; omega
/-- The key by a number. -/
def lawK (v : Int) : RK := ofS (strOfNums (lawKB (pl v)))
theorem lawK_size (K : Nat) : (strOfNums (lawKB K)).size ≤ 8 := by rw [str_size]; exact lawKB_len K
theorem lawK_wf (v : Int) : (lawK v).wf := ofS_wf _ (lawK_size _)
theorem lawK_ok (v : Int) : okB (lawK v) = true := ofS_ok _ (lawK_size _)
theorem lawK_n (v : Int) : (lawK v).n = ((lawKB (pl v)).length : Int) := by
  show ((strOfNums (lawKB (pl v))).size : Int) = _
  rw [str_size]
/-- A new row of bytes, as a text. -/
theorem bytes_text {W : World} {g n c : Nat} {zs : List Int} (hl : zs.length = n) (ha : Arr W g 5 (u8s zs).toArray) : (convert 52 9 (.slice (some ⟨g, 0, none⟩) n c)).run Try.prog W = .ok (.string (strOfNums zs)) W :=
  run_convert_bytes_arg W 52 5 Try.underlying52 Try.underlying5 g 0 n c zs hl (fun i hi => by
    rw [Nat.zero_add, ha.cell]
    have h : i < zs.length := by omega
    simp [u8s, h]) 9 Try.underlying9
theorem zeroK_cells : (kc zeroK).toArray = #[.int .i64 0, .int .u8 0, .int .u8 0, .int .u8 0, .int .u8 0, .int .u8 0, .int .u8 0, .int .u8 0, .int .u8 0] := rfl
set_option maxRecDepth 100000 in
set_option maxHeartbeats 4000000 in
theorem law_key_0 (v : Int) (hv : Is64 v) (hr : pl v % 8 = 0) (w : World) : Calls Try.prog 21 #[.int .i64 v] w fun e w' => e = .returned (kv (lawK v)) ∧ Fr w w' := by
  have cP := fun W0 W h => law_pl (W0 := W0) (W := W) hv h
  have hO := ref_of_fits _ (lawK_size (pl v))
  have hKB : lawKB (pl v) = [97 + ((pl v / 8 % 6 : Nat) : Int)] := by simp [lawKB, hr]
  have cO := fun (W : World) => hO W
  unfold lawK
  have hlt := pl_lt v
  generalize pl v = K at *
  rw [hKB] at cO ⊢
  have hr' : (K : Int).tmod 8 = 0 := by
    have h : (K : Int).tmod 8 = ((K % 8 : Nat) : Int) := rfl
    rw [h, hr]; rfl
  have q1 : (K : Int).tdiv 8 = ((K / 8 : Nat) : Int) := rfl
  have m1 : ((K / 8 : Nat) : Int).tmod 6 = ((K / 8 % 6 : Nat) : Int) := rfl
  have b1 : K / 8 % 6 < 6 := Nat.mod_lt _ (by decide)
  clear hO hKB hr
  generalize K / 8 % 6 = y1 at *
  have u1 : (97 + (y1 : Int)) % 256 = 97 + (y1 : Int) := by omega
  have g1 : K / 8 < 1099511627776 := by omega
  generalize K / 8 = x1 at *
  obtain ⟨Z, hZ, hZO, hZF⟩ : ∃ Z, w.alloc (.cells #[.int .i64 0, .int .u8 0, .int .u8 0, .int .u8 0, .int .u8 0, .int .u8 0, .int .u8 0, .int .u8 0, .int .u8 0] 25) = Z ∧ Arr Z w.heap.size 25 (kc zeroK).toArray ∧ Fr w Z := ⟨_, rfl, Arr.new w _ _, fr_new (fr_refl w) _⟩
  have hZZ := fr_refl Z
  have hcv := fun (W : World) => bytes_text (W := W.alloc (.cells #[.int .u8 (97 + (y1 : Int))] 5)) (g := W.heap.size) (n := 1) (c := 1) (zs := [97 + (y1 : Int)]) rfl (Arr.new W _ _)
  generalize strOfNums [97 + (y1 : Int)] = T at *
  generalize ofS T = k at *
  go_enter Try.func21, Try.ntmps21
  go_wp2_with (first
    | (go_at_call 29; refine (cP Z _ hZZ).mono ?_; rintro e w1 ⟨rfl, hz1⟩
       have hOw := (hZO.below hz1 hZO.lt).alloc (.cells #[.int .u8 (97 + (y1 : Int))] 5)
       have hFw := fr_new (fr_step hZF hz1) (.cells #[.int .u8 (97 + (y1 : Int))] 5))
    | (go_at_call 31; refine (cO _).mono ?_; rintro e w2 ⟨rfl, hz2⟩
       have hZ2 : Arr w2 w.heap.size 25 (kc zeroK).toArray := hOw.below hz2 hOw.lt
       have hF2 := fr_step hFw hz2
       clear hOw hFw)
    | (refine wpList_store_at (ds := kc k) key_info rfl (.tmp 5) (.tmp 90) rfl w2.heap.size 0 rfl rfl (kc_len k) (kc_one _) (Arr.new w2 (kc zeroK).toArray 25) (by rw [kc_len]; decide) (splice_all _ _ (by rw [kc_len, kc_len]; decide)) ?_; intro X h3 hkx
       have h4 := hkx.other (hZ2.alloc _) (by have := hZ2.lt; omega)
       have hF3 := hkx.fr (fr_new hF2 _) hF2.size
       clear hkx hZ2 hF2)
    | (refine wpList_load_sty keyS rfl (.tmp 5) rfl w2.heap.size rfl (kc_len k) h3 ?_)
    | (refine wpList_store_at (ds := kc k) key_info rfl (.tmp 2) (.tmp 92) rfl w.heap.size 0 rfl rfl (kc_len k) (kc_one _) h4 (by rw [kc_len]; decide) (splice_all _ _ (by rw [kc_len, kc_len]; decide)) ?_; intro W5 hO5 hk5; have hF5 := hk5.fr hF3 (by omega); clear hk5)
    | fail)
  exact bodyPost_ret (keyS.result rfl _ w.heap.size rfl (kc_len k) hO5) rfl ⟨rfl, hF5⟩
set_option maxRecDepth 100000 in
set_option maxHeartbeats 4000000 in
theorem law_key_1 (v : Int) (hv : Is64 v) (hr : pl v % 8 = 1) (w : World) : Calls Try.prog 21 #[.int .i64 v] w fun e w' => e = .returned (kv (lawK v)) ∧ Fr w w' := by
  have cP := fun W0 W h => law_pl (W0 := W0) (W := W) hv h
  have hO := ref_of_fits _ (lawK_size (pl v))
  have hKB : lawKB (pl v) = [97 + ((pl v / 8 % 6 : Nat) : Int)] := by simp [lawKB, hr]
  have cO := fun (W : World) => hO W
  unfold lawK
  have hlt := pl_lt v
  generalize pl v = K at *
  rw [hKB] at cO ⊢
  have hr' : (K : Int).tmod 8 = 1 := by
    have h : (K : Int).tmod 8 = ((K % 8 : Nat) : Int) := rfl
    rw [h, hr]; rfl
  have q1 : (K : Int).tdiv 8 = ((K / 8 : Nat) : Int) := rfl
  have m1 : ((K / 8 : Nat) : Int).tmod 6 = ((K / 8 % 6 : Nat) : Int) := rfl
  have b1 : K / 8 % 6 < 6 := Nat.mod_lt _ (by decide)
  clear hO hKB hr
  generalize K / 8 % 6 = y1 at *
  have u1 : (97 + (y1 : Int)) % 256 = 97 + (y1 : Int) := by omega
  have g1 : K / 8 < 1099511627776 := by omega
  generalize K / 8 = x1 at *
  obtain ⟨Z, hZ, hZO, hZF⟩ : ∃ Z, w.alloc (.cells #[.int .i64 0, .int .u8 0, .int .u8 0, .int .u8 0, .int .u8 0, .int .u8 0, .int .u8 0, .int .u8 0, .int .u8 0] 25) = Z ∧ Arr Z w.heap.size 25 (kc zeroK).toArray ∧ Fr w Z := ⟨_, rfl, Arr.new w _ _, fr_new (fr_refl w) _⟩
  have hZZ := fr_refl Z
  have hcv := fun (W : World) => bytes_text (W := W.alloc (.cells #[.int .u8 (97 + (y1 : Int))] 5)) (g := W.heap.size) (n := 1) (c := 1) (zs := [97 + (y1 : Int)]) rfl (Arr.new W _ _)
  generalize strOfNums [97 + (y1 : Int)] = T at *
  generalize ofS T = k at *
  go_enter Try.func21, Try.ntmps21
  go_wp2_with (first
    | (go_at_call 29; refine (cP Z _ hZZ).mono ?_; rintro e w1 ⟨rfl, hz1⟩
       have hOw := (hZO.below hz1 hZO.lt).alloc (.cells #[.int .u8 (97 + (y1 : Int))] 5)
       have hFw := fr_new (fr_step hZF hz1) (.cells #[.int .u8 (97 + (y1 : Int))] 5))
    | (go_at_call 31; refine (cO _).mono ?_; rintro e w2 ⟨rfl, hz2⟩
       have hZ2 : Arr w2 w.heap.size 25 (kc zeroK).toArray := hOw.below hz2 hOw.lt
       have hF2 := fr_step hFw hz2
       clear hOw hFw)
    | (refine wpList_store_at (ds := kc k) key_info rfl (.tmp 5) (.tmp 90) rfl w2.heap.size 0 rfl rfl (kc_len k) (kc_one _) (Arr.new w2 (kc zeroK).toArray 25) (by rw [kc_len]; decide) (splice_all _ _ (by rw [kc_len, kc_len]; decide)) ?_; intro X h3 hkx
       have h4 := hkx.other (hZ2.alloc _) (by have := hZ2.lt; omega)
       have hF3 := hkx.fr (fr_new hF2 _) hF2.size
       clear hkx hZ2 hF2)
    | (refine wpList_load_sty keyS rfl (.tmp 5) rfl w2.heap.size rfl (kc_len k) h3 ?_)
    | (refine wpList_store_at (ds := kc k) key_info rfl (.tmp 2) (.tmp 92) rfl w.heap.size 0 rfl rfl (kc_len k) (kc_one _) h4 (by rw [kc_len]; decide) (splice_all _ _ (by rw [kc_len, kc_len]; decide)) ?_; intro W5 hO5 hk5; have hF5 := hk5.fr hF3 (by omega); clear hk5)
    | fail)
  exact bodyPost_ret (keyS.result rfl _ w.heap.size rfl (kc_len k) hO5) rfl ⟨rfl, hF5⟩
set_option maxRecDepth 100000 in
set_option maxHeartbeats 4000000 in
theorem law_key_2 (v : Int) (hv : Is64 v) (hr : pl v % 8 = 2) (w : World) : Calls Try.prog 21 #[.int .i64 v] w fun e w' => e = .returned (kv (lawK v)) ∧ Fr w w' := by
  have cP := fun W0 W h => law_pl (W0 := W0) (W := W) hv h
  have hO := ref_of_fits _ (lawK_size (pl v))
  have hKB : lawKB (pl v) = [97 + ((pl v / 8 % 6 : Nat) : Int)] := by simp [lawKB, hr]
  have cO := fun (W : World) => hO W
  unfold lawK
  have hlt := pl_lt v
  generalize pl v = K at *
  rw [hKB] at cO ⊢
  have hr' : (K : Int).tmod 8 = 2 := by
    have h : (K : Int).tmod 8 = ((K % 8 : Nat) : Int) := rfl
    rw [h, hr]; rfl
  have q1 : (K : Int).tdiv 8 = ((K / 8 : Nat) : Int) := rfl
  have m1 : ((K / 8 : Nat) : Int).tmod 6 = ((K / 8 % 6 : Nat) : Int) := rfl
  have b1 : K / 8 % 6 < 6 := Nat.mod_lt _ (by decide)
  clear hO hKB hr
  generalize K / 8 % 6 = y1 at *
  have u1 : (97 + (y1 : Int)) % 256 = 97 + (y1 : Int) := by omega
  have g1 : K / 8 < 1099511627776 := by omega
  generalize K / 8 = x1 at *
  obtain ⟨Z, hZ, hZO, hZF⟩ : ∃ Z, w.alloc (.cells #[.int .i64 0, .int .u8 0, .int .u8 0, .int .u8 0, .int .u8 0, .int .u8 0, .int .u8 0, .int .u8 0, .int .u8 0] 25) = Z ∧ Arr Z w.heap.size 25 (kc zeroK).toArray ∧ Fr w Z := ⟨_, rfl, Arr.new w _ _, fr_new (fr_refl w) _⟩
  have hZZ := fr_refl Z
  have hcv := fun (W : World) => bytes_text (W := W.alloc (.cells #[.int .u8 (97 + (y1 : Int))] 5)) (g := W.heap.size) (n := 1) (c := 1) (zs := [97 + (y1 : Int)]) rfl (Arr.new W _ _)
  generalize strOfNums [97 + (y1 : Int)] = T at *
  generalize ofS T = k at *
  go_enter Try.func21, Try.ntmps21
  go_wp2_with (first
    | (go_at_call 29; refine (cP Z _ hZZ).mono ?_; rintro e w1 ⟨rfl, hz1⟩
       have hOw := (hZO.below hz1 hZO.lt).alloc (.cells #[.int .u8 (97 + (y1 : Int))] 5)
       have hFw := fr_new (fr_step hZF hz1) (.cells #[.int .u8 (97 + (y1 : Int))] 5))
    | (go_at_call 31; refine (cO _).mono ?_; rintro e w2 ⟨rfl, hz2⟩
       have hZ2 : Arr w2 w.heap.size 25 (kc zeroK).toArray := hOw.below hz2 hOw.lt
       have hF2 := fr_step hFw hz2
       clear hOw hFw)
    | (refine wpList_store_at (ds := kc k) key_info rfl (.tmp 5) (.tmp 90) rfl w2.heap.size 0 rfl rfl (kc_len k) (kc_one _) (Arr.new w2 (kc zeroK).toArray 25) (by rw [kc_len]; decide) (splice_all _ _ (by rw [kc_len, kc_len]; decide)) ?_; intro X h3 hkx
       have h4 := hkx.other (hZ2.alloc _) (by have := hZ2.lt; omega)
       have hF3 := hkx.fr (fr_new hF2 _) hF2.size
       clear hkx hZ2 hF2)
    | (refine wpList_load_sty keyS rfl (.tmp 5) rfl w2.heap.size rfl (kc_len k) h3 ?_)
    | (refine wpList_store_at (ds := kc k) key_info rfl (.tmp 2) (.tmp 92) rfl w.heap.size 0 rfl rfl (kc_len k) (kc_one _) h4 (by rw [kc_len]; decide) (splice_all _ _ (by rw [kc_len, kc_len]; decide)) ?_; intro W5 hO5 hk5; have hF5 := hk5.fr hF3 (by omega); clear hk5)
    | fail)
  exact bodyPost_ret (keyS.result rfl _ w.heap.size rfl (kc_len k) hO5) rfl ⟨rfl, hF5⟩
set_option maxRecDepth 100000 in
set_option maxHeartbeats 4000000 in
theorem law_key_3 (v : Int) (hv : Is64 v) (hr : pl v % 8 = 3) (w : World) : Calls Try.prog 21 #[.int .i64 v] w fun e w' => e = .returned (kv (lawK v)) ∧ Fr w w' := by
  have cP := fun W0 W h => law_pl (W0 := W0) (W := W) hv h
  have hO := ref_of_fits _ (lawK_size (pl v))
  have hKB : lawKB (pl v) = [97 + ((pl v / 8 % 5 : Nat) : Int), 97 + ((pl v / 40 % 4 : Nat) : Int)] := by simp [lawKB, hr]
  have cO := fun (W : World) => hO W
  unfold lawK
  have hlt := pl_lt v
  generalize pl v = K at *
  rw [hKB] at cO ⊢
  have hr' : (K : Int).tmod 8 = 3 := by
    have h : (K : Int).tmod 8 = ((K % 8 : Nat) : Int) := rfl
    rw [h, hr]; rfl
  have q1 : (K : Int).tdiv 8 = ((K / 8 : Nat) : Int) := rfl
  have m1 : ((K / 8 : Nat) : Int).tmod 5 = ((K / 8 % 5 : Nat) : Int) := rfl
  have b1 : K / 8 % 5 < 5 := Nat.mod_lt _ (by decide)
  have q2 : (K : Int).tdiv 40 = ((K / 40 : Nat) : Int) := rfl
  have m2 : ((K / 40 : Nat) : Int).tmod 4 = ((K / 40 % 4 : Nat) : Int) := rfl
  have b2 : K / 40 % 4 < 4 := Nat.mod_lt _ (by decide)
  clear hO hKB hr
  generalize K / 8 % 5 = y1 at *
  have u1 : (97 + (y1 : Int)) % 256 = 97 + (y1 : Int) := by omega
  generalize K / 40 % 4 = y2 at *
  have u2 : (97 + (y2 : Int)) % 256 = 97 + (y2 : Int) := by omega
  have g1 : K / 8 < 1099511627776 := by omega
  generalize K / 8 = x1 at *
  have g2 : K / 40 < 1099511627776 := by omega
  generalize K / 40 = x2 at *
  obtain ⟨Z, hZ, hZO, hZF⟩ : ∃ Z, w.alloc (.cells #[.int .i64 0, .int .u8 0, .int .u8 0, .int .u8 0, .int .u8 0, .int .u8 0, .int .u8 0, .int .u8 0, .int .u8 0] 25) = Z ∧ Arr Z w.heap.size 25 (kc zeroK).toArray ∧ Fr w Z := ⟨_, rfl, Arr.new w _ _, fr_new (fr_refl w) _⟩
  have hZZ := fr_refl Z
  have hcv := fun (W : World) => bytes_text (W := W.alloc (.cells #[.int .u8 (97 + (y1 : Int)), .int .u8 (97 + (y2 : Int))] 5)) (g := W.heap.size) (n := 2) (c := 2) (zs := [97 + (y1 : Int), 97 + (y2 : Int)]) rfl (Arr.new W _ _)
  generalize strOfNums [97 + (y1 : Int), 97 + (y2 : Int)] = T at *
  generalize ofS T = k at *
  go_enter Try.func21, Try.ntmps21
  go_wp2_with (first
    | (go_at_call 29; refine (cP Z _ hZZ).mono ?_; rintro e w1 ⟨rfl, hz1⟩
       have hOw := (hZO.below hz1 hZO.lt).alloc (.cells #[.int .u8 (97 + (y1 : Int)), .int .u8 (97 + (y2 : Int))] 5)
       have hFw := fr_new (fr_step hZF hz1) (.cells #[.int .u8 (97 + (y1 : Int)), .int .u8 (97 + (y2 : Int))] 5))
    | (go_at_call 31; refine (cO _).mono ?_; rintro e w2 ⟨rfl, hz2⟩
       have hZ2 : Arr w2 w.heap.size 25 (kc zeroK).toArray := hOw.below hz2 hOw.lt
       have hF2 := fr_step hFw hz2
       clear hOw hFw)
    | (refine wpList_store_at (ds := kc k) key_info rfl (.tmp 5) (.tmp 90) rfl w2.heap.size 0 rfl rfl (kc_len k) (kc_one _) (Arr.new w2 (kc zeroK).toArray 25) (by rw [kc_len]; decide) (splice_all _ _ (by rw [kc_len, kc_len]; decide)) ?_; intro X h3 hkx
       have h4 := hkx.other (hZ2.alloc _) (by have := hZ2.lt; omega)
       have hF3 := hkx.fr (fr_new hF2 _) hF2.size
       clear hkx hZ2 hF2)
    | (refine wpList_load_sty keyS rfl (.tmp 5) rfl w2.heap.size rfl (kc_len k) h3 ?_)
    | (refine wpList_store_at (ds := kc k) key_info rfl (.tmp 2) (.tmp 92) rfl w.heap.size 0 rfl rfl (kc_len k) (kc_one _) h4 (by rw [kc_len]; decide) (splice_all _ _ (by rw [kc_len, kc_len]; decide)) ?_; intro W5 hO5 hk5; have hF5 := hk5.fr hF3 (by omega); clear hk5)
    | fail)
  exact bodyPost_ret (keyS.result rfl _ w.heap.size rfl (kc_len k) hO5) rfl ⟨rfl, hF5⟩
set_option maxRecDepth 100000 in
set_option maxHeartbeats 4000000 in
theorem law_key_4 (v : Int) (hv : Is64 v) (hr : pl v % 8 = 4) (w : World) : Calls Try.prog 21 #[.int .i64 v] w fun e w' => e = .returned (kv (lawK v)) ∧ Fr w w' := by
  have cP := fun W0 W h => law_pl (W0 := W0) (W := W) hv h
  have hO := ref_of_fits _ (lawK_size (pl v))
  have hKB : lawKB (pl v) = [97 + ((pl v / 8 % 5 : Nat) : Int), 97 + ((pl v / 40 % 4 : Nat) : Int)] := by simp [lawKB, hr]
  have cO := fun (W : World) => hO W
  unfold lawK
  have hlt := pl_lt v
  generalize pl v = K at *
  rw [hKB] at cO ⊢
  have hr' : (K : Int).tmod 8 = 4 := by
    have h : (K : Int).tmod 8 = ((K % 8 : Nat) : Int) := rfl
    rw [h, hr]; rfl
  have q1 : (K : Int).tdiv 8 = ((K / 8 : Nat) : Int) := rfl
  have m1 : ((K / 8 : Nat) : Int).tmod 5 = ((K / 8 % 5 : Nat) : Int) := rfl
  have b1 : K / 8 % 5 < 5 := Nat.mod_lt _ (by decide)
  have q2 : (K : Int).tdiv 40 = ((K / 40 : Nat) : Int) := rfl
  have m2 : ((K / 40 : Nat) : Int).tmod 4 = ((K / 40 % 4 : Nat) : Int) := rfl
  have b2 : K / 40 % 4 < 4 := Nat.mod_lt _ (by decide)
  clear hO hKB hr
  generalize K / 8 % 5 = y1 at *
  have u1 : (97 + (y1 : Int)) % 256 = 97 + (y1 : Int) := by omega
  generalize K / 40 % 4 = y2 at *
  have u2 : (97 + (y2 : Int)) % 256 = 97 + (y2 : Int) := by omega
  have g1 : K / 8 < 1099511627776 := by omega
  generalize K / 8 = x1 at *
  have g2 : K / 40 < 1099511627776 := by omega
  generalize K / 40 = x2 at *
  obtain ⟨Z, hZ, hZO, hZF⟩ : ∃ Z, w.alloc (.cells #[.int .i64 0, .int .u8 0, .int .u8 0, .int .u8 0, .int .u8 0, .int .u8 0, .int .u8 0, .int .u8 0, .int .u8 0] 25) = Z ∧ Arr Z w.heap.size 25 (kc zeroK).toArray ∧ Fr w Z := ⟨_, rfl, Arr.new w _ _, fr_new (fr_refl w) _⟩
  have hZZ := fr_refl Z
  have hcv := fun (W : World) => bytes_text (W := W.alloc (.cells #[.int .u8 (97 + (y1 : Int)), .int .u8 (97 + (y2 : Int))] 5)) (g := W.heap.size) (n := 2) (c := 2) (zs := [97 + (y1 : Int), 97 + (y2 : Int)]) rfl (Arr.new W _ _)
  generalize strOfNums [97 + (y1 : Int), 97 + (y2 : Int)] = T at *
  generalize ofS T = k at *
  go_enter Try.func21, Try.ntmps21
  go_wp2_with (first
    | (go_at_call 29; refine (cP Z _ hZZ).mono ?_; rintro e w1 ⟨rfl, hz1⟩
       have hOw := (hZO.below hz1 hZO.lt).alloc (.cells #[.int .u8 (97 + (y1 : Int)), .int .u8 (97 + (y2 : Int))] 5)
       have hFw := fr_new (fr_step hZF hz1) (.cells #[.int .u8 (97 + (y1 : Int)), .int .u8 (97 + (y2 : Int))] 5))
    | (go_at_call 31; refine (cO _).mono ?_; rintro e w2 ⟨rfl, hz2⟩
       have hZ2 : Arr w2 w.heap.size 25 (kc zeroK).toArray := hOw.below hz2 hOw.lt
       have hF2 := fr_step hFw hz2
       clear hOw hFw)
    | (refine wpList_store_at (ds := kc k) key_info rfl (.tmp 5) (.tmp 90) rfl w2.heap.size 0 rfl rfl (kc_len k) (kc_one _) (Arr.new w2 (kc zeroK).toArray 25) (by rw [kc_len]; decide) (splice_all _ _ (by rw [kc_len, kc_len]; decide)) ?_; intro X h3 hkx
       have h4 := hkx.other (hZ2.alloc _) (by have := hZ2.lt; omega)
       have hF3 := hkx.fr (fr_new hF2 _) hF2.size
       clear hkx hZ2 hF2)
    | (refine wpList_load_sty keyS rfl (.tmp 5) rfl w2.heap.size rfl (kc_len k) h3 ?_)
    | (refine wpList_store_at (ds := kc k) key_info rfl (.tmp 2) (.tmp 92) rfl w.heap.size 0 rfl rfl (kc_len k) (kc_one _) h4 (by rw [kc_len]; decide) (splice_all _ _ (by rw [kc_len, kc_len]; decide)) ?_; intro W5 hO5 hk5; have hF5 := hk5.fr hF3 (by omega); clear hk5)
    | fail)
  exact bodyPost_ret (keyS.result rfl _ w.heap.size rfl (kc_len k) hO5) rfl ⟨rfl, hF5⟩
set_option maxRecDepth 100000 in
set_option maxHeartbeats 4000000 in
theorem law_key_5 (v : Int) (hv : Is64 v) (hr : pl v % 8 = 5) (w : World) : Calls Try.prog 21 #[.int .i64 v] w fun e w' => e = .returned (kv (lawK v)) ∧ Fr w w' := by
  have cP := fun W0 W h => law_pl (W0 := W0) (W := W) hv h
  have hO := ref_of_fits _ (lawK_size (pl v))
  have hKB : lawKB (pl v) = [97 + ((pl v / 8 % 4 : Nat) : Int), 0, ((pl v / 32 % 256 : Nat) : Int), ((pl v / 8192 % 4 : Nat) : Int), 255, 120, 121, 97 + ((pl v / 32768 % 3 : Nat) : Int)] := by simp [lawKB, hr]
  have cO := fun (W : World) => hO W
  unfold lawK
  have hlt := pl_lt v
  generalize pl v = K at *
  rw [hKB] at cO ⊢
  have hr' : (K : Int).tmod 8 = 5 := by
    have h : (K : Int).tmod 8 = ((K % 8 : Nat) : Int) := rfl
    rw [h, hr]; rfl
  have q1 : (K : Int).tdiv 8 = ((K / 8 : Nat) : Int) := rfl
  have m1 : ((K / 8 : Nat) : Int).tmod 4 = ((K / 8 % 4 : Nat) : Int) := rfl
  have b1 : K / 8 % 4 < 4 := Nat.mod_lt _ (by decide)
  have q2 : (K : Int).tdiv 32 = ((K / 32 : Nat) : Int) := rfl
  have m2 : ((K / 32 : Nat) : Int).tmod 256 = ((K / 32 % 256 : Nat) : Int) := rfl
  have b2 : K / 32 % 256 < 256 := Nat.mod_lt _ (by decide)
  have q3 : (K : Int).tdiv 8192 = ((K / 8192 : Nat) : Int) := rfl
  have m3 : ((K / 8192 : Nat) : Int).tmod 4 = ((K / 8192 % 4 : Nat) : Int) := rfl
  have b3 : K / 8192 % 4 < 4 := Nat.mod_lt _ (by decide)
  have q4 : (K : Int).tdiv 32768 = ((K / 32768 : Nat) : Int) := rfl
  have m4 : ((K / 32768 : Nat) : Int).tmod 3 = ((K / 32768 % 3 : Nat) : Int) := rfl
  have b4 : K / 32768 % 3 < 3 := Nat.mod_lt _ (by decide)
  clear hO hKB hr
  generalize K / 8 % 4 = y1 at *
  have u1 : (97 + (y1 : Int)) % 256 = 97 + (y1 : Int) := by omega
  generalize K / 32 % 256 = y2 at *
  have u2 : ((y2 : Int)) % 256 = (y2 : Int) := by omega
  generalize K / 8192 % 4 = y3 at *
  have u3 : ((y3 : Int)) % 256 = (y3 : Int) := by omega
  generalize K / 32768 % 3 = y4 at *
  have u4 : (97 + (y4 : Int)) % 256 = 97 + (y4 : Int) := by omega
  have g1 : K / 8 < 1099511627776 := by omega
  generalize K / 8 = x1 at *
  have g2 : K / 32 < 1099511627776 := by omega
  generalize K / 32 = x2 at *
  have g3 : K / 8192 < 1099511627776 := by omega
  generalize K / 8192 = x3 at *
  have g4 : K / 32768 < 1099511627776 := by omega
  generalize K / 32768 = x4 at *
  obtain ⟨Z, hZ, hZO, hZF⟩ : ∃ Z, w.alloc (.cells #[.int .i64 0, .int .u8 0, .int .u8 0, .int .u8 0, .int .u8 0, .int .u8 0, .int .u8 0, .int .u8 0, .int .u8 0] 25) = Z ∧ Arr Z w.heap.size 25 (kc zeroK).toArray ∧ Fr w Z := ⟨_, rfl, Arr.new w _ _, fr_new (fr_refl w) _⟩
  have hZZ := fr_refl Z
  have hcv := fun (W : World) => bytes_text (W := W.alloc (.cells #[.int .u8 (97 + (y1 : Int)), .int .u8 0, .int .u8 ((y2 : Int)), .int .u8 ((y3 : Int)), .int .u8 255, .int .u8 120, .int .u8 121, .int .u8 (97 + (y4 : Int))] 5)) (g := W.heap.size) (n := 8) (c := 8) (zs := [97 + (y1 : Int), 0, (y2 : Int), (y3 : Int), 255, 120, 121, 97 + (y4 : Int)]) rfl (Arr.new W _ _)
  generalize strOfNums [97 + (y1 : Int), 0, (y2 : Int), (y3 : Int), 255, 120, 121, 97 + (y4 : Int)] = T at *
  generalize ofS T = k at *
  go_enter Try.func21, Try.ntmps21
  go_wp2_with (first
    | (go_at_call 29; refine (cP Z _ hZZ).mono ?_; rintro e w1 ⟨rfl, hz1⟩
       have hOw := (hZO.below hz1 hZO.lt).alloc (.cells #[.int .u8 (97 + (y1 : Int)), .int .u8 0, .int .u8 ((y2 : Int)), .int .u8 ((y3 : Int)), .int .u8 255, .int .u8 120, .int .u8 121, .int .u8 (97 + (y4 : Int))] 5)
       have hFw := fr_new (fr_step hZF hz1) (.cells #[.int .u8 (97 + (y1 : Int)), .int .u8 0, .int .u8 ((y2 : Int)), .int .u8 ((y3 : Int)), .int .u8 255, .int .u8 120, .int .u8 121, .int .u8 (97 + (y4 : Int))] 5))
    | (go_at_call 31; refine (cO _).mono ?_; rintro e w2 ⟨rfl, hz2⟩
       have hZ2 : Arr w2 w.heap.size 25 (kc zeroK).toArray := hOw.below hz2 hOw.lt
       have hF2 := fr_step hFw hz2
       clear hOw hFw)
    | (refine wpList_store_at (ds := kc k) key_info rfl (.tmp 5) (.tmp 90) rfl w2.heap.size 0 rfl rfl (kc_len k) (kc_one _) (Arr.new w2 (kc zeroK).toArray 25) (by rw [kc_len]; decide) (splice_all _ _ (by rw [kc_len, kc_len]; decide)) ?_; intro X h3 hkx
       have h4 := hkx.other (hZ2.alloc _) (by have := hZ2.lt; omega)
       have hF3 := hkx.fr (fr_new hF2 _) hF2.size
       clear hkx hZ2 hF2)
    | (refine wpList_load_sty keyS rfl (.tmp 5) rfl w2.heap.size rfl (kc_len k) h3 ?_)
    | (refine wpList_store_at (ds := kc k) key_info rfl (.tmp 2) (.tmp 92) rfl w.heap.size 0 rfl rfl (kc_len k) (kc_one _) h4 (by rw [kc_len]; decide) (splice_all _ _ (by rw [kc_len, kc_len]; decide)) ?_; intro W5 hO5 hk5; have hF5 := hk5.fr hF3 (by omega); clear hk5)
    | fail)
  exact bodyPost_ret (keyS.result rfl _ w.heap.size rfl (kc_len k) hO5) rfl ⟨rfl, hF5⟩
set_option maxRecDepth 100000 in
set_option maxHeartbeats 4000000 in
theorem law_key_6 (v : Int) (hv : Is64 v) (hr : pl v % 8 = 6) (w : World) : Calls Try.prog 21 #[.int .i64 v] w fun e w' => e = .returned (kv (lawK v)) ∧ Fr w w' := by
  have cP := fun W0 W h => law_pl (W0 := W0) (W := W) hv h
  have hO := ref_of_fits _ (lawK_size (pl v))
  have hKB : lawKB (pl v) = [98 + ((pl v / 8 % 3 : Nat) : Int), 108, 111, 110, 103, 101, 114, 48 + ((pl v / 24 % 9 : Nat) : Int)] := by simp [lawKB, hr]
  have cO := fun (W : World) => hO W
  unfold lawK
  have hlt := pl_lt v
  generalize pl v = K at *
  rw [hKB] at cO ⊢
  have hr' : (K : Int).tmod 8 = 6 := by
    have h : (K : Int).tmod 8 = ((K % 8 : Nat) : Int) := rfl
    rw [h, hr]; rfl
  have q1 : (K : Int).tdiv 8 = ((K / 8 : Nat) : Int) := rfl
  have m1 : ((K / 8 : Nat) : Int).tmod 3 = ((K / 8 % 3 : Nat) : Int) := rfl
  have b1 : K / 8 % 3 < 3 := Nat.mod_lt _ (by decide)
  have q2 : (K : Int).tdiv 24 = ((K / 24 : Nat) : Int) := rfl
  have m2 : ((K / 24 : Nat) : Int).tmod 9 = ((K / 24 % 9 : Nat) : Int) := rfl
  have b2 : K / 24 % 9 < 9 := Nat.mod_lt _ (by decide)
  clear hO hKB hr
  generalize K / 8 % 3 = y1 at *
  have u1 : (98 + (y1 : Int)) % 256 = 98 + (y1 : Int) := by omega
  generalize K / 24 % 9 = y2 at *
  have u2 : (48 + (y2 : Int)) % 256 = 48 + (y2 : Int) := by omega
  have g1 : K / 8 < 1099511627776 := by omega
  generalize K / 8 = x1 at *
  have g2 : K / 24 < 1099511627776 := by omega
  generalize K / 24 = x2 at *
  obtain ⟨Z, hZ, hZO, hZF⟩ : ∃ Z, w.alloc (.cells #[.int .i64 0, .int .u8 0, .int .u8 0, .int .u8 0, .int .u8 0, .int .u8 0, .int .u8 0, .int .u8 0, .int .u8 0] 25) = Z ∧ Arr Z w.heap.size 25 (kc zeroK).toArray ∧ Fr w Z := ⟨_, rfl, Arr.new w _ _, fr_new (fr_refl w) _⟩
  have hZZ := fr_refl Z
  have hcv := fun (W : World) => bytes_text (W := W.alloc (.cells #[.int .u8 (98 + (y1 : Int)), .int .u8 108, .int .u8 111, .int .u8 110, .int .u8 103, .int .u8 101, .int .u8 114, .int .u8 (48 + (y2 : Int))] 5)) (g := W.heap.size) (n := 8) (c := 8) (zs := [98 + (y1 : Int), 108, 111, 110, 103, 101, 114, 48 + (y2 : Int)]) rfl (Arr.new W _ _)
  generalize strOfNums [98 + (y1 : Int), 108, 111, 110, 103, 101, 114, 48 + (y2 : Int)] = T at *
  generalize ofS T = k at *
  go_enter Try.func21, Try.ntmps21
  go_wp2_with (first
    | (go_at_call 29; refine (cP Z _ hZZ).mono ?_; rintro e w1 ⟨rfl, hz1⟩
       have hOw := (hZO.below hz1 hZO.lt).alloc (.cells #[.int .u8 (98 + (y1 : Int)), .int .u8 108, .int .u8 111, .int .u8 110, .int .u8 103, .int .u8 101, .int .u8 114, .int .u8 (48 + (y2 : Int))] 5)
       have hFw := fr_new (fr_step hZF hz1) (.cells #[.int .u8 (98 + (y1 : Int)), .int .u8 108, .int .u8 111, .int .u8 110, .int .u8 103, .int .u8 101, .int .u8 114, .int .u8 (48 + (y2 : Int))] 5))
    | (go_at_call 31; refine (cO _).mono ?_; rintro e w2 ⟨rfl, hz2⟩
       have hZ2 : Arr w2 w.heap.size 25 (kc zeroK).toArray := hOw.below hz2 hOw.lt
       have hF2 := fr_step hFw hz2
       clear hOw hFw)
    | (refine wpList_store_at (ds := kc k) key_info rfl (.tmp 5) (.tmp 90) rfl w2.heap.size 0 rfl rfl (kc_len k) (kc_one _) (Arr.new w2 (kc zeroK).toArray 25) (by rw [kc_len]; decide) (splice_all _ _ (by rw [kc_len, kc_len]; decide)) ?_; intro X h3 hkx
       have h4 := hkx.other (hZ2.alloc _) (by have := hZ2.lt; omega)
       have hF3 := hkx.fr (fr_new hF2 _) hF2.size
       clear hkx hZ2 hF2)
    | (refine wpList_load_sty keyS rfl (.tmp 5) rfl w2.heap.size rfl (kc_len k) h3 ?_)
    | (refine wpList_store_at (ds := kc k) key_info rfl (.tmp 2) (.tmp 92) rfl w.heap.size 0 rfl rfl (kc_len k) (kc_one _) h4 (by rw [kc_len]; decide) (splice_all _ _ (by rw [kc_len, kc_len]; decide)) ?_; intro W5 hO5 hk5; have hF5 := hk5.fr hF3 (by omega); clear hk5)
    | fail)
  exact bodyPost_ret (keyS.result rfl _ w.heap.size rfl (kc_len k) hO5) rfl ⟨rfl, hF5⟩
end Go.Proofs.Ytkblfljcjfaibaa
