/- 'awake' of layer 5. -/
import Derived.Test.YtkblfljcjfaibaaLaw2
import Derived.Deep.RegionWith
import Derived.Deep.Cut
import Derived.Deep.CutRange
namespace Go.Proofs.Ytkblfljcjfaibaa
open Go.RowKit
set_option linter.unusedVariables false
theorem msg_st (p v : Value) : Instr.storeAt 30 p v = stS 30 p v := rfl
attribute [local go_sem ↓] val_ld key_ld msg_ld
section
variable {W0 W : World} {a b m : RM} {v : RV}
theorem mcheck_at (wm : m.wf) (hb : Fr W0 W) : Calls Try.prog 9 #[mm m] W fun e w' => e = .returned (.bool (okM m)) ∧ Fr W0 w' := (msg_check m wm W).mono fun _ _ ⟨he, hw⟩ => ⟨he, fr_step hb hw⟩
theorem mbytes_at (wm : m.wf) (hb : Fr W0 W) : Calls Try.prog 11 #[mm m] W fun e w' => e = .returned (.int .i64 (bytM m)) ∧ Fr W0 w' := (msg_bytes m wm W).mono fun _ _ ⟨he, hw⟩ => ⟨he, fr_step hb hw⟩
theorem mcompose_at (wa : a.wf) (wb : b.wf) (oa : okM a = true) (ob : okM b = true) (hb : Fr W0 W) : Calls Try.prog 17 #[mm a, mm b] W fun e w' => e = .returned (mm (compM a b)) ∧ Fr W0 w' := (msg_compose a b wa wb oa ob W).mono fun _ _ ⟨he, hw⟩ => ⟨he, fr_step hb hw⟩
theorem mapply_at {there : Bool} (wv : v.wf) (ov : there = true → okV v = true) (wm : m.wf) (om : okM m = true) (hb : Fr W0 W) : Calls Try.prog 15 #[vv v, .bool there, mm m] W fun e w' => e = .returned (.tuple #[vv (appV v there m), .bool (appB m)]) ∧ Fr W0 w' := (msg_apply v there m wv ov wm om W).mono fun _ _ ⟨he, hw⟩ => ⟨he, fr_step hb hw⟩
theorem rmcheck_at (wm : m.wf) (hb : Fr W0 W) : Calls Try.prog 10 #[mm m] W fun e w' => e = .returned (.bool (okM m)) ∧ Fr W0 w' := (ref_mcheck m wm W).mono fun _ _ ⟨he, hw⟩ => ⟨he, fr_step hb hw⟩
theorem rmbytes_at (wm : m.wf) (hb : Fr W0 W) : Calls Try.prog 12 #[mm m] W fun e w' => e = .returned (.int .i64 (bytM m)) ∧ Fr W0 w' := (ref_mbytes m wm W).mono fun _ _ ⟨he, hw⟩ => ⟨he, fr_step hb hw⟩
theorem rmcompose_at (wa : a.wf) (wb : b.wf) (oa : okM a = true) (ob : okM b = true) (hb : Fr W0 W) : Calls Try.prog 18 #[mm a, mm b] W fun e w' => e = .returned (mm (compM a b)) ∧ Fr W0 w' := (ref_compose a b wa wb oa ob W).mono fun _ _ ⟨he, hw⟩ => ⟨he, fr_step hb hw⟩
theorem rmapply_at {there : Bool} (wv : v.wf) (ov : there = true → okV v = true) (wm : m.wf) (om : okM m = true) (hb : Fr W0 W) : Calls Try.prog 16 #[vv v, .bool there, mm m] W fun e w' => e = .returned (.tuple #[vv (appV v there m), .bool (appB m)]) ∧ Fr W0 w' := (ref_apply v there m wv ov wm om W).mono fun _ _ ⟨he, hw⟩ => ⟨he, fr_step hb hw⟩
end
theorem add_wf {k : RK} (wk : k.wf) {s i : Int} (hs : Us64 s) (hi : Us64 i) : RM.wf ⟨3, s, k, zeroV, i⟩ := ⟨by simp [Is64], hs, wk, zeroV_wf, hi⟩
theorem add_ok {k : RK} (ok : okB k = true) {s i : Int} : okM ⟨3, s, k, zeroV, i⟩ = true := by simp [okM, ok]
theorem del_wf {k : RK} (wk : k.wf) {s : Int} (hs : Us64 s) : RM.wf ⟨2, s, k, zeroV, 0⟩ := ⟨by simp [Is64], hs, wk, zeroV_wf, by simp [Us64]⟩
theorem del_ok {k : RK} (ok : okB k = true) {s : Int} : okM ⟨2, s, k, zeroV, 0⟩ = true := by simp [okM, ok]
theorem putM_wf {k : RK} (wk : k.wf) {v : RV} (wv : v.wf) {s : Int} (hs : Us64 s) : RM.wf ⟨1, s, k, v, 0⟩ := ⟨by simp [Is64], hs, wk, wv, by simp [Us64]⟩
theorem putM_ok {k : RK} (ok : okB k = true) {v : RV} (ov : okV v = true) {s : Int} : okM ⟨1, s, k, v, 0⟩ = true := by simp [okM, ok, ov]
theorem lawK_0n : (lawK 0).n = 1 := by rw [lawK_n]; rfl
section
attribute [local go_sem ↓] msg_st
set_option maxRecDepth 100000 in
set_option maxHeartbeats 4000000 in
theorem awake5 (w : World) : Calls Try.prog 14 #[] w fun e w' => e = .returned (.bool true) ∧ Fr w w' := by
  have wk := lawK_wf 0
  have ok := lawK_ok 0
  have nk := lawK_0n
  have cK := fun W0 W h => law_key_at (W0 := W0) (W := W) (v := 0) (by unfold Is64; omega) h
  generalize lawK 0 = k at *
  have w2 : RM.wf ⟨3, 5, k, zeroV, 2⟩ := add_wf wk (by simp [Us64]) (by simp [Us64])
  have w3 : RM.wf ⟨3, 4, k, zeroV, 3⟩ := add_wf wk (by simp [Us64]) (by simp [Us64])
  have o2 : okM ⟨3, 5, k, zeroV, 2⟩ = true := add_ok ok
  have o3 : okM ⟨3, 4, k, zeroV, 3⟩ = true := add_ok ok
  have eC : compM ⟨3, 4, k, zeroV, 3⟩ ⟨3, 5, k, zeroV, 2⟩ = ⟨3, 5, k, zeroV, 5⟩ := by simp [compM]; decide
  have eD : compM ⟨2, 1, k, zeroV, 0⟩ ⟨3, 5, k, zeroV, 2⟩ = ⟨1, 5, k, fromV 2, 0⟩ := by simp [compM]
  have eA : appV zeroV false ⟨3, 5, k, zeroV, 2⟩ = fromV 2 := by simp [appV]
  have eB : appB ⟨3, 5, k, zeroV, 2⟩ = true := by simp [appB]
  have eY : bytM ⟨3, 5, k, zeroV, 2⟩ = 19 := by simp [bytM, add_ok ok, nk]
  have cC : ∀ W0 W, Fr W0 W → Calls Try.prog 17 #[mm ⟨3, 4, k, zeroV, 3⟩, mm ⟨3, 5, k, zeroV, 2⟩] W fun e w' => e = .returned (mm ⟨3, 5, k, zeroV, 5⟩) ∧ Fr W0 w' := fun W0 W h => by have := mcompose_at w3 w2 o3 o2 h; rwa [eC] at this
  have cD : ∀ W0 W, Fr W0 W → Calls Try.prog 17 #[.agg #[.int .i64 2, .int .u64 1, .int .i64 k.n, .int .u8 k.b0, .int .u8 k.b1, .int .u8 k.b2, .int .u8 k.b3, .int .u8 k.b4, .int .u8 k.b5, .int .u8 k.b6, .int .u8 k.b7, .int .i64 0, .int .u8 0, .int .u8 0, .int .u8 0, .int .u8 0, .int .u8 0, .int .u8 0, .int .u8 0, .int .u8 0, .int .u8 0, .int .u8 0, .int .u8 0, .int .u8 0, .int .u8 0, .int .u8 0, .int .u8 0, .int .u8 0, .int .u64 0], mm ⟨3, 5, k, zeroV, 2⟩] W fun e w' => e = .returned (mm ⟨1, 5, k, fromV 2, 0⟩) ∧ Fr W0 w' := fun W0 W h => by have := mcompose_at (a := ⟨2, 1, k, zeroV, 0⟩) (del_wf wk (by simp [Us64])) w2 (del_ok ok) o2 h; rw [eD] at this; exact this
  have cA : ∀ W0 W, Fr W0 W → Calls Try.prog 15 #[.agg #[.int .i64 0, .int .u8 0, .int .u8 0, .int .u8 0, .int .u8 0, .int .u8 0, .int .u8 0, .int .u8 0, .int .u8 0, .int .u8 0, .int .u8 0, .int .u8 0, .int .u8 0, .int .u8 0, .int .u8 0, .int .u8 0, .int .u8 0], .bool false, mm ⟨3, 5, k, zeroV, 2⟩] W fun e w' => e = .returned (.tuple #[vv (fromV 2), .bool true]) ∧ Fr W0 w' := fun W0 W h => by have := mapply_at (v := zeroV) (there := false) zeroV_wf (fun h => by cases h) w2 o2 h; rw [eA, eB] at this; exact this
  have cH : ∀ W0 W, Fr W0 W → Calls Try.prog 9 #[mm ⟨3, 5, k, zeroV, 2⟩] W fun e w' => e = .returned (.bool true) ∧ Fr W0 w' := fun W0 W h => by have := mcheck_at w2 h; rwa [o2] at this
  have cZ : ∀ W0 W, Fr W0 W → Calls Try.prog 9 #[.agg #[.int .i64 0, .int .u64 0, .int .i64 0, .int .u8 0, .int .u8 0, .int .u8 0, .int .u8 0, .int .u8 0, .int .u8 0, .int .u8 0, .int .u8 0, .int .i64 0, .int .u8 0, .int .u8 0, .int .u8 0, .int .u8 0, .int .u8 0, .int .u8 0, .int .u8 0, .int .u8 0, .int .u8 0, .int .u8 0, .int .u8 0, .int .u8 0, .int .u8 0, .int .u8 0, .int .u8 0, .int .u8 0, .int .u64 0]] W fun e w' => e = .returned (.bool false) ∧ Fr W0 w' := fun W0 W h => mcheck_at zeroM_wf h
  have cB : ∀ W0 W, Fr W0 W → Calls Try.prog 11 #[mm ⟨3, 5, k, zeroV, 2⟩] W fun e w' => e = .returned (.int .i64 19) ∧ Fr W0 w' := fun W0 W h => by have := mbytes_at w2 h; rwa [eY] at this
  have cF : ∀ W0 W, Fr W0 W → Calls Try.prog 22 #[.int .u64 2] W fun e w' => e = .returned (vv (fromV 2)) ∧ Fr W0 w' := fun W0 W h => rfrom_at (n := 2) (by decide) (by decide) h
  have wf2 := fromV_wf 2
  have qF := eql_self wf2
  have HF := keep wf2.hl
  have HlC := keep (mc_len (m := ⟨3, 5, k, zeroV, 5⟩) rfl)
  have HlD := keep (mc_len (m := ⟨1, 5, k, fromV 2, 0⟩) wf2.hl)
  have HlF := keep (vc_len wf2.hl)
  clear wk ok nk w2 w3 o2 o3 eC eD eA eB eY wf2
  generalize fromV 2 = f at *
  have hww := fr_refl w
  go_enter Try.func14, Try.ntmps14
  go_wp2_with (first
    | (go_at_call 21; refine (cK w _ hww).mono ?_; rintro e w1 ⟨rfl, hz1⟩)
    | (refine wpList_store_at (ds := kc k) key_info rfl (.tmp 1) (.tmp 8) rfl w1.heap.size 0 rfl rfl (kc_len k) (kc_one _) (Arr.new w1 (kc zeroK).toArray 25) (by rw [kc_len]; decide) (splice_all _ _ (by rw [kc_len, kc_len]; decide)) ?_; intro Y hK hky
       have hF := hky.fr (fr_new hz1 _) (by have := hz1.size; omega)
       have hs : Y.heap.size = w1.heap.size + 1 := by rw [hky.size]; simp
       have hYY := fr_refl Y
       have hYD := fr_drew hYY
       have lK : ∀ W, Fr Y W → (ldS 25 (.pointer (some ⟨w1.heap.size, 0, none⟩))).run Try.prog W = .ok (.agg (kc k).toArray) W := fun W h => keyS.ld (kc_len k) (hK.below h hK.lt)
       clear hky)
    | fail)
  simp only [Act.put]
  go_cut [2, 3] from 9 to 12 (fun p q W => ∃ g2 g3, p = .pointer (some ⟨g2, 0, none⟩) ∧ q = .pointer (some ⟨g3, 0, none⟩) ∧ Arr W g2 30 (mc ⟨3, 5, k, zeroV, 2⟩).toArray ∧ Arr W g3 30 (mc ⟨3, 4, k, zeroV, 3⟩).toArray ∧ Fr Y W)
  case first =>
    clear cK cC cD cA cH cZ cB cF qF
    have st1 : ∀ W g, OwnB W g 30 29 → (stS 30 (.pointer (some ⟨g, 0, none⟩)) (.agg #[.int .i64 3, .int .u64 5, .int .i64 k.n, .int .u8 k.b0, .int .u8 k.b1, .int .u8 k.b2, .int .u8 k.b3, .int .u8 k.b4, .int .u8 k.b5, .int .u8 k.b6, .int .u8 k.b7, .int .i64 0, .int .u8 0, .int .u8 0, .int .u8 0, .int .u8 0, .int .u8 0, .int .u8 0, .int .u8 0, .int .u8 0, .int .u8 0, .int .u8 0, .int .u8 0, .int .u8 0, .int .u8 0, .int .u8 0, .int .u8 0, .int .u8 0, .int .u64 2])).run Try.prog W = .ok () (W.setRow g (mc ⟨3, 5, k, zeroV, 2⟩).toArray) := fun W g h => st_run (ds := mc ⟨3, 5, k, zeroV, 2⟩) msg_info h (mc_len rfl) (mc_one _)
    have st2 : ∀ W g, OwnB W g 30 29 → (stS 30 (.pointer (some ⟨g, 0, none⟩)) (.agg #[.int .i64 3, .int .u64 4, .int .i64 k.n, .int .u8 k.b0, .int .u8 k.b1, .int .u8 k.b2, .int .u8 k.b3, .int .u8 k.b4, .int .u8 k.b5, .int .u8 k.b6, .int .u8 k.b7, .int .i64 0, .int .u8 0, .int .u8 0, .int .u8 0, .int .u8 0, .int .u8 0, .int .u8 0, .int .u8 0, .int .u8 0, .int .u8 0, .int .u8 0, .int .u8 0, .int .u8 0, .int .u8 0, .int .u8 0, .int .u8 0, .int .u8 0, .int .u64 3])).run Try.prog W = .ok () (W.setRow g (mc ⟨3, 4, k, zeroV, 3⟩).toArray) := fun W g h => st_run (ds := mc ⟨3, 4, k, zeroV, 3⟩) msg_info h (mc_len rfl) (mc_one _)
    have a1 : Arr ((Y.alloc (.cells #[.int .i64 0, .int .u64 0, .int .i64 0, .int .u8 0, .int .u8 0, .int .u8 0, .int .u8 0, .int .u8 0, .int .u8 0, .int .u8 0, .int .u8 0, .int .i64 0, .int .u8 0, .int .u8 0, .int .u8 0, .int .u8 0, .int .u8 0, .int .u8 0, .int .u8 0, .int .u8 0, .int .u8 0, .int .u8 0, .int .u8 0, .int .u8 0, .int .u8 0, .int .u8 0, .int .u8 0, .int .u8 0, .int .u64 0] 30)).alloc (.cells #[.int .i64 0, .int .u64 0, .int .i64 0, .int .u8 0, .int .u8 0, .int .u8 0, .int .u8 0, .int .u8 0, .int .u8 0, .int .u8 0, .int .u8 0, .int .i64 0, .int .u8 0, .int .u8 0, .int .u8 0, .int .u8 0, .int .u8 0, .int .u8 0, .int .u8 0, .int .u8 0, .int .u8 0, .int .u8 0, .int .u8 0, .int .u8 0, .int .u8 0, .int .u8 0, .int .u8 0, .int .u8 0, .int .u64 0] 30)).drew (w1.heap.size + 1) 30 (mc zeroM).toArray := Arr.alloc (arr_at _ _ _ _ hs) _
    have a2 : Arr ((Y.alloc (.cells #[.int .i64 0, .int .u64 0, .int .i64 0, .int .u8 0, .int .u8 0, .int .u8 0, .int .u8 0, .int .u8 0, .int .u8 0, .int .u8 0, .int .u8 0, .int .i64 0, .int .u8 0, .int .u8 0, .int .u8 0, .int .u8 0, .int .u8 0, .int .u8 0, .int .u8 0, .int .u8 0, .int .u8 0, .int .u8 0, .int .u8 0, .int .u8 0, .int .u8 0, .int .u8 0, .int .u8 0, .int .u8 0, .int .u64 0] 30)).alloc (.cells #[.int .i64 0, .int .u64 0, .int .i64 0, .int .u8 0, .int .u8 0, .int .u8 0, .int .u8 0, .int .u8 0, .int .u8 0, .int .u8 0, .int .u8 0, .int .i64 0, .int .u8 0, .int .u8 0, .int .u8 0, .int .u8 0, .int .u8 0, .int .u8 0, .int .u8 0, .int .u8 0, .int .u8 0, .int .u8 0, .int .u8 0, .int .u8 0, .int .u8 0, .int .u8 0, .int .u8 0, .int .u8 0, .int .u64 0] 30)).drew (w1.heap.size + 1 + 1) 30 (mc zeroM).toArray := arr_at _ _ _ _ (by simp [hs])
    have o1 : OwnB ((Y.alloc (.cells #[.int .i64 0, .int .u64 0, .int .i64 0, .int .u8 0, .int .u8 0, .int .u8 0, .int .u8 0, .int .u8 0, .int .u8 0, .int .u8 0, .int .u8 0, .int .i64 0, .int .u8 0, .int .u8 0, .int .u8 0, .int .u8 0, .int .u8 0, .int .u8 0, .int .u8 0, .int .u8 0, .int .u8 0, .int .u8 0, .int .u8 0, .int .u8 0, .int .u8 0, .int .u8 0, .int .u8 0, .int .u8 0, .int .u64 0] 30)).alloc (.cells #[.int .i64 0, .int .u64 0, .int .i64 0, .int .u8 0, .int .u8 0, .int .u8 0, .int .u8 0, .int .u8 0, .int .u8 0, .int .u8 0, .int .u8 0, .int .i64 0, .int .u8 0, .int .u8 0, .int .u8 0, .int .u8 0, .int .u8 0, .int .u8 0, .int .u8 0, .int .u8 0, .int .u8 0, .int .u8 0, .int .u8 0, .int .u8 0, .int .u8 0, .int .u8 0, .int .u8 0, .int .u8 0, .int .u64 0] 30)).drew (w1.heap.size + 1) 30 29 := OwnB.of a1 rfl
    have o2 : OwnB ((Y.alloc (.cells #[.int .i64 0, .int .u64 0, .int .i64 0, .int .u8 0, .int .u8 0, .int .u8 0, .int .u8 0, .int .u8 0, .int .u8 0, .int .u8 0, .int .u8 0, .int .i64 0, .int .u8 0, .int .u8 0, .int .u8 0, .int .u8 0, .int .u8 0, .int .u8 0, .int .u8 0, .int .u8 0, .int .u8 0, .int .u8 0, .int .u8 0, .int .u8 0, .int .u8 0, .int .u8 0, .int .u8 0, .int .u8 0, .int .u64 0] 30)).alloc (.cells #[.int .i64 0, .int .u64 0, .int .i64 0, .int .u8 0, .int .u8 0, .int .u8 0, .int .u8 0, .int .u8 0, .int .u8 0, .int .u8 0, .int .u8 0, .int .i64 0, .int .u8 0, .int .u8 0, .int .u8 0, .int .u8 0, .int .u8 0, .int .u8 0, .int .u8 0, .int .u8 0, .int .u8 0, .int .u8 0, .int .u8 0, .int .u8 0, .int .u8 0, .int .u8 0, .int .u8 0, .int .u8 0, .int .u64 0] 30)).drew (w1.heap.size + 1 + 1) 30 29 := OwnB.of a2 rfl
    have o3 : ∀ g k k' inc seq, OwnB ((Y.alloc (.cells #[.int .i64 0, .int .u64 0, .int .i64 0, .int .u8 0, .int .u8 0, .int .u8 0, .int .u8 0, .int .u8 0, .int .u8 0, .int .u8 0, .int .u8 0, .int .i64 0, .int .u8 0, .int .u8 0, .int .u8 0, .int .u8 0, .int .u8 0, .int .u8 0, .int .u8 0, .int .u8 0, .int .u8 0, .int .u8 0, .int .u8 0, .int .u8 0, .int .u8 0, .int .u8 0, .int .u8 0, .int .u8 0, .int .u64 0] 30)).alloc (.cells #[.int .i64 0, .int .u64 0, .int .i64 0, .int .u8 0, .int .u8 0, .int .u8 0, .int .u8 0, .int .u8 0, .int .u8 0, .int .u8 0, .int .u8 0, .int .i64 0, .int .u8 0, .int .u8 0, .int .u8 0, .int .u8 0, .int .u8 0, .int .u8 0, .int .u8 0, .int .u8 0, .int .u8 0, .int .u8 0, .int .u8 0, .int .u8 0, .int .u8 0, .int .u8 0, .int .u8 0, .int .u8 0, .int .u64 0] 30)).drew g 30 29 → OwnB (((Y.alloc (.cells #[.int .i64 0, .int .u64 0, .int .i64 0, .int .u8 0, .int .u8 0, .int .u8 0, .int .u8 0, .int .u8 0, .int .u8 0, .int .u8 0, .int .u8 0, .int .i64 0, .int .u8 0, .int .u8 0, .int .u8 0, .int .u8 0, .int .u8 0, .int .u8 0, .int .u8 0, .int .u8 0, .int .u8 0, .int .u8 0, .int .u8 0, .int .u8 0, .int .u8 0, .int .u8 0, .int .u8 0, .int .u8 0, .int .u64 0] 30)).alloc (.cells #[.int .i64 0, .int .u64 0, .int .i64 0, .int .u8 0, .int .u8 0, .int .u8 0, .int .u8 0, .int .u8 0, .int .u8 0, .int .u8 0, .int .u8 0, .int .i64 0, .int .u8 0, .int .u8 0, .int .u8 0, .int .u8 0, .int .u8 0, .int .u8 0, .int .u8 0, .int .u8 0, .int .u8 0, .int .u8 0, .int .u8 0, .int .u8 0, .int .u8 0, .int .u8 0, .int .u8 0, .int .u8 0, .int .u64 0] 30)).drew.setRow k (mc ⟨3, seq, k', zeroV, inc⟩).toArray) g 30 29 := fun g k k' inc seq h => h.setRow (mc_len rfl)
    go_region_held3 (fun w' => Fr Y w') (first | exact hYD | exact fr_new (by assumption) _ | exact fr_setRow (by assumption) (by omega) _) (first | fail)
    all_goals
      go_wp2_with fail
      go_meet
      refine ⟨_, _, rfl, rfl, ?_, ?_, by assumption⟩
    · exact (a1.setRow _).setRowOther _ (by omega)
    · exact (a2.setRowOther _ (by omega)).setRow _
    · exact (a2.setRow _).setRowOther _ (by omega)
    · exact (a1.setRowOther _ (by omega)).setRow _
  case rest =>
    clear hYY hYD lK hz1 hs
    obtain ⟨g2, g3, rfl, rfl, h2, h3, hY⟩ := hcut
    have hk := hK.below hY hK.lt
    have hF2 := fr_step hF hY
    have l2 := msg_all h2 rfl
    have l3 := msg_all h3 rfl
    have hcc := fr_refl wc
    clear hK hY hF
    go_wp2_with (first
      | (go_at_call 17; (with_reducible refine (cC wc _ hcc).mono ?_); rintro e wa ⟨rfl, hza⟩
         replace h2 := h2.below hza h2.lt; replace hk := hk.below hza hk.lt; have hFa := fr_step hF2 hza; clear l2 l3 hcc h3 hF2)
      | (refine wpList_store_at (ds := mc ⟨3, 5, k, zeroV, 5⟩) msg_info rfl (.tmp 4) (.tmp 15) rfl wa.heap.size 0 rfl rfl HlC.out (mc_one _) (Arr.new wa (mc zeroM).toArray 30) (by decide) (splice_all _ _ (by rw [HlC.out]; decide)) ?_; intro wb hc hkb
         replace h2 := hkb.other (h2.alloc _) (by have := h2.lt; omega); replace hk := hkb.other (hk.alloc _) (by have := hk.lt; omega); have hFb := hkb.fr (fr_new hFa _) hFa.size; clear hkb hFa hza
         have l2 := msg_all h2 rfl
         have lK : ∀ W, Fr wb W → (ldS 25 (.pointer (some ⟨w1.heap.size, 0, none⟩))).run Try.prog W = .ok (.agg (kc k).toArray) W := fun W h => keyS.ld (kc_len k) (hk.below h hk.lt)
         have hbb := fr_refl wb)
      | (go_at_call 17; (with_reducible refine (cD wb _ hbb).mono ?_); rintro e wd ⟨rfl, hzd⟩
         replace h2 := h2.below hzd h2.lt; replace hc := hc.below hzd hc.lt; have hFd := fr_step hFb hzd; clear l2 lK hbb hk hFb)
      | (refine wpList_store_at (ds := mc ⟨1, 5, k, f, 0⟩) msg_info rfl (.tmp 5) (.tmp 19) rfl wd.heap.size 0 rfl rfl HlD.out (mc_one _) (Arr.new wd (mc zeroM).toArray 30) (by decide) (splice_all _ _ (by rw [HlD.out]; decide)) ?_; intro wg hd hkd
         replace h2 := hkd.other (h2.alloc _) (by have := h2.lt; omega); replace hc := hkd.other (hc.alloc _) (by have := hc.lt; omega); have hFg := hkd.fr (fr_new hFd _) hFd.size; clear hkd hFd hzd
         have l2 := msg_all h2 rfl
         have hgg := fr_refl wg)
      | (go_at_call 15; (with_reducible refine (cA wg _ hgg).mono ?_); rintro e wh ⟨rfl, hzh⟩
         replace h2 := h2.below hzh h2.lt; replace hc := hc.below hzh hc.lt; replace hd := hd.below hzh hd.lt; have hFh := fr_step hFg hzh; clear l2 hgg hFg)
      | (refine wpList_store_at (ds := vc f) val_info rfl (.tmp 6) (.tmp 24) rfl wh.heap.size 0 rfl rfl HlF.out (vc_one _) (Arr.new wh (vc zeroV).toArray 28) (by decide) (splice_all _ _ (by rw [HlF.out]; decide)) ?_; intro Z hv hkv
         replace h2 := hkv.other (h2.alloc _) (by have := h2.lt; omega); replace hc := hkv.other (hc.alloc _) (by have := hc.lt; omega); replace hd := hkv.other (hd.alloc _) (by have := hd.lt; omega); have hFZ := hkv.fr (fr_new hFh _) hFh.size; clear hkv hFh hzh
         have l2 := msg_all h2 rfl
         have lv := ld_fr hv HlF.out
         have ldv := msg_valAt hd HF.out
         have c0 := cellZ hc 0 (mc_0 ⟨3, 5, k, zeroV, 5⟩)
         have c1 := cellZ hc 1 (mc_1 ⟨3, 5, k, zeroV, 5⟩)
         have c28 := cellZ hc 28 (mc_28 (m := ⟨3, 5, k, zeroV, 5⟩) rfl)
         have d0 := cellZ hd 0 (mc_0 ⟨1, 5, k, f, 0⟩)
         have hZD := fr_drew (fr_refl Z))
      | fail)
    clear h2 hc hd hv
    go_region_held3 (fun w' => Fr Z w')
      (first | exact hZD | assumption)
      (first
        | (go_at_call 9; (with_reducible refine (cH Z _ (by assumption)).mono ?_); rintro e w9 ⟨rfl, hz⟩)
        | (go_at_call 9; (with_reducible refine (cZ Z _ (by assumption)).mono ?_); rintro e w9 ⟨rfl, hz⟩)
        | (go_at_call 22; (with_reducible refine (cF Z _ (by assumption)).mono ?_); rintro e w9 ⟨rfl, hz⟩)
        | (go_at_call 11; (with_reducible refine (cB Z _ (by assumption)).mono ?_); rintro e w9 ⟨rfl, hz⟩))
    rename_i hH
    go_wp2
    go_ret
    exact ⟨rfl, fr_step hFZ hH⟩
end
theorem awake5_at {W0 W : World} (hb : Fr W0 W) : Calls Try.prog 14 #[] W fun e w' => e = .returned (.bool true) ∧ Fr W0 w' := (awake5 W).mono fun _ _ ⟨he, hw⟩ => ⟨he, fr_step hb hw⟩
end Go.Proofs.Ytkblfljcjfaibaa
