/- What the functions of layer 5 come to, six: 'Apply' of the program. -/
import Derived.Test.YtbdioipjgjbgmaaMsgG
import Derived.Test.YtbdioipjgjbgmaaLfA
import Derived.Test.YtbdioipjgjbgmaaBufQ
import Derived.Laws.OwnMore
import Derived.Laws.MakeOwn
namespace Go.Proofs.Ytbdioipjgjbgmaa
set_option maxRecDepth 100000
open Go.RowKit
set_option linter.unusedVariables false
attribute [local go_sem ↓] val_ld key_ld msg_ld
set_option maxRecDepth 100000 in
set_option maxHeartbeats 4000000 in
theorem msg_apply (v : RV) (there : Bool) (m : RM) (wv : v.wf) (ov : there = true → okV v = true) (wm : m.wf) (om : okM m = true) (w : World) : Calls Try.prog 95 #[vv v, .bool there, mm m] w fun e w' => e = .returned (.tuple #[vv (appV v there m), .bool (appB m)]) ∧ Fr w w' := by
  obtain ⟨Z, hZ, hF, hZZ, hV, hM, hO, hS⟩ := app_boxed w v m wm.val.hl
  have m0 := cellZ hM 0 (mc_0 m)
  have m28 := cellZ hM 28 (mc_28 wm.val.hl)
  have lmV := msg_valAt hM wm.val.hl
  have lv := ld_fr hV (vc_len wv.hl)
  have him := wm.hi
  have HlM := keep wm.val.hl
  have HlV := keep wv.hl
  obtain ⟨km, -, -, -, -⟩ := okM_parts om
  unfold appV appB
  rcases km with km | km | km
  · rw [if_pos km, show decide (m.kind ≠ 2) = true by simp; omega]
    rw [km] at m0
    clear km wm om wv ov him
    go_enter Try.func95, Try.ntmps95
    go_wp2_with (first
      | (refine wpList_store_at (ds := vc m.val) val_info rfl (.tmp 6) (.tmp 23) rfl (w.heap.size + 1 + 1) 0 rfl rfl (vc_len HlM.out) (vc_one _) hO (by decide) (splice_all _ _ (by rw [vc_len HlM.out]; decide)) ?_; intro W5 hO5 hk5; have hF5 := hk5.fr hF (by omega); clear hk5)
      | fail)
    exact bodyPost_ret (valS.result2 rfl _ (w.heap.size + 1 + 1) rfl (vc_len HlM.out) hO5) rfl ⟨rfl, hF5⟩
  · rw [if_neg (by omega), if_pos km, show decide (m.kind ≠ 2) = false by simp; omega]
    rw [km] at m0
    clear km wm om wv ov him
    go_enter Try.func95, Try.ntmps95
    go_wp2_with (first
      | (refine wpList_store_at (ds := vc zeroV) val_info rfl (.tmp 6) (.tmp 24) rfl (w.heap.size + 1 + 1) 0 rfl rfl rfl (vc_one _) hO (by decide) (splice_all _ _ (by decide)) ?_; intro W5 hO5 hk5; have hF5 := hk5.fr hF (by omega); clear hk5)
      | fail)
    exact bodyPost_ret (valS.result2 rfl _ (w.heap.size + 1 + 1) rfl rfl hO5) rfl ⟨rfl, hF5⟩
  · rw [if_neg (by omega), if_neg (by omega), show decide (m.kind ≠ 2) = true by simp; omega]
    rw [km] at m0
    cases there
    · rw [if_neg (by decide)]
      have cF := fun W h => from_at (W0 := Z) (W := W) (n := 0) (by decide) h
      have cP := fun W0 W h => plus_at (W0 := W0) (W := W) (fromV_wf 0) (fromV_ok 0) m.inc h
      rw [zero_plus him] at cP
      have Hf0 := keep (fromV_wf 0).hl
      have Hr := keep (fromV_wf m.inc).hl
      have HlR := keep (mc_len (m := { m with val := fromV m.inc }) Hr.out)
      generalize fromV m.inc = r at *
      generalize fromV 0 = f0 at *
      clear km wm om wv ov him
      go_enter Try.func95, Try.ntmps95
      go_wp2_with (first
        | (go_at_call 102; refine (cF _ (by assumption)).mono ?_; rintro e w1 ⟨rfl, hz1⟩; have hV1 := hV.below hz1 hV.lt; have hM1 := hM.below hz1 hM.lt; have hO1 := hO.below hz1 hO.lt; have hF1 := fr_step hF hz1; clear hV hM hO hF m0 m28 lmV lv cF)
        | (refine wpList_store_at (ds := vc f0) val_info rfl (.tmp 3) (.tmp 16) rfl w.heap.size 0 rfl rfl (vc_len Hf0.out) (vc_one _) hV1 (by rw [vc_len HlV.out]; decide) (splice_all _ _ (by rw [vc_len Hf0.out, vc_len HlV.out]; decide)) ?_; intro Y hVy hky; have hMy := hky.other hM1 (by omega); have hOy := hky.other hO1 (by omega); have hFy := hky.fr hF1 (by omega); clear hky hV1 hM1 hO1 hF1
           have lv := ld_fr hVy (vc_len Hf0.out)
           have m28 := cellZ hMy 28 (mc_28 HlM.out)
           have hYY := fr_refl Y)
        | (go_at_call 103; refine (cP Y _ (by assumption)).mono ?_; rintro e w2 ⟨rfl, hz2⟩; have hM2 := hMy.below hz2 hMy.lt; have hO2 := hOy.below hz2 hOy.lt; have hF2 := fr_step hFy hz2; clear hVy hMy hOy hFy m28 lv cP)
        | (refine wpList_store_at (ds := vc r) val_info rfl (.tmp 21) (.tmp 20) rfl (w.heap.size + 1) 11 rfl rfl (vc_len Hr.out) (vc_one _) hM2 (by rw [mc_len HlM.out]; decide) (mc_spliceV HlM.out Hr.out) ?_; intro X hMx hkx; have hOx := hkx.other hO2 (by omega); have hFx := hkx.fr hF2 (by omega); clear hkx hM2 hO2 hF2
           have lmV := msg_valAt hMx Hr.out
           have hXX := fr_refl X)
        | (refine wpList_store_at (ds := vc r) val_info rfl (.tmp 6) (.tmp 23) rfl (w.heap.size + 1 + 1) 0 rfl rfl (vc_len Hr.out) (vc_one _) hOx (by decide) (splice_all _ _ (by rw [vc_len Hr.out]; decide)) ?_; intro W5 hO5 hk5; have hF5 := hk5.fr hFx (by omega); clear hk5)
        | fail)
      exact bodyPost_ret (valS.result2 rfl _ (w.heap.size + 1 + 1) rfl (vc_len Hr.out) hO5) rfl ⟨rfl, hF5⟩
    · rw [if_pos rfl]
      have cP := fun W0 W h => plus_at (W0 := W0) (W := W) wv (ov rfl) m.inc h
      have Hr := keep (show (plusV v m.inc).bs.length = 16 from (fromV_wf _).hl)
      generalize plusV v m.inc = r at *
      clear km wm om wv ov him
      go_enter Try.func95, Try.ntmps95
      go_wp2_with (first
        | (go_at_call 103; refine (cP Z _ (by assumption)).mono ?_; rintro e w2 ⟨rfl, hz2⟩; have hM2 := hM.below hz2 hM.lt; have hO2 := hO.below hz2 hO.lt; have hF2 := fr_step hF hz2; clear hV hM hO hF m28 lv cP)
        | (refine wpList_store_at (ds := vc r) val_info rfl (.tmp 21) (.tmp 20) rfl (w.heap.size + 1) 11 rfl rfl (vc_len Hr.out) (vc_one _) hM2 (by rw [mc_len HlM.out]; decide) (mc_spliceV HlM.out Hr.out) ?_; intro X hMx hkx; have hOx := hkx.other hO2 (by omega); have hFx := hkx.fr hF2 (by omega); clear hkx hM2 hO2 hF2
           have lmV := msg_valAt hMx Hr.out
           have hXX := fr_refl X)
        | (refine wpList_store_at (ds := vc r) val_info rfl (.tmp 6) (.tmp 23) rfl (w.heap.size + 1 + 1) 0 rfl rfl (vc_len Hr.out) (vc_one _) hOx (by decide) (splice_all _ _ (by rw [vc_len Hr.out]; decide)) ?_; intro W5 hO5 hk5; have hF5 := hk5.fr hFx (by omega); clear hk5)
        | fail)
      exact bodyPost_ret (valS.result2 rfl _ (w.heap.size + 1 + 1) rfl (vc_len Hr.out) hO5) rfl ⟨rfl, hF5⟩
section
variable {W0 W : World} {v : RV} {m : RM}
theorem mapply_at {there : Bool} (wv : v.wf) (ov : there = true → okV v = true) (wm : m.wf) (om : okM m = true) (hb : Fr W0 W) : Calls Try.prog 95 #[vv v, .bool there, mm m] W fun e w' => e = .returned (.tuple #[vv (appV v there m), .bool (appB m)]) ∧ Fr W0 w' := (msg_apply v there m wv ov wm om W).mono fun _ _ ⟨he, hw⟩ => ⟨he, fr_step hb hw⟩
end
end Go.Proofs.Ytbdioipjgjbgmaa
/- Entries in memory: 'place' of the program. -/
namespace Go.Proofs.Ytbdioipjgjbgmaa
set_option maxRecDepth 100000
open Go.RowKit
set_option linter.unusedVariables false
attribute [local go_sem ↓] key_ld ent_ld
theorem eplace_boxed (w : World) (k : RK) : ∃ Z, (w.alloc (.cells (kc k).toArray 27)) = Z ∧ Fr w Z ∧ Fr Z Z ∧ Arr Z w.heap.size 27 (kc k).toArray ∧ Z.heap.size = w.heap.size + 1 := by
  refine ⟨_, rfl, fr_new (fr_refl w) _, fr_refl _, Arr.new w _ _, by simp⟩
theorem pair_info : (Try.prog.info? 100).map (·.size) = some 2 := by kernel_rfl
theorem int_info : (Try.prog.info? 3).map (·.size) = some 1 := by kernel_rfl
theorem int_one (a b : Int) : One [.int .i64 a, .int .i64 b] := .cons rfl (.cons rfl .nil)
theorem kept_cell {w W : World} {g : Nat} (h : Kept w W g) : True := trivial
set_option maxHeartbeats 4000000 in
theorem eplace_at {w : World} {A : Option Addr} {n c B : Nat} {l : List RE} {k : RK} (hl : Has w B A (rows ec l)) (hB : B ≤ w.heap.size) (hn : l.length = n) (hsm : n ≤ 1000000) (ol : OkE l) (wk : k.wf) (ok : okB k = true) :
    Calls Try.prog 73 #[.slice A n c, kv k] w fun e w' => e = .returned (.tuple #[.int .i64 (posE l (code k) : Nat), .bool (findE l k).isSome]) ∧ Fr w w' := by
  obtain ⟨Z, hZ, hF, hZZ, hK, hS⟩ := eplace_boxed w k
  have hlZ := hl.below (hF.mono hB)
  have hBZ : B ≤ Z.heap.size := by omega
  have hw := ol.wfe.wid
  have lk : ∀ W, Fr Z W → (ldS 27 (.pointer (some ⟨w.heap.size, 0, none⟩))).run Try.prog W = .ok (.agg (kc k).toArray) W := fun W h => keyS.ld (kc_len k) (hK.below h hK.lt)
  have Hn := keep hn
  have Hol := keep ol
  have Hw := keep hw
  have Hl := keep hlZ
  have Hwk := keep wk
  have Hok := keep ok
  clear hn ol hw hl hlZ hK wk ok
  go_enter Try.func73, Try.ntmps73
  go_wp2_with fail
  go_loopg [] n (fun g wr => ∃ lo hi : Nat, lo ≤ hi ∧ hi ≤ n ∧ hi - lo ≤ g ∧ Hid (Arr wr (w.heap.size + 1) 100 #[.int .i64 lo, .int .i64 hi]) ∧ Hid (Fr Z wr) ∧ Hid (∀ t m, t < lo → l[t]? = some m → ce m < code k) ∧ Hid (∀ t m, hi ≤ t → l[t]? = some m → code k ≤ ce m))
  case atStart => exact ⟨0, n, by omega, by omega, by omega, keep (arr_at _ _ _ _ hS), keep (fr_new hZZ _), keep (fun t m h => by omega), keep (fun t m h hm => by
    have h1 := (List.getElem?_eq_some_iff.1 hm).1
    have h2 := Hn.out
    omega)⟩
  case round =>
    obtain ⟨lo, hi, hlh, hhn, hg, hA, hZr, Hlo, Hhi⟩ := hrel
    have c0 : wr.cell? ⟨w.heap.size + 1, 0, none⟩ = some (.int .i64 lo) := hA.out.cell 0
    have c1 : wr.cell? ⟨w.heap.size + 1, 1, none⟩ = some (.int .i64 hi) := hA.out.cell 1
    have hrr := fr_refl wr
    have hZ1 := hZr.out
    by_cases hlt : lo < hi
    · obtain ⟨md, hmd, hmd1, hmd2⟩ : ∃ md : Nat, ((lo : Int) + (hi : Int)).tdiv 2 = (md : Int) ∧ lo ≤ md ∧ md < hi := ⟨(lo + hi) / 2, by rw [← Int.natCast_add]; rfl, by omega, by omega⟩
      have hmn : md < n := by omega
      have hm : l[md]? = some (l[md]'(by rw [Hn.out]; exact hmn)) := List.getElem?_eq_getElem _
      generalize l[md]'(by rw [Hn.out]; exact hmn) = m at hm
      obtain ⟨b, off, rfl, hb1, hr⟩ := has_rows Hl.out Hw.out (by decide) (by intro e; rw [e] at hm; simp at hm)
      have lX := elem_part (o := 0) keyS hr Hw.out (by omega) hm (ec_key m) (kc_len _)
      simp only [Nat.add_zero] at lX
      have gm := Hol.out.good m (emem_at hm)
      have cK := fun W0 W h => kcomp_at (W0 := W0) (W := W) gm.wk Hwk.out gm.ok Hok.out h
      have Hm := keep hm
      have Hgm := keep gm
      have hZD := fr_drew hZ1
      have hrD := fr_drew hrr
      have hltz : (lo : Int) < (hi : Int) := by omega
      have hmnz : (md : Int) < (n : Int) := by omega
      have hmd0 : (0 : Int) ≤ (md : Int) := by omega
      by_cases hc : cmpK m.key k < 0
      · have Hlo2 : Hid (∀ t x, t < md + 1 → l[t]? = some x → ce x < code k) := keep (fun t x ht hx => by
          have h1 := asc_at Hol.out hx Hm.out (by omega)
          have h2 := cmpK_lt.1 hc
          unfold ce at *
          omega)
        generalize cmpK m.key k = r at *
        clear hm hr gm hlt
        go_wp2_with fail
        go_region_held3 (fun w' => Fr Z w' ∧ Fr wr w') (first | (go_split_ands; exact ⟨hZD, hrD⟩) | (go_split_ands; exact ⟨by assumption, by assumption⟩))
          (first
            | (go_at_call 60; (with_reducible refine (cK wr _ (by assumption)).mono ?_); rintro e w9 ⟨rfl, hz9⟩; have hZ9 := fr_step hZ1 hz9))
        rename_i hH
        obtain ⟨hWZ, hWr⟩ := hH
        have hA9 := hA.out.below hWr hA.out.lt
        go_wp2_with (first
          | (refine wpList_store_at (ds := [.int .i64 ((md : Int) + 1)]) int_info rfl (.tmp 33) (.tmp 32) rfl (w.heap.size + 1) 0 rfl rfl rfl (one_of _ rfl) (cs := [.int .i64 lo, .int .i64 hi]) hA9 (by simp) (splice_cell _ _ _ (by simp)) ?_; intro W5 hM5 hk5; have hF5 := hk5.fr hWZ (by omega); clear hk5)
          | fail)
        go_roundg (gk - 1)
        case measure => omega
        case rel => exact ⟨md + 1, hi, by omega, by omega, by omega, keep hM5, keep hF5, Hlo2, Hhi⟩
      · have Hhi2 : Hid (∀ t x, md ≤ t → l[t]? = some x → code k ≤ ce x) := keep (fun t x ht hx => by
          have h1 := asc_at Hol.out Hm.out hx ht
          have h2 : code k ≤ code m.key := by
            have := cmpK_ge (a := m.key) (b := k)
            exact this.1 (by omega)
          unfold ce at *
          omega)
        generalize cmpK m.key k = r at *
        clear hm hr gm hlt
        go_wp2_with fail
        go_region_held3 (fun w' => Fr Z w' ∧ Fr wr w') (first | (go_split_ands; exact ⟨hZD, hrD⟩) | (go_split_ands; exact ⟨by assumption, by assumption⟩))
          (first
            | (go_at_call 60; (with_reducible refine (cK wr _ (by assumption)).mono ?_); rintro e w9 ⟨rfl, hz9⟩; have hZ9 := fr_step hZ1 hz9))
        rename_i hH
        obtain ⟨hWZ, hWr⟩ := hH
        have hA9 := hA.out.below hWr hA.out.lt
        go_wp2_with (first
          | (refine wpList_store_at (ds := [.int .i64 (md : Int)]) int_info rfl (.tmp 35) (.tmp 34) rfl (w.heap.size + 1) 1 rfl rfl rfl (one_of _ rfl) (cs := [.int .i64 lo, .int .i64 hi]) hA9 (by simp) (splice_cell _ _ _ (by simp)) ?_; intro W5 hM5 hk5; have hF5 := hk5.fr hWZ (by omega); clear hk5)
          | fail)
        go_roundg (gk - 1)
        case measure => omega
        case rel => exact ⟨lo, md, by omega, by omega, by omega, keep hM5, keep hF5, Hlo, Hhi2⟩
    · have hlz : ¬ (lo : Int) < (hi : Int) := by omega
      have elo : lo = posE l (code k) := by
        obtain rfl : lo = hi := by omega
        exact posE_uniq Hol.out (by rw [Hn.out]; exact hhn) Hlo.out Hhi.out
      have hf := efind_pos Hol.out Hwk.out Hok.out
      rw [← elo] at hf
      have Elo := keep elo
      have hZD := fr_drew hZ1
      by_cases hlt2 : lo < n
      · have hm : l[lo]? = some (l[lo]'(by rw [Hn.out]; exact hlt2)) := List.getElem?_eq_getElem _
        generalize l[lo]'(by rw [Hn.out]; exact hlt2) = m at hm
        rw [hm] at hf
        obtain ⟨b, off, rfl, hb1, hr⟩ := has_rows Hl.out Hw.out (by decide) (by intro e; rw [e] at hm; simp at hm)
        have gm := Hol.out.good m (emem_at hm)
        have lX := elem_part (o := 0) keyS hr Hw.out (by omega) hm (ec_key m) (kc_len _)
        simp only [Nat.add_zero] at lX
        have qE := fun W => key_eql gm.wk Hwk.out W
        have ef : (findE l k).isSome = decide (m.key = k) := by rw [hf]; by_cases e : m.key = k <;> simp [e]
        have Ef := keep ef
        have hjz : (lo : Int) < (n : Int) := by omega
        clear hf hm ef gm hr hlt hlt2 elo
        generalize decide (m.key = k) = q at *
        go_wp2_with fail
        go_region_held3 (fun w' => Fr Z w') (first | exact hZD | assumption) (first | fail)
        rename_i hH
        go_wp2
        go_ret2
        exact ⟨by rw [← Elo.out, Ef.out]; rfl, fr_step hF hH⟩
      · have hnone : l[lo]? = none := List.getElem?_eq_none (by rw [Hn.out]; omega)
        rw [hnone] at hf
        have ef : (findE l k).isSome = false := by rw [hf]; rfl
        have Ef := keep ef
        have hjz : ¬ (lo : Int) < (n : Int) := by omega
        have hjd : decide (lo < n) = false := by simpa using hlt2
        clear hf hnone ef hlt2 elo hlt
        go_wp2_with fail
        go_region
        all_goals go_wp2
        all_goals go_ret2
        all_goals exact ⟨by rw [← Elo.out, Ef.out]; rfl, fr_step hF (fr_drew hZ1)⟩
end Go.Proofs.Ytbdioipjgjbgmaa
/- Entries in memory: 'slices.Delete' of one, 'half'. -/
namespace Go.Proofs.Ytbdioipjgjbgmaa
set_option maxRecDepth 100000
open Go.RowKit
set_option linter.unusedVariables false
attribute [local go_sem ↓] key_ld ent_ld
theorem ents_slice_lh (A : Option Addr) (n c l h : Nat) (h1 : l ≤ h) (h2 : h ≤ c) (W : World) : (Instr.slice 53 (.slice A n c) (some (.int .i64 (l : Int))) (some (.int .i64 (h : Int))) none).run Try.prog W = .ok (.slice (lowE A c l) (h - l) (c - l)) W := by
  rw [run_slice_lh (P := Try.prog) (w := W) (t := 53) (ht := ents_el) A n c .i64 .i64 (l : Int) (h : Int) (by omega) (by omega) (by omega), ents_sz]
  simp only [Result.andThen, sliced, Int.toNat_natCast, lowE]
theorem del_math {l : List RE} {i n : Nat} (hi : i < n) (hn : l.length = n) (wl : WfE l) : (rows ec l).take (i * 26) ++ rows ec (l.drop (i + 1)) = rows ec (l.take i ++ l.drop (i + 1)) := by
  rw [rows_append, rows_take wl.wid]
set_option maxHeartbeats 2000000 in
theorem edelete_at {w : World} {A : Option Addr} {n c B i : Nat} {l : List RE} (ho : OwnE w B A c l) (hB : B ≤ w.heap.size) (hn : l.length = n) (hsm : n ≤ 1000000) (wl : WfE l) (hi : i < n) :
    Calls Try.prog 96 #[.slice A n c, .int .i64 i, .int .i64 ((i : Int) + 1)] w fun e w' => ∃ A' c', e = .returned (.slice A' (n - 1) c') ∧ OwnE w' B A' c' (l.take i ++ l.drop (i + 1)) ∧ Below B w w' := by
  unfold OwnE at ho
  rw [hn] at ho
  obtain ⟨g, rfl⟩ := ho.addr (by omega)
  have hlen : (rows ec l).length = n * 26 := by rw [rows_len wl.wid, hn]
  have hcap := ho.cap
  have hBg : B ≤ g := ho.row.2.1
  obtain ⟨inf, z, hinf, hsize, hz, hzs, -⟩ := ent_info'
  obtain ⟨a, ea, hal⟩ : ∃ a : Addr, lowE (some ⟨g, 0, none⟩) c (i + 1) = some a ∧ (i + 1 < c → a = ⟨g, (i + 1) * 26, none⟩) := by
    unfold lowE
    split
    · exact ⟨_, rfl, fun h => by omega⟩
    · exact ⟨_, rfl, fun _ => by simp [Addr.add_lit]⟩
  have hdl : (rows ec (l.drop (i + 1))).length = (n - (i + 1)) * 26 := by rw [rows_len (wl.wid.drop _), List.length_drop, hn]
  have hcells : ∀ j u, (rows ec (l.drop (i + 1)))[j]? = some u → w.drew.cell? (a.add j) = some u := fun j u hu => by
    have hj := (List.getElem?_eq_some_iff.1 hu).1
    rw [hdl] at hj
    have : i + 1 < c := by
      rcases Nat.lt_or_ge (i + 1) c with h | h
      · exact h
      · have : n - (i + 1) = 0 := by omega
        rw [this] at hj
        omega
    rw [hal this, Addr.add_lit]
    have h2 := has_rows_drop ho.has wl.wid (i + 1)
    rw [Nat.zero_add] at h2
    obtain ⟨b, off, e, -, hc⟩ := h2 j u hu
    injection e with e
    injection e with e1 e2
    subst e1 e2
    exact hc
  obtain ⟨w1, hr1, ho1, hg1⟩ := run_append_fits (P := Try.prog) w.drew B 53 53 69 inf 26 ents_under hinf hsize g i c _ (own_drew (ho.pre (i := i) (by omega))) a (n - (i + 1)) (c - (i + 1)) (rows ec (l.drop (i + 1))) hdl hcells (rows_ec_one _) (by omega)
  rw [del_math hi hn wl, show i + (n - (i + 1)) = n - 1 by omega] at ho1
  rw [show i + (n - (i + 1)) = n - 1 by omega] at hr1
  have ho1' : Own w1 B 69 26 (some ⟨g, 0, none⟩) (n - 1) c (rows ec (l.take i ++ l.drop (i + 1))) := ho1
  obtain ⟨ys, ho2, hys⟩ := ho1'.more (m := n) (by omega) hcap
  obtain ⟨w2, zs, hr2, ho3, hg2⟩ := run_clear_own (P := Try.prog) (size := 26) w1 53 0 inf z ents_under hinf hz hzs (by
    have e1 : (Try.prog.info? 69).bind (·.zero) = some (ev zeroE) := by kernel_rfl
    rw [hinf] at e1
    simp [hz] at e1
    subst e1
    exact ec_one zeroE) ho2 (n - 1) (c - (n - 1)) ((n - 1) * 26) (by omega) (.inl rfl)
  have hpre := ho3.pre (i := n - 1) (by omega)
  have hlr : (l.take i ++ l.drop (i + 1)).length = n - 1 := by rw [List.length_append, List.length_take, List.length_drop, hn]; omega
  have hwr : WfE (l.take i ++ l.drop (i + 1)) := fun x hx => by
    rcases List.mem_append.1 hx with hx | hx
    · exact wl x (List.mem_of_mem_take hx)
    · exact wl x (List.mem_of_mem_drop hx)
  have hlenr : (rows ec (l.take i ++ l.drop (i + 1))).length = (n - 1) * 26 := by rw [rows_len hwr.wid, hlr]
  rw [List.take_left' (by rw [List.length_take, List.length_append, hlenr, hys]; omega), List.take_left' hlenr] at hpre
  have Hpre := keep hpre
  have Hlr := keep hlr
  have Hb := keep (((Below.refl B w).drew.trans (grownBy_below hg1 hBg hB)).trans (grownBy_below hg2 hBg (Nat.le_trans hB ((Below.refl B w).drew.trans (grownBy_below hg1 hBg hB)).size)))
  rw [show n - (n - 1) = 1 by omega] at hr2
  have q0 := ents_slice_lhm (some ⟨g, 0, none⟩) n c i (i + 1) n (by omega) (by omega) hcap
  rw [Int.natCast_succ] at q0
  have q1 := ents_slice_hi (some ⟨g, 0, none⟩) n c i (by omega)
  have q2 := ents_slice_lo (some ⟨g, 0, none⟩) n c (i + 1) (by omega)
  rw [ea, Int.natCast_succ] at q2
  have q3 := ents_slice_lh (some ⟨g, 0, none⟩) (n - 1) c (n - 1) n (by omega) hcap
  rw [lowE_some (by omega), Nat.zero_add, show n - (n - 1) = 1 by omega] at q3
  have hne : ¬ ((i : Int) = (i : Int) + 1) := by omega
  clear ho ho1 ho1' ho2 ho3 hg1 hg2 hlen hcells hdl hinf hsize hz hzs hal ea hlr hwr hlenr hpre hys hn wl hBg hcap hi
  go_enter Try.func96, Try.ntmps96
  go_wp2_with fail
  go_region_law (first
    | (refine step_append_run rfl (.tmp 22) (.tmp 25) 53 53 rfl _ _ ?_ ?_ hr1 ?_
       · go_simp
       · go_simp)
    | fail)
  all_goals
    go_wp2_with (first
      | (refine wpList_clear_run _ rfl (.tmp 31) 53 rfl _ rfl hr2 ?_)
      | fail)
    go_ret
    refine ⟨some ⟨g, 0, none⟩, c, rfl, ?_, Hb.out⟩
    unfold OwnE
    rw [Hlr.out]
    exact Hpre.out
set_option maxHeartbeats 2000000 in
theorem ehalf_at {w : World} {A : Option Addr} {n c B : Nat} {l : List RE} (hl : Has w B A (rows ec l)) (hB : B ≤ w.heap.size) (hn : l.length = n) (h0 : 0 < n) (hsm : n ≤ 100000) (wl : WfE l) :
    Calls Try.prog 75 #[.slice A n c] w fun e w' => ∃ A' c', e = .returned (.slice A' n c') ∧ OwnE w' w.heap.size A' c' l ∧ Fr w w' := by
  obtain ⟨inf, z, hinf, hsize, hz, hzs, hby⟩ := ent_info'
  have hmk := run_make (P := Try.prog) w 53 69 inf z ents_under hinf hz .i64 .i64 n n (by omega) (Int.le_refl _) (by rw [hby]; omega) (by omega)
  simp only [Int.toNat_natCast, hsize] at hmk
  obtain ⟨W1, hW1⟩ : ∃ W1, w.alloc (.cells (madeCells z.cells (n * 26)) 69) = W1 := ⟨_, rfl⟩
  have hF : Fr w W1 := by rw [← hW1]; exact fr_new (fr_refl w) _
  have ho1 : Own W1 w.heap.size 69 26 (some ⟨w.heap.size, 0, none⟩) n n (madeCells z.cells (n * 26)).toList := by
    rw [← hW1]
    exact Own.lit w w.heap.size 69 _ n 26 (Nat.le_refl _) (by simp only [maxLen]; omega) (size_madeCells _ _)
  rw [hW1] at hmk
  have hlen : (rows ec l).length = n * 26 := by rw [rows_len wl.wid, hn]
  obtain ⟨w2, hr2, ho2, hg2⟩ := run_copy_own (P := Try.prog) W1 53 3 inf ents_under hinf hsize ho1 0 n n B A n n c (rows ec l) hlen (hl.below (hF.mono hB)) (rows_ec_one _) (Nat.min_self _) (by omega) h0 (by decide)
  have e9 : (madeCells z.cells (n * 26)).toList.take (0 * 26) ++ rows ec l ++ (madeCells z.cells (n * 26)).toList.drop ((0 + n) * 26) = rows ec l := by
    rw [Nat.zero_mul, List.take_zero, List.nil_append, List.drop_eq_nil_of_le (by rw [Array.length_toList, size_madeCells]; omega), List.append_nil]
  rw [e9] at ho2
  rw [Nat.zero_mul] at hr2
  have Ho2 := keep ho2
  have Hn := keep hn
  have Hb := keep ((hF).trans (grownBy_below hg2 (Nat.le_refl _) hF.size))
  clear ho1 ho2 hg2 e9 hlen hinf hsize hz hzs hby hn wl hl hW1
  go_enter Try.func75, Try.ntmps75
  go_wp2_with (first
    | (refine Lib.wpList_copy_run _ rfl (.tmp 7) (.tmp 8) 53 53 rfl _ _ rfl rfl hr2 ?_)
    | fail)
  go_ret
  refine ⟨some ⟨w.heap.size, 0, none⟩, n, rfl, ?_, Hb.out⟩
  unfold OwnE
  rw [Hn.out]
  exact Ho2.out
end Go.Proofs.Ytbdioipjgjbgmaa
/- Entries in memory: 'size', 'change' of the program. -/
namespace Go.Proofs.Ytbdioipjgjbgmaa
set_option maxRecDepth 100000
open Go.RowKit
set_option linter.unusedVariables false
attribute [local go_sem ↓] key_ld ent_ld val_ld msg_ld val_st
theorem ent_box1 (w : World) (e : RE) : ∃ Z, w.alloc (.cells (ec e).toArray 69) = Z ∧ Fr w Z ∧ Fr Z Z ∧ Arr Z w.heap.size 69 (ec e).toArray ∧ Z.heap.size = w.heap.size + 1 := ⟨_, rfl, fr_new (fr_refl w) _, fr_refl _, Arr.new w _ _, by simp⟩
set_option maxHeartbeats 1000000 in
theorem esize (e : RE) (hs : 0 ≤ e.key.n ∧ e.key.n ≤ 8 ∧ 0 ≤ e.val.n ∧ e.val.n ≤ 16) (w : World) : Calls Try.prog 74 #[ev e] w fun r w' => r = .returned (.int .i64 (bytE e)) ∧ Fr w w' := by
  obtain ⟨Z, hZ, hF, hZZ, hE, hS⟩ := ent_box1 w e
  have c0 := cellZ hE 0 (ec_0 e)
  have c9 := cellZ hE 9 (ec_9 e)
  obtain ⟨h1, h2, h3, h4⟩ := hs
  unfold bytE
  generalize e.key.n = a at *
  generalize e.val.n = b at *
  go_enter Try.func74, Try.ntmps74
  go_wp2_with fail
  go_ret
  exact ⟨rfl, hF⟩
theorem esize_at {W0 W : World} {e : RE} (hs : 0 ≤ e.key.n ∧ e.key.n ≤ 8 ∧ 0 ≤ e.val.n ∧ e.val.n ≤ 16) (hb : Fr W0 W) : Calls Try.prog 74 #[ev e] W fun r w' => r = .returned (.int .i64 (bytE e)) ∧ Fr W0 w' := (esize e hs W).mono fun _ _ ⟨he, hw⟩ => ⟨he, fr_step hb hw⟩
/-- A part of an element, stored. -/
theorem splice_part {α : Type} {cf : α → List Value} {size n j o : Nat} {l : List α} {x a : α} {ds : List Value} (hw : Wid cf size l) (hn : l.length = n) (hj : l[j]? = some x) (ho : o + ds.length ≤ size) (ha : splice (cf x) o ds = cf a) (ys : List Value) :
    splice (rows cf l ++ ys) (j * size + o) ds = rows cf (l.set j a) ++ ys := by
  have hjn := (List.getElem?_eq_some_iff.1 hj).1
  have ex := (List.getElem?_eq_some_iff.1 hj).2
  have hxl : (cf x).length = size := elem_len hw hj
  have e0 : l = l.take j ++ x :: l.drop (j + 1) := by
    rw [← ex, ← List.drop_eq_getElem_cons hjn, List.take_append_drop]
  have e1 : rows cf l = rows cf (l.take j) ++ (cf x ++ rows cf (l.drop (j + 1))) := by
    have h := congrArg (rows cf) e0
    rwa [rows_append, rows_cons] at h
  have e2 : rows cf (l.set j a) = rows cf (l.take j) ++ (cf a ++ rows cf (l.drop (j + 1))) := by
    rw [List.set_eq_take_append_cons_drop, if_pos hjn, rows_append, rows_cons]
  have hlen : (rows cf (l.take j)).length = j * size := by rw [rows_len (hw.take j), List.length_take, Nat.min_eq_left (by omega)]
  have hs : splice (cf x) o ds = (cf x).take o ++ ds ++ (cf x).drop (o + ds.length) := by simp [splice]
  rw [e2, ← ha, hs, e1, splice]
  have t1 : (rows cf (l.take j) ++ (cf x ++ rows cf (l.drop (j + 1))) ++ ys).take (j * size + o) = rows cf (l.take j) ++ (cf x).take o := by
    rw [List.append_assoc, List.take_append, List.take_of_length_le (by omega), hlen, Nat.add_sub_cancel_left, List.append_assoc, List.take_append_of_le_length (by omega)]
  have t2 : (rows cf (l.take j) ++ (cf x ++ rows cf (l.drop (j + 1))) ++ ys).drop (j * size + o + ds.length) = (cf x).drop (o + ds.length) ++ rows cf (l.drop (j + 1)) ++ ys := by
    rw [List.append_assoc, List.drop_append, List.drop_eq_nil_of_le (by omega), hlen, List.nil_append, Nat.add_assoc, Nat.add_sub_cancel_left, List.append_assoc, List.drop_append_of_le_length (by omega), List.append_assoc]
  rw [t1, t2]
  simp only [List.append_assoc]
theorem own_setp {P : Program} {α : Type} {cf : α → List Value} {w : World} {B T T' m size n c g j o : Nat} {l : List α} {x a : α} {ds : List Value} (hs : (P.info? T').map (·.size) = some m) (ho : Own w B T size (some ⟨g, 0, none⟩) n c (rows cf l)) (hw : Wid cf size l) (hn : l.length = n) (hj : l[j]? = some x) (ha : (cf a).length = size) (hd : ds.length = m) (hom : o + m ≤ size) (h1 : One ds) (hsp : splice (cf x) o ds = cf a) :
    ∃ W : World, (Instr.storeAt T' (.pointer (some ⟨g, j * size + o, none⟩)) (.agg ds.toArray)).run P w = .ok () W ∧ Own W B T size (some ⟨g, 0, none⟩) n c (rows cf (l.set j a)) ∧ (∀ B', B' ≤ B → B' ≤ w.heap.size → Below B' w W) := by
  obtain ⟨-, hb, hnc, hcm, cur, hg, hcs, hct⟩ := ho.row
  have hjn : j < n := by rw [← hn]; exact (List.getElem?_eq_some_iff.1 hj).1
  have hle : n * size ≤ c * size := Nat.mul_le_mul_right _ hnc
  have h9 : (j + 1) * size ≤ n * size := Nat.mul_le_mul_right _ hjn
  have h2 : j * size + size = (j + 1) * size := (Nat.succ_mul j size).symm
  have e0 : cur.toList = rows cf l ++ cur.toList.drop (n * size) := by rw [← hct, List.take_append_drop]
  have hlset : (rows cf (l.set j a)).length = n * size := by
    rw [rows_len (n := size) (fun b hb => by
      rcases List.mem_or_eq_of_mem_set hb with h | h
      · exact hw b h
      · rw [h]; exact ha), List.length_set, hn]
  have hA : Arr w g T cur.toList.toArray := by simpa using hg
  have esp : splice cur.toList (j * size + o) ds = rows cf (l.set j a) ++ cur.toList.drop (n * size) := by
    have := splice_part hw hn hj (by omega) hsp (cur.toList.drop (n * size))
    rw [← e0] at this
    exact this
  have hcl : cur.toList.length = c * size := by rw [Array.length_toList, hcs]
  refine ⟨w.setRow g (rows cf (l.set j a) ++ cur.toList.drop (n * size)).toArray, ?_, ?_, fun B' h1 h2 => ?_⟩
  · simp only [Instr.storeAt, Instr.sureAddr, Sem.run_bind, Sem.run_pure, Result.andThen_ok]
    rw [run_store_at (v := .agg ds.toArray) (ds := ds) hs rfl hd h1 hA (by omega), esp]
  · refine Own.of_row (hA.setRow _) hb hnc hcm ?_ ?_
    · simp only [List.size_toArray, List.length_append, List.length_drop, hlset, hcl]
      omega
    · simp only
      exact List.take_left' hlset
  · exact ⟨rfl, rfl, rfl, by simp [World.setRow], fun k hk => setRow_other w g k _ (by omega)⟩
theorem wpList_store_part {P : Program} {α : Type} {cf : α → List Value} {w : World} {ops : Array Oper} {rest : List Oper} {o : Oper} {a : Act} {Q : Exit → Act → World → Prop} {B T T' m size n c g j of : Nat} {l : List α} {x y : α} {ds : List Value} (hs : (P.info? T').map (·.size) = some m) (hgd : o.guard = none) (px py : Operand) (hop : o.op = .store T' px py)
    (hx : a.eval px = .pointer (some ⟨g, j * size + of, none⟩)) (hy : a.eval py = .agg ds.toArray) (ho : Own w B T size (some ⟨g, 0, none⟩) n c (rows cf l)) (hw : Wid cf size l) (hn : l.length = n) (hj : l[j]? = some x) (ha : (cf y).length = size) (hd : ds.length = m) (hom : of + m ≤ size) (h1 : One ds) (hsp : splice (cf x) of ds = cf y) (hB : B ≤ w.heap.size)
    (h : ∀ W, Own W B T size (some ⟨g, 0, none⟩) n c (rows cf (l.set j y)) → Below B w W → wpList P ops Q rest (a.put o.dst undef) W) : wpList P ops Q (o :: rest) a w := by
  obtain ⟨W, hr, so, sb⟩ := own_setp (P := P) hs ho hw hn hj ha hd hom h1 hsp
  refine wpList_plain hgd fun K hK => ?_
  unfold Oper.wp execOp
  simp only [hop, hx, hy, Sem.run_bind, Sem.run_pure, Result.andThen_ok, hr]
  exact hK _ _ (h _ so (sb B (Nat.le_refl _) hB))
end Go.Proofs.Ytbdioipjgjbgmaa
/- Entries in memory: 'change' of the program. -/
namespace Go.Proofs.Ytbdioipjgjbgmaa
set_option maxRecDepth 100000
open Go.RowKit
set_option linter.unusedVariables false
attribute [local go_sem ↓] key_ld ent_ld val_ld msg_ld
theorem zeroV_cells : (vc zeroV).toArray = #[.int .i64 0, .int .u8 0, .int .u8 0, .int .u8 0, .int .u8 0, .int .u8 0, .int .u8 0, .int .u8 0, .int .u8 0, .int .u8 0, .int .u8 0, .int .u8 0, .int .u8 0, .int .u8 0, .int .u8 0, .int .u8 0, .int .u8 0] := rfl
theorem zeroE_cells : (ec zeroE).toArray = #[.int .i64 0, .int .u8 0, .int .u8 0, .int .u8 0, .int .u8 0, .int .u8 0, .int .u8 0, .int .u8 0, .int .u8 0, .int .i64 0, .int .u8 0, .int .u8 0, .int .u8 0, .int .u8 0, .int .u8 0, .int .u8 0, .int .u8 0, .int .u8 0, .int .u8 0, .int .u8 0, .int .u8 0, .int .u8 0, .int .u8 0, .int .u8 0, .int .u8 0, .int .u8 0] := rfl
theorem fold_off (o : Nat) : ∀ (cs : List Value) (k : Nat) (z : Array Value), List.foldl (fun (cs : Array Value) (x : Value × Nat) => cs.setIfInBounds (o + x.snd) x.fst) z (cs.zipIdx k) = List.foldl (fun (cs : Array Value) (x : Value × Nat) => cs.setIfInBounds x.snd x.fst) z (cs.zipIdx (o + k))
  | [], k, z => rfl
  | v :: cs, k, z => by
    rw [List.zipIdx_cons, List.zipIdx_cons, List.foldl_cons, List.foldl_cons, fold_off o cs (k + 1)]
    rfl
/-- An entry's cells, built from its parts. -/
theorem ent_built (k : RK) {v : RV} (hl : v.bs.length = 16) : List.foldl (fun (cs : Array Value) (x : Value × Nat) => cs.setIfInBounds (9 + x.snd) x.fst) #[.int .i64 k.n, .int .u8 k.b0, .int .u8 k.b1, .int .u8 k.b2, .int .u8 k.b3, .int .u8 k.b4, .int .u8 k.b5, .int .u8 k.b6, .int .u8 k.b7, .int .i64 0, .int .u8 0, .int .u8 0, .int .u8 0, .int .u8 0, .int .u8 0, .int .u8 0, .int .u8 0, .int .u8 0, .int .u8 0, .int .u8 0, .int .u8 0, .int .u8 0, .int .u8 0, .int .u8 0, .int .u8 0, .int .u8 0] (vc v).zipIdx = (ec ⟨k, v⟩).toArray := by
  rw [fold_off 9 (vc v) 0, build_fold (vc v) (9 + 0) _ (by rw [vc_len hl]; rfl)]
  rfl
theorem ent_fold {e : RE} (hl : e.val.bs.length = 16) : List.foldl (fun (cs : Array Value) (x : Value × Nat) => cs.setIfInBounds x.snd x.fst) #[.int .i64 0, .int .u8 0, .int .u8 0, .int .u8 0, .int .u8 0, .int .u8 0, .int .u8 0, .int .u8 0, .int .u8 0, .int .i64 0, .int .u8 0, .int .u8 0, .int .u8 0, .int .u8 0, .int .u8 0, .int .u8 0, .int .u8 0, .int .u8 0, .int .u8 0, .int .u8 0, .int .u8 0, .int .u8 0, .int .u8 0, .int .u8 0, .int .u8 0, .int .u8 0] (ec e).zipIdx = (ec e).toArray := by
  have := build_fold (ec e) 0 (ec zeroE).toArray (by rw [ec_len hl]; rfl)
  rw [zeroE_cells] at this
  simpa using this
set_option maxHeartbeats 2000000 in
theorem echange_new {w : World} {A : Option Addr} {n c B : Nat} {l : List RE} {m : RM} (ho : OwnE w B A c l) (hB : B ≤ w.heap.size) (hn : l.length = n) (hsm : n ≤ 100000) (ol : OkE l) (wm : m.wf) (om : okM m = true) (hf : findE l m.key = none) :
    Calls Try.prog 78 #[.slice A n c, mm m] w fun e w' => ∃ A' c', e = .returned (.slice A' (putE l m).length c') ∧ OwnE w' B A' c' (putE l m) ∧ Below B w w' := by
  obtain ⟨Z, hZ, hF, hZZ, hM, hS⟩ := msg_box1 w m
  have hoZ : OwnE Z B A c l := Own.below ho hF (Nat.le_refl _)
  have cP := eplace_at (c := c) hoZ.has (Nat.le_refl _) hn (by omega) ol wm.key (okM_key om)
  rw [hf] at cP
  have hFB := hF.mono hB
  have hBZ : B ≤ Z.heap.size := Nat.le_trans hB hF.size
  have lK := msg_keyAt hM
  have lM := msg_all hM wm.val.hl
  have cA : ∀ W, Calls Try.prog 95 #[.agg #[.int .i64 0, .int .u8 0, .int .u8 0, .int .u8 0, .int .u8 0, .int .u8 0, .int .u8 0, .int .u8 0, .int .u8 0, .int .u8 0, .int .u8 0, .int .u8 0, .int .u8 0, .int .u8 0, .int .u8 0, .int .u8 0, .int .u8 0], .bool false, mm m] W fun e w' => e = .returned (.tuple #[vv (appV zeroV false m), .bool (appB m)]) ∧ Fr W w' := fun W => mapply_at zeroV_wf (fun h => by cases h) wm om (fr_refl W)
  have wv := appV_wf (t := false) zeroV_wf wm
  have hpe : putE l m = setE l m.key (if appB m = true then some (appV zeroV false m) else none) := by
    unfold putE appO
    rw [hf]
    rfl
  have hsp := setE_pos (o := if appB m = true then some (appV zeroV false m) else none) ol wm.key (okM_key om)
  rw [hf] at hsp
  rw [hpe]
  simp only [Option.isSome_none] at cP
  cases hb : appB m with
  | false =>
    rw [hb] at cA hsp
    have e1 : setE l m.key (if false = true then some (appV zeroV false m) else none) = l := hsp
    rw [e1, hn]
    generalize appV zeroV false m = v at *
    generalize posE l (code m.key) = p at *
    have HlV := keep (vc_len wv.hl)
    have Ho := keep hoZ
    clear ho hoZ hf hM ol wm om hsp hpe e1 wv hn
    go_enter Try.func78, Try.ntmps78
    go_wp2_with (first
      | (go_at_call 73; refine cP.mono ?_; rintro e W ⟨rfl, hW⟩
         have hWA := fr_new hW (.cells (vc zeroV).toArray 34)
         have haV := Arr.new W (vc zeroV).toArray 34
         have lz := ld_fr haV rfl _ (fr_refl _)
         rw [zeroV_cells] at hWA haV lz
         have hAA := fr_refl (W.alloc (.cells #[.int .i64 0, .int .u8 0, .int .u8 0, .int .u8 0, .int .u8 0, .int .u8 0, .int .u8 0, .int .u8 0, .int .u8 0, .int .u8 0, .int .u8 0, .int .u8 0, .int .u8 0, .int .u8 0, .int .u8 0, .int .u8 0, .int .u8 0] 34)))
      | (go_at_call 95; (with_reducible refine (cA _).mono ?_); rintro e w9 ⟨rfl, hz9⟩; have haV9 := haV.below hz9 haV.lt; have hF9 := fr_step hWA hz9)
      | (refine wpList_store_at (ds := vc v) val_info rfl (.tmp 7) (.tmp 27) rfl W.heap.size 0 rfl rfl HlV.out (vc_one _) haV9 (by decide) (splice_all _ _ (by rw [HlV.out]; decide)) ?_; intro Y hVy hky; have hFy := hky.fr hF9 hW.size; clear hky)
      | fail)
    go_ret
    exact ⟨A, c, rfl, Ho.out.fr hFy, hFB.trans (hFy.mono hBZ)⟩
  | true =>
    rw [hb] at cA hsp
    have e1 : setE l m.key (if true = true then some (appV zeroV false m) else none) = l.take (posE l (code m.key)) ++ ⟨m.key, appV zeroV false m⟩ :: l.drop (posE l (code m.key)) := hsp
    rw [e1]
    have hple := posE_le l (code m.key)
    have hlr : (l.take (posE l (code m.key)) ++ ⟨m.key, appV zeroV false m⟩ :: l.drop (posE l (code m.key))).length = n + 1 := by
      simp [hn]
      omega
    rw [hlr]
    have wle := ol.wfe
    generalize appV zeroV false m = v at *
    generalize posE l (code m.key) = p at *
    have HlV := keep (vc_len wv.hl)
    have hln : (ec ⟨m.key, v⟩).length = 26 := ec_len wv.hl
    have hf1 := ent_built m.key wv.hl
    have hf2 := ent_fold (e := ⟨m.key, v⟩) wv.hl
    have we : RE.wf ⟨m.key, v⟩ := ⟨wm.key, wv⟩
    have Hwl := keep wle
    obtain ⟨e, he⟩ : ∃ e : RE, (⟨m.key, v⟩ : RE) = e := ⟨_, rfl⟩
    rw [he] at hln hf1 hf2 we hlr ⊢
    have hlv : (vc v).length = 17 := vc_len wv.hl
    have Ho := keep hoZ
    have cI : ∀ W, Fr Z W → Calls Try.prog 97 #[.slice A n c, .int .i64 (p : Nat), .slice (some ⟨W.heap.size, 0, none⟩) 1 1] (W.alloc (.cells (ec e).toArray 69)) fun r w' => ∃ A' c', r = .returned (.slice A' (n + 1) c') ∧ OwnE w' B A' c' (l.take p ++ e :: l.drop p) ∧ Below B w w' := fun W hW => by
      have hoW : OwnE W B A c l := Own.below hoZ hW (Nat.le_refl _)
      have hb : Below B w W := hFB.trans (hW.mono hBZ)
      have hsz : B ≤ W.heap.size := Nat.le_trans hB hb.size
      refine (einsert_at (V := W.heap.size) (i := p) (hoW.alloc _) (by simp; omega) hn (by omega) wle we (Arr.new W _ _) (fun e => by have := (hoW.lt _ e).2; omega) (by rw [← hn]; exact hple)).mono ?_
      rintro r w' ⟨A', c', rfl, h1, h2⟩
      exact ⟨A', c', rfl, h1, (hb.alloc hsz _).trans h2⟩
    have Hlr := keep hlr
    clear ho hoZ hf hM ol om hsp hpe e1 hb wv we he wle hlr hple hn
    go_enter Try.func78, Try.ntmps78
    go_wp2_with (first
      | (go_at_call 73; refine cP.mono ?_; rintro e W ⟨rfl, hW⟩
         have hWA := fr_new hW (.cells (vc zeroV).toArray 34)
         have haV := Arr.new W (vc zeroV).toArray 34
         have lz := ld_fr haV rfl _ (fr_refl _)
         rw [zeroV_cells] at hWA haV lz
         have hAA := fr_refl (W.alloc (.cells #[.int .i64 0, .int .u8 0, .int .u8 0, .int .u8 0, .int .u8 0, .int .u8 0, .int .u8 0, .int .u8 0, .int .u8 0, .int .u8 0, .int .u8 0, .int .u8 0, .int .u8 0, .int .u8 0, .int .u8 0, .int .u8 0, .int .u8 0] 34)))
      | (go_at_call 95; (with_reducible refine (cA _).mono ?_); rintro e w9 ⟨rfl, hz9⟩; have haV9 := haV.below hz9 haV.lt; have hF9 := fr_step hWA hz9; clear lz hAA hWA haV hz9)
      | (refine wpList_store_at (ds := vc v) val_info rfl (.tmp 7) (.tmp 27) rfl W.heap.size 0 rfl rfl HlV.out (vc_one _) haV9 (by decide) (splice_all _ _ (by rw [HlV.out]; decide)) ?_; intro Y hVy hky; have hFy := hky.fr hF9 hW.size; have lv := ld_fr hVy HlV.out; have hYY := fr_refl Y; clear hky haV9)
      | fail)
    refine (cI _ hFy).mono ?_
    rintro r w' ⟨A', c', rfl, h1, h2⟩
    go_wp2_with fail
    go_ret
    exact ⟨A', c', rfl, h1, h2⟩
set_option maxHeartbeats 2000000 in
theorem echange_old {w : World} {A : Option Addr} {n c B : Nat} {l : List RE} {m : RM} {x : RV} (ho : OwnE w B A c l) (hB : B ≤ w.heap.size) (hn : l.length = n) (hsm : n ≤ 100000) (ol : OkE l) (wm : m.wf) (om : okM m = true) (hf : findE l m.key = some x) :
    Calls Try.prog 78 #[.slice A n c, mm m] w fun e w' => ∃ A' c', e = .returned (.slice A' (putE l m).length c') ∧ OwnE w' B A' c' (putE l m) ∧ Below B w w' := by
  obtain ⟨Z, hZ, hF, hZZ, hM, hS⟩ := msg_box1 w m
  have hoZ : OwnE Z B A c l := Own.below ho hF (Nat.le_refl _)
  have cP := eplace_at (c := c) hoZ.has (Nat.le_refl _) hn (by omega) ol wm.key (okM_key om)
  rw [hf] at cP
  have hFB := hF.mono hB
  have hBZ : B ≤ Z.heap.size := Nat.le_trans hB hF.size
  have lK := msg_keyAt hM
  have lM := msg_all hM wm.val.hl
  have hx := efind_some ol wm.key (okM_key om) hf
  have gx := ol.good _ (emem_at hx)
  have wx := gx.wv
  have cA : ∀ W, Calls Try.prog 95 #[vv x, .bool true, mm m] W fun e w' => e = .returned (.tuple #[vv (appV x true m), .bool (appB m)]) ∧ Fr W w' := fun W => mapply_at wx (fun h => gx.ov) wm om (fr_refl W)
  have wv := appV_wf (t := true) wx wm
  have hpe : putE l m = setE l m.key (if appB m = true then some (appV x true m) else none) := by
    unfold putE appO
    rw [hf]
    rfl
  have hsp := setE_pos (o := if appB m = true then some (appV x true m) else none) ol wm.key (okM_key om)
  rw [hf] at hsp
  rw [hpe]
  simp only [Option.isSome_some] at cP
  have hp : posE l (code m.key) < n := by rw [← hn]; exact (List.getElem?_eq_some_iff.1 hx).1
  obtain ⟨g, rfl⟩ := hoZ.addr (by omega)
  have hoZn : Own Z B 69 26 (some ⟨g, 0, none⟩) n c (rows ec l) := by rw [← hn]; exact hoZ
  obtain ⟨-, hBg, -, -, cur, hcur, -, -⟩ := hoZ.row
  have hgs : g < Z.heap.size := hcur.lt
  have hr : Z.rangeAt g 0 (rows ec l) := fun j v hj => by
    obtain ⟨b, off, e, -, hc⟩ := hoZ.has j v hj
    injection e with e
    injection e with e1 e2
    subst e1 e2
    exact hc
  have lX := elem_part (o := 9) valS hr ol.wfe.wid hgs hx (ec_val (e := ⟨m.key, x⟩) wx.hl) (vc_len wx.hl)
  have HlX := keep (vc_len wx.hl)
  have hpz : (posE l (code m.key) : Int) < (n : Int) := by omega
  have hlx : (vc x).length = 17 := vc_len wx.hl
  rw [Nat.zero_add] at lX
  cases hb : appB m with
  | false =>
    rw [hb] at cA hsp
    have e1 : setE l m.key (if false = true then some (appV x true m) else none) = l.take (posE l (code m.key)) ++ l.drop (posE l (code m.key) + 1) := hsp
    rw [e1]
    have hlr : (l.take (posE l (code m.key)) ++ l.drop (posE l (code m.key) + 1)).length = n - 1 := by
      simp [hn]
      omega
    rw [hlr]
    have wle := ol.wfe
    generalize appV x true m = v at *
    generalize posE l (code m.key) = p at *
    have HlV := keep (vc_len wv.hl)
    have hlv : (vc v).length = 17 := vc_len wv.hl
    have cD : ∀ W, Fr Z W → Calls Try.prog 96 #[.slice (some ⟨g, 0, none⟩) n c, .int .i64 (p : Nat), .int .i64 ((p : Int) + 1)] W fun r w' => ∃ A' c', r = .returned (.slice A' (n - 1) c') ∧ OwnE w' B A' c' (l.take p ++ l.drop (p + 1)) ∧ Below B w w' := fun W hW => by
      have hoW : OwnE W B (some ⟨g, 0, none⟩) c l := Own.below hoZ hW (Nat.le_refl _)
      have hb : Below B w W := hFB.trans (hW.mono hBZ)
      refine (edelete_at hoW (Nat.le_trans hB hb.size) hn (by omega) wle hp).mono ?_
      rintro r w' ⟨A', c', rfl, h1, h2⟩
      exact ⟨A', c', rfl, h1, hb.trans h2⟩
    clear ho hoZ hoZn hf hM ol om hsp hpe e1 hb wv wle hlr hp hr hx gx wx hn cur hcur
    go_enter Try.func78, Try.ntmps78
    go_wp2_with (first
      | (go_at_call 73; refine cP.mono ?_; rintro e W ⟨rfl, hW⟩; have hWA := fr_new hW (.cells (vc zeroV).toArray 34); rw [zeroV_cells] at hWA)
      | (refine wpList_store_at (ds := vc x) val_info rfl (.tmp 7) (.tmp 21) rfl W.heap.size 0 rfl rfl HlX.out (vc_one _) (Arr.new W (vc zeroV).toArray 34) (by decide) (splice_all _ _ (by rw [HlX.out]; decide)) ?_; intro Y hVy hky; have hFy := hky.fr (fr_new hW _) hW.size; have lv := ld_fr hVy HlX.out; have hYY := fr_refl Y; clear hky)
      | (go_at_call 95; (with_reducible refine (cA _).mono ?_); rintro e w9 ⟨rfl, hz9⟩; have haV9 := hVy.below hz9 hVy.lt; have hF9 := fr_step hFy hz9; clear lv hYY hVy hz9)
      | (refine wpList_store_at (ds := vc v) val_info rfl (.tmp 7) (.tmp 27) rfl W.heap.size 0 rfl rfl HlV.out (vc_one _) haV9 (by rw [HlX.out]; decide) (splice_all _ _ (by rw [HlV.out, HlX.out]; decide)) ?_; intro Y2 hV2 hk2; have hF2 := hk2.fr hF9 hW.size; clear hk2 haV9)
      | (go_at_call 96; (with_reducible refine (cD _ hF2).mono ?_); rintro r w' ⟨A', c', rfl, h1, h2⟩)
      | fail)
    go_ret
    exact ⟨A', c', rfl, h1, h2⟩
  | true =>
    rw [hb] at cA hsp
    have e1 : setE l m.key (if true = true then some (appV x true m) else none) = l.set (posE l (code m.key)) ⟨m.key, appV x true m⟩ := hsp
    rw [e1, List.length_set, hn]
    have wle := ol.wfe
    generalize appV x true m = v at *
    generalize posE l (code m.key) = p at *
    have HlV := keep (vc_len wv.hl)
    have hlv : (vc v).length = 17 := vc_len wv.hl
    have Hx := keep hx
    have Hwid := keep wle.wid
    have Hn := keep hn
    have Hely := keep (ec_len (e := ⟨m.key, v⟩) wv.hl)
    have Hsp := keep (ec_spliceV (e := ⟨m.key, x⟩) wx.hl wv.hl)
    have cO : ∀ W, Fr Z W → Own W B 69 26 (some ⟨g, 0, none⟩) n c (rows ec l) := fun W h => Own.below hoZn h (Nat.le_refl _)
    clear ho hoZ hoZn hf hM ol om hsp hpe e1 hb wv wle hp hr hx gx wx hn cur hcur
    go_enter Try.func78, Try.ntmps78
    go_wp2_with (first
      | (go_at_call 73; refine cP.mono ?_; rintro e W ⟨rfl, hW⟩; have hWA := fr_new hW (.cells (vc zeroV).toArray 34); rw [zeroV_cells] at hWA)
      | (refine wpList_store_at (ds := vc x) val_info rfl (.tmp 7) (.tmp 21) rfl W.heap.size 0 rfl rfl HlX.out (vc_one _) (Arr.new W (vc zeroV).toArray 34) (by decide) (splice_all _ _ (by rw [HlX.out]; decide)) ?_; intro Y hVy hky; have hFy := hky.fr (fr_new hW _) hW.size; have lv := ld_fr hVy HlX.out; have hYY := fr_refl Y; clear hky)
      | (go_at_call 95; (with_reducible refine (cA _).mono ?_); rintro e w9 ⟨rfl, hz9⟩; have haV9 := hVy.below hz9 hVy.lt; have hF9 := fr_step hFy hz9; clear lv hYY hVy hz9)
      | (refine wpList_store_at (ds := vc v) val_info rfl (.tmp 7) (.tmp 27) rfl W.heap.size 0 rfl rfl HlV.out (vc_one _) haV9 (by rw [HlX.out]; decide) (splice_all _ _ (by rw [HlV.out, HlX.out]; decide)) ?_; intro Y2 hV2 hk2; have hF2 := hk2.fr hF9 hW.size; have lv2 := ld_fr hV2 HlV.out; have h22 := fr_refl Y2; clear hk2 haV9)
      | (refine wpList_store_part (j := p) (of := 9) (x := ⟨m.key, x⟩) (y := ⟨m.key, v⟩) val_info rfl (.tmp 38) (.tmp 36) rfl rfl rfl (cO _ hF2) Hwid.out Hn.out Hx.out Hely.out HlV.out (by decide) (vc_one _) Hsp.out (Nat.le_trans hBZ hF2.size) ?_; intro W10 ho10 hb10)
      | fail)
    go_ret
    refine ⟨some ⟨g, 0, none⟩, c, rfl, ?_, (hFB.trans (hF2.mono hBZ)).trans hb10⟩
    unfold OwnE
    rw [List.length_set, Hn.out]
    exact ho10
theorem echange_at {w : World} {A : Option Addr} {n c B : Nat} {l : List RE} {m : RM} (ho : OwnE w B A c l) (hB : B ≤ w.heap.size) (hn : l.length = n) (hsm : n ≤ 100000) (ol : OkE l) (wm : m.wf) (om : okM m = true) :
    Calls Try.prog 78 #[.slice A n c, mm m] w fun e w' => ∃ A' c', e = .returned (.slice A' (putE l m).length c') ∧ OwnE w' B A' c' (putE l m) ∧ Below B w w' := by
  cases hf : findE l m.key with
  | none => exact echange_new ho hB hn hsm ol wm om hf
  | some x => exact echange_old ho hB hn hsm ol wm om hf
end Go.Proofs.Ytbdioipjgjbgmaa
