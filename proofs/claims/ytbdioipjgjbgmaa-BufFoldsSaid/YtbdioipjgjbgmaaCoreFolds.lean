/- BufFolds, walked. -/
import Derived.Test.YtbdioipjgjbgmaaLfQ
namespace Go.Proofs.Ytbdioipjgjbgmaa
set_option maxRecDepth 100000
open Go.RowKit
set_option linter.unusedVariables false
attribute [local go_sem ↓] key_ld ent_ld val_ld msg_ld
set_option maxHeartbeats 4000000 in
theorem bufFolds_core {w : World} {A0 A1 A2 : Option Addr} {n0 c0 n1 c1 n2 c2 : Nat} {es ns ms : List Int} (hl0 : Has w w.heap.size A0 (es.map (Value.int .i64))) (hn0 : es.length = n0) (hes : ∀ z ∈ es, Is64 z) (hnm0 : n0 ≤ maxLen) (hl1 : Has w w.heap.size A1 (ns.map (Value.int .i64))) (hn1 : ns.length = n1) (hns : ∀ z ∈ ns, Is64 z) (hnm1 : n1 ≤ maxLen) (hl2 : Has w w.heap.size A2 (ms.map (Value.int .i64))) (hn2 : ms.length = n2) (hms : ∀ z ∈ ms, Is64 z) (hnm2 : n2 ≤ maxLen) :
    Calls Try.prog 6 #[.slice A0 n0 c0, .slice A1 n1 c1, .slice A2 n2 c2] w fun e w' => e = .returned (.bool true) ∧ Below w.heap.size w w' := by
  have cE := fun W (h : Fr w W) => qents (W := W) (c := c0) (most := 2000) (hl0.fr (Nat.le_refl _) h) h.size hn0 hes (by omega) hnm0
  have ox := entsL_ok es 2000
  have hlx := entsL_len es 2000
  have cM1 := fun W (h : Fr w W) => qmsgs (W := W) (c := c1) (most := 2000) (hl1.fr (Nat.le_refl _) h) h.size hn1 hns (by omega) hnm1
  have ol := msgsL_ok ns 2000
  have hll := msgsL_len ns 2000
  have cM2 := fun W (h : Fr w W) => qmsgs (W := W) (c := c2) (most := 2000) (hl2.fr (Nat.le_refl _) h) h.size hn2 hms (by omega) hnm2
  have om := msgsL_ok ms 2000
  have hlm := msgsL_len ms 2000
  generalize entsL es 2000 = x at *
  generalize msgsL ns 2000 = l at *
  generalize msgsL ms 2000 = m at *
  clear hl0 hn0 hes hl1 hn1 hns hl2 hn2 hms
  have o1 := allE_ok ox ol.good
  have k1 := allE_le l x
  have o2 := allE_ok o1 om.good
  have k2 := allE_le m (allE x l)
  have oq := allL_ok ol om.good
  have kq := allL_le m l
  have e1 := allE_all ox ol om
  have e2 := allL_nil ol
  have cA1 := fun W A c A2 c2 (ho : Hid (OwnE W 0 A c x)) (h2 : Hid (OwnM W 0 A2 c2 l)) => qrall (c2 := c2) ho (by omega) ox (keep h2.out.has) (keep (Nat.le_refl _)) (keep rfl) (by omega) ol.good
  have cA2 := fun W A c A2 c2 (ho : Hid (OwnE W 0 A c (allE x l))) (h2 : Hid (OwnM W 0 A2 c2 m)) => qrall (c2 := c2) ho (by omega) o1 (keep h2.out.has) (keep (Nat.le_refl _)) (keep rfl) (by omega) om.good
  have cB1 := fun W A c A2 c2 (ho : Hid (OwnM W 0 A c l)) (h2 : Hid (OwnM W 0 A2 c2 m)) => qmall ho (by omega) ol h2 (by omega) om
  have cA3 := fun W A c A2 c2 (ho : Hid (OwnE W 0 A c x)) (h2 : Hid (OwnM W 0 A2 c2 (allL l m))) => qrall (c2 := c2) ho (by omega) ox (keep h2.out.has) (keep (Nat.le_refl _)) (keep rfl) (by omega) oq.good
  rw [← e1] at cA3
  have cS1 : ∀ W A c A2 c2, Hid (OwnE W 0 A c (allE (allE x l) m)) → Hid (OwnE W 0 A2 c2 (allE (allE x l) m)) → Calls Try.prog 39 #[.slice A (allE (allE x l) m).length c, .slice A2 (allE (allE x l) m).length c2] W fun e w' => e = .returned (.bool true) ∧ Fr W w' := fun W A c A2 c2 h h' => by
    have := ref_esame (c := c) (c2 := c2) h.out.has (Nat.le_refl _) rfl (by omega) o2.wfe h'.out.has (Nat.le_refl _) rfl (by omega) o2.wfe
    rwa [decide_eq_true rfl] at this
  have cB0 : ∀ W A2 c2, Hid (OwnM W 0 A2 c2 l) → Calls Try.prog 26 #[.slice none 0 0, .slice A2 l.length c2] W fun e w' => ∃ A' c', e = .returned (.slice A' l.length c') ∧ Hid (OwnM w' 0 A' c' l) ∧ Fr W w' := fun W A2 c2 h2 => by
    have k := all_at (A := none) (B := 0) (l := []) (c := 0) (c2 := c2) Has.nil (Nat.zero_le _) rfl (by simp) OkL.nil h2.out.has (Nat.le_refl _) rfl (by omega) ol.good
    rw [e2] at k
    exact k.mono fun e w' h => by
      obtain ⟨A', c', e1, h1, h2⟩ := h
      exact ⟨A', c', e1, keep (h1.mono (Nat.zero_le _)), h2⟩
  have cS2 : ∀ W A c A2 c2, Hid (OwnM W 0 A c (allL l m)) → Hid (OwnM W 0 A2 c2 (allL l m)) → Calls Try.prog 23 #[.slice A (allL l m).length c, .slice A2 (allL l m).length c2] W fun e w' => e = .returned (.bool true) ∧ Fr W w' := fun W A c A2 c2 h h' => by
    have := qmsame h (by omega) oq.good.wfm h' (by omega) oq.good.wfm
    rwa [decide_eq_true rfl] at this
  have cW := fun W0 W h => awake6_at (W0 := W0) (W := W) h
  have rr := fr_refl w
  have top := fr_refl w
  generalize allE (allE x l) m = one at *
  generalize allE x l = x1 at *
  generalize allL l m = lm at *
  clear ox ol om o1 o2 oq e1 e2
  go_enter Try.func6, Try.ntmps6
  go_wp2_with fail
  refine (cM1 _ top).mono ?_
  rintro e v1 ⟨A3, c3, rfl, hl, f1⟩
  replace top := fr_step top f1
  have rr := fr_refl v1
  go_wp2_with fail
  refine (cM2 _ top).mono ?_
  rintro e v2 ⟨A4, c4, rfl, hm, f2⟩
  replace top := fr_step top f2
  replace hl := keep (Own.below hl.out f2 (Nat.le_refl _))
  have rr := fr_refl v2
  go_wp2_with fail
  refine (cE _ top).mono ?_
  rintro e v3 ⟨A5, c5, rfl, hx, f3⟩
  replace top := fr_step top f3
  replace hl := keep (Own.below hl.out f3 (Nat.le_refl _))
  replace hm := keep (Own.below hm.out f3 (Nat.le_refl _))
  have rr := fr_refl v3
  go_wp2_with fail
  refine (cA1 _ _ _ _ _ hx hl).mono ?_
  rintro e v4 ⟨A6, c6, rfl, h6, f4⟩
  replace top := fr_step top f4
  replace hl := keep (Own.below hl.out f4 (Nat.le_refl _))
  replace hm := keep (Own.below hm.out f4 (Nat.le_refl _))
  replace hx := keep (Own.below hx.out f4 (Nat.le_refl _))
  have rr := fr_refl v4
  go_wp2_with fail
  refine (cA2 _ _ _ _ _ h6 hm).mono ?_
  rintro e v5 ⟨A7, c7, rfl, h7, f5⟩
  replace top := fr_step top f5
  replace hl := keep (Own.below hl.out f5 (Nat.le_refl _))
  replace hm := keep (Own.below hm.out f5 (Nat.le_refl _))
  replace hx := keep (Own.below hx.out f5 (Nat.le_refl _))
  replace h6 := keep (Own.below h6.out f5 (Nat.le_refl _))
  have rr := fr_refl v5
  go_wp2_with fail
  refine (cB1 _ _ _ _ _ hl hm).mono ?_
  rintro e v6 ⟨A8, c8, rfl, h8, f6⟩
  replace top := fr_step top f6
  replace hl := keep (Own.below hl.out f6 (Nat.le_refl _))
  replace hm := keep (Own.below hm.out f6 (Nat.le_refl _))
  replace hx := keep (Own.below hx.out f6 (Nat.le_refl _))
  replace h6 := keep (Own.below h6.out f6 (Nat.le_refl _))
  replace h7 := keep (Own.below h7.out f6 (Nat.le_refl _))
  have rr := fr_refl v6
  go_wp2_with fail
  refine (cA3 _ _ _ _ _ hx h8).mono ?_
  rintro e v7 ⟨A9, c9, rfl, h9, f7⟩
  replace top := fr_step top f7
  replace hl := keep (Own.below hl.out f7 (Nat.le_refl _))
  replace hm := keep (Own.below hm.out f7 (Nat.le_refl _))
  replace hx := keep (Own.below hx.out f7 (Nat.le_refl _))
  replace h6 := keep (Own.below h6.out f7 (Nat.le_refl _))
  replace h7 := keep (Own.below h7.out f7 (Nat.le_refl _))
  replace h8 := keep (Own.below h8.out f7 (Nat.le_refl _))
  have rr := fr_refl v7
  go_wp2_with fail
  refine (cS1 _ _ _ _ _ h9 h7).mono ?_
  rintro e v8 ⟨rfl, f8⟩
  replace top := fr_step top f8
  replace hl := keep (Own.below hl.out f8 (Nat.le_refl _))
  replace hm := keep (Own.below hm.out f8 (Nat.le_refl _))
  replace hx := keep (Own.below hx.out f8 (Nat.le_refl _))
  replace h6 := keep (Own.below h6.out f8 (Nat.le_refl _))
  replace h7 := keep (Own.below h7.out f8 (Nat.le_refl _))
  replace h8 := keep (Own.below h8.out f8 (Nat.le_refl _))
  replace h9 := keep (Own.below h9.out f8 (Nat.le_refl _))
  have rr := fr_refl v8
  go_wp2_with fail
  refine (cB0 _ _ _ hl).mono ?_
  rintro e v9 ⟨A10, c10, rfl, h10, f9⟩
  replace top := fr_step top f9
  replace hl := keep (Own.below hl.out f9 (Nat.le_refl _))
  replace hm := keep (Own.below hm.out f9 (Nat.le_refl _))
  replace hx := keep (Own.below hx.out f9 (Nat.le_refl _))
  replace h6 := keep (Own.below h6.out f9 (Nat.le_refl _))
  replace h7 := keep (Own.below h7.out f9 (Nat.le_refl _))
  replace h8 := keep (Own.below h8.out f9 (Nat.le_refl _))
  replace h9 := keep (Own.below h9.out f9 (Nat.le_refl _))
  have rr := fr_refl v9
  go_wp2_with fail
  refine (cB1 _ _ _ _ _ h10 hm).mono ?_
  rintro e v10 ⟨A11, c11, rfl, h11, f10⟩
  replace top := fr_step top f10
  replace hl := keep (Own.below hl.out f10 (Nat.le_refl _))
  replace hm := keep (Own.below hm.out f10 (Nat.le_refl _))
  replace hx := keep (Own.below hx.out f10 (Nat.le_refl _))
  replace h6 := keep (Own.below h6.out f10 (Nat.le_refl _))
  replace h7 := keep (Own.below h7.out f10 (Nat.le_refl _))
  replace h8 := keep (Own.below h8.out f10 (Nat.le_refl _))
  replace h9 := keep (Own.below h9.out f10 (Nat.le_refl _))
  replace h10 := keep (Own.below h10.out f10 (Nat.le_refl _))
  have rr := fr_refl v10
  go_wp2_with fail
  refine (cB1 _ _ _ _ _ hl hm).mono ?_
  rintro e v11 ⟨A12, c12, rfl, h12, f11⟩
  replace top := fr_step top f11
  replace hl := keep (Own.below hl.out f11 (Nat.le_refl _))
  replace hm := keep (Own.below hm.out f11 (Nat.le_refl _))
  replace hx := keep (Own.below hx.out f11 (Nat.le_refl _))
  replace h6 := keep (Own.below h6.out f11 (Nat.le_refl _))
  replace h7 := keep (Own.below h7.out f11 (Nat.le_refl _))
  replace h8 := keep (Own.below h8.out f11 (Nat.le_refl _))
  replace h9 := keep (Own.below h9.out f11 (Nat.le_refl _))
  replace h10 := keep (Own.below h10.out f11 (Nat.le_refl _))
  replace h11 := keep (Own.below h11.out f11 (Nat.le_refl _))
  have rr := fr_refl v11
  go_wp2_with fail
  refine (cS2 _ _ _ _ _ h11 h12).mono ?_
  rintro e v12 ⟨rfl, f12⟩
  replace top := fr_step top f12
  replace hl := keep (Own.below hl.out f12 (Nat.le_refl _))
  replace hm := keep (Own.below hm.out f12 (Nat.le_refl _))
  replace hx := keep (Own.below hx.out f12 (Nat.le_refl _))
  replace h6 := keep (Own.below h6.out f12 (Nat.le_refl _))
  replace h7 := keep (Own.below h7.out f12 (Nat.le_refl _))
  replace h8 := keep (Own.below h8.out f12 (Nat.le_refl _))
  replace h9 := keep (Own.below h9.out f12 (Nat.le_refl _))
  replace h10 := keep (Own.below h10.out f12 (Nat.le_refl _))
  replace h11 := keep (Own.below h11.out f12 (Nat.le_refl _))
  replace h12 := keep (Own.below h12.out f12 (Nat.le_refl _))
  have rr := fr_refl v12
  go_wp2_with fail
  refine (cW _ _ rr).mono ?_
  rintro e v13 ⟨rfl, f13⟩
  replace top := fr_step top f13
  replace hl := keep (Own.below hl.out f13 (Nat.le_refl _))
  replace hm := keep (Own.below hm.out f13 (Nat.le_refl _))
  replace hx := keep (Own.below hx.out f13 (Nat.le_refl _))
  replace h6 := keep (Own.below h6.out f13 (Nat.le_refl _))
  replace h7 := keep (Own.below h7.out f13 (Nat.le_refl _))
  replace h8 := keep (Own.below h8.out f13 (Nat.le_refl _))
  replace h9 := keep (Own.below h9.out f13 (Nat.le_refl _))
  replace h10 := keep (Own.below h10.out f13 (Nat.le_refl _))
  replace h11 := keep (Own.below h11.out f13 (Nat.le_refl _))
  replace h12 := keep (Own.below h12.out f13 (Nat.le_refl _))
  have rr := fr_refl v13
  go_wp2_with fail
  go_ret
  exact ⟨rfl, top⟩
end Go.Proofs.Ytbdioipjgjbgmaa
