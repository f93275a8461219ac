/- BufAll, walked. -/
import Derived.Test.YtnfoebcfhldemaaRPart
import Derived.Test.YtnfoebcfhldemaaBufR
import Derived.Test.YtnfoebcfhldemaaBcParts
namespace Go.Proofs.Ytnfoebcfhldemaa
set_option maxRecDepth 100000
open Go.RowKit
set_option linter.unusedVariables false
attribute [local go_sem ↓] key_ld msg_ld
theorem has_stp {w W : World} {A : Option Addr} {xs : List Value} (h : Has w w.heap.size A xs) (f : Fr w W) : Has W W.heap.size A xs := (h.fr (Nat.le_refl _) f).mono f.size
theorem lessL_le (l g : List RM) : (lessL l g).length ≤ l.length := List.length_filter_le _ _
theorem batL_le (l : List RM) : (batL l).length ≤ l.length := by
  unfold batL
  rw [List.length_take]
  omega
theorem btw_part {l : List RM} {ps : List RK} {i n2 : Nat} (hn2 : ps.length = n2) (hi : i ≤ n2) : btw ps i l = partI l ps (i : Int) := by
  rw [partI_nat hn2 hi]
  unfold partL
  rw [if_neg (by omega)]
  rfl
set_option maxHeartbeats 1000000 in
theorem ref_part_out {w : World} {A A2 : Option Addr} {n c n2 c2 : Nat} {i : Int} (hi : i < 0 ∨ (n2 : Int) < i) :
    Calls Try.prog 26 #[.slice A n c, .slice A2 n2 c2, .int .i64 i] w fun e w' => e = .returned (.slice none 0 0) ∧ Fr w w' := by
  have rr := fr_refl w
  rcases hi with hi | hi
  · go_enter Try.func26, Try.ntmps26
    go_wp2_with fail
    go_ret
    exact ⟨rfl, rr⟩
  · have h0 : ¬ i < 0 := by omega
    go_enter Try.func26, Try.ntmps26
    go_wp2_with fail
    go_ret
    exact ⟨rfl, rr⟩
theorem qrpart {W : World} {A A2 : Option Addr} {c c2 : Nat} {l : List RM} {ps : List RK} {i : Int} (ho : Hid (OwnM W 0 A c l)) (hs : l.length ≤ 100000) (ol : OkL l) (h2 : Hid (Own W 0 27 9 A2 ps.length c2 (rows kc ps))) (hs2 : ps.length ≤ 100000) (op : OkP ps) :
    Calls Try.prog 26 #[.slice A l.length c, .slice A2 ps.length c2, .int .i64 i] W fun e w' => ∃ A' c', e = .returned (.slice A' (partI l ps i).length c') ∧ Hid (Has w' w'.heap.size A' (rows mc (partI l ps i))) ∧ Fr W w' := by
  by_cases h : 0 ≤ i ∧ i ≤ (ps.length : Int)
  · obtain ⟨j, rfl⟩ : ∃ j : Nat, i = j := ⟨i.toNat, by omega⟩
    have hj : j ≤ ps.length := by omega
    rw [← btw_part (l := l) rfl hj]
    exact (ref_part_in (c := c) (c2 := c2) ho.out.has (Nat.le_refl _) rfl hs ol h2.out.has (Nat.le_refl _) rfl hs2 op j hj).mono fun e w' h => by
      obtain ⟨A', c', e1, h1, h2⟩ := h
      exact ⟨A', c', e1, keep h1.has, h2⟩
  · have hp : partI l ps i = [] := partI_none (by omega)
    rw [hp]
    exact (ref_part_out (by omega)).mono fun e w' ⟨h1, h2⟩ => ⟨none, 0, h1, keep Has.nil, h2⟩
theorem qpart {W : World} {A A2 : Option Addr} {c c2 : Nat} {l : List RM} {ps : List RK} {i : Int} (ho : Hid (OwnM W 0 A c l)) (hs : l.length ≤ 100000) (ol : OkL l) (h2 : Hid (Own W 0 27 9 A2 ps.length c2 (rows kc ps))) (hs2 : ps.length ≤ 100000) (op : OkP ps) (hi : Is64 i) :
    Calls Try.prog 25 #[.slice A l.length c, .slice A2 ps.length c2, .int .i64 i] W fun e w' => ∃ A' c', e = .returned (.slice A' (partI l ps i).length c') ∧ Hid (Has w' w'.heap.size A' (rows mc (partI l ps i))) ∧ Fr W w' :=
  (part_at (c := c) (c2 := c2) ho.out.has (Nat.le_refl _) rfl ho.out.cap hs ol h2.out.has (Nat.le_refl _) rfl hs2 op i hi).mono fun e w' h => by
    obtain ⟨A', c', e1, h1, -, h3⟩ := h
    exact ⟨A', c', e1, keep (has_stp h1 h3), h3⟩
theorem batL_len (l : List RM) : (batL l).length = batC 0 l := by
  unfold batL
  rw [List.length_take]
  have := batC_le 0 l
  omega
theorem qbatch {W : World} {A : Option Addr} {c : Nat} {l : List RM} (ho : Hid (OwnM W 0 A c l)) (hs : l.length ≤ 100000) (ol : OkL l) :
    Calls Try.prog 27 #[.slice A l.length c] W fun e w' => ∃ A' c', e = .returned (.slice A' (batL l).length c') ∧ Hid (Has w' w'.heap.size A' (rows mc (batL l))) ∧ Fr W w' :=
  (batch_at (c := c) ho.out.has (Nat.le_refl _) rfl ho.out.cap hs ol.good.wfm).mono fun e w' h => by
    rw [batL_len]
    exact ⟨A, batC 0 l, h.1, keep (has_stp (has_rows_take ho.out.has (fun a ha => mc_len (ol.good a ha).1.val.hl) _) h.2), h.2⟩
theorem qrbatch {W : World} {A : Option Addr} {c : Nat} {l : List RM} (ho : Hid (OwnM W 0 A c l)) (hs : l.length ≤ 100000) (ol : OkL l) :
    Calls Try.prog 28 #[.slice A l.length c] W fun e w' => ∃ A' c', e = .returned (.slice A' (batL l).length c') ∧ Hid (Has w' w'.heap.size A' (rows mc (batL l))) ∧ Fr W w' :=
  (ref_batch (c := c) ho.out.has (Nat.le_refl _) rfl hs ol.good.wfm).mono fun e w' h => by
    obtain ⟨A', c', e1, h1, h2⟩ := h
    exact ⟨A', c', e1, keep h1.has, h2⟩
theorem qless {W : World} {A A2 : Option Addr} {c c2 : Nat} {l g : List RM} (ho : Hid (OwnM W 0 A c l)) (hs : l.length ≤ 100000) (ol : OkL l) (h2 : Hid (OwnM W 0 A2 c2 g)) (hs2 : g.length ≤ 100000) (og : OkL g) :
    Calls Try.prog 29 #[.slice A l.length c, .slice A2 g.length c2] W fun e w' => ∃ A' c', e = .returned (.slice A' (lessL l g).length c') ∧ Hid (Has w' w'.heap.size A' (rows mc (lessL l g))) ∧ Fr W w' :=
  (less_at (c := c) (c2 := c2) ho.out.has (Nat.le_refl _) rfl hs ol.good.wfm h2.out.has (Nat.le_refl _) rfl hs2 og.good.wfm).mono fun e w' h => by
    obtain ⟨A', c', e1, h1, h2⟩ := h
    exact ⟨A', c', e1, keep h1.has, h2⟩
theorem qrless {W : World} {A A2 : Option Addr} {c c2 : Nat} {l g : List RM} (ho : Hid (OwnM W 0 A c l)) (hs : l.length ≤ 100000) (ol : OkL l) (h2 : Hid (OwnM W 0 A2 c2 g)) (hs2 : g.length ≤ 100000) (og : OkL g) :
    Calls Try.prog 30 #[.slice A l.length c, .slice A2 g.length c2] W fun e w' => ∃ A' c', e = .returned (.slice A' (lessL l g).length c') ∧ Hid (Has w' w'.heap.size A' (rows mc (lessL l g))) ∧ Fr W w' :=
  (ref_less (c := c) (c2 := c2) ho.out.has (Nat.le_refl _) rfl hs ol.good.wfm h2.out.has (Nat.le_refl _) rfl hs2 og.good.wfm).mono fun e w' h => by
    obtain ⟨A', c', e1, h1, h2⟩ := h
    exact ⟨A', c', e1, keep h1.has, h2⟩
theorem qhsame {W : World} {A A2 : Option Addr} {c c2 : Nat} {l : List RM} (hs : l.length ≤ 100000) (wl : WfM l) (h1 : Hid (Has W W.heap.size A (rows mc l))) (h2 : Hid (Has W W.heap.size A2 (rows mc l))) :
    Calls Try.prog 20 #[.slice A l.length c, .slice A2 l.length c2] W fun e w' => e = .returned (.bool true) ∧ Fr W w' := by
  have := same_at (c := c) (c2 := c2) h1.out (Nat.le_refl _) rfl hs wl h2.out (Nat.le_refl _) rfl hs wl (fr_refl W)
  rwa [decide_eq_true rfl] at this
theorem HasStep {w W : World} {A : Option Addr} {xs : List Value} (h : Hid (Has w w.heap.size A xs)) (f : Fr w W) : Hid (Has W W.heap.size A xs) := keep (has_stp h.out f)
theorem OwnMStep {w W : World} {A : Option Addr} {c : Nat} {l : List RM} (h : Hid (OwnM w 0 A c l)) (f : Fr w W) : Hid (OwnM W 0 A c l) := keep (Own.below h.out f (Nat.le_refl _))
set_option maxHeartbeats 8000000 in
theorem bufAll_core {w : World} {A0 A1 A9 : Option Addr} {n0 c0 n1 c1 n9 c9 : Nat} {ns ms ks : List Int} {kn i : Int} (hl0 : Has w w.heap.size A0 (ns.map (Value.int .i64))) (hn0 : ns.length = n0) (hns : ∀ z ∈ ns, Is64 z) (hnm0 : n0 ≤ maxLen) (hl1 : Has w w.heap.size A1 (ms.map (Value.int .i64))) (hn1 : ms.length = n1) (hms : ∀ z ∈ ms, Is64 z) (hnm1 : n1 ≤ maxLen) (hkn : Is64 kn) (hi : Is64 i) (hl9 : Has w w.heap.size A9 (ks.map (Value.int .i64))) (hn9 : ks.length = n9) (hks : ∀ z ∈ ks, Is64 z) (hnm9 : n9 ≤ maxLen) :
    Calls Try.prog 3 #[.slice A0 n0 c0, .slice A1 n1 c1, .int .i64 kn, .int .i64 i, .slice A9 n9 c9] w fun e w' => e = .returned (.bool true) ∧ Below w.heap.size w w' := by
  have cM1 := qmsgs (c := c0) (most := 2000) hl0 (Nat.le_refl _) hn0 hns (by omega) hnm0
  have cM2 := fun W (h : Fr w W) => qmsgs (W := W) (c := c1) (most := 2000) (hl1.fr (Nat.le_refl _) h) h.size hn1 hms (by omega) hnm1
  have cPv := fun W (h : Fr w W) => qpivs (W := W) (c := c9) (most := 6) (hl9.fr (Nat.le_refl _) h) h.size hn9 hks (by omega) hnm9
  have ol := msgsL_ok ns 2000
  have hlen := msgsL_len ns 2000
  have oq := msgsL_ok ms 2000
  have hlen2 := msgsL_len ms 2000
  have op := pivsL_ok ks 6
  have hlen3 := pivsL_len ks 6 (by omega)
  have cX := fun W => law_key_at (W0 := W) (W := W) hkn (fr_refl W)
  have cN := fun W => law_msg_at (W0 := W) (W := W) (v := kn) (s := 99) hkn (by unfold Is64; omega) (fr_refl W)
  have wk := lawK_wf kn
  have ok := lawK_ok kn
  have wm := lawM_wf kn 99
  have om := lawM_ok kn 99
  have cW := fun W => awake6_at (W0 := W) (W := W) (fr_refl W)
  have hi8 : Is64 (i.tmod 8) := by
    have h1 := Int.lt_tmod_of_pos i (show (0 : Int) < 8 by omega)
    have h2 := Int.tmod_lt_of_pos i (show (0 : Int) < 8 by omega)
    unfold Is64
    omega
  generalize msgsL ns 2000 = l at *
  generalize msgsL ms 2000 = q at *
  generalize pivsL ks 6 = ps at *
  generalize lawK kn = k at *
  generalize lawM kn 99 = m at *
  have wx : ((findL l k).getD zeroM).wf := getM_wf fun y hy => (ol.good y (findL_mem hy).1).1
  have oa := addL_ok ol wm om
  have oal := allL_ok ol oq.good
  have hla := addL_le l m
  have hlal : (allL l q).length ≤ l.length + q.length := allL_le q l
  have cF := fun W A c (ho : Hid (OwnM W 0 A c l)) => qmfind (k := k) ho (by omega) ol wk ok
  have cRF := fun W A c (ho : Hid (OwnM W 0 A c l)) => qmrfind (k := k) ho (by omega) ol wk
  unfold findV at cF cRF
  have cC := fun W A c (ho : Hid (OwnM W 0 A c l)) => qmcheck ho (by omega) ol
  have cRC := fun W A c (ho : Hid (OwnM W 0 A c l)) => qmrcheck ho (by omega) ol
  have cB := fun W A c (ho : Hid (OwnM W 0 A c l)) => qmbytes ho (by omega) ol
  have cRB := fun W A c (ho : Hid (OwnM W 0 A c l)) => qmrbytes ho (by omega) ol
  have cA := fun W A c (ho : Hid (OwnM W 0 A c l)) => qadd (m := m) ho (by omega) ol wm om
  have cRA := fun W A c (ho : Hid (OwnM W 0 A c l)) => qradd (m := m) ho (by omega) ol wm om
  have cL := fun W A c A2 c2 (ho : Hid (OwnM W 0 A c l)) (h2 : Hid (OwnM W 0 A2 c2 q)) => qmall ho (by omega) ol h2 (by omega) oq
  have cRL := fun W A c A2 c2 (ho : Hid (OwnM W 0 A c l)) (h2 : Hid (OwnM W 0 A2 c2 q)) => qmrall ho (by omega) ol h2 (by omega) oq.good
  have cSA : ∀ W A c A2 c2, Hid (OwnM W 0 A c (addL l m)) → Hid (OwnM W 0 A2 c2 (addL l m)) → Calls Try.prog 20 #[.slice A (addL l m).length c, .slice A2 (addL l m).length c2] W fun e w' => e = .returned (.bool true) ∧ Fr W w' := fun W A c A2 c2 h h' => by
    have := qmsame h (by omega) oa.good.wfm h' (by omega) oa.good.wfm
    rwa [decide_eq_true rfl] at this
  have cSL : ∀ W A c A2 c2, Hid (OwnM W 0 A c (allL l q)) → Hid (OwnM W 0 A2 c2 (allL l q)) → Calls Try.prog 20 #[.slice A (allL l q).length c, .slice A2 (allL l q).length c2] W fun e w' => e = .returned (.bool true) ∧ Fr W w' := fun W A c A2 c2 h h' => by
    have := qmsame h (by omega) oal.good.wfm h' (by omega) oal.good.wfm
    rwa [decide_eq_true rfl] at this
  have wfP : ∀ j, WfM (partI l ps j) := fun j y hy => by
    unfold partI at hy
    split at hy
    · exact (ol.good y (part_mem hy).1).1
    · simp at hy
  have lenP : ∀ j, (partI l ps j).length ≤ l.length := fun j => by
    unfold partI
    split
    · exact partL_len _ _ _
    · simp
  have P1 := fun W A c A2 c2 (ho : Hid (OwnM W 0 A c l)) (h2 : Hid (Own W 0 27 9 A2 ps.length c2 (rows kc ps))) => qpart ho (by omega) ol h2 (by omega) op hi
  have RP1 := fun W A c A2 c2 (ho : Hid (OwnM W 0 A c l)) (h2 : Hid (Own W 0 27 9 A2 ps.length c2 (rows kc ps))) => qrpart (i := i) ho (by omega) ol h2 (by omega) op
  have P2 := fun W A c A2 c2 (ho : Hid (OwnM W 0 A c l)) (h2 : Hid (Own W 0 27 9 A2 ps.length c2 (rows kc ps))) => qpart ho (by omega) ol h2 (by omega) op hi8
  have RP2 := fun W A c A2 c2 (ho : Hid (OwnM W 0 A c l)) (h2 : Hid (Own W 0 27 9 A2 ps.length c2 (rows kc ps))) => qrpart (i := i.tmod 8) ho (by omega) ol h2 (by omega) op
  have S1 := fun W A c A2 c2 => qhsame (W := W) (A := A) (c := c) (A2 := A2) (c2 := c2) (l := partI l ps i) (by have := lenP i; omega) (wfP i)
  have S2 := fun W A c A2 c2 => qhsame (W := W) (A := A) (c := c) (A2 := A2) (c2 := c2) (l := partI l ps (i.tmod 8)) (by have := lenP (i.tmod 8); omega) (wfP _)
  have B1 := fun W A c (ho : Hid (OwnM W 0 A c l)) => qbatch ho (by omega) ol
  have RB1 := fun W A c (ho : Hid (OwnM W 0 A c l)) => qrbatch ho (by omega) ol
  have S3 := fun W A c A2 c2 => qhsame (W := W) (A := A) (c := c) (A2 := A2) (c2 := c2) (l := batL l) (by have := batL_le l; omega) (fun y hy => (ol.good y (List.mem_of_mem_take hy)).1)
  have L1 := fun W A c A2 c2 (ho : Hid (OwnM W 0 A c l)) (h2 : Hid (OwnM W 0 A2 c2 q)) => qless ho (by omega) ol h2 (by omega) oq
  have RL1 := fun W A c A2 c2 (ho : Hid (OwnM W 0 A c l)) (h2 : Hid (OwnM W 0 A2 c2 q)) => qrless ho (by omega) ol h2 (by omega) oq
  have S4 := fun W A c A2 c2 => qhsame (W := W) (A := A) (c := c) (A2 := A2) (c2 := c2) (l := lessL l q) (by have := lessL_le l q; omega) (lessL_ok ol).good.wfm
  have qx := fun W => msg_nself wx W
  have Hlm := keep (mc_len wm.val.hl)
  have Hlx := keep (mc_len wx.val.hl)
  generalize (findL l k).isSome = b0 at *
  generalize (findL l k).getD zeroM = x at *
  generalize addL l m = la at *
  generalize allL l q = al at *
  generalize bytL l = by0 at *
  generalize partI l ps i = pa at *
  generalize partI l ps (i.tmod 8) = pb at *
  generalize batL l = ba at *
  generalize lessL l q = le at *
  have b0n : (b0 != b0) = false := by cases b0 <;> rfl
  have byn : (by0 != by0) = false := by simp
  have rr := fr_refl w
  have top := fr_refl w
  clear hl0 hn0 hns hl1 hn1 hms hkn hl9 hn9 hks hnm0 hnm1 hnm9 hi hi8 ol oq op wk ok wm om wx oa oal hla hlal wfP lenP
  go_enter Try.func3, Try.ntmps3
  go_wp2_with fail
  refine cM1.mono ?_
  rintro e v1 ⟨A, c, rfl, hl, f1⟩
  go_wp2_with fail
  refine (cM2 _ f1).mono ?_
  rintro e v2 ⟨A2, c2, rfl, hq, f2⟩
  replace hl := OwnMStep hl f2
  replace f2 := fr_step f1 f2
  go_wp2_with fail
  refine (cX _).mono ?_
  rintro e v3 ⟨rfl, f3⟩
  replace hl := OwnMStep hl f3
  replace hq := OwnMStep hq f3
  replace f3 := fr_step f2 f3
  go_wp2_with fail
  refine (cPv _ f3).mono ?_
  rintro e v4 ⟨A3, c3, rfl, hp, f4⟩
  replace hl := OwnMStep hl f4
  replace hq := OwnMStep hq f4
  replace top := fr_step f3 f4
  have hrr := fr_refl v4
  clear f1 f2 f3 f4 cM1 cM2 cX cPv
  have tok : Hid (0 < 1) := keep (by decide)
  go_wp2_with (first
    | (clear tok; refine wpList_store_at (ds := kc k) key_info rfl (.tmp 13) (.tmp 25) rfl v4.heap.size 0 rfl rfl (kc_len _) (kc_one _) (Arr.new v4 (kc zeroK).toArray 27) (by rw [kc_len]; decide) (splice_all _ _ (Nat.le_of_eq rfl)) ?_; intro V1 hM1 hk1; have st1 := hk1.fr (fr_new (fr_refl v4) _) (Nat.le_refl _); have lK : ∀ W, Fr V1 W → (ldS 27 (.pointer (some ⟨v4.heap.size, 0, none⟩))).run Try.prog W = .ok (.agg (kc k).toArray) W := fun W h => keyS.ld (kc_len _) (hM1.below h hM1.lt); have rr1 := fr_refl V1; clear hM1 hk1)
    | fail)
  replace hl := OwnMStep hl st1
  replace hq := OwnMStep hq st1
  replace hp := keep (Own.below hp.out st1 (Nat.le_refl _))
  replace top := fr_step top st1
  have rV1 := fr_refl V1
  clear st1
  refine (cN V1).mono ?_
  rintro e V2 ⟨rfl, st2⟩
  replace hl := OwnMStep hl st2
  replace hq := OwnMStep hq st2
  replace hp := keep (Own.below hp.out st2 (Nat.le_refl _))
  replace lK := fun (W : World) (h : Fr V2 W) => lK W (fr_step st2 h)
  replace top := fr_step top st2
  have rV2 := fr_refl V2
  clear st2
  have tok : Hid (0 < 1) := keep (by decide)
  go_wp2_with (first
    | (clear tok; refine wpList_store_at (ds := mc m) msg_info rfl (.tmp 15) (.tmp 29) rfl V2.heap.size 0 rfl rfl Hlm.out (mc_one _) (Arr.new V2 (mc zeroM).toArray 36) (by decide) (splice_all _ _ (by rw [Hlm.out]; decide)) ?_; intro V3 hM3 hk3; have st3 := hk3.fr (fr_new (fr_refl V2) _) (Nat.le_refl _); have lM : ∀ W, Fr V3 W → (ldS 36 (.pointer (some ⟨V2.heap.size, 0, none⟩))).run Try.prog W = .ok (.agg (mc m).toArray) W := fun W h => msgS.ld Hlm.out (hM3.below h hM3.lt); have rr3 := fr_refl V3; clear hM3 hk3)
    | fail)
  replace hl := OwnMStep hl st3
  replace hq := OwnMStep hq st3
  replace hp := keep (Own.below hp.out st3 (Nat.le_refl _))
  replace lK := fun (W : World) (h : Fr V3 W) => lK W (fr_step st3 h)
  replace top := fr_step top st3
  have rV3 := fr_refl V3
  clear st3
  refine (cF V3 _ _ hl).mono ?_
  rintro e V4 ⟨rfl, st4⟩
  replace hl := OwnMStep hl st4
  replace hq := OwnMStep hq st4
  replace hp := keep (Own.below hp.out st4 (Nat.le_refl _))
  replace lK := fun (W : World) (h : Fr V4 W) => lK W (fr_step st4 h)
  replace lM := fun (W : World) (h : Fr V4 W) => lM W (fr_step st4 h)
  replace top := fr_step top st4
  have rV4 := fr_refl V4
  clear st4
  have tok : Hid (0 < 1) := keep (by decide)
  go_wp2_with (first
    | (clear tok; refine wpList_store_at (ds := mc x) msg_info rfl (.tmp 16) (.tmp 34) rfl V4.heap.size 0 rfl rfl Hlx.out (mc_one _) (Arr.new V4 (mc zeroM).toArray 36) (by decide) (splice_all _ _ (by rw [Hlx.out]; decide)) ?_; intro V5 hM5 hk5; have st5 := hk5.fr (fr_new (fr_refl V4) _) (Nat.le_refl _); have lX1 : ∀ W, Fr V5 W → (ldS 36 (.pointer (some ⟨V4.heap.size, 0, none⟩))).run Try.prog W = .ok (.agg (mc x).toArray) W := fun W h => msgS.ld Hlx.out (hM5.below h hM5.lt); have rr5 := fr_refl V5; clear hM5 hk5)
    | fail)
  replace hl := OwnMStep hl st5
  replace hq := OwnMStep hq st5
  replace hp := keep (Own.below hp.out st5 (Nat.le_refl _))
  replace lK := fun (W : World) (h : Fr V5 W) => lK W (fr_step st5 h)
  replace lM := fun (W : World) (h : Fr V5 W) => lM W (fr_step st5 h)
  replace top := fr_step top st5
  have rV5 := fr_refl V5
  clear st5
  refine (cRF V5 _ _ hl).mono ?_
  rintro e V6 ⟨rfl, st6⟩
  replace hl := OwnMStep hl st6
  replace hq := OwnMStep hq st6
  replace hp := keep (Own.below hp.out st6 (Nat.le_refl _))
  replace lK := fun (W : World) (h : Fr V6 W) => lK W (fr_step st6 h)
  replace lM := fun (W : World) (h : Fr V6 W) => lM W (fr_step st6 h)
  replace lX1 := fun (W : World) (h : Fr V6 W) => lX1 W (fr_step st6 h)
  replace top := fr_step top st6
  have rV6 := fr_refl V6
  clear st6
  have tok : Hid (0 < 1) := keep (by decide)
  go_wp2_with (first
    | (clear tok; refine wpList_store_at (ds := mc x) msg_info rfl (.tmp 18) (.tmp 40) rfl V6.heap.size 0 rfl rfl Hlx.out (mc_one _) (Arr.new V6 (mc zeroM).toArray 36) (by decide) (splice_all _ _ (by rw [Hlx.out]; decide)) ?_; intro V7 hM7 hk7; have st7 := hk7.fr (fr_new (fr_refl V6) _) (Nat.le_refl _); have lX2 : ∀ W, Fr V7 W → (ldS 36 (.pointer (some ⟨V6.heap.size, 0, none⟩))).run Try.prog W = .ok (.agg (mc x).toArray) W := fun W h => msgS.ld Hlx.out (hM7.below h hM7.lt); have rr7 := fr_refl V7; clear hM7 hk7)
    | fail)
  replace hl := OwnMStep hl st7
  replace hq := OwnMStep hq st7
  replace hp := keep (Own.below hp.out st7 (Nat.le_refl _))
  replace lK := fun (W : World) (h : Fr V7 W) => lK W (fr_step st7 h)
  replace lM := fun (W : World) (h : Fr V7 W) => lM W (fr_step st7 h)
  replace lX1 := fun (W : World) (h : Fr V7 W) => lX1 W (fr_step st7 h)
  replace top := fr_step top st7
  have rV7 := fr_refl V7
  clear st7
  go_wp2_with fail
  have hXD := fr_drew rV7
  have hlB : ∀ W, Fr V7 W → Hid (OwnM W 0 A c l) := fun W h => OwnMStep hl h
  have hqB : ∀ W, Fr V7 W → Hid (OwnM W 0 A2 c2 q) := fun W h => OwnMStep hq h
  clear cN cF cRF lK
  refine wp_region_noPanic ?_
  refine wp_region_held_drew (S := fun w' => Fr V7 w') (by kernel_rfl) hXD (fun hHeld => ?_)
  change wpAnyH _ _ _ _ _ _ _ _ _
  refine wpAnyH_take (i := 0) (v := ?_) rfl (by kernel_rfl) (by kernel_rfl) (by kernel_rfl) (fun _ _ _ h => h) (Or.inl ⟨by rfl, ?_⟩) (by assumption) ?_
  rotate_left
  · intro w' hSw
    try dsimp only at hSw
    go_simp
    try with_reducible rfl
  try simp only [List.getElem_toArray, List.getElem_cons_zero, Act.put, List.setIfInBounds_toArray, List.set_cons_zero, List.set_cons_succ]
  refine wpAnyH_take (i := 1) (v := ?_) rfl (by kernel_rfl) (by kernel_rfl) (by kernel_rfl) (fun _ _ _ h => h) (Or.inl ⟨by rfl, ?_⟩) (by assumption) ?_
  rotate_left
  · intro w' hSw
    try dsimp only at hSw
    go_simp
    try with_reducible rfl
  try simp only [List.getElem_toArray, List.getElem_cons_succ, List.getElem_cons_zero, Act.put, List.setIfInBounds_toArray, List.set_cons_zero, List.set_cons_succ]
  refine wpAnyH_take (i := 2) (v := .bool false) rfl (by kernel_rfl) (by kernel_rfl) (by kernel_rfl) (fun _ _ _ h => h) (Or.inl ⟨by rfl, ?_⟩) (by assumption) ?_
  · intro w' hSw
    try dsimp only at hSw
    try go_simp
    all_goals first | done | with_reducible rfl | omega | assumption | (simp; omega)
  try simp only [List.getElem_toArray, List.getElem_cons_succ, List.getElem_cons_zero, Act.put, List.setIfInBounds_toArray, List.set_cons_zero, List.set_cons_succ]
  refine wpAnyH_take (i := 3) (v := .bool false) rfl (by kernel_rfl) (by kernel_rfl) (by kernel_rfl) (fun _ _ _ h => h) (Or.inl ⟨by rfl, ?_⟩) (by assumption) ?_
  · intro w' hSw
    try dsimp only at hSw
    try go_simp
    all_goals first | done | with_reducible rfl | omega | assumption | (simp; omega)
  try simp only [List.getElem_toArray, List.getElem_cons_succ, List.getElem_cons_zero, Act.put, List.setIfInBounds_toArray, List.set_cons_zero, List.set_cons_succ]
  refine wpAnyH_take (i := 4) (v := ?_) rfl (by kernel_rfl) (by kernel_rfl) (by kernel_rfl) (fun _ _ _ h => h) (Or.inl ⟨by rfl, ?_⟩) (by assumption) ?_
  rotate_left
  · intro w' hSw
    try dsimp only at hSw
    go_simp
    try with_reducible rfl
  try simp only [List.getElem_toArray, List.getElem_cons_succ, List.getElem_cons_zero, Act.put, List.setIfInBounds_toArray, List.set_cons_zero, List.set_cons_succ]
  refine wpAnyH_take (i := 5) (v := ?_) rfl (by kernel_rfl) (by kernel_rfl) (by kernel_rfl) (fun _ _ _ h => h) (Or.inl ⟨by rfl, ?_⟩) (by assumption) ?_
  rotate_left
  · intro w' hSw
    try dsimp only at hSw
    go_simp
    try with_reducible rfl
  try simp only [List.getElem_toArray, List.getElem_cons_succ, List.getElem_cons_zero, Act.put, List.setIfInBounds_toArray, List.set_cons_zero, List.set_cons_succ]
  refine wpAnyH_take (i := 6) (v := .bool false) rfl (by kernel_rfl) (by kernel_rfl) (by kernel_rfl) (fun _ _ _ h => h) (Or.inl ⟨by rfl, ?_⟩) (by assumption) ?_
  · intro w' hSw
    try dsimp only at hSw
    try go_simp
    all_goals first | done | with_reducible rfl | omega | assumption | (simp; omega)
  try simp only [List.getElem_toArray, List.getElem_cons_succ, List.getElem_cons_zero, Act.put, List.setIfInBounds_toArray, List.set_cons_zero, List.set_cons_succ]
  refine wpAnyH_take (i := 7) (v := .bool false) rfl (by kernel_rfl) (by kernel_rfl) (by kernel_rfl) (fun _ _ _ h => h) (Or.inl ⟨by rfl, ?_⟩) (by assumption) ?_
  · intro w' hSw
    try dsimp only at hSw
    try go_simp
    all_goals first | done | with_reducible rfl | omega | assumption | (simp; omega)
  try simp only [List.getElem_toArray, List.getElem_cons_succ, List.getElem_cons_zero, Act.put, List.setIfInBounds_toArray, List.set_cons_zero, List.set_cons_succ]
  refine wpAnyH_take (i := 8) (v := .bool false) rfl (by kernel_rfl) (by kernel_rfl) (by kernel_rfl) (fun _ _ _ h => h) (Or.inl ⟨by rfl, ?_⟩) (by assumption) ?_
  · intro w' hSw
    try dsimp only at hSw
    try go_simp
    all_goals first | done | with_reducible rfl | omega | assumption | (simp; omega)
  try simp only [List.getElem_toArray, List.getElem_cons_succ, List.getElem_cons_zero, Act.put, List.setIfInBounds_toArray, List.set_cons_zero, List.set_cons_succ]
  refine wpAnyH_take (i := 9) (v := ?_) rfl (by kernel_rfl) (by kernel_rfl) (by kernel_rfl) (fun _ _ _ h => h) (Or.inl ⟨by rfl, ?_⟩) (by assumption) ?_
  rotate_left
  · intro w' hSw
    try dsimp only at hSw
    go_simp
    try with_reducible rfl
  try simp only [List.getElem_toArray, List.getElem_cons_succ, List.getElem_cons_zero, Act.put, List.setIfInBounds_toArray, List.set_cons_zero, List.set_cons_succ]
  refine wpAnyH_take (i := 11) (v := ?_) rfl (by kernel_rfl) (by kernel_rfl) (by kernel_rfl) (fun _ _ _ h => h) (Or.inl ⟨by rfl, ?_⟩) (by assumption) ?_
  rotate_left
  · intro w' hSw
    try dsimp only at hSw
    go_simp
    try with_reducible rfl
  try simp only [List.getElem_toArray, List.getElem_cons_succ, List.getElem_cons_zero, Act.put, List.setIfInBounds_toArray, List.set_cons_zero, List.set_cons_succ]
  refine wpAnyH_ready (rs := [10]) (by kernel_rfl) (by simp) ?_
  refine AllReadyH.cons rfl (fun K hK0 => ?_) AllReadyH.nil
  go_simp
  refine (cC _ _ _ (hlB _ hXD)).mono ?_
  rintro e y10 ⟨rfl, s10⟩
  have z10 : Fr V7 y10 := fr_step hXD s10
  go_simp
  refine hK0.out _ _ z10 (fun _ => ?_)
  clear hK0 K
  try simp only [List.getElem_toArray, List.getElem_cons_succ, List.getElem_cons_zero, Act.put, List.setIfInBounds_toArray, List.set_cons_zero, List.set_cons_succ]
  refine wpAnyH_ready (rs := [12]) (by kernel_rfl) (by simp) ?_
  refine AllReadyH.cons rfl (fun K hK0 => ?_) AllReadyH.nil
  go_simp
  refine (cRC _ _ _ (hlB _ z10)).mono ?_
  rintro e y12 ⟨rfl, s12⟩
  have z12 : Fr V7 y12 := fr_step z10 s12
  go_simp
  refine hK0.out _ _ z12 (fun _ => ?_)
  clear hK0 K
  try simp only [List.getElem_toArray, List.getElem_cons_succ, List.getElem_cons_zero, Act.put, List.setIfInBounds_toArray, List.set_cons_zero, List.set_cons_succ]
  refine wpAnyH_take (i := 13) (v := .bool false) rfl (by kernel_rfl) (by kernel_rfl) (by kernel_rfl) (fun _ _ _ h => h) (Or.inl ⟨by rfl, ?_⟩) (by assumption) ?_
  · intro w' hSw
    try dsimp only at hSw
    try go_simp
    all_goals first | done | with_reducible rfl | omega | assumption | (simp; omega)
  try simp only [List.getElem_toArray, List.getElem_cons_succ, List.getElem_cons_zero, Act.put, List.setIfInBounds_toArray, List.set_cons_zero, List.set_cons_succ]
  refine wpAnyH_take (i := 14) (v := .bool false) rfl (by kernel_rfl) (by kernel_rfl) (by kernel_rfl) (fun _ _ _ h => h) (Or.inl ⟨by rfl, ?_⟩) (by assumption) ?_
  · intro w' hSw
    try dsimp only at hSw
    try go_simp
    all_goals first | done | with_reducible rfl | omega | assumption | (simp; omega)
  try simp only [List.getElem_toArray, List.getElem_cons_succ, List.getElem_cons_zero, Act.put, List.setIfInBounds_toArray, List.set_cons_zero, List.set_cons_succ]
  refine wpAnyH_take (i := 15) (v := .bool false) rfl (by kernel_rfl) (by kernel_rfl) (by kernel_rfl) (fun _ _ _ h => h) (Or.inl ⟨by rfl, ?_⟩) (by assumption) ?_
  · intro w' hSw
    try dsimp only at hSw
    try go_simp
    all_goals first | done | with_reducible rfl | omega | assumption | (simp; omega)
  try simp only [List.getElem_toArray, List.getElem_cons_succ, List.getElem_cons_zero, Act.put, List.setIfInBounds_toArray, List.set_cons_zero, List.set_cons_succ]
  refine wpAnyH_take (i := 16) (v := ?_) rfl (by kernel_rfl) (by kernel_rfl) (by kernel_rfl) (fun _ _ _ h => h) (Or.inl ⟨by rfl, ?_⟩) (by assumption) ?_
  rotate_left
  · intro w' hSw
    try dsimp only at hSw
    go_simp
    try with_reducible rfl
  try simp only [List.getElem_toArray, List.getElem_cons_succ, List.getElem_cons_zero, Act.put, List.setIfInBounds_toArray, List.set_cons_zero, List.set_cons_succ]
  refine wpAnyH_take (i := 18) (v := ?_) rfl (by kernel_rfl) (by kernel_rfl) (by kernel_rfl) (fun _ _ _ h => h) (Or.inl ⟨by rfl, ?_⟩) (by assumption) ?_
  rotate_left
  · intro w' hSw
    try dsimp only at hSw
    go_simp
    try with_reducible rfl
  try simp only [List.getElem_toArray, List.getElem_cons_succ, List.getElem_cons_zero, Act.put, List.setIfInBounds_toArray, List.set_cons_zero, List.set_cons_succ]
  refine wpAnyH_ready (rs := [17]) (by kernel_rfl) (by simp) ?_
  refine AllReadyH.cons rfl (fun K hK0 => ?_) AllReadyH.nil
  go_simp
  refine (cB _ _ _ (hlB _ z12)).mono ?_
  rintro e y17 ⟨rfl, s17⟩
  have z17 : Fr V7 y17 := fr_step z12 s17
  go_simp
  refine hK0.out _ _ z17 (fun _ => ?_)
  clear hK0 K
  try simp only [List.getElem_toArray, List.getElem_cons_succ, List.getElem_cons_zero, Act.put, List.setIfInBounds_toArray, List.set_cons_zero, List.set_cons_succ]
  refine wpAnyH_ready (rs := [19]) (by kernel_rfl) (by simp) ?_
  refine AllReadyH.cons rfl (fun K hK0 => ?_) AllReadyH.nil
  go_simp
  refine (cRB _ _ _ (hlB _ z17)).mono ?_
  rintro e y19 ⟨rfl, s19⟩
  have z19 : Fr V7 y19 := fr_step z17 s19
  go_simp
  refine hK0.out _ _ z19 (fun _ => ?_)
  clear hK0 K
  try simp only [List.getElem_toArray, List.getElem_cons_succ, List.getElem_cons_zero, Act.put, List.setIfInBounds_toArray, List.set_cons_zero, List.set_cons_succ]
  refine wpAnyH_take (i := 20) (v := .bool false) rfl (by kernel_rfl) (by kernel_rfl) (by kernel_rfl) (fun _ _ _ h => h) (Or.inl ⟨by rfl, ?_⟩) (by assumption) ?_
  · intro w' hSw
    try dsimp only at hSw
    try go_simp
    all_goals first | done | with_reducible rfl | omega | assumption | (simp; omega)
  try simp only [List.getElem_toArray, List.getElem_cons_succ, List.getElem_cons_zero, Act.put, List.setIfInBounds_toArray, List.set_cons_zero, List.set_cons_succ]
  refine wpAnyH_take (i := 21) (v := .bool false) rfl (by kernel_rfl) (by kernel_rfl) (by kernel_rfl) (fun _ _ _ h => h) (Or.inl ⟨by rfl, ?_⟩) (by assumption) ?_
  · intro w' hSw
    try dsimp only at hSw
    try go_simp
    all_goals first | done | with_reducible rfl | omega | assumption | (simp; omega)
  try simp only [List.getElem_toArray, List.getElem_cons_succ, List.getElem_cons_zero, Act.put, List.setIfInBounds_toArray, List.set_cons_zero, List.set_cons_succ]
  refine wpAnyH_take (i := 22) (v := .bool false) rfl (by kernel_rfl) (by kernel_rfl) (by kernel_rfl) (fun _ _ _ h => h) (Or.inl ⟨by rfl, ?_⟩) (by assumption) ?_
  · intro w' hSw
    try dsimp only at hSw
    try go_simp
    all_goals first | done | with_reducible rfl | omega | assumption | (simp; omega)
  try simp only [List.getElem_toArray, List.getElem_cons_succ, List.getElem_cons_zero, Act.put, List.setIfInBounds_toArray, List.set_cons_zero, List.set_cons_succ]
  refine wpAnyH_take (i := 23) (v := ?_) rfl (by kernel_rfl) (by kernel_rfl) (by kernel_rfl) (fun _ _ _ h => h) (Or.inl ⟨by rfl, ?_⟩) (by assumption) ?_
  rotate_left
  · intro w' hSw
    try dsimp only at hSw
    go_simp
    try with_reducible rfl
  try simp only [List.getElem_toArray, List.getElem_cons_succ, List.getElem_cons_zero, Act.put, List.setIfInBounds_toArray, List.set_cons_zero, List.set_cons_succ]
  refine wpAnyH_take (i := 24) (v := ?_) rfl (by kernel_rfl) (by kernel_rfl) (by kernel_rfl) (fun _ _ _ h => h) (Or.inl ⟨by rfl, ?_⟩) (by assumption) ?_
  rotate_left
  · intro w' hSw
    try dsimp only at hSw
    go_simp
    try with_reducible rfl
  try simp only [List.getElem_toArray, List.getElem_cons_succ, List.getElem_cons_zero, Act.put, List.setIfInBounds_toArray, List.set_cons_zero, List.set_cons_succ]
  refine wpAnyH_take (i := 26) (v := ?_) rfl (by kernel_rfl) (by kernel_rfl) (by kernel_rfl) (fun _ _ _ h => h) (Or.inl ⟨by rfl, ?_⟩) (by assumption) ?_
  rotate_left
  · intro w' hSw
    try dsimp only at hSw
    go_simp
    try with_reducible rfl
  try simp only [List.getElem_toArray, List.getElem_cons_succ, List.getElem_cons_zero, Act.put, List.setIfInBounds_toArray, List.set_cons_zero, List.set_cons_succ]
  refine wpAnyH_take (i := 27) (v := ?_) rfl (by kernel_rfl) (by kernel_rfl) (by kernel_rfl) (fun _ _ _ h => h) (Or.inl ⟨by rfl, ?_⟩) (by assumption) ?_
  rotate_left
  · intro w' hSw
    try dsimp only at hSw
    go_simp
    try with_reducible rfl
  try simp only [List.getElem_toArray, List.getElem_cons_succ, List.getElem_cons_zero, Act.put, List.setIfInBounds_toArray, List.set_cons_zero, List.set_cons_succ]
  refine wpAnyH_ready (rs := [25]) (by kernel_rfl) (by simp) ?_
  refine AllReadyH.cons rfl (fun K hK0 => ?_) AllReadyH.nil
  go_simp
  refine (cA _ _ _ (hlB _ z19)).mono ?_
  rintro e y25 ⟨D1, d1, rfl, p1, s25⟩
  have z25 : Fr V7 y25 := fr_step z19 s25
  go_simp
  refine hK0.out _ _ z25 (fun _ => ?_)
  clear hK0 K
  try simp only [List.getElem_toArray, List.getElem_cons_succ, List.getElem_cons_zero, Act.put, List.setIfInBounds_toArray, List.set_cons_zero, List.set_cons_succ]
  refine wpAnyH_ready (rs := [28]) (by kernel_rfl) (by simp) ?_
  refine AllReadyH.cons rfl (fun K hK0 => ?_) AllReadyH.nil
  go_simp
  refine (cRA _ _ _ (hlB _ z25)).mono ?_
  rintro e y28 ⟨D2, d2, rfl, p2, s28⟩
  have z28 : Fr V7 y28 := fr_step z25 s28
  replace p1 := OwnMStep p1 s28
  go_simp
  refine hK0.out _ _ z28 (fun _ => ?_)
  clear hK0 K
  try simp only [List.getElem_toArray, List.getElem_cons_succ, List.getElem_cons_zero, Act.put, List.setIfInBounds_toArray, List.set_cons_zero, List.set_cons_succ]
  refine wpAnyH_ready (rs := [29]) (by kernel_rfl) (by simp) ?_
  refine AllReadyH.cons rfl (fun K hK0 => ?_) AllReadyH.nil
  go_simp
  refine (cSA _ _ _ _ _ p1 p2).mono ?_
  rintro e y29 ⟨rfl, s29⟩
  have z29 : Fr V7 y29 := fr_step z28 s29
  go_simp
  refine hK0.out _ _ z29 (fun _ => ?_)
  clear hK0 K
  try simp only [List.getElem_toArray, List.getElem_cons_succ, List.getElem_cons_zero, Act.put, List.setIfInBounds_toArray, List.set_cons_zero, List.set_cons_succ]
  refine wpAnyH_take (i := 30) (v := .bool false) rfl (by kernel_rfl) (by kernel_rfl) (by kernel_rfl) (fun _ _ _ h => h) (Or.inl ⟨by rfl, ?_⟩) (by assumption) ?_
  · intro w' hSw
    try dsimp only at hSw
    try go_simp
    all_goals first | done | with_reducible rfl | omega | assumption | (simp; omega)
  try simp only [List.getElem_toArray, List.getElem_cons_succ, List.getElem_cons_zero, Act.put, List.setIfInBounds_toArray, List.set_cons_zero, List.set_cons_succ]
  refine wpAnyH_take (i := 31) (v := .bool false) rfl (by kernel_rfl) (by kernel_rfl) (by kernel_rfl) (fun _ _ _ h => h) (Or.inl ⟨by rfl, ?_⟩) (by assumption) ?_
  · intro w' hSw
    try dsimp only at hSw
    try go_simp
    all_goals first | done | with_reducible rfl | omega | assumption | (simp; omega)
  try simp only [List.getElem_toArray, List.getElem_cons_succ, List.getElem_cons_zero, Act.put, List.setIfInBounds_toArray, List.set_cons_zero, List.set_cons_succ]
  refine wpAnyH_take (i := 32) (v := .bool false) rfl (by kernel_rfl) (by kernel_rfl) (by kernel_rfl) (fun _ _ _ h => h) (Or.inl ⟨by rfl, ?_⟩) (by assumption) ?_
  · intro w' hSw
    try dsimp only at hSw
    try go_simp
    all_goals first | done | with_reducible rfl | omega | assumption | (simp; omega)
  try simp only [List.getElem_toArray, List.getElem_cons_succ, List.getElem_cons_zero, Act.put, List.setIfInBounds_toArray, List.set_cons_zero, List.set_cons_succ]
  refine wpAnyH_take (i := 33) (v := ?_) rfl (by kernel_rfl) (by kernel_rfl) (by kernel_rfl) (fun _ _ _ h => h) (Or.inl ⟨by rfl, ?_⟩) (by assumption) ?_
  rotate_left
  · intro w' hSw
    try dsimp only at hSw
    go_simp
    try with_reducible rfl
  try simp only [List.getElem_toArray, List.getElem_cons_succ, List.getElem_cons_zero, Act.put, List.setIfInBounds_toArray, List.set_cons_zero, List.set_cons_succ]
  refine wpAnyH_take (i := 34) (v := ?_) rfl (by kernel_rfl) (by kernel_rfl) (by kernel_rfl) (fun _ _ _ h => h) (Or.inl ⟨by rfl, ?_⟩) (by assumption) ?_
  rotate_left
  · intro w' hSw
    try dsimp only at hSw
    go_simp
    try with_reducible rfl
  try simp only [List.getElem_toArray, List.getElem_cons_succ, List.getElem_cons_zero, Act.put, List.setIfInBounds_toArray, List.set_cons_zero, List.set_cons_succ]
  refine wpAnyH_take (i := 36) (v := ?_) rfl (by kernel_rfl) (by kernel_rfl) (by kernel_rfl) (fun _ _ _ h => h) (Or.inl ⟨by rfl, ?_⟩) (by assumption) ?_
  rotate_left
  · intro w' hSw
    try dsimp only at hSw
    go_simp
    try with_reducible rfl
  try simp only [List.getElem_toArray, List.getElem_cons_succ, List.getElem_cons_zero, Act.put, List.setIfInBounds_toArray, List.set_cons_zero, List.set_cons_succ]
  refine wpAnyH_take (i := 37) (v := ?_) rfl (by kernel_rfl) (by kernel_rfl) (by kernel_rfl) (fun _ _ _ h => h) (Or.inl ⟨by rfl, ?_⟩) (by assumption) ?_
  rotate_left
  · intro w' hSw
    try dsimp only at hSw
    go_simp
    try with_reducible rfl
  try simp only [List.getElem_toArray, List.getElem_cons_succ, List.getElem_cons_zero, Act.put, List.setIfInBounds_toArray, List.set_cons_zero, List.set_cons_succ]
  refine wpAnyH_ready (rs := [35]) (by kernel_rfl) (by simp) ?_
  refine AllReadyH.cons rfl (fun K hK0 => ?_) AllReadyH.nil
  go_simp
  refine (cL _ _ _ _ _ (hlB _ z29) (hqB _ z29)).mono ?_
  rintro e y35 ⟨D3, d3, rfl, p3, s35⟩
  have z35 : Fr V7 y35 := fr_step z29 s35
  go_simp
  refine hK0.out _ _ z35 (fun _ => ?_)
  clear hK0 K
  try simp only [List.getElem_toArray, List.getElem_cons_succ, List.getElem_cons_zero, Act.put, List.setIfInBounds_toArray, List.set_cons_zero, List.set_cons_succ]
  refine wpAnyH_ready (rs := [38]) (by kernel_rfl) (by simp) ?_
  refine AllReadyH.cons rfl (fun K hK0 => ?_) AllReadyH.nil
  go_simp
  refine (cRL _ _ _ _ _ (hlB _ z35) (hqB _ z35)).mono ?_
  rintro e y38 ⟨D4, d4, rfl, p4, s38⟩
  have z38 : Fr V7 y38 := fr_step z35 s38
  replace p3 := OwnMStep p3 s38
  go_simp
  refine hK0.out _ _ z38 (fun _ => ?_)
  clear hK0 K
  try simp only [List.getElem_toArray, List.getElem_cons_succ, List.getElem_cons_zero, Act.put, List.setIfInBounds_toArray, List.set_cons_zero, List.set_cons_succ]
  refine wpAnyH_ready (rs := [39]) (by kernel_rfl) (by simp) ?_
  refine AllReadyH.cons rfl (fun K hK0 => ?_) AllReadyH.nil
  go_simp
  refine (cSL _ _ _ _ _ p3 p4).mono ?_
  rintro e y39 ⟨rfl, s39⟩
  have z39 : Fr V7 y39 := fr_step z38 s39
  go_simp
  refine hK0.out _ _ z39 (fun _ => ?_)
  clear hK0 K
  try simp only [List.getElem_toArray, List.getElem_cons_succ, List.getElem_cons_zero, Act.put, List.setIfInBounds_toArray, List.set_cons_zero, List.set_cons_succ]
  refine wpAnyH_take (i := 40) (v := .bool false) rfl (by kernel_rfl) (by kernel_rfl) (by kernel_rfl) (fun _ _ _ h => h) (Or.inl ⟨by rfl, ?_⟩) (by assumption) ?_
  · intro w' hSw
    try dsimp only at hSw
    try go_simp
    all_goals first | done | with_reducible rfl | omega | assumption | (simp; omega)
  try simp only [List.getElem_toArray, List.getElem_cons_succ, List.getElem_cons_zero, Act.put, List.setIfInBounds_toArray, List.set_cons_zero, List.set_cons_succ]
  refine wpAnyH_take (i := 41) (v := .bool false) rfl (by kernel_rfl) (by kernel_rfl) (by kernel_rfl) (fun _ _ _ h => h) (Or.inl ⟨by rfl, ?_⟩) (by assumption) ?_
  · intro w' hSw
    try dsimp only at hSw
    try go_simp
    all_goals first | done | with_reducible rfl | omega | assumption | (simp; omega)
  try simp only [List.getElem_toArray, List.getElem_cons_succ, List.getElem_cons_zero, Act.put, List.setIfInBounds_toArray, List.set_cons_zero, List.set_cons_succ]
  refine wpAnyH_done (by kernel_rfl) ?_ _
  refine NoPanic.normal ?_
  have hl2 := hlB _ z39
  have hq2 := hqB _ z39
  have hp2 : Hid (Own y39 0 27 9 A3 ps.length c3 (rows kc ps)) := keep (Own.below hp.out z39 (Nat.le_refl _))
  replace top := fr_step top z39
  clear p1 p2 p3 p4 hl hq hp hlB hqB lM lX1 lX2 cC cRC cB cRB cA cRA cL cRL cSA cSL z10 z12 z17 z19 z25 z28 z29 z35 z38 z39 s10 s12 s17 s19 s25 s28 s29 s35 s38 s39 qx
  go_wp2_with fail
  refine (P1 y39 _ _ _ _ hl2 hp2).mono ?_
  rintro e V51 ⟨D1, d1, rfl, h1, st51⟩
  replace hl2 := OwnMStep hl2 st51
  replace hq2 := OwnMStep hq2 st51
  replace hp2 := keep (Own.below hp2.out st51 (Nat.le_refl _))
  replace top := fr_step top st51
  have rV51 := fr_refl V51
  clear st51
  go_wp2_with fail
  refine (RP1 V51 _ _ _ _ hl2 hp2).mono ?_
  rintro e V52 ⟨D2, d2, rfl, h2, st52⟩
  replace hl2 := OwnMStep hl2 st52
  replace hq2 := OwnMStep hq2 st52
  replace hp2 := keep (Own.below hp2.out st52 (Nat.le_refl _))
  replace h1 := HasStep h1 st52
  replace top := fr_step top st52
  have rV52 := fr_refl V52
  clear st52
  go_wp2_with fail
  refine (S1 V52 _ _ _ _ h1 h2).mono ?_
  rintro e V53 ⟨rfl, st53⟩
  replace hl2 := OwnMStep hl2 st53
  replace hq2 := OwnMStep hq2 st53
  replace hp2 := keep (Own.below hp2.out st53 (Nat.le_refl _))
  replace h1 := HasStep h1 st53
  replace h2 := HasStep h2 st53
  replace top := fr_step top st53
  have rV53 := fr_refl V53
  clear st53
  clear h1 h2
  go_wp2_with fail
  refine (P2 V53 _ _ _ _ hl2 hp2).mono ?_
  rintro e V54 ⟨D3, d3, rfl, h1, st54⟩
  replace hl2 := OwnMStep hl2 st54
  replace hq2 := OwnMStep hq2 st54
  replace hp2 := keep (Own.below hp2.out st54 (Nat.le_refl _))
  replace top := fr_step top st54
  have rV54 := fr_refl V54
  clear st54
  go_wp2_with fail
  refine (RP2 V54 _ _ _ _ hl2 hp2).mono ?_
  rintro e V55 ⟨D4, d4, rfl, h2, st55⟩
  replace hl2 := OwnMStep hl2 st55
  replace hq2 := OwnMStep hq2 st55
  replace hp2 := keep (Own.below hp2.out st55 (Nat.le_refl _))
  replace h1 := HasStep h1 st55
  replace top := fr_step top st55
  have rV55 := fr_refl V55
  clear st55
  go_wp2_with fail
  refine (S2 V55 _ _ _ _ h1 h2).mono ?_
  rintro e V56 ⟨rfl, st56⟩
  replace hl2 := OwnMStep hl2 st56
  replace hq2 := OwnMStep hq2 st56
  replace hp2 := keep (Own.below hp2.out st56 (Nat.le_refl _))
  replace h1 := HasStep h1 st56
  replace h2 := HasStep h2 st56
  replace top := fr_step top st56
  have rV56 := fr_refl V56
  clear st56
  clear h1 h2
  go_wp2_with fail
  refine (B1 V56 _ _ hl2).mono ?_
  rintro e V57 ⟨D5, d5, rfl, h1, st57⟩
  replace hl2 := OwnMStep hl2 st57
  replace hq2 := OwnMStep hq2 st57
  replace hp2 := keep (Own.below hp2.out st57 (Nat.le_refl _))
  replace top := fr_step top st57
  have rV57 := fr_refl V57
  clear st57
  go_wp2_with fail
  refine (RB1 V57 _ _ hl2).mono ?_
  rintro e V58 ⟨D6, d6, rfl, h2, st58⟩
  replace hl2 := OwnMStep hl2 st58
  replace hq2 := OwnMStep hq2 st58
  replace hp2 := keep (Own.below hp2.out st58 (Nat.le_refl _))
  replace h1 := HasStep h1 st58
  replace top := fr_step top st58
  have rV58 := fr_refl V58
  clear st58
  go_wp2_with fail
  refine (S3 V58 _ _ _ _ h1 h2).mono ?_
  rintro e V59 ⟨rfl, st59⟩
  replace hl2 := OwnMStep hl2 st59
  replace hq2 := OwnMStep hq2 st59
  replace hp2 := keep (Own.below hp2.out st59 (Nat.le_refl _))
  replace h1 := HasStep h1 st59
  replace h2 := HasStep h2 st59
  replace top := fr_step top st59
  have rV59 := fr_refl V59
  clear st59
  clear h1 h2
  go_wp2_with fail
  refine (L1 V59 _ _ _ _ hl2 hq2).mono ?_
  rintro e V60 ⟨D7, d7, rfl, h1, st60⟩
  replace hl2 := OwnMStep hl2 st60
  replace hq2 := OwnMStep hq2 st60
  replace hp2 := keep (Own.below hp2.out st60 (Nat.le_refl _))
  replace top := fr_step top st60
  have rV60 := fr_refl V60
  clear st60
  go_wp2_with fail
  refine (RL1 V60 _ _ _ _ hl2 hq2).mono ?_
  rintro e V61 ⟨D8, d8, rfl, h2, st61⟩
  replace hl2 := OwnMStep hl2 st61
  replace hq2 := OwnMStep hq2 st61
  replace hp2 := keep (Own.below hp2.out st61 (Nat.le_refl _))
  replace h1 := HasStep h1 st61
  replace top := fr_step top st61
  have rV61 := fr_refl V61
  clear st61
  go_wp2_with fail
  refine (S4 V61 _ _ _ _ h1 h2).mono ?_
  rintro e V62 ⟨rfl, st62⟩
  replace hl2 := OwnMStep hl2 st62
  replace hq2 := OwnMStep hq2 st62
  replace hp2 := keep (Own.below hp2.out st62 (Nat.le_refl _))
  replace h1 := HasStep h1 st62
  replace h2 := HasStep h2 st62
  replace top := fr_step top st62
  have rV62 := fr_refl V62
  clear st62
  clear h1 h2
  go_wp2_with fail
  refine (cW V62).mono ?_
  rintro e V63 ⟨rfl, st63⟩
  replace hl2 := OwnMStep hl2 st63
  replace hq2 := OwnMStep hq2 st63
  replace hp2 := keep (Own.below hp2.out st63 (Nat.le_refl _))
  replace top := fr_step top st63
  have rV63 := fr_refl V63
  clear st63
  go_wp2_with fail
  go_ret
  exact ⟨rfl, top⟩
end Go.Proofs.Ytnfoebcfhldemaa
