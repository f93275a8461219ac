/- NodeSame, walked. -/
import Derived.Test.YtcdcaanmmbopbaaNodF
import Derived.Deep.CutBlock
import Derived.StillTailTactics
namespace Go.Proofs.Ytcdcaanmmbopbaa
set_option maxRecDepth 100000
open Go.RowKit
set_option linter.unusedVariables false
theorem nod_st (p v : Value) : Instr.storeAt 27 p v = stS 27 p v := rfl
attribute [local go_sem ↓] nod_ld nod_st
theorem sm_ne {a b : RN} (h : a.ks ≠ b.ks ∨ a.ps ≠ b.ps ∨ a.ms ≠ b.ms) : smN a b = false ∧ smN b a = false := by
  unfold smN
  rcases h with h | h | h
  · simp [h, Ne.symm h]
  · simp [h, Ne.symm h]
  · simp [h, Ne.symm h]
theorem kids_turn {l : List Int} (h : KidsOk l) (z : Int) : l ≠ l.drop 1 ++ [z] := by
  obtain ⟨h1, _, _, h3⟩ := h
  rcases l with _ | ⟨a, _ | ⟨b, r⟩⟩
  · simp at h1
  · simp at h1
  · intro e
    simp only [List.drop_succ_cons, List.drop_zero, List.cons_append, List.cons.injEq] at e
    rw [List.nodup_cons] at h3
    exact h3.1 (by rw [e.1]; exact List.mem_cons_self)
theorem more_ne {α : Type} (l : List α) (x : α) : l ≠ l ++ [x] := fun e => by
  have := congrArg List.length e
  simp at this
theorem less_ne {α : Type} {l : List α} (h : l ≠ []) : l ≠ l.drop 1 := fun e => by
  have h1 := congrArg List.length e
  rw [List.length_drop] at h1
  have := List.length_pos_iff.2 h
  omega
theorem addL_some (l : List RM) (m : RM) : addL l m ≠ [] := by
  cases l with
  | nil => simp [addL]
  | cons x l =>
    unfold addL
    split
    · simp
    · split <;> simp
theorem msgsJ_some (ns : List Int) : ∀ j, msgsJ ns 205 (j + 1) ≠ []
  | 0 => by
    have e : msgsJ ns 205 0 = [] := rfl
    rw [msgsJ, e, if_pos]
    · exact addL_some _ _
    · simp only [addL]
      have := (bytM_bd (lawM_ok (ns.getD 0 0) (((0 : Nat) : Int) + 1))).2
      rw [bytL_cons]
      simp [bytL] at this ⊢
      omega
  | j + 1 => by
    have ih := msgsJ_some ns j
    rw [msgsJ]
    split
    · exact addL_some _ _
    · exact ih
theorem msgs_some (z : Int) (ms : List Int) : msgsL (z :: ms) 205 ≠ [] := by
  unfold msgsL
  obtain ⟨k, hk⟩ : ∃ k, min (z :: ms).length 60 = k + 1 := ⟨min (z :: ms).length 60 - 1, by simp; omega⟩
  rw [hk]
  exact msgsJ_some _ k
theorem NH.top {W : World} {B : Nat} {v : NV} {n : RN} (h : NH W B v n) : NH W W.heap.size v n :=
  { h with hB := Nat.le_refl _, h1 := h.h1.mono h.hB, h2 := h.h2.mono h.hB, h3 := h.h3.mono h.hB, h4 := h.h4.mono h.hB }
set_option maxHeartbeats 40000000 in
theorem nodeSame_core {w : World} {A0 A1 A3 : Option Addr} {n0 c0 n1 c1 n3 c3 : Nat} {es ns ms : List Int} {f wh : Int} (hl0 : Has w w.heap.size A0 (es.map (Value.int .i64))) (hn0 : es.length = n0) (hes : ∀ z ∈ es, Is64 z) (hm0 : n0 ≤ maxLen)
    (hl1 : Has w w.heap.size A1 (ns.map (Value.int .i64))) (hn1 : ns.length = n1) (hns : ∀ z ∈ ns, Is64 z) (hby : n1 * 8 ≤ 140737488351232) (hf : Is64 f)
    (hl3 : Has w w.heap.size A3 (ms.map (Value.int .i64))) (hn3 : ms.length = n3) (hms : ∀ z ∈ ms, Is64 z) (hby3 : n3 * 8 ≤ 140737488351232) (hwh : Is64 wh) :
    Calls Try.prog 8 #[.slice A0 n0 c0, .slice A1 n1 c1, .int .i64 f, .slice A3 n3 c3, .int .i64 wh] w fun e w' => e = .returned (.bool true) ∧ Below w.heap.size w w' := by
  have cI : ∀ W A' c', Fr w W → Own W w.heap.size 3 1 A' (1 + n3) c' (ints [0] ++ ints ms) → Calls Try.prog 10 #[.slice A1 n1 c1, .int .i64 f, .slice A' (1 + n3) c'] W fun e w' => ∃ v, e = .returned (nv v) ∧ Hid (NH w' w'.heap.size v (innN ns f (0 :: ms))) ∧ Fr W w' := fun W A' c' h ho =>
    q_inner (c := c1) (c2 := c') (hl1.fr (Nat.le_refl _) h) h.size hn1 hns hf (by simpa [ints] using ho.has) (Nat.le_refl _) (by simp; omega) (fun z hz => by rcases List.mem_cons.1 hz with rfl | hz; unfold Is64; omega; exact hms z hz) (by unfold maxLen; omega) hby
  have cL := fun W (h : Fr w W) => q_leaf (w := W) (c := c0) (hl0.fr (Nat.le_refl _) h) h.size hn0 hes hm0
  have cPl := fun W => law_place wh 4 hwh (by omega) (by omega) W
  have hp : 0 ≤ wh % 4 ∧ wh % 4 < 4 := by omega
  have cP2 : ∀ W, Calls Try.prog 28 #[.int .i64 wh, .int .i64 4] W fun e w' => e = .returned (.int .i64 (wh % 4)) ∧ Fr W w' := cPl
  have cK := fun W => law_key_at (W0 := W) (W := W) hwh (fr_refl W)
  have cM := fun W => law_msg_at (W0 := W) (W := W) (s := 1) hwh (by unfold Is64; omega) (fr_refl W)
  have wk := lawK_wf wh
  have wm := lawM_wf wh 1
  have om := lawM_ok wh 1
  generalize lawK wh = kk at *
  generalize lawM wh 1 = mm1 at *
  generalize wh % 4 = p at *
  have o1 := innN_ok ns f (0 :: ms)
  have ms0 : (innN ns f (0 :: ms)).ms ≠ [] := msgs_some 0 ms
  have hml : (innN ns f (0 :: ms)).ms.length ≤ 60 := msgsL_len _ 205
  have e1 : (innN ns f (0 :: ms)).lf = false := rfl
  have o3 := leafN_ok es
  have e3 : (leafN es).lf = true := rfl
  have e4 : (leafN es).ks = [] ∧ (leafN es).ps = [] ∧ (leafN es).ms = [] := ⟨rfl, rfl, rfl⟩
  have okE : OkE (leafN es).es := entsL_ok es 248
  have hLe : (leafN es).es.length ≤ 80 := entsL_len es 248
  generalize innN ns f (0 :: ms) = N at *
  generalize leafN es = L at *
  have rr := fr_refl w
  have Hl3 := keep hl3
  have Hn3 : Hid ((ints ms).length = n3 * 1) := keep (by rw [ints_len, hn3, Nat.mul_one])
  clear hl0 hn0 hes hm0 hl1 hn1 hns hby hf hl3 hn3 hms hwh cPl
  go_enter Try.func8, Try.ntmps8
  have tok : Hid (0 < 1) := keep (by decide)
  go_wp2_with (first
    | (clear tok; refine wpList_append_vals (w0 := w) int_elem ints_und (by decide) rfl (.tmp 17) (.tmp 18) rfl (fr_new rr _) (some ⟨w.heap.size, 0, none⟩) 1 1 (ints [0]) rfl (Own.lit w w.heap.size 3 #[.int .i64 0] 1 1 (Nat.le_refl _) (by decide) rfl) w.heap.size A3 n3 c3 (ints ms) rfl Hn3.out (Hl3.out.fr (Nat.le_refl _) (fr_new rr _)) (ints_one _) (by unfold maxLen; omega) (by omega) ?_; intro A5 c5 w1 q1 f1)
    | fail)
  refine (cI _ _ _ f1 q1).mono ?_
  rintro e w2 ⟨v, rfl, h, f2⟩
  replace f2 := fr_step f1 f2
  clear cI q1 f1
  have tok1 : Hid (0 < 1) := keep (by decide)
  have tok2 : Hid (0 < 1) := keep (by decide)
  go_wp2_with (first
    | (clear tok1; refine wpList_store_at (ds := NV.cells v) nod_info rfl (.tmp 11) (.tmp 20) rfl w2.heap.size 0 rfl rfl rfl (nv_one _) (Arr.new w2 zeroNV.cells.toArray 27) (by decide) (splice_all _ _ (Nat.le_of_eq rfl)) ?_; intro V1 hM1 hk1
       have g1 := hk1.fr (fr_new (fr_refl w2) _) (Nat.le_refl _)
       have l1 : ∀ W, Fr V1 W → (ldS 27 (.pointer (some ⟨w2.heap.size, 0, none⟩))).run Try.prog W = .ok (.agg v.cells.toArray) W := fun W h => nodS.ld rfl (hM1.below h hM1.lt)
       have l12 : ∀ W, Fr V1 W → W.cell? ⟨w2.heap.size, 2, none⟩ = some (.slice v.A2 v.n2 v.c2) := fun W h => (hM1.below h hM1.lt).cell 2
       have l13 : ∀ W, Fr V1 W → W.cell? ⟨w2.heap.size, 3, none⟩ = some (.slice v.A3 v.n3 v.c3) := fun W h => (hM1.below h hM1.lt).cell 3
       have l14 : ∀ W, Fr V1 W → W.cell? ⟨w2.heap.size, 4, none⟩ = some (.slice v.A4 v.n4 v.c4) := fun W h => (hM1.below h hM1.lt).cell 4
       have vv := fr_refl V1
       clear hk1 hM1)
    | (clear tok2; refine wpList_store_at (ds := NV.cells v) nod_info rfl (.tmp 12) (.tmp 21) rfl V1.heap.size 0 rfl rfl rfl (nv_one _) (Arr.new V1 zeroNV.cells.toArray 27) (by decide) (splice_all _ _ (Nat.le_of_eq rfl)) ?_; intro V2 hM2 hk2
       have g2 := hk2.fr (fr_new vv _) (Nat.le_refl _)
       clear hk2)
    | fail)
  refine (cP2 _).mono ?_
  rintro e V3 ⟨rfl, f3⟩
  have hM3 := hM2.below f3 hM2.lt
  have g3 := fr_step g2 f3
  have kV := h.out.fr g1
  have top := keep (fr_step f2 g1)
  clear h hM2 f3 g2 f2 g1 cP2
  have hz3 := hM3.lt
  obtain ⟨_, ⟨kok, kpl, op⟩, ol⟩ := (okN_inner e1).1 o1
  have y2 := kV.l2
  have y3 := kV.l3
  have y4 := kV.l4
  have y22 := kV.k2
  have y44 := kV.k4
  have yks := kok.1
  have yk4 := kok.2.1
  have y40 := List.length_pos_iff.2 ms0
  go_upto_block 0 with fail
  go_cut [] from 24 to 65 (fun W => ∃ (vB : NV) (NB : RN), Hid (Arr W V1.heap.size 27 vB.cells.toArray) ∧ Hid (NH W W.heap.size vB NB) ∧ (smN N NB = false ∧ smN NB N = false) ∧ Hid (Fr V1 W))
  case first =>
    have v33 := fr_refl V3
    have j2 : ∀ o, (V3.alloc o).cell? ⟨w2.heap.size, 2, none⟩ = some (.slice v.A2 v.n2 v.c2) := fun o => l12 _ (fr_new g3 o)
    have j3 : ∀ o, (V3.alloc o).cell? ⟨w2.heap.size, 3, none⟩ = some (.slice v.A3 v.n3 v.c3) := fun o => l13 _ (fr_new g3 o)
    have j4 : ∀ o, (V3.alloc o).cell? ⟨w2.heap.size, 4, none⟩ = some (.slice v.A4 v.n4 v.c4) := fun o => l14 _ (fr_new g3 o)
    have ycap := kV.hB
    rcases (show p = 0 ∨ p = 1 ∨ p = 2 ∨ p = 3 by omega) with rfl | rfl | rfl | rfl
    · have hq1 : ∀ W, (Instr.slice 22 (.slice v.A2 v.n2 v.c2) (some (.int .i64 1)) none none).run Try.prog W = .ok (.slice (lowI v.A2 v.c2 1) (v.n2 - 1) (v.c2 - 1)) W := ints_slice_lo v.A2 v.n2 v.c2 1 (by omega) y22
      have r1 := keep (has_ilow (c := v.c2) (t := 1) (kV.fr g3).h2 (by omega) (by rw [y2]; exact y22))
      have hln : (N.ks.drop 1).length = v.n2 - 1 := by rw [List.length_drop, y2]
      have hne := sm_ne (a := N) (b := { N with ks := N.ks.drop 1 ++ [255] }) (.inl (kids_turn kok 255))
      have hl1 : Hid ((ints (N.ks.drop 1)).length = (v.n2 - 1) * 1) := keep (by rw [ints_len, hln, Nat.mul_one])
      have hk3 : v.n2 - 1 ≤ 3 := by omega
      have hnl : (N.ks.drop 1 ++ [255]).length = v.n2 - 1 + 1 := by rw [List.length_append, hln]; rfl
      generalize v.n2 - 1 = k1 at *
      generalize N.ks.drop 1 = kd at *
      have HN := keep hnl
      have HV := keep kV
      have HNE := keep hne
      clear hln hnl kV hne kok kpl op ol y2 y3 y4 y22 y44 yks yk4 y40
      have tok1 : Hid (0 < 1) := keep (by decide)
      have tok2 : Hid (0 < 1) := keep (by decide)
      go_wp2_with (first
        | (clear tok1; refine wpList_append_vals (w0 := V3) int_elem ints_und (by decide) rfl (.tmp 30) (.tmp 33) rfl (fr_new v33 _) (some ⟨V3.heap.size, 0, none⟩) 0 0 [] rfl (Own.lit V3 V3.heap.size 3 #[] 0 1 (Nat.le_refl _) (Nat.zero_le _) rfl) w2.heap.size (lowI v.A2 v.c2 1) k1 (v.c2 - 1) (ints kd) rfl hl1.out (r1.out.fr (by omega) (fr_new v33 _)) (ints_one _) (by unfold maxLen; omega) (by omega) ?_; intro B1 d1 w4 q1 f4; simp only [List.nil_append, Nat.zero_add] at q1)
        | (clear tok2; refine wpList_append_vals (w0 := V3) int_elem ints_und (by decide) rfl (.tmp 34) (.tmp 35) rfl (fr_new f4 _) B1 k1 d1 (ints kd) rfl (q1.alloc _) (w4.heap.size + 1) (some ⟨w4.heap.size, 0, none⟩) 1 1 (ints [255]) rfl rfl (has_one w4 _ _) (ints_one _) (by unfold maxLen; omega) (by omega) ?_; intro B2 d2 w5 q2 f5; have hM5 := hM3.below f5 hM3.lt; have zc : w5.cell? ⟨V1.heap.size, 2, none⟩ = some (.slice v.A2 v.n2 v.c2) := hM5.cell 2; have zf := hM5.free 2)
        | fail)
      go_meet
      case rel =>
        have FW : Fr V1 (w5.setCell ⟨V1.heap.size, 2, none⟩ (.slice B2 (k1 + 1) d2)) := (fr_step g3 f5).setCell (Nat.le_refl _) _
        have kk := (HV.out.fr FW).top
        have q3 := own_setCell q2 ⟨V1.heap.size, 2, none⟩ (by exact hz3) (.slice B2 (k1 + 1) d2)
        rw [← ints_app] at q3
        exact ⟨{ v with A2 := B2, n2 := k1 + 1, c2 := d2 }, { N with ks := kd ++ [255] }, keep (hM5.set 2 _), keep ⟨kk.lf, Nat.le_refl _, kk.h1, kk.l1, kk.s1, kk.w1, q3.has, HN.out, q3.cap, by simp only; omega, kk.h3, kk.l3, kk.s3, kk.w3, kk.h4, kk.l4, kk.k4, kk.s4, kk.w4⟩, HNE.out, keep FW⟩
    · have hne := sm_ne (a := N) (b := { N with ps := N.ps ++ [kk] }) (.inr (.inl (more_ne _ _)))
      have r1 := keep (kV.fr g3).h3
      have hl1 : Hid ((rows kc N.ps).length = v.n3 * 9) := keep (by rw [rowk_len, y3])
      have hnl : (N.ps ++ [kk]).length = v.n3 + 1 := by rw [List.length_append, y3]; rfl
      have hk3 : v.n3 ≤ 3 := by omega
      have wps : WfK (N.ps ++ [kk]) := fun x hx => by
        rcases List.mem_append.1 hx with hx | hx
        · exact kV.w3 x hx
        · simp at hx; rw [hx]; exact wk
      have HN := keep hnl
      have HV := keep kV
      have HNE := keep hne
      have HW := keep wps
      clear hnl kV hne wps kok kpl op ol y2 y3 y4 y22 y44 yks yk4 y40
      have tok1 : Hid (0 < 1) := keep (by decide)
      go_wp2_with (first
        | (clear tok1; refine wpList_append_vals (w0 := V3) key_elem keys_und (by decide) rfl (.tmp 40) (.tmp 42) rfl (fr_new v33 _) (some ⟨V3.heap.size, 0, none⟩) 0 0 [] rfl (Own.lit V3 V3.heap.size 40 #[] 0 9 (Nat.le_refl _) (Nat.zero_le _) rfl) w2.heap.size v.A3 v.n3 v.c3 (rows kc N.ps) rfl hl1.out (r1.out.fr (by omega) (fr_new v33 _)) (keys_one _) (by unfold maxLen; omega) (by omega) ?_; intro B1 d1 w4 q1 f4; simp only [List.nil_append, Nat.zero_add] at q1)
        | fail)
      refine (cK _).mono ?_
      rintro e w5 ⟨rfl, f5⟩
      have q2 := Own.below q1 f5 (Nat.le_refl _)
      have f6 := fr_step f4 f5
      clear q1 f4 f5 cK
      have tok2 : Hid (0 < 1) := keep (by decide)
      go_wp2_with (first
        | (clear tok2; refine wpList_append_vals (w0 := V3) key_elem keys_und (by decide) rfl (.tmp 43) (.tmp 46) rfl (fr_new f6 _) B1 v.n3 d1 (rows kc N.ps) rfl (q2.alloc _) (w5.heap.size + 1) (some ⟨w5.heap.size, 0, none⟩) 1 1 (rows kc [kk]) rfl rfl (has_key_new w5 kk _) (keys_one _) (by unfold maxLen; omega) (by omega) ?_; intro B2 d2 w7 q7 f7; have hM5 := hM3.below f7 hM3.lt; have zc : w7.cell? ⟨V1.heap.size, 3, none⟩ = some (.slice v.A3 v.n3 v.c3) := hM5.cell 3; have zf := hM5.free 3)
        | fail)
      go_meet
      case rel =>
        have FW : Fr V1 (w7.setCell ⟨V1.heap.size, 3, none⟩ (.slice B2 (v.n3 + 1) d2)) := (fr_step g3 f7).setCell (Nat.le_refl _) _
        have kk' := (HV.out.fr FW).top
        have q3 := own_setCell q7 ⟨V1.heap.size, 3, none⟩ (by exact hz3) (.slice B2 (v.n3 + 1) d2)
        rw [← rows_append] at q3
        exact ⟨{ v with A3 := B2, n3 := v.n3 + 1, c3 := d2 }, { N with ps := N.ps ++ [kk] }, keep (hM5.set 3 _), keep ⟨kk'.lf, Nat.le_refl _, kk'.h1, kk'.l1, kk'.s1, kk'.w1, kk'.h2, kk'.l2, kk'.k2, kk'.s2, q3.has, HN.out, by simp only; omega, HW.out, kk'.h4, kk'.l4, kk'.k4, kk'.s4, kk'.w4⟩, HNE.out, keep FW⟩
    · obtain ⟨m0, r, hm⟩ : ∃ m0 r, N.ms = m0 :: r := by
        cases hh : N.ms with
        | nil => exact absurd hh ms0
        | cons a b => exact ⟨a, b, rfl⟩
      have wm0 := kV.w4 m0 (by rw [hm]; exact List.mem_cons_self)
      have us := wm0.hs
      obtain ⟨s', hs'⟩ : ∃ s', IntKind.u64.wrap (m0.seq + 1) = s' := ⟨_, rfl⟩
      have us' : Us64 s' ∧ s' ≠ m0.seq := by
        rw [← hs', IntKind.wrap_u64]
        unfold Us64 at us ⊢
        omega
      have hne := sm_ne (a := N) (b := { N with ms := { m0 with seq := s' } :: r }) (.inr (.inr (fun e => by
        rw [hm] at e
        simp only [List.cons.injEq] at e
        exact us'.2 (congrArg RM.seq e.1).symm)))
      have wms : WfM ({ m0 with seq := s' } :: r) := fun x hx => by
        rcases List.mem_cons.1 hx with rfl | hx
        · exact ⟨wm0.hk, us'.1, wm0.key, wm0.val, wm0.hi⟩
        · exact kV.w4 x (by rw [hm]; exact List.mem_cons_of_mem _ hx)
      have r1 := keep (kV.fr g3).h4
      have hl1 : Hid ((rows mc N.ms).length = v.n4 * 29) := keep (by rw [rows_len (fun a ha => mc_len (kV.w4 a ha).val.hl), y4])
      have hk60 : v.n4 ≤ 60 := by omega
      have hpos : 0 < v.n4 := by omega
      have hnl : ({ m0 with seq := s' } :: r : List RM).length = v.n4 := by rw [← y4, hm]; rfl
      have hlm := mc_len wm0.val.hl
      have HN := keep hnl
      have HV := keep kV
      have HNE := keep hne
      have HW := keep wms
      have HM := keep hm
      have HL := keep hlm
      clear hnl kV hne wms kok kpl op ol y2 y3 y4 y22 y44 yks yk4 y40 hm wm0 us us' hlm
      have tok1 : Hid (0 < 1) := keep (by decide)
      go_wp2_with (first
        | (clear tok1; refine wpList_append_vals (w0 := V3) msg_elem msgs_under (by decide) rfl (.tmp 51) (.tmp 53) rfl (fr_new v33 _) (some ⟨V3.heap.size, 0, none⟩) 0 0 [] rfl (Own.lit V3 V3.heap.size 48 #[] 0 29 (Nat.le_refl _) (Nat.zero_le _) rfl) w2.heap.size v.A4 v.n4 v.c4 (rows mc N.ms) rfl hl1.out (r1.out.fr (by omega) (fr_new v33 _)) (rows_mc_one _) (by unfold maxLen; omega) (by omega) ?_; intro B1 d1 w4 q1 f4; simp only [List.nil_append, Nat.zero_add] at q1; have hM5 := hM3.below f4 hM3.lt; have zc : w4.cell? ⟨V1.heap.size, 4, none⟩ = some (.slice v.A4 v.n4 v.c4) := hM5.cell 4; have zf := hM5.free 4)
        | fail)
      obtain ⟨g, rfl⟩ := q1.addr hpos
      have hgV := (q1.lt g rfl).1
      have q2 := own_setCell q1 ⟨V1.heap.size, 4, none⟩ (by exact hz3) (.slice (some ⟨g, 0, none⟩) v.n4 d1)
      have hM6 := hM5.set 4 (.slice (some ⟨g, 0, none⟩) v.n4 d1)
      have FY : Fr V1 (w4.setCell ⟨V1.heap.size, 4, none⟩ (.slice (some ⟨g, 0, none⟩) v.n4 d1)) := (fr_step g3 f4).setCell (Nat.le_refl _) _
      clear q1 hM5 zc zf f4 j2 j3 j4
      generalize w4.setCell ⟨V1.heap.size, 4, none⟩ (.slice (some ⟨g, 0, none⟩) v.n4 d1) = Y at *
      rw [HM.out, rows_cons] at q2
      have cS : Y.cell? ⟨g, 1, none⟩ = some (.int .u64 m0.seq) := by
        obtain ⟨b', off', e, -, hc⟩ := q2.has 1 (.int .u64 m0.seq) (by rw [List.getElem?_append_left (by rw [HL.out]; decide)]; exact mc_1 m0)
        injection e with e
        injection e with e1 e2
        subst e1 e2
        exact hc
      have fS : Y.frozen? ⟨g, 1, none⟩ = false := World.ownsRow.frozenAt q2 1
      have cY : Y.cell? ⟨V1.heap.size, 4, none⟩ = some (.slice (some ⟨g, 0, none⟩) v.n4 d1) := hM6.cell 4
      have hposz : (0 : Int) < (v.n4 : Int) := by omega
      go_still_tail 10, (by kernel_rfl)
      change wpList _ _ _ _ _ Y.drew
      have cS2 : Y.drew.cell? ⟨g, 1, none⟩ = some (.int .u64 m0.seq) := cS
      have fS2 : Y.drew.frozen? ⟨g, 1, none⟩ = false := fS
      have q3 : Own Y.drew V3.heap.size 48 29 (some ⟨g, 0, none⟩) v.n4 d1 (mc m0 ++ rows mc r) := q2
      have hM7 := hM6.drew
      have FY2 := fr_drew FY
      clear cS fS cY q2 hM6 FY
      generalize Y.drew = Y2 at *
      go_wp2_with fail
      go_meet
      case rel =>
        have FW : Fr V1 (Y2.setCell ⟨g, 1, none⟩ (.int .u64 s')) := FY2.setCell (by show V1.heap.size ≤ g; omega) _
        have kk' := (HV.out.fr FW).top
        have q5 : Own (Y2.setCell ⟨g, 1, none⟩ (.int .u64 s')) V3.heap.size 48 29 (some ⟨g, 0, none⟩) v.n4 d1 ((mc m0 ++ rows mc r).set 1 (.int .u64 s')) := (World.ownsRow.stored q3 1 _).1
        rw [List.set_append_left _ _ (by rw [HL.out]; decide), mc_set1, ← rows_cons] at q5
        have hM8 := hM7.other ⟨g, 1, none⟩ (by show g ≠ V1.heap.size; omega) (.int .u64 s')
        exact ⟨{ v with A4 := some ⟨g, 0, none⟩, c4 := d1 }, { N with ms := { m0 with seq := s' } :: r }, keep hM8, keep ⟨kk'.lf, Nat.le_refl _, kk'.h1, kk'.l1, kk'.s1, kk'.w1, kk'.h2, kk'.l2, kk'.k2, kk'.s2, kk'.h3, kk'.l3, kk'.s3, kk'.w3, q5.has, HN.out, q5.cap, by simp only; omega, HW.out⟩, HNE.out, keep FW⟩
    · have hq1 : ∀ W, (Instr.slice 25 (.slice v.A4 v.n4 v.c4) (some (.int .i64 1)) none none).run Try.prog W = .ok (.slice (lowM v.A4 v.c4 1) (v.n4 - 1) (v.c4 - 1)) W := msgs_slice_lo v.A4 v.n4 v.c4 1 (by omega)
      have hne := sm_ne (a := N) (b := { N with ms := N.ms.drop 1 }) (.inr (.inr (less_ne ms0)))
      have hln : (N.ms.drop 1).length = v.n4 - 1 := by rw [List.length_drop, y4]
      have hcc : v.n4 - 1 ≤ v.c4 - 1 := by omega
      have hss : v.n4 - 1 ≤ 100000 := by omega
      have zc : V3.cell? ⟨V1.heap.size, 4, none⟩ = some (.slice v.A4 v.n4 v.c4) := hM3.cell 4
      have zf := hM3.free 4
      have HLO := fun W (h : NH W W.heap.size v N) => has_low (c := v.c4) (p := 1) h.h4 h.w4 (by rw [y4]; exact y44) (by omega)
      have HN := keep hln
      have HV := keep kV
      have HNE := keep hne
      clear hln kV hne kok kpl op ol y2 y3 y4 y22 y44 yks yk4 y40
      go_wp2_with fail
      go_meet
      case rel =>
        have FW : Fr V1 (V3.setCell ⟨V1.heap.size, 4, none⟩ (.slice (lowM v.A4 v.c4 1) (v.n4 - 1) (v.c4 - 1))) := g3.setCell (Nat.le_refl _) _
        have kk := (HV.out.fr FW).top
        exact ⟨{ v with A4 := lowM v.A4 v.c4 1, n4 := v.n4 - 1, c4 := v.c4 - 1 }, { N with ms := N.ms.drop 1 }, keep (hM3.set 4 _), keep ⟨kk.lf, Nat.le_refl _, kk.h1, kk.l1, kk.s1, kk.w1, kk.h2, kk.l2, kk.k2, kk.s2, kk.h3, kk.l3, kk.s3, kk.w3, HLO _ kk, HN.out, hcc, hss, fun m hm => kk.w4 m (List.mem_of_mem_drop hm)⟩, HNE.out, keep FW⟩
  case rest =>
    obtain ⟨vB, NB, hMB, hkB, hSB, hFB⟩ := hcut
    have hFF := hFB.out
    have top2 := keep (fr_step top.out hFF)
    have cL1 := cL wc top2.out
    have kA := keep (kV.fr hFF)
    have l1' := fun W (h : Fr wc W) => l1 W (fr_step hFF h)
    have lB : ∀ W, Fr wc W → (ldS 27 (.pointer (some ⟨V1.heap.size, 0, none⟩))).run Try.prog W = .ok (.agg vB.cells.toArray) W := fun W h => nodS.ld rfl (hMB.out.below h hMB.out.lt)
    have ww := fr_refl wc
    clear l1 l12 l13 l14 vv hM3 g3 kV hz3 ol kok kpl op y2 y3 y4 y22 y44 yks yk4 y40 hFB hFF hMB cL top cK wk ms0 hml o1
    go_wp2_with fail
    refine cL1.mono ?_
    rintro e w6 ⟨vX, rfl, hX, f6⟩
    have w66 := fr_refl w6
    have tokX : Hid (0 < 1) := keep (by decide)
    go_wp2_with (first
      | (clear tokX; refine wpList_store_at (ds := NV.cells vX) nod_info rfl (.tmp 13) (.tmp 67) rfl w6.heap.size 0 rfl rfl rfl (nv_one _) (Arr.new w6 zeroNV.cells.toArray 27) (by decide) (splice_all _ _ (Nat.le_of_eq rfl)) ?_; intro V6 hM6 hk6
         have g6 := hk6.fr (fr_new w66 _) (Nat.le_refl _)
         have lX : ∀ W, Fr V6 W → (ldS 27 (.pointer (some ⟨w6.heap.size, 0, none⟩))).run Try.prog W = .ok (.agg vX.cells.toArray) W := fun W h => nodS.ld rfl (hM6.below h hM6.lt)
         have lX1 : ∀ W, Fr V6 W → W.cell? ⟨w6.heap.size, 1, none⟩ = some (.slice vX.A1 vX.n1 vX.c1) := fun W h => (hM6.below h hM6.lt).cell 1
         have v66 := fr_refl V6
         clear hk6 hM6)
      | fail)
    have kX := keep (hX.out.fr g6)
    have F6 := keep (fr_step f6 g6)
    have hlX := kX.out.l1
    have hsX := hLe
    have cPut := fun W (h : Fr V6 W) => ref_eput (w := W) (A := vX.A1) (c := vX.c1) (kX.out.fr h).h1 (kX.out.fr h).hB hlX (kX.out.fr h).s1 okE wm om
    have oY := putE_ok okE wm om
    have hlY := putE_le L.es mm1
    generalize putE L.es mm1 = eY at *
    have HlY := keep hlY
    clear hX f6 g6 cL1 wm om hlY
    simp only [Act.put]
    go_cut [14] from 68 to 73 (fun s W => ∃ (b : Nat) (vY : NV), s = .pointer (some ⟨b, 0, none⟩) ∧ Hid (Arr W b 27 vY.cells.toArray) ∧ Hid (NH W W.heap.size vY ⟨true, eY, [], [], []⟩) ∧ Hid (Fr V6 W))
    case first =>
      have hD := fr_drew v66
      go_wp2_with fail
      refine wp_region_noPanic ?_
      refine wp_region_held_drew (S := fun w' => Fr V6 w') (by kernel_rfl) hD (fun hHeld => ?_)
      change wpAnyH _ _ _ _ _ _ _ _ _
      refine wpAnyH_take (i := 0) (v := ?_) rfl (by kernel_rfl) (by kernel_rfl) (by kernel_rfl) (fun _ _ _ h => h) (Or.inl ⟨by rfl, ?_⟩) (by assumption) ?_
      rotate_left
      · intro w' hSw
        try dsimp only at hSw
        go_simp
        try with_reducible rfl
      try simp only [List.getElem_toArray, List.getElem_cons_zero, Act.put, List.setIfInBounds_toArray, List.set_cons_zero, List.set_cons_succ]
      refine wpAnyH_take (i := 1) (v := ?_) rfl (by kernel_rfl) (by kernel_rfl) (by kernel_rfl) (fun _ _ _ h => h) (Or.inl ⟨by rfl, ?_⟩) (by assumption) ?_
      rotate_left
      · intro w' hSw
        try dsimp only at hSw
        go_simp
        try with_reducible rfl
      try simp only [List.getElem_toArray, List.getElem_cons_succ, List.getElem_cons_zero, Act.put, List.setIfInBounds_toArray, List.set_cons_zero, List.set_cons_succ]
      refine wpAnyH_take (i := 2) (v := ?_) rfl (by kernel_rfl) (by kernel_rfl) (by kernel_rfl) (fun _ _ _ h => h) (Or.inl ⟨by rfl, ?_⟩) (by assumption) ?_
      rotate_left
      · intro w' hSw
        try dsimp only at hSw
        go_simp
        try with_reducible rfl
      try simp only [List.getElem_toArray, List.getElem_cons_succ, List.getElem_cons_zero, Act.put, List.setIfInBounds_toArray, List.set_cons_zero, List.set_cons_succ]
      refine wpAnyH_ready (rs := [3, 6]) (by kernel_rfl) (by simp) ?_
      refine AllReadyH.cons rfl (fun K hK0 => ?_) (AllReadyH.cons rfl (fun K hK0 => ?_) (AllReadyH.nil))
      · go_simp
        refine (cM _).mono ?_
        rintro e y1 ⟨rfl, zy1⟩
        go_simp
        refine hK0.out _ _ (fr_step (by assumption) zy1) (fun _ => ?_)
        clear hK0 K
        try simp only [List.getElem_toArray, List.getElem_cons_succ, List.getElem_cons_zero, Act.put, List.setIfInBounds_toArray, List.set_cons_zero, List.set_cons_succ]
        refine wpAnyH_ready (rs := [4, 6]) (by kernel_rfl) (by simp) ?_
        refine AllReadyH.cons rfl (fun K hK0 => ?_) (AllReadyH.cons rfl (fun K hK0 => ?_) (AllReadyH.nil))
        · go_simp
          refine (cPut _ (by assumption)).mono ?_
          rintro e y2 ⟨AY, cY, rfl, hY, zy2⟩
          replace hY := keep hY
          go_simp
          refine hK0.out _ _ (fr_step (by assumption) zy2) (fun _ => ?_)
          clear hK0 K
          try simp only [List.getElem_toArray, List.getElem_cons_succ, List.getElem_cons_zero, Act.put, List.setIfInBounds_toArray, List.set_cons_zero, List.set_cons_succ]
          refine wpAnyH_take (i := 5) (v := ?_) rfl (by kernel_rfl) (by kernel_rfl) (by kernel_rfl) (fun _ _ _ h => h) (Or.inl ⟨by rfl, ?_⟩) (by assumption) ?_
          rotate_left
          · intro w' hSw
            try dsimp only at hSw
            go_simp
            try with_reducible rfl
          try simp only [List.getElem_toArray, List.getElem_cons_succ, List.getElem_cons_zero, Act.put, List.setIfInBounds_toArray, List.set_cons_zero, List.set_cons_succ]
          refine wpAnyH_ready (rs := [6]) (by kernel_rfl) (by simp) ?_
          refine AllReadyH.cons rfl (fun K hK0 => ?_) AllReadyH.nil
          go_simp
          have hb : Hid (Arr (y2.alloc (.cells #[.bool false, .slice none 0 0, .slice none 0 0, .slice none 0 0, .slice none 0 0] 27)) y2.heap.size 27 zeroNV.cells.toArray) := keep (Arr.new y2 _ _)
          have hbV : V6.heap.size ≤ y2.heap.size := (show Fr V6 y2 by assumption).size
          refine hK0.out _ _ (fr_new (by assumption) _) (fun _ => ?_)
          clear hK0 K
          try simp only [List.getElem_toArray, List.getElem_cons_succ, List.getElem_cons_zero, Act.put, List.setIfInBounds_toArray, List.set_cons_zero, List.set_cons_succ]
          refine wpAnyH_ready (rs := [7]) (by kernel_rfl) (by simp) ?_
          refine AllReadyH.cons rfl (fun K hK0 => ?_) AllReadyH.nil
          have hOB : OwnB (y2.alloc (.cells #[.bool false, .slice none 0 0, .slice none 0 0, .slice none 0 0, .slice none 0 0] 27)) y2.heap.size 27 5 := OwnB.of hb.out rfl
          have sq : (stS 27 (.pointer (some ⟨y2.heap.size, 0, none⟩)) (.agg #[.bool true, .slice AY eY.length cY, .slice none 0 0, .slice none 0 0, .slice none 0 0])).run Try.prog (y2.alloc (.cells #[.bool false, .slice none 0 0, .slice none 0 0, .slice none 0 0, .slice none 0 0] 27)) = .ok () ((y2.alloc (.cells #[.bool false, .slice none 0 0, .slice none 0 0, .slice none 0 0, .slice none 0 0] 27)).setRow y2.heap.size #[.bool true, .slice AY eY.length cY, .slice none 0 0, .slice none 0 0, .slice none 0 0]) := st_run nod_info hOB (ds := NV.cells ⟨true, AY, eY.length, cY, none, 0, 0, none, 0, 0, none, 0, 0⟩) rfl (nv_one _)
          go_simp
          have gW : Fr V6 ((y2.alloc (.cells #[.bool false, .slice none 0 0, .slice none 0 0, .slice none 0 0, .slice none 0 0] 27)).setRow y2.heap.size #[.bool true, .slice AY eY.length cY, .slice none 0 0, .slice none 0 0, .slice none 0 0]) := fr_setRow (by assumption) hbV _
          have aY : Hid (Arr ((y2.alloc (.cells #[.bool false, .slice none 0 0, .slice none 0 0, .slice none 0 0, .slice none 0 0] 27)).setRow y2.heap.size #[.bool true, .slice AY eY.length cY, .slice none 0 0, .slice none 0 0, .slice none 0 0]) y2.heap.size 27 (NV.cells ⟨true, AY, eY.length, cY, none, 0, 0, none, 0, 0, none, 0, 0⟩).toArray) := keep (hOB.put _)
          have hRow := keep ((hY.out.has.fr (Nat.le_refl _) (fr_setRow (fr_new (fr_refl y2) (.cells #[.bool false, .slice none 0 0, .slice none 0 0, .slice none 0 0, .slice none 0 0] 27)) (Nat.le_refl _) #[.bool true, .slice AY eY.length cY, .slice none 0 0, .slice none 0 0, .slice none 0 0])).mono (fr_setRow (fr_new (fr_refl y2) (.cells #[.bool false, .slice none 0 0, .slice none 0 0, .slice none 0 0, .slice none 0 0] 27)) (Nat.le_refl _) #[.bool true, .slice AY eY.length cY, .slice none 0 0, .slice none 0 0, .slice none 0 0]).size)
          refine hK0.out _ _ gW (fun _ => ?_)
          clear hK0 K
          try simp only [List.getElem_toArray, List.getElem_cons_succ, List.getElem_cons_zero, Act.put, List.setIfInBounds_toArray, List.set_cons_zero, List.set_cons_succ]
          refine wpAnyH_done (by kernel_rfl) ?_ _
          refine NoPanic.normal ?_
          have nl := HlY.out
          go_wp2_with fail
          go_meet
          case rel => exact ⟨y2.heap.size, ⟨true, AY, eY.length, cY, none, 0, 0, none, 0, 0, none, 0, 0⟩, rfl, aY, keep ⟨rfl, Nat.le_refl _, hRow.out, rfl, by simp only; omega, oY.wfe, Has.nil, rfl, Nat.le_refl _, by simp, Has.nil, rfl, by simp, by intro m hm; simp at hm, Has.nil, rfl, Nat.le_refl _, by simp, by intro m hm; simp at hm⟩, keep gW⟩
        · go_simp
          have hb : Hid (Arr (y1.alloc (.cells #[.bool false, .slice none 0 0, .slice none 0 0, .slice none 0 0, .slice none 0 0] 27)) y1.heap.size 27 zeroNV.cells.toArray) := keep (Arr.new y1 _ _)
          have hbV : V6.heap.size ≤ y1.heap.size := (show Fr V6 y1 by assumption).size
          refine hK0.out _ _ (fr_new (by assumption) _) (fun _ => ?_)
          clear hK0 K
          try simp only [List.getElem_toArray, List.getElem_cons_succ, List.getElem_cons_zero, Act.put, List.setIfInBounds_toArray, List.set_cons_zero, List.set_cons_succ]
          refine wpAnyH_ready (rs := [4]) (by kernel_rfl) (by simp) ?_
          refine AllReadyH.cons rfl (fun K hK0 => ?_) AllReadyH.nil
          go_simp
          refine (cPut _ (by assumption)).mono ?_
          rintro e y2 ⟨AY, cY, rfl, hY, zy2⟩
          replace hY := keep hY
          go_simp
          have hbl := hb.out.lt
          replace hb := keep (hb.out.below zy2 hb.out.lt)
          refine hK0.out _ _ (fr_step (by assumption) zy2) (fun _ => ?_)
          clear hK0 K
          try simp only [List.getElem_toArray, List.getElem_cons_succ, List.getElem_cons_zero, Act.put, List.setIfInBounds_toArray, List.set_cons_zero, List.set_cons_succ]
          refine wpAnyH_take (i := 5) (v := ?_) rfl (by kernel_rfl) (by kernel_rfl) (by kernel_rfl) (fun _ _ _ h => h) (Or.inl ⟨by rfl, ?_⟩) (by assumption) ?_
          rotate_left
          · intro w' hSw
            try dsimp only at hSw
            go_simp
            try with_reducible rfl
          try simp only [List.getElem_toArray, List.getElem_cons_succ, List.getElem_cons_zero, Act.put, List.setIfInBounds_toArray, List.set_cons_zero, List.set_cons_succ]
          refine wpAnyH_ready (rs := [7]) (by kernel_rfl) (by simp) ?_
          refine AllReadyH.cons rfl (fun K hK0 => ?_) AllReadyH.nil
          have hOB : OwnB y2 y1.heap.size 27 5 := OwnB.of hb.out rfl
          have sq : (stS 27 (.pointer (some ⟨y1.heap.size, 0, none⟩)) (.agg #[.bool true, .slice AY eY.length cY, .slice none 0 0, .slice none 0 0, .slice none 0 0])).run Try.prog y2 = .ok () (y2.setRow y1.heap.size #[.bool true, .slice AY eY.length cY, .slice none 0 0, .slice none 0 0, .slice none 0 0]) := st_run nod_info hOB (ds := NV.cells ⟨true, AY, eY.length, cY, none, 0, 0, none, 0, 0, none, 0, 0⟩) rfl (nv_one _)
          go_simp
          have gW : Fr V6 (y2.setRow y1.heap.size #[.bool true, .slice AY eY.length cY, .slice none 0 0, .slice none 0 0, .slice none 0 0]) := fr_setRow (by assumption) hbV _
          have aY : Hid (Arr (y2.setRow y1.heap.size #[.bool true, .slice AY eY.length cY, .slice none 0 0, .slice none 0 0, .slice none 0 0]) y1.heap.size 27 (NV.cells ⟨true, AY, eY.length, cY, none, 0, 0, none, 0, 0, none, 0, 0⟩).toArray) := keep (hOB.put _)
          have hRow := keep (own_setRow hY.out hbl #[.bool true, .slice AY eY.length cY, .slice none 0 0, .slice none 0 0, .slice none 0 0]).has
          refine hK0.out _ _ gW (fun _ => ?_)
          clear hK0 K
          try simp only [List.getElem_toArray, List.getElem_cons_succ, List.getElem_cons_zero, Act.put, List.setIfInBounds_toArray, List.set_cons_zero, List.set_cons_succ]
          refine wpAnyH_done (by kernel_rfl) ?_ _
          refine NoPanic.normal ?_
          have nl := HlY.out
          go_wp2_with fail
          go_meet
          case rel => exact ⟨y1.heap.size, ⟨true, AY, eY.length, cY, none, 0, 0, none, 0, 0, none, 0, 0⟩, rfl, aY, keep ⟨rfl, Nat.le_refl _, hRow.out, rfl, by simp only; omega, oY.wfe, Has.nil, rfl, Nat.le_refl _, by simp, Has.nil, rfl, by simp, by intro m hm; simp at hm, Has.nil, rfl, Nat.le_refl _, by simp, by intro m hm; simp at hm⟩, keep gW⟩
      · go_simp
        have hb : Hid (Arr (V6.drew.alloc (.cells #[.bool false, .slice none 0 0, .slice none 0 0, .slice none 0 0, .slice none 0 0] 27)) V6.heap.size 27 zeroNV.cells.toArray) := keep (Arr.new V6.drew _ _)
        have hbV : V6.heap.size ≤ V6.heap.size := (show Fr V6 V6 by assumption).size
        refine hK0.out _ _ (fr_new (by assumption) _) (fun _ => ?_)
        clear hK0 K
        try simp only [List.getElem_toArray, List.getElem_cons_succ, List.getElem_cons_zero, Act.put, List.setIfInBounds_toArray, List.set_cons_zero, List.set_cons_succ]
        refine wpAnyH_ready (rs := [3]) (by kernel_rfl) (by simp) ?_
        refine AllReadyH.cons rfl (fun K hK0 => ?_) AllReadyH.nil
        go_simp
        refine (cM _).mono ?_
        rintro e y1 ⟨rfl, zy1⟩
        go_simp
        replace hb := keep (hb.out.below zy1 hb.out.lt)
        refine hK0.out _ _ (fr_step (by assumption) zy1) (fun _ => ?_)
        clear hK0 K
        try simp only [List.getElem_toArray, List.getElem_cons_succ, List.getElem_cons_zero, Act.put, List.setIfInBounds_toArray, List.set_cons_zero, List.set_cons_succ]
        refine wpAnyH_ready (rs := [4]) (by kernel_rfl) (by simp) ?_
        refine AllReadyH.cons rfl (fun K hK0 => ?_) AllReadyH.nil
        go_simp
        refine (cPut _ (by assumption)).mono ?_
        rintro e y2 ⟨AY, cY, rfl, hY, zy2⟩
        replace hY := keep hY
        go_simp
        have hbl := hb.out.lt
        replace hb := keep (hb.out.below zy2 hb.out.lt)
        refine hK0.out _ _ (fr_step (by assumption) zy2) (fun _ => ?_)
        clear hK0 K
        try simp only [List.getElem_toArray, List.getElem_cons_succ, List.getElem_cons_zero, Act.put, List.setIfInBounds_toArray, List.set_cons_zero, List.set_cons_succ]
        refine wpAnyH_take (i := 5) (v := ?_) rfl (by kernel_rfl) (by kernel_rfl) (by kernel_rfl) (fun _ _ _ h => h) (Or.inl ⟨by rfl, ?_⟩) (by assumption) ?_
        rotate_left
        · intro w' hSw
          try dsimp only at hSw
          go_simp
          try with_reducible rfl
        try simp only [List.getElem_toArray, List.getElem_cons_succ, List.getElem_cons_zero, Act.put, List.setIfInBounds_toArray, List.set_cons_zero, List.set_cons_succ]
        refine wpAnyH_ready (rs := [7]) (by kernel_rfl) (by simp) ?_
        refine AllReadyH.cons rfl (fun K hK0 => ?_) AllReadyH.nil
        have hOB : OwnB y2 V6.heap.size 27 5 := OwnB.of hb.out rfl
        have sq : (stS 27 (.pointer (some ⟨V6.heap.size, 0, none⟩)) (.agg #[.bool true, .slice AY eY.length cY, .slice none 0 0, .slice none 0 0, .slice none 0 0])).run Try.prog y2 = .ok () (y2.setRow V6.heap.size #[.bool true, .slice AY eY.length cY, .slice none 0 0, .slice none 0 0, .slice none 0 0]) := st_run nod_info hOB (ds := NV.cells ⟨true, AY, eY.length, cY, none, 0, 0, none, 0, 0, none, 0, 0⟩) rfl (nv_one _)
        go_simp
        have gW : Fr V6 (y2.setRow V6.heap.size #[.bool true, .slice AY eY.length cY, .slice none 0 0, .slice none 0 0, .slice none 0 0]) := fr_setRow (by assumption) hbV _
        have aY : Hid (Arr (y2.setRow V6.heap.size #[.bool true, .slice AY eY.length cY, .slice none 0 0, .slice none 0 0, .slice none 0 0]) V6.heap.size 27 (NV.cells ⟨true, AY, eY.length, cY, none, 0, 0, none, 0, 0, none, 0, 0⟩).toArray) := keep (hOB.put _)
        have hRow := keep (own_setRow hY.out hbl #[.bool true, .slice AY eY.length cY, .slice none 0 0, .slice none 0 0, .slice none 0 0]).has
        refine hK0.out _ _ gW (fun _ => ?_)
        clear hK0 K
        try simp only [List.getElem_toArray, List.getElem_cons_succ, List.getElem_cons_zero, Act.put, List.setIfInBounds_toArray, List.set_cons_zero, List.set_cons_succ]
        refine wpAnyH_done (by kernel_rfl) ?_ _
        refine NoPanic.normal ?_
        have nl := HlY.out
        go_wp2_with fail
        go_meet
        case rel => exact ⟨V6.heap.size, ⟨true, AY, eY.length, cY, none, 0, 0, none, 0, 0, none, 0, 0⟩, rfl, aY, keep ⟨rfl, Nat.le_refl _, hRow.out, rfl, by simp only; omega, oY.wfe, Has.nil, rfl, Nat.le_refl _, by simp, Has.nil, rfl, by simp, by intro m hm; simp at hm, Has.nil, rfl, Nat.le_refl _, by simp, by intro m hm; simp at hm⟩, keep gW⟩
    case rest =>
      obtain ⟨b, vY, rfl, aY, kY, hY⟩ := hcut
      have hYY := hY.out
      have GY := keep (fr_step top2.out (fr_step F6.out hYY))
      have GC := fr_step F6.out hYY
      have kA1 := kA.out.fr GC
      have kB1 := hkB.out.fr GC
      have kX1 := kX.out.fr hYY
      have kY1 := kY.out
      have m1 : ∀ W, Fr wc W → (ldS 27 (.pointer (some ⟨w2.heap.size, 0, none⟩))).run Try.prog W = .ok (.agg v.cells.toArray) W := fun W h => l1' W (fr_step GC h)
      have m2 : ∀ W, Fr wc W → (ldS 27 (.pointer (some ⟨V1.heap.size, 0, none⟩))).run Try.prog W = .ok (.agg vB.cells.toArray) W := fun W h => lB W (fr_step GC h)
      have m3 : ∀ W, Fr wc W → (ldS 27 (.pointer (some ⟨w6.heap.size, 0, none⟩))).run Try.prog W = .ok (.agg vX.cells.toArray) W := fun W h => lX W (fr_step hYY h)
      have m31 : ∀ W, Fr wc W → W.cell? ⟨w6.heap.size, 1, none⟩ = some (.slice vX.A1 vX.n1 vX.c1) := fun W h => lX1 W (fr_step hYY h)
      have m4 : ∀ W, Fr wc W → (ldS 27 (.pointer (some ⟨b, 0, none⟩))).run Try.prog W = .ok (.agg vY.cells.toArray) W := fun W h => nodS.ld rfl (aY.out.below h aY.out.lt)
      have m41 : ∀ W, Fr wc W → W.cell? ⟨b, 1, none⟩ = some (.slice vY.A1 vY.n1 vY.c1) := fun W h => (aY.out.below h aY.out.lt).cell 1
      have c1 := fun W (h : Fr wc W) => q_same (kA1.fr h) (kA1.fr h)
      have c2 := fun W (h : Fr wc W) => q_same (kA1.fr h) (kB1.fr h)
      have c3 := fun W (h : Fr wc W) => q_same (kB1.fr h) (kA1.fr h)
      have c4 := fun W (h : Fr wc W) => q_same (kX1.fr h) (kY1.fr h)
      have c5 := fun W (h : Fr wc W) => ref_esame (c := vX.c1) (c2 := vY.c1) (kX1.fr h).h1 (kX1.fr h).hB (kX1.fr h).l1 (kX1.fr h).s1 (kX1.fr h).w1 (kY1.fr h).h1 (kY1.fr h).hB (kY1.fr h).l1 (kY1.fr h).s1 (kY1.fr h).w1
      have c6 := fun W (h : Fr wc W) => q_same (kA1.fr h) (kX1.fr h)
      have c7 := fun W (_ : Fr wc W) => awake9 W
      have sE : smN L ⟨true, eY, [], [], []⟩ = decide (L.es = eY) := by unfold smN; rw [e3, e4.1, e4.2.1, e4.2.2]; simp
      have sF : smN N L = false := by unfold smN; rw [e1, e3]; rfl
      rw [smN_self] at c1
      rw [hSB.1] at c2
      rw [hSB.2] at c3
      rw [sE] at c4
      rw [sF] at c6
      simp only at c5
      generalize decide (L.es = eY) = bq at *
      have e1 : (bq == bq) = true := by simp
      unfold nv at c1 c2 c3 c4 c6
      have hD := fr_drew (fr_refl wc)
      clear l1' lB lX lX1 aY kY hY hYY GC kA1 kB1 kX1 kY1 sE sF hkB kA kX oY okE hLe cPut cM hlX hsX HlY ww w66 v66
      go_wp2_with fail
      refine wp_region_noPanic ?_
      refine wp_region_held_drew (S := fun w' => Fr wc w') (by kernel_rfl) hD (fun hHeld => ?_)
      change wpAnyH _ _ _ _ _ _ _ _ _
      refine wpAnyH_take (i := 0) (v := ?_) rfl (by kernel_rfl) (by kernel_rfl) (by kernel_rfl) (fun _ _ _ h => h) (Or.inl ⟨by rfl, ?_⟩) (by assumption) ?_
      rotate_left
      · intro w' hSw
        try dsimp only at hSw
        go_simp
        try with_reducible rfl
      try simp only [List.getElem_toArray, List.getElem_cons_zero, Act.put, List.setIfInBounds_toArray, List.set_cons_zero, List.set_cons_succ]
      refine wpAnyH_take (i := 1) (v := ?_) rfl (by kernel_rfl) (by kernel_rfl) (by kernel_rfl) (fun _ _ _ h => h) (Or.inl ⟨by rfl, ?_⟩) (by assumption) ?_
      rotate_left
      · intro w' hSw
        try dsimp only at hSw
        go_simp
        try with_reducible rfl
      try simp only [List.getElem_toArray, List.getElem_cons_succ, List.getElem_cons_zero, Act.put, List.setIfInBounds_toArray, List.set_cons_zero, List.set_cons_succ]
      refine wpAnyH_ready (rs := [2]) (by kernel_rfl) (by simp) ?_
      refine AllReadyH.cons rfl (fun K hK0 => ?_) AllReadyH.nil
      go_simp
      refine (c1 _ (by assumption)).mono ?_
      rintro e z1 ⟨rfl, zz1⟩
      go_simp
      refine hK0.out _ _ (fr_step (by assumption) zz1) (fun _ => ?_)
      clear hK0 K
      try simp only [List.getElem_toArray, List.getElem_cons_succ, List.getElem_cons_zero, Act.put, List.setIfInBounds_toArray, List.set_cons_zero, List.set_cons_succ]
      refine wpAnyH_take (i := 3) (v := .bool true) rfl (by kernel_rfl) (by kernel_rfl) (by kernel_rfl) (fun _ _ _ h => h) (Or.inl ⟨by rfl, ?_⟩) (by assumption) ?_
      · intro w' hSw
        try dsimp only at hSw
        try go_simp
        all_goals first | done | with_reducible rfl | omega | assumption | (simp; omega)
      try simp only [List.getElem_toArray, List.getElem_cons_succ, List.getElem_cons_zero, Act.put, List.setIfInBounds_toArray, List.set_cons_zero, List.set_cons_succ]
      refine wpAnyH_take (i := 4) (v := ?_) rfl (by kernel_rfl) (by kernel_rfl) (by kernel_rfl) (fun _ _ _ h => h) (Or.inl ⟨by rfl, ?_⟩) (by assumption) ?_
      rotate_left
      · intro w' hSw
        try dsimp only at hSw
        go_simp
        try with_reducible rfl
      try simp only [List.getElem_toArray, List.getElem_cons_succ, List.getElem_cons_zero, Act.put, List.setIfInBounds_toArray, List.set_cons_zero, List.set_cons_succ]
      refine wpAnyH_take (i := 5) (v := ?_) rfl (by kernel_rfl) (by kernel_rfl) (by kernel_rfl) (fun _ _ _ h => h) (Or.inl ⟨by rfl, ?_⟩) (by assumption) ?_
      rotate_left
      · intro w' hSw
        try dsimp only at hSw
        go_simp
        try with_reducible rfl
      try simp only [List.getElem_toArray, List.getElem_cons_succ, List.getElem_cons_zero, Act.put, List.setIfInBounds_toArray, List.set_cons_zero, List.set_cons_succ]
      refine wpAnyH_ready (rs := [6]) (by kernel_rfl) (by simp) ?_
      refine AllReadyH.cons rfl (fun K hK0 => ?_) AllReadyH.nil
      go_simp
      refine (c2 _ (by assumption)).mono ?_
      rintro e z2 ⟨rfl, zz2⟩
      go_simp
      refine hK0.out _ _ (fr_step (by assumption) zz2) (fun _ => ?_)
      clear hK0 K
      try simp only [List.getElem_toArray, List.getElem_cons_succ, List.getElem_cons_zero, Act.put, List.setIfInBounds_toArray, List.set_cons_zero, List.set_cons_succ]
      refine wpAnyH_take (i := 7) (v := .bool true) rfl (by kernel_rfl) (by kernel_rfl) (by kernel_rfl) (fun _ _ _ h => h) (Or.inl ⟨by rfl, ?_⟩) (by assumption) ?_
      · intro w' hSw
        try dsimp only at hSw
        try go_simp
        all_goals first | done | with_reducible rfl | omega | assumption | (simp; omega)
      try simp only [List.getElem_toArray, List.getElem_cons_succ, List.getElem_cons_zero, Act.put, List.setIfInBounds_toArray, List.set_cons_zero, List.set_cons_succ]
      refine wpAnyH_take (i := 8) (v := .bool true) rfl (by kernel_rfl) (by kernel_rfl) (by kernel_rfl) (fun _ _ _ h => h) (Or.inl ⟨by rfl, ?_⟩) (by assumption) ?_
      · intro w' hSw
        try dsimp only at hSw
        try go_simp
        all_goals first | done | with_reducible rfl | omega | assumption | (simp; omega)
      try simp only [List.getElem_toArray, List.getElem_cons_succ, List.getElem_cons_zero, Act.put, List.setIfInBounds_toArray, List.set_cons_zero, List.set_cons_succ]
      refine wpAnyH_take (i := 9) (v := .bool true) rfl (by kernel_rfl) (by kernel_rfl) (by kernel_rfl) (fun _ _ _ h => h) (Or.inl ⟨by rfl, ?_⟩) (by assumption) ?_
      · intro w' hSw
        try dsimp only at hSw
        try go_simp
        all_goals first | done | with_reducible rfl | omega | assumption | (simp; omega)
      try simp only [List.getElem_toArray, List.getElem_cons_succ, List.getElem_cons_zero, Act.put, List.setIfInBounds_toArray, List.set_cons_zero, List.set_cons_succ]
      refine wpAnyH_take (i := 10) (v := ?_) rfl (by kernel_rfl) (by kernel_rfl) (by kernel_rfl) (fun _ _ _ h => h) (Or.inl ⟨by rfl, ?_⟩) (by assumption) ?_
      rotate_left
      · intro w' hSw
        try dsimp only at hSw
        go_simp
        try with_reducible rfl
      try simp only [List.getElem_toArray, List.getElem_cons_succ, List.getElem_cons_zero, Act.put, List.setIfInBounds_toArray, List.set_cons_zero, List.set_cons_succ]
      refine wpAnyH_take (i := 11) (v := ?_) rfl (by kernel_rfl) (by kernel_rfl) (by kernel_rfl) (fun _ _ _ h => h) (Or.inl ⟨by rfl, ?_⟩) (by assumption) ?_
      rotate_left
      · intro w' hSw
        try dsimp only at hSw
        go_simp
        try with_reducible rfl
      try simp only [List.getElem_toArray, List.getElem_cons_succ, List.getElem_cons_zero, Act.put, List.setIfInBounds_toArray, List.set_cons_zero, List.set_cons_succ]
      refine wpAnyH_ready (rs := [12]) (by kernel_rfl) (by simp) ?_
      refine AllReadyH.cons rfl (fun K hK0 => ?_) AllReadyH.nil
      go_simp
      refine (c3 _ (by assumption)).mono ?_
      rintro e z3 ⟨rfl, zz3⟩
      go_simp
      refine hK0.out _ _ (fr_step (by assumption) zz3) (fun _ => ?_)
      clear hK0 K
      try simp only [List.getElem_toArray, List.getElem_cons_succ, List.getElem_cons_zero, Act.put, List.setIfInBounds_toArray, List.set_cons_zero, List.set_cons_succ]
      refine wpAnyH_take (i := 13) (v := .bool true) rfl (by kernel_rfl) (by kernel_rfl) (by kernel_rfl) (fun _ _ _ h => h) (Or.inl ⟨by rfl, ?_⟩) (by assumption) ?_
      · intro w' hSw
        try dsimp only at hSw
        try go_simp
        all_goals first | done | with_reducible rfl | omega | assumption | (simp; omega)
      try simp only [List.getElem_toArray, List.getElem_cons_succ, List.getElem_cons_zero, Act.put, List.setIfInBounds_toArray, List.set_cons_zero, List.set_cons_succ]
      refine wpAnyH_take (i := 14) (v := .bool true) rfl (by kernel_rfl) (by kernel_rfl) (by kernel_rfl) (fun _ _ _ h => h) (Or.inl ⟨by rfl, ?_⟩) (by assumption) ?_
      · intro w' hSw
        try dsimp only at hSw
        try go_simp
        all_goals first | done | with_reducible rfl | omega | assumption | (simp; omega)
      try simp only [List.getElem_toArray, List.getElem_cons_succ, List.getElem_cons_zero, Act.put, List.setIfInBounds_toArray, List.set_cons_zero, List.set_cons_succ]
      refine wpAnyH_take (i := 15) (v := .bool true) rfl (by kernel_rfl) (by kernel_rfl) (by kernel_rfl) (fun _ _ _ h => h) (Or.inl ⟨by rfl, ?_⟩) (by assumption) ?_
      · intro w' hSw
        try dsimp only at hSw
        try go_simp
        all_goals first | done | with_reducible rfl | omega | assumption | (simp; omega)
      try simp only [List.getElem_toArray, List.getElem_cons_succ, List.getElem_cons_zero, Act.put, List.setIfInBounds_toArray, List.set_cons_zero, List.set_cons_succ]
      refine wpAnyH_take (i := 16) (v := ?_) rfl (by kernel_rfl) (by kernel_rfl) (by kernel_rfl) (fun _ _ _ h => h) (Or.inl ⟨by rfl, ?_⟩) (by assumption) ?_
      rotate_left
      · intro w' hSw
        try dsimp only at hSw
        go_simp
        try with_reducible rfl
      try simp only [List.getElem_toArray, List.getElem_cons_succ, List.getElem_cons_zero, Act.put, List.setIfInBounds_toArray, List.set_cons_zero, List.set_cons_succ]
      refine wpAnyH_take (i := 17) (v := ?_) rfl (by kernel_rfl) (by kernel_rfl) (by kernel_rfl) (fun _ _ _ h => h) (Or.inl ⟨by rfl, ?_⟩) (by assumption) ?_
      rotate_left
      · intro w' hSw
        try dsimp only at hSw
        go_simp
        try with_reducible rfl
      try simp only [List.getElem_toArray, List.getElem_cons_succ, List.getElem_cons_zero, Act.put, List.setIfInBounds_toArray, List.set_cons_zero, List.set_cons_succ]
      refine wpAnyH_take (i := 19) (v := ?_) rfl (by kernel_rfl) (by kernel_rfl) (by kernel_rfl) (fun _ _ _ h => h) (Or.inl ⟨by rfl, ?_⟩) (by assumption) ?_
      rotate_left
      · intro w' hSw
        try dsimp only at hSw
        go_simp
        try with_reducible rfl
      try simp only [List.getElem_toArray, List.getElem_cons_succ, List.getElem_cons_zero, Act.put, List.setIfInBounds_toArray, List.set_cons_zero, List.set_cons_succ]
      refine wpAnyH_take (i := 20) (v := ?_) rfl (by kernel_rfl) (by kernel_rfl) (by kernel_rfl) (fun _ _ _ h => h) (Or.inl ⟨by rfl, ?_⟩) (by assumption) ?_
      rotate_left
      · intro w' hSw
        try dsimp only at hSw
        go_simp
        try with_reducible rfl
      try simp only [List.getElem_toArray, List.getElem_cons_succ, List.getElem_cons_zero, Act.put, List.setIfInBounds_toArray, List.set_cons_zero, List.set_cons_succ]
      refine wpAnyH_take (i := 21) (v := ?_) rfl (by kernel_rfl) (by kernel_rfl) (by kernel_rfl) (fun _ _ _ h => h) (Or.inl ⟨by rfl, ?_⟩) (by assumption) ?_
      rotate_left
      · intro w' hSw
        try dsimp only at hSw
        go_simp
        try with_reducible rfl
      try simp only [List.getElem_toArray, List.getElem_cons_succ, List.getElem_cons_zero, Act.put, List.setIfInBounds_toArray, List.set_cons_zero, List.set_cons_succ]
      refine wpAnyH_take (i := 22) (v := ?_) rfl (by kernel_rfl) (by kernel_rfl) (by kernel_rfl) (fun _ _ _ h => h) (Or.inl ⟨by rfl, ?_⟩) (by assumption) ?_
      rotate_left
      · intro w' hSw
        try dsimp only at hSw
        go_simp
        try with_reducible rfl
      try simp only [List.getElem_toArray, List.getElem_cons_succ, List.getElem_cons_zero, Act.put, List.setIfInBounds_toArray, List.set_cons_zero, List.set_cons_succ]
      refine wpAnyH_ready (rs := [18]) (by kernel_rfl) (by simp) ?_
      refine AllReadyH.cons rfl (fun K hK0 => ?_) AllReadyH.nil
      go_simp
      refine (c4 _ (by assumption)).mono ?_
      rintro e z4 ⟨rfl, zz4⟩
      go_simp
      refine hK0.out _ _ (fr_step (by assumption) zz4) (fun _ => ?_)
      clear hK0 K
      try simp only [List.getElem_toArray, List.getElem_cons_succ, List.getElem_cons_zero, Act.put, List.setIfInBounds_toArray, List.set_cons_zero, List.set_cons_succ]
      refine wpAnyH_ready (rs := [23]) (by kernel_rfl) (by simp) ?_
      refine AllReadyH.cons rfl (fun K hK0 => ?_) AllReadyH.nil
      go_simp
      refine (c5 _ (by assumption)).mono ?_
      rintro e z5 ⟨rfl, zz5⟩
      go_simp
      refine hK0.out _ _ (fr_step (by assumption) zz5) (fun _ => ?_)
      clear hK0 K
      try simp only [List.getElem_toArray, List.getElem_cons_succ, List.getElem_cons_zero, Act.put, List.setIfInBounds_toArray, List.set_cons_zero, List.set_cons_succ]
      refine wpAnyH_take (i := 24) (v := .bool true) rfl (by kernel_rfl) (by kernel_rfl) (by kernel_rfl) (fun _ _ _ h => h) (Or.inl ⟨by rfl, ?_⟩) (by assumption) ?_
      · intro w' hSw
        try dsimp only at hSw
        try go_simp
        all_goals first | done | with_reducible rfl | omega | assumption | (simp; omega)
      try simp only [List.getElem_toArray, List.getElem_cons_succ, List.getElem_cons_zero, Act.put, List.setIfInBounds_toArray, List.set_cons_zero, List.set_cons_succ]
      refine wpAnyH_take (i := 25) (v := .bool true) rfl (by kernel_rfl) (by kernel_rfl) (by kernel_rfl) (fun _ _ _ h => h) (Or.inl ⟨by rfl, ?_⟩) (by assumption) ?_
      · intro w' hSw
        try dsimp only at hSw
        try go_simp
        all_goals first | done | with_reducible rfl | omega | assumption | (simp; omega)
      try simp only [List.getElem_toArray, List.getElem_cons_succ, List.getElem_cons_zero, Act.put, List.setIfInBounds_toArray, List.set_cons_zero, List.set_cons_succ]
      refine wpAnyH_take (i := 26) (v := .bool true) rfl (by kernel_rfl) (by kernel_rfl) (by kernel_rfl) (fun _ _ _ h => h) (Or.inl ⟨by rfl, ?_⟩) (by assumption) ?_
      · intro w' hSw
        try dsimp only at hSw
        try go_simp
        all_goals first | done | with_reducible rfl | omega | assumption | (simp; omega)
      try simp only [List.getElem_toArray, List.getElem_cons_succ, List.getElem_cons_zero, Act.put, List.setIfInBounds_toArray, List.set_cons_zero, List.set_cons_succ]
      refine wpAnyH_take (i := 27) (v := ?_) rfl (by kernel_rfl) (by kernel_rfl) (by kernel_rfl) (fun _ _ _ h => h) (Or.inl ⟨by rfl, ?_⟩) (by assumption) ?_
      rotate_left
      · intro w' hSw
        try dsimp only at hSw
        go_simp
        try with_reducible rfl
      try simp only [List.getElem_toArray, List.getElem_cons_succ, List.getElem_cons_zero, Act.put, List.setIfInBounds_toArray, List.set_cons_zero, List.set_cons_succ]
      refine wpAnyH_take (i := 28) (v := ?_) rfl (by kernel_rfl) (by kernel_rfl) (by kernel_rfl) (fun _ _ _ h => h) (Or.inl ⟨by rfl, ?_⟩) (by assumption) ?_
      rotate_left
      · intro w' hSw
        try dsimp only at hSw
        go_simp
        try with_reducible rfl
      try simp only [List.getElem_toArray, List.getElem_cons_succ, List.getElem_cons_zero, Act.put, List.setIfInBounds_toArray, List.set_cons_zero, List.set_cons_succ]
      refine wpAnyH_ready (rs := [29]) (by kernel_rfl) (by simp) ?_
      refine AllReadyH.cons rfl (fun K hK0 => ?_) AllReadyH.nil
      go_simp
      refine (c6 _ (by assumption)).mono ?_
      rintro e z6 ⟨rfl, zz6⟩
      go_simp
      refine hK0.out _ _ (fr_step (by assumption) zz6) (fun _ => ?_)
      clear hK0 K
      try simp only [List.getElem_toArray, List.getElem_cons_succ, List.getElem_cons_zero, Act.put, List.setIfInBounds_toArray, List.set_cons_zero, List.set_cons_succ]
      refine wpAnyH_take (i := 30) (v := .bool true) rfl (by kernel_rfl) (by kernel_rfl) (by kernel_rfl) (fun _ _ _ h => h) (Or.inl ⟨by rfl, ?_⟩) (by assumption) ?_
      · intro w' hSw
        try dsimp only at hSw
        try go_simp
        all_goals first | done | with_reducible rfl | omega | assumption | (simp; omega)
      try simp only [List.getElem_toArray, List.getElem_cons_succ, List.getElem_cons_zero, Act.put, List.setIfInBounds_toArray, List.set_cons_zero, List.set_cons_succ]
      refine wpAnyH_take (i := 31) (v := .bool true) rfl (by kernel_rfl) (by kernel_rfl) (by kernel_rfl) (fun _ _ _ h => h) (Or.inl ⟨by rfl, ?_⟩) (by assumption) ?_
      · intro w' hSw
        try dsimp only at hSw
        try go_simp
        all_goals first | done | with_reducible rfl | omega | assumption | (simp; omega)
      try simp only [List.getElem_toArray, List.getElem_cons_succ, List.getElem_cons_zero, Act.put, List.setIfInBounds_toArray, List.set_cons_zero, List.set_cons_succ]
      refine wpAnyH_take (i := 32) (v := .bool true) rfl (by kernel_rfl) (by kernel_rfl) (by kernel_rfl) (fun _ _ _ h => h) (Or.inl ⟨by rfl, ?_⟩) (by assumption) ?_
      · intro w' hSw
        try dsimp only at hSw
        try go_simp
        all_goals first | done | with_reducible rfl | omega | assumption | (simp; omega)
      try simp only [List.getElem_toArray, List.getElem_cons_succ, List.getElem_cons_zero, Act.put, List.setIfInBounds_toArray, List.set_cons_zero, List.set_cons_succ]
      refine wpAnyH_ready (rs := [33]) (by kernel_rfl) (by simp) ?_
      refine AllReadyH.cons rfl (fun K hK0 => ?_) AllReadyH.nil
      go_simp
      refine (c7 _ (by assumption)).mono ?_
      rintro e z7 ⟨rfl, zz7⟩
      go_simp
      refine hK0.out _ _ (fr_step (by assumption) zz7) (fun _ => ?_)
      clear hK0 K
      try simp only [List.getElem_toArray, List.getElem_cons_succ, List.getElem_cons_zero, Act.put, List.setIfInBounds_toArray, List.set_cons_zero, List.set_cons_succ]
      refine wpAnyH_take (i := 34) (v := .bool true) rfl (by kernel_rfl) (by kernel_rfl) (by kernel_rfl) (fun _ _ _ h => h) (Or.inl ⟨by rfl, ?_⟩) (by assumption) ?_
      · intro w' hSw
        try dsimp only at hSw
        try go_simp
        all_goals first | done | with_reducible rfl | omega | assumption | (simp; omega)
      try simp only [List.getElem_toArray, List.getElem_cons_succ, List.getElem_cons_zero, Act.put, List.setIfInBounds_toArray, List.set_cons_zero, List.set_cons_succ]
      refine wpAnyH_take (i := 35) (v := ?_) rfl (by kernel_rfl) (by kernel_rfl) (by kernel_rfl) (fun _ _ _ h => h) (Or.inl ⟨by rfl, ?_⟩) (by assumption) ?_
      rotate_left
      · intro w' hSw
        try dsimp only at hSw
        go_simp
        try with_reducible rfl
      try simp only [List.getElem_toArray, List.getElem_cons_succ, List.getElem_cons_zero, Act.put, List.setIfInBounds_toArray, List.set_cons_zero, List.set_cons_succ]
      refine wpAnyH_done (by kernel_rfl) ?_ _
      refine NoPanic.normal ?_
      go_wp2_with fail
      go_ret
      exact ⟨rfl, fr_step GY.out (by assumption)⟩
end Go.Proofs.Ytcdcaanmmbopbaa
