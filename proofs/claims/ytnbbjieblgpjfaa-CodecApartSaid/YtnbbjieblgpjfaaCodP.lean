/- CodecApart, walked. -/
import Derived.Test.YtnbbjieblgpjfaaCodX
namespace Go.Proofs.Ytnbbjieblgpjfaa
set_option linter.unusedVariables false
set_option linter.unusedSimpArgs false
set_option maxRecDepth 100000
open Go.RowKit
theorem lf_leaf (ns : List Int) : (zcp ns).lf = true := rfl
theorem lf_inn (ns : List Int) (f : Int) (ms : List Int) : (zdY ns f ms).lf = false := rfl
theorem bk_eqb {a b : RN} (ha : Fit a) (hb : Fit b) : (strOfNums (bkB a)).toList = (strOfNums (bkB b)).toList ↔ a = b := by
  constructor
  · intro h
    rw [Lib.toList_data, Lib.toList_data] at h
    exact bk_inj ha hb ((strN_inj (bk_sum ha).2.1 (bk_sum hb).2.1).1 (ByteArray.ext (Array.ext' h)))
  · intro h; rw [h]
theorem bk_dec {a b : RN} (ha : Fit a) (hb : Fit b) : ((strOfNums (bkB a)).toList == (strOfNums (bkB b)).toList) = smN a b := by
  by_cases e : a = b
  · subst e; rw [csmN_refl]; simp
  · rw [smN_ne e, beq_eq_false_iff_ne]
    exact fun h => e ((bk_eqb ha hb).1 h)
theorem bk_str_ne {a b : RN} (ha : Fit a) (hb : Fit b) (h : a.lf = true) (h2 : b.lf = false) : ¬ ((strOfNums (bkB a)).toList = (strOfNums (bkB b)).toList) := by
  intro e
  have := (bk_eqb ha hb).1 e
  rw [this, h2] at h
  cases h
attribute [local go_sem ↓] zw zt zae zbh zaP
set_option maxHeartbeats 16000000 in
theorem codecApart_core {w : World} {A0 A1 A2 A3 A5 A6 : Option Addr} {n0 c0 n1 c1 n2 c2 n3 c3 n5 c5 n6 c6 : Nat} {es fs ps qs ls ms : List Int} {f : Int}
    (hl0 : Has w w.heap.size A0 (es.map (Value.int .i64))) (hn0 : es.length = n0) (hs0 : ∀ z ∈ es, zal z) (hm0 : n0 ≤ maxLen)
    (hl1 : Has w w.heap.size A1 (fs.map (Value.int .i64))) (hn1 : fs.length = n1) (hs1 : ∀ z ∈ fs, zal z) (hm1 : n1 ≤ maxLen)
    (hl2 : Has w w.heap.size A2 (ps.map (Value.int .i64))) (hn2 : ps.length = n2) (hs2 : ∀ z ∈ ps, zal z) (hb2 : n2 * 8 ≤ 140737488351232)
    (hl3 : Has w w.heap.size A3 (qs.map (Value.int .i64))) (hn3 : qs.length = n3) (hs3 : ∀ z ∈ qs, zal z) (hb3 : n3 * 8 ≤ 140737488351232) (hf : zal f)
    (hl5 : Has w w.heap.size A5 (ls.map (Value.int .i64))) (hn5 : ls.length = n5) (hs5 : ∀ z ∈ ls, zal z) (hm5 : n5 ≤ maxLen)
    (hl6 : Has w w.heap.size A6 (ms.map (Value.int .i64))) (hn6 : ms.length = n6) (hs6 : ∀ z ∈ ms, zal z) (hm6 : n6 ≤ maxLen) :
    Calls Try.prog 6 #[.slice A0 n0 c0, .slice A1 n1 c1, .slice A2 n2 c2, .slice A3 n3 c3, .int .i64 f, .slice A5 n5 c5, .slice A6 n6 c6] w fun e w' => e = .returned (.bool true) ∧ Below w.heap.size w w' := by
  have rr := ze w
  have cLe := fun W (h : Fr w W) => zoV (w := W) (c := c0) (hl0.fr (Nat.le_refl _) h) h.size hn0 hs0 hm0
  have cLf := fun W (h : Fr w W) => zoV (w := W) (c := c1) (hl1.fr (Nat.le_refl _) h) h.size hn1 hs1 hm1
  have cIp := fun W (h : Fr w W) => zjw (w := W) (c := c2) (c2 := c5) (hl2.fr (Nat.le_refl _) h) h.size hn2 hs2 hf (hl5.fr (Nat.le_refl _) h) h.size hn5 hs5 hm5 hb2
  have cIq := fun W (h : Fr w W) => zjw (w := W) (c := c3) (c2 := c6) (hl3.fr (Nat.le_refl _) h) h.size hn3 hs3 hf (hl6.fr (Nat.le_refl _) h) h.size hn6 hs6 hm6 hb3
  have aF := zb (leaf_fit es)
  have bF := zb (leaf_fit fs)
  have cF := zb (inn_fit ps f ls)
  have dF := zb (inn_fit qs f ms)
  have aT := zb (lf_leaf es)
  have cT := zb (lf_inn ps f ls)
  clear hl0 hn0 hs0 hm0 hl1 hn1 hs1 hm1 hl2 hn2 hs2 hb2 hf hl3 hn3 hs3 hb3 hl5 hn5 hs5 hm5 hl6 hn6 hs6 hm6
  generalize zcp es = a at *
  generalize zcp fs = b at *
  generalize zdY ps f ls = c at *
  generalize zdY qs f ms = d at *
  go_enter Try.func6, Try.ntmps6
  go_wp2_with fail
  refine (cLe _ rr).mono ?_
  rintro e w1 ⟨va, rfl, h1, f1⟩
  go_wp2_with fail
  refine (cLf _ f1).mono ?_
  rintro e w2 ⟨vb, rfl, h2, f2⟩
  have F2 := za f1 f2
  clear cLf
  obtain ⟨UM, hUM, fUM, aM, bM⟩ : ∃ U, (w2.alloc (.cells zh.cells.toArray 27)).alloc (.cells zh.cells.toArray 27) = U ∧ Fr w2 U ∧ Arr U w2.heap.size 27 zh.cells.toArray ∧ Arr U (w2.heap.size + 1) 27 zh.cells.toArray :=
    ⟨_, rfl, zf (zf (ze _) _) _, (Arr.new _ _ _).alloc _, zbr _ _ _ _ (by simp)⟩
  rw [zeroN_cells] at hUM
  have tok1 : Hid (0 < 1) := zb (by decide)
  have tok2 : Hid (0 < 1) := zb (by decide)
  unfold nv
  go_upto_region 2 with (first
    | (clear tok1; refine wpList_put (ds := va.cells) zaw rfl (.tmp 15) (.tmp 28) rfl w2.heap.size 0 rfl rfl rfl (za6 _) aM (Nat.le_of_ble_eq_true rfl) (zk _ _ (Nat.le_of_eq rfl)) ?_; intro WM cM kM
       have dM := kM.arr bM (by omega)
       have FM : Fr w2 WM := kM.below fUM fUM.size (Nat.le_refl _))
    | (clear tok2; refine wpList_put (ds := vb.cells) zaw rfl (.tmp 16) (.tmp 30) rfl (w2.heap.size + 1) 0 rfl rfl rfl (za6 _) dM (Nat.le_of_ble_eq_true rfl) (zk _ _ (Nat.le_of_eq rfl)) ?_; intro wM qM jM
       have pM := jM.arr cM (by omega)
       have fM : Fr w2 wM := jM.below FM FM.size (Nat.le_succ _))
    | fail)
  try simp only [Act.put]
  clear aM bM cM dM kM jM hUM fUM FM WM
  have FM := za F2 fM
  go_wp2_with fail
  refine (cIp _ FM).mono ?_
  rintro e w3 ⟨vc, rfl, h3, f3⟩
  have F3 := za FM f3
  go_wp2_with fail
  refine (cIq _ F3).mono ?_
  rintro e w4 ⟨vd, rfl, h4, f4⟩
  have F4 := za F3 f4
  clear cIq
  obtain ⟨UO, hUO, fUO, aO, bO⟩ : ∃ U, (w4.alloc (.cells zh.cells.toArray 27)).alloc (.cells zh.cells.toArray 27) = U ∧ Fr w4 U ∧ Arr U w4.heap.size 27 zh.cells.toArray ∧ Arr U (w4.heap.size + 1) 27 zh.cells.toArray :=
    ⟨_, rfl, zf (zf (ze _) _) _, (Arr.new _ _ _).alloc _, zbr _ _ _ _ (by simp)⟩
  rw [zeroN_cells] at hUO
  have tok1 : Hid (0 < 1) := zb (by decide)
  have tok2 : Hid (0 < 1) := zb (by decide)
  unfold nv
  go_upto_region 3 with (first
    | (clear tok1; refine wpList_put (ds := vc.cells) zaw rfl (.tmp 17) (.tmp 34) rfl w4.heap.size 0 rfl rfl rfl (za6 _) aO (Nat.le_of_ble_eq_true rfl) (zk _ _ (Nat.le_of_eq rfl)) ?_; intro WO cO kO
       have dO := kO.arr bO (by omega)
       have FO : Fr w4 WO := kO.below fUO fUO.size (Nat.le_refl _))
    | (clear tok2; refine wpList_put (ds := vd.cells) zaw rfl (.tmp 18) (.tmp 38) rfl (w4.heap.size + 1) 0 rfl rfl rfl (za6 _) dO (Nat.le_of_ble_eq_true rfl) (zk _ _ (Nat.le_of_eq rfl)) ?_; intro wO qO jO
       have pO := jO.arr cO (by omega)
       have fO : Fr w4 wO := jO.below FO FO.size (Nat.le_succ _))
    | fail)
  try simp only [Act.put]
  clear aO bO cO dO kO jO hUO fUO FO WO
  have FO := za F4 fO
  have f34 := za f3 (za f4 fO)
  have nA := zb ((h1.out.nh.fr (za f2 (za fM f34))).grow_top (za f2 (za fM f34)))
  have nB := zb ((h2.out.nh.fr (za fM f34)).grow_top (za fM f34))
  have nC := zb ((h3.out.nh.fr (za f4 fO)).grow_top (za f4 fO))
  have nD := zb ((h4.out.nh.fr fO).grow_top fO)
  have pA := pM.below f34 pM.lt
  have qA := qM.below f34 qM.lt
  have lA : ∀ W, Fr wO W → (ldS 27 (.pointer (some ⟨w2.heap.size, 0, none⟩))).run Try.prog W = .ok (.agg va.cells.toArray) W := fun W h => zq.ld rfl (pA.below h pA.lt)
  have lB : ∀ W, Fr wO W → (ldS 27 (.pointer (some ⟨w2.heap.size + 1, 0, none⟩))).run Try.prog W = .ok (.agg vb.cells.toArray) W := fun W h => zq.ld rfl (qA.below h qA.lt)
  have lC : ∀ W, Fr wO W → (ldS 27 (.pointer (some ⟨w4.heap.size, 0, none⟩))).run Try.prog W = .ok (.agg vc.cells.toArray) W := fun W h => zq.ld rfl (pO.below h pO.lt)
  have lD : ∀ W, Fr wO W → (ldS 27 (.pointer (some ⟨w4.heap.size + 1, 0, none⟩))).run Try.prog W = .ok (.agg vd.cells.toArray) W := fun W h => zq.ld rfl (qO.below h qO.lt)
  clear h1 h2 h3 h4 pA qA pM qM pO qO F2 FM F3 F4 f1 f2 f3 f4 fM fO f34
  have g0 := ze wO
  have l0 := lA wO g0
  have cE := encode_yes nA.out aF.out.1 aF.out.2
  unfold nv at cE
  go_wp2_with fail
  refine cE.mono ?_
  rintro e w5 ⟨gA, rfl, h5⟩
  obtain ⟨zA, a5, g5⟩ := h5.out
  have l5 := lB w5 g5
  have cE := encode_yes ((nB.out.fr g5).grow_top g5) bF.out.1 bF.out.2
  unfold nv at cE
  clear l0 h5
  go_wp2_with fail
  refine cE.mono ?_
  rintro e w6 ⟨gB, rfl, h6⟩
  obtain ⟨zB, a6, e6⟩ := h6.out
  have g6 := za g5 e6
  have l6 := lC w6 g6
  have cE := encode_yes ((nC.out.fr g6).grow_top g6) cF.out.1 cF.out.2
  unfold nv at cE
  clear l5 h6
  go_wp2_with fail
  refine cE.mono ?_
  rintro e w7 ⟨gC, rfl, h7⟩
  obtain ⟨zC, a7, e7⟩ := h7.out
  have g7 := za g6 e7
  have l7 := lD w7 g7
  have cE := encode_yes ((nD.out.fr g7).grow_top g7) dF.out.1 dF.out.2
  unfold nv at cE
  clear l6 h7
  go_wp2_with fail
  refine cE.mono ?_
  rintro e w8 ⟨gD, rfl, h8⟩
  obtain ⟨zD, a8, e8⟩ := h8.out
  have g8 := za g7 e8
  clear l7 h8 cE
  have QA := zb (bk_sum aF.out).1
  have QB := zb (bk_sum bF.out).1
  have QC := zb (bk_sum cF.out).1
  have QD := zb (bk_sum dF.out).1
  have sA := fun W (h : Fr w8 W) => conv_str (w := W) (c := 256) (zax _ (a5.below (za e6 (za e7 (za e8 h))) a5.lt)) QA.out
  have sB := fun W (h : Fr w8 W) => conv_str (w := W) (c := 256) (zax _ (a6.below (za e7 (za e8 h)) a6.lt)) QB.out
  have sC := fun W (h : Fr w8 W) => conv_str (w := W) (c := 256) (zax _ (a7.below (za e8 h) a7.lt)) QC.out
  have sD := fun W (h : Fr w8 W) => conv_str (w := W) (c := 256) (zax _ (a8.below h a8.lt)) QD.out
  have dAB := bk_dec aF.out bF.out
  have dCD := bk_dec cF.out dF.out
  have dAC := bk_str_ne aF.out cF.out aT.out cT.out
  have nA8 := zb ((nA.out.fr g8).grow_top g8)
  have nB8 := zb ((nB.out.fr g8).grow_top g8)
  have nC8 := zb ((nC.out.fr g8).grow_top g8)
  have nD8 := zb ((nD.out.fr g8).grow_top g8)
  have cAB := fun W h => q_rsame (W := W) ((nA8.out.fr h).grow_top h) ((nB8.out.fr h).grow_top h)
  have cCD := fun W h => q_rsame (W := W) ((nC8.out.fr h).grow_top h) ((nD8.out.fr h).grow_top h)
  generalize smN a b = b1 at *
  generalize smN c d = b2 at *
  generalize strOfNums (bkB a) = tA at *
  generalize strOfNums (bkB b) = tB at *
  generalize strOfNums (bkB c) = tC at *
  generalize strOfNums (bkB d) = tD at *
  have eb1 : (b1 == b1) = true := by simp
  have eb2 : (b2 == b2) = true := by simp
  unfold nv at cAB cCD
  have mA := fun W h => lA W (za g8 h)
  have mB := fun W h => lB W (za g8 h)
  have mC := fun W h => lC W (za g8 h)
  have mD := fun W h => lD W (za g8 h)
  have hrD : Fr w8 w8.drew := zn (ze w8)
  have F8 := za FO g8
  have cA := awake11
  clear a5 a6 a7 a8 lA lB lC lD nA nB nC nD g5 g6 g7 e6 e7 e8 g0 zA zB zC zD QA QB QC QD
  go_upto_region 7 with fail
  try simp only [Act.put]
  refine wp_region_noPanic ?_
  refine wp_region_held_drew (S := fun W => Fr w8 W) (by kernel_rfl) hrD (fun hHeld => ?_)
  change wpAnyH _ _ _ _ _ _ _ _ _
  generalize w8.drew = X0 at *
  refine wpAnyH_take (i := 0) (v := ?_) rfl (by kernel_rfl) (by kernel_rfl) (by kernel_rfl) (fun _ _ _ h => h) (Or.inl ⟨by rfl, ?_⟩) (by assumption) ?_
  rotate_left
  · intro w' hSw
    try dsimp only at hSw
    go_simp
    try with_reducible rfl
  try simp only [List.getElem_toArray, List.getElem_cons_zero, Act.put, List.setIfInBounds_toArray, List.set_cons_zero, List.set_cons_succ]
  refine wpAnyH_take (i := 1) (v := ?_) rfl (by kernel_rfl) (by kernel_rfl) (by kernel_rfl) (fun _ _ _ h => h) (Or.inl ⟨by rfl, ?_⟩) (by assumption) ?_
  rotate_left
  · intro w' hSw
    try dsimp only at hSw
    go_simp
    try with_reducible rfl
  try simp only [List.getElem_toArray, List.getElem_cons_succ, List.getElem_cons_zero, Act.put, List.setIfInBounds_toArray, List.set_cons_zero, List.set_cons_succ]
  refine wpAnyH_take (i := 2) (v := .bool true) rfl (by kernel_rfl) (by kernel_rfl) (by kernel_rfl) (fun _ _ _ h => h) (Or.inl ⟨by rfl, ?_⟩) (by assumption) ?_
  · intro w' hSw
    try dsimp only at hSw
    try go_simp
    all_goals first | done | with_reducible rfl | omega | assumption | (simp; omega)
  try simp only [List.getElem_toArray, List.getElem_cons_succ, List.getElem_cons_zero, Act.put, List.setIfInBounds_toArray, List.set_cons_zero, List.set_cons_succ]
  refine wpAnyH_take (i := 3) (v := .bool true) rfl (by kernel_rfl) (by kernel_rfl) (by kernel_rfl) (fun _ _ _ h => h) (Or.inl ⟨by rfl, ?_⟩) (by assumption) ?_
  · intro w' hSw
    try dsimp only at hSw
    try go_simp
    all_goals first | done | with_reducible rfl | omega | assumption | (simp; omega)
  try simp only [List.getElem_toArray, List.getElem_cons_succ, List.getElem_cons_zero, Act.put, List.setIfInBounds_toArray, List.set_cons_zero, List.set_cons_succ]
  refine wpAnyH_take (i := 4) (v := ?_) rfl (by kernel_rfl) (by kernel_rfl) (by kernel_rfl) (fun _ _ _ h => h) (Or.inl ⟨by rfl, ?_⟩) (by assumption) ?_
  rotate_left
  · intro w' hSw
    try dsimp only at hSw
    go_simp
    try with_reducible rfl
  try simp only [List.getElem_toArray, List.getElem_cons_succ, List.getElem_cons_zero, Act.put, List.setIfInBounds_toArray, List.set_cons_zero, List.set_cons_succ]
  refine wpAnyH_take (i := 5) (v := ?_) rfl (by kernel_rfl) (by kernel_rfl) (by kernel_rfl) (fun _ _ _ h => h) (Or.inl ⟨by rfl, ?_⟩) (by assumption) ?_
  rotate_left
  · intro w' hSw
    try dsimp only at hSw
    go_simp
    try with_reducible rfl
  try simp only [List.getElem_toArray, List.getElem_cons_succ, List.getElem_cons_zero, Act.put, List.setIfInBounds_toArray, List.set_cons_zero, List.set_cons_succ]
  refine wpAnyH_take (i := 6) (v := .bool true) rfl (by kernel_rfl) (by kernel_rfl) (by kernel_rfl) (fun _ _ _ h => h) (Or.inl ⟨by rfl, ?_⟩) (by assumption) ?_
  · intro w' hSw
    try dsimp only at hSw
    try go_simp
    all_goals first | done | with_reducible rfl | omega | assumption | (simp; omega)
  try simp only [List.getElem_toArray, List.getElem_cons_succ, List.getElem_cons_zero, Act.put, List.setIfInBounds_toArray, List.set_cons_zero, List.set_cons_succ]
  refine wpAnyH_take (i := 7) (v := .bool true) rfl (by kernel_rfl) (by kernel_rfl) (by kernel_rfl) (fun _ _ _ h => h) (Or.inl ⟨by rfl, ?_⟩) (by assumption) ?_
  · intro w' hSw
    try dsimp only at hSw
    try go_simp
    all_goals first | done | with_reducible rfl | omega | assumption | (simp; omega)
  try simp only [List.getElem_toArray, List.getElem_cons_succ, List.getElem_cons_zero, Act.put, List.setIfInBounds_toArray, List.set_cons_zero, List.set_cons_succ]
  refine wpAnyH_take (i := 8) (v := .bool true) rfl (by kernel_rfl) (by kernel_rfl) (by kernel_rfl) (fun _ _ _ h => h) (Or.inl ⟨by rfl, ?_⟩) (by assumption) ?_
  · intro w' hSw
    try dsimp only at hSw
    try go_simp
    all_goals first | done | with_reducible rfl | omega | assumption | (simp; omega)
  try simp only [List.getElem_toArray, List.getElem_cons_succ, List.getElem_cons_zero, Act.put, List.setIfInBounds_toArray, List.set_cons_zero, List.set_cons_succ]
  refine wpAnyH_take (i := 9) (v := ?_) rfl (by kernel_rfl) (by kernel_rfl) (by kernel_rfl) (fun _ _ _ h => h) (Or.inl ⟨by rfl, ?_⟩) (by assumption) ?_
  rotate_left
  · intro w' hSw
    try dsimp only at hSw
    go_simp
    try with_reducible rfl
  try simp only [List.getElem_toArray, List.getElem_cons_succ, List.getElem_cons_zero, Act.put, List.setIfInBounds_toArray, List.set_cons_zero, List.set_cons_succ]
  refine wpAnyH_take (i := 10) (v := ?_) rfl (by kernel_rfl) (by kernel_rfl) (by kernel_rfl) (fun _ _ _ h => h) (Or.inl ⟨by rfl, ?_⟩) (by assumption) ?_
  rotate_left
  · intro w' hSw
    try dsimp only at hSw
    go_simp
    try with_reducible rfl
  try simp only [List.getElem_toArray, List.getElem_cons_succ, List.getElem_cons_zero, Act.put, List.setIfInBounds_toArray, List.set_cons_zero, List.set_cons_succ]
  refine wpAnyH_take (i := 11) (v := ?_) rfl (by kernel_rfl) (by kernel_rfl) (by kernel_rfl) (fun _ _ _ h => h) (Or.inl ⟨by rfl, ?_⟩) (by assumption) ?_
  rotate_left
  · intro w' hSw
    try dsimp only at hSw
    go_simp
    try with_reducible rfl
  try simp only [List.getElem_toArray, List.getElem_cons_succ, List.getElem_cons_zero, Act.put, List.setIfInBounds_toArray, List.set_cons_zero, List.set_cons_succ]
  refine wpAnyH_take (i := 12) (v := ?_) rfl (by kernel_rfl) (by kernel_rfl) (by kernel_rfl) (fun _ _ _ h => h) (Or.inl ⟨by rfl, ?_⟩) (by assumption) ?_
  rotate_left
  · intro w' hSw
    try dsimp only at hSw
    go_simp
    try with_reducible rfl
  try simp only [List.getElem_toArray, List.getElem_cons_succ, List.getElem_cons_zero, Act.put, List.setIfInBounds_toArray, List.set_cons_zero, List.set_cons_succ]
  refine wpAnyH_take (i := 13) (v := ?_) rfl (by kernel_rfl) (by kernel_rfl) (by kernel_rfl) (fun _ _ _ h => h) (Or.inl ⟨by rfl, ?_⟩) (by assumption) ?_
  rotate_left
  · intro w' hSw
    try dsimp only at hSw
    go_simp
    try with_reducible rfl
  try simp only [List.getElem_toArray, List.getElem_cons_succ, List.getElem_cons_zero, Act.put, List.setIfInBounds_toArray, List.set_cons_zero, List.set_cons_succ]
  refine wpAnyH_take (i := 14) (v := ?_) rfl (by kernel_rfl) (by kernel_rfl) (by kernel_rfl) (fun _ _ _ h => h) (Or.inl ⟨by rfl, ?_⟩) (by assumption) ?_
  rotate_left
  · intro w' hSw
    try dsimp only at hSw
    go_simp
    try with_reducible rfl
  try simp only [List.getElem_toArray, List.getElem_cons_succ, List.getElem_cons_zero, Act.put, List.setIfInBounds_toArray, List.set_cons_zero, List.set_cons_succ]
  refine wpAnyH_take (i := 15) (v := ?_) rfl (by kernel_rfl) (by kernel_rfl) (by kernel_rfl) (fun _ _ _ h => h) (Or.inl ⟨by rfl, ?_⟩) (by assumption) ?_
  rotate_left
  · intro w' hSw
    try dsimp only at hSw
    go_simp
    try with_reducible rfl
  try simp only [List.getElem_toArray, List.getElem_cons_succ, List.getElem_cons_zero, Act.put, List.setIfInBounds_toArray, List.set_cons_zero, List.set_cons_succ]
  refine wpAnyH_ready (rs := [16]) (by kernel_rfl) (by simp) ?_
  refine AllReadyH.cons rfl (fun K hK0 => ?_) AllReadyH.nil
  go_simp
  refine (cAB X0 hrD).mono ?_
  rintro e X1 ⟨rfl, z1⟩
  have S1 := za hrD z1
  go_simp
  refine hK0.out _ _ S1 (fun _ => ?_)
  clear hK0 K
  try simp only [List.getElem_toArray, List.getElem_cons_succ, List.getElem_cons_zero, Act.put, List.setIfInBounds_toArray, List.set_cons_zero, List.set_cons_succ]
  refine wpAnyH_take (i := 17) (v := .bool true) rfl (by kernel_rfl) (by kernel_rfl) (by kernel_rfl) (fun _ _ _ h => h) (Or.inl ⟨by rfl, ?_⟩) (by assumption) ?_
  · intro w' hSw
    try dsimp only at hSw
    try go_simp
    all_goals first | done | with_reducible rfl | omega | assumption | (simp; omega)
  try simp only [List.getElem_toArray, List.getElem_cons_succ, List.getElem_cons_zero, Act.put, List.setIfInBounds_toArray, List.set_cons_zero, List.set_cons_succ]
  refine wpAnyH_take (i := 18) (v := .bool true) rfl (by kernel_rfl) (by kernel_rfl) (by kernel_rfl) (fun _ _ _ h => h) (Or.inl ⟨by rfl, ?_⟩) (by assumption) ?_
  · intro w' hSw
    try dsimp only at hSw
    try go_simp
    all_goals first | done | with_reducible rfl | omega | assumption | (simp; omega)
  try simp only [List.getElem_toArray, List.getElem_cons_succ, List.getElem_cons_zero, Act.put, List.setIfInBounds_toArray, List.set_cons_zero, List.set_cons_succ]
  refine wpAnyH_take (i := 19) (v := .bool true) rfl (by kernel_rfl) (by kernel_rfl) (by kernel_rfl) (fun _ _ _ h => h) (Or.inl ⟨by rfl, ?_⟩) (by assumption) ?_
  · intro w' hSw
    try dsimp only at hSw
    try go_simp
    all_goals first | done | with_reducible rfl | omega | assumption | (simp; omega)
  try simp only [List.getElem_toArray, List.getElem_cons_succ, List.getElem_cons_zero, Act.put, List.setIfInBounds_toArray, List.set_cons_zero, List.set_cons_succ]
  refine wpAnyH_take (i := 20) (v := ?_) rfl (by kernel_rfl) (by kernel_rfl) (by kernel_rfl) (fun _ _ _ h => h) (Or.inl ⟨by rfl, ?_⟩) (by assumption) ?_
  rotate_left
  · intro w' hSw
    try dsimp only at hSw
    go_simp
    try with_reducible rfl
  try simp only [List.getElem_toArray, List.getElem_cons_succ, List.getElem_cons_zero, Act.put, List.setIfInBounds_toArray, List.set_cons_zero, List.set_cons_succ]
  refine wpAnyH_take (i := 21) (v := ?_) rfl (by kernel_rfl) (by kernel_rfl) (by kernel_rfl) (fun _ _ _ h => h) (Or.inl ⟨by rfl, ?_⟩) (by assumption) ?_
  rotate_left
  · intro w' hSw
    try dsimp only at hSw
    go_simp
    try with_reducible rfl
  try simp only [List.getElem_toArray, List.getElem_cons_succ, List.getElem_cons_zero, Act.put, List.setIfInBounds_toArray, List.set_cons_zero, List.set_cons_succ]
  refine wpAnyH_take (i := 22) (v := ?_) rfl (by kernel_rfl) (by kernel_rfl) (by kernel_rfl) (fun _ _ _ h => h) (Or.inl ⟨by rfl, ?_⟩) (by assumption) ?_
  rotate_left
  · intro w' hSw
    try dsimp only at hSw
    go_simp
    try with_reducible rfl
  try simp only [List.getElem_toArray, List.getElem_cons_succ, List.getElem_cons_zero, Act.put, List.setIfInBounds_toArray, List.set_cons_zero, List.set_cons_succ]
  refine wpAnyH_take (i := 23) (v := ?_) rfl (by kernel_rfl) (by kernel_rfl) (by kernel_rfl) (fun _ _ _ h => h) (Or.inl ⟨by rfl, ?_⟩) (by assumption) ?_
  rotate_left
  · intro w' hSw
    try dsimp only at hSw
    go_simp
    try with_reducible rfl
  try simp only [List.getElem_toArray, List.getElem_cons_succ, List.getElem_cons_zero, Act.put, List.setIfInBounds_toArray, List.set_cons_zero, List.set_cons_succ]
  refine wpAnyH_take (i := 24) (v := ?_) rfl (by kernel_rfl) (by kernel_rfl) (by kernel_rfl) (fun _ _ _ h => h) (Or.inl ⟨by rfl, ?_⟩) (by assumption) ?_
  rotate_left
  · intro w' hSw
    try dsimp only at hSw
    go_simp
    try with_reducible rfl
  try simp only [List.getElem_toArray, List.getElem_cons_succ, List.getElem_cons_zero, Act.put, List.setIfInBounds_toArray, List.set_cons_zero, List.set_cons_succ]
  refine wpAnyH_take (i := 25) (v := ?_) rfl (by kernel_rfl) (by kernel_rfl) (by kernel_rfl) (fun _ _ _ h => h) (Or.inl ⟨by rfl, ?_⟩) (by assumption) ?_
  rotate_left
  · intro w' hSw
    try dsimp only at hSw
    go_simp
    try with_reducible rfl
  try simp only [List.getElem_toArray, List.getElem_cons_succ, List.getElem_cons_zero, Act.put, List.setIfInBounds_toArray, List.set_cons_zero, List.set_cons_succ]
  refine wpAnyH_take (i := 26) (v := ?_) rfl (by kernel_rfl) (by kernel_rfl) (by kernel_rfl) (fun _ _ _ h => h) (Or.inl ⟨by rfl, ?_⟩) (by assumption) ?_
  rotate_left
  · intro w' hSw
    try dsimp only at hSw
    go_simp
    try with_reducible rfl
  try simp only [List.getElem_toArray, List.getElem_cons_succ, List.getElem_cons_zero, Act.put, List.setIfInBounds_toArray, List.set_cons_zero, List.set_cons_succ]
  refine wpAnyH_ready (rs := [27]) (by kernel_rfl) (by simp) ?_
  refine AllReadyH.cons rfl (fun K hK0 => ?_) AllReadyH.nil
  go_simp
  refine (cCD X1 S1).mono ?_
  rintro e X2 ⟨rfl, z2⟩
  have S2 := za S1 z2
  go_simp
  refine hK0.out _ _ S2 (fun _ => ?_)
  clear hK0 K
  try simp only [List.getElem_toArray, List.getElem_cons_succ, List.getElem_cons_zero, Act.put, List.setIfInBounds_toArray, List.set_cons_zero, List.set_cons_succ]
  refine wpAnyH_take (i := 28) (v := .bool true) rfl (by kernel_rfl) (by kernel_rfl) (by kernel_rfl) (fun _ _ _ h => h) (Or.inl ⟨by rfl, ?_⟩) (by assumption) ?_
  · intro w' hSw
    try dsimp only at hSw
    try go_simp
    all_goals first | done | with_reducible rfl | omega | assumption | (simp; omega)
  try simp only [List.getElem_toArray, List.getElem_cons_succ, List.getElem_cons_zero, Act.put, List.setIfInBounds_toArray, List.set_cons_zero, List.set_cons_succ]
  refine wpAnyH_take (i := 29) (v := .bool true) rfl (by kernel_rfl) (by kernel_rfl) (by kernel_rfl) (fun _ _ _ h => h) (Or.inl ⟨by rfl, ?_⟩) (by assumption) ?_
  · intro w' hSw
    try dsimp only at hSw
    try go_simp
    all_goals first | done | with_reducible rfl | omega | assumption | (simp; omega)
  try simp only [List.getElem_toArray, List.getElem_cons_succ, List.getElem_cons_zero, Act.put, List.setIfInBounds_toArray, List.set_cons_zero, List.set_cons_succ]
  refine wpAnyH_take (i := 30) (v := .bool true) rfl (by kernel_rfl) (by kernel_rfl) (by kernel_rfl) (fun _ _ _ h => h) (Or.inl ⟨by rfl, ?_⟩) (by assumption) ?_
  · intro w' hSw
    try dsimp only at hSw
    try go_simp
    all_goals first | done | with_reducible rfl | omega | assumption | (simp; omega)
  try simp only [List.getElem_toArray, List.getElem_cons_succ, List.getElem_cons_zero, Act.put, List.setIfInBounds_toArray, List.set_cons_zero, List.set_cons_succ]
  refine wpAnyH_take (i := 31) (v := ?_) rfl (by kernel_rfl) (by kernel_rfl) (by kernel_rfl) (fun _ _ _ h => h) (Or.inl ⟨by rfl, ?_⟩) (by assumption) ?_
  rotate_left
  · intro w' hSw
    try dsimp only at hSw
    go_simp
    try with_reducible rfl
  try simp only [List.getElem_toArray, List.getElem_cons_succ, List.getElem_cons_zero, Act.put, List.setIfInBounds_toArray, List.set_cons_zero, List.set_cons_succ]
  refine wpAnyH_take (i := 32) (v := ?_) rfl (by kernel_rfl) (by kernel_rfl) (by kernel_rfl) (fun _ _ _ h => h) (Or.inl ⟨by rfl, ?_⟩) (by assumption) ?_
  rotate_left
  · intro w' hSw
    try dsimp only at hSw
    go_simp
    try with_reducible rfl
  try simp only [List.getElem_toArray, List.getElem_cons_succ, List.getElem_cons_zero, Act.put, List.setIfInBounds_toArray, List.set_cons_zero, List.set_cons_succ]
  refine wpAnyH_take (i := 33) (v := ?_) rfl (by kernel_rfl) (by kernel_rfl) (by kernel_rfl) (fun _ _ _ h => h) (Or.inl ⟨by rfl, ?_⟩) (by assumption) ?_
  rotate_left
  · intro w' hSw
    try dsimp only at hSw
    go_simp
    try with_reducible rfl
  try simp only [List.getElem_toArray, List.getElem_cons_succ, List.getElem_cons_zero, Act.put, List.setIfInBounds_toArray, List.set_cons_zero, List.set_cons_succ]
  refine wpAnyH_take (i := 34) (v := ?_) rfl (by kernel_rfl) (by kernel_rfl) (by kernel_rfl) (fun _ _ _ h => h) (Or.inl ⟨by rfl, ?_⟩) (by assumption) ?_
  rotate_left
  · intro w' hSw
    try dsimp only at hSw
    go_simp
    try with_reducible rfl
  try simp only [List.getElem_toArray, List.getElem_cons_succ, List.getElem_cons_zero, Act.put, List.setIfInBounds_toArray, List.set_cons_zero, List.set_cons_succ]
  refine wpAnyH_take (i := 35) (v := .bool true) rfl (by kernel_rfl) (by kernel_rfl) (by kernel_rfl) (fun _ _ _ h => h) (Or.inl ⟨by rfl, ?_⟩) (by assumption) ?_
  · intro w' hSw
    try dsimp only at hSw
    try go_simp
    all_goals first | done | with_reducible rfl | omega | assumption | (simp; omega)
  try simp only [List.getElem_toArray, List.getElem_cons_succ, List.getElem_cons_zero, Act.put, List.setIfInBounds_toArray, List.set_cons_zero, List.set_cons_succ]
  refine wpAnyH_take (i := 36) (v := .bool true) rfl (by kernel_rfl) (by kernel_rfl) (by kernel_rfl) (fun _ _ _ h => h) (Or.inl ⟨by rfl, ?_⟩) (by assumption) ?_
  · intro w' hSw
    try dsimp only at hSw
    try go_simp
    all_goals first | done | with_reducible rfl | omega | assumption | (simp; omega)
  try simp only [List.getElem_toArray, List.getElem_cons_succ, List.getElem_cons_zero, Act.put, List.setIfInBounds_toArray, List.set_cons_zero, List.set_cons_succ]
  refine wpAnyH_take (i := 37) (v := .bool true) rfl (by kernel_rfl) (by kernel_rfl) (by kernel_rfl) (fun _ _ _ h => h) (Or.inl ⟨by rfl, ?_⟩) (by assumption) ?_
  · intro w' hSw
    try dsimp only at hSw
    try go_simp
    all_goals first | done | with_reducible rfl | omega | assumption | (simp; omega)
  try simp only [List.getElem_toArray, List.getElem_cons_succ, List.getElem_cons_zero, Act.put, List.setIfInBounds_toArray, List.set_cons_zero, List.set_cons_succ]
  refine wpAnyH_take (i := 38) (v := ?_) rfl (by kernel_rfl) (by kernel_rfl) (by kernel_rfl) (fun _ _ _ h => h) (Or.inl ⟨by rfl, ?_⟩) (by assumption) ?_
  rotate_left
  · intro w' hSw
    try dsimp only at hSw
    go_simp
    try with_reducible rfl
  try simp only [List.getElem_toArray, List.getElem_cons_succ, List.getElem_cons_zero, Act.put, List.setIfInBounds_toArray, List.set_cons_zero, List.set_cons_succ]
  refine wpAnyH_take (i := 39) (v := ?_) rfl (by kernel_rfl) (by kernel_rfl) (by kernel_rfl) (fun _ _ _ h => h) (Or.inl ⟨by rfl, ?_⟩) (by assumption) ?_
  rotate_left
  · intro w' hSw
    try dsimp only at hSw
    go_simp
    try with_reducible rfl
  try simp only [List.getElem_toArray, List.getElem_cons_succ, List.getElem_cons_zero, Act.put, List.setIfInBounds_toArray, List.set_cons_zero, List.set_cons_succ]
  refine wpAnyH_ready (rs := [40]) (by kernel_rfl) (by simp) ?_
  refine AllReadyH.cons rfl (fun K hK0 => ?_) AllReadyH.nil
  go_simp
  refine (cLe X2 (za F8 S2)).mono ?_
  rintro e X3 ⟨v5, rfl, h5, z3⟩
  have S3 := za S2 z3
  have cAL := q_rsame (W := X3) ((nA8.out.fr S3).grow_top S3) h5.out.nh
  rw [csmN_refl] at cAL
  unfold nv at cAL
  go_simp
  refine hK0.out _ _ S3 (fun _ => ?_)
  clear hK0 K
  try simp only [List.getElem_toArray, List.getElem_cons_succ, List.getElem_cons_zero, Act.put, List.setIfInBounds_toArray, List.set_cons_zero, List.set_cons_succ]
  refine wpAnyH_ready (rs := [41]) (by kernel_rfl) (by simp) ?_
  refine AllReadyH.cons rfl (fun K hK0 => ?_) AllReadyH.nil
  go_simp
  refine cAL.mono ?_
  rintro e X4 ⟨rfl, z4⟩
  have S4 := za S3 z4
  go_simp
  refine hK0.out _ _ S4 (fun _ => ?_)
  clear hK0 K
  try simp only [List.getElem_toArray, List.getElem_cons_succ, List.getElem_cons_zero, Act.put, List.setIfInBounds_toArray, List.set_cons_zero, List.set_cons_succ]
  refine wpAnyH_take (i := 42) (v := .bool true) rfl (by kernel_rfl) (by kernel_rfl) (by kernel_rfl) (fun _ _ _ h => h) (Or.inl ⟨by rfl, ?_⟩) (by assumption) ?_
  · intro w' hSw
    try dsimp only at hSw
    try go_simp
    all_goals first | done | with_reducible rfl | omega | assumption | (simp; omega)
  try simp only [List.getElem_toArray, List.getElem_cons_succ, List.getElem_cons_zero, Act.put, List.setIfInBounds_toArray, List.set_cons_zero, List.set_cons_succ]
  refine wpAnyH_take (i := 43) (v := .bool true) rfl (by kernel_rfl) (by kernel_rfl) (by kernel_rfl) (fun _ _ _ h => h) (Or.inl ⟨by rfl, ?_⟩) (by assumption) ?_
  · intro w' hSw
    try dsimp only at hSw
    try go_simp
    all_goals first | done | with_reducible rfl | omega | assumption | (simp; omega)
  try simp only [List.getElem_toArray, List.getElem_cons_succ, List.getElem_cons_zero, Act.put, List.setIfInBounds_toArray, List.set_cons_zero, List.set_cons_succ]
  refine wpAnyH_take (i := 44) (v := ?_) rfl (by kernel_rfl) (by kernel_rfl) (by kernel_rfl) (fun _ _ _ h => h) (Or.inl ⟨by rfl, ?_⟩) (by assumption) ?_
  rotate_left
  · intro w' hSw
    try dsimp only at hSw
    go_simp
    try with_reducible rfl
  try simp only [List.getElem_toArray, List.getElem_cons_succ, List.getElem_cons_zero, Act.put, List.setIfInBounds_toArray, List.set_cons_zero, List.set_cons_succ]
  refine wpAnyH_take (i := 45) (v := ?_) rfl (by kernel_rfl) (by kernel_rfl) (by kernel_rfl) (fun _ _ _ h => h) (Or.inl ⟨by rfl, ?_⟩) (by assumption) ?_
  rotate_left
  · intro w' hSw
    try dsimp only at hSw
    go_simp
    try with_reducible rfl
  try simp only [List.getElem_toArray, List.getElem_cons_succ, List.getElem_cons_zero, Act.put, List.setIfInBounds_toArray, List.set_cons_zero, List.set_cons_succ]
  refine wpAnyH_take (i := 46) (v := ?_) rfl (by kernel_rfl) (by kernel_rfl) (by kernel_rfl) (fun _ _ _ h => h) (Or.inl ⟨by rfl, ?_⟩) (by assumption) ?_
  rotate_left
  · intro w' hSw
    try dsimp only at hSw
    go_simp
    try with_reducible rfl
  try simp only [List.getElem_toArray, List.getElem_cons_succ, List.getElem_cons_zero, Act.put, List.setIfInBounds_toArray, List.set_cons_zero, List.set_cons_succ]
  refine wpAnyH_take (i := 47) (v := ?_) rfl (by kernel_rfl) (by kernel_rfl) (by kernel_rfl) (fun _ _ _ h => h) (Or.inl ⟨by rfl, ?_⟩) (by assumption) ?_
  rotate_left
  · intro w' hSw
    try dsimp only at hSw
    go_simp
    try with_reducible rfl
  try simp only [List.getElem_toArray, List.getElem_cons_succ, List.getElem_cons_zero, Act.put, List.setIfInBounds_toArray, List.set_cons_zero, List.set_cons_succ]
  refine wpAnyH_ready (rs := [48]) (by kernel_rfl) (by simp) ?_
  refine AllReadyH.cons rfl (fun K hK0 => ?_) AllReadyH.nil
  go_simp
  refine (cIp X4 (za F8 S4)).mono ?_
  rintro e X5 ⟨v6, rfl, h6, z5⟩
  have S5 := za S4 z5
  have cCL := q_rsame (W := X5) ((nC8.out.fr S5).grow_top S5) h6.out.nh
  rw [csmN_refl] at cCL
  unfold nv at cCL
  go_simp
  refine hK0.out _ _ S5 (fun _ => ?_)
  clear hK0 K
  try simp only [List.getElem_toArray, List.getElem_cons_succ, List.getElem_cons_zero, Act.put, List.setIfInBounds_toArray, List.set_cons_zero, List.set_cons_succ]
  refine wpAnyH_ready (rs := [49]) (by kernel_rfl) (by simp) ?_
  refine AllReadyH.cons rfl (fun K hK0 => ?_) AllReadyH.nil
  go_simp
  refine cCL.mono ?_
  rintro e X6 ⟨rfl, z6⟩
  have S6 := za S5 z6
  go_simp
  refine hK0.out _ _ S6 (fun _ => ?_)
  clear hK0 K
  try simp only [List.getElem_toArray, List.getElem_cons_succ, List.getElem_cons_zero, Act.put, List.setIfInBounds_toArray, List.set_cons_zero, List.set_cons_succ]
  refine wpAnyH_take (i := 50) (v := .bool true) rfl (by kernel_rfl) (by kernel_rfl) (by kernel_rfl) (fun _ _ _ h => h) (Or.inl ⟨by rfl, ?_⟩) (by assumption) ?_
  · intro w' hSw
    try dsimp only at hSw
    try go_simp
    all_goals first | done | with_reducible rfl | omega | assumption | (simp; omega)
  try simp only [List.getElem_toArray, List.getElem_cons_succ, List.getElem_cons_zero, Act.put, List.setIfInBounds_toArray, List.set_cons_zero, List.set_cons_succ]
  refine wpAnyH_take (i := 51) (v := .bool true) rfl (by kernel_rfl) (by kernel_rfl) (by kernel_rfl) (fun _ _ _ h => h) (Or.inl ⟨by rfl, ?_⟩) (by assumption) ?_
  · intro w' hSw
    try dsimp only at hSw
    try go_simp
    all_goals first | done | with_reducible rfl | omega | assumption | (simp; omega)
  try simp only [List.getElem_toArray, List.getElem_cons_succ, List.getElem_cons_zero, Act.put, List.setIfInBounds_toArray, List.set_cons_zero, List.set_cons_succ]
  refine wpAnyH_ready (rs := [52]) (by kernel_rfl) (by simp) ?_
  refine AllReadyH.cons rfl (fun K hK0 => ?_) AllReadyH.nil
  go_simp
  refine (cA X6).mono ?_
  rintro e X7 ⟨rfl, z7⟩
  have S7 := za S6 z7
  go_simp
  refine hK0.out _ _ S7 (fun _ => ?_)
  clear hK0 K
  try simp only [List.getElem_toArray, List.getElem_cons_succ, List.getElem_cons_zero, Act.put, List.setIfInBounds_toArray, List.set_cons_zero, List.set_cons_succ]
  refine wpAnyH_take (i := 53) (v := .bool true) rfl (by kernel_rfl) (by kernel_rfl) (by kernel_rfl) (fun _ _ _ h => h) (Or.inl ⟨by rfl, ?_⟩) (by assumption) ?_
  · intro w' hSw
    try dsimp only at hSw
    try go_simp
    all_goals first | done | with_reducible rfl | omega | assumption | (simp; omega)
  try simp only [List.getElem_toArray, List.getElem_cons_succ, List.getElem_cons_zero, Act.put, List.setIfInBounds_toArray, List.set_cons_zero, List.set_cons_succ]
  refine wpAnyH_take (i := 54) (v := ?_) rfl (by kernel_rfl) (by kernel_rfl) (by kernel_rfl) (fun _ _ _ h => h) (Or.inl ⟨by rfl, ?_⟩) (by assumption) ?_
  rotate_left
  · intro w' hSw
    try dsimp only at hSw
    go_simp
    try with_reducible rfl
  try simp only [List.getElem_toArray, List.getElem_cons_succ, List.getElem_cons_zero, Act.put, List.setIfInBounds_toArray, List.set_cons_zero, List.set_cons_succ]
  refine wpAnyH_done (by kernel_rfl) ?_ _
  refine NoPanic.normal ?_
  go_wp2_with fail
  go_ret
  exact ⟨rfl, za F8 S7⟩
end Go.Proofs.Ytnbbjieblgpjfaa
