/- MsgSizes, walked. -/
import Derived.Test.YtkblfljcjfaibaaMsgJ
namespace Go.Proofs.Ytkblfljcjfaibaa
open Go.RowKit
set_option linter.unusedVariables false
attribute [local go_sem ↓] val_ld key_ld msg_ld
theorem max_three {P : Program} (n m k : Int) : ∃ M, (∀ (ts : Array TypeId) (t : TypeId) (w : World), (Builtin.max_ ts t #[.int .i64 n, .int .i64 m, .int .i64 k]).run P w = .ok (.int .i64 M) w) ∧ n ≤ M ∧ m ≤ M ∧ k ≤ M := by
  refine ⟨max (max n m) k, fun ts t w => ?_, by omega, by omega, by omega⟩
  simp only [Builtin.max_, Builtin.max2, List.foldlM, Sem.run_bind, Sem.run_pure, Result.andThen_ok]
  congr 2
  split <;> split <;> omega
/-- One byte more, where there is room: a 0. -/
def moreK (k : RK) : RK := { k with n := k.n + 1 }
theorem moreK_at (k : RK) (t : Nat) : (moreK k).at t = k.at t := by
  rcases t with _|_|_|_|_|_|_|_|t <;> rfl
theorem moreK_ok {k : RK} {a : Nat} (ok : okB k = true) (hn : k.n = a) (ha : a < 8) : okB (moreK k) = true := by
  have hm : (moreK k).n = ((a + 1 : Nat) : Int) := by show k.n + 1 = _; omega
  rw [okB_in (m := a + 1) (by omega) hm, decide_eq_true_iff]
  rw [okB_in (m := a) (by omega) hn, decide_eq_true_iff] at ok
  refine (first_iff _ _ (by omega) hm).2 fun t h1 h2 => ?_
  rw [moreK_at]
  exact (first_iff _ _ (by omega) hn).1 ok t (by omega) h2
theorem moreK_wf {k : RK} (wk : k.wf) (h : k.n < 8) : (moreK k).wf := by
  have := wk.hn
  exact ⟨by show _ ∧ _; unfold moreK; simp only; omega, wk.h0, wk.h1, wk.h2, wk.h3, wk.h4, wk.h5, wk.h6, wk.h7⟩
theorem bytM_of {m : RM} (om : okM m = true) : bytM m = if m.kind = 1 then 11 + m.key.n + m.val.n else if m.kind = 3 then 18 + m.key.n else 10 + m.key.n := by rw [bytM, if_pos om]
theorem key_bd {k : RK} (ok : okB k = true) : 0 ≤ k.n ∧ k.n ≤ 8 := by
  obtain ⟨a, h1, h2, _⟩ := okB_n ok
  omega
theorem bytM_bd {m : RM} (om : okM m = true) : 10 ≤ bytM m ∧ bytM m ≤ 35 := by
  have hk := key_bd (okM_key om)
  rw [bytM_of om]
  split
  · rename_i h
    obtain ⟨l, h1, h2, _⟩ := okV_n ((okM_parts om).2.2.1 h).2
    omega
  · split <;> omega
theorem bytM_more {m : RM} (om : okM m = true) (h : m.key.n < 8) : bytM (withK m (moreK m.key)) = bytM m + 1 := by
  obtain ⟨a, h1, h2, _⟩ := okB_n (okM_key om)
  have o2 := withK_ok om (moreK_ok (okM_key om) h2 (by omega))
  rw [bytM_of om, bytM_of o2]
  show (if m.kind = 1 then 11 + (m.key.n + 1) + m.val.n else if m.kind = 3 then 18 + (m.key.n + 1) else 10 + (m.key.n + 1)) = _
  split
  · omega
  · split <;> omega
theorem bytM_comp {a b : RM} (oa : okM a = true) (ob : okM b = true) (hk : a.key = b.key) : bytM (compM a b) ≤ bytM b ∨ bytM (compM a b) ≤ 19 + a.key.n := by
  have oc := comp_ok (a := a) ob
  rcases Decidable.em (b.kind = 3) with h3 | h3
  · rcases (okM_parts oa).1 with ka | ka | ka
    · refine .inr ?_
      rw [bytM_of oc, if_pos (comp_kind1 oa h3 hk (by omega)), comp_key, comp_31 h3 hk ka, hk]
      show 11 + b.key.n + (plusV a.val b.inc).n ≤ _
      have : (plusV a.val b.inc).n = 8 := rfl
      omega
    · refine .inr ?_
      rw [bytM_of oc, if_pos (comp_kind1 oa h3 hk (by omega)), comp_key, comp_32 h3 hk ka, hk]
      show 11 + b.key.n + (fromV b.inc).n ≤ _
      have : (fromV b.inc).n = 8 := rfl
      omega
    · refine .inl ?_
      rw [bytM_of oc, bytM_of ob, if_neg (by rw [comp_kind3 h3 hk ka]; omega), if_pos (comp_kind3 h3 hk ka), comp_key, if_neg (by omega), if_pos h3]
      omega
  · rw [comp_not3 h3]
    exact .inl (by omega)
section
attribute [local go_sem ↓] msg_st
set_option maxRecDepth 100000 in
set_option maxHeartbeats 4000000 in
theorem msgSizes_core (a0 a1 : Int) (h0 : Is64 a0) (h1 : Is64 a1) (w : World) : Calls Try.prog 8 #[.int .i64 a0, .int .i64 a1] w fun e w' => e = .returned (.bool true) ∧ Below w.heap.size w w' := by
  have wx := lawM_wf a0 1
  have ox := lawM_ok a0 1
  have wy := lawM_wf a1 2
  have oy := lawM_ok a1 2
  have cX := fun W0 W h => law_msg_at (W0 := W0) (W := W) (v := a0) (s := 1) h0 (by unfold Is64; omega) h
  have cY := fun W0 W h => law_msg_at (W0 := W0) (W := W) (v := a1) (s := 2) h1 (by unfold Is64; omega) h
  generalize lawM a0 1 = x at *
  generalize lawM a1 2 = y at *
  have wY := withK_wf wy wx.key
  have oY := withK_ok oy (okM_key ox)
  have HS := keep (show splice (mc y) 2 (kc x.key) = mc (withK y x.key) from mc_spliceK y x.key)
  have hkY : x.key = (withK y x.key).key := rfl
  have Hy := keep (mc_len wy.val.hl)
  generalize hYd : withK y x.key = Y at *
  clear hYd
  have wc := comp_wf wx wY
  have bc := bytM_comp ox oY hkY
  have bx := bytM_bd ox
  have bY := bytM_bd oY
  obtain ⟨a, ha8, han, -⟩ := okB_n (okM_key ox)
  have HF := keep (show a < 8 → bytM (withK x (moreK x.key)) = bytM x + 1 ∧ (withK x (moreK x.key)).wf from fun h => ⟨bytM_more ox (by omega), withK_wf wx (moreK_wf wx.key (by omega))⟩)
  have cC := fun W0 W h => mcompose_at (W0 := W0) (W := W) wx wY ox oY h
  have B1 := fun W0 W h => mbytes_at (W0 := W0) (W := W) wx h
  have B2 := fun W0 W h => mbytes_at (W0 := W0) (W := W) wY h
  have B3 := fun W0 W h => mbytes_at (W0 := W0) (W := W) wc h
  have B4 := fun (hw : (withK x (moreK x.key)).wf) W0 W h => mbytes_at (W0 := W0) (W := W) hw h
  have HM := keep (show (mc x).set 2 (.int .i64 ((a : Int) + 1)) = mc (withK x (moreK x.key)) from by rw [mc_set2]; unfold withK moreK; rw [han])
  have HMl := keep (show (mc (withK x (moreK x.key))).length = 29 from mc_len wx.val.hl)
  have HMv := keep (show (withK x (moreK x.key)).val.bs.length = 16 from wx.val.hl)
  generalize withK x (moreK x.key) = z at *
  have Hx := keep (mc_len wx.val.hl)
  have HxV := keep wx.val.hl
  have HYv := keep wY.val.hl
  have Hc := keep (mc_len wc.val.hl)
  have HcV := keep wc.val.hl
  generalize compM x Y = c at *
  generalize bytM x = n at *
  generalize bytM Y = m at *
  generalize bytM c = q at *
  rw [han] at bc
  obtain ⟨M, hmax, g1, g2, g3⟩ := max_three (P := Try.prog) n m (19 + (a : Int))
  have d1 : decide (n < 10) = false := by simp; omega
  have d2 : decide (35 < n) = false := by simp; omega
  have d3 : decide (m < 10) = false := by simp; omega
  have d4 : decide (35 < m) = false := by simp; omega
  have d5 : decide (M < q) = false := by simp; omega
  have Han := keep han
  have hw19 : IntKind.i64.wrap (19 + (a : Int)) = 19 + (a : Int) := by rw [IntKind.wrap_i64]; omega
  clear wx ox wy oy wY oY wc hkY h0 h1 bc g1 g2 g3 bY han
  have hww := fr_refl w
  go_enter Try.func8, Try.ntmps8
  go_wp2_with (first
    | (go_at_call 19; (with_reducible refine (cX w _ hww).mono ?_); rintro e w1 ⟨rfl, hz1⟩)
    | (go_at_call 19; (with_reducible refine (cY w _ hz1).mono ?_); rintro e w2 ⟨rfl, hz2⟩; have hs2 := hz2.size)
    | (refine wpList_store_at (ds := mc x) msg_info rfl (.tmp 5) (.tmp 12) rfl w2.heap.size 0 rfl rfl Hx.out (mc_one _) (Arr.alloc (Arr.new w2 (mc zeroM).toArray 30) _) (by decide) (splice_all _ _ (by rw [Hx.out]; decide)) ?_; intro Y1 hx hk1
       have hy0 := hk1.other (arr_at (w2.alloc _) (mc zeroM).toArray 30 (w2.heap.size + 1) (by simp)) (by omega)
       have hF1 := hk1.fr (fr_new (fr_new hz2 _) _) hs2
       clear hk1 cX cY)
    | (refine wpList_store_at (ds := mc y) msg_info rfl (.tmp 6) (.tmp 14) rfl (w2.heap.size + 1) 0 rfl rfl Hy.out (mc_one _) hy0 (by decide) (splice_all _ _ (by rw [Hy.out]; decide)) ?_; intro Y2 hy hk2
       replace hx := hk2.other hx (by omega)
       have hF2 := hk2.fr hF1 (by omega)
       clear hk2 hF1 hy0
       have hYY := fr_refl Y2
       have lxK := msg_keyAt hx)
    | (refine wpList_store_at (ds := kc x.key) key_info rfl (.tmp 17) (.tmp 16) rfl (w2.heap.size + 1) 2 rfl rfl (kc_len _) (kc_one _) hy (by rw [Hy.out]; decide) HS.out ?_; intro Y3 hyy hk3
       replace hx := hk3.other hx (by omega)
       have hF3 := hk3.fr hF2 (by omega)
       clear hk3 hF2 hy lxK hYY)
    | fail)
  have lx := msg_all hx HxV.out
  have ly := msg_all hyy HYv.out
  have x2 := cellZ hx 2 (mc_2 x)
  rw [Han.out] at x2
  have h33 := fr_drew (fr_refl Y3)
  clear hx hyy
  try simp only [Act.put]
  go_cut [7, 8, 9] from 18 to 24 (fun s t u W => s = .int .i64 n ∧ t = .int .i64 m ∧ ∃ g, u = .pointer (some ⟨g, 0, none⟩) ∧ Arr W g 30 (mc c).toArray ∧ Fr Y3 W)
  case first =>
    clear B3 B4 hmax x2
    have st : ∀ W g, OwnB W g 30 29 → (stS 30 (.pointer (some ⟨g, 0, none⟩)) (.agg (mc c).toArray)).run Try.prog W = .ok () (W.setRow g (mc c).toArray) := fun W g h => st_run msg_info h Hc.out (mc_one _)
    have onew : ∀ W : World, OwnB (W.alloc (.cells #[.int .i64 0, .int .u64 0, .int .i64 0, .int .u8 0, .int .u8 0, .int .u8 0, .int .u8 0, .int .u8 0, .int .u8 0, .int .u8 0, .int .u8 0, .int .i64 0, .int .u8 0, .int .u8 0, .int .u8 0, .int .u8 0, .int .u8 0, .int .u8 0, .int .u8 0, .int .u8 0, .int .u8 0, .int .u8 0, .int .u8 0, .int .u8 0, .int .u8 0, .int .u8 0, .int .u8 0, .int .u8 0, .int .u64 0] 30)) W.heap.size 30 29 := fun W => OwnB.new rfl rfl
    have onewD : ∀ W : World, OwnB (W.alloc (.cells #[.int .i64 0, .int .u64 0, .int .i64 0, .int .u8 0, .int .u8 0, .int .u8 0, .int .u8 0, .int .u8 0, .int .u8 0, .int .u8 0, .int .u8 0, .int .i64 0, .int .u8 0, .int .u8 0, .int .u8 0, .int .u8 0, .int .u8 0, .int .u8 0, .int .u8 0, .int .u8 0, .int .u8 0, .int .u8 0, .int .u8 0, .int .u8 0, .int .u8 0, .int .u8 0, .int .u8 0, .int .u8 0, .int .u64 0] 30)).drew W.heap.size 30 29 := fun W => OwnB.new rfl rfl
    go_region_held3 (fun w' => Fr Y3 w')
      (first | exact h33 | assumption | exact fr_new (by assumption) _ | exact fr_setRow (by assumption) (by first | omega | simp) _)
      (first
        | (go_at_call 17; (with_reducible refine (cC _ _ (fr_refl _)).mono ?_); rintro e w9 ⟨rfl, hz⟩
           have hzz : Fr Y3 w9 := fr_step (by assumption) hz
           have hsz := hzz.size
           try have hob := (onew _).below hz
           try have hob := (onewD _).below hz
           try have hob := OwnB.below (by assumption) hz)
        | (go_at_call 11; (with_reducible refine (B1 _ _ (fr_refl _)).mono ?_); rintro e w9 ⟨rfl, hz⟩
           have hzz : Fr Y3 w9 := fr_step (by assumption) hz
           have hsz := hzz.size
           try have hob := (onew _).below hz
           try have hob := (onewD _).below hz
           try have hob := OwnB.below (by assumption) hz)
        | (go_at_call 11; (with_reducible refine (B2 _ _ (fr_refl _)).mono ?_); rintro e w9 ⟨rfl, hz⟩
           have hzz : Fr Y3 w9 := fr_step (by assumption) hz
           have hsz := hzz.size
           try have hob := (onew _).below hz
           try have hob := (onewD _).below hz
           try have hob := OwnB.below (by assumption) hz))
    all_goals
      go_wp2_with fail
      go_meet
      refine ⟨rfl, rfl, _, rfl, ?_, by assumption⟩
      first | exact OwnB.put (by assumption) _ | exact OwnB.put (onew _) _
  case rest =>
    obtain ⟨rfl, rfl, g, rfl, hr, hZc⟩ := hcut
    generalize hZ : wc = Z at *
    clear hZ cC B1 B2
    have lc := msg_all hr HcV.out
    have lx4 : ∀ W, Fr Z W → _ := fun W h => lx W (fr_step hZc h)
    have x24 : ∀ W, Fr Z W → _ := fun W h => x2 W (fr_step hZc h)
    have hF := fr_step hF3 hZc
    have hZD := fr_drew (fr_refl Z)
    clear lx ly x2 hF3 hZc hr
    go_wp2_with fail
    try simp only [Act.put]
    go_cut [50] from 25 to 49 (fun s W => s = .bool false ∧ Fr Z W)
    case first =>
      clear B4 HF
      go_region_held3 (fun w' => Fr Z w')
        (first | exact hZD | assumption)
        (first
          | (go_at_call 11; (with_reducible refine (B3 Z _ (by assumption)).mono ?_); rintro e w9 ⟨rfl, hz⟩))
      all_goals
        go_wp2_with fail
        go_meet
        exact ⟨rfl, by assumption⟩
    case rest =>
    obtain ⟨rfl, hH⟩ := hcut
    generalize hZ9 : wc = w9 at *
    clear hZ9
    clear lc B3 hmax hw19 d1 d2 d3 d4 d5 hZD
    by_cases ha : a < 8
    · have hd : decide ((a : Int) < 8) = true := by simp; omega
      obtain ⟨f1, f2⟩ := HF.out ha
      have B5 := B4 f2
      rw [f1] at B5
      clear B4 f1 f2 HF
      go_wp2_with (first
        | (refine wpList_store_at (ds := mc x) msg_info rfl (.tmp 10) (.tmp 51) rfl w9.heap.size 0 rfl rfl Hx.out (mc_one _) (Arr.new w9 (mc zeroM).toArray 30) (by decide) (splice_all _ _ (by rw [Hx.out]; decide)) ?_; intro V1 hz1' hk1
           have hFv := hk1.fr (fr_new (fr_step hF hH) _) (fr_step hF hH).size
           have hvv := fr_refl V1
           have v2 := cellZ hz1' 2 (mc_2 x)
           rw [Han.out] at v2
           clear hk1)
        | (refine wpList_store_at (ds := [.int .i64 ((a : Int) + 1)]) i64_info rfl (.tmp 61) (.tmp 59) rfl w9.heap.size 2 rfl rfl rfl (one_of _ rfl) hz1' (by rw [Hx.out]; decide) ((splice_cell _ _ _ (by rw [Hx.out]; decide)).trans HM.out) ?_; intro V2 hz2' hk2
           have hFw := hk2.fr hFv (fr_step hF hH).size
           have hww2 := fr_refl V2
           have lz := msg_all hz2' HMv.out
           clear hk2 hz1' v2 hFv)
        | (go_at_call 11; (with_reducible refine (B5 V2 _ (by assumption)).mono ?_); rintro e w10 ⟨rfl, hz10⟩)
        | (go_at_call 14; refine (awake5_at (W0 := V2) (by assumption)).mono ?_; rintro e w11 ⟨rfl, hz11⟩)
        | fail)
      go_ret
      exact ⟨rfl, fr_step hFw (by assumption)⟩
    · obtain rfl : a = 8 := by omega
      clear B4 HF ha
      go_wp2_with (first
        | (refine wpList_store_at (ds := mc x) msg_info rfl (.tmp 10) (.tmp 51) rfl w9.heap.size 0 rfl rfl Hx.out (mc_one _) (Arr.new w9 (mc zeroM).toArray 30) (by decide) (splice_all _ _ (by rw [Hx.out]; decide)) ?_; intro V1 hz1' hk1
           have hFv := hk1.fr (fr_new (fr_step hF hH) _) (fr_step hF hH).size
           have hvv := fr_refl V1
           have v2 := cellZ hz1' 2 (mc_2 x)
           rw [Han.out] at v2
           clear hk1)
        | (go_at_call 14; refine (awake5_at (W0 := V1) (by assumption)).mono ?_; rintro e w11 ⟨rfl, hz11⟩)
        | fail)
      go_ret
      exact ⟨rfl, fr_step hFv (by assumption)⟩
end
end Go.Proofs.Ytkblfljcjfaibaa
