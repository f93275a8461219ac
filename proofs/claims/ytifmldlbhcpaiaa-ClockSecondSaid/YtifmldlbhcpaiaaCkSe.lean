/- ClockSecond, walked. -/
import Derived.Test.YtifmldlbhcpaiaaCkTu
namespace Go.Proofs.Ytifmldlbhcpaiaa
set_option linter.unusedVariables false
set_option linter.unusedSimpArgs false
set_option maxRecDepth 100000
open Go.RowKit
/-- How far behind the hand. -/
def dst (k h i : Nat) : Nat := (i + k - h) % k
theorem dst_lt {k h i : Nat} (hk : 0 < k) : dst k h i < k := Nat.mod_lt _ hk
theorem dst_at {k h i : Nat} (hh : h < k) (hi : i < k) : (h + dst k h i) % k = i := by
  unfold dst
  by_cases e : h ≤ i
  · rw [show i + k - h = (i - h) + k by omega, Nat.add_mod_right, Nat.mod_eq_of_lt (show i - h < k by omega), show h + (i - h) = i by omega, Nat.mod_eq_of_lt hi]
  · rw [Nat.mod_eq_of_lt (show i + k - h < k by omega), show h + (i + k - h) = i + k by omega, Nat.add_mod_right, Nat.mod_eq_of_lt hi]
theorem vis_dst {k h i d : Nat} (hh : h < k) (hi : i < k) (hd : d ≤ k) : i ∈ vis h k d ↔ dst k h i < d := by
  have hl := dst_lt (h := h) (i := i) (show 0 < k by omega)
  have ha := dst_at hh hi
  simp only [vis, List.mem_map, List.mem_range]
  constructor
  · rintro ⟨j, hj, e⟩
    have : j = dst k h i := add_mod_inj (h := h) (n := k) (by omega) hl (by rw [e, ha])
    omega
  · intro h1
    exact ⟨dst k h i, h1, ha⟩
theorem second_all {c r : List Bool} {k h : Nat} (hc : c.length = k) (hr : r.length = k) (hk : 0 < k) (hh : h < k) (h1 : ∀ i, i < k → gd c i = true) (h2 : ∀ i, i < k → gd r i = true) :
    (swpL c r (h : Int)).1 = (h : Int) ∧ (swpL c r (h : Int)).2.1 = (((h + 1) % k : Nat) : Int) ∧ (swpL c r (h : Int)).2.2.length = k ∧ ∀ i, gd (swpL c r (h : Int)).2.2 i = false := by
  have e1 : hd (h : Int) k = h := by rw [hd_nat, Nat.mod_eq_of_lt hh]
  obtain ⟨m, hm, hg⟩ := sweep_wash (c := c) (ks := vis h k k) (l := r) (vis_nodup (Nat.le_refl _)) fun x hx _ => h2 x (vis_lt hk hx)
  have hl := sweep_len c (vis h k k) r
  rw [hm] at hl
  have hall : ∀ i, gd m i = false := fun i => by
    by_cases hi : i < k
    · rw [hg, if_pos ⟨vis_mem hh hi, h1 i hi⟩]
    · exact gd_out (by rw [show m.length = k from hl.trans hr]; omega)
  have hq : sweepL c (vis h k (2 * k)) r = (some h, m) := by
    rw [vis_twice, sweep_app, hm]
    simp only [if_true]
    have e2 : vis h k k = h :: vis (h + 1) k (k - 1) := by
      have e3 : vis h k k = vis h k (1 + (k - 1)) := by rw [show 1 + (k - 1) = k by omega]
      rw [e3, vis_app, show vis h k 1 = [h] by simp [vis, Nat.mod_eq_of_lt hh]]
      rfl
    have h9 : hit c m h = true := by unfold hit; rw [h1 h hh, hall h]; rfl
    rw [e2, sweep_cons, if_pos h9, wash_hit h9]
  rw [swp_yes _ hc hr hk e1 hq]
  exact ⟨rfl, rfl, hl.trans hr, hall⟩
theorem second_one {c r : List Bool} {k h b : Nat} (hc : c.length = k) (hr : r.length = k) (hk : 0 < k) (hh : h < k) (hb : b < k) (h1 : ∀ i, i < k → gd c i = true) (h2 : ∀ i, i < k → gd r i = true) :
    (swpL c (r.set b false) (h : Int)).1 = (b : Int) ∧ (swpL c (r.set b false) (h : Int)).2.1 = (((b + 1) % k : Nat) : Int) ∧ (swpL c (r.set b false) (h : Int)).2.2.length = k ∧ ∀ i, i < k → i ≠ b → gd (swpL c (r.set b false) (h : Int)).2.2 i = !decide (dst k h i < dst k h b) := by
  have e1 : hd (h : Int) k = h := by rw [hd_nat, Nat.mod_eq_of_lt hh]
  have hd1 := dst_lt (h := h) (i := b) hk
  have hnb : b ∉ vis h k (dst k h b) := fun e => by
    have := (vis_dst hh hb (by omega)).1 e
    omega
  obtain ⟨m, hm, hg⟩ := sweep_wash (c := c) (ks := vis h k (dst k h b)) (l := r.set b false) (vis_nodup (by omega)) fun x hx _ => by
    rw [gd_set, if_neg (show ¬ x = b from fun e => hnb (e ▸ hx))]
    exact h2 x (vis_lt hk hx)
  have hl := sweep_len c (vis h k (dst k h b)) (r.set b false)
  rw [hm] at hl
  have h9 : hit c m b = true := by
    unfold hit
    rw [h1 b hb, hg, if_neg (fun e => hnb e.1), gd_set, if_pos rfl]
    rfl
  have hq0 : sweepL c (vis h k (dst k h b + 1)) (r.set b false) = (some b, m) := by
    rw [vis_succ, dst_at hh hb, sweep_snoc_hit hm h9, wash_hit h9]
  have hq := sweep_pre (vis_pre h k (show dst k h b + 1 ≤ 2 * k by omega)) hq0
  rw [swp_yes _ hc (by simp [hr]) hk e1 hq]
  refine ⟨rfl, rfl, hl.trans (by simp [hr]), fun i hi hne => ?_⟩
  show gd m i = _
  rw [hg, gd_set, if_neg hne]
  by_cases e : dst k h i < dst k h b
  · rw [if_pos ⟨(vis_dst hh hi (by omega)).2 e, h1 i hi⟩, decide_eq_true e]; rfl
  · rw [if_neg (fun h => e ((vis_dst hh hi (by omega)).1 h.1)), decide_eq_false e, h2 i hi]; rfl
set_option maxHeartbeats 32000000 in
theorem second_core {w : World} {n bare hand : Int} (hn : 0 ≤ n ∧ n ≤ 255) (hb : 0 ≤ bare ∧ bare ≤ 255) (hg : 0 ≤ hand ∧ hand ≤ 255) :
    Calls Try.prog 7 #[.int .u8 n, .int .u8 bare, .int .u8 hand] w fun e w' => e = .returned (.bool true) ∧ Below w.heap.size w w' := by
  obtain ⟨q9, hq9, hq9l⟩ : ∃ q : Nat, Int.tmod n 64 = q ∧ q < 64 := ⟨(n % 64).toNat, by rw [Int.tmod_eq_emod_of_nonneg (by omega)]; omega, by omega⟩
  obtain ⟨k, hk⟩ : ∃ k : Nat, (1 : Int) + (q9 : Int) = (k : Int) := ⟨1 + q9, by omega⟩
  have hk1 : 1 ≤ k ∧ k ≤ 64 := by omega
  obtain ⟨h, hh, hhl⟩ : ∃ d : Nat, Int.tmod hand (k : Int) = d ∧ d < k := by
    have h1 := Int.emod_nonneg hand (b := (k : Int)) (by omega)
    have h2 := Int.emod_lt_of_pos hand (b := (k : Int)) (by omega)
    exact ⟨(hand % (k : Int)).toNat, by rw [Int.tmod_eq_emod_of_nonneg (by omega)]; omega, by omega⟩
  obtain ⟨b, hbb, hbl⟩ : ∃ d : Nat, Int.tmod bare (k : Int) = d ∧ d < k := by
    have h1 := Int.emod_nonneg bare (b := (k : Int)) (by omega)
    have h2 := Int.emod_lt_of_pos bare (b := (k : Int)) (by omega)
    exact ⟨(bare % (k : Int)).toNat, by rw [Int.tmod_eq_emod_of_nonneg (by omega)]; omega, by omega⟩
  have hk0 : ¬ (k : Int) = 0 := by omega
  have hkp : 0 < k := by omega
  have hs : k ≤ 100000 := by omega
  have hmk := make_bools hs
  go_enter Try.func7, Try.ntmps7
  go_wp2_with fail
  go_cut [8, 9] from 26 to 29 (fun s13 s14 W => ∃ g1 g2 : Nat, s13 = .slice (some ⟨g1, 0, none⟩) k k ∧ s14 = .slice (some ⟨g2, 0, none⟩) k k ∧ Hid (ResB w W (some ⟨g1, 0, none⟩) k k (List.replicate k false) ∧ ResB w W (some ⟨g2, 0, none⟩) k k (List.replicate k false) ∧ g1 ≠ g2 ∧ Fr w W))
  case first =>
    have T := two_made hs w
    have HT := keep T
    clear T
    go_region
    all_goals
      go_wp2_with fail
      go_meet
      first
        | exact ⟨w.heap.size, w.heap.size + 1, rfl, rfl, keep ⟨HT.out.1, HT.out.2.1, by omega, HT.out.2.2⟩⟩
        | exact ⟨w.heap.size + 1, w.heap.size, rfl, rfl, keep ⟨HT.out.2.1, HT.out.1, by omega, HT.out.2.2⟩⟩
  obtain ⟨ga, gb, rfl, rfl, hab⟩ := hcut
  have HI1 : Hid (∃ la lb, ResB w wc (some ⟨ga, 0, none⟩) k k la ∧ ResB w wc (some ⟨gb, 0, none⟩) k k lb ∧ Fr w wc ∧ ∀ t, t < 0 → gd la t = true ∧ gd lb t = true) :=
    keep ⟨_, _, hab.out.1, hab.out.2.1, hab.out.2.2.2, fun t ht => by omega⟩
  have Hne := keep hab.out.2.2.1
  clear hab
  go_wp2_with fail
  go_loopg [10] k (fun gg s10 wr => ∃ i : Nat, i + gg = k ∧ s10 = .int .i64 i ∧ Hid (∃ la lb, ResB w wr (some ⟨ga, 0, none⟩) k k la ∧ ResB w wr (some ⟨gb, 0, none⟩) k k lb ∧ Fr w wr ∧ ∀ t, t < i → gd la t = true ∧ gd lb t = true))
  case atStart => exact ⟨0, by omega, rfl, HI1⟩
  case round =>
    obtain ⟨i, hi, rfl, HI⟩ := hrel
    obtain ⟨la, lb, hA, hB, hF, hg⟩ := HI.out
    have HA := keep hA
    have HB := keep hB
    have HF := keep hF
    have HG := keep hg
    clear hA hB hF hg HI HI1
    by_cases hlt : i < k
    · have hin : (i : Int) < (k : Int) := by omega
      have wi : IntKind.i64.wrap ((i : Int) + 1) = (i : Int) + 1 := by rw [IntKind.wrap_i64]; omega
      have Hin := keep hlt
      clear hlt
      go_wp2_with (first
        | (refine wpList_store_rw (cf := bc) (x := true) (j := i) bool_info rfl (.tmp 39) (.const (.bool true)) rfl (by rw [Nat.mul_one, Nat.zero_add]; rfl) rfl rfl (bc_one _) HA.out.row (bc_wid _) HA.out.len Hin.out ?_; intro w4 h4 k4; have H4 := keep (show Rw w4 _ _ _ _ _ _ ∧ Chg _ wr w4 from ⟨h4, k4⟩); have HB4 := keep (HB.out.row.chg k4 fun j hj e => Hne.out (by rw [← e]; exact (Option.some.inj hj).symm)); clear h4 k4)
        | (refine wpList_store_rw (cf := bc) (x := true) (j := i) bool_info rfl (.tmp 40) (.const (.bool true)) rfl (by rw [Nat.mul_one, Nat.zero_add]; rfl) rfl rfl (bc_one _) HB4.out (bc_wid _) HB.out.len Hin.out ?_; intro w5 h5 k5; have H5 := keep (show Rw w5 _ _ _ _ _ _ ∧ Chg _ w4 w5 from ⟨h5, k5⟩); clear h5 k5)
        | fail)
      go_roundg (gk - 1)
      case measure => omega
      case rel =>
        have hA5 := H4.out.1.chg H5.out.2 fun j hj e => Hne.out (by rw [← e]; exact Option.some.inj hj)
        refine ⟨i + 1, by omega, rfl, keep ⟨la.set i true, lb.set i true, ⟨hA5, by rw [List.length_set]; exact HA.out.len, HA.out.new⟩, ⟨H5.out.1, by rw [List.length_set]; exact HB.out.len, HB.out.new⟩, (HF.out.step_chg H4.out.2 fun j e => HA.out.new j (by rw [e]; rfl)).step_chg H5.out.2 fun j e => HB.out.new j (by rw [e]; rfl), fun t ht => ?_⟩⟩
        rw [gd_put _ (by rw [HA.out.len]; exact Hin.out), gd_put _ (by rw [HB.out.len]; exact Hin.out)]
        by_cases e : t = i
        · rw [if_pos e, if_pos e]; exact ⟨rfl, rfl⟩
        · rw [if_neg e, if_neg e]; exact HG.out t (by omega)
    · obtain rfl : i = k := by omega
      have m1 := second_all HA.out.len HB.out.len hkp hhl (fun t ht => (HG.out t ht).1) (fun t ht => (HG.out t ht).2)
      have m2 := second_one HA.out.len HB.out.len hkp hhl hbl (fun t ht => (HG.out t ht).1) (fun t ht => (HG.out t ht).2)
      have cs1 := sweep_at (w := wr) (C := some ⟨ga, 0, none⟩) (R := some ⟨gb, 0, none⟩) (cc := i) (rc := i) (z := (h : Int)) HA.out.has HA.out.len HB.out.has HB.out.len hs
      have cs2 := fun W L (hA : ResB w W (some ⟨ga, 0, none⟩) i i la) (hB : ResB w W L i i (lb.set b false)) => sweep_at (w := W) (C := some ⟨ga, 0, none⟩) (R := L) (cc := i) (rc := i) (z := (h : Int)) hA.has hA.len hB.has hB.len hs
      revert m1 m2 cs1 cs2
      generalize swpL la lb (h : Int) = s1
      generalize swpL la (lb.set b false) (h : Int) = s2
      obtain ⟨p1, q1, l1⟩ := s1
      obtain ⟨p2, q2, l2⟩ := s2
      rintro ⟨x1, x2, x3, x4⟩ ⟨y1, y2, y3, y4⟩ cs1 cs2
      simp only at x1 x2 x3 x4 y1 y2 y3 y4 cs1 cs2
      obtain ⟨nh, hnh⟩ : ∃ v : Nat, v = (h + 1) % i := ⟨_, rfl⟩
      obtain ⟨nb, hnb⟩ : ∃ v : Nat, v = (b + 1) % i := ⟨_, rfl⟩
      have hnhl : nh < i := by rw [hnh]; exact Nat.mod_lt _ hkp
      have hnbl : nb < i := by rw [hnb]; exact Nat.mod_lt _ hkp
      rw [← hnh] at x2
      rw [← hnb] at y2
      subst x1 x2 y1 y2
      have va : IntKind.i64.wrap ((h : Int) + 1) = (h : Int) + 1 := by rw [IntKind.wrap_i64]; omega
      have vt : ((h : Int) + 1) % (i : Int) = (nh : Int) := by rw [hnh, ← Int.natCast_succ, ← Int.natCast_emod]
      have vx : IntKind.i64.wrap (nh : Int) = (nh : Int) := by rw [IntKind.wrap_i64]; omega
      have wa : IntKind.i64.wrap ((b : Int) + 1) = (b : Int) + 1 := by rw [IntKind.wrap_i64]; omega
      have wt : ((b : Int) + 1) % (i : Int) = (nb : Int) := by rw [hnb, ← Int.natCast_succ, ← Int.natCast_emod]
      have wx : IntKind.i64.wrap (nb : Int) = (nb : Int) := by rw [IntKind.wrap_i64]; omega
      have bz : (b : Int) < (i : Int) := by omega
      have X3 := keep x3
      have X4 := keep x4
      have Y3 := keep y3
      have Y4 := keep y4
      have CS1 := keep cs1
      have CS2 := keep cs2
      have Hbl := keep hbl
      clear hlt x3 x4 y3 y4 cs1 cs2 hnh hnb hmk hbl hi
      obtain ⟨gko, rfl⟩ : ∃ x, x = gk := ⟨_, rfl⟩
      obtain ⟨wo, rfl⟩ : ∃ x, x = wr := ⟨_, rfl⟩
      go_wp2_with (first
        | (go_at_call 9; with_reducible refine CS1.out.mono ?_; rintro e w4 ⟨L4, k4, d4, rfl, hz4⟩; clear CS1; have e4 := hz4.out.1.len; rw [X3.out] at e4; subst e4; have f4 := fr_refl w4)
        | fail)
      obtain ⟨b4, o4, rfl, kl⟩ := has_cells hz4.out.1.has X3.out hkp
      have KL := keep kl
      have F4 := keep hz4.out.2
      clear kl hz4
      go_loopg [15] i (fun gg s15 wr => ∃ j : Nat, j + gg = i ∧ s15 = .int .i64 j ∧ Hid (Fr w4 wr))
      case atStart => exact ⟨0, by omega, rfl, keep f4⟩
      case round =>
        obtain ⟨j, hj, rfl, HQ⟩ := hrel
        by_cases hlt : j < i
        · have lX := KL.out wr HQ.out j hlt
          rw [X4.out] at lX
          have hjz : (j : Int) < (i : Int) := by omega
          have wj : IntKind.i64.wrap ((j : Int) + 1) = (j : Int) + 1 := by rw [IntKind.wrap_i64]; omega
          clear hlt
          go_wp2_with fail
          go_roundg (gk - 1)
          case measure => omega
          case rel => exact ⟨j + 1, by omega, rfl, HQ⟩
        · obtain rfl : j = i := by omega
          have HAr := keep (HA.out.fr (fr_step F4.out HQ.out))
          have HBr := keep (HB.out.fr (fr_step F4.out HQ.out))
          have HFr := keep (fr_step HF.out (fr_step F4.out HQ.out))
          obtain ⟨gk2, rfl⟩ : ∃ x, x = gk := ⟨_, rfl⟩
          obtain ⟨wp, rfl⟩ : ∃ x, x = wr := ⟨_, rfl⟩
          clear hlt f4
          go_wp2_with (first
            | (refine wpList_store_rw (cf := bc) (x := false) (j := b) bool_info rfl (.tmp 85) (.const (.bool false)) rfl (by rw [Nat.mul_one, Nat.zero_add]; rfl) rfl rfl (bc_one _) HBr.out.row (bc_wid _) HBr.out.len Hbl.out ?_; intro w5 h5 k5; have HB5 := keep (show ResB w w5 (some ⟨gb, 0, none⟩) j j (lb.set b false) from ⟨h5, by rw [List.length_set]; exact HBr.out.len, HBr.out.new⟩); have HA5 := keep (show ResB w w5 (some ⟨ga, 0, none⟩) j j la from ⟨HAr.out.row.chg k5 fun j hj e => Hne.out (by rw [← e]; exact Option.some.inj hj), HAr.out.len, HAr.out.new⟩); have HF5 := keep (HFr.out.step_chg k5 fun j e => HBr.out.new j (by rw [e]; rfl)); clear h5 k5)
            | (go_at_call 9; with_reducible refine (CS2.out w5 (some ⟨gb, 0, none⟩) HA5.out HB5.out).mono ?_; rintro e w6 ⟨L6, k6, d6, rfl, hz6⟩; clear CS2; have e6 := hz6.out.1.len; rw [Y3.out] at e6; subst e6; have f6 := fr_refl w6)
            | fail)
          obtain ⟨b6, o6, rfl, km⟩ := has_cells hz6.out.1.has Y3.out hkp
          have KM := keep km
          have F6 := keep (fr_step HF5.out hz6.out.2)
          obtain ⟨db, hdb⟩ : ∃ v : Nat, v = dst j h b := ⟨_, rfl⟩
          have hdbl : db < j := by rw [hdb]; exact dst_lt hkp
          have dbe : ((b : Int) - (h : Int) + (j : Int)).tmod (j : Int) = (db : Int) := by
            rw [hdb, show (b : Int) - (h : Int) + (j : Int) = ((b + j - h : Nat) : Int) by omega, ← Int.ofNat_tmod]
            rfl
          have Hdb := keep hdb
          clear km hz6 hdb
          go_loopg [20] j (fun gg s20 wr => ∃ t : Nat, t + gg = j ∧ s20 = .int .i64 t ∧ Hid (Fr w6 wr))
          case atStart => exact ⟨0, by omega, rfl, keep f6⟩
          case round =>
            obtain ⟨t, ht, rfl, HQ6⟩ := hrel
            by_cases hlt : t < j
            · obtain ⟨dt, hdt⟩ : ∃ v : Nat, v = dst j h t := ⟨_, rfl⟩
              have hdtl : dt < j := by rw [hdt]; exact dst_lt hkp
              have dte : ((t : Int) - (h : Int) + (j : Int)).tmod (j : Int) = (dt : Int) := by
                rw [hdt, show (t : Int) - (h : Int) + (j : Int) = ((t + j - h : Nat) : Int) by omega, ← Int.ofNat_tmod]
                rfl
              have w1 : IntKind.i64.wrap ((t : Int) - (h : Int)) = (t : Int) - (h : Int) := by rw [IntKind.wrap_i64]; omega
              have w2 : IntKind.i64.wrap ((t : Int) - (h : Int) + (j : Int)) = (t : Int) - (h : Int) + (j : Int) := by rw [IntKind.wrap_i64]; omega
              have w3 : IntKind.i64.wrap (dt : Int) = (dt : Int) := by rw [IntKind.wrap_i64]; omega
              have u1 : IntKind.i64.wrap ((b : Int) - (h : Int)) = (b : Int) - (h : Int) := by rw [IntKind.wrap_i64]; omega
              have u2 : IntKind.i64.wrap ((b : Int) - (h : Int) + (j : Int)) = (b : Int) - (h : Int) + (j : Int) := by rw [IntKind.wrap_i64]; omega
              have u3 : IntKind.i64.wrap (db : Int) = (db : Int) := by rw [IntKind.wrap_i64]; omega
              have wt : IntKind.i64.wrap ((t : Int) + 1) = (t : Int) + 1 := by rw [IntKind.wrap_i64]; omega
              have htz : (t : Int) < (j : Int) := by omega
              have Hdt := keep hdt
              have Hlt := keep hlt
              clear hlt hdt
              go_wp2_with fail
              go_quiet (fail)
              have FQ := keep (fr_drewN HQ6.out nq)
              have mX := KM.out (wr.drewN nq) FQ.out t Hlt.out
              by_cases e : t = b
              · have n1 : ((t : Int) != (b : Int)) = false := by simp; omega
                have n2 : ((t : Int) == (b : Int)) = true := by simp; omega
                clear e
                go_wp2_with fail
                go_roundg (gk - 1)
                case measure => omega
                case rel => exact ⟨t + 1, by omega, rfl, FQ⟩
              · have n1 : ((t : Int) != (b : Int)) = true := by simp; omega
                have n2 : ((t : Int) == (b : Int)) = false := by simp; omega
                have y4 := Y4.out t Hlt.out e
                rw [← Hdt.out, ← Hdb.out] at y4
                rw [y4] at mX
                clear e y4
                by_cases hq : dt < db
                · rw [decide_eq_true hq] at mX
                  go_wp2_with fail
                  go_roundg (gk - 1)
                  case measure => omega
                  case rel => exact ⟨t + 1, by omega, rfl, FQ⟩
                · rw [decide_eq_false hq] at mX
                  go_wp2_with fail
                  go_roundg (gk - 1)
                  case measure => omega
                  case rel => exact ⟨t + 1, by omega, rfl, FQ⟩
            · obtain rfl : t = j := by omega
              clear hlt
              go_wp2_with (first
                | (go_at_call 8; with_reducible refine (awake_at (w := wr)).mono ?_; rintro e w9 ⟨rfl, hf9⟩)
                | fail)
              go_ret
              exact ⟨rfl, fr_step F6.out (fr_step HQ6.out hf9)⟩
end Go.Proofs.Ytifmldlbhcpaiaa
