/- FanAll, walked. -/
import Derived.Test.YtnfoebcfhldemaaFnJ
namespace Go.Proofs.Ytnfoebcfhldemaa
set_option maxRecDepth 100000
open Go.RowKit
set_option linter.unusedVariables false
attribute [local go_sem ↓] key_ld msg_ld
def HalfS (W0 : World) (l1 : List Int) (l2 : List RK) (m : RK) (l3 : List Int) (l4 : List RK) (ok : Bool) (e : Ending) (w' : World) : Prop := ∃ A1 c1 A2 c2 A3 c3 A4 c4, e = .returned (.tuple #[.slice A1 l1.length c1, .slice A2 l2.length c2, kv m, .slice A3 l3.length c3, .slice A4 l4.length c4, .bool ok]) ∧ Hid (Own w' 0 3 1 A1 l1.length c1 (ints l1)) ∧ Hid (Own w' 0 27 9 A2 l2.length c2 (rows kc l2)) ∧ Hid (Own w' 0 3 1 A3 l3.length c3 (ints l3)) ∧ Hid (Own w' 0 27 9 A4 l4.length c4 (rows kc l4)) ∧ Fr W0 w'
theorem half_both {np : Nat} {ks : List Int} {ps : List RK} (hnp : ps.length = np) (hkl : ks.length = np + 1) (h3 : np ≤ 3) (op : OkP ps) : ∃ l1 l2 m l3 l4 ok, l1.length ≤ 4 ∧ l2.length ≤ 4 ∧ l3.length ≤ 4 ∧ l4.length ≤ 4 ∧ WfK l2 ∧ WfK l4 ∧ m.wf ∧
    (∀ W A c A2 c2, Own W 0 3 1 A (np + 1) c (ints ks) → Own W 0 27 9 A2 np c2 (rows kc ps) → Calls Try.prog 38 #[.slice A (np + 1) c, .slice A2 np c2] W (HalfS W l1 l2 m l3 l4 ok)) ∧
    (∀ W A c A2 c2, Own W 0 3 1 A (np + 1) c (ints ks) → Own W 0 27 9 A2 np c2 (rows kc ps) → Calls Try.prog 39 #[.slice A (np + 1) c, .slice A2 np c2] W (HalfS W l1 l2 m l3 l4 ok)) := by
  by_cases h : np < 3
  · refine ⟨[], [], zeroK, [], [], false, by simp, by simp, by simp, by simp, fun k hk => by simp at hk, fun k hk => by simp at hk, zeroK_wf, fun W A c A2 c2 _ _ => ?_, fun W A c A2 c2 _ _ => ?_⟩
    · exact (fhalves_no (by omega) (fr_refl W)).mono fun e w' ⟨h1, h2⟩ => ⟨none, 0, none, 0, none, 0, none, 0, h1, keep (Own.nil _ _ _ _), keep (Own.nil _ _ _ _), keep (Own.nil _ _ _ _), keep (Own.nil _ _ _ _), h2⟩
    · exact (rhalves_no (by omega) (fr_refl W)).mono fun e w' ⟨h1, h2⟩ => ⟨none, 0, none, 0, none, 0, none, 0, h1, keep (Own.nil _ _ _ _), keep (Own.nil _ _ _ _), keep (Own.nil _ _ _ _), keep (Own.nil _ _ _ _), h2⟩
  · obtain rfl : np = 3 := by omega
    have hm : ps[1]? = some (ps[1]'(by omega)) := List.getElem?_eq_getElem _
    generalize ps[1]'(by omega) = m at hm
    have e1 : (ks.take 2).length = 2 := by rw [List.length_take, hkl]; rfl
    have e3 : (ks.drop 2).length = 2 := by rw [List.length_drop, hkl]
    have f1 : (ps.take 1).length = 1 := by rw [List.length_take, hnp]; rfl
    have f3 : (ps.drop 2).length = 1 := by rw [List.length_drop, hnp]
    refine ⟨ks.take 2, ps.take 1, m, ks.drop 2, ps.drop 2, true, by omega, by omega, by omega, by omega, fun k hk => op.wfk k (List.mem_of_mem_take hk), fun k hk => op.wfk k (List.mem_of_mem_drop hk), op.wfk m (List.mem_of_getElem? hm), fun W A c A2 c2 h1 h2 => ?_, fun W A c A2 c2 h1 h2 => ?_⟩
    · refine (fhalves_at (c := c) (c2 := c2) (m := m) h1.has (Nat.le_refl _) hkl h1.cap h2.has (Nat.le_refl _) hnp h2.cap hm (fr_refl W)).mono fun e w' h => ?_
      obtain ⟨A1, c1, A2, c2, A3, c3, A4, c4, q, o1, o2, o3, o4, f⟩ := h
      refine ⟨A1, c1, A2, c2, A3, c3, A4, c4, ?_, ?_, ?_, ?_, ?_, f⟩
      · rw [e1, e3, f1, f3]; exact q
      · rw [e1]; exact o1
      · rw [f1]; exact o2
      · rw [e3]; exact o3
      · rw [f3]; exact o4
    · refine (rhalves_at (c := c) (c2 := c2) (m := m) h1.has (Nat.le_refl _) hkl h1.cap h2.has (Nat.le_refl _) hnp h2.cap hm (fr_refl W)).mono fun e w' h => ?_
      obtain ⟨A1, c1, A2, c2, A3, c3, A4, c4, q, o1, o2, o3, o4, f⟩ := h
      refine ⟨A1, c1, A2, c2, A3, c3, A4, c4, ?_, ?_, ?_, ?_, ?_, f⟩
      · rw [e1, e3, f1, f3]; exact q
      · rw [e1]; exact o1
      · rw [f1]; exact o2
      · rw [e3]; exact o3
      · rw [f3]; exact o4
theorem si_same {W : World} {A A2 : Option Addr} {c c2 : Nat} {l : List Int} (hl : l.length ≤ 100) (h1 : Own W 0 3 1 A l.length c (ints l)) (h2 : Own W 0 3 1 A2 l.length c2 (ints l)) : Calls Try.prog 36 #[.slice A l.length c, .slice A2 l.length c2] W fun e w' => e = .returned (.bool true) ∧ Fr W w' := by
  have := sameints_at (c := c) (c2 := c2) h1.has (Nat.le_refl _) rfl (by omega) h2.has (Nat.le_refl _) rfl (by omega) (fr_refl W)
  rwa [decide_eq_true rfl] at this
theorem sk_same {W : World} {A A2 : Option Addr} {c c2 : Nat} {l : List RK} (hl : l.length ≤ 100) (wl : WfK l) (h1 : Own W 0 27 9 A l.length c (rows kc l)) (h2 : Own W 0 27 9 A2 l.length c2 (rows kc l)) : Calls Try.prog 37 #[.slice A l.length c, .slice A2 l.length c2] W fun e w' => e = .returned (.bool true) ∧ Fr W w' := by
  have := samekeys_at (c := c) (c2 := c2) h1.has (Nat.le_refl _) rfl (by omega) wl h2.has (Nat.le_refl _) rfl (by omega) wl (fr_refl W)
  rwa [decide_eq_true rfl] at this
theorem insV_wfk {n : Nat} {ps : List RK} {i : Int} {x : RK} (h : WfK ps) (wx : x.wf) : WfK (insV n ps i x) := by
  unfold insV
  split
  · intro k hk
    rcases List.mem_append.1 hk with h1 | h1
    · exact h k (List.mem_of_mem_take h1)
    · rcases List.mem_cons.1 h1 with rfl | h1
      · exact wx
      · exact h k (List.mem_of_mem_drop h1)
  · exact h
set_option maxHeartbeats 8000000 in
theorem fanAll_core {w : World} {A0 : Option Addr} {n0 c0 : Nat} {ns : List Int} {f ky i id at' : Int} (hl0 : Has w w.heap.size A0 (ns.map (Value.int .i64))) (hn0 : ns.length = n0) (hns : ∀ z ∈ ns, Is64 z) (hby : n0 * 8 ≤ 140737488351232) (hf : Is64 f) (hky : Is64 ky) (hi : Is64 i) (hid : Is64 id) (hat : Is64 at') :
    Calls Try.prog 5 #[.slice A0 n0 c0, .int .i64 f, .int .i64 ky, .int .i64 i, .int .i64 id, .int .i64 at'] w fun e w' => e = .returned (.bool true) ∧ Below w.heap.size w w' := by
  have cT := law_two (c := c0) hl0 (Nat.le_refl _) hn0 hns (by unfold maxLen; omega) hf (by omega)
  have op := pivsL_ok (16 :: ns) 3
  have np1 := pivs_one ns
  have np3 := pivs_three ns
  have cX := fun W => law_key_at (W0 := W) (W := W) hky (fr_refl W)
  have wx := lawK_wf ky
  have ox := lawK_ok ky
  have cW := fun W => awake8_at (W0 := W) (W := W) (fr_refl W)
  have hat5 : Is64 (at'.tmod 5) := by
    have h1 := Int.lt_tmod_of_pos at' (show (0 : Int) < 5 by omega)
    have h2 := Int.tmod_lt_of_pos at' (show (0 : Int) < 5 by omega)
    unfold Is64
    omega
  generalize pivsL (16 :: ns) 3 = ps at *
  generalize lawK ky = x at *
  generalize hnp : ps.length = np at *
  have hkl := kidsL_len np f
  have hko := kids_ok (f := f) np1 np3
  generalize kidsL np f = ks at *
  obtain ⟨l1, l2, m, l3, l4, ok, q1, q2, q3, q4, wl2, wl4, wm, cH, cG⟩ := half_both hnp hkl np3 op
  have chk := chkB_yes hko (by rw [hnp, hkl]) op
  have cI : ∀ W A c A2 c2 i, Is64 i → Own W 0 3 1 A (np + 1) c (ints ks) → Own W 0 27 9 A2 np c2 (rows kc ps) → Calls Try.prog 34 #[.slice A (np + 1) c, .slice A2 np c2, .int .i64 i, kv x, .int .i64 id] W (InsOut W (insI ks i id) (insV (np + 1) ps i x)) := fun W A c A2 c2 i hi h1 h2 => finsert_at h1.has (Nat.le_refl _) hkl h1.cap (by omega) h2.has (Nat.le_refl _) hnp h2.cap rfl hi (fr_refl W)
  have cJ : ∀ W A c A2 c2 i, Is64 i → Own W 0 3 1 A (np + 1) c (ints ks) → Own W 0 27 9 A2 np c2 (rows kc ps) → Calls Try.prog 35 #[.slice A (np + 1) c, .slice A2 np c2, .int .i64 i, kv x, .int .i64 id] W (InsOut W (insI ks i id) (insV (np + 1) ps i x)) := fun W A c A2 c2 i hi h1 h2 => rinsert_at h1.has (Nat.le_refl _) hkl (by omega) h2.has (Nat.le_refl _) hnp rfl hi (fr_refl W)
  have z1 := insI_len ks i id
  have z2 := insI_len ks (at'.tmod 5) id
  have z3 := insV_len (np + 1) ps i x
  have z4 := insV_len (np + 1) ps (at'.tmod 5) x
  have y3 := keep (insV_wfk (n := np + 1) (i := i) op.wfk wx)
  have y4 := keep (insV_wfk (n := np + 1) (i := at'.tmod 5) op.wfk wx)
  have cC : ∀ W A c A2 c2, Own W 0 3 1 A (np + 1) c (ints ks) → Own W 0 27 9 A2 np c2 (rows kc ps) → Calls Try.prog 40 #[.slice A (np + 1) c, .slice A2 np c2] W fun e w' => e = .returned (.bool true) ∧ Fr W w' := fun W A c A2 c2 h1 h2 => by
    have := fcheck_at (ck := c) (c := c2) h1.has (Nat.le_refl _) hkl (by omega) h1.cap h2.has (Nat.le_refl _) hnp (by omega) op.wfk
    rwa [chk] at this
  have cK : ∀ W A2 c2, Own W 0 27 9 A2 np c2 (rows kc ps) → Calls Try.prog 41 #[.slice A2 np c2, kv x] W fun e w' => e = .returned (.int .i64 (kidN ps (code x) : Nat)) ∧ Fr W w' := fun W A2 c2 h => kid_at h.has (Nat.le_refl _) hnp (by omega) op wx ox (fr_refl W)
  have cL : ∀ W A2 c2, Own W 0 27 9 A2 np c2 (rows kc ps) → Calls Try.prog 42 #[.slice A2 np c2, kv x] W fun e w' => e = .returned (.int .i64 (kidN ps (code x) : Nat)) ∧ Fr W w' := fun W A2 c2 h => rkid_at h.has (Nat.le_refl _) hnp (by omega) op wx ox (fr_refl W)
  have cP : ∀ W A c, Own W 0 3 1 A (np + 1) c (ints ks) → Calls Try.prog 43 #[.slice A (np + 1) c, .int .i64 id] W fun e w' => e = .returned (.int .i64 (plc ks id)) ∧ Fr W w' := fun W A c h => place_int h.has (Nat.le_refl _) hkl (by unfold maxLen; omega) (fr_refl W)
  have cQ : ∀ W A c, Own W 0 3 1 A (np + 1) c (ints ks) → Calls Try.prog 44 #[.slice A (np + 1) c, .int .i64 id] W fun e w' => e = .returned (.int .i64 (plc ks id)) ∧ Fr W w' := fun W A c h => rplace_int h.has (Nat.le_refl _) hkl (by unfold maxLen; omega) (fr_refl W)
  have qM := fun W => key_nself wm W
  unfold InsOut OwnI OwnK at cI cJ
  unfold HalfS at cH cG
  have s1 := fun W A c A2 c2 => si_same (W := W) (A := A) (c := c) (A2 := A2) (c2 := c2) (l := insI ks i id) (by omega)
  have s2 := fun W A c A2 c2 => si_same (W := W) (A := A) (c := c) (A2 := A2) (c2 := c2) (l := insI ks (at'.tmod 5) id) (by omega)
  have t1 := fun W A c A2 c2 => sk_same (W := W) (A := A) (c := c) (A2 := A2) (c2 := c2) (l := insV (np + 1) ps i x) (by omega) y3.out
  have t2 := fun W A c A2 c2 => sk_same (W := W) (A := A) (c := c) (A2 := A2) (c2 := c2) (l := insV (np + 1) ps (at'.tmod 5) x) (by omega) y4.out
  have s3 := fun W A c A2 c2 => si_same (W := W) (A := A) (c := c) (A2 := A2) (c2 := c2) (l := l1) (by omega)
  have s4 := fun W A c A2 c2 => si_same (W := W) (A := A) (c := c) (A2 := A2) (c2 := c2) (l := l3) (by omega)
  have t3 := fun W A c A2 c2 => sk_same (W := W) (A := A) (c := c) (A2 := A2) (c2 := c2) (l := l2) (by omega) wl2
  have t4 := fun W A c A2 c2 => sk_same (W := W) (A := A) (c := c) (A2 := A2) (c2 := c2) (l := l4) (by omega) wl4
  have cI1 := fun W A c A2 c2 => cI W A c A2 c2 i hi
  have cJ1 := fun W A c A2 c2 => cJ W A c A2 c2 i hi
  have cI2 := fun W A c A2 c2 => cI W A c A2 c2 (at'.tmod 5) hat5
  have cJ2 := fun W A c A2 c2 => cJ W A c A2 c2 (at'.tmod 5) hat5
  clear cI cJ
  generalize insI ks i id = a1 at *
  generalize insV (np + 1) ps i x = b1 at *
  generalize insI ks (at'.tmod 5) id = a2 at *
  generalize insV (np + 1) ps (at'.tmod 5) x = b2 at *
  generalize kidN ps (code x) = kk at *
  generalize plc ks id = pq at *
  unfold TwoOut at cT
  rw [hkl, hnp] at cT
  have Hnp := keep hnp
  have Hkl := keep hkl
  generalize hv1 : a1.length = n1 at *
  generalize hv2 : b1.length = n2 at *
  generalize hv3 : a2.length = n3 at *
  generalize hv4 : b2.length = n4 at *
  generalize hv5 : l1.length = n5 at *
  generalize hv6 : l2.length = n6 at *
  generalize hv7 : l3.length = n7 at *
  generalize hv8 : l4.length = n8 at *
  have Hv1 := keep hv1
  have okk : (ok != ok) = false := by cases ok <;> rfl
  have rr := fr_refl w
  clear hl0 hn0 hns hby hf hky hi hid hat hnp hkl wx ox op hko chk y3 y4 wl2 wl4 wm hv1 hv2 hv3 hv4 hv5 hv6 hv7 hv8 hat5
  go_enter Try.func5, Try.ntmps5
  go_wp2_with fail
  refine cT.mono ?_
  rintro e v1 ⟨A, c, A2, c2, rfl, hk, hp, f1⟩
  replace hk : Hid (Own v1 0 3 1 A (np + 1) c (ints ks)) := keep (by have h := hk.out; unfold OwnI at h; rwa [Hkl.out] at h)
  replace hp : Hid (Own v1 0 27 9 A2 np c2 (rows kc ps)) := keep (by have h := hp.out; unfold OwnK at h; rwa [Hnp.out] at h)
  clear cT
  go_wp2_with fail
  refine (cX _).mono ?_
  rintro e v2 ⟨rfl, f2⟩
  replace hk := keep (Own.below hk.out f2 (Nat.le_refl _))
  replace hp := keep (Own.below hp.out f2 (Nat.le_refl _))
  have top := fr_step f1 f2
  have vv := fr_refl v2
  clear cX f1 f2
  have tok : Hid (0 < 1) := keep (by decide)
  go_wp2_with (first
    | (clear tok; refine wpList_store_at (ds := kc x) key_info rfl (.tmp 15) (.tmp 43) rfl v2.heap.size 0 rfl rfl (kc_len _) (kc_one _) (Arr.new v2 (kc zeroK).toArray 27) (by rw [kc_len]; decide) (splice_all _ _ (Nat.le_of_eq rfl)) ?_; intro V1 hM1 hk1; have st1 := hk1.fr (fr_new (fr_refl v2) _) (Nat.le_refl _); have lX : ∀ W, Fr V1 W → (ldS 27 (.pointer (some ⟨v2.heap.size, 0, none⟩))).run Try.prog W = .ok (.agg (kc x).toArray) W := fun W h => keyS.ld (kc_len _) (hM1.below h hM1.lt); have rr1 := fr_refl V1; clear hM1 hk1)
    | fail)
  replace hk := keep (Own.below hk.out st1 (Nat.le_refl _))
  replace hp := keep (Own.below hp.out st1 (Nat.le_refl _))
  replace top := fr_step top st1
  have rV1 := fr_refl V1
  clear st1
  refine (cI1 V1 _ _ _ _ hk.out hp.out).mono ?_
  rintro e V2 ⟨A3, c3, A4, c4, rfl, o3, o4, st2⟩
  replace hk := keep (Own.below hk.out st2 (Nat.le_refl _))
  replace hp := keep (Own.below hp.out st2 (Nat.le_refl _))
  replace lX := fun (W : World) (h : Fr V2 W) => lX W (fr_step st2 h)
  replace top := fr_step top st2
  have rV2 := fr_refl V2
  clear st2
  go_wp2_with fail
  refine (cJ1 V2 _ _ _ _ hk.out hp.out).mono ?_
  rintro e V3 ⟨A5, c5, A6, c6, rfl, o5, o6, st3⟩
  replace hk := keep (Own.below hk.out st3 (Nat.le_refl _))
  replace hp := keep (Own.below hp.out st3 (Nat.le_refl _))
  replace o3 := keep (Own.below o3.out st3 (Nat.le_refl _))
  replace o4 := keep (Own.below o4.out st3 (Nat.le_refl _))
  replace lX := fun (W : World) (h : Fr V3 W) => lX W (fr_step st3 h)
  replace top := fr_step top st3
  have rV3 := fr_refl V3
  clear st3
  go_wp2_with fail
  refine (cI2 V3 _ _ _ _ hk.out hp.out).mono ?_
  rintro e V4 ⟨A7, c7, A8, c8, rfl, o7, o8, st4⟩
  replace hk := keep (Own.below hk.out st4 (Nat.le_refl _))
  replace hp := keep (Own.below hp.out st4 (Nat.le_refl _))
  replace o3 := keep (Own.below o3.out st4 (Nat.le_refl _))
  replace o4 := keep (Own.below o4.out st4 (Nat.le_refl _))
  replace o5 := keep (Own.below o5.out st4 (Nat.le_refl _))
  replace o6 := keep (Own.below o6.out st4 (Nat.le_refl _))
  replace lX := fun (W : World) (h : Fr V4 W) => lX W (fr_step st4 h)
  replace top := fr_step top st4
  have rV4 := fr_refl V4
  clear st4
  go_wp2_with fail
  refine (cJ2 V4 _ _ _ _ hk.out hp.out).mono ?_
  rintro e V5 ⟨A9, c9, A10, c10, rfl, o9, o10, st5⟩
  replace hk := keep (Own.below hk.out st5 (Nat.le_refl _))
  replace hp := keep (Own.below hp.out st5 (Nat.le_refl _))
  replace o3 := keep (Own.below o3.out st5 (Nat.le_refl _))
  replace o4 := keep (Own.below o4.out st5 (Nat.le_refl _))
  replace o5 := keep (Own.below o5.out st5 (Nat.le_refl _))
  replace o6 := keep (Own.below o6.out st5 (Nat.le_refl _))
  replace o7 := keep (Own.below o7.out st5 (Nat.le_refl _))
  replace o8 := keep (Own.below o8.out st5 (Nat.le_refl _))
  replace lX := fun (W : World) (h : Fr V5 W) => lX W (fr_step st5 h)
  replace top := fr_step top st5
  have rV5 := fr_refl V5
  clear st5
  go_wp2_with fail
  refine (s1 V5 _ _ _ _ o3.out o5.out).mono ?_
  rintro e V6 ⟨rfl, st6⟩
  replace hk := keep (Own.below hk.out st6 (Nat.le_refl _))
  replace hp := keep (Own.below hp.out st6 (Nat.le_refl _))
  replace o3 := keep (Own.below o3.out st6 (Nat.le_refl _))
  replace o4 := keep (Own.below o4.out st6 (Nat.le_refl _))
  replace o5 := keep (Own.below o5.out st6 (Nat.le_refl _))
  replace o6 := keep (Own.below o6.out st6 (Nat.le_refl _))
  replace o7 := keep (Own.below o7.out st6 (Nat.le_refl _))
  replace o8 := keep (Own.below o8.out st6 (Nat.le_refl _))
  replace o9 := keep (Own.below o9.out st6 (Nat.le_refl _))
  replace o10 := keep (Own.below o10.out st6 (Nat.le_refl _))
  replace lX := fun (W : World) (h : Fr V6 W) => lX W (fr_step st6 h)
  replace top := fr_step top st6
  have rV6 := fr_refl V6
  clear st6
  go_wp2_with fail
  refine (t1 V6 _ _ _ _ o4.out o6.out).mono ?_
  rintro e V7 ⟨rfl, st7⟩
  replace hk := keep (Own.below hk.out st7 (Nat.le_refl _))
  replace hp := keep (Own.below hp.out st7 (Nat.le_refl _))
  replace o3 := keep (Own.below o3.out st7 (Nat.le_refl _))
  replace o4 := keep (Own.below o4.out st7 (Nat.le_refl _))
  replace o5 := keep (Own.below o5.out st7 (Nat.le_refl _))
  replace o6 := keep (Own.below o6.out st7 (Nat.le_refl _))
  replace o7 := keep (Own.below o7.out st7 (Nat.le_refl _))
  replace o8 := keep (Own.below o8.out st7 (Nat.le_refl _))
  replace o9 := keep (Own.below o9.out st7 (Nat.le_refl _))
  replace o10 := keep (Own.below o10.out st7 (Nat.le_refl _))
  replace lX := fun (W : World) (h : Fr V7 W) => lX W (fr_step st7 h)
  replace top := fr_step top st7
  have rV7 := fr_refl V7
  clear st7
  go_wp2_with fail
  refine (s2 V7 _ _ _ _ o7.out o9.out).mono ?_
  rintro e V8 ⟨rfl, st8⟩
  replace hk := keep (Own.below hk.out st8 (Nat.le_refl _))
  replace hp := keep (Own.below hp.out st8 (Nat.le_refl _))
  replace o3 := keep (Own.below o3.out st8 (Nat.le_refl _))
  replace o4 := keep (Own.below o4.out st8 (Nat.le_refl _))
  replace o5 := keep (Own.below o5.out st8 (Nat.le_refl _))
  replace o6 := keep (Own.below o6.out st8 (Nat.le_refl _))
  replace o7 := keep (Own.below o7.out st8 (Nat.le_refl _))
  replace o8 := keep (Own.below o8.out st8 (Nat.le_refl _))
  replace o9 := keep (Own.below o9.out st8 (Nat.le_refl _))
  replace o10 := keep (Own.below o10.out st8 (Nat.le_refl _))
  replace lX := fun (W : World) (h : Fr V8 W) => lX W (fr_step st8 h)
  replace top := fr_step top st8
  have rV8 := fr_refl V8
  clear st8
  go_wp2_with fail
  refine (t2 V8 _ _ _ _ o8.out o10.out).mono ?_
  rintro e V9 ⟨rfl, st9⟩
  replace hk := keep (Own.below hk.out st9 (Nat.le_refl _))
  replace hp := keep (Own.below hp.out st9 (Nat.le_refl _))
  replace o3 := keep (Own.below o3.out st9 (Nat.le_refl _))
  replace o4 := keep (Own.below o4.out st9 (Nat.le_refl _))
  replace o5 := keep (Own.below o5.out st9 (Nat.le_refl _))
  replace o6 := keep (Own.below o6.out st9 (Nat.le_refl _))
  replace o7 := keep (Own.below o7.out st9 (Nat.le_refl _))
  replace o8 := keep (Own.below o8.out st9 (Nat.le_refl _))
  replace o9 := keep (Own.below o9.out st9 (Nat.le_refl _))
  replace o10 := keep (Own.below o10.out st9 (Nat.le_refl _))
  replace lX := fun (W : World) (h : Fr V9 W) => lX W (fr_step st9 h)
  replace top := fr_step top st9
  have rV9 := fr_refl V9
  clear st9
  clear o3 o4 o5 o6 o7 o8 o9 o10 cI1 cI2 cJ1 cJ2 s1 s2 t1 t2
  go_wp2_with fail
  refine (cH V9 _ _ _ _ hk.out hp.out).mono ?_
  rintro e V10 ⟨A3, c3, A4, c4, A5, c5, A6, c6, rfl, o3, o4, o5, o6, st10⟩
  replace hk := keep (Own.below hk.out st10 (Nat.le_refl _))
  replace hp := keep (Own.below hp.out st10 (Nat.le_refl _))
  replace lX := fun (W : World) (h : Fr V10 W) => lX W (fr_step st10 h)
  replace top := fr_step top st10
  have rV10 := fr_refl V10
  clear st10
  have tok : Hid (0 < 1) := keep (by decide)
  go_wp2_with (first
    | (clear tok; refine wpList_store_at (ds := kc m) key_info rfl (.tmp 26) (.tmp 110) rfl V10.heap.size 0 rfl rfl (kc_len _) (kc_one _) (Arr.new V10 (kc zeroK).toArray 27) (by rw [kc_len]; decide) (splice_all _ _ (Nat.le_of_eq rfl)) ?_; intro V11 hM11 hk11; have st11 := hk11.fr (fr_new (fr_refl V10) _) (Nat.le_refl _); have lM1 : ∀ W, Fr V11 W → (ldS 27 (.pointer (some ⟨V10.heap.size, 0, none⟩))).run Try.prog W = .ok (.agg (kc m).toArray) W := fun W h => keyS.ld (kc_len _) (hM11.below h hM11.lt); have rr11 := fr_refl V11; clear hM11 hk11)
    | fail)
  replace hk := keep (Own.below hk.out st11 (Nat.le_refl _))
  replace hp := keep (Own.below hp.out st11 (Nat.le_refl _))
  replace o3 := keep (Own.below o3.out st11 (Nat.le_refl _))
  replace o4 := keep (Own.below o4.out st11 (Nat.le_refl _))
  replace o5 := keep (Own.below o5.out st11 (Nat.le_refl _))
  replace o6 := keep (Own.below o6.out st11 (Nat.le_refl _))
  replace lX := fun (W : World) (h : Fr V11 W) => lX W (fr_step st11 h)
  replace top := fr_step top st11
  have rV11 := fr_refl V11
  clear st11
  refine (cG V11 _ _ _ _ hk.out hp.out).mono ?_
  rintro e V12 ⟨A7, c7, A8, c8, A9, c9, A10, c10, rfl, o7, o8, o9, o10, st12⟩
  replace hk := keep (Own.below hk.out st12 (Nat.le_refl _))
  replace hp := keep (Own.below hp.out st12 (Nat.le_refl _))
  replace o3 := keep (Own.below o3.out st12 (Nat.le_refl _))
  replace o4 := keep (Own.below o4.out st12 (Nat.le_refl _))
  replace o5 := keep (Own.below o5.out st12 (Nat.le_refl _))
  replace o6 := keep (Own.below o6.out st12 (Nat.le_refl _))
  replace lX := fun (W : World) (h : Fr V12 W) => lX W (fr_step st12 h)
  replace lM1 := fun (W : World) (h : Fr V12 W) => lM1 W (fr_step st12 h)
  replace top := fr_step top st12
  have rV12 := fr_refl V12
  clear st12
  have tok : Hid (0 < 1) := keep (by decide)
  go_wp2_with (first
    | (clear tok; refine wpList_store_at (ds := kc m) key_info rfl (.tmp 32) (.tmp 120) rfl V12.heap.size 0 rfl rfl (kc_len _) (kc_one _) (Arr.new V12 (kc zeroK).toArray 27) (by rw [kc_len]; decide) (splice_all _ _ (Nat.le_of_eq rfl)) ?_; intro V13 hM13 hk13; have st13 := hk13.fr (fr_new (fr_refl V12) _) (Nat.le_refl _); have lM2 : ∀ W, Fr V13 W → (ldS 27 (.pointer (some ⟨V12.heap.size, 0, none⟩))).run Try.prog W = .ok (.agg (kc m).toArray) W := fun W h => keyS.ld (kc_len _) (hM13.below h hM13.lt); have rr13 := fr_refl V13; clear hM13 hk13)
    | fail)
  replace hk := keep (Own.below hk.out st13 (Nat.le_refl _))
  replace hp := keep (Own.below hp.out st13 (Nat.le_refl _))
  replace o3 := keep (Own.below o3.out st13 (Nat.le_refl _))
  replace o4 := keep (Own.below o4.out st13 (Nat.le_refl _))
  replace o5 := keep (Own.below o5.out st13 (Nat.le_refl _))
  replace o6 := keep (Own.below o6.out st13 (Nat.le_refl _))
  replace o7 := keep (Own.below o7.out st13 (Nat.le_refl _))
  replace o8 := keep (Own.below o8.out st13 (Nat.le_refl _))
  replace o9 := keep (Own.below o9.out st13 (Nat.le_refl _))
  replace o10 := keep (Own.below o10.out st13 (Nat.le_refl _))
  replace lX := fun (W : World) (h : Fr V13 W) => lX W (fr_step st13 h)
  replace lM1 := fun (W : World) (h : Fr V13 W) => lM1 W (fr_step st13 h)
  replace top := fr_step top st13
  have rV13 := fr_refl V13
  clear st13
  refine (s3 V13 _ _ _ _ o3.out o7.out).mono ?_
  rintro e V14 ⟨rfl, st14⟩
  replace hk := keep (Own.below hk.out st14 (Nat.le_refl _))
  replace hp := keep (Own.below hp.out st14 (Nat.le_refl _))
  replace o3 := keep (Own.below o3.out st14 (Nat.le_refl _))
  replace o4 := keep (Own.below o4.out st14 (Nat.le_refl _))
  replace o5 := keep (Own.below o5.out st14 (Nat.le_refl _))
  replace o6 := keep (Own.below o6.out st14 (Nat.le_refl _))
  replace o7 := keep (Own.below o7.out st14 (Nat.le_refl _))
  replace o8 := keep (Own.below o8.out st14 (Nat.le_refl _))
  replace o9 := keep (Own.below o9.out st14 (Nat.le_refl _))
  replace o10 := keep (Own.below o10.out st14 (Nat.le_refl _))
  replace lX := fun (W : World) (h : Fr V14 W) => lX W (fr_step st14 h)
  replace lM1 := fun (W : World) (h : Fr V14 W) => lM1 W (fr_step st14 h)
  replace lM2 := fun (W : World) (h : Fr V14 W) => lM2 W (fr_step st14 h)
  replace top := fr_step top st14
  have rV14 := fr_refl V14
  clear st14
  go_wp2_with fail
  refine (t3 V14 _ _ _ _ o4.out o8.out).mono ?_
  rintro e V15 ⟨rfl, st15⟩
  replace hk := keep (Own.below hk.out st15 (Nat.le_refl _))
  replace hp := keep (Own.below hp.out st15 (Nat.le_refl _))
  replace o3 := keep (Own.below o3.out st15 (Nat.le_refl _))
  replace o4 := keep (Own.below o4.out st15 (Nat.le_refl _))
  replace o5 := keep (Own.below o5.out st15 (Nat.le_refl _))
  replace o6 := keep (Own.below o6.out st15 (Nat.le_refl _))
  replace o7 := keep (Own.below o7.out st15 (Nat.le_refl _))
  replace o8 := keep (Own.below o8.out st15 (Nat.le_refl _))
  replace o9 := keep (Own.below o9.out st15 (Nat.le_refl _))
  replace o10 := keep (Own.below o10.out st15 (Nat.le_refl _))
  replace lX := fun (W : World) (h : Fr V15 W) => lX W (fr_step st15 h)
  replace lM1 := fun (W : World) (h : Fr V15 W) => lM1 W (fr_step st15 h)
  replace lM2 := fun (W : World) (h : Fr V15 W) => lM2 W (fr_step st15 h)
  replace top := fr_step top st15
  have rV15 := fr_refl V15
  clear st15
  go_wp2_with fail
  refine (s4 V15 _ _ _ _ o5.out o9.out).mono ?_
  rintro e V16 ⟨rfl, st16⟩
  replace hk := keep (Own.below hk.out st16 (Nat.le_refl _))
  replace hp := keep (Own.below hp.out st16 (Nat.le_refl _))
  replace o3 := keep (Own.below o3.out st16 (Nat.le_refl _))
  replace o4 := keep (Own.below o4.out st16 (Nat.le_refl _))
  replace o5 := keep (Own.below o5.out st16 (Nat.le_refl _))
  replace o6 := keep (Own.below o6.out st16 (Nat.le_refl _))
  replace o7 := keep (Own.below o7.out st16 (Nat.le_refl _))
  replace o8 := keep (Own.below o8.out st16 (Nat.le_refl _))
  replace o9 := keep (Own.below o9.out st16 (Nat.le_refl _))
  replace o10 := keep (Own.below o10.out st16 (Nat.le_refl _))
  replace lX := fun (W : World) (h : Fr V16 W) => lX W (fr_step st16 h)
  replace lM1 := fun (W : World) (h : Fr V16 W) => lM1 W (fr_step st16 h)
  replace lM2 := fun (W : World) (h : Fr V16 W) => lM2 W (fr_step st16 h)
  replace top := fr_step top st16
  have rV16 := fr_refl V16
  clear st16
  go_wp2_with fail
  refine (t4 V16 _ _ _ _ o6.out o10.out).mono ?_
  rintro e V17 ⟨rfl, st17⟩
  replace hk := keep (Own.below hk.out st17 (Nat.le_refl _))
  replace hp := keep (Own.below hp.out st17 (Nat.le_refl _))
  replace o3 := keep (Own.below o3.out st17 (Nat.le_refl _))
  replace o4 := keep (Own.below o4.out st17 (Nat.le_refl _))
  replace o5 := keep (Own.below o5.out st17 (Nat.le_refl _))
  replace o6 := keep (Own.below o6.out st17 (Nat.le_refl _))
  replace o7 := keep (Own.below o7.out st17 (Nat.le_refl _))
  replace o8 := keep (Own.below o8.out st17 (Nat.le_refl _))
  replace o9 := keep (Own.below o9.out st17 (Nat.le_refl _))
  replace o10 := keep (Own.below o10.out st17 (Nat.le_refl _))
  replace lX := fun (W : World) (h : Fr V17 W) => lX W (fr_step st17 h)
  replace lM1 := fun (W : World) (h : Fr V17 W) => lM1 W (fr_step st17 h)
  replace lM2 := fun (W : World) (h : Fr V17 W) => lM2 W (fr_step st17 h)
  replace top := fr_step top st17
  have rV17 := fr_refl V17
  clear st17
  clear o3 o4 o5 o6 o7 o8 o9 o10 cH cG s3 s4 t3 t4 lM1 lM2
  have dC : ∀ W, Fr V17 W → Calls Try.prog 40 #[.slice A (np + 1) c, .slice A2 np c2] W fun e w' => e = .returned (.bool true) ∧ Fr V17 w' := fun W h => (cC W _ _ _ _ (Own.below hk.out h (Nat.le_refl _)) (Own.below hp.out h (Nat.le_refl _))).mono fun e w' hh => ⟨hh.1, fr_step h hh.2⟩
  have dK : ∀ W, Fr V17 W → Calls Try.prog 41 #[.slice A2 np c2, kv x] W fun e w' => e = .returned (.int .i64 (kk : Int)) ∧ Fr V17 w' := fun W h => (cK W _ _ (Own.below hp.out h (Nat.le_refl _))).mono fun e w' hh => ⟨hh.1, fr_step h hh.2⟩
  have dL : ∀ W, Fr V17 W → Calls Try.prog 42 #[.slice A2 np c2, kv x] W fun e w' => e = .returned (.int .i64 (kk : Int)) ∧ Fr V17 w' := fun W h => (cL W _ _ (Own.below hp.out h (Nat.le_refl _))).mono fun e w' hh => ⟨hh.1, fr_step h hh.2⟩
  have dP : ∀ W, Fr V17 W → Calls Try.prog 43 #[.slice A (np + 1) c, .int .i64 id] W fun e w' => e = .returned (.int .i64 pq) ∧ Fr V17 w' := fun W h => (cP W _ _ (Own.below hk.out h (Nat.le_refl _))).mono fun e w' hh => ⟨hh.1, fr_step h hh.2⟩
  have dQ : ∀ W, Fr V17 W → Calls Try.prog 44 #[.slice A (np + 1) c, .int .i64 id] W fun e w' => e = .returned (.int .i64 pq) ∧ Fr V17 w' := fun W h => (cQ W _ _ (Own.below hk.out h (Nat.le_refl _))).mono fun e w' hh => ⟨hh.1, fr_step h hh.2⟩
  have dW : ∀ W, Fr V17 W → Calls Try.prog 45 #[] W fun e w' => e = .returned (.bool true) ∧ Fr V17 w' := fun W h => (cW W ).mono fun e w' hh => ⟨hh.1, fr_step h hh.2⟩
  have e1 : ((kk : Int) == (kk : Int)) = true := by simp
  have e2 : (pq == pq) = true := by simp
  have hXD := fr_drew rV17
  clear cC cK cL cP cQ cW
  go_wp2_with fail
  refine wp_region_noPanic ?_
  refine wp_region_held_drew (S := fun w' => Fr V17 w') (by kernel_rfl) hXD (fun hHeld => ?_)
  change wpAnyH _ _ _ _ _ _ _ _ _
  refine wpAnyH_take (i := 0) (v := ?_) rfl (by kernel_rfl) (by kernel_rfl) (by kernel_rfl) (fun _ _ _ h => h) (Or.inl ⟨by rfl, ?_⟩) (by assumption) ?_
  rotate_left
  · intro w' hSw
    try dsimp only at hSw
    go_simp
    try with_reducible rfl
  try simp only [List.getElem_toArray, List.getElem_cons_zero, Act.put, List.setIfInBounds_toArray, List.set_cons_zero, List.set_cons_succ]
  refine wpAnyH_take (i := 1) (v := ?_) rfl (by kernel_rfl) (by kernel_rfl) (by kernel_rfl) (fun _ _ _ h => h) (Or.inl ⟨by rfl, ?_⟩) (by assumption) ?_
  rotate_left
  · intro w' hSw
    try dsimp only at hSw
    go_simp
    try with_reducible rfl
  try simp only [List.getElem_toArray, List.getElem_cons_succ, List.getElem_cons_zero, Act.put, List.setIfInBounds_toArray, List.set_cons_zero, List.set_cons_succ]
  refine wpAnyH_ready (rs := [2]) (by kernel_rfl) (by simp) ?_
  refine AllReadyH.cons rfl (fun K hK0 => ?_) AllReadyH.nil
  go_simp
  refine (dC _ (by assumption)).mono ?_
  rintro e y2 ⟨rfl, zy2⟩
  go_simp
  refine hK0.out _ _ zy2 (fun _ => ?_)
  clear hK0 K
  try simp only [List.getElem_toArray, List.getElem_cons_succ, List.getElem_cons_zero, Act.put, List.setIfInBounds_toArray, List.set_cons_zero, List.set_cons_succ]
  refine wpAnyH_take (i := 3) (v := .bool true) rfl (by kernel_rfl) (by kernel_rfl) (by kernel_rfl) (fun _ _ _ h => h) (Or.inl ⟨by rfl, ?_⟩) (by assumption) ?_
  · intro w' hSw
    try dsimp only at hSw
    try go_simp
    all_goals first | done | with_reducible rfl | omega | assumption | (simp; omega)
  try simp only [List.getElem_toArray, List.getElem_cons_succ, List.getElem_cons_zero, Act.put, List.setIfInBounds_toArray, List.set_cons_zero, List.set_cons_succ]
  refine wpAnyH_take (i := 4) (v := ?_) rfl (by kernel_rfl) (by kernel_rfl) (by kernel_rfl) (fun _ _ _ h => h) (Or.inl ⟨by rfl, ?_⟩) (by assumption) ?_
  rotate_left
  · intro w' hSw
    try dsimp only at hSw
    go_simp
    try with_reducible rfl
  try simp only [List.getElem_toArray, List.getElem_cons_succ, List.getElem_cons_zero, Act.put, List.setIfInBounds_toArray, List.set_cons_zero, List.set_cons_succ]
  refine wpAnyH_take (i := 5) (v := ?_) rfl (by kernel_rfl) (by kernel_rfl) (by kernel_rfl) (fun _ _ _ h => h) (Or.inl ⟨by rfl, ?_⟩) (by assumption) ?_
  rotate_left
  · intro w' hSw
    try dsimp only at hSw
    go_simp
    try with_reducible rfl
  try simp only [List.getElem_toArray, List.getElem_cons_succ, List.getElem_cons_zero, Act.put, List.setIfInBounds_toArray, List.set_cons_zero, List.set_cons_succ]
  refine wpAnyH_take (i := 7) (v := ?_) rfl (by kernel_rfl) (by kernel_rfl) (by kernel_rfl) (fun _ _ _ h => h) (Or.inl ⟨by rfl, ?_⟩) (by assumption) ?_
  rotate_left
  · intro w' hSw
    try dsimp only at hSw
    go_simp
    try with_reducible rfl
  try simp only [List.getElem_toArray, List.getElem_cons_succ, List.getElem_cons_zero, Act.put, List.setIfInBounds_toArray, List.set_cons_zero, List.set_cons_succ]
  refine wpAnyH_take (i := 8) (v := ?_) rfl (by kernel_rfl) (by kernel_rfl) (by kernel_rfl) (fun _ _ _ h => h) (Or.inl ⟨by rfl, ?_⟩) (by assumption) ?_
  rotate_left
  · intro w' hSw
    try dsimp only at hSw
    go_simp
    try with_reducible rfl
  try simp only [List.getElem_toArray, List.getElem_cons_succ, List.getElem_cons_zero, Act.put, List.setIfInBounds_toArray, List.set_cons_zero, List.set_cons_succ]
  refine wpAnyH_ready (rs := [6]) (by kernel_rfl) (by simp) ?_
  refine AllReadyH.cons rfl (fun K hK0 => ?_) AllReadyH.nil
  go_simp
  refine (dK _ (by assumption)).mono ?_
  rintro e y6 ⟨rfl, zy6⟩
  go_simp
  refine hK0.out _ _ zy6 (fun _ => ?_)
  clear hK0 K
  try simp only [List.getElem_toArray, List.getElem_cons_succ, List.getElem_cons_zero, Act.put, List.setIfInBounds_toArray, List.set_cons_zero, List.set_cons_succ]
  refine wpAnyH_ready (rs := [9]) (by kernel_rfl) (by simp) ?_
  refine AllReadyH.cons rfl (fun K hK0 => ?_) AllReadyH.nil
  go_simp
  refine (dL _ (by assumption)).mono ?_
  rintro e y9 ⟨rfl, zy9⟩
  go_simp
  refine hK0.out _ _ zy9 (fun _ => ?_)
  clear hK0 K
  try simp only [List.getElem_toArray, List.getElem_cons_succ, List.getElem_cons_zero, Act.put, List.setIfInBounds_toArray, List.set_cons_zero, List.set_cons_succ]
  refine wpAnyH_take (i := 10) (v := .bool true) rfl (by kernel_rfl) (by kernel_rfl) (by kernel_rfl) (fun _ _ _ h => h) (Or.inl ⟨by rfl, ?_⟩) (by assumption) ?_
  · intro w' hSw
    try dsimp only at hSw
    try go_simp
    all_goals first | done | with_reducible rfl | omega | assumption | (simp; omega)
  try simp only [List.getElem_toArray, List.getElem_cons_succ, List.getElem_cons_zero, Act.put, List.setIfInBounds_toArray, List.set_cons_zero, List.set_cons_succ]
  refine wpAnyH_take (i := 11) (v := .bool true) rfl (by kernel_rfl) (by kernel_rfl) (by kernel_rfl) (fun _ _ _ h => h) (Or.inl ⟨by rfl, ?_⟩) (by assumption) ?_
  · intro w' hSw
    try dsimp only at hSw
    try go_simp
    all_goals first | done | with_reducible rfl | omega | assumption | (simp; omega)
  try simp only [List.getElem_toArray, List.getElem_cons_succ, List.getElem_cons_zero, Act.put, List.setIfInBounds_toArray, List.set_cons_zero, List.set_cons_succ]
  refine wpAnyH_take (i := 12) (v := .bool true) rfl (by kernel_rfl) (by kernel_rfl) (by kernel_rfl) (fun _ _ _ h => h) (Or.inl ⟨by rfl, ?_⟩) (by assumption) ?_
  · intro w' hSw
    try dsimp only at hSw
    try go_simp
    all_goals first | done | with_reducible rfl | omega | assumption | (simp; omega)
  try simp only [List.getElem_toArray, List.getElem_cons_succ, List.getElem_cons_zero, Act.put, List.setIfInBounds_toArray, List.set_cons_zero, List.set_cons_succ]
  refine wpAnyH_take (i := 13) (v := ?_) rfl (by kernel_rfl) (by kernel_rfl) (by kernel_rfl) (fun _ _ _ h => h) (Or.inl ⟨by rfl, ?_⟩) (by assumption) ?_
  rotate_left
  · intro w' hSw
    try dsimp only at hSw
    go_simp
    try with_reducible rfl
  try simp only [List.getElem_toArray, List.getElem_cons_succ, List.getElem_cons_zero, Act.put, List.setIfInBounds_toArray, List.set_cons_zero, List.set_cons_succ]
  refine wpAnyH_take (i := 14) (v := ?_) rfl (by kernel_rfl) (by kernel_rfl) (by kernel_rfl) (fun _ _ _ h => h) (Or.inl ⟨by rfl, ?_⟩) (by assumption) ?_
  rotate_left
  · intro w' hSw
    try dsimp only at hSw
    go_simp
    try with_reducible rfl
  try simp only [List.getElem_toArray, List.getElem_cons_succ, List.getElem_cons_zero, Act.put, List.setIfInBounds_toArray, List.set_cons_zero, List.set_cons_succ]
  refine wpAnyH_take (i := 16) (v := ?_) rfl (by kernel_rfl) (by kernel_rfl) (by kernel_rfl) (fun _ _ _ h => h) (Or.inl ⟨by rfl, ?_⟩) (by assumption) ?_
  rotate_left
  · intro w' hSw
    try dsimp only at hSw
    go_simp
    try with_reducible rfl
  try simp only [List.getElem_toArray, List.getElem_cons_succ, List.getElem_cons_zero, Act.put, List.setIfInBounds_toArray, List.set_cons_zero, List.set_cons_succ]
  refine wpAnyH_take (i := 17) (v := ?_) rfl (by kernel_rfl) (by kernel_rfl) (by kernel_rfl) (fun _ _ _ h => h) (Or.inl ⟨by rfl, ?_⟩) (by assumption) ?_
  rotate_left
  · intro w' hSw
    try dsimp only at hSw
    go_simp
    try with_reducible rfl
  try simp only [List.getElem_toArray, List.getElem_cons_succ, List.getElem_cons_zero, Act.put, List.setIfInBounds_toArray, List.set_cons_zero, List.set_cons_succ]
  refine wpAnyH_ready (rs := [15]) (by kernel_rfl) (by simp) ?_
  refine AllReadyH.cons rfl (fun K hK0 => ?_) AllReadyH.nil
  go_simp
  refine (dP _ (by assumption)).mono ?_
  rintro e y15 ⟨rfl, zy15⟩
  go_simp
  refine hK0.out _ _ zy15 (fun _ => ?_)
  clear hK0 K
  try simp only [List.getElem_toArray, List.getElem_cons_succ, List.getElem_cons_zero, Act.put, List.setIfInBounds_toArray, List.set_cons_zero, List.set_cons_succ]
  refine wpAnyH_ready (rs := [18]) (by kernel_rfl) (by simp) ?_
  refine AllReadyH.cons rfl (fun K hK0 => ?_) AllReadyH.nil
  go_simp
  refine (dQ _ (by assumption)).mono ?_
  rintro e y18 ⟨rfl, zy18⟩
  go_simp
  refine hK0.out _ _ zy18 (fun _ => ?_)
  clear hK0 K
  try simp only [List.getElem_toArray, List.getElem_cons_succ, List.getElem_cons_zero, Act.put, List.setIfInBounds_toArray, List.set_cons_zero, List.set_cons_succ]
  refine wpAnyH_take (i := 19) (v := .bool true) rfl (by kernel_rfl) (by kernel_rfl) (by kernel_rfl) (fun _ _ _ h => h) (Or.inl ⟨by rfl, ?_⟩) (by assumption) ?_
  · intro w' hSw
    try dsimp only at hSw
    try go_simp
    all_goals first | done | with_reducible rfl | omega | assumption | (simp; omega)
  try simp only [List.getElem_toArray, List.getElem_cons_succ, List.getElem_cons_zero, Act.put, List.setIfInBounds_toArray, List.set_cons_zero, List.set_cons_succ]
  refine wpAnyH_take (i := 20) (v := .bool true) rfl (by kernel_rfl) (by kernel_rfl) (by kernel_rfl) (fun _ _ _ h => h) (Or.inl ⟨by rfl, ?_⟩) (by assumption) ?_
  · intro w' hSw
    try dsimp only at hSw
    try go_simp
    all_goals first | done | with_reducible rfl | omega | assumption | (simp; omega)
  try simp only [List.getElem_toArray, List.getElem_cons_succ, List.getElem_cons_zero, Act.put, List.setIfInBounds_toArray, List.set_cons_zero, List.set_cons_succ]
  refine wpAnyH_take (i := 21) (v := .bool true) rfl (by kernel_rfl) (by kernel_rfl) (by kernel_rfl) (fun _ _ _ h => h) (Or.inl ⟨by rfl, ?_⟩) (by assumption) ?_
  · intro w' hSw
    try dsimp only at hSw
    try go_simp
    all_goals first | done | with_reducible rfl | omega | assumption | (simp; omega)
  try simp only [List.getElem_toArray, List.getElem_cons_succ, List.getElem_cons_zero, Act.put, List.setIfInBounds_toArray, List.set_cons_zero, List.set_cons_succ]
  refine wpAnyH_ready (rs := [22]) (by kernel_rfl) (by simp) ?_
  refine AllReadyH.cons rfl (fun K hK0 => ?_) AllReadyH.nil
  go_simp
  refine (dW _ (by assumption)).mono ?_
  rintro e y22 ⟨rfl, zy22⟩
  go_simp
  refine hK0.out _ _ zy22 (fun _ => ?_)
  clear hK0 K
  try simp only [List.getElem_toArray, List.getElem_cons_succ, List.getElem_cons_zero, Act.put, List.setIfInBounds_toArray, List.set_cons_zero, List.set_cons_succ]
  refine wpAnyH_take (i := 23) (v := .bool true) rfl (by kernel_rfl) (by kernel_rfl) (by kernel_rfl) (fun _ _ _ h => h) (Or.inl ⟨by rfl, ?_⟩) (by assumption) ?_
  · intro w' hSw
    try dsimp only at hSw
    try go_simp
    all_goals first | done | with_reducible rfl | omega | assumption | (simp; omega)
  try simp only [List.getElem_toArray, List.getElem_cons_succ, List.getElem_cons_zero, Act.put, List.setIfInBounds_toArray, List.set_cons_zero, List.set_cons_succ]
  refine wpAnyH_take (i := 24) (v := ?_) rfl (by kernel_rfl) (by kernel_rfl) (by kernel_rfl) (fun _ _ _ h => h) (Or.inl ⟨by rfl, ?_⟩) (by assumption) ?_
  rotate_left
  · intro w' hSw
    try dsimp only at hSw
    go_simp
    try with_reducible rfl
  try simp only [List.getElem_toArray, List.getElem_cons_succ, List.getElem_cons_zero, Act.put, List.setIfInBounds_toArray, List.set_cons_zero, List.set_cons_succ]
  refine wpAnyH_done (by kernel_rfl) ?_ _
  refine NoPanic.normal ?_
  go_wp2_with fail
  go_ret
  exact ⟨rfl, fr_step top (by assumption)⟩
end Go.Proofs.Ytnfoebcfhldemaa
