/- Package sched: longest, delay, Pick. -/
import Derived.Test.YtmfnekobepdhkaaScB
namespace Go.Proofs.Ytmfnekobepdhkaa
set_option linter.unusedVariables false
set_option linter.unusedSimpArgs false
set_option maxRecDepth 100000
open Go.RowKit
theorem arr8_ty : Sty Try.prog 53 8 := ⟨by kernel_rfl, ⟨_, Try.underlying53, rfl⟩⟩
theorem arr8_ld (p : Value) : Instr.loadAt 53 p = ldS 53 p := rfl
theorem index8 (w : World) {l : List Int} {j : Nat} {x : Int} (hx : l[j]? = some x) (hj : j < 8) : (Instr.index 53 (.agg (ints l).toArray) (.int .i64 (j : Int))).run Try.prog w = .ok (.int .i64 x) w := by
  have hu : Try.prog.underlying 53 = some (.array 8 3) := Try.underlying53
  have hi := Try.underlying3
  have hjj : (0 : Int) ≤ j ∧ (j : Int) < 8 := by omega
  have e2 : Try.prog.cellsOf 3 = 1 := by kernel_rfl
  have hz : (sizeOf 3).run Try.prog w = .ok 1 w := by
    cases hi : Try.prog.info? 3 with
    | none => exact absurd hi (by decide +kernel)
    | some i => simp [sizeOf, typeInfo, hi, Program.cellsOf] at e2 ⊢; exact e2
  simp [Instr.index, run_underlying hu, asIntOf, hjj, hz, part, isAgg, run_underlying hi, ints_get hx]
  exact fun h => absurd h (by omega)
theorem tl_was {t : Tab} (h : ShT t) : ((ints (tl t)).drop 9).take 8 = ints (pad t.wa) := by
  apply List.ext_getElem?
  intro j
  obtain ⟨h1, h2, h3⟩ := h.l8
  rw [List.getElem?_take]
  split
  · rename_i hj
    have hx : (pad t.wa)[j]? = some ((pad t.wa)[j]'(by omega)) := List.getElem?_eq_getElem _
    rw [List.getElem?_drop, ints_get hx, ints_get (tl_wa h hj hx)]
  · rw [List.getElem?_eq_none (by rw [ints_len]; omega)]
attribute [local go_sem ↓] arr8_ld
set_option maxHeartbeats 2000000 in
theorem longest_at {w : World} {g : Nat} {t : Tab} (h : Arr w g 55 (ints (tl t)).toArray) (hs : ShT t) :
    Calls Try.prog 34 #[.pointer (some ⟨g, 0, none⟩)] w fun e w' => e = .returned (.int .i64 (gmx 0 (pad t.wa))) ∧ w = w' := by
  have hl := arr8_ty.ldMid (by rw [ints_len, hs.l8.2.1]) (range_of_arr (o := 9) (ds := ints (pad t.wa)) h (by rw [ints_len, hs.l8.2.1]; exact tl_was hs))
  have h8 := hs.l8.2.1
  generalize pad t.wa = W at *
  have ix := fun (j : Nat) (x : Int) hx hj => @index8 w W j x hx hj
  generalize (ints W).toArray = C at *
  have H8 := keep h8
  clear h hs h8
  go_enter Try.func34, Try.ntmps34
  go_wp2_with fail
  go_loopg [3, 10] 8 (fun g' s3 s10 wr => ∃ (j : Nat), j + g' = 8 ∧ s10 = .int .i64 j ∧ s3 = .int .i64 (gmx 0 (W.take j)) ∧ Hid (wr = w))
  case atStart => exact ⟨0, by omega, rfl, rfl, keep rfl⟩
  case round =>
    obtain ⟨j, hj, rfl, rfl, hW⟩ := hrel
    obtain rfl : w = wr := hW.out.symm
    by_cases hlt : j < 8
    · have hjz : (j : Int) < 8 := by omega
      have hx : W[j]? = some (W[j]'(by rw [H8.out]; exact hlt)) := List.getElem?_eq_getElem _
      have e : gmx 0 (W.take (j + 1)) = max (gmx 0 (W.take j)) (W[j]'(by rw [H8.out]; exact hlt)) := by rw [List.take_add_one, hx]; exact gmx_snoc _ _ _
      generalize W[j]'(by rw [H8.out]; exact hlt) = x at hx e
      have i1 := ix j x hx hlt
      generalize gmx 0 (W.take j) = m at *
      have HE := keep e
      clear e hx ix
      go_wp2_with fail
      all_goals
        go_roundg (gk - 1)
        case measure => omega
        case rel => exact ⟨j + 1, by omega, rfl, by rw [HE.out]; congr 1; omega, keep rfl⟩
    · have hj8 : j = 8 := by omega
      subst hj8
      have e : W.take 8 = W := List.take_of_length_le (by rw [H8.out]; exact Nat.le_refl _)
      rw [e]
      clear hlt e ix
      go_wp2_with fail
      go_ret
      exact ⟨rfl, rfl⟩
theorem sh_wa {t : Tab} (h : ShT t) {W : List Int} (hW : W.length = t.wa.length) : ShT { t with wa := W } := ⟨h.n, by rw [← h.wl]; exact hW, h.pl⟩
theorem take_next {l : List Nat} {j i : Nat} (h : l[j]? = some i) : l.take (j + 1) = l.take j ++ [i] := by rw [List.take_add_one, h]; rfl
theorem take_fresh {l : List Nat} (hd : l.Nodup) {j i : Nat} (h : l[j]? = some i) : i ∉ l.take j := by
  have h2 := hd.sublist (List.take_sublist (j + 1) l)
  rw [take_next h, List.nodup_append] at h2
  intro hm
  exact h2.2.2 i hm i (by simp) rfl
theorem gmx_pad {mo : Int} {W : List Int} (hm : 0 ≤ mo) : max mo (gmx 0 (pad W)) = gmx mo W := by
  have h1 := gmx_gm 0 (pad W)
  have h2 := gmx_gm mo W
  generalize gmx 0 (pad W) = m at h1
  generalize gmx mo W = m' at h2
  have a1 : m ≤ max mo m' := by
    rcases h1.one with e | ⟨j, hj, e⟩
    · omega
    · rw [pad, List.getElem?_append] at e
      split at e
      · rename_i hl
        have := h2.all j (by simpa using hl) m e
        omega
      · have := List.mem_of_getElem? e
        have := List.eq_of_mem_replicate this
        omega
  have a2 : m' ≤ max mo m := by
    rcases h2.one with e | ⟨j, hj, e⟩
    · omega
    · have := h1.all j (by simp [pad]; simp at hj; omega) m' (pad_get e)
      omega
  have := h2.le
  omega
theorem arr_int_put {w : World} {g T j : Nat} {l l' : List Int} {v z : Int} (h : Arr w g T (ints l).toArray) (hv : v = z) (hl : l.set j z = l') : Arr (w.setCell ⟨g, j, none⟩ (.int .i64 v)) g T (ints l').toArray := by
  rw [hv, ← hl]; exact arr_int_set h z
set_option maxHeartbeats 4000000 in
theorem delay_at {w : World} {g K m c p : Nat} {t : Tab} {A : Option Addr} (h : PT w g t K) (hK : K < 4611686018427387904) (hl : HasP w (fun b => b ≠ g) A (ints (runL t))) (hm : (runL t).length = m) (hp : p ∈ runN t) :
    Calls Try.prog 32 #[.pointer (some ⟨g, 0, none⟩), .slice A m c, .int .i64 (p : Int)] w fun e w' => e = .returned (.tuple #[]) ∧ Hid (Arr w' g 55 (ints (tl { t with wa := dnW t.wa (runN t) p, mo := gmx t.mo (dnW t.wa (runN t) p) })).toArray ∧ Chg (· = g) w w') := by
  have H := keep h
  have HL := keep hl
  have HM := keep hm
  have HP := keep hp
  have hp8 : p < 8 := by have := runN_lt hp; have := h.ok.n; omega
  have hm8 : m ≤ 8 := by have := runJ_len t.st t.st.length; have := h.ok.n; rw [← hm, runL, natI_len, runN]; omega
  clear h hl hm hp
  go_enter Try.func32, Try.ntmps32
  go_wp2_with fail
  go_loopg [10] m (fun g' s10 wr => ∃ (j : Nat), j + g' = m ∧ s10 = .int .i64 j ∧ Hid (Arr wr g 55 (ints (tl { t with wa := upW t.wa ((runN t).take j) })).toArray ∧ Chg (· = g) w wr))
  case atStart => exact ⟨0, by omega, rfl, keep ⟨by rw [List.take_zero, upW_nil]; exact H.out.box, .refl _ _⟩⟩
  case round =>
    obtain ⟨j, hj, rfl, hW⟩ := hrel
    by_cases hlt : j < m
    · have hjz : (j : Int) < (m : Int) := by omega
      have hi : (runN t)[j]? = some ((runN t)[j]'(by rw [← natI_len]; rw [HM.out.symm] at hlt; exact hlt)) := List.getElem?_eq_getElem _
      generalize (runN t)[j]'(by rw [← natI_len]; rw [HM.out.symm] at hlt; exact hlt) = i at hi
      have hit := runN_lt (List.mem_of_getElem? hi)
      have hin := take_fresh (runN_nodup t) hi
      have hS := H.out.ok.toShT
      have hi8 : i < 8 := by have := hS.n; omega
      have hx : t.wa[i]? = some (t.wa[i]'(by rw [hS.wl]; exact hit)) := List.getElem?_eq_getElem _
      generalize t.wa[i]'(by rw [hS.wl]; exact hit) = x at hx
      have hxb := H.out.ok.wa x (List.mem_of_getElem? hx)
      have hmo := H.out.ok.mo
      have hx2 := upW_get (s := (runN t).take j) hx
      rw [if_neg hin] at hx2
      have hS2 := sh_wa hS (upW_len t.wa ((runN t).take j))
      have c1 := arr_int_cell hW.out.1 (tl_wa hS2 hi8 (pad_get hx2))
      have f1 := hW.out.1.free (9 + i)
      obtain ⟨b, off, rfl, hb, hr⟩ := HL.out j _ (ints_get (natI_get hi))
      have c2 : wr.cell? ⟨b, off + j, none⟩ = some (.int .i64 (i : Int)) := (hW.out.2.cell (World.block_lt_of_cell? _ _ hr) hb).trans hr
      have e1 := keep (tl_set_wa hS2 hit (x + 1))
      have e2 := keep (upW_step hin hx)
      have e3 := keep (take_next hi)
      clear hr hi hin hx hx2 hS2 hS hit
      go_wp2_with fail
      go_region
      all_goals
        go_wp2_with fail
        go_roundg (gk - 1)
        case measure => omega
        case rel => exact ⟨j + 1, by omega, rfl, keep ⟨by
          have := arr_int_set (w := wr.drew) (j := 9 + i) hW.out.1 (x + 1)
          rw [e1.out] at this
          simp only [e2.out] at this
          rw [e3.out]
          exact this, (hW.out.2.drew).set (.inr rfl) _⟩⟩
    · have hjm : j = m := by omega
      have hjz : ¬ (j : Int) < (m : Int) := by omega
      have hS := H.out.ok.toShT
      have ht : (runN t).take j = runN t := List.take_of_length_le (by have := HM.out; rw [runL, natI_len] at this; omega)
      rw [ht] at hW
      have hS2 := sh_wa hS (upW_len t.wa (runN t))
      have hpt := runN_lt HP.out
      have e1 : Hid ((tl { t with wa := upW t.wa (runN t) }).set (9 + p) 0 = tl { t with wa := dnW t.wa (runN t) p }) := keep (by rw [tl_set_wa hS2 hpt 0, upW_picked HP.out])
      have hS3 := sh_wa hS (dnW_len t.wa (runN t) p)
      have e4 : Hid ((tl { t with wa := dnW t.wa (runN t) p }).set 25 (gmx t.mo (dnW t.wa (runN t) p)) = tl { t with wa := dnW t.wa (runN t) p, mo := gmx t.mo (dnW t.wa (runN t) p) }) := keep (by rw [tl_set_mo hS3])
      have hmx := keep (gmx_pad (mo := t.mo) (W := dnW t.wa (runN t) p) H.out.ok.mo.1)
      have h26 : (ints (tl { t with wa := upW t.wa (runN t) })).length = 26 := by rw [ints_len, tl_len hS2]
      have p1 := keep (ints_patch (l := tl { t with wa := upW t.wa (runN t) }) (k := 9 + p) (by rw [tl_len hS2]; omega) 0)
      rw [e1.out] at p1
      clear hjm hlt ht hS hS2 hpt e1
      go_wp2_with (first
        | (refine wpList_store_chg (ds := [.int .i64 0]) int_info rfl (.tmp 29) (.const (.int .i64 0)) rfl g (9 + p) rfl rfl rfl (one_of _ rfl) hW.out.1 (by omega) p1.out ?_; intro W hA hK2)
        | fail)
      have c1 := arr_int_cell hA (tl_mo hS3)
      have f1 := hA.free 25
      have cl := longest_at (w := W.drew) hA hS3
      have hK3 := keep (hW.out.2.trans hK2)
      clear hW hK2
      go_region_with (go_at_call 34; (with_reducible refine cl.mono ?_); rintro e w2 ⟨rfl, rfl⟩)
      all_goals go_wp2_with fail
      all_goals
        go_returns
        exact ⟨rfl, keep ⟨arr_int_put (w := W.drew) hA (by have := hmx.out; omega) e4.out, hK3.out.drew.set (.inr rfl) _⟩⟩
theorem pick_at_run {t : Tab} {p : Int} {i : Nat} (h : (runN t)[pickA t p]? = some i) : i ∈ runN t := List.mem_of_getElem? h
/-- One pick more of i. -/
def morePk (t : Tab) (i : Nat) : Tab := { t with pk := moreL t.pk i }
theorem morePk_ok {t : Tab} {K : Nat} (h : OkT t K) (i : Nat) : OkT (morePk t i) (K + 1) :=
  { h.mono (Nat.le_succ K) with
    pl := by simp [morePk, moreL_len, h.pl]
    pk := moreL_le h.pk i }
theorem tmod_emod_lo {p : Int} {n k : Nat} (hk : 0 < k ∧ k < n) (h : p.tmod n = -(k : Int)) : p % (n : Int) = n - k := by
  have h1 := Int.mul_tdiv_add_tmod p n
  rw [h] at h1
  have h2 : p = (n - k : Int) + (n : Int) * (p.tdiv n - 1) := by rw [Int.mul_sub]; omega
  rw [h2, Int.add_mul_emod_self_left, Int.emod_eq_of_lt (by omega) (by omega)]
theorem tmod_emod_hi {p : Int} {n k : Nat} (hk : k < n) (h : p.tmod n = (k : Int)) : p % (n : Int) = k := by
  have h1 := Int.mul_tdiv_add_tmod p n
  rw [h] at h1
  have h2 : p = (k : Int) + (n : Int) * (p.tdiv n) := by omega
  rw [h2, Int.add_mul_emod_self_left, Int.emod_eq_of_lt (by omega) (by omega)]
set_option maxHeartbeats 4000000 in
theorem pick_at {w : World} {g K : Nat} {t : Tab} {p : Int} (h : PT w g t K) (hK : K < 4611686018427387000) (hp : -9223372036854775808 ≤ p ∧ p ≤ 9223372036854775807) :
    Calls Try.prog 18 #[.pointer (some ⟨g, 0, none⟩), .int .i64 p] w fun e w' => e = .returned (.tuple #[.int .i64 (pickI t p), .bool (pickB t)]) ∧ Hid (PT w' g (pickT t p) (K + 1) ∧ Chg (· = g) w w') := by
  have H := keep h
  have hm : (runL t).length = (runN t).length := natI_len _
  have hm8 : (runN t).length ≤ 8 := by have := runJ_len t.st t.st.length; have := h.ok.n; rw [runN]; omega
  obtain ⟨n, hnl⟩ : ∃ n, (runN t).length = n := ⟨_, rfl⟩
  have cr : Calls Try.prog 21 #[.pointer (some ⟨g, 0, none⟩)] w fun e w' => ∃ A c, e = .returned (.slice A n c) ∧ Hid (Own w' w.heap.size 3 1 A n c (ints (runL t)) ∧ Fr w w') := (runnable_at h).mono fun e w' ⟨A, n', c, he, hh⟩ => ⟨A, c, by rw [he, ← hnl, ← hm, hh.out.1], keep (by
    have := hh.out
    rw [hm, hnl] at this
    obtain ⟨rfl, h2⟩ := this
    exact h2)⟩
  rw [hnl] at hm8
  by_cases h0 : n = 0
  · subst h0
    obtain ⟨q1, q2, q3⟩ := pickB_no hnl p
    rw [q1, q2, q3]
    clear h hm hm8 hnl q1 q2 q3
    go_enter Try.func18, Try.ntmps18
    go_wp2_with fail
    refine cr.mono ?_
    rintro e w1 ⟨A, c, rfl, hr⟩
    go_wp2_with fail
    go_ret2
    exact ⟨rfl, keep ⟨(H.out.fr hr.out.2).mono (Nat.le_succ K), .of_fr _ hr.out.2⟩⟩
  · have hpos : 0 < n := by omega
    have hlt : pickA t p < n := by have := pickA_lt (t := t) p (by omega); omega
    have hA : pickA t p = (p % (n : Int)).toNat := by rw [pickA, hnl]
    obtain ⟨k, hk⟩ : ∃ k, pickA t p = k := ⟨_, rfl⟩
    rw [hk] at hlt hA
    have hi : (runN t)[k]? = some ((runN t)[k]'(by omega)) := List.getElem?_eq_getElem _
    generalize (runN t)[k]'(by omega) = i at hi
    obtain ⟨q1, q2, q3⟩ := pickB_yes (t := t) (p := p) (i := i) (by rw [hk]; exact hi)
    rw [q1, q2, q3]
    have hit := runN_lt (List.mem_of_getElem? hi)
    have hi8 : i < 8 := by have := h.ok.n; omega
    have hx : t.pk[i]? = some (t.pk[i]'(by rw [h.ok.pl]; exact hit)) := List.getElem?_eq_getElem _
    generalize t.pk[i]'(by rw [h.ok.pl]; exact hit) = x at hx
    have hxb := h.ok.pk x (List.mem_of_getElem? hx)
    have hpc : Hid ((tl t)[17 + i]? = some x) := keep (tl_pk h.ok.toShT hx)
    have e1 : Hid ((tl t).set (17 + i) (x + 1) = tl (morePk t i)) := keep (by
      rw [tl_set_pk h.ok.toShT hit, morePk, moreL, hx]; rfl)
    have Hi := keep hi
    have hlenm : (runL (morePk t i)).length = n := by rw [runL, natI_len]; exact hnl
    clear h hm hnl hi hx hit q1 q2 q3
    have key : ∀ v : Int, p.tmod n = v → Hid ((v < 0 → v + n = (k : Int)) ∧ (0 ≤ v → v = (k : Int)) ∧ -(n : Int) < v ∧ v < n) := fun v ev => keep (by
      rcases tmod_cases p n (by omega) with ⟨u, eu, hu1, hu2⟩ | ⟨u, eu, hu2⟩
      · rw [tmod_emod_lo ⟨hu1, hu2⟩ eu] at hA; omega
      · rw [tmod_emod_hi hu2 eu] at hA; omega)
    clear hA hk
    obtain ⟨v, hv⟩ : ∃ v, p.tmod n = v := ⟨_, rfl⟩
    obtain ⟨k1, k2, k3, k4⟩ := (key v hv).out
    clear key
    have hn0 : ((n : Int) == 0) = false := by simp; omega
    go_enter Try.func18, Try.ntmps18
    go_wp2_with fail
    refine cr.mono ?_
    rintro e w1 ⟨A, c, rfl, hr⟩
    obtain ⟨b, off, rfl, hb, hrr⟩ := hr.out.1.has k _ (ints_get (natI_get Hi.out))
    have hP := H.out.fr hr.out.2
    have c1 := hP.cell hpc.out
    have f1 := hP.box.free (17 + i)
    have HP := keep hP
    clear hP
    have HA := keep hr.out.1.has
    go_upto_if 19 with fail
    go_cut [7] from 18 to 23 (fun s7 W => s7 = .int .i64 (k : Int) ∧ W = w1)
    case first =>
      by_cases hneg : v < 0
      · have hk2 := k1 hneg
        clear k1 k2
        go_wp2_with fail
        go_meet
        exact ⟨rfl, rfl⟩
      · obtain rfl : v = (k : Int) := k2 (by omega)
        clear k1 k2
        go_wp2_with fail
        go_meet
        exact ⟨rfl, rfl⟩
    case rest =>
      obtain ⟨rfl, rfl⟩ := hcut
      clear k1 k2 k3 k4 hv
      have hkz : (k : Int) < (n : Int) := by omega
      go_wp2_with fail
      go_region
      all_goals
        have hV : Hid (∀ V, V = (wc.setCell ⟨g, 17 + i, none⟩ (.int .i64 (x + 1))).drew → PT V g (morePk t i) (K + 1) ∧ Chg (· = g) w V ∧ HasP V (fun b => b ≠ g) (some ⟨b, off, none⟩) (ints (runL (morePk t i)))) := keep (by
          rintro V rfl
          have hh := hr.out
          have k1 : Chg (· = g) wc (wc.setCell ⟨g, 17 + i, none⟩ (.int .i64 (x + 1))).drew := ((Chg.refl (fun b => b = g) wc).set (.inr rfl) _).drew
          refine ⟨⟨?_, morePk_ok H.out.ok i⟩, (Chg.of_fr _ hh.2).trans k1, ?_⟩
          · have := arr_int_set (j := 17 + i) HP.out.box (x + 1)
            rw [e1.out] at this
            exact this
          · have gl := H.out.box.lt
            exact (hh.1.hasP (ok := fun b => b ≠ g) (fun b hb => by omega)).chg k1 (fun _ h => h))
        generalize (wc.setCell ⟨g, 17 + i, none⟩ (.int .i64 (x + 1))).drew = V at *
        have hV := keep (hV.out V rfl)
        have cd := delay_at (K := K + 1) (c := c) hV.out.1 (by omega) hV.out.2.2 hlenm (show i ∈ runN t from List.mem_of_getElem? Hi.out)
        go_wp2_with fail
        refine cd.mono ?_
        rintro e w3 ⟨rfl, hd⟩
        go_wp2_with fail
        go_ret2
        exact ⟨rfl, keep ⟨⟨hd.out.1, pickW_ok H.out.ok i⟩, hV.out.2.1.trans hd.out.2⟩⟩
end Go.Proofs.Ytmfnekobepdhkaa
