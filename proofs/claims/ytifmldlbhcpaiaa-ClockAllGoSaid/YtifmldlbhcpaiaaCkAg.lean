/- ClockAllGo, walked. -/
import Derived.Test.YtifmldlbhcpaiaaCkGo
namespace Go.Proofs.Ytifmldlbhcpaiaa
set_option linter.unusedVariables false
set_option linter.unusedSimpArgs false
set_option maxRecDepth 100000
open Go.RowKit
theorem oi_get {o : List Nat} {i k : Nat} (h : o[i]? = some k) : (oi o)[i]? = some (k : Int) := by
  unfold oi
  rw [List.getElem?_map, h]
  rfl
theorem bare_none {c r : List Bool} {n k : Nat} {z : Int} {o : List Nat} (hc : c.length = n) (hr : r.length = n) (hn : 0 < n) (ho : ordL c r z = k :: o) (hk : gd r k = true) : bareN c r n = 0 := bareN_zero fun i _ hi => ord_first hc hr hn ho hk i hi
theorem take_mem {o : List Nat} {i k : Nat} (h : o[i]? = some k) (hn : o.Nodup) : k ∉ o.take i := fun hm => by
  obtain ⟨hi, e⟩ := List.getElem?_eq_some_iff.1 h
  have e2 : o = o.take i ++ k :: o.drop (i + 1) := by rw [← e]; simp
  rw [e2] at hn
  have := (List.nodup_append.1 hn).2.2 k hm k (by simp)
  exact this rfl
theorem cnt_true (l : List Bool) (n : Nat) (h : l.length = n) : cnt (l.take n) = cnt l := by rw [List.take_of_length_le (by omega)]
set_option maxHeartbeats 32000000 in
theorem allgo_core {w : World} {A R : Option Addr} {n cc m rc : Nat} {c r0 : List Bool} {z : Int} (hc : Has w w.heap.size A (bls c)) (hcn : c.length = n) (hr : Has w w.heap.size R (bls r0)) (hrn : r0.length = m) :
    Calls Try.prog 5 #[.slice A n cc, .slice R m rc, .int .i64 z] w fun e w' => e = .returned (.bool true) ∧ Below w.heap.size w w' := by
  rw [← bls_rows] at hc hr
  by_cases h1 : n = 0 ∨ 64 < n
  · have f1 := fr_refl w
    clear hc hr
    rcases h1 with h1 | h1
    · subst h1
      go_enter Try.func5, Try.ntmps5
      go_wp2_with (first | (go_at_call 8; with_reducible refine (awake_at (w := w)).mono ?_; rintro e w1 ⟨rfl, hf⟩) | fail)
      go_ret
      exact ⟨rfl, hf⟩
    · have h1z : 64 < (n : Int) := by omega
      have h2z : ((n : Int) == 0) = false := by simp; omega
      go_enter Try.func5, Try.ntmps5
      go_wp2_with (first | (go_at_call 8; with_reducible refine (awake_at (w := w)).mono ?_; rintro e w1 ⟨rfl, hf⟩) | fail)
      go_ret
      exact ⟨rfl, hf⟩
  have h1z : ¬ 64 < (n : Int) := by omega
  have h2z : ((n : Int) == 0) = false := by simp; omega
  have hn : 0 < n := by omega
  have hs : n ≤ 100000 := by omega
  have hlp := padL_len r0 n
  have c0 := pad_at (w := w) (c := rc) hr hrn hs
  obtain ⟨g1, g2, g3⟩ := ord_went (z := z) hcn hlp hn
  have gf := fun k o => bare_none (z := z) (k := k) (o := o) hcn hlp hn
  have c1 := fun W L lc (hW : Fr w W) (hL : ResB w W L n lc (padL r0 n)) => order_at (w := W) (C := A) (R := L) (cc := cc) (rc := lc) (z := z) (hc.fr (Nat.le_refl _) hW |> has_all) hcn hL.has hL.len hs
  have cb := fun W d L lc (hW : Fr w W) (hL : ResB w W L n lc (padL r0 n)) => bares_at (w := W) (C := A) (R := L) (cc := d) (rc := lc) (hc.fr (Nat.le_refl _) hW |> has_all) hcn hL.has hL.len (Nat.le_refl _) hs
  obtain ⟨r, hr9⟩ : ∃ r, r = padL r0 n := ⟨_, rfl⟩
  obtain ⟨o, ho9⟩ : ∃ o, o = ordL c r z := ⟨_, rfl⟩
  rw [← hr9] at c0 c1 cb hlp g1 g2 g3 gf
  rw [← ho9] at g1 g2 g3
  simp only [← ho9] at gf c1
  have hob : o.length ≤ n := by rw [g3, ← hcn]; exact cnt_le c
  have HC := keep hc
  have Hcn := keep hcn
  have Hlp := keep hlp
  have C0 := keep c0
  have C1 := keep c1
  have CB := keep cb
  have G1 := keep g1
  have G2 := keep g2
  have G3 := keep g3
  have GF := keep gf
  clear hr hrn hc hcn hlp c0 c1 cb g1 g2 g3 gf hr9 ho9
  have hww := fr_refl w
  have hmk := make_bools hs
  go_enter Try.func5, Try.ntmps5
  go_wp2_with (first
    | (go_at_call 15; with_reducible refine C0.out.mono ?_; rintro e w1 ⟨L1, d1, rfl, hz1⟩; clear C0)
    | (go_at_call 13; with_reducible refine (C1.out w1 L1 d1 hz1.out.2 hz1.out.1).mono ?_; rintro e w2 ⟨O, k2, d2, rfl, hz2⟩; clear C1; have e2 := hz2.out.1.len; rw [oi_len] at e2; subst e2)
    | fail)
  have fw2 := fr_step hz1.out.2 hz2.out.2
  have FW2 := keep fw2
  obtain ⟨ba, oa, rfl, kc⟩ := has_cells HC.out Hcn.out hn
  obtain ⟨b1, o1, rfl, kr⟩ := has_cells hz1.out.1.has Hlp.out hn
  have KC := keep kc
  have KR := keep kr
  have Hz1 := keep hz1
  have Hz2 := keep hz2
  have HI1 : Hid (∃ l, ResB w2 (w2.alloc (.cells (List.replicate n (.bool false)).toArray 4)) (some ⟨w2.heap.size, 0, none⟩) n n l ∧ Fr w2 (w2.alloc (.cells (List.replicate n (.bool false)).toArray 4)) ∧ ∀ t, gd l t = decide (t ∈ o.take 0)) :=
    keep ⟨_, res_made hs w2, fr_new (fr_refl w2) _, fun t => by rw [gd_rep]; simp⟩
  clear kc kr fw2 hz1 hz2 hmk
  go_loopg [11] o.length (fun gg s11 wr => ∃ i : Nat, i + gg = o.length ∧ s11 = .int .i64 i ∧ Hid (∃ l, ResB w2 wr (some ⟨w2.heap.size, 0, none⟩) n n l ∧ Fr w2 wr ∧ ∀ t, gd l t = decide (t ∈ o.take i)))
  case atStart => exact ⟨0, by omega, rfl, HI1⟩
  case round =>
    obtain ⟨i, hi, rfl, HI⟩ := hrel
    obtain ⟨l, hB, hF, hg⟩ := HI.out
    have HB := keep hB
    have HF := keep hF
    have HG := keep hg
    clear hB hF hg HI HI1
    by_cases hlt : i < o.length
    · have hm : o[i]? = some (o[i]'hlt) := List.getElem?_eq_getElem _
      generalize o[i]'hlt = k at hm
      obtain ⟨hkn, hkc⟩ := G1.out k (List.mem_of_getElem? hm)
      obtain ⟨b3, o3, rfl, ko⟩ := Hz2.out.out.1.cells (by omega)
      have oX := ko wr HF.out i (k : Int) (oi_get hm)
      have cX := KC.out wr (fr_step FW2.out HF.out) k hkn
      rw [hkc] at cX
      obtain ⟨b4, o4, e4, km⟩ := has_cells HB.out.has HB.out.len hn
      injection e4 with e4
      injection e4 with e4 e5
      subst e4 e5
      have mX := km wr (fr_refl _) k hkn
      rw [Nat.zero_add, HG.out, decide_eq_false (take_mem hm G2.out)] at mX
      have hin : (i : Int) < (o.length : Int) := by omega
      have hk0 : ¬ ((k : Int) < 0) := by omega
      have hk1 : ¬ ((n : Int) ≤ (k : Int)) := by omega
      have hk2 : (k : Int) < (n : Int) := by omega
      have wi : IntKind.i64.wrap ((i : Int) + 1) = (i : Int) + 1 := by rw [IntKind.wrap_i64]; omega
      have htk : o.take (i + 1) = o.take i ++ [k] := by rw [List.take_add_one, hm]; rfl
      have Htk := keep htk
      have Hkn := keep hkn
      clear hm hkc km ko hlt htk hkn
      go_wp2_with (first
        | (refine wpList_store_rw (cf := bc) (x := true) (j := k) bool_info rfl (.tmp 75) (.const (.bool true)) rfl (by rw [Nat.mul_one, Nat.zero_add]; rfl) rfl rfl (bc_one _) HB.out.row (bc_wid _) HB.out.len Hkn.out ?_; intro w4 h4 k4; have H4 := keep (show Rw w4 _ _ _ _ _ _ ∧ Chg _ wr w4 from ⟨h4, k4⟩); clear h4 k4)
        | fail)
      go_roundg (gk - 1)
      case measure => omega
      case rel =>
        refine ⟨i + 1, by omega, rfl, keep ⟨_, ⟨H4.out.1, by rw [List.length_set]; exact HB.out.len, HB.out.new⟩, HF.out.step_chg H4.out.2 fun j e => by omega, fun t => ?_⟩⟩
        rw [gd_put _ (by rw [HB.out.len]; exact Hkn.out), HG.out, Htk.out]
        by_cases e : t = k
        · subst e; simp
        · rw [if_neg e]; simp [e]
    · obtain rfl : i = o.length := by omega
      clear hlt
      go_wp2_with fail
      obtain ⟨gko, rfl⟩ : ∃ x, x = gk := ⟨_, rfl⟩
      obtain ⟨wo, rfl⟩ : ∃ x, x = wr := ⟨_, rfl⟩
      have hwr := fr_refl wo
      have hcl := cnt_le c
      have Hcl := keep hcl
      clear hcl
      go_loopg [12, 13] n (fun gg s12 s13 wr => ∃ i K : Nat, i + gg = n ∧ s12 = .int .i64 K ∧ s13 = .int .i64 i ∧ Hid (K = cnt (c.take i)) ∧ Hid (Fr wo wr))
      case atStart => exact ⟨0, 0, by omega, rfl, rfl, keep rfl, keep hwr⟩
      case round =>
        obtain ⟨i, K, hi2, rfl, rfl, HK, HQ⟩ := hrel
        by_cases hlt : i < n
        · have cX := KC.out wr (fr_step FW2.out (fr_step HF.out HQ.out)) i hlt
          have hin : (i : Int) < (n : Int) := by omega
          have wi : IntKind.i64.wrap ((i : Int) + 1) = (i : Int) + 1 := by rw [IntKind.wrap_i64]; omega
          have hKl : K ≤ 64 := by
            have h1 := cnt_le (c.take i)
            rw [← HK.out, List.length_take] at h1
            omega
          have wk : IntKind.i64.wrap ((K : Int) + 1) = (K : Int) + 1 := by rw [IntKind.wrap_i64]; omega
          have hct := cnt_take (l := c) (i := i) (by rw [Hcn.out]; exact hlt)
          have Hct := keep hct
          clear hct hlt
          cases hq : gd c i with
          | false =>
            rw [hq] at cX
            have Hq := keep hq
            clear hq
            go_wp2_with fail
            go_roundg (gk - 1)
            case measure => omega
            case rel => exact ⟨i + 1, K, by omega, rfl, rfl, keep (by rw [Hct.out, Hq.out, HK.out]; rfl), HQ⟩
          | true =>
            rw [hq] at cX
            have Hq := keep hq
            clear hq
            go_wp2_with fail
            go_roundg (gk - 1)
            case measure => omega
            case rel => exact ⟨i + 1, K + 1, by omega, rfl, rfl, keep (by rw [Hct.out, Hq.out, HK.out]; rfl), HQ⟩
        · obtain rfl : i = n := by omega
          have hKo : K = o.length := by rw [HK.out, cnt_true c i Hcn.out, G3.out]
          subst hKo
          have fq := fr_step FW2.out (fr_step HF.out HQ.out)
          have FQ := keep fq
          clear hlt fq HK
          by_cases h0 : o.length = 0
          · have h0z : ((o.length : Int) == 0) = true := by simp; exact List.eq_nil_of_length_eq_zero h0
            rw [h0]
            go_wp2_with (first
              | (go_at_call 8; with_reducible refine (awake_at (w := wr)).mono ?_; rintro e w5 ⟨rfl, hf5⟩)
              | fail)
            go_ret
            exact ⟨rfl, fr_step FQ.out hf5⟩
          · have h0z : ((o.length : Int) == 0) = false := by simp; intro e; exact h0 (by rw [e]; rfl)
            obtain ⟨k, rest, ho⟩ : ∃ k rest, o = k :: rest := by
              cases o with
              | nil => exact (h0 rfl).elim
              | cons k rest => exact ⟨k, rest, rfl⟩
            have hm : o[0]? = some k := by rw [ho]; rfl
            obtain ⟨hkn, hkc⟩ := G1.out k (by rw [ho]; simp)
            obtain ⟨b3, o3, rfl, ko⟩ := Hz2.out.out.1.cells (by omega)
            have oX := ko wr (fr_step HF.out HQ.out) 0 (k : Int) (oi_get hm)
            rw [Nat.add_zero] at oX
            have rX := KR.out wr (fr_step Hz2.out.out.2 (fr_step HF.out HQ.out)) k hkn
            have hl0 : (0 : Int) < (o.length : Int) := by omega
            have hk2 : (k : Int) < (i : Int) := by omega
            have hgf := GF.out k rest ho
            have Hgf := keep hgf
            clear hm hkn hkc ko hgf h0 ho
            cases hrk : gd r k with
            | false =>
              rw [hrk] at rX
              clear hrk
              go_wp2_with (first
                | (go_at_call 8; with_reducible refine (awake_at (w := wr)).mono ?_; rintro e w5 ⟨rfl, hf5⟩)
                | fail)
              go_ret
              exact ⟨rfl, fr_step FQ.out hf5⟩
            | true =>
              rw [hrk] at rX
              have cb := CB.out wr cc (some ⟨b1, o1, none⟩) d1 FQ.out ((Hz1.out.out.1.fr Hz2.out.out.2).fr (fr_step HF.out HQ.out) |> fun h => ⟨h.row, h.len, fun j hj => by have := h.new j hj; exact this⟩)
              rw [Hgf.out hrk] at cb
              have Cb := keep cb
              clear hrk cb
              go_wp2_with (first
                | (go_at_call 16; with_reducible refine Cb.out.mono ?_; rintro e w4 ⟨rfl, hf4⟩)
                | (go_at_call 8; with_reducible refine (awake_at (w := w4)).mono ?_; rintro e w5 ⟨rfl, hf5⟩)
                | fail)
              go_ret
              exact ⟨rfl, fr_step FQ.out (fr_step hf4 hf5)⟩
end Go.Proofs.Ytifmldlbhcpaiaa
