/- CacheNames, walked. -/
import Derived.Test.YtmoaddbpfekdbaaM40
namespace Go.Proofs.Ytmoaddbpfekdbaa
set_option linter.unusedVariables false
set_option linter.unusedSimpArgs false
set_option linter.unusedSectionVars false
set_option maxRecDepth 100000
open Go.RowKit
attribute [local go_sem ↓] node16_ld
theorem one_leaf8 : (leafN [8]).es.length = 1 := by decide
set_option maxHeartbeats 16000000 in
theorem names_core {w : World} {n b : Int} {give : Bool} (hn : 0 ≤ n ∧ n ≤ 255) (hb : -9223372036854775808 ≤ b ∧ b ≤ 9223372036854775807) :
    Calls Try.prog 7 #[.int .u8 n, .bool give, .int .i64 b] w fun e w' => e = .returned (.bool true) ∧ Fr w w' := by
  obtain ⟨q9, hq9, hq9l⟩ : ∃ q : Nat, Int.tmod n 6 = q ∧ q < 6 := ⟨(n % 6).toNat, by rw [Int.tmod_eq_emod_of_nonneg (by omega)]; omega, by omega⟩
  obtain ⟨k, hk⟩ : ∃ k : Nat, (1 : Int) + (q9 : Int) = (k : Int) := ⟨1 + q9, by omega⟩
  have hk1 : 1 ≤ k ∧ k ≤ 6 := by omega
  have is9 : W64 9 := ⟨by decide, by decide⟩
  have is3 : W64 3 := ⟨by decide, by decide⟩
  have is2 : W64 2 := ⟨by decide, by decide⟩
  go_enter Try.func7, Try.ntmps7
  go_wp2_with (first
    | (go_at_call 8; (with_reducible refine (z_new _ 6 (N := 6) rfl (by decide) (by decide)).mono ?_); rintro e w1 ⟨g, rfl, H1⟩; rw [n_new] at H1)
    | fail)
  go_loopg [10] k (fun gg s10 wr => ∃ j : Nat, j + gg = k ∧ s10 = .int .i64 j ∧ Hid (PL w wr g 6 j (nS j)))
  case atStart => exact ⟨0, by omega, rfl, H1⟩
  case round =>
    obtain ⟨j, hj, rfl, HI⟩ := hrel
    by_cases hlt : j < k
    · have hin : (j : Int) < (k : Int) := by omega
      have wi : IntKind.i64.wrap ((j : Int) + 1) = (j : Int) + 1 := by rw [IntKind.wrap_i64]; omega
      have hc := n_claim (V := NX) (k := j) (by omega)
      have hj9 : j ≤ 1000 := by omega
      have Hk := keep hlt
      clear hlt
      go_wp2_with (first
        | (go_at_call 14; (with_reducible refine (z_claim HI.out hj9 hc).mono ?_); rintro e w2 ⟨rfl, H2⟩)
        | fail)
      go_roundg (gk - 1)
      case measure => have := Hk.out; omega
      case rel => exact ⟨j + 1, by have := Hk.out; omega, rfl, keep H2.out.1⟩
    · obtain rfl : j = k := by omega
      have wk : IntKind.i64.wrap ((6 : Int) - (j : Int)) = (6 : Int) - (j : Int) := by rw [IntKind.wrap_i64]; omega
      have wk1 : IntKind.i64.wrap ((j : Int) - 1) = (j : Int) - 1 := by rw [IntKind.wrap_i64]; omega
      have hF := n_free (V := NX) hk1.2
      have hF0 : (6 : Int) - (j : Int) = ((6 - j : Nat) : Int) := by omega
      have hj8 : j ≤ 1000 := by omega
      have hj9 : j + 1 ≤ 1000 := by omega
      have hj10 : j + 1 + 1 ≤ 1000 := by omega
      have hbe : ((6 : Int) - (j : Int) != (6 : Int) - (j : Int)) = false := by simp
      have hj11 : j + 1 + 1 + 1 ≤ 1000 := by omega
      have hN2 := fun (v' : NX) (_ : v'.n = lfX.n) => n_name2 v' hk1.2
      have hG := n_give (V := NX) hk1.2
      have hG0 := n_give (V := NX) (Nat.zero_le 6)
      have hF6 := n_free (V := NX) (Nat.zero_le 6)
      have hN3 := fun (v' : NX) (_ : v'.n = lfX.n) => n_name3 v'
      obtain ⟨wo, rfl⟩ : ∃ x, x = wr := ⟨_, rfl⟩
      obtain ⟨gko, rfl⟩ : ∃ x, x = gk := ⟨_, rfl⟩
      cases give with
      | true =>
        go_wp2_with (first
          | (go_at_call 23; (with_reducible refine (z_free HI.out hF hF0).mono ?_); rintro e w3 ⟨rfl, f3⟩; have H3 := keep (HI.out.fr f3); clear f3)
          | (go_at_call 15; (with_reducible refine (y_name H3.out hj8 is2 is9 lfX lf_val (lf_np _ (fun _ => True)) hN2).mono ?_); rintro e w4 ⟨v4, hv4, rfl, H4⟩)
          | (go_at_call 25; (with_reducible refine (z_give H4.out.1 hG rfl).mono ?_); rintro e w5 ⟨rfl, H5⟩)
          | (go_at_call 23; (with_reducible refine (z_free H5.out.1 hF6 (R := 6) rfl).mono ?_); rintro e w6 ⟨rfl, f6⟩; have H6 := keep (H5.out.1.fr f6); clear f6)
          | (go_at_call 25; (with_reducible refine (z_give H6.out hG0 (R := 0) rfl).mono ?_); rintro e w7 ⟨rfl, H7⟩)
          | (go_at_call 15; (with_reducible refine (y_name H7.out.1 hj11 is3 is9 lfX lf_val (lf_np _ (fun _ => True)) hN3).mono ?_); rintro e w8 ⟨v8, hv8, rfl, H8⟩)
          | (go_at_call 9; (with_reducible refine (awake16 _).mono ?_); rintro e w9 ⟨rfl, f9⟩; have HE := keep (fr_step H8.out.1.frw f9))
          | fail)
        go_ret
        exact ⟨rfl, HE.out⟩
      | false =>
        have hA : IntKind.i64.wrap (b % 255) = b % 255 := by rw [IntKind.wrap_i64]; omega
        obtain ⟨a, ha, hal⟩ : ∃ a : Int, b % 255 = a ∧ (0 ≤ a ∧ a < 256) := ⟨_, rfl, by omega, by omega⟩
        have hP : ∀ W, Calls Try.prog 19 #[.int .i64 b, .int .i64 255] W fun e w' => e = .returned (.int .i64 a) ∧ Fr W w' := fun W => by
          rw [← ha]
          exact law_place b 255 hb (by decide) (by decide) W
        have isa : W64 a := ⟨by omega, by omega⟩
        have hNm := fun (v' : NX) (_ : v'.n = leafN [8]) => n_name hk1 hal v'
        have hGv : (giveC (nE (V := NX) j) 3).1 = j - 1 := n_give2 hk1
        have hGe : giveC (nE (V := NX) j) 3 = (j - 1, (giveC (nE (V := NX) j) 3).2) := by rw [← hGv]
        have hGr : (j : Int) - 1 = ((j - 1 : Nat) : Int) := by omega
        have hae : (a == a) = true := by simp
        have hane : (a != a) = false := by simp
        have hj11 : j + 1 + 1 + 1 ≤ 1000 := by omega
        go_wp2_with (first
          | (go_at_call 23; (with_reducible refine (z_free HI.out hF hF0).mono ?_); rintro e w3 ⟨rfl, f3⟩; have H3 := keep (HI.out.fr f3); clear f3)
          | (go_at_call 15; (with_reducible refine (y_name H3.out hj8 is2 is9 lfX lf_val (lf_np _ (fun _ => True)) hN2).mono ?_); rintro e w4 ⟨v4, hv4, rfl, H4⟩)
          | (go_at_call 19; (with_reducible refine (hP w4).mono ?_); rintro e w5 ⟨rfl, f5⟩; have H5 := keep (H4.out.1.fr f5); clear f5)
          | (go_at_call 27; (with_reducible refine (leaf_one w5 8 (by simp [Is64])).mono ?_); rintro e w6 ⟨v, rfl, HV, f6⟩; have H6 := keep (H5.out.fr f6); clear f6)
          | (go_at_call 15; (with_reducible refine (y_name H6.out hj9 is3 isa ⟨v, leafN [8]⟩ rfl HV.out hNm).mono ?_); rintro e w7 ⟨v7, hv7, rfl, H7⟩)
          | (go_at_call 15; (with_reducible refine (y_name H7.out.1 hj10 is3 isa lfX lf_val (lf_np _ (fun _ => True)) (fun v' _ => n_again j a v7 v')).mono ?_); rintro e w8 ⟨v8, hv8, rfl, H8⟩; have hl7 : v7.n.es.length = 1 := by { rw [hv7]; exact one_leaf8 }; have hn7 : v7.v.n1 = 1 := by { have := H7.out.1.ents (List.mem_cons_self ..); rw [hv7, one_leaf8] at this; exact this.symm })
          | (go_at_call 10; (with_reducible refine (z_frames H8.out.1).mono ?_); rintro e w9 ⟨Q, qc, l', rfl, H9⟩; obtain ⟨f', e1, e2, e3, e4, e5, e6, e7, e8⟩ := H9.out.1.get (i := 0) rfl; obtain ⟨bQ, oQ, hQ, hq⟩ := H9.out.1.cells (by decide); subst hQ; have hqa := hq w9 (fr_refl _) 0 f' e1 1 _ (fac_blk e3); have hqb := hq w9 (fr_refl _) 0 f' e1 2 _ (fac_pins e4); have hqc := hq w9 (fr_refl _) 0 f' e1 3 _ (fac_ref e5); have hqd := hq w9 (fr_refl _) 0 f' e1 4 _ (fac_dirty e6); have hqe := hq w9 (fr_refl _) 0 f' e1 6 _ (fac_ents (m := 1) (e8.l1.symm.trans hl7)); simp only [Nat.zero_mul, Nat.add_zero] at hqa hqb hqc hqd hqe; have H10 := keep (H8.out.1.fr H9.out.2); clear e1 e2 e3 e4 e5 e6 e7 e8 hq)
          | (go_at_call 18; (with_reducible refine (z_evict H10.out (n_evict hk1 a v7) (evP_some _ _ _ _ _ _ _)).mono ?_); rintro e w11 ⟨rfl, H11⟩)
          | (refine wpList_store_at (ds := v7.v.cells) node16_info rfl (.tmp 16) (.tmp 140) rfl w11.heap.size 0 rfl rfl rfl (nv_onex v7.v) (Arr.new w11 zeroNV.cells.toArray 41) (by decide) (splice_all _ _ (by show 5 ≤ 5; decide)) ?_; intro W12 hA12 hk12; have f12 : Fr w11 W12 := hk12.fr (fr_new (fr_refl w11) _) (Nat.le_refl _); have H12 := keep (H11.out.1.fr f12); have hnE : W12.cell? ⟨w11.heap.size, 1, none⟩ = some (.slice v7.v.A1 1 v7.v.c1) := (hA12.cell 1).trans (nv_ents hn7); clear hk12 f12)
          | (go_at_call 25; (with_reducible refine (z_give H12.out hGe hGr).mono ?_); rintro e w13 ⟨rfl, H13⟩)
          | (go_at_call 9; (with_reducible refine (awake16 _).mono ?_); rintro e w14 ⟨rfl, f14⟩; have HE := keep (fr_step H13.out.1.frw f14))
          | fail)
        go_ret
        exact ⟨rfl, HE.out⟩
end Go.Proofs.Ytmoaddbpfekdbaa
