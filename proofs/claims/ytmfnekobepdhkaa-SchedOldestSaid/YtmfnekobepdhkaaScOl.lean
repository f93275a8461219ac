/- SchedOldest, walked. -/
import Derived.Test.YtmfnekobepdhkaaScG
import Derived.Test.YtmfnekobepdhkaaScOm
namespace Go.Proofs.Ytmfnekobepdhkaa
set_option linter.unusedVariables false
set_option linter.unusedSimpArgs false
set_option maxRecDepth 100000
open Go.RowKit
structure OIn (w V : World) (g k K : Nat) (t : Tab) : Prop where
  pt : PT V g t K
  old : Old t k
  n : t.st.length = k
  fr : Fr w V
theorem OIn.turn {w V W : World} {g k K : Nat} {t : Tab} (h : OIn w V g k K t) (i z : Int) (hp : PT W g (turnT t i z) K) (c : Chg (· = g) V W) (hq : w.heap.size ≤ g) : OIn w W g k K (turnT t i z) :=
  ⟨hp, h.old.turn i z, by rw [turnT_n]; exact h.n, fr_chg h.fr c hq⟩
set_option maxHeartbeats 8000000 in
theorem oldest_core {w : World} {n : Int} (hn : Is64 n) {A : Option Addr} {m c : Nat} {l : List Int} (hl : Has w w.heap.size A (u8s l)) (hm : l.length = m) (hmx : m ≤ maxLen) (hw : Bytes l) :
    Calls Try.prog 7 #[.int .i64 n, .slice A m c] w fun e w' => e = .returned (.bool true) ∧ Below w.heap.size w w' := by
  unfold maxLen at hmx
  have cP : ∀ W, Calls Try.prog 11 #[.int .i64 n, .int .i64 8] W fun e w' => e = .returned (.int .i64 (n % 8)) ∧ Fr W w' := fun W => law_place n 8 hn (by omega) (by omega) W
  obtain ⟨k0, hk, hk8⟩ : ∃ k : Nat, n % 8 = k ∧ k < 8 := ⟨(n % 8).toNat, by omega, by omega⟩
  rw [hk] at cP
  have cN := fun W => new_yes W (1 + k0) (by omega) (by omega)
  rw [show ((1 + k0 : Nat) : Int) = 1 + (k0 : Int) by omega] at cN
  clear hk hn
  obtain ⟨k, hk⟩ : ∃ k, 1 + k0 = k := ⟨_, rfl⟩
  have hkz : 1 + (k0 : Int) = (k : Int) := by omega
  have hk1 : 1 ≤ k ∧ k ≤ 8 := by omega
  rw [hk, hkz] at cN
  have hk0 : ((k : Int) == 0) = false := by simp; omega
  have hkn : ¬ k = 0 := by omega
  have hkw : IntKind.i64.wrap ((k : Int) - 1) = k - 1 := by rw [IntKind.wrap_i64]; omega
  have HL := keep hl
  have HM := keep hm
  have HW := keep hw
  clear hk hl hm hw
  obtain ⟨M, hM⟩ : ∃ M, min m 200 = M := ⟨_, rfl⟩
  go_enter Try.func7, Try.ntmps7
  go_wp2_with fail
  refine (cP w).mono ?_
  rintro e w1 ⟨rfl, f1⟩
  go_wp2_with fail
  refine (cN w1).mono ?_
  rintro e w2 ⟨g, rfl, h⟩
  have hq : w.heap.size ≤ g := by have := f1.size; have := h.out.2.2; omega
  have P0 : Hid (OIn w w2 g k 0 (newT k)) := keep ⟨h.out.1, old_new hk1.1, by simp [newT], fr_step f1 h.out.2.1⟩
  clear h cP cN
  go_wp2_with fail
  go_loopg [8] M (fun g' s8 wr => ∃ (i : Nat) (t : Tab), i + g' = M ∧ s8 = .int .i64 i ∧ Hid (OIn w wr g k i t))
  case atStart => exact ⟨0, _, by omega, rfl, P0⟩
  case round =>
    clear P0
    obtain ⟨i, t, hi, rfl, hP⟩ := hrel
    by_cases hlt : i < M
    · have hiz : (i : Int) < (m : Int) := by omega
      have hiz2 : (i : Int) < 200 := by omega
      have hx : l[i]? = some (l[i]'(by rw [HM.out]; omega)) := List.getElem?_eq_getElem _
      generalize l[i]'(by rw [HM.out]; omega) = x at hx
      have hxb := HW.out x (List.mem_of_getElem? hx)
      obtain ⟨b, off, rfl, hb, hrr⟩ := HL.out i _ (u8s_get hx)
      have hcx : ∀ W, Fr w W → W.cell? ⟨b, off + i, none⟩ = some (.int .u8 x) := fun W f => (f.cell hb).trans hrr
      have fw := hP.out.fr
      obtain ⟨h2, hh2, hb2⟩ : ∃ y : Nat, Int.tdiv x 2 = y ∧ y ≤ 127 := ⟨(x / 2).toNat, by rw [Int.tdiv_eq_ediv_of_nonneg hxb.1]; omega, by omega⟩
      obtain ⟨h8, hh8, hb8⟩ : ∃ y : Nat, Int.tmod x 8 = y ∧ y < 8 := ⟨(x % 8).toNat, by rw [Int.tmod_eq_emod_of_nonneg hxb.1]; omega, by omega⟩
      obtain ⟨j, hj, hjk⟩ : ∃ j : Nat, Int.tmod (h2 : Int) (k : Int) = j ∧ j < k := ⟨h2 % k, by rw [Int.tmod_eq_emod_of_nonneg (by omega), ← Int.natCast_emod], Nat.mod_lt _ (by omega)⟩
      have hjb : -9223372036854775808 ≤ (j : Int) ∧ (j : Int) ≤ 9223372036854775807 := by omega
      have Hlt := keep hlt
      clear hx hrr hlt
      go_upto_if 52 with fail
      go_cut [8] from 47 to 55 (fun s8 W => ∃ t', s8 = .int .i64 (i : Int) ∧ Hid (OIn w W g k i t'))
      case first =>
        cases hc : ((h8 : Int) == 0)
        · go_wp2_with fail
          go_meet
          exact ⟨t, rfl, hP⟩
        · have c1 := block_at (i := (j : Int)) hP.out.pt hjb
          go_wp2_with fail
          refine c1.mono ?_
          rintro e w3 ⟨rfl, h⟩
          go_wp2_with fail
          go_meet
          exact ⟨_, rfl, keep (hP.out.turn _ _ h.out.1 h.out.2 hq)⟩
      case rest =>
        obtain ⟨t1, rfl, hP1⟩ := hcut
        have fw1 := hP1.out.fr
        clear hP fw
        go_upto_if 61 with fail
        go_cut [8] from 56 to 64 (fun s8 W => ∃ t', s8 = .int .i64 (i : Int) ∧ Hid (OIn w W g k i t'))
        case first =>
          cases hc : ((h8 : Int) == 1)
          · go_wp2_with fail
            go_meet
            exact ⟨t1, rfl, hP1⟩
          · have c1 := wake_at (i := (j : Int)) hP1.out.pt hjb
            go_wp2_with fail
            refine c1.mono ?_
            rintro e w3 ⟨rfl, h⟩
            go_wp2_with fail
            go_meet
            exact ⟨_, rfl, keep (hP1.out.turn _ _ h.out.1 h.out.2 hq)⟩
        case rest =>
          obtain ⟨t2, rfl, hP2⟩ := hcut
          clear hP1 fw1 hcx
          obtain ⟨V0, eV⟩ : ∃ W, W = wc := ⟨_, rfl⟩
          rw [← eV]
          rw [← eV] at hP2
          clear eV
          have c1 := runnable_at hP2.out.pt
          go_wp2_with fail
          refine c1.mono ?_
          rintro e w5 ⟨A2, N, c2, rfl, h⟩
          have hN : (runN t2).length = N := by rw [← natI_len]; exact h.out.1
          have HN := keep hN
          have hN8 : N ≤ 8 := by have := runJ_len t2.st t2.st.length; have := hP2.out.pt.ok.n; rw [← hN, runN]; omega
          have P5 : Hid (OIn w w5 g k i t2) := keep ⟨hP2.out.pt.fr h.out.2.2, hP2.out.old, hP2.out.n, fr_step hP2.out.fr h.out.2.2⟩
          have H2 : Hid (HasP w5 (fun b => b ≠ g) A2 (ints (runL t2))) := keep (h.out.2.1.hasP fun b hb => by have := hP2.out.pt.box.lt; omega)
          obtain ⟨fy, hfy⟩ : ∃ fy : Nat → Int, fy = fun y => atI t2.wa (((runN t2)[y]?.getD 0 : Nat) : Int) := ⟨_, rfl⟩
          have HF := keep hfy
          clear hfy hN h c1 hP2
          go_wp2_with fail
          obtain ⟨gko, rfl⟩ : ∃ x, x = gk := ⟨_, rfl⟩
          go_loopg [11, 12] N (fun g2 s11 s12 wr => ∃ (a x : Nat), x + g2 = N ∧ s12 = .int .i64 x ∧ s11 = .int .i64 a ∧ Hid (Fr w5 wr) ∧ ((N = 0 ∧ a = 0) ∨ a < N) ∧ Hid (∀ y, y < x → fy y ≤ fy a))
          case atStart => exact ⟨0, 0, by omega, rfl, rfl, keep (fr_refl w5), by omega, keep (fun y h => by omega)⟩
          case round =>
            obtain ⟨a, y, hy, rfl, rfl, hW, ha, hmax⟩ := hrel
            have hF := hW.out
            by_cases hyl : y < N
            · have hyz : (y : Int) < (N : Int) := by omega
              have haN : a < N := by omega
              have haz : (a : Int) < (N : Int) := by omega
              have g1 : (runN t2)[y]? = some ((runN t2)[y]'(by rw [HN.out]; exact hyl)) := List.getElem?_eq_getElem _
              generalize (runN t2)[y]'(by rw [HN.out]; exact hyl) = iy at g1
              have g2 : (runN t2)[a]? = some ((runN t2)[a]'(by rw [HN.out]; exact haN)) := List.getElem?_eq_getElem _
              generalize (runN t2)[a]'(by rw [HN.out]; exact haN) = ia at g2
              obtain ⟨b2, off2, rfl, hb2', hr2⟩ := H2.out y _ (ints_get (natI_get g1))
              obtain ⟨b3, off3, e3, hb3', hr3⟩ := H2.out a _ (ints_get (natI_get g2))
              have hb3 := World.block_lt_of_cell? _ _ hr3
              replace hb3 : b3 < w5.heap.size := hb3
              obtain ⟨rfl, rfl⟩ : b3 = b2 ∧ off3 = off2 := by injection e3 with e3; injection e3 with e1 e2; exact ⟨e1.symm, e2.symm⟩
              have cx : ∀ W, Fr wr W → W.cell? ⟨b3, off3 + y, none⟩ = some (.int .i64 (iy : Int)) := fun W f => ((fr_step hF f).cell hb3).trans hr2
              have ca : ∀ W, Fr wr W → W.cell? ⟨b3, off3 + a, none⟩ = some (.int .i64 (ia : Int)) := fun W f => ((fr_step hF f).cell hb3).trans hr3
              have hiy := runN_lt (List.mem_of_getElem? g1)
              have hia := runN_lt (List.mem_of_getElem? g2)
              have hn8 := P5.out.pt.ok.n
              have ey : atI t2.wa (iy : Int) = fy y := by rw [HF.out]; simp [g1]
              have ea : atI t2.wa (ia : Int) = fy a := by rw [HF.out]; simp [g2]
              have cA : ∀ W, Fr wr W → Calls Try.prog 28 #[.pointer (some ⟨g, 0, none⟩), .int .i64 (iy : Int)] W fun e w' => e = .returned (.int .i64 (fy y)) ∧ Fr wr w' := fun W f => (wait_at (P5.out.pt.fr (fr_step hF f)) (by omega)).mono fun e w' ⟨he, hh⟩ => ⟨by rw [he, ey], hh ▸ f⟩
              have cB : ∀ W, Fr wr W → Calls Try.prog 28 #[.pointer (some ⟨g, 0, none⟩), .int .i64 (ia : Int)] W fun e w' => e = .returned (.int .i64 (fy a)) ∧ Fr wr w' := fun W f => (wait_at (P5.out.pt.fr (fr_step hF f)) (by omega)).mono fun e w' ⟨he, hh⟩ => ⟨by rw [he, ea], hh ▸ f⟩
              have wrd := fr_drew (fr_refl wr)
              obtain ⟨u, hu⟩ : ∃ u, fy y = u := ⟨_, rfl⟩
              obtain ⟨v, hv⟩ : ∃ v, fy a = v := ⟨_, rfl⟩
              have Hu := keep hu
              have Hv := keep hv
              rw [hu] at cA
              rw [hv] at cB
              clear hu hv ey ea hr2 hr3 e3 g1 g2 hiy hia hyl ha
              go_wp2_with fail
              refine wp_region_noPanic ?_
              refine wp_region_held_drew (S := fun W => Fr wr W) (by kernel_rfl) wrd (fun hHeld => ?_)
              change wpAnyH _ _ _ _ _ _ _ _ _
              refine wpAnyH_take (i := 0) (v := ?_) rfl (by kernel_rfl) (by kernel_rfl) (by kernel_rfl) (fun _ _ _ h => h) (Or.inl ⟨by rfl, ?_⟩) (by assumption) ?_
              rotate_left
              · intro w' hSw
                try dsimp only at hSw
                go_simp
                try with_reducible rfl
              try simp only [List.getElem_toArray, List.getElem_cons_zero, Act.put, List.setIfInBounds_toArray, List.set_cons_zero, List.set_cons_succ]
              refine wpAnyH_take (i := 1) (v := ?_) rfl (by kernel_rfl) (by kernel_rfl) (by kernel_rfl) (fun _ _ _ h => h) (Or.inl ⟨by rfl, ?_⟩) (by assumption) ?_
              rotate_left
              · intro w' hSw
                try dsimp only at hSw
                go_simp
                try with_reducible rfl
              try simp only [List.getElem_toArray, List.getElem_cons_succ, List.getElem_cons_zero, Act.put, List.setIfInBounds_toArray, List.set_cons_zero, List.set_cons_succ]
              refine wpAnyH_take (i := 2) (v := ?_) rfl (by kernel_rfl) (by kernel_rfl) (by kernel_rfl) (fun _ _ _ h => h) (Or.inl ⟨by rfl, ?_⟩) (by assumption) ?_
              rotate_left
              · intro w' hSw
                try dsimp only at hSw
                go_simp
                try with_reducible rfl
              try simp only [List.getElem_toArray, List.getElem_cons_succ, List.getElem_cons_zero, Act.put, List.setIfInBounds_toArray, List.set_cons_zero, List.set_cons_succ]
              refine wpAnyH_take (i := 3) (v := ?_) rfl (by kernel_rfl) (by kernel_rfl) (by kernel_rfl) (fun _ _ _ h => h) (Or.inl ⟨by rfl, ?_⟩) (by assumption) ?_
              rotate_left
              · intro w' hSw
                try dsimp only at hSw
                go_simp
                try with_reducible rfl
              try simp only [List.getElem_toArray, List.getElem_cons_succ, List.getElem_cons_zero, Act.put, List.setIfInBounds_toArray, List.set_cons_zero, List.set_cons_succ]
              refine wpAnyH_take (i := 4) (v := ?_) rfl (by kernel_rfl) (by kernel_rfl) (by kernel_rfl) (fun _ _ _ h => h) (Or.inl ⟨by rfl, ?_⟩) (by assumption) ?_
              rotate_left
              · intro w' hSw
                try dsimp only at hSw
                go_simp
                try with_reducible rfl
              try simp only [List.getElem_toArray, List.getElem_cons_succ, List.getElem_cons_zero, Act.put, List.setIfInBounds_toArray, List.set_cons_zero, List.set_cons_succ]
              refine wpAnyH_take (i := 6) (v := ?_) rfl (by kernel_rfl) (by kernel_rfl) (by kernel_rfl) (fun _ _ _ h => h) (Or.inl ⟨by rfl, ?_⟩) (by assumption) ?_
              rotate_left
              · intro w' hSw
                try dsimp only at hSw
                go_simp
                try with_reducible rfl
              try simp only [List.getElem_toArray, List.getElem_cons_succ, List.getElem_cons_zero, Act.put, List.setIfInBounds_toArray, List.set_cons_zero, List.set_cons_succ]
              refine wpAnyH_take (i := 7) (v := ?_) rfl (by kernel_rfl) (by kernel_rfl) (by kernel_rfl) (fun _ _ _ h => h) (Or.inl ⟨by rfl, ?_⟩) (by assumption) ?_
              rotate_left
              · intro w' hSw
                try dsimp only at hSw
                go_simp
                try with_reducible rfl
              try simp only [List.getElem_toArray, List.getElem_cons_succ, List.getElem_cons_zero, Act.put, List.setIfInBounds_toArray, List.set_cons_zero, List.set_cons_succ]
              refine wpAnyH_take (i := 8) (v := ?_) rfl (by kernel_rfl) (by kernel_rfl) (by kernel_rfl) (fun _ _ _ h => h) (Or.inl ⟨by rfl, ?_⟩) (by assumption) ?_
              rotate_left
              · intro w' hSw
                try dsimp only at hSw
                go_simp
                try with_reducible rfl
              try simp only [List.getElem_toArray, List.getElem_cons_succ, List.getElem_cons_zero, Act.put, List.setIfInBounds_toArray, List.set_cons_zero, List.set_cons_succ]
              refine wpAnyH_take (i := 9) (v := ?_) rfl (by kernel_rfl) (by kernel_rfl) (by kernel_rfl) (fun _ _ _ h => h) (Or.inl ⟨by rfl, ?_⟩) (by assumption) ?_
              rotate_left
              · intro w' hSw
                try dsimp only at hSw
                go_simp
                try with_reducible rfl
              try simp only [List.getElem_toArray, List.getElem_cons_succ, List.getElem_cons_zero, Act.put, List.setIfInBounds_toArray, List.set_cons_zero, List.set_cons_succ]
              refine wpAnyH_take (i := 10) (v := ?_) rfl (by kernel_rfl) (by kernel_rfl) (by kernel_rfl) (fun _ _ _ h => h) (Or.inl ⟨by rfl, ?_⟩) (by assumption) ?_
              rotate_left
              · intro w' hSw
                try dsimp only at hSw
                go_simp
                try with_reducible rfl
              try simp only [List.getElem_toArray, List.getElem_cons_succ, List.getElem_cons_zero, Act.put, List.setIfInBounds_toArray, List.set_cons_zero, List.set_cons_succ]
              refine wpAnyH_ready (rs := [5]) (by kernel_rfl) (by simp) ?_
              refine AllReadyH.cons rfl (fun K hK0 => ?_) AllReadyH.nil
              go_simp
              refine (cA _ (by assumption)).mono ?_
              rintro e w5x ⟨rfl, f5x⟩
              go_simp
              refine hK0.out _ _ f5x (fun hS5 => ?_)
              clear hK0 K
              try simp only [List.getElem_toArray, List.getElem_cons_succ, List.getElem_cons_zero, Act.put, List.setIfInBounds_toArray, List.set_cons_zero, List.set_cons_succ]
              refine wpAnyH_ready (rs := [11]) (by kernel_rfl) (by simp) ?_
              refine AllReadyH.cons rfl (fun K hK0 => ?_) AllReadyH.nil
              go_simp
              refine (cB _ (by assumption)).mono ?_
              rintro e w11x ⟨rfl, f11x⟩
              go_simp
              refine hK0.out _ _ f11x (fun hS11 => ?_)
              clear hK0 K
              try simp only [List.getElem_toArray, List.getElem_cons_succ, List.getElem_cons_zero, Act.put, List.setIfInBounds_toArray, List.set_cons_zero, List.set_cons_succ]
              refine wpAnyH_take (i := 12) (v := ?_) rfl (by kernel_rfl) (by kernel_rfl) (by kernel_rfl) (fun _ _ _ h => h) (Or.inl ⟨by rfl, ?_⟩) (by assumption) ?_
              rotate_left
              · intro w' hSw
                try dsimp only at hSw
                go_simp
                try with_reducible rfl
              try simp only [List.getElem_toArray, List.getElem_cons_succ, List.getElem_cons_zero, Act.put, List.setIfInBounds_toArray, List.set_cons_zero, List.set_cons_succ]
              refine wpAnyH_done (by kernel_rfl) ?_ _
              refine NoPanic.normal ?_
              have HFz := keep (fr_step hF f11x)
              by_cases huv : v < u
              · go_wp2_with fail
                go_roundg (gk - 1)
                case measure => omega
                case rel => exact ⟨y, y + 1, by omega, rfl, rfl, HFz, by omega, keep (fun z hz => by
                  have h1 := Hu.out
                  have h2 := Hv.out
                  rcases Nat.lt_or_ge z y with h | h
                  · have := hmax.out z h; omega
                  · obtain rfl : z = y := by omega
                    exact Int.le_refl _)⟩
              · go_wp2_with fail
                go_roundg (gk - 1)
                case measure => omega
                case rel => exact ⟨a, y + 1, by omega, rfl, rfl, HFz, by omega, keep (fun z hz => by
                  have h1 := Hu.out
                  have h2 := Hv.out
                  rcases Nat.lt_or_ge z y with h | h
                  · exact hmax.out z h
                  · obtain rfl : z = y := by omega
                    omega)⟩
            · have hyN : y = N := by omega
              subst hyN
              have hyz : ¬ (y : Int) < (y : Int) := by omega
              have P6 : Hid (OIn w wr g k i t2) := keep ⟨P5.out.pt.fr hF, P5.out.old, P5.out.n, fr_step P5.out.fr hF⟩
              have cp := pick_at (p := (a : Int)) P6.out.pt (by omega) (by omega)
              have Hlt2 := Hlt.out
              rcases ha with ⟨h0, rfl⟩ | haN
              · subst h0
                obtain ⟨e1, e2, e3⟩ := pickB_no HN.out ((0 : Nat) : Int)
                rw [e1, e2, e3] at cp
                clear e1 e2 e3 hyl
                go_wp2_with fail
                refine cp.mono ?_
                rintro e w7 ⟨rfl, h⟩
                clear cp
                go_wp2_with fail
                go_roundg (gko - 1)
                case measure => omega
                case rel => exact ⟨i + 1, t2, by omega, rfl, keep ⟨h.out.1, P6.out.old, P6.out.n, fr_chg P6.out.fr h.out.2 hq⟩⟩
              · have hA : pickA t2 (a : Int) = a := by
                  rw [pickA, HN.out, ← Int.natCast_emod, Int.toNat_natCast, Nat.mod_eq_of_lt haN]
                have g2 : (runN t2)[a]? = some ((runN t2)[a]'(by rw [HN.out]; exact haN)) := List.getElem?_eq_getElem _
                generalize (runN t2)[a]'(by rw [HN.out]; exact haN) = ia at g2
                obtain ⟨e1, e2, e3⟩ := pickB_yes (t := t2) (p := (a : Int)) (i := ia) (by rw [hA]; exact g2)
                rw [e1, e2, e3] at cp
                have HO : Hid (Old (pickW t2 ia) k) := keep (P6.out.old.pick P6.out.n (List.mem_of_getElem? g2) (fun z hz => by
                  obtain ⟨y0, hy0⟩ := List.getElem?_of_mem hz
                  have hyl0 : y0 < y := by rw [← HN.out]; exact (List.getElem?_eq_some_iff.1 hy0).1
                  have := hmax.out y0 hyl0
                  rw [HF.out] at this
                  simpa [hy0, g2] using this))
                obtain ⟨b3, off3, e4, hbg, hr3⟩ := H2.out a _ (ints_get (natI_get g2))
                have hb3 : b3 < w5.heap.size := World.block_lt_of_cell? _ _ hr3
                subst e4
                have ca : ∀ W, Fr wr W → W.cell? ⟨b3, off3 + a, none⟩ = some (.int .i64 (ia : Int)) := fun W f => ((fr_step hF f).cell hb3).trans hr3
                have haz : (a : Int) < (y : Int) := by omega
                have hN0 : (0 : Int) < (y : Int) := by omega
                have hb3w : b3 < wr.heap.size := Nat.lt_of_lt_of_le hb3 hF.size
                clear e1 e2 e3 hyl hr3 g2 hA
                go_wp2_with fail
                refine cp.mono ?_
                rintro e w7 ⟨rfl, h⟩
                have ca7 : w7.cell? ⟨b3, off3 + a, none⟩ = some (.int .i64 (ia : Int)) := (h.out.2.cell hb3w hbg).trans (ca wr (fr_refl wr))
                clear cp ca
                go_wp2_with fail
                go_roundg (gko - 1)
                case measure => omega
                case rel => exact ⟨i + 1, pickW t2 ia, by omega, rfl, keep ⟨h.out.1, HO.out, P6.out.n, fr_chg P6.out.fr h.out.2 hq⟩⟩
    · have hiz : ¬ ((i : Int) < (m : Int) ∧ (i : Int) < 200) := by omega
      have cW := worst_at hP.out.pt
      have hmo := hP.out.old.mo
      have hfr := hP.out.fr
      generalize t.mo = y at *
      have ca := awake13 wr
      clear hlt
      by_cases hi1 : (i : Int) < (m : Int)
      · have hi2 : ¬ (i : Int) < 200 := by omega
        go_wp2_with (first
          | (go_at_call 25; refine cW.mono ?_; rintro e w' ⟨rfl, rfl⟩)
          | (go_at_call 10; refine ca.mono ?_; rintro e wa ⟨rfl, fa⟩)
          | fail)
        go_ret
        exact ⟨rfl, fr_step hfr fa⟩
      · go_wp2_with (first
          | (go_at_call 25; refine cW.mono ?_; rintro e w' ⟨rfl, rfl⟩)
          | (go_at_call 10; refine ca.mono ?_; rintro e wa ⟨rfl, fa⟩)
          | fail)
        go_ret
        exact ⟨rfl, fr_step hfr fa⟩
end Go.Proofs.Ytmfnekobepdhkaa
