/- NodeHeavy, walked. -/
import Derived.Test.YtcdcaanmmbopbaaNodF
namespace Go.Proofs.Ytcdcaanmmbopbaa
set_option maxRecDepth 100000
open Go.RowKit
set_option linter.unusedVariables false
attribute [local go_sem ↓] nod_ld
set_option maxHeartbeats 4000000 in
theorem nodeHeavy_core {w : World} {A0 A1 : Option Addr} {n0 c0 n1 c1 : Nat} {ns ms : List Int} {f : Int} (hl0 : Has w w.heap.size A0 (ns.map (Value.int .i64))) (hn0 : ns.length = n0) (hns : ∀ z ∈ ns, Is64 z) (hby : n0 * 8 ≤ 140737488351232) (hf : Is64 f)
    (hl1 : Has w w.heap.size A1 (ms.map (Value.int .i64))) (hn1 : ms.length = n1) (hms : ∀ z ∈ ms, Is64 z) (hm1 : n1 ≤ maxLen) :
    Calls Try.prog 6 #[.slice A0 n0 c0, .int .i64 f, .slice A1 n1 c1] w fun e w' => e = .returned (.bool true) ∧ Below w.heap.size w w' := by
  have rr := fr_refl w
  have cI := q_inner (c := c0) (c2 := c1) hl0 (Nat.le_refl _) hn0 hns hf hl1 (Nat.le_refl _) hn1 hms hm1 hby
  have cL := fun W (h : Fr w W) => q_leaf (w := W) (c := c1) (hl1.fr (Nat.le_refl _) h) h.size hn1 hms hm1
  have o1 := innN_ok ns f ms
  have b1 := msgsL_byt ms (most := 205) (by omega)
  have e1 : (innN ns f ms).lf = false := rfl
  change bytL (innN ns f ms).ms ≤ 205 at b1
  have b0 := (bytL_rng (innN ns f ms).ms).1
  have eb : bytN (innN ns f ms) = bytL (innN ns f ms).ms := rfl
  have eh : hvN (innN ns f ms) = decide (205 ≤ 2 * bytL (innN ns f ms).ms) := rfl
  have eL : hvN (leafN ms) = false := rfl
  generalize innN ns f ms = N at *
  generalize leafN ms = L at *
  generalize hb : bytL N.ms = b at *
  have hw64 : IntKind.i64.wrap (2 * b) = 2 * b := by rw [IntKind.wrap_i64]; omega
  clear hl0 hn0 hns hby hf hl1 hn1 hms hm1
  go_enter Try.func6, Try.ntmps6
  go_wp2_with fail
  refine cI.mono ?_
  rintro e w1 ⟨v, rfl, h, f1⟩
  clear cI
  have tok : Hid (0 < 1) := keep (by decide)
  go_wp2_with (first
    | (clear tok; refine wpList_store_at (ds := NV.cells v) nod_info rfl (.tmp 7) (.tmp 12) rfl w1.heap.size 0 rfl rfl rfl (nv_one _) (Arr.new w1 zeroNV.cells.toArray 27) (by decide) (splice_all _ _ (Nat.le_of_eq rfl)) ?_; intro V hM hk
       have g := hk.fr (fr_new (fr_refl w1) _) (Nat.le_refl _)
       have l0 : ∀ W, Fr V W → (ldS 27 (.pointer (some ⟨w1.heap.size, 0, none⟩))).run Try.prog W = .ok (.agg v.cells.toArray) W := fun W h => nodS.ld rfl (hM.below h hM.lt)
       have l4 : ∀ W, Fr V W → W.cell? ⟨w1.heap.size, 4, none⟩ = some (.slice v.A4 v.n4 v.c4) := fun W h => (hM.below h hM.lt).cell 4
       have vv := fr_refl V
       clear hk hM)
    | fail)
  have k := h.out.fr g
  have top := fr_step f1 g
  clear h
  refine (ref_bytes (w := V) (A := v.A4) (c := v.c4) k.h4 k.hB k.l4 k.s4 k.w4).mono ?_
  rintro e w2 ⟨rfl, f2⟩
  rw [hb]
  have cH := q_heavy (k.fr f2)
  rw [eh] at cH
  have K := keep k
  clear k
  by_cases hbb : 205 ≤ 2 * b
  · rw [decide_eq_true hbb] at cH
    go_wp2_with fail
    refine cH.mono ?_
    rintro e w3 ⟨rfl, f3⟩
    replace f3 := fr_step f2 f3
    have cB := q_bytes (K.out.fr f3) o1.sm
    rw [eb] at cB
    go_wp2_with fail
    refine cB.mono ?_
    rintro e w4 ⟨rfl, f4⟩
    replace f4 := fr_step f3 f4
    go_wp2_with fail
    refine (cL _ (fr_step top f4)).mono ?_
    rintro e w5 ⟨v2, rfl, h2, f5⟩
    replace f5 := fr_step f4 f5
    have cH2 := q_heavy h2.out
    rw [eL] at cH2
    go_wp2_with fail
    refine cH2.mono ?_
    rintro e w6 ⟨rfl, f6⟩
    replace f6 := fr_step f5 f6
    go_wp2_with fail
    refine (awake9 _).mono ?_
    rintro e w7 ⟨rfl, f7⟩
    replace f7 := fr_step f6 f7
    go_wp2_with fail
    go_ret
    exact ⟨rfl, fr_step top f7⟩
  · have hq : decide (205 ≤ 2 * b) = false := decide_eq_false hbb
    rw [hq] at cH
    clear hbb
    go_wp2_with fail
    refine cH.mono ?_
    rintro e w3 ⟨rfl, f3⟩
    replace f3 := fr_step f2 f3
    have cB := q_bytes (K.out.fr f3) o1.sm
    rw [eb] at cB
    go_wp2_with fail
    refine cB.mono ?_
    rintro e w4 ⟨rfl, f4⟩
    replace f4 := fr_step f3 f4
    go_wp2_with fail
    refine (cL _ (fr_step top f4)).mono ?_
    rintro e w5 ⟨v2, rfl, h2, f5⟩
    replace f5 := fr_step f4 f5
    have cH2 := q_heavy h2.out
    rw [eL] at cH2
    go_wp2_with fail
    refine cH2.mono ?_
    rintro e w6 ⟨rfl, f6⟩
    replace f6 := fr_step f5 f6
    go_wp2_with fail
    refine (awake9 _).mono ?_
    rintro e w7 ⟨rfl, f7⟩
    replace f7 := fr_step f6 f7
    go_wp2_with fail
    go_ret
    exact ⟨rfl, fr_step top f7⟩
end Go.Proofs.Ytcdcaanmmbopbaa
