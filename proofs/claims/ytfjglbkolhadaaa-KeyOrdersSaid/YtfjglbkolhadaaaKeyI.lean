/- What the functions of layer 3 come to, nine: 'Kinds' of the document; 'same' of two rows. -/
import Derived.Test.YtfjglbkolhadaaaKeyH
namespace Go.Proofs.Ytfjglbkolhadaaa
open Go.RowKit Go.Maps
set_option linter.unusedVariables false
theorem kinds_step {l : List RK} {k : RK} : ((kinds (l ++ [k])).length : Int) = (kinds l).length + (if k ∈ l then 0 else 1) := by
  rw [kinds_snoc, addK]
  by_cases h : k ∈ l
  · rw [if_pos ((mem_kinds k l).2 h), if_pos h]; omega
  · rw [if_neg (fun e => h ((mem_kinds k l).1 e)), if_neg h]; simp
set_option maxHeartbeats 4000000 in
theorem ref_kinds (A : Option Addr) (n c : Nat) (ks : List RK) (w : World) (hl : ks.length = n) (hn : n ≤ 1000000) (hw : WfAll ks) (hr : Has w w.heap.size A (flat ks)) :
    Calls Try.prog 18 #[.slice A n c] w fun e w' => e = .returned (.int .i64 ((kinds ks).length : Int)) ∧ Fr w w' := by
  have Hl := keep hl
  clear hl
  go_enter Try.func18, Try.ntmps18
  go_wp2_with fail
  go_loopg [3, 4] n (fun g m i wr => ∃ j : Nat, j + g = n ∧ i = .int .i64 j ∧ m = .int .i64 ((kinds (ks.take j)).length : Int) ∧ Fr w wr)
  case atStart => exact ⟨0, by omega, rfl, rfl, fr_refl w⟩
  case round =>
    obtain ⟨i, hj, rfl, rfl, hF⟩ := hrel
    obtain ⟨go, rfl⟩ : ∃ go : Nat, go = gk := ⟨_, rfl⟩
    have Hi := keep hj
    by_cases hlt : i < n
    · obtain ⟨k, hk⟩ : ∃ k, ks[i]? = some k := ⟨ks[i]'(by have := Hl.out; omega), List.getElem?_eq_getElem _⟩
      have wk : k.wf := hw k (List.mem_of_getElem? hk)
      obtain ⟨b, off, rfl, hb, hka⟩ := hask_at hr hk
      have Ht := keep (take_snoc hk)
      have Hk := keep hk
      have hm1 : ((kinds (ks.take i)).length : Int) ≤ 1000000 := by have := kinds_le (ks.take i); have := List.length_take_le i ks; omega
      have hm0 : 0 ≤ ((kinds (ks.take i)).length : Int) := by omega
      clear hj hk
      go_wp2_with fail
      obtain ⟨wo, rfl⟩ : ∃ wo : World, wo = wr := ⟨_, rfl⟩
      go_loopg [5, 6] i (fun g f q wr => ∃ j : Nat, j + g = i ∧ q = .int .i64 j ∧ f = .bool (decide (k ∉ ks.take j)) ∧ Fr w wr)
      case atStart => exact ⟨0, by omega, rfl, by simp, hF⟩
      case round =>
        clear hF
        obtain ⟨j, hj2, rfl, rfl, hF⟩ := hrel
        have Hj := keep hj2
        by_cases hlt2 : j < i
        · obtain ⟨x, hx⟩ : ∃ x, ks[j]? = some x := ⟨ks[j]'(by have := Hl.out; omega), List.getElem?_eq_getElem _⟩
          have wx : x.wf := hw x (List.mem_of_getElem? hx)
          have hxa : KeyAt w b (off + j * 9) x := by
            obtain ⟨b', off', e, _, h⟩ := hask_at hr hx
            injection e with e
            injection e with e1 e2
            subst e1 e2
            exact h
          have Hx := keep (take_snoc hx)
          have jn : j < n := by omega
          clear hj2 hx
          by_cases hm : k ∈ ks.take j
          · have hd : decide (k ∉ ks.take j) = false := by simpa using hm
            have hd2 : Hid (decide (k ∉ ks.take (j + 1)) = false) := keep (by rw [Hx.out]; simp; exact fun h => absurd hm h)
            rw [hd]
            clear hd hm
            go_wp2_with fail
            go_quiet (fail)
            go_wp2_with fail
            go_roundg (gk - 1)
            case measure => have := Hj.out; omega
            case rel => exact ⟨j + 1, by have := Hj.out; omega, by go_num, by rw [hd2.out], fr_drewN hF _⟩
          · have hd : decide (k ∉ ks.take j) = true := by simpa using hm
            have hne : ∀ W, (binOp .neq 24 (kv x) (kv k)).run Try.prog W = .ok (.bool (!decide (x = k))) W := key_neq wx wk
            have hd2 : Hid ((!decide (x = k)) = decide (k ∉ ks.take (j + 1))) := keep (by
              rw [Hx.out, Bool.eq_iff_iff]
              simp [hm]
              exact ⟨fun h e => h e.symm, fun h e => h e.symm⟩)
            obtain ⟨x0, x1, x2, x3, x4, x5, x6, x7, x8⟩ := (hxa.below hF hb).cells
            obtain ⟨k0, k1, k2, k3, k4, k5, k6, k7, k8⟩ := (hka.below hF hb).cells
            generalize (!decide (x = k)) = dd at hne hd2
            rw [hd]
            clear hd hm
            go_wp2_with fail
            go_quiet (fail)
            go_wp2_with fail
            go_roundg (gk - 1)
            case measure => have := Hj.out; omega
            case rel => exact ⟨j + 1, by have := Hj.out; omega, by go_num, by rw [hd2.out], fr_drewN hF _⟩
        · obtain rfl : j = i := by omega
          clear hj2
          by_cases hm : k ∈ ks.take j
          · have hd : decide (k ∉ ks.take j) = false := by simpa using hm
            have Hs := keep (kinds_step (l := ks.take j) (k := k))
            have Hm := keep hm
            rw [hd]
            clear hd hm
            go_wp2_with fail
            go_roundg (go - 1)
            case measure => have := Hi.out; omega
            case rel => exact ⟨j + 1, by have := Hi.out; omega, by go_num, by rw [Ht.out, Hs.out, if_pos Hm.out]; go_num, hF⟩
          · have hd : decide (k ∉ ks.take j) = true := by simpa using hm
            have Hs := keep (kinds_step (l := ks.take j) (k := k))
            have Hm := keep hm
            rw [hd]
            clear hd hm
            go_wp2_with fail
            go_roundg (go - 1)
            case measure => have := Hi.out; omega
            case rel => exact ⟨j + 1, by have := Hi.out; omega, by go_num, by rw [Ht.out, Hs.out, if_neg Hm.out], hF⟩
    · obtain rfl : i = n := by omega
      have Hx := keep (show ks.take i = ks from by rw [← Hl.out, List.take_length])
      clear hj
      go_wp2_with fail
      go_ret
      exact ⟨ret_int (by rw [Hx.out]), hF⟩
end Go.Proofs.Ytfjglbkolhadaaa
