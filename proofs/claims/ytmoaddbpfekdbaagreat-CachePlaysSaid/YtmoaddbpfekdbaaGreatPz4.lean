/- CachePlays, walked. -/
import Derived.Test.YtmoaddbpfekdbaaGreatPz3
import Derived.Test.YtmoaddbpfekdbaaGreatPgOp
namespace Go.Proofs.YtmoaddbpfekdbaaGreat
set_option linter.unusedVariables false
set_option linter.unusedSimpArgs false
set_option linter.unusedSectionVars false
set_option maxRecDepth 100000
open Go.RowKit
section
variable {w0 W : World} {gp gd n K : Nat} {t d : Ca NX}
theorem frames_core (h : PR w0 W gp gd n K t d) (hK : K ≤ 1000) :
    Calls Tryz.prog 9 #[.pointer (some ⟨gp, 0, none⟩), .pointer (some ⟨gd, 0, none⟩)] W fun e w' => e = .returned (.bool true) ∧ Fr W w' := by
  obtain ⟨hp, hd, hpd, hrl⟩ := h
  have hbd := rl_bd hrl hpd.pn.bd
  have b1 : d.fs.length ≤ 1000 := by have := hbd.len; have := hpd.pn.sm.2; omega
  have b2 : d.line.length ≤ 100000 := by have := hbd.ln; omega
  have b3 : d.loads.length ≤ 100000 := by have := hbd.ld; omega
  have hq : (lineC t).length ≤ 1000 := by
    unfold lineC
    rw [List.length_map]
    have := hpd.pn.bd.ln
    omega
  refine lawframes_at (l2 := d.fs) (q := lineC t) (z := ((freeN t.fs : Nat) : Int)) (m := mayC t) (P1 := fun w' l1 => l1.map (mF NX.n) = t.fs.map (mF NX.n) ∧ ∀ f ∈ l1, NP w' (fun _ => True) f.node.v f.node.n) (fun W1 l1 q => ?_) b1 hq (fun V f => ?_) (fun V f => ?_) (fun V f => l_free (hpd.pn.fr f)) (fun V f => ?_) (fun V f => ?_) (fun V f => ?_) (fun V z f => l_may (hpd.pn.fr f) hK z) (fun V z f => ?_) (fun W1 l1 f q j f1 f2 h1 h2 => ?_)
  · have e := congrArg List.length q.1
    simp only [List.length_map] at e
    exact e.trans (rl_len hrl).1.symm
  · refine (l_frames (hpd.pn.fr f)).mono ?_
    rintro e w' ⟨O, c, l', rfl, H⟩
    exact ⟨O, n, c, l', rfl, keep ⟨H.out.1.res, H.out.2, H.out.1.same, fun x hx => (H.out.1.nod x hx).weak fun _ _ _ => trivial⟩⟩
  · exact dframes_at (hpd.dc.fr f) (by omega)
  · refine (dfreen_at (hpd.dc.fr f) (by omega)).mono ?_
    rintro e w' ⟨rfl, rfl⟩
    exact ⟨by rw [rl_free hrl], fr_refl _⟩
  · refine (l_line (hpd.pn.fr f) hK).mono ?_
    rintro e w' ⟨O, c, rfl, H⟩
    exact ⟨O, _, c, rfl, H⟩
  · have := dline_at (hpd.dc.fr f) b2
    rw [rl_line hrl] at this
    exact this
  · refine (dmay_at z (hpd.dc.fr f) (by omega) b2 b3).mono ?_
    rintro e w' ⟨rfl, rfl⟩
    exact ⟨by rw [rl_may hrl], fr_refl _⟩
  · obtain ⟨f0, k1, k2⟩ := rl_get hrl h2
    have e : mF NX.n f1 = mF NX.n f0 := by
      have := congrArg (fun l : List (Fra RN) => l[j]?) q.1
      simp only [List.getElem?_map, h1, k1, Option.map_some, Option.some.injEq] at this
      exact this
    obtain ⟨e1, e2, e3, e4, e5, e6⟩ := mf_eq (e.trans k2)
    exact ⟨e1, e2, e3, e4, e5, fun V hV => same_nx (w := V) ((q.2 f1 (List.mem_of_getElem? h1)).fr hV) (by rw [e6]; exact ((hpd.nd f2 (List.mem_of_getElem? h2)).fr f).fr hV) V (fr_refl _)⟩
theorem node_in (d : Ca NX) (x : Int) : (∃ f ∈ d.fs, (nodC d x).1 = f.node) ∨ (nodC d x).1 = default := by
  unfold nodC
  cases readyI d x with
  | none => exact .inr rfl
  | some i =>
    simp only
    unfold fr
    rw [List.getD_eq_getElem?_getD]
    cases h : d.fs[i]? with
    | none => exact .inr rfl
    | some f => exact .inl ⟨f, List.mem_of_getElem? h, rfl⟩
theorem n_prog (h : PR w0 W gp gd n K t d) {x : Int} (hx : W64 x) {r : Bool} (hr : (nodC t x).2 = r) :
    Calls Tryz.prog 10 #[.pointer (some ⟨gp, 0, none⟩), .int .i64 x] W fun e w' => ∃ v : NV, e = .returned (.tuple #[nv v, .bool r]) ∧ Hid (NP w' (fun _ => True) v (nodC t x).1.n ∧ Fr W w') := by
  obtain ⟨hp, hd, hpd, hrl⟩ := h
  subst hr
  refine (l_node hpd.pn x hx).mono ?_
  rintro e w' ⟨v, rfl, h1, h2⟩
  exact ⟨v, rfl, keep ⟨h1.out, h2⟩⟩
theorem n_doc (h : PR w0 W gp gd n K t d) {x : Int} {r : Bool} (hr : (nodC t x).2 = r) :
    Calls Tryz.prog 11 #[.pointer (some ⟨gd, 0, none⟩), .int .i64 x] W fun e w' => ∃ v : NV, e = .returned (.tuple #[nv v, .bool r]) ∧ Hid (NP w' (fun _ => True) v (nodC t x).1.n ∧ Fr W w') := by
  obtain ⟨hp, hd, hpd, hrl⟩ := h
  subst hr
  obtain ⟨q1, q2⟩ := rl_node hrl x
  have hbd := rl_bd hrl hpd.pn.bd
  refine (dnode_at x hpd.dc (by have := hbd.len; have := hpd.pn.sm.2; omega)).mono ?_
  rintro e w' ⟨rfl, f⟩
  refine ⟨(nodC d x).1.v, by rw [q2]; rfl, keep ⟨?_, f⟩⟩
  rw [← q1]
  rcases node_in d x with ⟨f0, h1, h2⟩ | e
  · rw [h2]; exact ((hpd.nd f0 h1).fr f).weak fun _ _ _ => trivial
  · rw [e]; exact zeroN_np
theorem pr_new {w w1 w2 : World} {gp gd n : Nat} (h1 : (∃ h, PN w1 gp h n 0 (newC n : Ca NX) ∧ ∀ k, PHX gp h k → w.heap.size ≤ k) ∧ Fr w w1) (h2 : ∃ h, DC w2 gd h (newC n : Ca NX) ∧ (∀ k, CHX gd h k → w1.heap.size ≤ k) ∧ Fr w1 w2) : PR w w2 gp gd n 0 (newC n) (newC n) := by
  obtain ⟨⟨hp, a1, a2⟩, a3⟩ := h1
  obtain ⟨hd, c1, c2, c3⟩ := h2
  have hz : ∀ f ∈ (newC n : Ca NX).fs, NP w2 (Apt gp hp gd hd) f.node.v f.node.n := fun f hf => by
    rw [List.eq_of_mem_replicate hf]; exact zeroN_np
  exact ⟨hp, hd, ⟨a1.fr c3, c1, hz, hz, a2, fun k hk => Nat.le_trans a3.size (c2 k hk), fr_step a3 c3⟩, rl_new n⟩
end
theorem few_wf {s : Sp} (h : s.wf) (i : Nat) : (fewC s i).wf := by
  obtain ⟨h1, h2, h3, h4⟩ := h
  unfold fewC
  split
  · refine ⟨h1, ?_, ?_, h4⟩
    · show I64 (s.t % 6)
      unfold I64
      omega
    · show I64 (s.id % 8)
      unfold I64
      omega
  · exact ⟨h1, h2, h3, h4⟩
theorem step16_zero (w : World) : Arr (w.alloc (.cells #[.int .i64 0, .int .i64 0, .int .i64 0, .int .i64 0] 32)) w.heap.size 32 [Value.int .i64 0, .int .i64 0, .int .i64 0, .int .i64 0].toArray := Arr.new w _ _
attribute [local go_sem ↓] node16_ld step16_ld
set_option maxHeartbeats 64000000 in
theorem plays_core {w : World} {n : Int} {A : Option Addr} {m cc : Nat} {l : List Sp} (hn : -9223372036854775808 ≤ n ∧ n ≤ 9223372036854775807) (hl : l.length = m) (hm : m ≤ maxLen) (hw : ∀ s ∈ l, s.wf) (hA : Has w w.heap.size A (rows spc l)) :
    Calls Tryz.prog 3 #[.int .i64 n, .slice A m cc] w fun e w' => e = .returned (.bool true) ∧ Fr w w' := by
  have HL := keep hl
  have HW := keep hw
  have HA := keep hA
  clear hA hl hw
  by_cases hn1 : n < 1 ∨ 64 < n
  · go_enter Tryz.func3, Tryz.ntmps3
    have HN1 := keep hn1
    clear hn1
    go_wp2_with (first
      | (go_at_call 4; (with_reducible refine (pnew_no _ n HN1.out).mono ?_); rintro e w1 ⟨rfl, rfl⟩)
      | (go_at_call 5; (with_reducible refine (dnew_no _ n HN1.out).mono ?_); rintro e w2 ⟨rfl, rfl⟩)
      | (go_at_call 6; (with_reducible refine (awake16 _).mono ?_); rintro e w9 ⟨rfl, f9⟩; have HZ := keep f9)
      | fail)
    go_ret
    exact ⟨rfl, HZ.out⟩
  · obtain ⟨k, rfl⟩ : ∃ k : Nat, n = (k : Int) := ⟨n.toNat, by omega⟩
    have hk1 : 1 ≤ k := by omega
    have hk2 : k ≤ 64 := by omega
    clear hn1 hn
    by_cases hlen : m ≤ 120
    · have hz : ¬ (120 : Int) < (m : Int) := by omega
      go_enter Tryz.func3, Tryz.ntmps3
      go_wp2_with (first
        | (go_at_call 4; (with_reducible refine (l_new _ k hk1 hk2).mono ?_); rintro e w1 ⟨gp, rfl, H1⟩)
        | (go_at_call 5; (with_reducible refine (dnew_yes (V := NX) w1 k hk1 hk2).mono ?_); rintro e w2 ⟨gd, rfl, H2⟩; have H3 := keep (pr_new H1.out H2.out); clear H1 H2)
        | fail)
      go_loopg [9] m (fun gg s9 wr => ∃ (j : Nat) (t d : Ca NX), j + gg = m ∧ s9 = .int .i64 j ∧ Hid (PR w wr gp gd k j t d))
      case atStart => exact ⟨0, _, _, by omega, rfl, H3⟩
      case round =>
        clear H3
        obtain ⟨j, t, d, hj, rfl, HI⟩ := hrel
        by_cases hlt : j < m
        · have hjz : (j : Int) < (m : Int) := by omega
          have hK : j ≤ 1000 := by omega
          have hK1 : j + 1 ≤ 1000 := by omega
          have wj : IntKind.i64.wrap ((j : Int) + 1) = (j : Int) + 1 := by rw [IntKind.wrap_i64]; omega
          obtain ⟨s, hs⟩ : ∃ s, l[j]? = some s := ⟨l[j]'(by rw [HL.out]; exact hlt), List.getElem?_eq_getElem _⟩
          have hwf := few_wf (HW.out s (List.mem_of_getElem? hs)) j
          obtain ⟨-, hw2, hw3, -⟩ := HW.out s (List.mem_of_getElem? hs)
          obtain ⟨bA, oA, hA, hb1, hr⟩ := has_rows HA.out (spc_wid l) (by decide) (by intro e; rw [e] at hs; simp at hs)
          subst hA
          have lX := elem_ld step16_ty hr (spc_wid l) hb1 hs wr HI.out.frw
          have cF := few_at wr s j (by omega) hw2 hw3
          obtain ⟨s', hs'⟩ : ∃ s', s' = fewC s j := ⟨_, rfl⟩
          rw [← hs'] at cF hwf
          obtain ⟨what, tk, id, nz⟩ := s'
          obtain ⟨-, isT0, isD0, isN0⟩ := hwf
          have isT : W64 tk := ⟨isT0.1, isT0.2⟩
          have isD : W64 id := ⟨isD0.1, isD0.2⟩
          have isN : Is64 nz := ⟨isN0.1, isN0.2⟩
          clear isT0 isD0 isN0
          have CF : Hid (Calls Tryz.prog 7 #[.agg (spc s).toArray, .int .i64 (j : Int)] wr fun e w' => e = .returned (.agg #[.int .i64 what, .int .i64 tk, .int .i64 id, .int .i64 nz]) ∧ Fr wr w') := keep cF
          have HJ := keep (show j + gk = m ∧ j < m from ⟨hj, hlt⟩)
          clear hs hw2 hw3 hb1 hr cF hs' hj hlt
          go_wp2_with (first
            | (go_at_call 7; (with_reducible refine CF.out.mono ?_); rintro e w5 ⟨rfl, f5⟩; have H5 := keep (HI.out.go f5); clear f5)
            | (refine wpList_store_at (ds := [.int .i64 what, .int .i64 tk, .int .i64 id, .int .i64 nz]) step16_info rfl (.tmp 10) (.tmp 54) rfl w5.heap.size 0 rfl rfl rfl (.cons rfl (.cons rfl (.cons rfl (.cons rfl .nil)))) (step16_zero w5) (Nat.le_refl 4) (splice_all _ _ (Nat.le_refl 4)) ?_; intro W6 hA6 hk6; have H6 := keep (H5.out.go (hk6.fr (fr_new (fr_refl w5) _) (Nat.le_refl _))); have X6 := keep hA6; have lY := step16_ty.ld (w := W6) rfl hA6; clear hA6 hk6)
            | (go_at_call 8; (with_reducible refine (does_core H6.out hK isT isD isN).mono ?_); rintro e w7 ⟨rfl, h7⟩; obtain ⟨t7, d7, p7, k7⟩ := h7.out; have H7 := keep p7; have X7 := keep (k7 _ _ _ X6.out (by decide) (by decide) (by decide) (by decide) (by decide) (by decide)); clear p7 k7)
            | (go_at_call 9; (with_reducible refine (frames_core H7.out hK1).mono ?_); rintro e w8 ⟨rfl, f8⟩; have H8 := keep (H7.out.go f8); have X8 := keep (X7.out.below f8 X7.out.lt); have y8 : w8.cell? ⟨w5.heap.size, 2, none⟩ = some (.int .i64 id) := ((X7.out.below f8 X7.out.lt).cell 2).trans rfl; clear f8; obtain ⟨r, hr⟩ : ∃ r, (nodC t7 id).2 = r := ⟨_, rfl⟩; have HR := keep hr; clear hr; have hrr : (r != r) = false := by simp)
            | (go_at_call 10; (with_reducible refine (n_prog H8.out isD HR.out).mono ?_); rintro e w9 ⟨v9, rfl, h9⟩; have H9 := keep (H8.out.go h9.out.2); have X9 := keep (X8.out.below h9.out.2 X8.out.lt); have N9 := keep h9.out.1)
            | (refine wpList_store_at (ds := v9.cells) node16_info rfl (.tmp 11) (.tmp 71) rfl w9.heap.size 0 rfl rfl rfl (nv_onex v9) (Arr.new w9 zeroNV.cells.toArray 41) (by decide) (splice_all _ _ (by show 5 ≤ 5; decide)) ?_; intro Wa hAa hka; have fa := hka.fr (fr_new (fr_refl w9) _) (Nat.le_refl _); have Ha := keep (H9.out.go fa); have Ya := keep hAa; have Na := keep (N9.out.fr fa); have ya : Wa.cell? ⟨w5.heap.size, 2, none⟩ = some (.int .i64 id) := ((X9.out.below fa X9.out.lt).cell 2).trans rfl; clear hAa hka fa)
            | (go_at_call 11; (with_reducible refine (n_doc Ha.out HR.out).mono ?_); rintro e wb ⟨vb, rfl, hb⟩; have Hb := keep (Ha.out.go hb.out.2); have Yb := keep (Ya.out.below hb.out.2 Ya.out.lt); have Nb := keep (Na.out.fr hb.out.2); have Mb := keep hb.out.1)
            | (refine wpList_store_at (ds := vb.cells) node16_info rfl (.tmp 13) (.tmp 78) rfl wb.heap.size 0 rfl rfl rfl (nv_onex vb) (Arr.new wb zeroNV.cells.toArray 41) (by decide) (splice_all _ _ (by show 5 ≤ 5; decide)) ?_; intro Wc hAc hkc; have fc' := hkc.fr (fr_new (fr_refl wb) _) (Nat.le_refl _); have Hc := keep (Hb.out.go fc'); have CS := keep (same_nx (Nb.out.fr fc') (Mb.out.fr fc') Wc (fr_refl _)); have l1 := node16_ty.ld (w := Wc) (show v9.cells.length = 5 from rfl) (Yb.out.below fc' Yb.out.lt); have l2 := node16_ty.ld (w := Wc) (show vb.cells.length = 5 from rfl) hAc; change (ldS 41 _).run Tryz.prog Wc = .ok (nv v9) Wc at l1; change (ldS 41 _).run Tryz.prog Wc = .ok (nv vb) Wc at l2; clear hAc hkc fc')
            | (go_at_call 12; (with_reducible refine CS.out.mono ?_); rintro e wd ⟨rfl, fd⟩; have Hd := keep (Hc.out.go fd); clear fd)
            | fail)
          go_roundg (gk - 1)
          case measure => have := HJ.out; omega
          case rel => exact ⟨j + 1, _, _, by have := HJ.out; omega, rfl, Hd⟩
        · obtain rfl : j = m := by omega
          have hjz : ¬ (j : Int) < (j : Int) := by omega
          have hK : j ≤ 1000 := by omega
          clear hlt
          go_wp2_with (first
            | (go_at_call 9; (with_reducible refine (frames_core HI.out hK).mono ?_); rintro e w8 ⟨rfl, f8⟩; have H8 := keep (HI.out.go f8); clear f8)
            | (go_at_call 6; (with_reducible refine (awake16 _).mono ?_); rintro e w9 ⟨rfl, f9⟩; have HZ := keep (fr_step H8.out.frw f9))
            | fail)
          go_ret
          exact ⟨rfl, HZ.out⟩
    · have hz : (120 : Int) < (m : Int) := by omega
      clear hlen
      go_enter Tryz.func3, Tryz.ntmps3
      go_wp2_with (first
        | (go_at_call 4; (with_reducible refine (l_new _ k hk1 hk2).mono ?_); rintro e w1 ⟨gp, rfl, H1⟩)
        | (go_at_call 5; (with_reducible refine (dnew_yes (V := NX) w1 k hk1 hk2).mono ?_); rintro e w2 ⟨gd, rfl, H2⟩; have H3 := keep (pr_new H1.out H2.out); clear H1 H2)
        | (go_at_call 6; (with_reducible refine (awake16 _).mono ?_); rintro e w9 ⟨rfl, f9⟩; have HZ := keep (fr_step H3.out.frw f9))
        | fail)
      go_ret
      exact ⟨rfl, HZ.out⟩
end Go.Proofs.YtmoaddbpfekdbaaGreat
