/- The document's latch: give. -/
import Derived.Test.YtbnphkiipjgfaaaLaJ
namespace Go.Proofs.Ytbnphkiipjgfaaa
set_option linter.unusedVariables false
set_option linter.unusedSimpArgs false
set_option maxRecDepth 100000
open Go.RowKit
theorem fr_none {w W : World} (h : Chg (At none) w W) : Fr w W := h.below (Nat.le_refl _) fun i hi => by cases hi
theorem arr_has' {w : World} {g T : Nat} {cs : List Value} (h : Arr w g T cs.toArray) : Has w (g + 1) (some ⟨g, 0, none⟩) cs := arr_part (o := 0) h (fun j u hu => by rw [Nat.zero_add]; exact hu)
theorem step_append_nil {P : Program} {w : World} {ops : Array Oper} {o : Oper} {a : Act} {K : Act → World → Prop} {Q : Exit → Act → World → Prop} {E0 : Prop} {e size bytes t : Nat} (E : Elem P e size bytes) (ht : P.underlying t = some (.slice e)) (hsz : 0 < size) (hw : Region.wanted o (yielded ops a.tmps) = true) (s x : Operand)
    (hop : o.op = .call { callee := .builtin .append, args := #[s, x], argTypes := #[t, t] }) (hs : a.eval s = .slice none 0 0)
    (C : Nat) (A2 : Option Addr) (m c2 : Nat) (news : List Value) (hx : a.eval x = .slice A2 m c2) (hl : news.length = m * size) (hn : Has w C A2 news) (h1 : One news) (h63 : m ≤ maxLen) (hbytes : m * bytes ≤ 140737488355328)
    (hK : ∀ A' c' w', Rw w' e size A' m c' news → Put w w' none A' → K (a.put o.dst (.slice A' m c')) w') : if Region.wanted o (yielded ops a.tmps) = true then Oper.wp P o a w K Q else E0 :=
  step_append_rw E ht hsz hw s x hop none 0 0 [] hs (Rw.nil _ _ _) C A2 m c2 news hx hl hn h1 (by omega) (by rw [Nat.zero_add]; exact hbytes) fun A' c' w' h2 h3 => by
    rw [Nat.zero_add] at h2 ⊢
    exact hK A' c' w' h2 h3
section
variable {w X W : World} {g n c m d n' c' : Nat} {A Q B : Option Addr} {t : Lat}
/-- The readers laid anew in a new block. -/
theorem dturn_new {rs : List Int} (hP : DB w g A n c Q m d t) (hF : Fr w X) (hr : Rw X 3 1 B n' c' (rows ic rs)) (hn : ∀ k, At B k → w.heap.size ≤ k) (ha : Arr W g 45 #[.slice B n' c', .int .i64 t.wr, .slice Q m d, .int .i64 t.pn]) (k2 : Chg (· = g) X W) : DTurn w W (LX g A Q) g { t with rs := rs } := by
  have hPU := hP.fr hF
  refine ⟨B, n', c', Q, m, d, ⟨ha, hr.chg k2 fun b hb e => ?_, hPU.q.chg k2 fun b hb e => hPU.ng.2 (e ▸ hb)⟩, (Chg.of_fr _ hF).trans' k2 fun i _ e => .inl e, fun k hk => ?_⟩
  · have := hn b hb
    have := hP.box.lt
    omega
  · rcases hk with hk | hk | hk
    · exact .inl (.inl hk)
    · exact .inr (hn k hk)
    · exact .inl (.inr (.inr hk))
end
set_option maxHeartbeats 1000000 in
theorem rgive_write {w : World} {g n c m d : Nat} {A Q : Option Addr} {t : Lat} {x : Int} (h : DB w g A n c Q m d t) :
    Calls Try.prog 39 #[.pointer (some ⟨g, 0, none⟩), .int .i64 x, .bool true] w fun e w' => e = .returned (.tuple #[]) ∧ Hid (DTurn w w' (LX g A Q) g (giveT t (x, true))) := by
  have HP := keep h
  clear h
  go_enter Try.func39, Try.ntmps39
  go_wp2_with (first
    | (refine wpList_store_chg (cs' := [.slice A n c, .int .i64 x, .slice Q m d, .int .i64 t.pn]) int_info rfl (.tmp 12) (.tmp 10) rfl g 1 rfl rfl rfl (ic_one x) HP.out.box (show 2 ≤ 4 by decide) rfl ?_; intro W hA hK)
    | fail)
  go_returns
  exact ⟨rfl, keep (dturn_put HP.out hA hK)⟩
set_option maxHeartbeats 4000000 in
theorem rgive_read {w : World} {g n c m d : Nat} {A Q : Option Addr} {t : Lat} {x : Int} (h : DB w g A n c Q m d t) (hs : t.rs.Pairwise (· ≤ ·)) (hl : t.rs.length ≤ 100000) :
    Calls Try.prog 39 #[.pointer (some ⟨g, 0, none⟩), .int .i64 x, .bool false] w fun e w' => e = .returned (.tuple #[]) ∧ Hid (DTurn w w' (LX g A Q) g (giveT t (x, false))) := by
  obtain ⟨k0, -, -, -⟩ := h.cells
  have hn := h.nlen.1
  have HN := keep hn
  have HP := keep h
  have Hs := keep hs
  have hn1 : n ≤ 100000 := by omega
  have b1 := h.box.lt
  have hb := h.box
  have HB := keep hb
  clear h hs hn hl hb
  go_enter Try.func39, Try.ntmps39
  go_wp2_with fail
  go_loopg [6] n (fun gg s6 wr => ∃ j : Nat, j + gg = n ∧ s6 = .int .i64 j ∧ w = wr ∧ Hid (∀ i z, i < j → t.rs[i]? = some z → z < x))
  case atStart => exact ⟨0, by omega, rfl, rfl, keep (fun i z h => by omega)⟩
  case round =>
    obtain ⟨j, hj, rfl, rfl, hno⟩ := hrel
    by_cases hgo : ∃ z, t.rs[j]? = some z ∧ z < x
    · obtain ⟨z, hm, hz⟩ := hgo
      have hlt : j < n := by rw [← HN.out]; exact (List.getElem?_eq_some_iff.1 hm).1
      obtain ⟨b, off, rfl, hb1, hr⟩ := has_rows HP.out.rs.has (ic_wid _) (by decide) (by intro e; rw [e] at hm; simp at hm)
      have lX := elem_cell0 hr (ic_wid _) (by omega) hm (u := .int .i64 z) rfl w (fr_refl w)
      rw [Nat.mul_one] at lX
      have Hm := keep hm
      have hjz : (j : Int) < (n : Int) := by omega
      clear hm hr hlt
      go_wp2_with fail
      go_roundg (gk - 1)
      case measure => omega
      case rel => exact ⟨j + 1, by omega, rfl, rfl, keep (fun i z ht hx => by
        by_cases e : i = j
        · subst e
          rw [Hm.out] at hx
          injection hx with hx
          rw [← hx]; exact hz
        · exact hno.out i z (by omega) hx)⟩
    · have hp : j = plT t.rs x := pl_unique (by rw [HN.out]; omega) hno.out (fun z hz => by
        rcases Int.lt_or_le z x with h | h
        · exact absurd ⟨z, hz, h⟩ hgo
        · exact h)
      have hend : rows ic (giveT t (x, false)).rs = (rows ic (t.rs.take j) ++ ic x) ++ rows ic (t.rs.drop j) := by
        rw [hp]
        simp only [giveT, insT, rows_append, rows_cons, List.append_assoc, Bool.false_eq_true, if_false]
      have hend2 : rows ic (insT t.rs x) = (rows ic (t.rs.take j) ++ ic x) ++ rows ic (t.rs.drop j) := hend
      have hgv : giveT t (x, false) = { t with rs := insT t.rs x } := rfl

      have hwk : (∃ z, t.rs[j]? = some z ∧ j < n ∧ ¬ z < x) ∨ ¬ j < n := by
        by_cases hlt : j < n
        · have hm : t.rs[j]? = some (t.rs[j]'(by rw [HN.out]; exact hlt)) := List.getElem?_eq_getElem _
          exact .inl ⟨_, hm, hlt, fun h => hgo ⟨_, hm, h⟩⟩
        · exact .inr hlt
      have hjn : j ≤ n := by omega
      have HE := keep hend2
      obtain ⟨p, hpj⟩ : ∃ p, p = j := ⟨_, rfl⟩
      rw [← hpj] at hwk HE hjn ⊢
      clear hend hend2 hp hgo hgv hno hj hpj
      have hs1 := HP.out.rs.pre (i := p) hjn
      have hs2 := HP.out.rs.suf (i := p) hjn
      rw [← rows_take (ic_wid _)] at hs1
      rw [← rows_drop (ic_wid _)] at hs2
      have HS1 := keep hs1.has
      have HS2 := keep hs2.has
      have HL1 := keep hs1.len
      have HL2 := keep hs2.len
      have HO1 := keep (rows_one ic_one (t.rs.take p))
      have HO2 := keep (rows_one ic_one (t.rs.drop p))
      have hend := HE.out.symm
      have hpc : p ≤ c := Nat.le_trans hjn HP.out.rs.cap
      have q1 := i_slice_hi A n c p hpc
      have q2 := i_slice_lo A n c p hjn
      have c0 : ∀ W, Fr w W → W.cell? ⟨g, 0, none⟩ = some (.slice A n c) := fun W f => (f.cell b1).trans k0
      have ww := fr_refl w
      have wd := fr_drew ww
      have fd := wd
      clear hs1 hs2 HE
      rcases hwk with ⟨z, hm, hlt, hz⟩ | hlt
      · obtain ⟨b, off, rfl, hb1, hr⟩ := has_rows HP.out.rs.has (ic_wid _) (by decide) (by intro e; rw [e] at hm; simp at hm)
        have lX := elem_cell0 hr (ic_wid _) (by omega) hm (u := .int .i64 z) rfl w (fr_refl w)
        rw [Nat.mul_one] at lX
        have hjz : (p : Int) < (n : Int) := by omega
        have hend := keep hend
        clear hm hr hlt
        go_wp2_with fail
        replace hend := hend.out
        refine wp_region_noPanic ?_
        refine wp_region_held_drew (S := fun W => Fr w W) (by kernel_rfl) wd (fun hHeld => ?_)
        change wpAnyH _ _ _ _ _ _ _ _ _
        refine wpAnyH_take (i := 0) (v := ?_) rfl (by kernel_rfl) (by kernel_rfl) (by kernel_rfl) (fun _ _ _ h => h) (Or.inl ⟨by rfl, ?_⟩) (by assumption) ?_
        rotate_left
        · intro w' hSw
          try dsimp only at hSw
          go_simp
          try with_reducible rfl
        try simp only [List.getElem_toArray, List.getElem_cons_zero, Act.put, List.setIfInBounds_toArray, List.set_cons_zero, List.set_cons_succ]
        refine wpAnyH_take (i := 1) (v := ?_) rfl (by kernel_rfl) (by kernel_rfl) (by kernel_rfl) (fun _ _ _ h => h) (Or.inl ⟨by rfl, ?_⟩) (by assumption) ?_
        rotate_left
        · intro w' hSw
          try dsimp only at hSw
          go_simp
          try with_reducible rfl
        try simp only [List.getElem_toArray, List.getElem_cons_succ, List.getElem_cons_zero, Act.put, List.setIfInBounds_toArray, List.set_cons_zero, List.set_cons_succ]
        refine wpAnyH_take (i := 2) (v := ?_) rfl (by kernel_rfl) (by kernel_rfl) (by kernel_rfl) (fun _ _ _ h => h) (Or.inl ⟨by rfl, ?_⟩) (by assumption) ?_
        rotate_left
        · intro w' hSw
          try dsimp only at hSw
          go_simp
          try with_reducible rfl
        try simp only [List.getElem_toArray, List.getElem_cons_succ, List.getElem_cons_zero, Act.put, List.setIfInBounds_toArray, List.set_cons_zero, List.set_cons_succ]
        refine wpAnyH_take (i := 3) (v := ?_) rfl (by kernel_rfl) (by kernel_rfl) (by kernel_rfl) (fun _ _ _ h => h) (Or.inl ⟨by rfl, ?_⟩) (by assumption) ?_
        rotate_left
        · intro w' hSw
          try dsimp only at hSw
          go_simp
          try with_reducible rfl
        try simp only [List.getElem_toArray, List.getElem_cons_succ, List.getElem_cons_zero, Act.put, List.setIfInBounds_toArray, List.set_cons_zero, List.set_cons_succ]
        refine wpAnyH_take (i := 4) (v := ?_) rfl (by kernel_rfl) (by kernel_rfl) (by kernel_rfl) (fun _ _ _ h => h) (Or.inl ⟨by rfl, ?_⟩) (by assumption) ?_
        rotate_left
        · intro w' hSw
          try dsimp only at hSw
          go_simp
          try with_reducible rfl
        try simp only [List.getElem_toArray, List.getElem_cons_succ, List.getElem_cons_zero, Act.put, List.setIfInBounds_toArray, List.set_cons_zero, List.set_cons_succ]
        refine wpAnyH_take (i := 5) (v := ?_) rfl (by kernel_rfl) (by kernel_rfl) (by kernel_rfl) (fun _ _ _ h => h) (Or.inl ⟨by rfl, ?_⟩) (by assumption) ?_
        rotate_left
        · intro w' hSw
          try dsimp only at hSw
          go_simp
          try with_reducible rfl
        try simp only [List.getElem_toArray, List.getElem_cons_succ, List.getElem_cons_zero, Act.put, List.setIfInBounds_toArray, List.set_cons_zero, List.set_cons_succ]
        refine wpAnyH_take (i := 6) (v := ?_) rfl (by kernel_rfl) (by kernel_rfl) (by kernel_rfl) (fun _ _ _ h => h) (Or.inl ⟨by rfl, ?_⟩) (by assumption) ?_
        rotate_left
        · intro w' hSw
          try dsimp only at hSw
          go_simp
          try with_reducible rfl
        try simp only [List.getElem_toArray, List.getElem_cons_succ, List.getElem_cons_zero, Act.put, List.setIfInBounds_toArray, List.set_cons_zero, List.set_cons_succ]
        refine wpAnyH_take (i := 8) (v := ?_) rfl (by kernel_rfl) (by kernel_rfl) (by kernel_rfl) (fun _ _ _ h => h) (Or.inl ⟨by rfl, ?_⟩) (by assumption) ?_
        rotate_left
        · intro w' hSw
          try dsimp only at hSw
          go_simp
          try with_reducible rfl
        try simp only [List.getElem_toArray, List.getElem_cons_succ, List.getElem_cons_zero, Act.put, List.setIfInBounds_toArray, List.set_cons_zero, List.set_cons_succ]
        refine wpAnyH_take (i := 11) (v := ?_) rfl (by kernel_rfl) (by kernel_rfl) (by kernel_rfl) (fun _ _ _ h => h) (Or.inl ⟨by rfl, ?_⟩) (by assumption) ?_
        rotate_left
        · intro w' hSw
          try dsimp only at hSw
          go_simp
          try with_reducible rfl
        try simp only [List.getElem_toArray, List.getElem_cons_succ, List.getElem_cons_zero, Act.put, List.setIfInBounds_toArray, List.set_cons_zero, List.set_cons_succ]
        refine wpAnyH_take (i := 12) (v := ?_) rfl (by kernel_rfl) (by kernel_rfl) (by kernel_rfl) (fun _ _ _ h => h) (Or.inl ⟨by rfl, ?_⟩) (by assumption) ?_
        rotate_left
        · intro w' hSw
          try dsimp only at hSw
          go_simp
          try with_reducible rfl
        try simp only [List.getElem_toArray, List.getElem_cons_succ, List.getElem_cons_zero, Act.put, List.setIfInBounds_toArray, List.set_cons_zero, List.set_cons_succ]
        refine wpAnyH_take (i := 13) (v := ?_) rfl (by kernel_rfl) (by kernel_rfl) (by kernel_rfl) (fun _ _ _ h => h) (Or.inl ⟨by rfl, ?_⟩) (by assumption) ?_
        rotate_left
        · intro w' hSw
          try dsimp only at hSw
          go_simp
          try with_reducible rfl
        try simp only [List.getElem_toArray, List.getElem_cons_succ, List.getElem_cons_zero, Act.put, List.setIfInBounds_toArray, List.set_cons_zero, List.set_cons_succ]
        refine wpAnyH_take (i := 14) (v := ?_) rfl (by kernel_rfl) (by kernel_rfl) (by kernel_rfl) (fun _ _ _ h => h) (Or.inl ⟨by rfl, ?_⟩) (by assumption) ?_
        rotate_left
        · intro w' hSw
          try dsimp only at hSw
          go_simp
          try with_reducible rfl
        try simp only [List.getElem_toArray, List.getElem_cons_succ, List.getElem_cons_zero, Act.put, List.setIfInBounds_toArray, List.set_cons_zero, List.set_cons_succ]
        refine wpAnyH_take (i := 15) (v := ?_) rfl (by kernel_rfl) (by kernel_rfl) (by kernel_rfl) (fun _ _ _ h => h) (Or.inl ⟨by rfl, ?_⟩) (by assumption) ?_
        rotate_left
        · intro w' hSw
          try dsimp only at hSw
          go_simp
          try with_reducible rfl
        try simp only [List.getElem_toArray, List.getElem_cons_succ, List.getElem_cons_zero, Act.put, List.setIfInBounds_toArray, List.set_cons_zero, List.set_cons_succ]
        refine wpAnyH_take (i := 16) (v := ?_) rfl (by kernel_rfl) (by kernel_rfl) (by kernel_rfl) (fun _ _ _ h => h) (Or.inl ⟨by rfl, ?_⟩) (by assumption) ?_
        rotate_left
        · intro w' hSw
          try dsimp only at hSw
          go_simp
          try with_reducible rfl
        try simp only [List.getElem_toArray, List.getElem_cons_succ, List.getElem_cons_zero, Act.put, List.setIfInBounds_toArray, List.set_cons_zero, List.set_cons_succ]
        refine wpAnyH_ready (rs := [7, 9]) (by kernel_rfl) (by simp) ?_
        refine AllReadyH.cons rfl (fun K hK0 => ?_) (AllReadyH.cons rfl (fun K hK0 => ?_) (AllReadyH.nil))
        · refine step_append_nil int_elem ints_under (by decide) (wanted_plain rfl _) (.tmp 33) (.tmp 39) rfl rfl w.heap.size (some ⟨b, off, none⟩) p c (rows ic (t.rs.take p)) rfl HL1.out (HS1.out.below fd) HO1.out (by simp only [maxLen]; omega) (by omega) ?_
          intro B1 b1 X1 o1 u1
          have f1 := fr_step fd (fr_none u1.chg)
          refine hK0.out _ _ f1 (fun _ => ?_)
          clear hK0 K
          try simp only [List.getElem_toArray, List.getElem_cons_succ, List.getElem_cons_zero, Act.put, List.setIfInBounds_toArray, List.set_cons_zero, List.set_cons_succ]
          refine wpAnyH_ready (rs := [9]) (by kernel_rfl) (by simp) ?_
          refine AllReadyH.cons rfl (fun K hK0 => ?_) AllReadyH.nil
          go_simp
          refine hK0.out _ _ (fr_new f1 _) (fun _ => ?_)
          clear hK0 K
          try simp only [List.getElem_toArray, List.getElem_cons_succ, List.getElem_cons_zero, Act.put, List.setIfInBounds_toArray, List.set_cons_zero, List.set_cons_succ]
          refine wpAnyH_ready (rs := [10]) (by kernel_rfl) (by simp) ?_
          refine AllReadyH.cons rfl (fun K hK0 => ?_) AllReadyH.nil
          refine step_append_rw int_elem ints_under (by decide) (wanted_plain rfl _) (.tmp 40) (.tmp 42) rfl B1 p b1 _ rfl (o1.fr (fr_new (fr_refl _) _)) (X1.heap.size + 1) (some ⟨X1.heap.size, 0, none⟩) 1 1 (ic x) rfl rfl (has_one X1 _ _) (ic_one _) (by simp only [maxLen]; omega) (by omega) ?_
          intro B2 b2 X2 o2 u2
          have n1 : ∀ k, At B1 k → w.heap.size ≤ k := fun k hk => (u1.blk k hk).elim (fun h => by cases h) (fun h => Nat.le_trans (by first | exact fd.size | exact (fr_new fd _).size) h)
          have f2 : Fr w X2 := ((fr_new f1 _)).trans (u2.chg.below (B := w.heap.size) ((fr_new f1 _)).size n1)
          refine hK0.out _ _ f2 (fun _ => ?_)
          clear hK0 K
          try simp only [List.getElem_toArray, List.getElem_cons_succ, List.getElem_cons_zero, Act.put, List.setIfInBounds_toArray, List.set_cons_zero, List.set_cons_succ]
          refine wpAnyH_ready (rs := [17]) (by kernel_rfl) (by simp) ?_
          refine AllReadyH.cons rfl (fun K hK0 => ?_) AllReadyH.nil
          refine step_append_rw int_elem ints_under (by decide) (wanted_plain rfl _) (.tmp 43) (.tmp 49) rfl B2 (p + 1) b2 _ rfl o2 w.heap.size (lowA 1 (some ⟨b, off, none⟩) c p) (n - p) (c - p) (rows ic (t.rs.drop p)) rfl HL2.out (HS2.out.below f2) HO2.out (by simp only [maxLen]; omega) (by omega) ?_
          intro B3 b3 X3 o3 u3
          have n2 : ∀ k, At B2 k → w.heap.size ≤ k := fun k hk => (u2.blk k hk).elim (n1 k) (fun h => Nat.le_trans (by first | exact f1.size | exact (fr_new f1 _).size) h)
          have f3 : Fr w X3 := f2.trans (u3.chg.below (B := w.heap.size) f2.size n2)
          have n3 : ∀ k, At B3 k → w.heap.size ≤ k := fun k hk => (u3.blk k hk).elim (n2 k) (fun h => Nat.le_trans f2.size h)
          refine hK0.out _ _ f3 (fun _ => ?_)
          clear hK0 K
          try simp only [List.getElem_toArray, List.getElem_cons_succ, List.getElem_cons_zero, Act.put, List.setIfInBounds_toArray, List.set_cons_zero, List.set_cons_succ]
          refine wpAnyH_take (i := 18) (v := ?_) rfl (by kernel_rfl) (by kernel_rfl) (by kernel_rfl) (fun _ _ _ h => h) (Or.inl ⟨by rfl, ?_⟩) (by assumption) ?_
          rotate_left
          · intro w' hSw
            try dsimp only at hSw
            go_simp
            try with_reducible rfl
          try simp only [List.getElem_toArray, List.getElem_cons_succ, List.getElem_cons_zero, Act.put, List.setIfInBounds_toArray, List.set_cons_zero, List.set_cons_succ]
          refine wpAnyH_done (by kernel_rfl) ?_ _
          refine NoPanic.normal ?_
          have O3 := keep o3
          have N3 := keep n3
          have F3 := keep f3
          clear o1 o2 o3 u1 u2 u3 n1 n2 n3
          have b3x := HB.out.below f3 HB.out.lt
          go_wp2_with (first
            | (refine wpList_store_chg (cs' := [.slice B3 (p + 1 + (n - p)) b3, .int .i64 t.wr, .slice Q m d, .int .i64 t.pn]) ints_info rfl (.tmp 54) (.tmp 52) rfl g 0 rfl rfl rfl (slice_one _ _ _) b3x (show 1 ≤ 4 by decide) rfl ?_; intro W4 hA4 hK4)
            | fail)
          go_returns
          exact ⟨rfl, keep (dturn_new HP.out F3.out (hend ▸ O3.out) N3.out hA4 hK4)⟩
        · go_simp
          refine hK0.out _ _ (fr_new fd _) (fun _ => ?_)
          clear hK0 K
          try simp only [List.getElem_toArray, List.getElem_cons_succ, List.getElem_cons_zero, Act.put, List.setIfInBounds_toArray, List.set_cons_zero, List.set_cons_succ]
          refine wpAnyH_ready (rs := [7]) (by kernel_rfl) (by simp) ?_
          refine AllReadyH.cons rfl (fun K hK0 => ?_) AllReadyH.nil
          refine step_append_nil int_elem ints_under (by decide) (wanted_plain rfl _) (.tmp 33) (.tmp 39) rfl rfl w.heap.size (some ⟨b, off, none⟩) p c (rows ic (t.rs.take p)) rfl HL1.out (HS1.out.below (fr_new fd _)) HO1.out (by simp only [maxLen]; omega) (by omega) ?_
          intro B1 b1 X1 o1 u1
          have f1 := fr_step (fr_new fd _) (fr_none u1.chg)
          have v1 : Has X1 (w.heap.size + 1) (some ⟨w.heap.size, 0, none⟩) (ic x) := arr_has' ((Arr.new w.drew _ _).chg u1.chg (fun e => by cases e))
          refine hK0.out _ _ f1 (fun _ => ?_)
          clear hK0 K
          try simp only [List.getElem_toArray, List.getElem_cons_succ, List.getElem_cons_zero, Act.put, List.setIfInBounds_toArray, List.set_cons_zero, List.set_cons_succ]
          refine wpAnyH_ready (rs := [10]) (by kernel_rfl) (by simp) ?_
          refine AllReadyH.cons rfl (fun K hK0 => ?_) AllReadyH.nil
          refine step_append_rw int_elem ints_under (by decide) (wanted_plain rfl _) (.tmp 40) (.tmp 42) rfl B1 p b1 _ rfl o1 (w.heap.size + 1) (some ⟨w.heap.size, 0, none⟩) 1 1 (ic x) rfl rfl v1 (ic_one _) (by simp only [maxLen]; omega) (by omega) ?_
          intro B2 b2 X2 o2 u2
          have n1 : ∀ k, At B1 k → w.heap.size ≤ k := fun k hk => (u1.blk k hk).elim (fun h => by cases h) (fun h => Nat.le_trans (by first | exact fd.size | exact (fr_new fd _).size) h)
          have f2 : Fr w X2 := (f1).trans (u2.chg.below (B := w.heap.size) (f1).size n1)
          refine hK0.out _ _ f2 (fun _ => ?_)
          clear hK0 K
          try simp only [List.getElem_toArray, List.getElem_cons_succ, List.getElem_cons_zero, Act.put, List.setIfInBounds_toArray, List.set_cons_zero, List.set_cons_succ]
          refine wpAnyH_ready (rs := [17]) (by kernel_rfl) (by simp) ?_
          refine AllReadyH.cons rfl (fun K hK0 => ?_) AllReadyH.nil
          refine step_append_rw int_elem ints_under (by decide) (wanted_plain rfl _) (.tmp 43) (.tmp 49) rfl B2 (p + 1) b2 _ rfl o2 w.heap.size (lowA 1 (some ⟨b, off, none⟩) c p) (n - p) (c - p) (rows ic (t.rs.drop p)) rfl HL2.out (HS2.out.below f2) HO2.out (by simp only [maxLen]; omega) (by omega) ?_
          intro B3 b3 X3 o3 u3
          have n2 : ∀ k, At B2 k → w.heap.size ≤ k := fun k hk => (u2.blk k hk).elim (n1 k) (fun h => Nat.le_trans (by first | exact f1.size | exact (fr_new f1 _).size) h)
          have f3 : Fr w X3 := f2.trans (u3.chg.below (B := w.heap.size) f2.size n2)
          have n3 : ∀ k, At B3 k → w.heap.size ≤ k := fun k hk => (u3.blk k hk).elim (n2 k) (fun h => Nat.le_trans f2.size h)
          refine hK0.out _ _ f3 (fun _ => ?_)
          clear hK0 K
          try simp only [List.getElem_toArray, List.getElem_cons_succ, List.getElem_cons_zero, Act.put, List.setIfInBounds_toArray, List.set_cons_zero, List.set_cons_succ]
          refine wpAnyH_take (i := 18) (v := ?_) rfl (by kernel_rfl) (by kernel_rfl) (by kernel_rfl) (fun _ _ _ h => h) (Or.inl ⟨by rfl, ?_⟩) (by assumption) ?_
          rotate_left
          · intro w' hSw
            try dsimp only at hSw
            go_simp
            try with_reducible rfl
          try simp only [List.getElem_toArray, List.getElem_cons_succ, List.getElem_cons_zero, Act.put, List.setIfInBounds_toArray, List.set_cons_zero, List.set_cons_succ]
          refine wpAnyH_done (by kernel_rfl) ?_ _
          refine NoPanic.normal ?_
          have O3 := keep o3
          have N3 := keep n3
          have F3 := keep f3
          clear o1 o2 o3 u1 u2 u3 n1 n2 n3
          have b3x := HB.out.below f3 HB.out.lt
          go_wp2_with (first
            | (refine wpList_store_chg (cs' := [.slice B3 (p + 1 + (n - p)) b3, .int .i64 t.wr, .slice Q m d, .int .i64 t.pn]) ints_info rfl (.tmp 54) (.tmp 52) rfl g 0 rfl rfl rfl (slice_one _ _ _) b3x (show 1 ≤ 4 by decide) rfl ?_; intro W4 hA4 hK4)
            | fail)
          go_returns
          exact ⟨rfl, keep (dturn_new HP.out F3.out (hend ▸ O3.out) N3.out hA4 hK4)⟩
      · have hjz : ¬ (p : Int) < (n : Int) := by omega
        have hend := keep hend
        clear hlt
        go_wp2_with fail
        replace hend := hend.out
        refine wp_region_noPanic ?_
        refine wp_region_held_drew (S := fun W => Fr w W) (by kernel_rfl) wd (fun hHeld => ?_)
        change wpAnyH _ _ _ _ _ _ _ _ _
        refine wpAnyH_take (i := 0) (v := ?_) rfl (by kernel_rfl) (by kernel_rfl) (by kernel_rfl) (fun _ _ _ h => h) (Or.inl ⟨by rfl, ?_⟩) (by assumption) ?_
        rotate_left
        · intro w' hSw
          try dsimp only at hSw
          go_simp
          try with_reducible rfl
        try simp only [List.getElem_toArray, List.getElem_cons_zero, Act.put, List.setIfInBounds_toArray, List.set_cons_zero, List.set_cons_succ]
        refine wpAnyH_take (i := 1) (v := ?_) rfl (by kernel_rfl) (by kernel_rfl) (by kernel_rfl) (fun _ _ _ h => h) (Or.inl ⟨by rfl, ?_⟩) (by assumption) ?_
        rotate_left
        · intro w' hSw
          try dsimp only at hSw
          go_simp
          try with_reducible rfl
        try simp only [List.getElem_toArray, List.getElem_cons_succ, List.getElem_cons_zero, Act.put, List.setIfInBounds_toArray, List.set_cons_zero, List.set_cons_succ]
        refine wpAnyH_take (i := 2) (v := ?_) rfl (by kernel_rfl) (by kernel_rfl) (by kernel_rfl) (fun _ _ _ h => h) (Or.inl ⟨by rfl, ?_⟩) (by assumption) ?_
        rotate_left
        · intro w' hSw
          try dsimp only at hSw
          go_simp
          try with_reducible rfl
        try simp only [List.getElem_toArray, List.getElem_cons_succ, List.getElem_cons_zero, Act.put, List.setIfInBounds_toArray, List.set_cons_zero, List.set_cons_succ]
        refine wpAnyH_take (i := 3) (v := ?_) rfl (by kernel_rfl) (by kernel_rfl) (by kernel_rfl) (fun _ _ _ h => h) (Or.inl ⟨by rfl, ?_⟩) (by assumption) ?_
        rotate_left
        · intro w' hSw
          try dsimp only at hSw
          go_simp
          try with_reducible rfl
        try simp only [List.getElem_toArray, List.getElem_cons_succ, List.getElem_cons_zero, Act.put, List.setIfInBounds_toArray, List.set_cons_zero, List.set_cons_succ]
        refine wpAnyH_take (i := 4) (v := ?_) rfl (by kernel_rfl) (by kernel_rfl) (by kernel_rfl) (fun _ _ _ h => h) (Or.inl ⟨by rfl, ?_⟩) (by assumption) ?_
        rotate_left
        · intro w' hSw
          try dsimp only at hSw
          go_simp
          try with_reducible rfl
        try simp only [List.getElem_toArray, List.getElem_cons_succ, List.getElem_cons_zero, Act.put, List.setIfInBounds_toArray, List.set_cons_zero, List.set_cons_succ]
        refine wpAnyH_take (i := 5) (v := ?_) rfl (by kernel_rfl) (by kernel_rfl) (by kernel_rfl) (fun _ _ _ h => h) (Or.inl ⟨by rfl, ?_⟩) (by assumption) ?_
        rotate_left
        · intro w' hSw
          try dsimp only at hSw
          go_simp
          try with_reducible rfl
        try simp only [List.getElem_toArray, List.getElem_cons_succ, List.getElem_cons_zero, Act.put, List.setIfInBounds_toArray, List.set_cons_zero, List.set_cons_succ]
        refine wpAnyH_take (i := 6) (v := ?_) rfl (by kernel_rfl) (by kernel_rfl) (by kernel_rfl) (fun _ _ _ h => h) (Or.inl ⟨by rfl, ?_⟩) (by assumption) ?_
        rotate_left
        · intro w' hSw
          try dsimp only at hSw
          go_simp
          try with_reducible rfl
        try simp only [List.getElem_toArray, List.getElem_cons_succ, List.getElem_cons_zero, Act.put, List.setIfInBounds_toArray, List.set_cons_zero, List.set_cons_succ]
        refine wpAnyH_take (i := 8) (v := ?_) rfl (by kernel_rfl) (by kernel_rfl) (by kernel_rfl) (fun _ _ _ h => h) (Or.inl ⟨by rfl, ?_⟩) (by assumption) ?_
        rotate_left
        · intro w' hSw
          try dsimp only at hSw
          go_simp
          try with_reducible rfl
        try simp only [List.getElem_toArray, List.getElem_cons_succ, List.getElem_cons_zero, Act.put, List.setIfInBounds_toArray, List.set_cons_zero, List.set_cons_succ]
        refine wpAnyH_take (i := 11) (v := ?_) rfl (by kernel_rfl) (by kernel_rfl) (by kernel_rfl) (fun _ _ _ h => h) (Or.inl ⟨by rfl, ?_⟩) (by assumption) ?_
        rotate_left
        · intro w' hSw
          try dsimp only at hSw
          go_simp
          try with_reducible rfl
        try simp only [List.getElem_toArray, List.getElem_cons_succ, List.getElem_cons_zero, Act.put, List.setIfInBounds_toArray, List.set_cons_zero, List.set_cons_succ]
        refine wpAnyH_take (i := 12) (v := ?_) rfl (by kernel_rfl) (by kernel_rfl) (by kernel_rfl) (fun _ _ _ h => h) (Or.inl ⟨by rfl, ?_⟩) (by assumption) ?_
        rotate_left
        · intro w' hSw
          try dsimp only at hSw
          go_simp
          try with_reducible rfl
        try simp only [List.getElem_toArray, List.getElem_cons_succ, List.getElem_cons_zero, Act.put, List.setIfInBounds_toArray, List.set_cons_zero, List.set_cons_succ]
        refine wpAnyH_take (i := 13) (v := ?_) rfl (by kernel_rfl) (by kernel_rfl) (by kernel_rfl) (fun _ _ _ h => h) (Or.inl ⟨by rfl, ?_⟩) (by assumption) ?_
        rotate_left
        · intro w' hSw
          try dsimp only at hSw
          go_simp
          try with_reducible rfl
        try simp only [List.getElem_toArray, List.getElem_cons_succ, List.getElem_cons_zero, Act.put, List.setIfInBounds_toArray, List.set_cons_zero, List.set_cons_succ]
        refine wpAnyH_take (i := 14) (v := ?_) rfl (by kernel_rfl) (by kernel_rfl) (by kernel_rfl) (fun _ _ _ h => h) (Or.inl ⟨by rfl, ?_⟩) (by assumption) ?_
        rotate_left
        · intro w' hSw
          try dsimp only at hSw
          go_simp
          try with_reducible rfl
        try simp only [List.getElem_toArray, List.getElem_cons_succ, List.getElem_cons_zero, Act.put, List.setIfInBounds_toArray, List.set_cons_zero, List.set_cons_succ]
        refine wpAnyH_take (i := 15) (v := ?_) rfl (by kernel_rfl) (by kernel_rfl) (by kernel_rfl) (fun _ _ _ h => h) (Or.inl ⟨by rfl, ?_⟩) (by assumption) ?_
        rotate_left
        · intro w' hSw
          try dsimp only at hSw
          go_simp
          try with_reducible rfl
        try simp only [List.getElem_toArray, List.getElem_cons_succ, List.getElem_cons_zero, Act.put, List.setIfInBounds_toArray, List.set_cons_zero, List.set_cons_succ]
        refine wpAnyH_take (i := 16) (v := ?_) rfl (by kernel_rfl) (by kernel_rfl) (by kernel_rfl) (fun _ _ _ h => h) (Or.inl ⟨by rfl, ?_⟩) (by assumption) ?_
        rotate_left
        · intro w' hSw
          try dsimp only at hSw
          go_simp
          try with_reducible rfl
        try simp only [List.getElem_toArray, List.getElem_cons_succ, List.getElem_cons_zero, Act.put, List.setIfInBounds_toArray, List.set_cons_zero, List.set_cons_succ]
        refine wpAnyH_ready (rs := [7, 9]) (by kernel_rfl) (by simp) ?_
        refine AllReadyH.cons rfl (fun K hK0 => ?_) (AllReadyH.cons rfl (fun K hK0 => ?_) (AllReadyH.nil))
        · refine step_append_nil int_elem ints_under (by decide) (wanted_plain rfl _) (.tmp 33) (.tmp 39) rfl rfl w.heap.size A p c (rows ic (t.rs.take p)) rfl HL1.out (HS1.out.below fd) HO1.out (by simp only [maxLen]; omega) (by omega) ?_
          intro B1 b1 X1 o1 u1
          have f1 := fr_step fd (fr_none u1.chg)
          refine hK0.out _ _ f1 (fun _ => ?_)
          clear hK0 K
          try simp only [List.getElem_toArray, List.getElem_cons_succ, List.getElem_cons_zero, Act.put, List.setIfInBounds_toArray, List.set_cons_zero, List.set_cons_succ]
          refine wpAnyH_ready (rs := [9]) (by kernel_rfl) (by simp) ?_
          refine AllReadyH.cons rfl (fun K hK0 => ?_) AllReadyH.nil
          go_simp
          refine hK0.out _ _ (fr_new f1 _) (fun _ => ?_)
          clear hK0 K
          try simp only [List.getElem_toArray, List.getElem_cons_succ, List.getElem_cons_zero, Act.put, List.setIfInBounds_toArray, List.set_cons_zero, List.set_cons_succ]
          refine wpAnyH_ready (rs := [10]) (by kernel_rfl) (by simp) ?_
          refine AllReadyH.cons rfl (fun K hK0 => ?_) AllReadyH.nil
          refine step_append_rw int_elem ints_under (by decide) (wanted_plain rfl _) (.tmp 40) (.tmp 42) rfl B1 p b1 _ rfl (o1.fr (fr_new (fr_refl _) _)) (X1.heap.size + 1) (some ⟨X1.heap.size, 0, none⟩) 1 1 (ic x) rfl rfl (has_one X1 _ _) (ic_one _) (by simp only [maxLen]; omega) (by omega) ?_
          intro B2 b2 X2 o2 u2
          have n1 : ∀ k, At B1 k → w.heap.size ≤ k := fun k hk => (u1.blk k hk).elim (fun h => by cases h) (fun h => Nat.le_trans (by first | exact fd.size | exact (fr_new fd _).size) h)
          have f2 : Fr w X2 := ((fr_new f1 _)).trans (u2.chg.below (B := w.heap.size) ((fr_new f1 _)).size n1)
          refine hK0.out _ _ f2 (fun _ => ?_)
          clear hK0 K
          try simp only [List.getElem_toArray, List.getElem_cons_succ, List.getElem_cons_zero, Act.put, List.setIfInBounds_toArray, List.set_cons_zero, List.set_cons_succ]
          refine wpAnyH_ready (rs := [17]) (by kernel_rfl) (by simp) ?_
          refine AllReadyH.cons rfl (fun K hK0 => ?_) AllReadyH.nil
          refine step_append_rw int_elem ints_under (by decide) (wanted_plain rfl _) (.tmp 43) (.tmp 49) rfl B2 (p + 1) b2 _ rfl o2 w.heap.size (lowA 1 A c p) (n - p) (c - p) (rows ic (t.rs.drop p)) rfl HL2.out (HS2.out.below f2) HO2.out (by simp only [maxLen]; omega) (by omega) ?_
          intro B3 b3 X3 o3 u3
          have n2 : ∀ k, At B2 k → w.heap.size ≤ k := fun k hk => (u2.blk k hk).elim (n1 k) (fun h => Nat.le_trans (by first | exact f1.size | exact (fr_new f1 _).size) h)
          have f3 : Fr w X3 := f2.trans (u3.chg.below (B := w.heap.size) f2.size n2)
          have n3 : ∀ k, At B3 k → w.heap.size ≤ k := fun k hk => (u3.blk k hk).elim (n2 k) (fun h => Nat.le_trans f2.size h)
          refine hK0.out _ _ f3 (fun _ => ?_)
          clear hK0 K
          try simp only [List.getElem_toArray, List.getElem_cons_succ, List.getElem_cons_zero, Act.put, List.setIfInBounds_toArray, List.set_cons_zero, List.set_cons_succ]
          refine wpAnyH_take (i := 18) (v := ?_) rfl (by kernel_rfl) (by kernel_rfl) (by kernel_rfl) (fun _ _ _ h => h) (Or.inl ⟨by rfl, ?_⟩) (by assumption) ?_
          rotate_left
          · intro w' hSw
            try dsimp only at hSw
            go_simp
            try with_reducible rfl
          try simp only [List.getElem_toArray, List.getElem_cons_succ, List.getElem_cons_zero, Act.put, List.setIfInBounds_toArray, List.set_cons_zero, List.set_cons_succ]
          refine wpAnyH_done (by kernel_rfl) ?_ _
          refine NoPanic.normal ?_
          have O3 := keep o3
          have N3 := keep n3
          have F3 := keep f3
          clear o1 o2 o3 u1 u2 u3 n1 n2 n3
          have b3x := HB.out.below f3 HB.out.lt
          go_wp2_with (first
            | (refine wpList_store_chg (cs' := [.slice B3 (p + 1 + (n - p)) b3, .int .i64 t.wr, .slice Q m d, .int .i64 t.pn]) ints_info rfl (.tmp 54) (.tmp 52) rfl g 0 rfl rfl rfl (slice_one _ _ _) b3x (show 1 ≤ 4 by decide) rfl ?_; intro W4 hA4 hK4)
            | fail)
          go_returns
          exact ⟨rfl, keep (dturn_new HP.out F3.out (hend ▸ O3.out) N3.out hA4 hK4)⟩
        · go_simp
          refine hK0.out _ _ (fr_new fd _) (fun _ => ?_)
          clear hK0 K
          try simp only [List.getElem_toArray, List.getElem_cons_succ, List.getElem_cons_zero, Act.put, List.setIfInBounds_toArray, List.set_cons_zero, List.set_cons_succ]
          refine wpAnyH_ready (rs := [7]) (by kernel_rfl) (by simp) ?_
          refine AllReadyH.cons rfl (fun K hK0 => ?_) AllReadyH.nil
          refine step_append_nil int_elem ints_under (by decide) (wanted_plain rfl _) (.tmp 33) (.tmp 39) rfl rfl w.heap.size A p c (rows ic (t.rs.take p)) rfl HL1.out (HS1.out.below (fr_new fd _)) HO1.out (by simp only [maxLen]; omega) (by omega) ?_
          intro B1 b1 X1 o1 u1
          have f1 := fr_step (fr_new fd _) (fr_none u1.chg)
          have v1 : Has X1 (w.heap.size + 1) (some ⟨w.heap.size, 0, none⟩) (ic x) := arr_has' ((Arr.new w.drew _ _).chg u1.chg (fun e => by cases e))
          refine hK0.out _ _ f1 (fun _ => ?_)
          clear hK0 K
          try simp only [List.getElem_toArray, List.getElem_cons_succ, List.getElem_cons_zero, Act.put, List.setIfInBounds_toArray, List.set_cons_zero, List.set_cons_succ]
          refine wpAnyH_ready (rs := [10]) (by kernel_rfl) (by simp) ?_
          refine AllReadyH.cons rfl (fun K hK0 => ?_) AllReadyH.nil
          refine step_append_rw int_elem ints_under (by decide) (wanted_plain rfl _) (.tmp 40) (.tmp 42) rfl B1 p b1 _ rfl o1 (w.heap.size + 1) (some ⟨w.heap.size, 0, none⟩) 1 1 (ic x) rfl rfl v1 (ic_one _) (by simp only [maxLen]; omega) (by omega) ?_
          intro B2 b2 X2 o2 u2
          have n1 : ∀ k, At B1 k → w.heap.size ≤ k := fun k hk => (u1.blk k hk).elim (fun h => by cases h) (fun h => Nat.le_trans (by first | exact fd.size | exact (fr_new fd _).size) h)
          have f2 : Fr w X2 := (f1).trans (u2.chg.below (B := w.heap.size) (f1).size n1)
          refine hK0.out _ _ f2 (fun _ => ?_)
          clear hK0 K
          try simp only [List.getElem_toArray, List.getElem_cons_succ, List.getElem_cons_zero, Act.put, List.setIfInBounds_toArray, List.set_cons_zero, List.set_cons_succ]
          refine wpAnyH_ready (rs := [17]) (by kernel_rfl) (by simp) ?_
          refine AllReadyH.cons rfl (fun K hK0 => ?_) AllReadyH.nil
          refine step_append_rw int_elem ints_under (by decide) (wanted_plain rfl _) (.tmp 43) (.tmp 49) rfl B2 (p + 1) b2 _ rfl o2 w.heap.size (lowA 1 A c p) (n - p) (c - p) (rows ic (t.rs.drop p)) rfl HL2.out (HS2.out.below f2) HO2.out (by simp only [maxLen]; omega) (by omega) ?_
          intro B3 b3 X3 o3 u3
          have n2 : ∀ k, At B2 k → w.heap.size ≤ k := fun k hk => (u2.blk k hk).elim (n1 k) (fun h => Nat.le_trans (by first | exact f1.size | exact (fr_new f1 _).size) h)
          have f3 : Fr w X3 := f2.trans (u3.chg.below (B := w.heap.size) f2.size n2)
          have n3 : ∀ k, At B3 k → w.heap.size ≤ k := fun k hk => (u3.blk k hk).elim (n2 k) (fun h => Nat.le_trans f2.size h)
          refine hK0.out _ _ f3 (fun _ => ?_)
          clear hK0 K
          try simp only [List.getElem_toArray, List.getElem_cons_succ, List.getElem_cons_zero, Act.put, List.setIfInBounds_toArray, List.set_cons_zero, List.set_cons_succ]
          refine wpAnyH_take (i := 18) (v := ?_) rfl (by kernel_rfl) (by kernel_rfl) (by kernel_rfl) (fun _ _ _ h => h) (Or.inl ⟨by rfl, ?_⟩) (by assumption) ?_
          rotate_left
          · intro w' hSw
            try dsimp only at hSw
            go_simp
            try with_reducible rfl
          try simp only [List.getElem_toArray, List.getElem_cons_succ, List.getElem_cons_zero, Act.put, List.setIfInBounds_toArray, List.set_cons_zero, List.set_cons_succ]
          refine wpAnyH_done (by kernel_rfl) ?_ _
          refine NoPanic.normal ?_
          have O3 := keep o3
          have N3 := keep n3
          have F3 := keep f3
          clear o1 o2 o3 u1 u2 u3 n1 n2 n3
          have b3x := HB.out.below f3 HB.out.lt
          go_wp2_with (first
            | (refine wpList_store_chg (cs' := [.slice B3 (p + 1 + (n - p)) b3, .int .i64 t.wr, .slice Q m d, .int .i64 t.pn]) ints_info rfl (.tmp 54) (.tmp 52) rfl g 0 rfl rfl rfl (slice_one _ _ _) b3x (show 1 ≤ 4 by decide) rfl ?_; intro W4 hA4 hK4)
            | fail)
          go_returns
          exact ⟨rfl, keep (dturn_new HP.out F3.out (hend ▸ O3.out) N3.out hA4 hK4)⟩
theorem rgive_at {w : World} {g n c m d : Nat} {A Q : Option Addr} {t : Lat} (x : Wt) (h : DB w g A n c Q m d t) (hs : t.rs.Pairwise (· ≤ ·)) (hl : t.rs.length ≤ 100000) :
    Calls Try.prog 39 #[.pointer (some ⟨g, 0, none⟩), .int .i64 x.1, .bool x.2] w fun e w' => e = .returned (.tuple #[]) ∧ Hid (DTurn w w' (LX g A Q) g (giveT t x)) := by
  obtain ⟨x, b⟩ := x
  cases b with
  | true => exact rgive_write h
  | false => exact rgive_read h hs hl
end Go.Proofs.Ytbnphkiipjgfaaa
