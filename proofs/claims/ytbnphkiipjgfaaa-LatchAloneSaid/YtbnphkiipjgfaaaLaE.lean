/- Package latch: give. -/
import Derived.Test.YtbnphkiipjgfaaaLaD
namespace Go.Proofs.Ytbnphkiipjgfaaa
set_option linter.unusedVariables false
set_option linter.unusedSimpArgs false
set_option maxRecDepth 100000
open Go.RowKit
attribute [local go_sem] fr_alloc_s fr_drew_s
theorem chg_cell (w : World) (g j : Nat) (v : Value) : Chg (· = g) w (w.setCell ⟨g, j, none⟩ v) := (Chg.refl (fun x => x = g) w).set (p := ⟨g, j, none⟩) (.inr rfl) v
/-- A latch that had the blocks Y has turned into t. -/
def Turn (w w' : World) (Y : Nat → Prop) (g : Nat) (t : Lat) : Prop :=
  ∃ A n c Q m d, PB w' g A n c Q m d t ∧ Chg Y w w' ∧ ∀ k, LX g A Q k → Y k ∨ w.heap.size ≤ k
theorem Turn.trans {a b c : World} {Y : Nat → Prop} {g : Nat} {t u : Lat} (h : Turn a b Y g t) (k : ∀ A n c' Q m d, PB b g A n c' Q m d t → Turn b c (LX g A Q) g u) : Turn a c Y g u := by
  obtain ⟨A, n, c', Q, m, d, h1, h2, h3⟩ := h
  obtain ⟨A2, n2, c2, Q2, m2, d2, k1, k2, k3⟩ := k A n c' Q m d h1
  refine ⟨A2, n2, c2, Q2, m2, d2, k1, h2.trans' k2 fun i hi hx => ?_, fun i hi => ?_⟩
  · rcases h3 i hx with h | h
    · exact h
    · omega
  · rcases k3 i hi with h | h
    · exact h3 i h
    · exact .inr (Nat.le_trans h2.size h)
theorem Turn.same {w w' : World} {Y : Nat → Prop} {g n c m d : Nat} {A Q : Option Addr} {t : Lat} (h : PB w g A n c Q m d t) (f : Fr w w') (hy : ∀ k, LX g A Q k → Y k) : Turn w w' Y g t :=
  ⟨A, n, c, Q, m, d, h.fr f, .of_fr _ f, fun k hk => .inl (hy k hk)⟩
section
variable {w V U w3 W : World} {g n c m d n' c' : Nat} {A Q A' : Option Addr} {t : Lat}
/-- The readers laid anew, and the field that tells where. -/
theorem turn_rs {rs : List Int} (hP : PB V g A n c Q m d t) (hF : Fr w V) (hU : Fr V U) (hr : Rw w3 3 1 A' n' c' (rows ic rs)) (hp : Put U w3 A A') (ha : Arr W g 40 #[.int .i64 t.pn, .slice A' n' c', .int .i64 t.wr, .slice Q m d]) (k2 : Chg (· = g) w3 W) : Turn w W (LX g A Q) g { t with rs := rs } := by
  have hPU := hP.fr hU
  have hwU := fr_step hF hU
  refine ⟨A', n', c', Q, m, d, hPU.rows_rs hr hp.chg ha k2 fun hk => ?_, ?_, fun k hk => ?_⟩
  · rcases hp.blk g hk with h | h
    · exact hPU.ng.1 h
    · have := hPU.box.lt; omega
  · exact ((Chg.of_fr _ hwU).trans' hp.chg fun i _ hi => .inr (.inl hi)).trans' k2 fun i _ hi => .inl hi
  · rcases hk with hk | hk | hk
    · exact .inl (.inl hk)
    · rcases hp.blk k hk with h | h
      · exact .inl (.inr (.inl h))
      · exact .inr (Nat.le_trans hwU.size h)
    · exact .inl (.inr (.inr hk))
/-- The queue laid anew, and the field that tells where. -/
theorem turn_q {q : List Wt} (hP : PB V g A n c Q m d t) (hF : Fr w V) (hU : Fr V U) (hr : Rw w3 51 2 A' n' c' (rows wc q)) (hp : Put U w3 Q A') (ha : Arr W g 40 #[.int .i64 t.pn, .slice A n c, .int .i64 t.wr, .slice A' n' c']) (k2 : Chg (· = g) w3 W) : Turn w W (LX g A Q) g { t with q := q } := by
  have hPU := hP.fr hU
  have hwU := fr_step hF hU
  refine ⟨A, n, c, A', n', c', hPU.rows_q hr hp.chg ha k2 fun hk => ?_, ?_, fun k hk => ?_⟩
  · rcases hp.blk g hk with h | h
    · exact hPU.ng.2 h
    · have := hPU.box.lt; omega
  · exact ((Chg.of_fr _ hwU).trans' hp.chg fun i _ hi => .inr (.inr hi)).trans' k2 fun i _ hi => .inl hi
  · rcases hk with hk | hk | hk
    · exact .inl (.inl hk)
    · exact .inl (.inr (.inl hk))
    · rcases hp.blk k hk with h | h
      · exact .inl (.inr (.inr h))
      · exact .inr (Nat.le_trans hwU.size h)
end
theorem box4 (p z : Int) (A Q : Option Addr) (n c m d : Nat) : (#[.int .i64 p, .slice A n c, .int .i64 z, .slice Q m d] : Array Value) = [Value.int .i64 p, .slice A n c, .int .i64 z, .slice Q m d].toArray := rfl
theorem want_box (w : World) (x : Wt) : ∃ V, w.alloc (.cells (wc x).toArray 51) = V ∧ Fr w V ∧ Fr V V ∧ Arr V w.heap.size 51 (wc x).toArray ∧ V.heap.size = w.heap.size + 1 := ⟨_, rfl, fr_new (fr_refl w) _, fr_refl _, Arr.new w _ _, by simp⟩
set_option maxHeartbeats 4000000 in
theorem give_write {w : World} {g n c m d : Nat} {A Q : Option Addr} {t : Lat} {x : Wt} (h : PB w g A n c Q m d t) (hx : x.2 = true) :
    Calls Try.prog 37 #[.pointer (some ⟨g, 0, none⟩), wv x] w fun e w' => e = .returned (.tuple #[]) ∧ Hid (Turn w w' (LX g A Q) g (giveT t x)) := by
  obtain ⟨z, b⟩ := x
  simp only at hx
  subst hx
  obtain ⟨V, hV, hF, hVV, hX, hS⟩ := want_box w (z, true)
  have hP := h.fr hF
  have d0 := hX.cell 0
  have d1 := hX.cell 1
  simp only [wc, List.getElem?_toArray, List.getElem?_cons_zero, List.getElem?_cons_succ] at d0 d1
  have HP := keep hP
  have HF := keep hF
  clear h hX hF hP
  unfold wv
  go_enter Try.func37, Try.ntmps37
  go_wp2_with (first
    | (refine wpList_store_chg (cs' := [.int .i64 t.pn, .slice A n c, .int .i64 z, .slice Q m d]) int_info rfl (.tmp 12) (.tmp 10) rfl g 2 rfl rfl rfl (ic_one z) HP.out.box (show 3 ≤ 4 by decide) rfl ?_; intro W hA hK)
    | fail)

  go_returns
  refine ⟨rfl, keep ⟨A, n, c, Q, m, d, HP.out.put hA hK, (Chg.of_fr _ HF.out).trans' hK fun i _ e => .inl e, fun k hk => .inl hk⟩⟩
set_option maxHeartbeats 4000000 in
theorem give_read {w : World} {g n c m d : Nat} {A Q : Option Addr} {t : Lat} {x : Wt} (h : PB w g A n c Q m d t) (hs : t.rs.Pairwise (· ≤ ·)) (hl : t.rs.length ≤ 100000) (hx : x.2 = false) :
    Calls Try.prog 37 #[.pointer (some ⟨g, 0, none⟩), wv x] w fun e w' => e = .returned (.tuple #[]) ∧ Hid (Turn w w' (LX g A Q) g (giveT t x)) := by
  obtain ⟨z, b⟩ := x
  simp only at hx
  subst hx
  obtain ⟨V, hV, hF, hVV, hX, hS⟩ := want_box w (z, false)
  have hP := h.fr hF
  obtain ⟨l1, l2⟩ := h.nlen
  have b1 := hP.box.lt
  have vd := fr_drew hVV
  obtain ⟨-, k1, -, -⟩ := hP.cells
  have d0 := hX.cell 0
  have d1 := hX.cell 1
  simp only [wc, List.getElem?_toArray, List.getElem?_cons_zero, List.getElem?_cons_succ] at d0 d1
  have c1 : ∀ W, Fr V W → W.cell? ⟨g, 1, none⟩ = some (.slice A n c) := fun W f => (f.cell b1).trans k1
  have e0 : ∀ W, Fr V W → W.cell? ⟨w.heap.size, 0, none⟩ = some (.int .i64 z) := fun W f => (f.cell hX.lt).trans d0
  have cS : ∀ W, Fr V W → Calls Try.prog 51 #[.slice A n c, .int .i64 z] W fun e w' => (∃ b, e = .returned (.tuple #[.int .i64 (plT t.rs z : Nat), b])) ∧ Fr V w' := fun W f => by
    refine (search_at (t := z) (c := c) ((hP.fr f).rs.has) (Nat.le_refl _) l1 (by omega) hs).mono ?_
    rintro e w' ⟨k, b, rfl, hh⟩
    obtain ⟨h1, rfl⟩ := hh.out
    exact ⟨⟨b, by rw [h1]⟩, f⟩
  have hpl := pl_le t.rs z
  have cI : ∀ U W, Fr V U → Fr U W → Arr W U.heap.size 3 #[.int .i64 z] → Calls Try.prog 52 #[.slice A n c, .int .i64 (plT t.rs z : Nat), .slice (some ⟨U.heap.size, 0, none⟩) 1 1] W fun e w' => ∃ A' c', e = .returned (.slice A' (n + 1) c') ∧ Hid (InsO W w' A A' n c' t.rs (plT t.rs z) z ∧ Fr V W) := fun U W fu f ha => by
    have fW := fr_step fu f
    refine (insert_at (i := plT t.rs z) (hP.fr fW).rs l1 (by omega) ha (fun hh => ?_) (by omega)).mono ?_
    · have := hP.rs.lt _ hh
      have := fu.size
      omega
    · rintro e w' ⟨A', c', rfl, hh⟩
      exact ⟨A', c', rfl, keep ⟨hh.out, fW⟩⟩
  have hg : giveT t (z, false) = { t with rs := t.rs.take (plT t.rs z) ++ z :: t.rs.drop (plT t.rs z) } := rfl
  rw [hg]
  clear hg
  generalize plT t.rs z = p at *
  have HP := keep hP
  have HF := keep hF
  clear h hX hF hP hs k1 d0 l1 l2 hl
  have bx : ∀ W w' A' c', InsO W w' A A' n c' t.rs p z → Fr V W → Arr w' g 40 #[.int .i64 t.pn, .slice A n c, .int .i64 t.wr, .slice Q m d] := fun W w' A' c' i f => (HP.out.fr f).box.chg i.2.chg (HP.out.fr f).ng.1
  unfold wv
  go_enter Try.func37, Try.ntmps37
  go_wp2_with fail

  go_region_held3 (fun W => Fr V W) (first | exact vd | assumption) (first | (go_at_call 51; (with_reducible refine (cS _ (by assumption)).mono ?_); rintro e w2 ⟨⟨b, rfl⟩, h2⟩))
  all_goals
    go_wp2_with fail
    rename_i h2
    have h2b := fr_drew h2
    have h2a : ∀ o, Fr V (w2.alloc o) := fun o => fr_new h2 o
    have h2c : ∀ o, Fr V (w2.alloc o).drew := fun o => fr_drew (fr_new h2 o)
    have h2d : ∀ o, Fr V (w2.drew.alloc o) := fun o => fr_new h2b o
    go_region_with (first
      | (go_at_call 52; refine (cI w2 _ h2 ?_ ?_).mono ?_; (first | exact fr_new (fr_drew (fr_refl _)) _ | exact fr_drew (fr_new (fr_refl _) _) | exact fr_new (fr_refl _) _); (first | exact (Arr.new _ _ _).drew | exact Arr.new _ _ _); rintro e w3 ⟨A', c', rfl, hI⟩; have b9 := bx _ _ _ _ hI.out.1 hI.out.2; have d9 := b9.cell 1; have z9 := b9.free 1; simp only [List.getElem?_toArray, List.getElem?_cons_zero, List.getElem?_cons_succ] at d9))
    all_goals
      go_wp2_with fail
      go_returns
      exact ⟨rfl, keep (turn_rs HP.out HF.out hI.out.2 hI.out.1.1 hI.out.1.2 (b9.set 1 _) (chg_cell w3 g 1 _))⟩
/-- give. -/
theorem give_at {w : World} {g n c m d : Nat} {A Q : Option Addr} {t : Lat} (x : Wt) (h : PB w g A n c Q m d t) (hs : t.rs.Pairwise (· ≤ ·)) (hl : t.rs.length ≤ 100000) :
    Calls Try.prog 37 #[.pointer (some ⟨g, 0, none⟩), wv x] w fun e w' => e = .returned (.tuple #[]) ∧ Hid (Turn w w' (LX g A Q) g (giveT t x)) := by
  cases hx : x.2 with
  | true => exact give_write h hx
  | false => exact give_read h hs hl hx
end Go.Proofs.Ytbnphkiipjgfaaa
