/- Package latch: Drop, Down, Readers, Queue, Writer, Idle, Pin, Unpin. -/
import Derived.Test.YtbnphkiipjgfaaaLaG
namespace Go.Proofs.Ytbnphkiipjgfaaa
set_option linter.unusedVariables false
set_option linter.unusedSimpArgs false
set_option maxRecDepth 100000
open Go.RowKit
section
variable {w W V : World} {g n c m d tb : Nat} {A Q : Option Addr} {t : Lat} {x : Int}
theorem eg_drop1 : ∀ args w, (callFunc 41 args).run Try.prog w = .ok (.enter 41 args) w := enters_of Try.func41 (by kernel_rfl) rfl
theorem eg_drop2 : ∀ args w, (callFunc 43 args).run Try.prog w = .ok (.enter 43 args) w := enters_of Try.func43 (by kernel_rfl) rfl
theorem del_rs (h : PB V g A n c Q m d t) (hl : t.rs.length ≤ 100000) (hT : Arr V tb 3 #[.int .i64 x]) (hn : ¬ At A tb) :
    Calls Try.prog 40 #[.slice A n c, .func (.func 41) #[] #[.pointer (some ⟨tb, 0, none⟩)]] V fun e w' => ∃ n', e = .returned (.slice A n' c) ∧ Hid (Rw w' 3 1 A n' c (rows ic (t.rs.filter fun z => !decide (z = x))) ∧ Put V w' A A) := by
  refine (i_delete (fun z => decide (z = x)) #[.pointer (some ⟨tb, 0, none⟩)] eg_drop1 h.rs h.nlen.1 (by have := h.nlen.1; omega) (fun W m hW => cl_drop1 (hT.chg hW hn) m)).mono ?_
  rintro e w' ⟨n', rfl, hh⟩
  exact ⟨n', rfl, keep ⟨hh.out.2.1, hh.out.2.2, .inl rfl⟩⟩
theorem del_q (h : PB V g A n c Q m d t) (hl : t.q.length ≤ 100000) (hT : Arr V tb 3 #[.int .i64 x]) (hn : ¬ At Q tb) :
    Calls Try.prog 42 #[.slice Q m d, .func (.func 43) #[] #[.pointer (some ⟨tb, 0, none⟩)]] V fun e w' => ∃ m', e = .returned (.slice Q m' d) ∧ Hid (Rw w' 51 2 Q m' d (rows wc (t.q.filter fun z => !decide (z.1 = x))) ∧ Put V w' Q Q) := by
  refine (w_delete (fun z => decide (z.1 = x)) #[.pointer (some ⟨tb, 0, none⟩)] eg_drop2 h.q h.nlen.2 (by have := h.nlen.2; omega) (fun W m hW => cl_drop2 (hT.chg hW hn) m)).mono ?_
  rintro e w' ⟨n', rfl, hh⟩
  exact ⟨n', rfl, keep ⟨hh.out.2.1, hh.out.2.2, .inl rfl⟩⟩
end
section
variable {w V U w3 W : World} {g n c m d n' c' : Nat} {A Q : Option Addr} {t : Lat}
/-- The readers laid anew where they lay. -/
theorem PB.re_rs {rs : List Int} (h : PB U g A n c Q m d t) (hr : Rw w3 3 1 A n' c (rows ic rs)) (hp : Put U w3 A A) (ha : Arr W g 40 #[.int .i64 t.pn, .slice A n' c, .int .i64 t.wr, .slice Q m d]) (k2 : Chg (· = g) w3 W) : PB W g A n' c Q m d { t with rs := rs } ∧ Chg (LX g A Q) U W :=
  ⟨h.rows_rs hr hp.chg ha k2 h.ng.1, (hp.chg.weak fun i _ hi => .inr (.inl hi)).trans' k2 fun i _ hi => .inl hi⟩
theorem PB.re_q {q : List Wt} (h : PB U g A n c Q m d t) (hr : Rw w3 51 2 Q n' d (rows wc q)) (hp : Put U w3 Q Q) (ha : Arr W g 40 #[.int .i64 t.pn, .slice A n c, .int .i64 t.wr, .slice Q n' d]) (k2 : Chg (· = g) w3 W) : PB W g A n c Q n' d { t with q := q } ∧ Chg (LX g A Q) U W :=
  ⟨h.rows_q hr hp.chg ha k2 h.ng.2, (hp.chg.weak fun i _ hi => .inr (.inr hi)).trans' k2 fun i _ hi => .inl hi⟩
end
set_option maxHeartbeats 8000000 in
theorem drop_at {w : World} {g n c m d K : Nat} {A Q : Option Addr} {t : Lat} {x : Int} (h : PB w g A n c Q m d t) (ok : OkT t K) (fb : Fb t) (hK : K ≤ 100000) :
    Calls Try.prog 19 #[.pointer (some ⟨g, 0, none⟩), .int .i64 x] w fun e w' => ∃ B k b, e = .returned (.slice B k b) ∧ Hid (Res w w' B k b (dropT t x).2 ∧ TurnB w w' (LX g A Q) g (dropT t x).1 B) := by
  have hout : letT (outT t x) = dropT t x := drop_eq ok fb x
  have hl := ok.len
  have hql : (t.q.length : Nat) ≤ 100000 := by omega
  have hqlen : ({ t with wr := (if t.wr = x then -1 else t.wr), rs := t.rs.filter (fun z => !decide (z = x)) } : Lat).q.length ≤ 100000 := hql
  have oko := ok.out x
  obtain ⟨V, hV, hF, hVV, hX, hS⟩ := int_box w x
  have hP := h.fr hF
  have vd := fr_drew hVV
  have hlt := h.lt
  have hnA : ¬ At A w.heap.size := fun e => by have := hlt _ (.inr (.inl e)); omega
  have hnQ : ¬ At Q w.heap.size := fun e => by have := hlt _ (.inr (.inr e)); omega
  have hng : w.heap.size ≠ g := fun e => by have := hlt _ (.inl rfl); omega
  have hnX : ¬ LX g A Q w.heap.size := fun e => by have := hlt _ e; omega
  have b1 := hP.box.lt
  obtain ⟨-, -, k2, -⟩ := hP.cells
  have c2 : ∀ W, Fr V W → W.cell? ⟨g, 2, none⟩ = some (.int .i64 t.wr) := fun W f => (f.cell b1).trans k2
  have c4 : ∀ W, Fr V W → W.cell? ⟨w.heap.size, 0, none⟩ = some (.int .i64 x) := fun W f => (f.cell hX.lt).trans (by simpa using hX.cell 0)
  have HP := keep hP
  have HX := keep hX
  have HF := keep hF
  have Hw : t.wr = t.wr := rfl
  clear h hP hX hF k2 hlt ok
  by_cases hw : t.wr = x
  · have hw2 : (t.wr == x) = true := by simpa using hw
    have HW := keep hw
    clear hw
    go_enter Try.func19, Try.ntmps19
    go_wp2_with fail
    go_region_held3 (fun W => Fr V W) (first | exact vd | assumption) (fail)
    rename_i f1
    have P0 := keep (HP.out.fr f1)
    go_wp2_with (first
      | (refine wpList_store_chg (cs' := [.int .i64 t.pn, .slice A n c, .int .i64 (-1), .slice Q m d]) int_info rfl (.tmp 13) (.const (.int .i64 (-1))) rfl g 2 rfl rfl rfl (ic_one _) P0.out.box (show 3 ≤ 4 by decide) rfl ?_; intro W1 hA1 hK1; have P1 : Hid (PB W1 g A n c Q m d { t with wr := if t.wr = x then -1 else t.wr }) := keep (by rw [if_pos HW.out]; exact P0.out.put hA1 hK1); have G1 : Hid (Chg (LX g A Q) w W1) := keep ((Chg.of_fr _ (fr_step HF.out f1)).trans' hK1 fun i _ e => .inl e); have T1 := keep ((HX.out.below f1 HX.out.lt).chg hK1 hng); obtain ⟨-, k1, k2, k3⟩ := P1.out.cells; have cD := del_rs (x := x) P1.out (show t.rs.length ≤ 100000 by omega) T1.out hnA)
      | fail)
    refine cD.mono ?_
    rintro e w2 ⟨n2, rfl, h2⟩
    have R2 := h2.out.1
    have U2 := h2.out.2
    clear cD k1 k2 k3 h2
    have b2 := P1.out.box.chg U2.chg P1.out.ng.1
    go_wp2_with (first
      | (refine wpList_store_chg (cs' := [.int .i64 t.pn, .slice A n2 c, .int .i64 (if t.wr = x then -1 else t.wr), .slice Q m d]) ints_info rfl (.tmp 22) (.tmp 20) rfl g 1 rfl rfl rfl (slice_one _ _ _) b2 (show 2 ≤ 4 by decide) rfl ?_; intro W3 hA3 hK3; obtain ⟨p3, g3⟩ := P1.out.re_rs R2 U2 hA3 hK3; have P3 := keep p3; have G3 := keep (G1.out.trans g3); have t3 := T1.out.chg g3 hnX; obtain ⟨-, k1, k2, k3⟩ := p3.cells; have cQ := del_q (x := x) p3 hqlen t3 hnQ; have T3 := keep t3; clear p3 g3 t3 hA3 hK3)
      | fail)
    refine cQ.mono ?_
    rintro e w4 ⟨m4, rfl, h4⟩
    have R4 := h4.out.1
    have U4 := h4.out.2
    clear cQ k1 k2 k3 h4
    have b4 := P3.out.box.chg U4.chg P3.out.ng.2
    go_wp2_with (first
      | (refine wpList_store_chg (cs' := [.int .i64 t.pn, .slice A n2 c, .int .i64 (if t.wr = x then -1 else t.wr), .slice Q m4 d]) wants_info rfl (.tmp 31) (.tmp 29) rfl g 3 rfl rfl rfl (slice_one _ _ _) b4 (show 4 ≤ 4 by decide) rfl ?_; intro W5 hA5 hK5; obtain ⟨p5, g5⟩ := P3.out.re_q R4 U4 hA5 hK5; have P5 := keep p5; have G5 := keep (G3.out.trans g5); have cL := letin_at p5 oko hK; clear p5 g5 hA5 hK5)
      | fail)
    refine cL.mono ?_
    rintro e w6 ⟨B, k, b, rfl, hh⟩
    go_wp2_with fail
    go_ret
    exact ⟨B, k, b, rfl, keep (hout ▸ ⟨hh.out.1.on G5.out, hh.out.2.on G5.out⟩)⟩
  · have hw2 : (t.wr == x) = false := by simpa using hw
    have HW := keep hw
    clear hw
    go_enter Try.func19, Try.ntmps19
    go_wp2_with fail
    go_region_held3 (fun W => Fr V W) (first | exact vd | assumption) (fail)
    rename_i f1
    obtain ⟨W1, hW1, f1'⟩ : ∃ W1, W1 = _ ∧ Fr V W1 := ⟨_, rfl, f1⟩
    rw [← hW1]
    clear hW1 f1
    have f1 := f1'
    have P1 : Hid (PB W1 g A n c Q m d { t with wr := if t.wr = x then -1 else t.wr }) := keep (by rw [if_neg HW.out]; exact HP.out.fr f1)
    have G1 : Hid (Chg (LX g A Q) w W1) := keep (.of_fr _ (fr_step HF.out f1))
    have T1 := keep (HX.out.below f1 HX.out.lt)
    obtain ⟨-, k1, k2, k3⟩ := P1.out.cells
    have cD := del_rs (x := x) P1.out (show t.rs.length ≤ 100000 by omega) T1.out hnA
    go_wp2_with fail
    refine cD.mono ?_
    rintro e w2 ⟨n2, rfl, h2⟩
    have R2 := h2.out.1
    have U2 := h2.out.2
    clear cD k1 k2 k3 h2
    have b2 := P1.out.box.chg U2.chg P1.out.ng.1
    go_wp2_with (first
      | (refine wpList_store_chg (cs' := [.int .i64 t.pn, .slice A n2 c, .int .i64 (if t.wr = x then -1 else t.wr), .slice Q m d]) ints_info rfl (.tmp 22) (.tmp 20) rfl g 1 rfl rfl rfl (slice_one _ _ _) b2 (show 2 ≤ 4 by decide) rfl ?_; intro W3 hA3 hK3; obtain ⟨p3, g3⟩ := P1.out.re_rs R2 U2 hA3 hK3; have P3 := keep p3; have G3 := keep (G1.out.trans g3); have t3 := T1.out.chg g3 hnX; obtain ⟨-, k1, k2, k3⟩ := p3.cells; have cQ := del_q (x := x) p3 hqlen t3 hnQ; have T3 := keep t3; clear p3 g3 t3 hA3 hK3)
      | fail)
    refine cQ.mono ?_
    rintro e w4 ⟨m4, rfl, h4⟩
    have R4 := h4.out.1
    have U4 := h4.out.2
    clear cQ k1 k2 k3 h4
    have b4 := P3.out.box.chg U4.chg P3.out.ng.2
    go_wp2_with (first
      | (refine wpList_store_chg (cs' := [.int .i64 t.pn, .slice A n2 c, .int .i64 (if t.wr = x then -1 else t.wr), .slice Q m4 d]) wants_info rfl (.tmp 31) (.tmp 29) rfl g 3 rfl rfl rfl (slice_one _ _ _) b4 (show 4 ≤ 4 by decide) rfl ?_; intro W5 hA5 hK5; obtain ⟨p5, g5⟩ := P3.out.re_q R4 U4 hA5 hK5; have P5 := keep p5; have G5 := keep (G3.out.trans g5); have cL := letin_at p5 oko hK; clear p5 g5 hA5 hK5)
      | fail)
    refine cL.mono ?_
    rintro e w6 ⟨B, k, b, rfl, hh⟩
    go_wp2_with fail
    go_ret
    exact ⟨B, k, b, rfl, keep (hout ▸ ⟨hh.out.1.on G5.out, hh.out.2.on G5.out⟩)⟩
end Go.Proofs.Ytbnphkiipjgfaaa
