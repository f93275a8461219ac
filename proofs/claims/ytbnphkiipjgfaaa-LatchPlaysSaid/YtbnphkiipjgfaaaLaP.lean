/- The document's latch: Drop; SameWants. -/
import Derived.Test.YtbnphkiipjgfaaaLaO
import Derived.DeepKeys
namespace Go.Proofs.Ytbnphkiipjgfaaa
set_option linter.unusedVariables false
set_option linter.unusedSimpArgs false
set_option maxRecDepth 100000
open Go.RowKit
attribute [local go_sem ↓] want_ld
/-- A row that grows in new blocks. -/
structure Acc (w wr : World) (e size : Nat) (B : Option Addr) (k b : Nat) (xs : List Value) : Prop where
  row : Rw wr e size B k b xs
  fr : Fr w wr
  new : ∀ i, At B i → w.heap.size ≤ i
theorem Acc.nil (w : World) {wr : World} (e size : Nat) (f : Fr w wr) : Acc w wr e size none 0 0 [] := ⟨Rw.nil _ _ _, f, fun i hi => by cases hi⟩
theorem Acc.put {w wr w8 : World} {o : Obj} {e size k b k2 b2 : Nat} {B B2 : Option Addr} {xs ys : List Value} (h : Acc w wr e size B k b xs) (h8 : Rw w8 e size B2 k2 b2 ys) (p8 : Put (wr.alloc o) w8 B B2) : Acc w w8 e size B2 k2 b2 ys := by
  have f := fr_new h.fr o
  exact ⟨h8, f.trans (p8.chg.below (B := w.heap.size) f.size h.new), fun i hi => (p8.blk i hi).elim (h.new i) (fun hh => Nat.le_trans f.size hh)⟩
theorem filter_one {α : Type} {p : α → Bool} {l : List α} {j : Nat} {x : α} (hx : l[j]? = some x) : (l.take (j + 1)).filter p = (l.take j).filter p ++ (if p x then [x] else []) := by
  rw [take_one' hx, List.filter_append]
  congr 1
  cases h : p x <;> simp [h]
theorem out_db {w wr W : World} {g k b k2 b2 : Nat} {A Q B B2 : Option Addr} {u : Lat} (h1 : Acc w wr 3 1 B k b (rows ic u.rs)) (h2 : Acc w wr 51 2 B2 k2 b2 (rows wc u.q)) (gl : g < w.heap.size) (ha : Arr W g 45 #[.slice B k b, .int .i64 u.wr, .slice B2 k2 b2, .int .i64 u.pn]) (hk : Chg (· = g) wr W) :
    DB W g B k b B2 k2 b2 u ∧ Chg (LX g A Q) w W ∧ ∀ i, LX g B B2 i → LX g A Q i ∨ w.heap.size ≤ i := by
  refine ⟨⟨ha, h1.row.chg hk fun i hi e => ?_, h2.row.chg hk fun i hi e => ?_⟩, (Chg.of_fr _ h1.fr).trans' hk fun i _ e => .inl e, fun i hi => ?_⟩
  · have := h1.new i hi; omega
  · have := h2.new i hi; omega
  · rcases hi with h | h | h
    · exact .inl (.inl h)
    · exact .inr (h1.new i h)
    · exact .inr (h2.new i h)
set_option maxHeartbeats 8000000 in
theorem rdrop_at {w : World} {g n c m d K : Nat} {A Q : Option Addr} {t : Lat} {x : Int} (h : DB w g A n c Q m d t) (ok : OkT t K) (hK : K ≤ 100000) :
    Calls Try.prog 20 #[.pointer (some ⟨g, 0, none⟩), .int .i64 x] w fun e w' => ∃ B k b, e = .returned (.slice B k b) ∧ Hid (Res w w' B k b (dropT t x).2 ∧ DTurn w w' (LX g A Q) g (dropT t x).1) := by
  have hl := ok.len
  have HP := keep h
  obtain ⟨k0, k1, k2, k3⟩ := h.cells
  obtain ⟨l1, l2⟩ := h.nlen
  have gl := h.box.lt
  by_cases h0 : x < 0
  · have HT : Hid (dropT t x = (t, [])) := keep (by rw [dropT, if_pos h0])
    clear h
    go_enter Try.func20, Try.ntmps20
    go_wp2_with fail
    go_ret
    exact ⟨none, 0, 0, rfl, keep (by rw [HT.out]; exact ⟨res_nil w, .same HP.out (fr_refl _) fun k h => h⟩)⟩
  · have HT : Hid (dropT t x = letT (outT t x)) := keep (by rw [dropT, if_neg h0])
    have OKO := keep (ok.out x)
    have c0 : ∀ W, Fr w W → W.cell? ⟨g, 0, none⟩ = some (.slice A n c) := fun W f => (f.cell gl).trans k0
    have c2 : ∀ W, Fr w W → W.cell? ⟨g, 2, none⟩ = some (.slice Q m d) := fun W f => (f.cell gl).trans k2
    have HN := keep l1
    have HM := keep l2
    have hnk : n ≤ 100000 := by omega
    have hmk : m ≤ 100000 := by omega
    clear h k0 k1 k2 k3 l1 l2 hl
    go_enter Try.func20, Try.ntmps20
    go_wp2_with fail
    go_loopg [5, 6] n (fun gg s5 s6 wr => ∃ (j : Nat) (B : Option Addr) (k b : Nat), j + gg = n ∧ s6 = .int .i64 j ∧ s5 = .slice B k b ∧ k ≤ j ∧ Hid (Acc w wr 3 1 B k b (rows ic ((t.rs.take j).filter fun z => !decide (z = x)))))
    case atStart => exact ⟨0, none, 0, 0, by omega, rfl, rfl, Nat.le_refl _, keep (Acc.nil w _ _ (fr_refl w))⟩
    case round =>
      obtain ⟨j, B, k, b, hj, rfl, rfl, hkj, hA⟩ := hrel
      have hF := hA.out.fr
      have hrr := fr_refl wr
      by_cases hlt : j < n
      · have hm : t.rs[j]? = some (t.rs[j]'(by rw [HN.out]; exact hlt)) := List.getElem?_eq_getElem _
        generalize t.rs[j]'(by rw [HN.out]; exact hlt) = z at hm
        obtain ⟨qb, off, hAe, hb1, hr⟩ := has_rows HP.out.rs.has (ic_wid _) (by decide) (by intro e; rw [e] at hm; simp at hm)
        have lX := elem_cell0 hr (ic_wid _) (by omega) hm (u := .int .i64 z) rfl
        rw [Nat.mul_one] at lX
        have e1 := filter_one (p := fun z => !decide (z = x)) hm
        have hjz : (j : Int) < (n : Int) := by omega
        have hl1 := c0 wr hF
        rw [hAe] at hl1
        have E1 := keep e1
        clear hm hr hlt e1
        by_cases hz : z = x
        · subst hz
          clear hrr
          go_wp2_with fail
          go_roundg (gk - 1)
          case measure => omega
          case rel => exact ⟨j + 1, B, k, b, by omega, rfl, rfl, by omega, keep (by rw [E1.out]; simpa using hA.out)⟩
        · have hz2 : (z != x) = true := by simpa using hz
          have Hz := keep hz
          clear hz
          go_wp2_with (first
            | (refine wpList_append_rw int_elem ints_under (by decide) rfl (.tmp 29) (.tmp 37) rfl B k b _ rfl (hA.out.row.fr (fr_new (fr_refl _) _)) (wr.heap.size + 1) (some ⟨wr.heap.size, 0, none⟩) 1 1 (ic z) rfl rfl (has_one wr _ _) (ic_one _) (by simp only [maxLen]; omega) (by omega) ?_; intro B2 b2 w8 h8 p8)
            | fail)
          go_roundg (gk - 1)
          case measure => omega
          case rel => exact ⟨j + 1, B2, k + 1, b2, by omega, rfl, rfl, by omega, keep (by
            rw [E1.out, if_pos (by simpa using Hz.out), rows_append, rows_single]
            exact hA.out.put h8 p8)⟩
      · have hjn : j = n := by omega
        have hjz : ¬ (j : Int) < (n : Int) := by omega
        have hA1 : Hid (Acc w wr 3 1 B k b (rows ic (outT t x).rs)) := keep (by
          have := hA.out
          rwa [hjn, List.take_of_length_le (by rw [HN.out]; exact Nat.le_refl _)] at this)
        clear hlt hjn hA hrr
        go_wp2_with fail
        go_loopg [7, 8] m (fun gg s7 s8 wr => ∃ (j : Nat) (B2 : Option Addr) (k2 b2 : Nat), j + gg = m ∧ s8 = .int .i64 j ∧ s7 = .slice B2 k2 b2 ∧ k2 ≤ j ∧ Hid (Acc w wr 3 1 B k b (rows ic (outT t x).rs)) ∧ Hid (Acc w wr 51 2 B2 k2 b2 (rows wc ((t.q.take j).filter fun z => !decide (z.1 = x)))))
        case atStart => exact ⟨0, none, 0, 0, by omega, rfl, rfl, Nat.le_refl _, hA1, keep (Acc.nil w _ _ hA1.out.fr)⟩
        case round =>
          clear hA1 hF
          obtain ⟨j2, B2, k2, b2, hj2, rfl, rfl, hk2, hA, hA2⟩ := hrel
          have hF := hA.out.fr
          have hrr := fr_refl wr
          by_cases hlt : j2 < m
          · have hm : t.q[j2]? = some (t.q[j2]'(by rw [HM.out]; exact hlt)) := List.getElem?_eq_getElem _
            generalize t.q[j2]'(by rw [HM.out]; exact hlt) = z at hm
            obtain ⟨qb, off, hAe, hb1, hr⟩ := has_rows HP.out.q.has (wc_wid _) (by decide) (by intro e; rw [e] at hm; simp at hm)
            have lX := elem_cell0 hr (wc_wid _) (by omega) hm (u := .int .i64 z.1) rfl
            have lY := elem_ld want_ty hr (wc_wid _) (by omega) hm
            have e1 := filter_one (p := fun z : Wt => !decide (z.1 = x)) hm
            have hjz : (j2 : Int) < (m : Int) := by omega
            have hl1 := c2 wr hF
            rw [hAe] at hl1
            have E1 := keep e1
            clear hm hr hlt e1
            by_cases hz : z.1 = x
            · have hz2 : (z.1 != x) = false := by simpa using hz
              have Hz := keep hz
              clear hrr hz
              go_wp2_with fail
              go_roundg (gk - 1)
              case measure => omega
              case rel => exact ⟨j2 + 1, B2, k2, b2, by omega, rfl, rfl, by omega, hA, keep (by rw [E1.out, if_neg (by simp [Hz.out]), List.append_nil]; exact hA2.out)⟩
            · have hz2 : (z.1 != x) = true := by simpa using hz
              have Hz := keep hz
              have hsz : (wc z).length = 2 := rfl
              have hfo : List.foldl (fun (cs : Array Value) (y : Value × Nat) => cs.setIfInBounds y.snd y.fst) (wc (0, false)).toArray (wc z).zipIdx = (wc z).toArray := rfl
              clear hz
              go_wp2_with (first
                | (refine wpList_append_rw want_elem wants_under (by decide) rfl (.tmp 58) (.tmp 66) rfl B2 k2 b2 _ rfl (hA2.out.row.fr (fr_new (fr_refl _) _)) (wr.heap.size + 1) (some ⟨wr.heap.size, 0, none⟩) 1 1 (wc z) rfl rfl (has_new wr (wc z) _) (wc_one _) (by simp only [maxLen]; omega) (by omega) ?_; intro B3 b3 w8 h8 p8)
                | fail)
              go_roundg (gk - 1)
              case measure => omega
              case rel => exact ⟨j2 + 1, B3, k2 + 1, b3, by omega, rfl, rfl, by omega, keep (by
                have a8 := hA2.out.put h8 p8
                refine ⟨(hA.out.row.fr (fr_new (fr_refl _) _)).chg p8.chg fun i hi hi2 => ?_, a8.fr, hA.out.new⟩
                exact hA.out.row.apart hA2.out.row (by decide) hi hi2), keep (by
                rw [E1.out, if_pos (by simpa using Hz.out), rows_append, rows_single]
                exact hA2.out.put h8 p8)⟩
          · have hjn : j2 = m := by omega
            have hjz2 : ¬ (j2 : Int) < (m : Int) := by omega
            have hA1 : Hid (Acc w wr 51 2 B2 k2 b2 (rows wc (outT t x).q)) := keep (by
              have := hA2.out
              rwa [hjn, List.take_of_length_le (by rw [HM.out]; exact Nat.le_refl _)] at this)
            have hb := HP.out.box.below hF gl
            have HB := keep hb
            clear hlt hjn hA2 hb hrr
            by_cases hw : t.wr = x
            · have hw2 : (t.wr == x) = true := by simpa using hw
              have Hw : Hid ((outT t x).wr = -1) := keep (by simp only [outT]; rw [if_pos hw])
              clear hw
              go_wp2_with (first
              | (refine wpList_store_chg (cs' := [.slice B k b, .int .i64 t.wr, .slice Q m d, .int .i64 t.pn]) ints_info rfl (.tmp 73) (.tmp 70) rfl g 0 rfl rfl rfl (slice_one _ _ _) HB.out (show 1 ≤ 4 by decide) rfl ?_; intro W4 hA4 hK4)
              | (refine wpList_store_chg (cs' := [.slice B k b, .int .i64 t.wr, .slice B2 k2 b2, .int .i64 t.pn]) wants_info rfl (.tmp 75) (.tmp 71) rfl g 2 rfl rfl rfl (slice_one _ _ _) hA4 (show 3 ≤ 4 by decide) rfl ?_; intro W5 hA5 hK5; have d5 : W5.cell? ⟨g, 1, none⟩ = some (.int .i64 t.wr) := (by rw [hA5.cell]; rfl))
              | (refine wpList_store_chg (cs' := [.slice B k b, .int .i64 (outT t x).wr, .slice B2 k2 b2, .int .i64 t.pn]) int_info rfl (.tmp 84) (.const (.int .i64 (-1))) rfl g 1 rfl rfl rfl (ic_one _) hA5 (show 2 ≤ 4 by decide) (by rw [Hw.out]; rfl) ?_; intro W6 hX6 hK6; have hY6 := (hK4.trans hK5).trans hK6)
              | fail)
              obtain ⟨p6, g6, o6⟩ := out_db (A := A) (Q := Q) (u := outT t x) hA.out hA1.out gl hX6 hY6
              have G6 := keep g6
              have O6 := keep o6
              have cL := rin_at p6 OKO.out hK
              clear p6 g6 o6 hX6 hY6 hA4 hK4 hA5 hK5
              go_wp2_with fail
              refine cL.mono ?_
              rintro e w9 ⟨B9, k9, b9, rfl, hh⟩
              go_wp2_with fail
              go_ret
              exact ⟨B9, k9, b9, rfl, keep (by rw [HT.out]; exact ⟨hh.out.1.on G6.out, .next G6.out O6.out hh.out.2⟩)⟩
            · have hw2 : (t.wr == x) = false := by simpa using hw
              have Hw : Hid ((outT t x).wr = t.wr) := keep (by simp only [outT]; rw [if_neg hw])
              clear hw
              go_wp2_with (first
              | (refine wpList_store_chg (cs' := [.slice B k b, .int .i64 t.wr, .slice Q m d, .int .i64 t.pn]) ints_info rfl (.tmp 73) (.tmp 70) rfl g 0 rfl rfl rfl (slice_one _ _ _) HB.out (show 1 ≤ 4 by decide) rfl ?_; intro W4 hA4 hK4)
              | (refine wpList_store_chg (cs' := [.slice B k b, .int .i64 t.wr, .slice B2 k2 b2, .int .i64 t.pn]) wants_info rfl (.tmp 75) (.tmp 71) rfl g 2 rfl rfl rfl (slice_one _ _ _) hA4 (show 3 ≤ 4 by decide) rfl ?_; intro W5 hA5 hK5; have d5 : W5.cell? ⟨g, 1, none⟩ = some (.int .i64 t.wr) := (by rw [hA5.cell]; rfl))
              | fail)
              have hX6 : Arr W5 g 45 #[.slice B k b, .int .i64 (outT t x).wr, .slice B2 k2 b2, .int .i64 t.pn] := by rw [Hw.out]; exact hA5
              have hY6 := hK4.trans hK5
              obtain ⟨p6, g6, o6⟩ := out_db (A := A) (Q := Q) (u := outT t x) hA.out hA1.out gl hX6 hY6
              have G6 := keep g6
              have O6 := keep o6
              have cL := rin_at p6 OKO.out hK
              clear p6 g6 o6 hX6 hY6 hA4 hK4 hA5 hK5
              go_wp2_with fail
              refine cL.mono ?_
              rintro e w9 ⟨B9, k9, b9, rfl, hh⟩
              go_wp2_with fail
              go_ret
              exact ⟨B9, k9, b9, rfl, keep (by rw [HT.out]; exact ⟨hh.out.1.on G6.out, .next G6.out O6.out hh.out.2⟩)⟩
theorem want_type : Try.prog.keyType 51 = true := by kernel_rfl
theorem want_typeAt : Try.prog.keyTypeAt (Try.prog.types.size + 1) 51 = true := by kernel_rfl
theorem want_wide : (match Try.prog.underlying 51 with | some (.array _ _) | some (.struct _) => true | _ => false) = true := by kernel_rfl
theorem want_row : (51 : TypeId) < Try.prog.types.size := of_decide_eq_true (by kernel_rfl)
theorem types_small : decide (Try.prog.types.size + 1 ≤ 10000) = true := by kernel_rfl
theorem want_cells : Try.prog.cellsOf 51 = 2 := by kernel_rfl
theorem int_cells : Try.prog.cellsOf 3 = 1 := by kernel_rfl
theorem bool_cells : Try.prog.cellsOf 4 = 1 := by kernel_rfl
theorem i64_wf {z : Int} (h : -9223372036854775808 ≤ z ∧ z ≤ 9223372036854775807) : (Lit.int .i64 z).wf = true := by
  simp [Lit.wf, IntKind.min, IntKind.max, IntKind.signed, IntKind.bits]; omega
theorem want_lits (x : Wt) (h : -9223372036854775808 ≤ x.1 ∧ x.1 ≤ 9223372036854775807) : Try.prog.keyLits (Try.prog.types.size + 1) 51 (wc x) = some [.int .i64 x.1, .bool x.2] := by
  obtain ⟨D, hD⟩ : ∃ D, Try.prog.types.size + 1 = D + 1 + 1 + 1 := ⟨Try.prog.types.size - 2, by have h : 51 < Try.prog.types.size := want_row; omega⟩
  rw [hD]
  simp [Program.keyLits, Try.underlying51, Try.underlying3, Try.underlying4, want_cells, int_cells, bool_cells, i64_wf h, wc]
theorem want_of (x : Wt) (h : -9223372036854775808 ≤ x.1 ∧ x.1 ≤ 9223372036854775807) : keyOf Try.prog 51 (wv x) = some (.string (keyBytes [.int .i64 x.1, .bool x.2])) := by
  have hf : (wv x).formed Try.prog 51 = true := by simp [Value.formed, Try.underlying51, want_cells, wv, wc]
  have hl := want_lits x h
  simp only [keyOf, Try.underlying51, want_type, hf, Bool.and_self, if_true]
  rw [show (wv x).cells.toList = wc x from rfl, hl]
  rfl
theorem want_neq (x : Wt) (h : -9223372036854775808 ≤ x.1 ∧ x.1 ≤ 9223372036854775807) (W : World) : (binOp .neq 51 (.agg (wc x).toArray) (.agg (wc x).toArray)).run Try.prog W = .ok (.bool false) W := by
  obtain ⟨r, h1, h2⟩ := run_equal_deep W (m := Try.prog.types.size + 1) (of_decide_eq_true types_small) want_typeAt want_wide (want_of x h) (want_of x h)
  have h3 : r = true := h2.2 rfl
  rw [h3] at h1
  have h1 : (Op.equal 51 (.agg (wc x).toArray) (.agg (wc x).toArray)).run Try.prog W = .ok true W := h1
  simp only [binOp, Sem.run_bind, h1, Result.andThen_ok, Sem.run_pure]
  rfl
set_option maxHeartbeats 4000000 in
theorem samewants_at {W0 w : World} {A A2 : Option Addr} {n c B n2 c2 B2 : Nat} {l : List Wt} (hl : Has w B A (rows wc l)) (hB : B ≤ w.heap.size) (hn : l.length = n) (hsm : n ≤ 100000) (hl2 : Has w B2 A2 (rows wc l)) (hB2 : B2 ≤ w.heap.size) (hn2 : l.length = n2) (hz : ∀ y ∈ l, -9223372036854775808 ≤ y.1 ∧ y.1 ≤ 9223372036854775807) (f0 : Fr W0 w) :
    Calls Try.prog 29 #[.slice A n c, .slice A2 n2 c2] w fun e w' => e = .returned (.bool true) ∧ Fr W0 w' := by
  obtain rfl : n = n2 := by omega
  have HL := keep hl
  have HL2 := keep hl2
  have HN := keep hn
  clear hl hl2 hn hn2
  go_enter Try.func29, Try.ntmps29
  go_wp2_with fail
  go_loopg [5] n (fun gg s5 wr => ∃ j : Nat, j + gg = n ∧ s5 = .int .i64 j ∧ Hid (Fr w wr))
  case atStart => exact ⟨0, by omega, rfl, keep (fr_refl w)⟩
  case round =>
    obtain ⟨j, hj, rfl, hF⟩ := hrel
    have f1 := hF.out
    have hrr := fr_refl wr
    have wrd := fr_drew hrr
    by_cases hlt : j < n
    · have hm : l[j]? = some (l[j]'(by rw [HN.out]; exact hlt)) := List.getElem?_eq_getElem _
      generalize l[j]'(by rw [HN.out]; exact hlt) = z at hm
      obtain ⟨b1, o1, rfl, hb1, hr1⟩ := has_rows (HL.out.below (f1.mono hB)) (wc_wid _) (by decide) (by intro e; rw [e] at hm; simp at hm)
      obtain ⟨b2, o2, rfl, hb2, hr2⟩ := has_rows (HL2.out.below (f1.mono hB2)) (wc_wid _) (by decide) (by intro e; rw [e] at hm; simp at hm)
      have lX := elem_ld want_ty hr1 (wc_wid _) (Nat.lt_of_lt_of_le (Nat.lt_of_lt_of_le hb1 hB) f1.size) hm
      have lY := elem_ld want_ty hr2 (wc_wid _) (Nat.lt_of_lt_of_le (Nat.lt_of_lt_of_le hb2 hB2) f1.size) hm
      have hjz : (j : Int) < (n : Int) := by omega
      have qN := want_neq z (hz z (List.mem_of_getElem? hm))
      clear hm hr1 hr2 hlt
      go_wp2_with fail
      go_region_held3 (fun W => Fr wr W) (first | exact wrd | assumption) (fail)
      rename_i hH
      go_wp2_with fail
      go_roundg (gk - 1)
      case measure => omega
      case rel => exact ⟨j + 1, by omega, rfl, keep (fr_step f1 hH)⟩
    · have hjn : j = n := by omega
      have hjz : ¬ (j : Int) < (n : Int) := by omega
      clear hlt
      go_wp2_with fail
      go_ret
      exact ⟨rfl, fr_step f0 hF.out⟩
end Go.Proofs.Ytbnphkiipjgfaaa
