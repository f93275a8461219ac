/- Package sched: its table in memory; New, has, turn, Block, Wake, End. -/
import Derived.Test.YtmfnekobepdhkaaRows
import Derived.Test.YtmfnekobepdhkaaScM
namespace Go.Proofs.Ytmfnekobepdhkaa
set_option linter.unusedVariables false
set_option linter.unusedSimpArgs false
set_option maxRecDepth 100000
open Go.RowKit
/-- A row in an array of eight. -/
def pad (l : List Int) : List Int := l ++ List.replicate (8 - l.length) 0
theorem pad_len {l : List Int} (h : l.length ≤ 8) : (pad l).length = 8 := by simp [pad]; omega
theorem pad_get {l : List Int} {k : Nat} {x : Int} (h : l[k]? = some x) : (pad l)[k]? = some x := by
  rw [pad, List.getElem?_append_left (List.getElem?_eq_some_iff.1 h).1, h]
theorem pad_set {l : List Int} {k : Nat} (h : k < l.length) (x : Int) : (pad l).set k x = pad (l.set k x) := by
  rw [pad, List.set_append_left _ _ h, pad, List.length_set]
/-- The cells of a table. -/
def tl (t : Tab) : List Int := (t.st.length : Int) :: (pad t.st ++ (pad t.wa ++ (pad t.pk ++ [t.mo])))
section
variable {t : Tab}
theorem ShT.l8 (h : ShT t) : (pad t.st).length = 8 ∧ (pad t.wa).length = 8 ∧ (pad t.pk).length = 8 :=
  ⟨pad_len h.n.2, pad_len (by rw [h.wl]; exact h.n.2), pad_len (by rw [h.pl]; exact h.n.2)⟩
theorem tl_len (h : ShT t) : (tl t).length = 26 := by
  obtain ⟨h1, h2, h3⟩ := h.l8
  simp [tl, h1, h2, h3]
theorem tl_st (h : ShT t) {k : Nat} {x : Int} (hx : t.st[k]? = some x) : (tl t)[1 + k]? = some x := by
  obtain ⟨h1, h2, h3⟩ := h.l8
  have hk := (List.getElem?_eq_some_iff.1 hx).1
  have := h.n
  rw [tl, Nat.add_comm, List.getElem?_cons_succ, List.getElem?_append_left (by omega), pad_get hx]
theorem tl_wa (h : ShT t) {k : Nat} (hk : k < 8) {x : Int} (hx : (pad t.wa)[k]? = some x) : (tl t)[9 + k]? = some x := by
  obtain ⟨h1, h2, h3⟩ := h.l8
  rw [tl, show 9 + k = 8 + k + 1 by omega, List.getElem?_cons_succ, List.getElem?_append_right (by omega), h1, List.getElem?_append_left (by omega), show 8 + k - 8 = k by omega, hx]
theorem tl_pk (h : ShT t) {k : Nat} {x : Int} (hx : t.pk[k]? = some x) : (tl t)[17 + k]? = some x := by
  obtain ⟨h1, h2, h3⟩ := h.l8
  have hk := (List.getElem?_eq_some_iff.1 hx).1
  have := h.n; have := h.pl
  rw [tl, show 17 + k = 16 + k + 1 by omega, List.getElem?_cons_succ, List.getElem?_append_right (by omega), h1, List.getElem?_append_right (by omega), h2, List.getElem?_append_left (by omega), show 16 + k - 8 - 8 = k by omega, pad_get hx]
theorem tl_mo (h : ShT t) : (tl t)[25]? = some t.mo := by
  obtain ⟨h1, h2, h3⟩ := h.l8
  rw [tl, List.getElem?_cons_succ, List.getElem?_append_right (by omega), h1, List.getElem?_append_right (by omega), h2, List.getElem?_append_right (by omega), h3]
  rfl
theorem tl_set_st (h : ShT t) {k : Nat} (hk : k < t.st.length) (x : Int) : (tl t).set (1 + k) x = tl { t with st := t.st.set k x } := by
  obtain ⟨h1, h2, h3⟩ := h.l8
  have := h.n
  simp only [tl, List.length_set]
  rw [Nat.add_comm, List.set_cons_succ, List.set_append_left _ _ (by omega), pad_set hk]
theorem tl_set_wa (h : ShT t) {k : Nat} (hk : k < t.st.length) (x : Int) : (tl t).set (9 + k) x = tl { t with wa := t.wa.set k x } := by
  obtain ⟨h1, h2, h3⟩ := h.l8
  have := h.n; have := h.wl
  simp only [tl]
  rw [show 9 + k = 8 + k + 1 by omega, List.set_cons_succ, List.set_append_right _ _ (by omega), h1, show 8 + k - 8 = k by omega, List.set_append_left _ _ (by omega), pad_set (by omega)]
theorem tl_set_pk (h : ShT t) {k : Nat} (hk : k < t.st.length) (x : Int) : (tl t).set (17 + k) x = tl { t with pk := t.pk.set k x } := by
  obtain ⟨h1, h2, h3⟩ := h.l8
  have := h.n; have := h.pl
  simp only [tl]
  rw [show 17 + k = 16 + k + 1 by omega, List.set_cons_succ, List.set_append_right _ _ (by omega), h1, List.set_append_right _ _ (by omega), h2, show 16 + k - 8 - 8 = k by omega, List.set_append_left _ _ (by omega), pad_set (by omega)]
theorem tl_set_mo (h : ShT t) (x : Int) : (tl t).set 25 x = tl { t with mo := x } := by
  obtain ⟨h1, h2, h3⟩ := h.l8
  simp only [tl]
  rw [List.set_cons_succ, List.set_append_right _ _ (by omega), h1, List.set_append_right _ _ (by omega), h2, List.set_append_right _ _ (by omega), h3]
  rfl
end
theorem ints_patch {l : List Int} {k : Nat} (hk : k < l.length) (x : Int) : splice (ints l) k [.int .i64 x] = ints (l.set k x) := by
  simp only [splice, ints, List.set_eq_take_append_cons_drop, if_pos hk, List.map_append, List.map_cons, List.map_take, List.map_drop, List.length_cons, List.length_nil, List.cons_append, List.nil_append]
theorem int_info : (Try.prog.info? 3).map (·.size) = some 1 := by kernel_rfl
theorem state_info : (Try.prog.info? 51).map (·.size) = some 1 := by kernel_rfl
/-- A table of the program's: its block g. -/
structure PT (w : World) (g : Nat) (t : Tab) (K : Nat) : Prop where
  box : Arr w g 55 (ints (tl t)).toArray
  ok : OkT t K
/-- A number of a row laid anew, the cell stored by itself. -/
theorem arr_int_set {w : World} {g T j : Nat} {l : List Int} (h : Arr w g T (ints l).toArray) (z : Int) : Arr (w.setCell ⟨g, j, none⟩ (.int .i64 z)) g T (ints (l.set j z)).toArray := by
  have := h.set j (.int .i64 z)
  rwa [List.setIfInBounds_toArray, show (ints l).set j (.int .i64 z) = ints (l.set j z) by simp [ints, List.map_set]] at this
theorem arr_int_cell {w : World} {g T j : Nat} {l : List Int} {x : Int} (h : Arr w g T (ints l).toArray) (hx : l[j]? = some x) : w.cell? ⟨g, j, none⟩ = some (.int .i64 x) := by
  rw [h.cell]
  simpa using ints_get hx
section
variable {w W : World} {g K : Nat} {t : Tab} {X : Nat → Prop}
theorem PT.chg (h : PT w g t K) (k : Chg X w W) (hg : ¬ X g) : PT W g t K := ⟨h.box.chg k hg, h.ok⟩
theorem PT.fr (h : PT w g t K) (k : Fr w W) : PT W g t K := h.chg (.of_fr (fun _ => False) k) id
theorem PT.mono (h : PT w g t K) {L : Nat} (hl : K ≤ L) : PT w g t L := ⟨h.box, h.ok.mono hl⟩
theorem PT.cell (h : PT w g t K) {j : Nat} {x : Int} (hx : (tl t)[j]? = some x) : w.cell? ⟨g, j, none⟩ = some (.int .i64 x) := by
  rw [h.box.cell]
  simpa using ints_get hx
theorem PT.cn (h : PT w g t K) : w.cell? ⟨g, 0, none⟩ = some (.int .i64 (t.st.length : Int)) := h.cell rfl
theorem PT.len (h : PT w g t K) : (ints (tl t)).length = 26 := by rw [ints_len, tl_len h.ok.toShT]
end
theorem tl_new {n : Nat} (h1 : 1 ≤ n) (h2 : n ≤ 8) : ints (tl (newT n)) = .int .i64 (n : Int) :: List.replicate 25 (.int .i64 0) := by
  simp only [tl, newT, pad, List.length_replicate, List.replicate_append_replicate, show n + (8 - n) = 8 by omega, ints, List.map_cons, List.map_append, List.map_replicate, List.map_nil]
  rfl
set_option maxHeartbeats 1000000 in
theorem new_yes (w : World) (n : Nat) (h1 : 1 ≤ n) (h2 : n ≤ 8) :
    Calls Try.prog 8 #[.int .i64 (n : Int)] w fun e w' => ∃ g, e = .returned (.tuple #[.pointer (some ⟨g, 0, none⟩), .int .i64 0]) ∧ Hid (PT w' g (newT n) 0 ∧ Fr w w' ∧ w.heap.size ≤ g) := by
  have HZ := keep (tl_new h1 h2)
  go_enter Try.func8, Try.ntmps8
  go_wp2
  go_ret2
  exact ⟨_, rfl, keep ⟨⟨by rw [HZ.out]; exact Arr.new w _ _, newT_ok h1 h2 0⟩, fr_new (fr_refl w) _, Nat.le_refl _⟩⟩
set_option maxHeartbeats 1000000 in
theorem new_no (w : World) (n : Int) (hn : n < 1 ∨ 8 < n) :
    Calls Try.prog 8 #[.int .i64 n] w fun e w' => e = .returned (.tuple #[.pointer none, .int .i64 1]) ∧ w = w' := by
  rcases hn with h | h
  · go_enter Try.func8, Try.ntmps8
    go_wp2
    go_ret2
    exact ⟨rfl, rfl⟩
  · have h1 : ¬ n < 1 := by omega
    go_enter Try.func8, Try.ntmps8
    go_wp2
    go_ret2
    exact ⟨rfl, rfl⟩
set_option maxHeartbeats 1000000 in
theorem has_at {w : World} {g K : Nat} {t : Tab} (h : PT w g t K) {i : Int} (hi : -9223372036854775808 ≤ i ∧ i ≤ 9223372036854775807) :
    Calls Try.prog 33 #[.pointer (some ⟨g, 0, none⟩), .int .i64 i] w fun e w' => e = .returned (.bool (decide (0 ≤ i ∧ i < t.st.length))) ∧ w = w' := by
  have c1 := h.cn
  have hn := h.ok.n
  by_cases h0 : 0 ≤ i
  · have hd : decide (0 ≤ i ∧ i < t.st.length) = decide (i < t.st.length) := by simp [h0]
    rw [hd]
    generalize t.st.length = n at *
    clear h hd
    go_enter Try.func33, Try.ntmps33
    go_wp2
    go_ret
    exact ⟨rfl, rfl⟩
  · have hd : decide (0 ≤ i ∧ i < t.st.length) = false := by simp [h0]
    rw [hd]
    clear h hd
    go_enter Try.func33, Try.ntmps33
    go_wp2
    go_ret
    exact ⟨rfl, rfl⟩
set_option maxHeartbeats 2000000 in
theorem turn_at {w : World} {g K : Nat} {t : Tab} (h : PT w g t K) {i z : Int} (hi : -9223372036854775808 ≤ i ∧ i ≤ 9223372036854775807) :
    Calls Try.prog 30 #[.pointer (some ⟨g, 0, none⟩), .int .i64 i, .int .i64 z] w fun e w' => e = .returned (.tuple #[]) ∧ Hid (PT w' g (turnT t i z) K ∧ Chg (· = g) w w') := by
  have ch := has_at h hi
  have hn := h.ok.n
  cases hb : mayT t i with
  | false =>
    have H := keep h
    have HB := keep hb
    rcases mayT_no hb with hl | hl | ⟨k, rfl, hl, hk⟩
    · rw [show decide (0 ≤ i ∧ i < t.st.length) = false by simp; omega] at ch
      clear hb h
      go_enter Try.func30, Try.ntmps30
      go_wp2_with fail
      refine ch.mono ?_
      rintro e w' ⟨rfl, rfl⟩
      go_wp2_with fail
      go_returns
      exact ⟨rfl, keep ⟨by rw [turnT, HB.out, if_neg (by decide)]; exact H.out, .refl _ _⟩⟩
    · rw [show decide (0 ≤ i ∧ i < t.st.length) = false by simp; omega] at ch
      clear hb h
      go_enter Try.func30, Try.ntmps30
      go_wp2_with fail
      refine ch.mono ?_
      rintro e w' ⟨rfl, rfl⟩
      go_wp2_with fail
      go_returns
      exact ⟨rfl, keep ⟨by rw [turnT, HB.out, if_neg (by decide)]; exact H.out, .refl _ _⟩⟩
    · rw [show decide (0 ≤ (k : Int) ∧ (k : Int) < t.st.length) = true by simp; omega] at ch
      have c2 := h.cell (tl_st h.ok.toShT hk)
      generalize t.st.length = n at *
      clear hb h
      go_enter Try.func30, Try.ntmps30
      go_wp2_with fail
      refine ch.mono ?_
      rintro e w' ⟨rfl, rfl⟩
      go_wp2_with fail
      go_returns
      exact ⟨rfl, keep ⟨by rw [turnT, HB.out, if_neg (by decide)]; exact H.out, .refl _ _⟩⟩
  | true =>
    have H := keep h
    have HB := keep hb
    obtain ⟨k, s, rfl, hl, hk, hs⟩ := mayT_yes hb
    rw [show decide (0 ≤ (k : Int) ∧ (k : Int) < t.st.length) = true by simp; omega] at ch
    have c2 := h.cell (tl_st h.ok.toShT hk)
    have hs2 : (s == 2) = false := by simpa using hs
    have p1 := keep (ints_patch (l := tl t) (k := 1 + k) (by rw [tl_len h.ok.toShT]; omega) z)
    rw [tl_set_st h.ok.toShT hl] at p1
    have h26 := h.len
    have HL := keep hl
    by_cases hz : z = 0
    · subst hz
      generalize t.st.length = n at *
      clear hb h hk hs
      go_enter Try.func30, Try.ntmps30
      go_wp2_with fail
      refine ch.mono ?_
      rintro e w' ⟨rfl, rfl⟩
      go_wp2_with (first
        | (refine wpList_store_chg (ds := [.int .i64 0]) state_info rfl (.tmp 24) (.tmp 21) rfl g (1 + k) rfl rfl rfl (one_of _ rfl) H.out.box (by omega) p1.out ?_; intro W hA hK)
        | fail)
      go_returns
      have ho := turnT_ok H.out.ok (k : Int) 0
      have he : turnT t (k : Int) 0 = { t with st := t.st.set k 0 } := by rw [turnT, HB.out, if_pos rfl]; simp
      exact ⟨rfl, keep ⟨⟨by rw [he]; exact hA, ho⟩, hK⟩⟩
    · have hz2 : (z != 0) = true := by simpa using hz
      have ok2 : ShT { t with st := t.st.set k z } := ⟨by simpa using h.ok.n, by simpa using h.ok.wl, by simpa using h.ok.pl⟩
      have p2 := keep (ints_patch (l := tl { t with st := t.st.set k z }) (k := 9 + k) (by rw [tl_len ok2]; omega) 0)
      rw [tl_set_wa ok2 (by simpa using hl)] at p2
      have h27 : (ints (tl { t with st := t.st.set k z })).length = 26 := by rw [ints_len, tl_len ok2]
      have HZ := keep hz
      generalize t.st.length = n at *
      clear hb h hk hs ok2 hz
      go_enter Try.func30, Try.ntmps30
      go_wp2_with fail
      refine ch.mono ?_
      rintro e w' ⟨rfl, rfl⟩
      go_wp2_with (first
        | (refine wpList_store_chg (ds := [.int .i64 z]) state_info rfl (.tmp 24) (.tmp 21) rfl g (1 + k) rfl rfl rfl (one_of _ rfl) H.out.box (by omega) p1.out ?_; intro W hA hK)
        | (refine wpList_store_chg (ds := [.int .i64 0]) int_info rfl (.tmp 31) (.const (.int .i64 0)) rfl g (9 + k) rfl rfl rfl (one_of _ rfl) hA (by omega) p2.out ?_; intro W2 hA2 hK2)
        | fail)
      go_returns
      have ho := turnT_ok H.out.ok (k : Int) z
      have he : turnT t (k : Int) z = { t with st := t.st.set k z, wa := t.wa.set k 0 } := by rw [turnT, HB.out, if_pos rfl, if_neg HZ.out]; simp
      exact ⟨rfl, keep ⟨⟨by rw [he]; exact hA2, ho⟩, hK.trans hK2⟩⟩
theorem block_at {w : World} {g K : Nat} {t : Tab} (h : PT w g t K) {i : Int} (hi : -9223372036854775808 ≤ i ∧ i ≤ 9223372036854775807) :
    Calls Try.prog 12 #[.pointer (some ⟨g, 0, none⟩), .int .i64 i] w fun e w' => e = .returned (.tuple #[]) ∧ Hid (PT w' g (turnT t i 1) K ∧ Chg (· = g) w w') := by
  have c := turn_at h (z := 1) hi
  clear h
  go_enter Try.func12, Try.ntmps12
  go_wp2_with fail
  refine c.mono ?_
  rintro e w' ⟨rfl, h⟩
  go_wp2_with fail
  go_returns
  exact ⟨rfl, h⟩
theorem wake_at {w : World} {g K : Nat} {t : Tab} (h : PT w g t K) {i : Int} (hi : -9223372036854775808 ≤ i ∧ i ≤ 9223372036854775807) :
    Calls Try.prog 14 #[.pointer (some ⟨g, 0, none⟩), .int .i64 i] w fun e w' => e = .returned (.tuple #[]) ∧ Hid (PT w' g (turnT t i 0) K ∧ Chg (· = g) w w') := by
  have c := turn_at h (z := 0) hi
  clear h
  go_enter Try.func14, Try.ntmps14
  go_wp2_with fail
  refine c.mono ?_
  rintro e w' ⟨rfl, h⟩
  go_wp2_with fail
  go_returns
  exact ⟨rfl, h⟩
theorem end_at {w : World} {g K : Nat} {t : Tab} (h : PT w g t K) {i : Int} (hi : -9223372036854775808 ≤ i ∧ i ≤ 9223372036854775807) :
    Calls Try.prog 16 #[.pointer (some ⟨g, 0, none⟩), .int .i64 i] w fun e w' => e = .returned (.tuple #[]) ∧ Hid (PT w' g (turnT t i 2) K ∧ Chg (· = g) w w') := by
  have c := turn_at h (z := 2) hi
  clear h
  go_enter Try.func16, Try.ntmps16
  go_wp2_with fail
  refine c.mono ?_
  rintro e w' ⟨rfl, h⟩
  go_wp2_with fail
  go_returns
  exact ⟨rfl, h⟩
set_option maxHeartbeats 1000000 in
theorem picks_at {w : World} {g K : Nat} {t : Tab} (h : PT w g t K) {i : Int} (hi : -9223372036854775808 ≤ i ∧ i ≤ 9223372036854775807) :
    Calls Try.prog 26 #[.pointer (some ⟨g, 0, none⟩), .int .i64 i] w fun e w' => e = .returned (.int .i64 (atI t.pk i)) ∧ w = w' := by
  have ch := has_at h hi
  have hn := h.ok.n
  have hl := h.ok.pl
  by_cases hi2 : 0 ≤ i ∧ i < t.st.length
  · obtain ⟨k, rfl⟩ := Int.eq_ofNat_of_zero_le hi2.1
    have hx : t.pk[k]? = some (t.pk[k]'(by omega)) := List.getElem?_eq_getElem _
    generalize t.pk[k]'(by omega) = x at hx
    have c2 := h.cell (tl_pk h.ok.toShT hx)
    rw [decide_eq_true hi2] at ch
    rw [atI_nat hx]
    replace hi2 := hi2.2
    generalize t.st.length = n at *
    clear h hx hl
    go_enter Try.func26, Try.ntmps26
    go_wp2_with fail
    refine ch.mono ?_
    rintro e w' ⟨rfl, rfl⟩
    go_wp2_with fail
    go_ret
    exact ⟨rfl, rfl⟩
  · rw [decide_eq_false hi2] at ch
    rw [atI_no (by omega)]
    clear h hl hi2
    go_enter Try.func26, Try.ntmps26
    go_wp2_with fail
    refine ch.mono ?_
    rintro e w' ⟨rfl, rfl⟩
    go_wp2_with fail
    go_ret
    exact ⟨rfl, rfl⟩
set_option maxHeartbeats 1000000 in
theorem wait_at {w : World} {g K : Nat} {t : Tab} (h : PT w g t K) {i : Int} (hi : -9223372036854775808 ≤ i ∧ i ≤ 9223372036854775807) :
    Calls Try.prog 28 #[.pointer (some ⟨g, 0, none⟩), .int .i64 i] w fun e w' => e = .returned (.int .i64 (atI t.wa i)) ∧ w = w' := by
  have ch := has_at h hi
  have hn := h.ok.n
  have hl := h.ok.wl
  by_cases hi2 : 0 ≤ i ∧ i < t.st.length
  · obtain ⟨k, rfl⟩ := Int.eq_ofNat_of_zero_le hi2.1
    have hx : t.wa[k]? = some (t.wa[k]'(by omega)) := List.getElem?_eq_getElem _
    generalize t.wa[k]'(by omega) = x at hx
    have c2 := h.cell (tl_wa h.ok.toShT (by omega) (pad_get hx))
    rw [decide_eq_true hi2] at ch
    rw [atI_nat hx]
    replace hi2 := hi2.2
    generalize t.st.length = n at *
    clear h hx hl
    go_enter Try.func28, Try.ntmps28
    go_wp2_with fail
    refine ch.mono ?_
    rintro e w' ⟨rfl, rfl⟩
    go_wp2_with fail
    go_ret
    exact ⟨rfl, rfl⟩
  · rw [decide_eq_false hi2] at ch
    rw [atI_no (by omega)]
    clear h hl hi2
    go_enter Try.func28, Try.ntmps28
    go_wp2_with fail
    refine ch.mono ?_
    rintro e w' ⟨rfl, rfl⟩
    go_wp2_with fail
    go_ret
    exact ⟨rfl, rfl⟩
theorem worst_at {w : World} {g K : Nat} {t : Tab} (h : PT w g t K) :
    Calls Try.prog 25 #[.pointer (some ⟨g, 0, none⟩)] w fun e w' => e = .returned (.int .i64 t.mo) ∧ w = w' := by
  have c1 := h.cell (tl_mo h.ok.toShT)
  clear h
  go_enter Try.func25, Try.ntmps25
  go_wp2
  go_ret
  exact ⟨rfl, rfl⟩
end Go.Proofs.Ytmfnekobepdhkaa
