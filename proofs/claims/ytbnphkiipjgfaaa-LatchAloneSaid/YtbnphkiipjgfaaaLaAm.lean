/- Latches: one that writes is alone, nobody has it twice. No program text. -/
import Derived.Test.YtbnphkiipjgfaaaLaN
namespace Go.Proofs.Ytbnphkiipjgfaaa
set_option linter.unusedVariables false
set_option linter.unusedSimpArgs false
def wlT (t : Lat) : List Int := if t.wr < 0 then [] else [t.wr]
/-- All who have it or wait. -/
def allT (t : Lat) : List Int := t.rs ++ (wlT t ++ t.q.map (·.1))
structure Al (t : Lat) : Prop where
  lo : ∀ z ∈ allT t, 0 ≤ z ∧ z ≤ 5
  wr : -1 ≤ t.wr
  alone : 0 ≤ t.wr → t.rs = []
  nd : (allT t).Nodup
theorem ins_perm (rs : List Int) (t : Int) : (insT rs t).Perm (t :: rs) := by
  induction rs with
  | nil => exact List.Perm.refl _
  | cons x rs ih =>
    rw [ins_cons]
    split
    · exact (ih.cons x).trans (List.Perm.swap t x rs)
    · exact List.Perm.refl _
theorem Al.perm {t u : Lat} (h : Al t) (hp : (allT u).Perm (allT t)) (hw : -1 ≤ u.wr) (ha : 0 ≤ u.wr → u.rs = []) : Al u := ⟨fun z hz => h.lo z (hp.mem_iff.1 hz), hw, ha, hp.nodup_iff.2 h.nd⟩
theorem can_wr {t : Lat} {b : Bool} (h : canT t b = true) : t.wr = -1 ∧ (b = true → t.rs = []) := by
  simp only [canT, Bool.and_eq_true, decide_eq_true_eq] at h
  refine ⟨h.1, fun hb => ?_⟩
  subst hb
  have := h.2
  simp at this
  exact this
/-- One that comes in. -/
theorem give_all {t : Lat} {x : Wt} (hc : canT t x.2 = true) (hx : 0 ≤ x.1) : (allT (giveT t x)).Perm (x.1 :: allT t) ∧ -1 ≤ (giveT t x).wr ∧ (0 ≤ (giveT t x).wr → (giveT t x).rs = []) := by
  obtain ⟨h1, h2⟩ := can_wr hc
  have hw0 : wlT t = [] := by rw [wlT, if_pos (by omega)]
  unfold giveT
  cases hb : x.2 with
  | true =>
    have h3 := h2 hb
    refine ⟨?_, by simp only [if_true]; omega, fun _ => by simpa using h3⟩
    have e : wlT { t with wr := x.1 } = [x.1] := by rw [wlT, if_neg (by simp only; omega)]
    have e2 : allT { t with wr := x.1 } = x.1 :: allT t := by
      rw [allT, allT, e, hw0]
      simp [h3]
    simp only [if_true]
    rw [e2]
  | false =>
    refine ⟨?_, by simp only [Bool.false_eq_true, if_false]; omega, fun h => by simp only [Bool.false_eq_true, if_false] at h; omega⟩
    have e : wlT { t with rs := insT t.rs x.1 } = [] := by rw [wlT, if_pos (by simp only; omega)]
    simp only [Bool.false_eq_true, if_false, allT, e, hw0, List.nil_append]
    exact (ins_perm t.rs x.1).append_right _
theorem Al.let {t : Lat} (h : Al t) : Al (letT t).1 := (let_ind (M := Al) (fun l x q hl hq hc => by
  have hx : 0 ≤ x.1 := (hl.lo x.1 (by simp [allT, hq])).1
  obtain ⟨p1, p2, p3⟩ := give_all (t := { l with q := q }) (x := x) hc hx
  refine hl.perm (p1.trans ?_) p2 p3
  simp only [allT, hq, List.map_cons]
  have e : wlT { l with q := q } = wlT l := rfl
  rw [e, ← List.append_assoc, ← List.append_assoc]
  exact List.perm_middle.symm) _ t rfl h).1
theorem Al.sub {t u : Lat} (h : Al t) (hs : (allT u).Sublist (allT t)) (hw : -1 ≤ u.wr) (ha : 0 ≤ u.wr → u.rs = []) : Al u := ⟨fun z hz => h.lo z (hs.subset hz), hw, ha, hs.nodup h.nd⟩
theorem Al.drop {t : Lat} (h : Al t) (x : Int) : Al (dropT t x).1 := by
  unfold dropT
  split
  · exact h
  · refine Al.let (h.sub ?_ ?_ ?_)
    · refine List.Sublist.append List.filter_sublist (List.Sublist.append ?_ (List.filter_sublist.map _))
      by_cases hw : t.wr = x
      · have e : wlT (outT t x) = [] := by rw [wlT, if_pos (by simp only [outT]; rw [if_pos hw]; omega)]
        rw [e]
        exact List.nil_sublist _
      · have e : (outT t x).wr = t.wr := by simp only [outT]; rw [if_neg hw]
        rw [wlT, wlT, e]
        exact List.Sublist.refl _
    · simp only [outT]
      split
      · omega
      · exact h.wr
    · intro hw
      simp only [outT] at hw ⊢
      split at hw
      · omega
      · rw [h.alone hw]; rfl
theorem Al.down {t : Lat} (h : Al t) {x : Int} : Al (downT t x).1 := by
  unfold downT
  split
  · exact h
  · rename_i hx
    have hx1 : ¬ x < 0 := fun e => hx (.inl e)
    have hx2 : t.wr = x := Classical.byContradiction fun e => hx (.inr e)
    have hr := h.alone (by omega)
    have e0 : giveT { t with wr := -1 } (x, false) = { t with wr := -1, rs := [x] } := by simp [giveT, hr, ins_nil]
    have e1 : allT { t with wr := -1, rs := [x] } = allT t := by
      have w1 : wlT { t with wr := -1, rs := [x] } = [] := by rw [wlT, if_pos (by simp only; omega)]
      have w2 : wlT t = [x] := by rw [wlT, if_neg (by omega), hx2]
      rw [allT, allT, w1, w2, hr]
      rfl
    refine Al.let ?_
    rw [e0]
    exact h.perm (by rw [e1]) (by simp) (fun h => by simp only at h; omega)
theorem has_all {t : Lat} {x : Int} (hx : 0 ≤ x) (h : hasT t x = false) : ¬ x ∈ allT t := by
  simp only [hasT, Bool.or_eq_false_iff, decide_eq_false_iff_not] at h
  obtain ⟨⟨h1, h2⟩, h3⟩ := h
  simp only [allT, List.mem_append, List.mem_map]
  rintro (hm | hm | ⟨y, hy, e⟩)
  · simp [hm] at h2
  · unfold wlT at hm
    split at hm
    · cases hm
    · exact h1 (List.mem_singleton.1 hm).symm
  · rw [List.any_eq_false] at h3
    exact h3 y hy (by simpa using e)
theorem Al.take {t : Lat} (h : Al t) {x : Int} (hx : 0 ≤ x ∧ x ≤ 5) (b : Bool) : Al (takeT t x b) := by
  have key : hasT t x = false → ∀ u : Lat, (allT u).Perm (x :: allT t) → -1 ≤ u.wr → (0 ≤ u.wr → u.rs = []) → Al u := fun hh u hp hw ha =>
    ⟨fun z hz => by
      rcases List.mem_cons.1 (hp.mem_iff.1 hz) with rfl | hz
      · exact hx
      · exact h.lo z hz, hw, ha, hp.nodup_iff.2 (List.nodup_cons.2 ⟨has_all hx.1 hh, h.nd⟩)⟩
  unfold takeT
  split
  · rename_i h1
    simp only [tryB, Bool.and_eq_true, Bool.not_eq_true', decide_eq_true_eq] at h1
    obtain ⟨p1, p2, p3⟩ := give_all (t := t) (x := (x, b)) h1.2 hx.1
    exact key h1.1.1.2 _ p1 p2 p3
  · split
    · rename_i h1 h2
      simp only [waitB, Bool.and_eq_true, Bool.not_eq_true'] at h2
      refine key h2.2 _ ?_ h.wr h.alone
      simp only [allT, List.map_append, List.map_cons, List.map_nil]
      have e : wlT { t with q := t.q ++ [(x, b)] } = wlT t := rfl
      rw [e, ← List.append_assoc, ← List.append_assoc, ← List.append_assoc]
      exact List.perm_append_singleton _ _
    · exact h
theorem new_al : Al newT := ⟨by simp [allT, wlT, newT], by simp [newT], by simp [newT], by simp [allT, wlT, newT]⟩
/-- How often each of six stands in a row. -/
def cnt (L : List Int) : List Int := (List.range 6).map fun v => (L.count ((v : Nat) : Int) : Int)
theorem cnt_len (L : List Int) : (cnt L).length = 6 := by simp [cnt]
theorem cnt_get (L : List Int) {v : Nat} (h : v < 6) : (cnt L)[v]? = some ((L.count ((v : Nat) : Int) : Nat) : Int) := by
  rw [cnt, List.getElem?_map, List.getElem?_range h]
  rfl
theorem cnt_snoc (L : List Int) {v : Nat} (h : v < 6) : cnt (L ++ [(v : Int)]) = (cnt L).set v (((L.count ((v : Nat) : Int) : Nat) : Int) + 1) := by
  apply List.ext_getElem?
  intro i
  by_cases hi : i < 6
  · rw [cnt_get _ hi, List.getElem?_set]
    by_cases hv : v = i
    · subst hv
      rw [if_pos rfl, if_pos (by rw [cnt_len]; exact h), List.count_append]
      simp
    · rw [if_neg hv, cnt_get _ hi, List.count_append]
      have : List.count ((i : Nat) : Int) [(v : Int)] = 0 := List.count_eq_zero.2 (by simp; omega)
      rw [this]
      simp
  · rw [List.getElem?_eq_none (by rw [cnt_len]; omega), List.getElem?_eq_none (by rw [List.length_set, cnt_len]; omega)]
theorem cnt_one {L : List Int} (h : L.Nodup) {v : Nat} : L.count ((v : Nat) : Int) ≤ 1 := List.nodup_iff_count.1 h _
end Go.Proofs.Ytbnphkiipjgfaaa
