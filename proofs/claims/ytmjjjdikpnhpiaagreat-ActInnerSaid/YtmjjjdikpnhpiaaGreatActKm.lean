/- What was left out of these texts, and is wanted after all. No program text. -/
import Derived.Test.YtmjjjdikpnhpiaaGreatActM
import Derived.Test.YtmjjjdikpnhpiaaGreatActF
import Derived.Test.YtmjjjdikpnhpiaaGreatActRm
import Derived.Test.YtmjjjdikpnhpiaaGreatActKid
import Derived.Test.YtmjjjdikpnhpiaaGreatActV
import Derived.Test.YtmjjjdikpnhpiaaGreatFnE
namespace Go.Proofs.YtmjjjdikpnhpiaaGreat
set_option maxRecDepth 100000
set_option linter.unusedVariables false
set_option linter.unusedSimpArgs false
open Go.RowKit
variable {a b c : RM}
theorem zov (v : RV) (a b : Int) : zbJ (zbJ v a) b = zbJ v (IntKind.u64.wrap (a + b)) := by
  rw [zbJ.eq_1 v a, zgL (zd6 _).1 (zd6 _).2, zbJ]
  congr 1
  rw [zeB, zeB, zeB, zeB]
  omega
theorem zi3 (h : b.kind ≠ 3) : za7 a b = b := by unfold za7; rw [if_pos (.inl h)]
theorem comp_31 (h : b.kind = 3) (hk : a.key = b.key) (h1 : a.kind = 1) : za7 a b = { b with kind := 1, val := zbJ a.val b.inc, inc := 0 } := by
  unfold za7; rw [if_neg (by simp [h, hk]), if_pos h1]
theorem comp_32 (h : b.kind = 3) (hk : a.key = b.key) (h1 : a.kind = 2) : za7 a b = { b with kind := 1, val := zaO b.inc, inc := 0 } := by
  unfold za7; rw [if_neg (by simp [h, hk]), if_neg (by omega), if_pos h1]
theorem comp_33 (h : b.kind = 3) (hk : a.key = b.key) (h1 : a.kind = 3) : za7 a b = { b with inc := IntKind.u64.wrap (a.inc + b.inc) } := by
  unfold za7; rw [if_neg (by simp [h, hk]), if_neg (by omega), if_neg (by omega)]
theorem plus_of (n k : Int) (h : zeb n) : zbJ (zaO n) k = zaO (IntKind.u64.wrap (n + k)) := zgL h.1 h.2
/-- Composed it does what both do. -/
theorem app_app (oa : okM a = true) (ob : okM b = true) (hk : a.key = b.key) (wa : a.wf) (v : RV) (t : Bool) :
    zbx (zbx v t a) (zcy a) b = zbx v t (za7 a b) ∧ zcy b = zcy (za7 a b) := by
  obtain ⟨ka, -, -, -, -⟩ := zbp oa
  obtain ⟨kb, -, -, -, -⟩ := zbp ob
  rcases kb with kb | kb | kb
  · rw [zi3 (by omega)]
    simp [zbx, kb]
  · rw [zi3 (by omega)]
    simp [zbx, kb]
  · rcases ka with ka | ka | ka
    · rw [comp_31 kb hk ka]
      simp [zbx, zcy, ka, kb]
    · rw [comp_32 kb hk ka]
      simp [zbx, zcy, ka, kb]
    · rw [comp_33 kb hk ka]
      have e : zcy a = true := by simp [zcy, ka]
      rw [e]
      simp only [zbx, zcy, ka, kb]
      cases t
      · simp [plus_of _ _ wa.hi]
      · simp [zov]
theorem findL_of_mem {l : List RM} (h : OkL l) {m : RM} (hm : m ∈ l) : zaj l m.key = some m := by
  induction l with
  | nil => simp at hm
  | cons x l ih =>
    rw [zai]
    rcases List.mem_cons.1 hm with rfl | hm'
    · rw [if_pos rfl]
    · have hx := h.good.head
      have hm2 := h.good m hm
      have hlt := h.lt m hm'
      rw [if_neg (fun e => by have := (zfK hx.1 hm2.1 hx.2 hm2.2).2 e; omega)]
      exact ih h.tail hm'
/-- What is found behind an addition. -/
theorem zjp {l : List RM} {m : RM} (h : OkL l) (wm : m.wf) (om : okM m = true) (k : RK) :
    zaj (zaK l m) k = if k = m.key then some (match zaj l k with | some x => za7 x m | none => m) else zaj l k := by
  induction l with
  | nil =>
    show zaj [m] k = _
    rw [zai, zds]
    by_cases e : m.key = k
    · rw [if_pos e, if_pos e.symm]
    · rw [if_neg e, if_neg (fun e2 => e e2.symm)]
  | cons x l ih =>
    have hx := h.good.head
    have IH := ih h.tail
    unfold zaK
    split
    · rename_i hlt
      have hne : x.key ≠ m.key := fun e => by have : cd x = cd m := by unfold cd; rw [e]
                                              omega
      rw [zai, zai, IH]
      by_cases e : x.key = k
      · subst e
        rw [if_pos rfl, if_pos rfl, if_neg hne]
      · rw [if_neg e, if_neg e]
    · split
      · rename_i hk
        rw [zai, zai, zhS]
        by_cases e : m.key = k
        · rw [if_pos e, if_pos e.symm, if_pos (hk.trans e)]
        · rw [if_neg e, if_neg (fun e2 => e e2.symm), if_neg (fun e2 => e (hk.symm.trans e2))]
      · rename_i h1 h2
        have hno : zaj (x :: l) m.key = none := by
          rw [zcB]
          intro y hy e
          have hy2 := h.good y hy
          have hc : cd y = cd m := by unfold cd; rw [e]
          have hxm : cd x ≠ cd m := fun e => h2 ((zfK hx.1 wm hx.2 om).1 e)
          rcases List.mem_cons.1 hy with rfl | hy
          · omega
          · have := h.lt y hy
            omega
        rw [zai]
        by_cases e : m.key = k
        · subst e
          rw [if_pos rfl, if_pos rfl, hno]
        · rw [if_neg e, if_neg (fun e2 => e e2.symm)]
theorem zok : ∀ {more l : List RM}, OkL l → OkL more → ∀ k, zaj (zcg l more) k = (match zaj more k with | some y => some (match zaj l k with | some x => za7 x y | none => y) | none => zaj l k)
  | [], _, _, _, k => by rw [zds]; rfl
  | m :: more, l, h, hm, k => by
    have hm1 := hm.good.head
    show zaj (zcg (zaK l m) more) k = _
    rw [zok (zdP h hm1.1 hm1.2) hm.tail, zjp h hm1.1 hm1.2, zai]
    by_cases e : m.key = k
    · subst e
      have hno : zaj more m.key = none := by
        rw [zcB]
        intro z hz ez
        have := hm.lt z hz
        have : cd z = cd m := by unfold cd; rw [ez]
        omega
      rw [hno, if_pos rfl, if_pos rfl]
    · rw [if_neg (fun e2 => e e2.symm), if_neg e]
theorem findL_less {l gone : List RM} (h : OkL l) (k : RK) : zaj (zaL l gone) k = if (zaj gone k).isSome = true then none else zaj l k := by
  induction l with
  | nil => show zaj [] k = _; rw [zds]; split <;> rfl
  | cons x l ih =>
    have IH := ih h.tail
    have e : zaL (x :: l) gone = if (zaj gone x.key).isSome = true then zaL l gone else x :: zaL l gone := by
      unfold zaL
      rw [List.filter_cons]
      cases (zaj gone x.key).isSome <;> rfl
    rw [e]
    by_cases hk : x.key = k
    · subst hk
      rw [zai, if_pos rfl]
      split
      · rename_i hg
        rw [IH, if_pos hg]
      · rw [zai, if_pos rfl]
    · rw [zai, if_neg hk]
      split
      · exact IH
      · rw [zai, if_neg hk, IH]
theorem appO_app {a b : RM} (oa : okM a = true) (ob : okM b = true) (hk : a.key = b.key) (wa : a.wf) (o : Option RV) : zhJ b (zhJ a o) = zhJ (za7 a b) o := by
  obtain ⟨e1, e2⟩ := app_app oa ob hk wa (o.getD zE) o.isSome
  unfold zhJ
  rw [← e2, ← e1]
  by_cases ha : zcy a = true
  · rw [if_pos ha, ha]
    rfl
  · rw [if_neg ha]
    have hz : zbx (o.getD zE) o.isSome a = zE := by
      have hk2 : a.kind = 2 := by
        unfold zcy at ha
        simpa using ha
      simp [zbx, hk2]
    rw [hz, Bool.eq_false_iff.2 ha]
    rfl
theorem kids_rng {np : Nat} {f : Int} {v : Int} (h : v ∈ zco np f) (hnp : np ≤ 3) : 1 ≤ v ∧ v ≤ 221 := by
  obtain ⟨j, hj⟩ := List.mem_iff_getElem?.1 h
  have hl := (List.getElem?_eq_some_iff.1 hj).1
  rw [zch] at hl
  rw [zgF (by omega)] at hj
  injection hj with hj
  omega
theorem kids_inj {np : Nat} {f : Int} {a b : Nat} {v : Int} (ha : (zco np f)[a]? = some v) (hb : (zco np f)[b]? = some v) : a = b := by
  have h1 := (List.getElem?_eq_some_iff.1 ha).1
  have h2 := (List.getElem?_eq_some_iff.1 hb).1
  rw [zch] at h1 h2
  rw [zgF (by omega)] at ha hb
  injection ha with ha
  injection hb with hb
  omega
theorem zmj (np : Nat) (f : Int) : (zco np f).Nodup :=
  List.pairwise_iff_getElem.2 fun i j hi hj hij e => by
    have h1 := List.getElem?_eq_getElem hi
    have h2 := List.getElem?_eq_getElem hj
    rw [← e] at h2
    have := kids_inj h1 h2
    omega
theorem kids_ok {np : Nat} {f : Int} (h1 : 1 ≤ np) (h2 : np ≤ 3) : zcZ (zco np f) :=
  ⟨by rw [zch]; omega, by rw [zch]; omega, fun x hx => by have := kids_rng hx h2; omega, zmj np f⟩
theorem zg8 : ∀ {l : List RK} {k : RK}, l.length ≤ (zdJ l k).length
  | [], k => by simp [zdJ]
  | x :: l, k => by
    unfold zdJ
    split
    · simp only [List.length_cons]; exact Nat.succ_le_succ zg8
    · split <;> simp
theorem pivs_one (ns : List Int) : 1 ≤ (zca (16 :: ns) 3).length := by
  have hm : ∀ j, 1 ≤ (zbD (16 :: ns) 3 (j + 1)).length := by
    intro j
    induction j with
    | zero => simp [zbD, zdJ]
    | succ j ih =>
      rw [zbD]
      split
      · exact Nat.le_trans ih zg8
      · exact ih
  have : ∃ j, min (16 :: ns).length 20 = j + 1 := ⟨min (16 :: ns).length 20 - 1, by simp; omega⟩
  obtain ⟨j, hj⟩ := this
  unfold zca
  rw [hj]
  exact hm j
theorem zjo (ns : List Int) {most : Int} (h : 0 ≤ most) : ∀ j, zbB (zbY ns most j) ≤ most
  | 0 => by simpa [zbY, zbB] using h
  | j + 1 => by
    unfold zbY
    split
    · assumption
    · exact zjo ns h j
theorem znv (ns : List Int) {most : Int} (h : 0 ≤ most) : zbB (zdS ns most) ≤ most := zjo ns h _
theorem zm0 (ns : List Int) (f : Int) (ms : List Int) : OkN (zdY ns f ms) :=
  .inr ⟨rfl, rfl, kids_ok (pivs_one ns) (zfB ns), (zch _ _).symm, zh1 _ _, zgC _ _⟩
theorem innN_byt (ns : List Int) (f : Int) (ms : List Int) : zcW (zdY ns f ms) ≤ rmN (zdY ns f ms) := znv ms (by omega)
end Go.Proofs.YtmjjjdikpnhpiaaGreat
/- What goes down changes no value; a kid that is divided. No program text. -/
namespace Go.Proofs.YtmjjjdikpnhpiaaGreat
set_option maxRecDepth 100000
set_option linter.unusedVariables false
set_option linter.unusedSimpArgs false
open Go.RowKit
theorem kidN_uniq {ps : List RK} {c : Int} {k : Nat} (op : OkP ps) (hk : k ≤ ps.length) (h1 : ∀ j p, j < k → ps[j]? = some p → zu p ≤ c) (h2 : ∀ j p, k ≤ j → ps[j]? = some p → c < zu p) : zbN ps c = k := by
  have hle := zhy ps c
  have hg : ∀ {j : Nat} (h : j < ps.length), (ps.map zu).getD j 0 = zu ps[j] := fun {j} h => by rw [List.getD_eq_getElem?_getD, List.getElem?_map, List.getElem?_eq_getElem h]; rfl
  rcases Nat.lt_trichotomy (zbN ps c) k with h | h | h
  · have := zgf (c := c) op (Nat.le_refl _) (show zbN ps c < ps.length by omega)
    rw [hg (by omega)] at this
    have := h1 (zbN ps c) _ h (List.getElem?_eq_getElem (by omega))
    omega
  · exact h
  · have := zgi (ps := ps) (c := c) h
    rw [hg (by omega)] at this
    have := h2 k _ (Nat.le_refl _) (List.getElem?_eq_getElem (by omega))
    omega
theorem kidN_below {ps : List RK} {c : Int} {j : Nat} {p : RK} (h : j < zbN ps c) (hp : ps[j]? = some p) : zu p ≤ c := by
  have := zgi h
  rwa [List.getD_eq_getElem?_getD, List.getElem?_map, hp] at this
theorem kidN_above {ps : List RK} {c : Int} {j : Nat} {p : RK} (op : OkP ps) (h : zbN ps c ≤ j) (hp : ps[j]? = some p) : c < zu p := by
  have := zgf (c := c) op h (List.getElem?_eq_some_iff.1 hp).1
  rwa [List.getD_eq_getElem?_getD, List.getElem?_map, hp] at this
/-- The pivots with one more at its place. -/
theorem ins_get {ps : List RK} {x : RK} {i j : Nat} {p : RK} (hi : i ≤ ps.length) (h : (ps.take i ++ x :: ps.drop i)[j]? = some p) : (j < i ∧ ps[j]? = some p) ∨ (j = i ∧ p = x) ∨ (i < j ∧ ps[j - 1]? = some p) := by
  have hl : (ps.take i).length = i := by rw [List.length_take]; omega
  rcases Nat.lt_trichotomy j i with h1 | h1 | h1
  · rw [List.getElem?_append_left (by omega), List.getElem?_take, if_pos h1] at h
    exact .inl ⟨h1, h⟩
  · rw [List.getElem?_append_right (by omega), hl, h1, Nat.sub_self] at h
    simp at h
    exact .inr (.inl ⟨h1, h.symm⟩)
  · rw [List.getElem?_append_right (by omega), hl] at h
    obtain ⟨t, ht⟩ : ∃ t, j - i = t + 1 := ⟨j - i - 1, by omega⟩
    rw [ht, List.getElem?_cons_succ, List.getElem?_drop] at h
    refine .inr (.inr ⟨h1, ?_⟩)
    rw [← h]
    congr 1
    omega
theorem ins_okP {ps : List RK} {x : RK} (op : OkP ps) (wx : x.wf) (ox : okB x = true) (hn : ∀ p, 0 < zbN ps (zu x) → ps[zbN ps (zu x) - 1]? = some p → p ≠ x) : OkP (ps.take (zbN ps (zu x)) ++ x :: ps.drop (zbN ps (zu x))) := by
  have hle := zhy ps (zu x)
  generalize hi : zbN ps (zu x) = i at *
  refine ⟨fun k hk => ?_, ?_⟩
  · rcases List.mem_append.1 hk with h | h
    · exact op.good k (List.mem_of_mem_take h)
    · rcases List.mem_cons.1 h with rfl | h
      · exact ⟨wx, ox⟩
      · exact op.good k (List.mem_of_mem_drop h)
  · have hasc : (ps.take i ++ ps.drop i).Pairwise (fun a b => zu a < zu b) := by rw [List.take_append_drop]; exact op.asc
    obtain ⟨p1, p2, p3⟩ := List.pairwise_append.1 hasc
    have hup : ∀ y ∈ ps.drop i, zu x < zu y := fun y hy => by
      obtain ⟨t, ht⟩ := List.mem_iff_getElem?.1 hy
      rw [List.getElem?_drop] at ht
      exact kidN_above op (by omega) ht
    have hlo : ∀ y ∈ ps.take i, zu y < zu x := fun y hy => by
      obtain ⟨t, ht⟩ := List.mem_iff_getElem?.1 hy
      have hti : t < i := by have := (List.getElem?_eq_some_iff.1 ht).1; rw [List.length_take] at this; omega
      rw [List.getElem?_take, if_pos hti] at ht
      have hle2 : zu y ≤ zu x := kidN_below (by omega) ht
      have gy := op.good y (List.mem_of_getElem? ht)
      rcases Int.lt_or_eq_of_le hle2 with h | h
      · exact h
      · exfalso
        have e := zcI gy.1 wx (za1 gy.2) (za1 ox) h
        subst e
        rcases Nat.eq_or_lt_of_le (show t ≤ i - 1 by omega) with h2 | h2
        · subst h2
          exact hn y (by omega) ht rfl
        · have hp : ps[i - 1]? = some (ps[i - 1]'(by omega)) := List.getElem?_eq_getElem _
          have h3 := kidN_below (c := zu y) (ps := ps) (j := i - 1) (by omega) hp
          have h4 := List.pairwise_iff_getElem.1 op.asc t (i - 1) (by omega) (by omega) h2
          obtain ⟨_, e1⟩ := List.getElem?_eq_some_iff.1 ht
          rw [e1] at h4
          omega
    refine List.pairwise_append.2 ⟨p1, List.pairwise_cons.2 ⟨hup, p2⟩, fun a ha b hb => ?_⟩
    rcases List.mem_cons.1 hb with rfl | hb
    · exact hlo a ha
    · exact p3 a ha b hb
theorem ins_kid {ps : List RK} {x : RK} {c : Int} (op : OkP ps) (op' : OkP (ps.take (zbN ps (zu x)) ++ x :: ps.drop (zbN ps (zu x)))) :
    (c < zu x → zbN ps c ≤ zbN ps (zu x) ∧ zbN (ps.take (zbN ps (zu x)) ++ x :: ps.drop (zbN ps (zu x))) c = zbN ps c) ∧
    (zu x ≤ c → zbN ps (zu x) ≤ zbN ps c ∧ zbN (ps.take (zbN ps (zu x)) ++ x :: ps.drop (zbN ps (zu x))) c = zbN ps c + 1) := by
  have hle := zhy ps (zu x)
  have hle2 := zhy ps c
  have hlen : (ps.take (zbN ps (zu x)) ++ x :: ps.drop (zbN ps (zu x))).length = ps.length + 1 := by simp; omega
  constructor
  · intro hc
    have hji : zbN ps c ≤ zbN ps (zu x) := by
      rcases Nat.lt_or_ge (zbN ps (zu x)) (zbN ps c) with h | h
      · have hp : ps[zbN ps (zu x)]? = some (ps[zbN ps (zu x)]'(by omega)) := List.getElem?_eq_getElem _
        have := kidN_below h hp
        have := kidN_above op (Nat.le_refl _) hp
        omega
      · exact h
    refine ⟨hji, kidN_uniq op' (by omega) (fun j p hj hp => ?_) (fun j p hj hp => ?_)⟩
    · rcases ins_get hle hp with ⟨_, h⟩ | ⟨h, _⟩ | ⟨h, _⟩
      · exact kidN_below hj h
      · omega
      · omega
    · rcases ins_get hle hp with ⟨_, h⟩ | ⟨_, rfl⟩ | ⟨h1, h⟩
      · exact kidN_above op hj h
      · exact hc
      · exact kidN_above op (by omega) h
  · intro hc
    have hji : zbN ps (zu x) ≤ zbN ps c := by
      rcases Nat.lt_or_ge (zbN ps c) (zbN ps (zu x)) with h | h
      · have hp : ps[zbN ps c]? = some (ps[zbN ps c]'(by omega)) := List.getElem?_eq_getElem _
        have := kidN_below h hp
        have := kidN_above op (Nat.le_refl _) hp
        omega
      · exact h
    refine ⟨hji, kidN_uniq op' (by omega) (fun j p hj hp => ?_) (fun j p hj hp => ?_)⟩
    · rcases ins_get hle hp with ⟨h1, h⟩ | ⟨_, rfl⟩ | ⟨h1, h⟩
      · exact kidN_below (by omega) h
      · exact hc
      · exact kidN_below (by omega) h
    · rcases ins_get hle hp with ⟨h1, h⟩ | ⟨h1, _⟩ | ⟨h1, h⟩
      · omega
      · omega
      · exact kidN_above op (by omega) h
theorem insI_get {ks : List Int} {i j : Nat} {id : Int} (hi : i < ks.length) : (zbu ks i id)[j]? = if j ≤ i then ks[j]? else if j = i + 1 then some id else ks[j - 1]? := by
  rw [zf7 hi]
  have hl : (ks.take (i + 1)).length = i + 1 := by rw [List.length_take]; omega
  split
  · rw [List.getElem?_append_left (by omega), List.getElem?_take, if_pos (by omega)]
  · split
    · rename_i h1 h2
      rw [List.getElem?_append_right (by omega), hl, h2, Nat.sub_self]
      rfl
    · rw [List.getElem?_append_right (by omega), hl]
      obtain ⟨t, ht⟩ : ∃ t, j - (i + 1) = t + 1 := ⟨j - (i + 1) - 1, by omega⟩
      rw [ht, List.getElem?_cons_succ, List.getElem?_drop]
      congr 1
      omega
theorem insI_length {ks : List Int} {i : Nat} {id : Int} (hi : i < ks.length) : (zbu ks i id).length = ks.length + 1 := by
  rw [zf7 hi]; simp; omega
theorem findL_sub {l g : List RM} (h : OkL l) (hs : g.Sublist l) {k : RK} {m : RM} (hg : zaj g k = some m) : zaj l k = some m := by
  have hm := zjm hg
  have := findL_of_mem h (hs.subset hm.1)
  rwa [hm.2] at this
/-- .. to an inner node. -/
theorem keep_inner {l g c : List RM} (hl : OkL l) (hs : g.Sublist l) (hc : OkL c) (k : RK) (o : Option RV) : app1 (zaj (zaL l g) k) (app1 (zaj (zcg c g) k) o) = app1 (zaj l k) (app1 (zaj c k) o) := by
  have hG := hl.sub hs
  rw [zok hc hG, findL_less hl]
  cases hg : zaj g k with
  | none => rfl
  | some m =>
    rw [findL_sub hl hs hg]
    have hm := zjm hg
    cases hx : zaj c k with
    | none => rfl
    | some x =>
      have hxm := zjm hx
      exact (appO_app (hc.good x hxm.1).2 (hG.good m hm.1).2 (hxm.2.trans hm.2.symm) (hc.good x hxm.1).1 o).symm
theorem gon_sub (p : RN) (i : Nat) : (zaJ p i).Sublist p.ms := (List.take_sublist _ _).trans (partL_sub _ _ _)
/-! zdi. -/
/-! Keys. -/
/-! A kid more. -/
theorem insI_ok {ks : List Int} {i : Nat} {id : Int} (ok : zcZ ks) (hi : i < ks.length) (h4 : ks.length < 4) (hid : 1 ≤ id ∧ id < 256) (hp : plc ks id < 0) : zcZ (zbu ks i id) ∧ id ∉ ks := by
  have hn : id ∉ ks := fun h => by have := plc_nn.2 h; omega
  refine ⟨⟨by rw [insI_length hi]; have := ok.1; omega, by rw [insI_length hi]; omega, fun x hx => ?_, ?_⟩, hn⟩
  · rw [zf7 hi] at hx
    rcases List.mem_append.1 hx with h | h
    · exact ok.2.2.1 x (List.mem_of_mem_take h)
    · rcases List.mem_cons.1 h with rfl | h
      · exact hid
      · exact ok.2.2.1 x (List.mem_of_mem_drop h)
  · rw [zf7 hi]
    have hnd : (ks.take (i + 1) ++ ks.drop (i + 1)).Nodup := by rw [List.take_append_drop]; exact ok.2.2.2
    obtain ⟨d1, d2, d3⟩ := List.nodup_append.1 hnd
    refine List.nodup_append.2 ⟨d1, List.nodup_cons.2 ⟨fun h => hn (List.mem_of_mem_drop h), d2⟩, fun a ha b hb => ?_⟩
    rcases List.mem_cons.1 hb with rfl | hb
    · exact fun e => hn (e ▸ List.mem_of_mem_take ha)
    · exact d3 a ha b hb
/-- A parent with a kid more: it fits; a key of that kid's goes to it or to the new one, by the pivot. -/
theorem grown_math {P : RN} (oP : OkN P) (hlf : P.lf = false) {i : Nat} {id : Int} {x : RK} (wx : x.wf) (ox : okB x = true) (hx : zbN P.ps (zu x) = i) (hlo : ∀ p, 0 < i → P.ps[i - 1]? = some p → p ≠ x)
    (hg : zdl P id = true) {ms : List RM} (om : OkL ms) (hb : zbB ms ≤ 205) :
    let Q : RN := { P with ms := ms, ks := zbu P.ks i id, ps := zbz P.ks.length P.ps i x }
    (OkN Q ∧ zcW Q ≤ rmN Q) ∧ Q.ks.length = P.ks.length + 1 ∧ ∀ k : RK, zbN P.ps (zu k) = i → ∃ z, Q.ks[zbN Q.ps (zu k)]? = some z ∧ (z = id ↔ ¬ zu k < zu x) ∧ zbN Q.ps (zu k) < Q.ks.length := by
  obtain ⟨he, ⟨kok, kpl, okp⟩, ol⟩ := (zaI hlf).1 oP
  unfold zdl zdH at hg
  simp only [Bool.and_eq_true, decide_eq_true_iff] at hg
  obtain ⟨h4, hid, hpl⟩ := hg
  have hle := zhy P.ps (zu x)
  have hi : i < P.ks.length := by omega
  obtain ⟨k1, k2⟩ := insI_ok kok hi h4 hid hpl
  have op' := ins_okP okp wx ox (by rw [hx]; exact hlo)
  have ev : zbz P.ks.length P.ps (i : Int) x = P.ps.take (zbN P.ps (zu x)) ++ x :: P.ps.drop (zbN P.ps (zu x)) := by rw [zhK hi, hx]
  intro Q
  have qp : Q.ps = P.ps.take (zbN P.ps (zu x)) ++ x :: P.ps.drop (zbN P.ps (zu x)) := ev
  have qk : Q.ks = zbu P.ks i id := rfl
  have lq : Q.ps.length = P.ps.length + 1 := by rw [qp]; simp; omega
  refine ⟨⟨(zaI (by exact hlf)).2 ⟨he, ⟨k1, ?_, by rw [qp]; exact op'⟩, om⟩, ?_⟩, insI_length hi, fun k hk => ?_⟩
  · rw [lq, qk, insI_length hi]; omega
  · show (if Q.lf then zQ Q.es else zbB Q.ms) ≤ (if Q.lf then 248 else 205)
    have : Q.lf = false := hlf
    rw [this, if_neg (by decide), if_neg (by decide)]
    exact hb
  · obtain ⟨j1, j2⟩ := ins_kid (c := zu k) okp op'
    rw [← qp] at j1 j2
    have hz : P.ks[i]? = some (P.ks[i]'hi) := List.getElem?_eq_getElem _
    by_cases hc : zu k < zu x
    · obtain ⟨_, e⟩ := j1 hc
      rw [e, hk, qk, insI_get hi, if_pos (Nat.le_refl _), insI_length hi]
      exact ⟨_, hz, ⟨fun h => absurd (h ▸ List.getElem_mem hi) k2, fun h => absurd hc h⟩, by omega⟩
    · obtain ⟨_, e⟩ := j2 (by omega)
      rw [e, hk, qk, insI_get hi, if_neg (by omega), if_pos rfl, insI_length hi]
      exact ⟨_, rfl, ⟨fun _ => hc, fun _ => rfl⟩, by omega⟩
end Go.Proofs.YtmjjjdikpnhpiaaGreat
/- A kid that is divided, and what goes down: what the laws of package law10 ask. No program text. -/
namespace Go.Proofs.YtmjjjdikpnhpiaaGreat
set_option maxRecDepth 100000
set_option linter.unusedVariables false
set_option linter.unusedSimpArgs false
open Go.RowKit
theorem dwnP_ok {P : RN} (oP : OkN P) (hlf : P.lf = false) (hb : zbB P.ms ≤ 205) (i : Nat) : (OkN (zeu P i) ∧ zcW (zeu P i) ≤ rmN (zeu P i)) ∧ OkL (zeu P i).ms ∧ zbB (zeu P i).ms ≤ 205 := by
  obtain ⟨he, hk, ol⟩ := (zaI hlf).1 oP
  have h1 : OkL (zeu P i).ms := zf0 ol
  have h2 : zbB (zeu P i).ms ≤ 205 := Int.le_trans (bytL_sub (show (zaL P.ms (zaJ P i)).Sublist P.ms from List.filter_sublist)) hb
  refine ⟨⟨(zaI (by exact hlf)).2 ⟨he, hk, h1⟩, ?_⟩, h1, h2⟩
  show (if (zeu P i).lf then zQ (zeu P i).es else zbB (zeu P i).ms) ≤ (if (zeu P i).lf then 248 else 205)
  have : (zeu P i).lf = false := hlf
  rw [this, if_neg (by decide), if_neg (by decide)]
  exact h2
theorem val_inner {P B : RN} (ol : OkL P.ms) (hl : B.lf = false) (oc : OkL B.ms) (i : Nat) (k : RK) (o : Option RV) : app1 (zaj (zeu P i).ms k) (app1 (zaj (zbo P B i).ms k) o) = app1 (zaj P.ms k) (app1 (zaj B.ms k) o) := by
  have e : (zbo P B i).ms = zcg B.ms (zaJ P i) := by unfold zbo zaQ; rw [if_neg (by rw [hl]; decide)]
  rw [e]
  exact keep_inner ol (gon_sub P i) oc k o
/-- A key above one of the kid's lies above the pivot ahead of it. -/
theorem piv_above {ps : List RK} {a x : RK} {i : Nat} (ha : zbN ps (zu a) = i) (hlt : zu a < zu x) : ∀ p, 0 < i → ps[i - 1]? = some p → p ≠ x := fun p h0 hp e => by
  have := kidN_below (c := zu a) (j := i - 1) (by omega) hp
  rw [e] at this
  omega
theorem piv_inner {ps : List RK} {r : RN} (o : OkN r) (hl : r.lf = false) {i : Nat} (hk : ∀ e ∈ r.ps, zbN ps (zu e) = i) (hh : zap r = true) :
    zbN ps (zu (zaU r)) = i ∧ ∀ p, 0 < i → ps[i - 1]? = some p → p ≠ zaU r := by
  obtain ⟨_, ⟨kok, kpl, okp⟩, _⟩ := (zaI hl).1 o
  have h4 : r.ks.length = 4 := by unfold zap at hh; rw [hl, if_neg (by decide)] at hh; simpa using hh
  have ep : zaU r = r.ps[1]'(by omega) := by
    unfold zaU
    rw [hl, if_neg (by decide), List.getD_eq_getElem?_getD, List.getElem?_eq_getElem (by omega)]
    rfl
  have h0 : zu (r.ps[0]'(by omega)) < zu (zaU r) := by
    rw [ep]
    exact List.pairwise_iff_getElem.1 okp.asc 0 1 (by omega) (by omega) (by omega)
  refine ⟨by rw [ep]; exact hk _ (List.getElem_mem _), piv_above (hk _ (List.getElem_mem _)) h0⟩
/-- What a parent is behind its kid's division, whatever kid. -/
theorem split_math {P r : RN} (oP : OkN P) (hlf : P.lf = false) (hbP : zbB P.ms ≤ 205) {i : Nat} {id : Int} (oR : OkN r) (hh : zap r = true) (hp : zbN P.ps (zu (zaU r)) = i ∧ ∀ p, 0 < i → P.ps[i - 1]? = some p → p ≠ zaU r)
    (hg : zdl P id = true) (P' : RN) (hP' : P' = zeu P i ∨ P' = P) :
    (OkN (grN P' i (zaU r) id) ∧ zcW (grN P' i (zaU r) id) ≤ rmN (grN P' i (zaU r) id)) ∧ (grN P' i (zaU r) id).ks.length = P.ks.length + 1 ∧ (grN P' i (zaU r) id).ms = P'.ms ∧
    ∀ k : RK, zbN P.ps (zu k) = i → ∃ z, (grN P' i (zaU r) id).ks[zbN (grN P' i (zaU r) id).ps (zu k)]? = some z ∧ (z = id ↔ ¬ zu k < zu (zaU r)) ∧ zbN (grN P' i (zaU r) id).ps (zu k) < (grN P' i (zaU r) id).ks.length := by
  obtain ⟨wp, op⟩ := piv_good oR hh
  obtain ⟨he, hk, ol⟩ := (zaI hlf).1 oP
  obtain ⟨d1, d2, d3⟩ := dwnP_ok oP hlf hbP i
  rcases hP' with rfl | rfl
  · have := grown_math oP hlf wp op hp.1 hp.2 hg d2 d3
    exact ⟨this.1, this.2.1, rfl, this.2.2⟩
  · have := grown_math oP hlf wp op hp.1 hp.2 hg ol hbP
    exact ⟨this.1, this.2.1, rfl, this.2.2⟩
end Go.Proofs.YtmjjjdikpnhpiaaGreat
/- What was left out of these texts, and is wanted after all. No program text. -/
namespace Go.Proofs.YtmjjjdikpnhpiaaGreat
set_option maxRecDepth 100000
set_option linter.unusedVariables false
set_option linter.unusedSimpArgs false
open Go.RowKit
/-- All but block g has stayed. -/
def KpG (w : World) (g : Nat) (w' : World) : Prop := w.grownBy w' (some g)
theorem KpG.refl (w : World) (g : Nat) : KpG w g w := World.grownBy.refl w _
theorem KpG.trans {w w1 w2 : World} {g : Nat} (h : KpG w g w1) (k : KpG w1 g w2) : KpG w g w2 := World.grownBy.trans h k
theorem KpG.fr {w w1 w2 : World} {g : Nat} (h : KpG w g w1) (k : Fr w1 w2) : KpG w g w2 := h.trans ⟨k.os, k.tape, k.output, k.size, fun j hj _ => k.block j hj⟩
theorem KpG.below {a w w1 : World} {g B : Nat} (h : KpG w g w1) (hb : Below B a w) (hB : B ≤ w.heap.size) (hg : B ≤ g) : Below B a w1 := hb.grown h hB fun k hk => by injection hk with hk; omega
theorem KpG.arr {w w1 : World} {g k T : Nat} {cs : Array Value} (h : KpG w g w1) (ha : Arr w k T cs) (hne : k ≠ g) : Arr w1 k T cs := (h.block k ha.lt (fun e => hne (by injection e))).trans ha
theorem kpg_setRow {w : World} {g : Nat} (cs : Array Value) : KpG w g (w.setRow g cs) := ⟨rfl, rfl, rfl, by simp [World.setRow], fun k _ hk => setRow_other w g k cs (fun e => hk (by rw [e]))⟩
theorem KpG.grow {a w w' : World} {g : Nat} {row : Option Nat} (h : KpG a g w) (h2 : w.grownBy w' row) (hr : ∀ k, row = some k → a.heap.size ≤ k) : KpG a g w' :=
  ⟨h2.os.trans h.os, h2.tape.trans h.tape, h2.output.trans h.output, Nat.le_trans h.size h2.size, fun j hj hne => (h2.block j (Nat.lt_of_lt_of_le hj h.size) (fun e => by have := hr j e.symm; omega)).trans (h.block j hj hne)⟩
theorem key_elem' : zgM Tryz.prog 33 9 16 := zgM.of (z := kv zr) (by kernel_rfl) (by kernel_rfl) (by kernel_rfl) rfl
theorem keys_und' : Tryz.prog.underlying 24 = some (.slice 33) := by kernel_rfl
theorem NP.kpg {w W : World} {ok : Nat → Prop} {v : NV} {n : RN} {g : Nat} (h : NP w ok v n) (k : KpG w g W) (hg : ¬ ok g) : NP W ok v n := by
  have m : ∀ p : Addr, ok p.block → p.block < w.heap.size → W.cell? p = w.cell? p := fun p hp hl => World.cell?_of_block (k.block p.block hl (fun e => hg (by injection e with e; exact e ▸ hp)))
  exact { h with h1 := h.h1.move m, h2 := h.h2.move m, h3 := h.h3.move m, h4 := h.h4.move m }
theorem step_app_el {P : Program} {w : World} {ops : Array Oper} {o : Oper} {a : Act} {K : Act → World → Prop} {Q : Exit → Act → World → Prop} {E : Prop} {t e size bytes : Nat} (L : zgM P e size bytes) (ht : P.underlying t = some (.slice e)) (hsz : 0 < size) (hgd : o.guard = none) (s x : Operand)
    (hop : o.op = .call { callee := .builtin .append, args := #[s, x], argTypes := #[t, t] }) {B : Nat} {A : Option Addr} {n c1 : Nat} {xs : List Value} (hs : a.eval s = .slice A n c1) (ho : Own w B e size A n c1 xs)
    {C : Nat} {A2 : Option Addr} {m c2 : Nat} {news : List Value} (hx : a.eval x = .slice A2 m c2) (hl : news.length = m * size) (hn : Has w C A2 news) (h1 : One news)
    (h63 : n + m ≤ maxLen) (hbytes : (n + m) * bytes ≤ 140737488355328) (hB : B ≤ w.heap.size)
    (h : ∀ A' c' w', Own w' B e size A' (n + m) c' (xs ++ news) → w.grownBy w' (blk A) → K (a.put o.dst (.slice A' (n + m) c')) w') :
    if Region.wanted o (yielded ops a.tmps) = true then Oper.wp P o a w K Q else E := by
  obtain ⟨i, z, hi, hz, hsize, hby, hzs⟩ := L.row
  obtain ⟨A', c', w', hr, h2, h3, h4⟩ := zcM (P := P) w B t o.type e i z size bytes ht hi hz hsize hby hzs hsz A n c1 xs ho C A2 m c2 news hl hn h1 h63 hbytes hB
  exact zeC (by simp [Region.wanted, hgd]) s x _ _ hop _ _ hs hx hr (h A' c' w' h2 h3)
/-- A store into a block of the call's own, and all else stays. -/
theorem step_put {P : Program} {w : World} {ops : Array Oper} {o : Oper} {a : Act} {K : Act → World → Prop} {Q : Exit → Act → World → Prop} {E : Prop} {T n : Nat} (hs : (P.info? T).map (·.size) = some n) (hw : Region.wanted o (yielded ops a.tmps) = true) (x y : Operand) (ho : o.op = .store T x y)
    (g off : Nat) (hx : a.eval x = .pointer (some ⟨g, off, none⟩)) {ds : List Value} (hv : (a.eval y).cells.toList = ds) (hl : ds.length = n) (h1 : One ds)
    {T' : Nat} {cs : List Value} (ha : Arr w g T' cs.toArray) (hf : off + n ≤ cs.length) {cs' : List Value} (hc : splice cs off ds = cs')
    (hK : ∀ W, Arr W g T' cs'.toArray → KpG w g W → K (a.put o.dst undef) W) : if Region.wanted o (yielded ops a.tmps) = true then Oper.wp P o a w K Q else E := by
  rw [if_pos hw]
  unfold Oper.wp execOp
  simp only [ho, hx, Instr.storeAt, Instr.sureAddr, Sem.run_bind, Sem.run_pure, Result.andThen_ok, zcm hs hv hl h1 ha hf, hc]
  exact hK _ (ha.setRow _) (kpg_setRow _)
theorem zR.kpg {w W : World} {ok : Nat → Prop} {A : Option Addr} {xs : List Value} {g : Nat} (h : zR w ok A xs) (k : KpG w g W) (hg : ¬ ok g) : zR W ok A xs :=
  h.move fun p hp hl => World.cell?_of_block (k.block p.block hl (fun e => hg (by injection e with e; exact e ▸ hp)))
theorem Own.kpg {w W : World} {B e size n c g : Nat} {A : Option Addr} {xs : List Value} (o : Own w B e size A n c xs) (k : KpG w g W) (hg : g < B) : Own W B e size A n c xs :=
  Own.kept o k (.inr fun e => by have := (o.lt _ e).1; omega)
/-- What is known of package 00's inner node. -/
theorem inn_facts (ns : List Int) (f : Int) (ms : List Int) : OkN (zdY ns f ms) ∧ (zdY ns f ms).lf = false ∧ OkP (zdY ns f ms).ps ∧ OkL (zdY ns f ms).ms ∧ zbB (zdY ns f ms).ms ≤ 205 ∧ (zdY ns f ms).ps.length + 1 = (zdY ns f ms).ks.length ∧ (zdY ns f ms).ms.length ≤ 5000 := by
  have o := zm0 ns f ms
  obtain ⟨_, ⟨_, h1, h2⟩, h3⟩ := (zaI (show (zdY ns f ms).lf = false from rfl)).1 o
  have := zcS ms 205
  exact ⟨o, rfl, h2, h3, innN_byt ns f ms, h1, by show (zdS ms 205).length ≤ 5000; omega⟩
end Go.Proofs.YtmjjjdikpnhpiaaGreat
