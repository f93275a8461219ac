/- Buffers as lists of messages: their order, what is found, added, parted, left out. No program text. -/
import Derived.Test.YtcdcaanmmbopbaaMsgF
import Derived.Test.YtcdcaanmmbopbaaKeyE
import Derived.Test.YtcdcaanmmbopbaaLawA
namespace Go.Proofs.Ytcdcaanmmbopbaa
set_option maxRecDepth 100000
open Go.RowKit
set_option linter.unusedVariables false
theorem okB_len' {k : RK} (h : okB k = true) : Len k := by
  obtain ⟨m, hm, hn, _⟩ := okB_n h
  unfold Len; omega
/-- A message's place in the order. -/
def cd (m : RM) : Int := code m.key
/-- Messages that are right ones. -/
def Good (l : List RM) : Prop := ∀ m ∈ l, m.wf ∧ okM m = true
/-- .. whose keys rise. -/
structure OkL (l : List RM) : Prop where
  good : Good l
  asc : l.Pairwise fun a b => cd a < cd b
theorem cd_key {a b : RM} (wa : a.wf) (wb : b.wf) (oa : okM a = true) (ob : okM b = true) : cd a = cd b ↔ a.key = b.key :=
  ⟨fun h => code_inj wa.key wb.key (okB_len' (okM_key oa)) (okB_len' (okM_key ob)) h, fun h => by unfold cd; rw [h]⟩
theorem Good.nil : Good [] := fun _ h => by simp at h
theorem Good.cons {m : RM} {l : List RM} (wm : m.wf) (om : okM m = true) (h : Good l) : Good (m :: l) := fun x hx => by
  rcases List.mem_cons.1 hx with rfl | hx
  · exact ⟨wm, om⟩
  · exact h x hx
theorem Good.tail {m : RM} {l : List RM} (h : Good (m :: l)) : Good l := fun x hx => h x (List.mem_cons_of_mem _ hx)
theorem Good.head {m : RM} {l : List RM} (h : Good (m :: l)) : m.wf ∧ okM m = true := h m (by simp)
theorem Good.sub {l l' : List RM} (h : Good l) (hs : l'.Sublist l) : Good l' := fun x hx => h x (hs.subset hx)
theorem OkL.nil : OkL [] := ⟨Good.nil, List.Pairwise.nil⟩
theorem OkL.tail {m : RM} {l : List RM} (h : OkL (m :: l)) : OkL l := ⟨h.good.tail, (List.pairwise_cons.1 h.asc).2⟩
theorem OkL.lt {m : RM} {l : List RM} (h : OkL (m :: l)) : ∀ x ∈ l, cd m < cd x := (List.pairwise_cons.1 h.asc).1
theorem OkL.sub {l l' : List RM} (h : OkL l) (hs : l'.Sublist l) : OkL l' := ⟨h.good.sub hs, h.asc.sublist hs⟩
theorem OkL.cons {m : RM} {l : List RM} (wm : m.wf) (om : okM m = true) (h : OkL l) (hl : ∀ x ∈ l, cd m < cd x) : OkL (m :: l) := ⟨Good.cons wm om h.good, List.pairwise_cons.2 ⟨hl, h.asc⟩⟩
/-- The message of a key. -/
def findL (l : List RM) (k : RK) : Option RM := l.find? fun m => decide (m.key = k)
theorem findL_nil (k : RK) : findL [] k = none := rfl
theorem findL_cons (m : RM) (l : List RM) (k : RK) : findL (m :: l) k = if m.key = k then some m else findL l k := by
  unfold findL
  rw [List.find?_cons]
  by_cases h : m.key = k <;> simp [h]
theorem findL_mem {l : List RM} {k : RK} {m : RM} (h : findL l k = some m) : m ∈ l ∧ m.key = k := by
  unfold findL at h
  exact ⟨List.mem_of_find?_eq_some h, by simpa using List.find?_some h⟩
theorem findL_none {l : List RM} {k : RK} : findL l k = none ↔ ∀ m ∈ l, m.key ≠ k := by
  unfold findL
  rw [List.find?_eq_none]
  simp
theorem findL_of_mem {l : List RM} (h : OkL l) {m : RM} (hm : m ∈ l) : findL l m.key = some m := by
  induction l with
  | nil => simp at hm
  | cons x l ih =>
    rw [findL_cons]
    rcases List.mem_cons.1 hm with rfl | hm'
    · rw [if_pos rfl]
    · have hx := h.good.head
      have hm2 := h.good m hm
      have hlt := h.lt m hm'
      rw [if_neg (fun e => by have := (cd_key hx.1 hm2.1 hx.2 hm2.2).2 e; omega)]
      exact ih h.tail hm'
/-- With a message added. -/
def addL : List RM → RM → List RM
  | [], m => [m]
  | x :: l, m => if cd x < cd m then x :: addL l m else if x.key = m.key then compM x m :: l else m :: x :: l
theorem cd_comp (a b : RM) : cd (compM a b) = cd b := by unfold cd; rw [comp_key]
theorem addL_mem {l : List RM} {m x : RM} (h : x ∈ addL l m) : x ∈ l ∨ x.key = m.key := by
  induction l with
  | nil => simp [addL] at h; exact .inr (by rw [h])
  | cons y l ih =>
    unfold addL at h
    split at h
    · rcases List.mem_cons.1 h with rfl | h
      · exact .inl (by simp)
      · rcases ih h with h | h
        · exact .inl (List.mem_cons_of_mem _ h)
        · exact .inr h
    · split at h
      · rcases List.mem_cons.1 h with rfl | h
        · exact .inr comp_key
        · exact .inl (List.mem_cons_of_mem _ h)
      · rcases List.mem_cons.1 h with rfl | h
        · exact .inr rfl
        · exact .inl h
theorem addL_ok {l : List RM} {m : RM} (h : OkL l) (wm : m.wf) (om : okM m = true) : OkL (addL l m) := by
  induction l with
  | nil => exact OkL.cons wm om OkL.nil (by simp)
  | cons x l ih =>
    have hx := h.good.head
    unfold addL
    split
    · rename_i hlt
      refine OkL.cons hx.1 hx.2 (ih h.tail) fun y hy => ?_
      rcases addL_mem hy with hy | hy
      · exact h.lt y hy
      · have : cd y = cd m := by unfold cd; rw [hy]
        omega
    · split
      · rename_i hk
        refine OkL.cons (comp_wf hx.1 wm) (comp_ok om) h.tail fun y hy => ?_
        have h1 := h.lt y hy
        have h2 : cd x = cd m := by unfold cd; rw [hk]
        rw [cd_comp]; omega
      · rename_i h1 h2
        have hne : cd x ≠ cd m := fun e => h2 ((cd_key hx.1 wm hx.2 om).1 e)
        refine OkL.cons wm om h fun y hy => ?_
        rcases List.mem_cons.1 hy with rfl | hy
        · omega
        · have := h.lt y hy
          omega
/-- What is found behind an addition. -/
theorem findL_add {l : List RM} {m : RM} (h : OkL l) (wm : m.wf) (om : okM m = true) (k : RK) :
    findL (addL l m) k = if k = m.key then some (match findL l k with | some x => compM x m | none => m) else findL l k := by
  induction l with
  | nil =>
    show findL [m] k = _
    rw [findL_cons, findL_nil]
    by_cases e : m.key = k
    · rw [if_pos e, if_pos e.symm]
    · rw [if_neg e, if_neg (fun e2 => e e2.symm)]
  | cons x l ih =>
    have hx := h.good.head
    have IH := ih h.tail
    unfold addL
    split
    · rename_i hlt
      have hne : x.key ≠ m.key := fun e => by have : cd x = cd m := by unfold cd; rw [e]
                                              omega
      rw [findL_cons, findL_cons, IH]
      by_cases e : x.key = k
      · subst e
        rw [if_pos rfl, if_pos rfl, if_neg hne]
      · rw [if_neg e, if_neg e]
    · split
      · rename_i hk
        rw [findL_cons, findL_cons, comp_key]
        by_cases e : m.key = k
        · rw [if_pos e, if_pos e.symm, if_pos (hk.trans e)]
        · rw [if_neg e, if_neg (fun e2 => e e2.symm), if_neg (fun e2 => e (hk.symm.trans e2))]
      · rename_i h1 h2
        have hno : findL (x :: l) m.key = none := by
          rw [findL_none]
          intro y hy e
          have hy2 := h.good y hy
          have hc : cd y = cd m := by unfold cd; rw [e]
          have hxm : cd x ≠ cd m := fun e => h2 ((cd_key hx.1 wm hx.2 om).1 e)
          rcases List.mem_cons.1 hy with rfl | hy
          · omega
          · have := h.lt y hy
            omega
        rw [findL_cons]
        by_cases e : m.key = k
        · subst e
          rw [if_pos rfl, if_pos rfl, hno]
        · rw [if_neg e, if_neg (fun e2 => e e2.symm)]
theorem addL_length {l : List RM} {m : RM} (h : OkL l) (wm : m.wf) (om : okM m = true) : (addL l m).length = if (findL l m.key).isSome = true then l.length else l.length + 1 := by
  induction l with
  | nil => simp [addL, findL_nil]
  | cons x l ih =>
    have hx := h.good.head
    have IH := ih h.tail
    unfold addL
    split
    · rename_i hlt
      have hne : x.key ≠ m.key := fun e => by have : cd x = cd m := by unfold cd; rw [e]
                                              omega
      rw [List.length_cons, IH, findL_cons, if_neg hne]
      split <;> simp
    · split
      · rename_i hk
        rw [findL_cons, if_pos hk]
        simp
      · rename_i h1 h2
        have hno : findL (x :: l) m.key = none := by
          rw [findL_none]
          intro y hy e
          have hc : cd y = cd m := by unfold cd; rw [e]
          have hxm : cd x ≠ cd m := fun e => h2 ((cd_key hx.1 wm hx.2 om).1 e)
          rcases List.mem_cons.1 hy with rfl | hy
          · omega
          · have := h.lt y hy
            omega
        rw [hno]
        simp
/-- Two buffers in which the same is found are the same. -/
theorem okL_ext : ∀ {a b : List RM}, OkL a → OkL b → (∀ k, findL a k = findL b k) → a = b
  | [], [], _, _, _ => rfl
  | [], y :: b, _, _, h => by have := h y.key; rw [findL_nil, findL_cons, if_pos rfl] at this; cases this
  | x :: a, [], _, _, h => by have := h x.key; rw [findL_nil, findL_cons, if_pos rfl] at this; cases this
  | x :: a, y :: b, ha, hb, h => by
    have hx := ha.good.head
    have hy := hb.good.head
    have e : x = y := by
      have h1 := h x.key
      have h2 := h y.key
      rw [findL_cons, if_pos rfl] at h1
      rw [findL_cons y, if_pos rfl] at h2
      have m1 := (findL_mem h1.symm).1
      have m2 := (findL_mem h2).1
      rcases List.mem_cons.1 m1 with e | m1
      · exact e
      · rcases List.mem_cons.1 m2 with e | m2
        · exact e.symm
        · have := ha.lt y m2
          have := hb.lt x m1
          omega
    subst e
    congr 1
    refine okL_ext ha.tail hb.tail fun k => ?_
    have hk := h k
    rw [findL_cons, findL_cons] at hk
    by_cases e : x.key = k
    · subst e
      rw [findL_none.2, findL_none.2]
      · intro z hz ez
        have := hb.lt z hz
        have : cd z = cd x := by unfold cd; rw [ez]
        omega
      · intro z hz ez
        have := ha.lt z hz
        have : cd z = cd x := by unfold cd; rw [ez]
        omega
    · rwa [if_neg e, if_neg e] at hk
/-- With all messages of another list added. -/
def allL (l more : List RM) : List RM := more.foldl addL l
theorem allL_ok : ∀ {more l : List RM}, OkL l → Good more → OkL (allL l more)
  | [], _, h, _ => h
  | m :: more, l, h, hg => allL_ok (more := more) (addL_ok h hg.head.1 hg.head.2) hg.tail
theorem findL_all : ∀ {more l : List RM}, OkL l → OkL more → ∀ k, findL (allL l more) k = (match findL more k with | some y => some (match findL l k with | some x => compM x y | none => y) | none => findL l k)
  | [], _, _, _, k => by rw [findL_nil]; rfl
  | m :: more, l, h, hm, k => by
    have hm1 := hm.good.head
    show findL (allL (addL l m) more) k = _
    rw [findL_all (addL_ok h hm1.1 hm1.2) hm.tail, findL_add h hm1.1 hm1.2, findL_cons]
    by_cases e : m.key = k
    · subst e
      have hno : findL more m.key = none := by
        rw [findL_none]
        intro z hz ez
        have := hm.lt z hz
        have : cd z = cd m := by unfold cd; rw [ez]
        omega
      rw [hno, if_pos rfl, if_pos rfl]
    · rw [if_neg (fun e2 => e e2.symm), if_neg e]
/-- Without the keys of another list. -/
def lessL (l gone : List RM) : List RM := l.filter fun m => !(findL gone m.key).isSome
theorem lessL_ok {l gone : List RM} (h : OkL l) : OkL (lessL l gone) := h.sub List.filter_sublist
theorem findL_less {l gone : List RM} (h : OkL l) (k : RK) : findL (lessL l gone) k = if (findL gone k).isSome = true then none else findL l k := by
  induction l with
  | nil => show findL [] k = _; rw [findL_nil]; split <;> rfl
  | cons x l ih =>
    have IH := ih h.tail
    have e : lessL (x :: l) gone = if (findL gone x.key).isSome = true then lessL l gone else x :: lessL l gone := by
      unfold lessL
      rw [List.filter_cons]
      cases (findL gone x.key).isSome <;> rfl
    rw [e]
    by_cases hk : x.key = k
    · subst hk
      rw [findL_cons, if_pos rfl]
      split
      · rename_i hg
        rw [IH, if_pos hg]
      · rw [findL_cons, if_pos rfl]
    · rw [findL_cons, if_neg hk]
      split
      · exact IH
      · rw [findL_cons, if_neg hk, IH]
/-- The sum of their bytes. -/
def bytL (l : List RM) : Int := (l.map bytM).sum
theorem bytL_cons (m : RM) (l : List RM) : bytL (m :: l) = bytM m + bytL l := by simp [bytL]
theorem bytL_app (a b : List RM) : bytL (a ++ b) = bytL a + bytL b := by simp [bytL]
end Go.Proofs.Ytcdcaanmmbopbaa
/- Buffers as lists of messages: what goes at once, parts by pivots. No program text. -/
namespace Go.Proofs.Ytcdcaanmmbopbaa
set_option maxRecDepth 100000
open Go.RowKit
set_option linter.unusedVariables false
/-- How many go at once, n bytes being taken. -/
def batC : Int → List RM → Nat
  | _, [] => 0
  | n, m :: l => if 96 < n + bytM m then 0 else batC (n + bytM m) l + 1
theorem batC_le : ∀ (n : Int) (l : List RM), batC n l ≤ l.length
  | _, [] => Nat.le_refl _
  | n, m :: l => by
    unfold batC
    split
    · exact Nat.zero_le _
    · have := batC_le (n + bytM m) l
      simp only [List.length_cons]; omega
def batL (l : List RM) : List RM := l.take (batC 0 l)
theorem batC_sum : ∀ (n : Int) (l : List RM), n ≤ 96 → n + bytL (l.take (batC n l)) ≤ 96
  | n, [], h => by simpa [batC, bytL] using h
  | n, m :: l, h => by
    unfold batC
    split
    · simpa [bytL] using h
    · rename_i h2
      have := batC_sum (n + bytM m) l (by omega)
      rw [List.take_succ_cons, bytL_cons]; omega
theorem batC_more : ∀ (n : Int) (l : List RM), batC n l < l.length → 96 < n + bytL (l.take (batC n l + 1))
  | n, [], h => by simp at h
  | n, m :: l, h => by
    unfold batC at h ⊢
    by_cases h2 : 96 < n + bytM m
    · rw [if_pos h2]
      simpa [bytL] using h2
    · rw [if_neg h2] at h ⊢
      have := batC_more (n + bytM m) l (by simpa using h)
      rw [List.take_succ_cons, bytL_cons]; omega
theorem batC_two {l : List RM} (h : Good l) : min 2 l.length ≤ batC 0 l := by
  match l, h with
  | [], _ => simp
  | [a], h =>
    have ha := bytM_bd h.head.2
    unfold batC
    rw [if_neg (by omega)]
    simp
  | a :: b :: l, h =>
    have ha := bytM_bd h.head.2
    have hb := bytM_bd h.tail.head.2
    unfold batC
    rw [if_neg (by omega)]
    unfold batC
    rw [if_neg (by omega)]
    simp only [List.length_cons]
    omega
theorem less_take {l : List RM} (h : OkL l) (n : Nat) : lessL l (l.take n) = l.drop n := by
  refine okL_ext (lessL_ok h) (h.sub (List.drop_sublist n l)) fun k => ?_
  rw [findL_less h]
  have h1 : ∀ {m : RM} {l' : List RM}, l'.Sublist l → m ∈ l' → findL l' m.key = some m := fun hs hm => findL_of_mem (h.sub hs) hm
  have hasc := h.asc
  rw [← List.take_append_drop n l, List.pairwise_append] at hasc
  cases ht : findL (l.take n) k with
  | some x =>
    rw [if_pos (show (some x).isSome = true from rfl)]
    symm
    rw [findL_none]
    intro y hy ey
    have hx := findL_mem ht
    have := hasc.2.2 x hx.1 y hy
    have : cd x = cd y := by unfold cd; rw [hx.2, ey]
    omega
  | none =>
    rw [if_neg (by simp)]
    cases hd : findL (l.drop n) k with
    | some y =>
      have hy := findL_mem hd
      have := findL_of_mem h (List.mem_of_mem_drop hy.1)
      rwa [hy.2] at this
    | none =>
      rw [findL_none] at ht hd ⊢
      intro y hy
      rw [← List.take_append_drop n l] at hy
      rcases List.mem_append.1 hy with hy | hy
      · exact ht y hy
      · exact hd y hy
theorem less_self {l : List RM} (h : OkL l) : lessL l l = [] := by
  have := less_take h l.length
  rwa [List.take_length, List.drop_length] at this
theorem less_nil (l : List RM) : lessL l [] = l := by
  unfold lessL
  rw [List.filter_eq_self]
  intro m _
  rfl
/-- Whether a place in the order lies between the pivots ahead of kid i and behind it. -/
def betw (ps : List Int) (i : Nat) (c : Int) : Bool := (decide (i = 0) || decide (ps.getD (i - 1) 0 ≤ c)) && (decide (ps.length ≤ i) || decide (c < ps.getD i 0))
def partL (l : List RM) (ps : List RK) (i : Nat) : List RM := if ps.length < i then [] else l.filter fun m => betw (ps.map code) i (cd m)
/-- Pivots that are right ones, and rise. -/
structure OkP (ps : List RK) : Prop where
  good : ∀ k ∈ ps, k.wf ∧ okB k = true
  asc : ps.Pairwise fun a b => code a < code b
theorem filter_cut {l : List RM} (h : OkL l) (a : Int) (q : Int → Bool) (hq : ∀ c, c < a → q c = true) :
    l.filter (fun m => decide (cd m < a)) ++ l.filter (fun m => decide (a ≤ cd m) && q (cd m)) = l.filter fun m => q (cd m) := by
  induction l with
  | nil => rfl
  | cons x l ih =>
    have IH := ih h.tail
    simp only [List.filter_cons]
    by_cases hx : cd x < a
    · have h1 : decide (cd x < a) = true := decide_eq_true hx
      have h2 : decide (a ≤ cd x) = false := decide_eq_false (by omega)
      rw [h1, h2, hq _ hx]
      simp only [if_true, Bool.false_and, Bool.false_eq_true, if_false, List.cons_append, IH]
    · have h1 : decide (cd x < a) = false := decide_eq_false hx
      have h2 : decide (a ≤ cd x) = true := decide_eq_true (by omega)
      have hno : l.filter (fun m => decide (cd m < a)) = [] := by
        rw [List.filter_eq_nil_iff]
        intro y hy
        have := h.lt y hy
        simp; omega
      rw [hno, List.nil_append] at IH
      rw [h1, h2, hno, IH]
      simp only [Bool.false_eq_true, if_false, List.nil_append, Bool.true_and]
/-- What lies ahead of kid i's part. -/
def belowL (l : List RM) (ps : List RK) (i : Nat) : List RM := if ps.length < i then l else if i = 0 then [] else l.filter fun m => decide (cd m < (ps.map code).getD (i - 1) 0)
theorem OkP.lt {ps : List RK} (h : OkP ps) {i j : Nat} (hij : i < j) (hj : j < ps.length) : (ps.map code).getD i 0 < (ps.map code).getD j 0 := by
  have hi : i < ps.length := by omega
  have := (List.pairwise_iff_getElem.1 h.asc) i j hi hj hij
  simpa [List.getD, hi, hj] using this
theorem below_step {l : List RM} {ps : List RK} (h : OkL l) (hp : OkP ps) {i : Nat} (hi : i ≤ ps.length) : belowL l ps i ++ partL l ps i = belowL l ps (i + 1) := by
  unfold belowL partL
  have hn : ¬ ps.length < i := by omega
  rw [if_neg hn, if_neg hn]
  by_cases h0 : i = 0
  · subst h0
    rw [if_pos rfl, List.nil_append]
    by_cases hl : ps.length < 1
    · rw [if_pos (by omega), List.filter_eq_self]
      intro m _
      have : ps.length ≤ 0 := by omega
      simp [betw, this]
    · rw [if_neg (by omega), if_neg (by omega)]
      congr 1
      funext m
      have : ¬ ps.length ≤ 0 := by omega
      simp [betw, this]
  · rw [if_neg h0]
    have hb : ∀ m : RM, betw (ps.map code) i (cd m) = (decide ((ps.map code).getD (i - 1) 0 ≤ cd m) && (decide (ps.length ≤ i) || decide (cd m < (ps.map code).getD i 0))) := fun m => by
      simp [betw, h0]
    simp only [hb]
    rw [filter_cut h _ (fun c => decide (ps.length ≤ i) || decide (c < (ps.map code).getD i 0))]
    · by_cases hl : ps.length < i + 1
      · rw [if_pos hl, List.filter_eq_self]
        intro m _
        simp [show ps.length ≤ i by omega]
      · rw [if_neg hl, if_neg (by omega)]
        congr 1
        funext m
        simp [show ¬ ps.length ≤ i by omega]
    · intro c hc
      by_cases hl : ps.length ≤ i
      · simp [hl]
      · have := hp.lt (i := i - 1) (j := i) (by omega) (by omega)
        simp only [hl, decide_false, Bool.false_or, decide_eq_true_iff]
        omega
theorem below_zero (l : List RM) (ps : List RK) : belowL l ps 0 = [] := by simp [belowL]
theorem below_end (l : List RM) (ps : List RK) : belowL l ps (ps.length + 1) = l := by simp [belowL]
theorem part_mem {l : List RM} {ps : List RK} {i : Nat} {m : RM} (h : m ∈ partL l ps i) : m ∈ l ∧ betw (ps.map code) i (cd m) = true := by
  unfold partL at h
  split at h
  · simp at h
  · simpa using h
end Go.Proofs.Ytcdcaanmmbopbaa
/- Buffers by places: where a key stands, or would; what that is worth. No program text. -/
namespace Go.Proofs.Ytcdcaanmmbopbaa
set_option maxRecDepth 100000
set_option linter.unusedVariables false
/-- How many stand ahead of c. -/
def posL : List RM → Int → Nat
  | [], _ => 0
  | m :: l, c => if cd m < c then posL l c + 1 else 0
theorem posL_le : ∀ (l : List RM) (c : Int), posL l c ≤ l.length
  | [], _ => Nat.le_refl _
  | m :: l, c => by
    have := posL_le l c
    unfold posL
    split <;> simp <;> omega
theorem posL_lt : ∀ {l : List RM} {c : Int} {t : Nat} {m : RM}, t < posL l c → l[t]? = some m → cd m < c
  | [], c, t, m, h, _ => by simp [posL] at h
  | x :: l, c, t, m, h, hm => by
    unfold posL at h
    split at h
    · rename_i hx
      cases t with
      | zero => simp at hm; subst hm; exact hx
      | succ t => exact posL_lt (l := l) (t := t) (by omega) (by simpa using hm)
    · omega
theorem posL_ge : ∀ {l : List RM} {c : Int} {t : Nat} {m : RM}, OkL l → posL l c ≤ t → l[t]? = some m → c ≤ cd m
  | [], c, t, m, _, h, hm => by simp at hm
  | x :: l, c, t, m, ho, h, hm => by
    unfold posL at h
    split at h
    · cases t with
      | zero => omega
      | succ t => exact posL_ge (l := l) (t := t) ho.tail (by omega) (by simpa using hm)
    · rename_i hx
      cases t with
      | zero => simp at hm; subst hm; omega
      | succ t =>
        have hmem : m ∈ l := by
          obtain ⟨_, e⟩ := List.getElem?_eq_some_iff.1 (show l[t]? = some m by simpa using hm)
          rw [← e]; exact List.getElem_mem _
        have := ho.lt m hmem
        omega
theorem posL_uniq {l : List RM} {c : Int} (h : OkL l) {lo : Nat} (hlo : lo ≤ l.length) (h1 : ∀ t m, t < lo → l[t]? = some m → cd m < c) (h2 : ∀ t m, lo ≤ t → l[t]? = some m → c ≤ cd m) : lo = posL l c := by
  have hp := posL_le l c
  rcases Nat.lt_trichotomy lo (posL l c) with hl | hl | hl
  · have hlen : lo < l.length := by omega
    have a := posL_lt hl (List.getElem?_eq_getElem hlen)
    have b := h2 lo _ (Nat.le_refl _) (List.getElem?_eq_getElem hlen)
    omega
  · exact hl
  · have hlen : posL l c < l.length := by omega
    have a := h1 _ _ hl (List.getElem?_eq_getElem hlen)
    have b := posL_ge h (Nat.le_refl _) (List.getElem?_eq_getElem hlen)
    omega
theorem find_pos : ∀ {l : List RM} {k : RK}, OkL l → k.wf → okB k = true → findL l k = (match l[posL l (code k)]? with | some m => if m.key = k then some m else none | none => none)
  | [], k, _, _, _ => rfl
  | x :: l, k, h, wk, ok => by
    have hx := h.good.head
    rw [findL_cons]
    by_cases hlt : cd x < code k
    · have hp : posL (x :: l) (code k) = posL l (code k) + 1 := by rw [posL, if_pos hlt]
      have hne : x.key ≠ k := fun e => by unfold cd at hlt; rw [e] at hlt; omega
      rw [hp, if_neg hne, List.getElem?_cons_succ]
      exact find_pos h.tail wk ok
    · have hp : posL (x :: l) (code k) = 0 := by rw [posL, if_neg hlt]
      rw [hp, List.getElem?_cons_zero]
      by_cases e : x.key = k
      · simp [e]
      · simp only [if_neg e]
        rw [findL_none]
        intro z hz ez
        have := h.lt z hz
        have : cd z = code k := by unfold cd; rw [ez]
        omega
theorem find_pos_some {l : List RM} {k : RK} {m : RM} (h : OkL l) (wk : k.wf) (ok : okB k = true) (hf : findL l k = some m) : l[posL l (code k)]? = some m ∧ m.key = k := by
  rw [find_pos h wk ok] at hf
  split at hf
  · rename_i x hx
    by_cases e : x.key = k
    · rw [if_pos e] at hf
      injection hf with hf
      subst hf
      exact ⟨hx, e⟩
    · rw [if_neg e] at hf; cases hf
  · cases hf
theorem add_pos : ∀ {l : List RM} {m : RM}, OkL l → m.wf → okM m = true → addL l m = (match findL l m.key with | some x => l.set (posL l (cd m)) (compM x m) | none => l.take (posL l (cd m)) ++ m :: l.drop (posL l (cd m)))
  | [], m, _, _, _ => rfl
  | x :: l, m, h, wm, om => by
    have hx := h.good.head
    rw [findL_cons]
    unfold addL
    by_cases hlt : cd x < cd m
    · have hp : posL (x :: l) (cd m) = posL l (cd m) + 1 := by rw [posL, if_pos hlt]
      have hne : x.key ≠ m.key := fun e => by have := (cd_key hx.1 wm hx.2 om).2 e; omega
      rw [hp, if_pos hlt, if_neg hne, add_pos h.tail wm om]
      cases findL l m.key <;> simp
    · have hp : posL (x :: l) (cd m) = 0 := by rw [posL, if_neg hlt]
      rw [hp, if_neg hlt]
      by_cases e : x.key = m.key
      · simp [e]
      · have hno : findL l m.key = none := by
          rw [findL_none]
          intro z hz ez
          have h1 := h.lt z hz
          have hz2 := h.good z (List.mem_cons_of_mem _ hz)
          have := (cd_key hz2.1 wm hz2.2 om).2 ez
          omega
        simp [e, hno]
theorem take_pos : ∀ {l : List RM} {c : Int}, OkL l → l.take (posL l c) = l.filter fun m => decide (cd m < c)
  | [], c, _ => rfl
  | x :: l, c, h => by
    by_cases hlt : cd x < c
    · rw [posL, if_pos hlt, List.take_succ_cons, take_pos h.tail, List.filter_cons, if_pos (by simpa using hlt)]
    · rw [posL, if_neg hlt, List.take_zero, eq_comm, List.filter_eq_nil_iff]
      intro z hz
      rcases List.mem_cons.1 hz with rfl | hz
      · simpa using hlt
      · have := h.lt z hz
        simp; omega
theorem drop_pos : ∀ {l : List RM} {c : Int}, OkL l → l.drop (posL l c) = l.filter fun m => decide (c ≤ cd m)
  | [], c, _ => rfl
  | x :: l, c, h => by
    by_cases hlt : cd x < c
    · rw [posL, if_pos hlt, List.drop_succ_cons, drop_pos h.tail, List.filter_cons, if_neg (by simp; omega)]
    · rw [posL, if_neg hlt, List.drop_zero, eq_comm, List.filter_eq_self]
      intro z hz
      rcases List.mem_cons.1 hz with rfl | hz
      · simp; omega
      · have := h.lt z hz
        simp; omega
theorem posL_all {l : List RM} {c : Int} (h : ∀ m ∈ l, cd m < c) : posL l c = l.length := by
  induction l with
  | nil => rfl
  | cons x l ih => rw [posL, if_pos (h x (by simp)), ih fun m hm => h m (List.mem_cons_of_mem _ hm)]; rfl
/-- Where kid i's part begins, and ends. -/
def loP (l : List RM) (ps : List RK) (i : Nat) : Nat := if i = 0 then 0 else posL l ((ps.map code).getD (i - 1) 0)
def hiP (l : List RM) (ps : List RK) (i : Nat) : Nat := if ps.length ≤ i then l.length else posL l ((ps.map code).getD i 0)
theorem filter_take {l : List RM} {c : Int} {n : Nat} (h : OkL l) : (l.take n).filter (fun m => decide (c ≤ cd m)) = (l.take n).drop (posL l c) := by
  have ht : OkL (l.take n) := h.sub (List.take_sublist _ _)
  rw [← drop_pos ht]
  by_cases hp : posL l c ≤ n
  · congr 1
    refine posL_uniq ht (by rw [List.length_take]; have := posL_le l c; omega) ?_ ?_ |>.symm
    · intro t m h1 h2
      rw [List.getElem?_take] at h2
      split at h2
      · exact posL_lt h1 h2
      · cases h2
    · intro t m h1 h2
      rw [List.getElem?_take] at h2
      split at h2
      · exact posL_ge h h1 h2
      · cases h2
  · have : posL (l.take n) c = (l.take n).length := posL_all fun m hm => by
      obtain ⟨t, ht, e⟩ := List.mem_iff_getElem.1 hm
      have h3 : (l.take n)[t]? = some m := by rw [List.getElem?_eq_getElem ht, e]
      rw [List.getElem?_take] at h3
      split at h3
      · exact posL_lt (by omega) h3
      · cases h3
    rw [this, List.drop_length, List.drop_eq_nil_of_le (by simp; omega)]
theorem part_pos {l : List RM} {ps : List RK} (h : OkL l) {i : Nat} (hi : i ≤ ps.length) : partL l ps i = (l.take (hiP l ps i)).drop (loP l ps i) := by
  unfold partL loP hiP
  rw [if_neg (by omega)]
  have e2 : l.take (if ps.length ≤ i then l.length else posL l ((ps.map code).getD i 0)) = l.filter fun m => decide (ps.length ≤ i) || decide (cd m < (ps.map code).getD i 0) := by
    by_cases hc : ps.length ≤ i
    · simp only [hc, if_true, decide_true, Bool.true_or, List.take_length]
      exact (List.filter_eq_self.2 fun _ _ => rfl).symm
    · simp only [hc, if_false, decide_false, Bool.false_or]
      exact take_pos h
  by_cases h0 : i = 0
  · rw [if_pos h0, List.drop_zero, e2]
    congr 1
    funext m
    simp [betw, h0]
  · rw [if_neg h0, ← filter_take h, e2, List.filter_filter]
    congr 1
    funext m
    simp [betw, h0]
end Go.Proofs.Ytcdcaanmmbopbaa
/- Leaves as lists of entries: what is found, what messages make of them; a buffer's messages do what all that was added did. No program text. -/
namespace Go.Proofs.Ytcdcaanmmbopbaa
set_option maxRecDepth 100000
open Go.RowKit
set_option linter.unusedVariables false
/-- An entry. -/
structure RE where
  key : RK
  val : RV
  deriving DecidableEq, Inhabited
/-- Its cells. -/
def ec (e : RE) : List Value := kc e.key ++ vc e.val
abbrev ev (e : RE) : Value := .agg (ec e).toArray
structure RE.ok (e : RE) : Prop where
  wk : e.key.wf
  ok : okB e.key = true
  wv : e.val.wf
  ov : okV e.val = true
/-- An entry's place in the order. -/
def ce (e : RE) : Int := code e.key
structure OkE (l : List RE) : Prop where
  good : ∀ e ∈ l, e.ok
  asc : l.Pairwise fun a b => ce a < ce b
theorem ce_key {a b : RE} (ha : a.ok) (hb : b.ok) : ce a = ce b ↔ a.key = b.key :=
  ⟨fun h => code_inj ha.wk hb.wk (okB_len' ha.ok) (okB_len' hb.ok) h, fun h => by unfold ce; rw [h]⟩
theorem OkE.nil : OkE [] := ⟨fun _ h => by simp at h, List.Pairwise.nil⟩
theorem OkE.tail {m : RE} {l : List RE} (h : OkE (m :: l)) : OkE l := ⟨fun x hx => h.good x (List.mem_cons_of_mem _ hx), (List.pairwise_cons.1 h.asc).2⟩
theorem OkE.head {m : RE} {l : List RE} (h : OkE (m :: l)) : m.ok := h.good m (by simp)
theorem OkE.lt {m : RE} {l : List RE} (h : OkE (m :: l)) : ∀ x ∈ l, ce m < ce x := (List.pairwise_cons.1 h.asc).1
theorem OkE.sub {l l' : List RE} (h : OkE l) (hs : l'.Sublist l) : OkE l' := ⟨fun x hx => h.good x (hs.subset hx), h.asc.sublist hs⟩
theorem OkE.cons {m : RE} {l : List RE} (hm : m.ok) (h : OkE l) (hl : ∀ x ∈ l, ce m < ce x) : OkE (m :: l) :=
  ⟨fun x hx => by
    rcases List.mem_cons.1 hx with rfl | hx
    · exact hm
    · exact h.good x hx, List.pairwise_cons.2 ⟨hl, h.asc⟩⟩
/-- The value of a key. -/
def findE : List RE → RK → Option RV
  | [], _ => none
  | x :: l, k => if x.key = k then some x.val else findE l k
theorem findE_none {l : List RE} {k : RK} : findE l k = none ↔ ∀ m ∈ l, m.key ≠ k := by
  induction l with
  | nil => simp [findE]
  | cons x l ih =>
    unfold findE
    by_cases h : x.key = k
    · simp [h]
    · rw [if_neg h, ih]
      simp [h]
theorem findE_some {l : List RE} {k : RK} {v : RV} (h : findE l k = some v) : ∃ e ∈ l, e.key = k ∧ e.val = v := by
  induction l with
  | nil => cases h
  | cons x l ih =>
    unfold findE at h
    by_cases hk : x.key = k
    · rw [if_pos hk] at h
      injection h with h
      exact ⟨x, by simp, hk, h⟩
    · rw [if_neg hk] at h
      obtain ⟨e, he, h1, h2⟩ := ih h
      exact ⟨e, List.mem_cons_of_mem _ he, h1, h2⟩
theorem OkE.not_mem {x : RE} {l : List RE} (h : OkE (x :: l)) : findE l x.key = none := by
  rw [findE_none]
  intro z hz ez
  have := h.lt z hz
  have : ce z = ce x := by unfold ce; rw [ez]
  omega
theorem okE_ext : ∀ {a b : List RE}, OkE a → OkE b → (∀ k, findE a k = findE b k) → a = b
  | [], [], _, _, _ => rfl
  | [], y :: b, _, _, h => by have := h y.key; simp [findE] at this
  | x :: a, [], _, _, h => by have := h x.key; simp [findE] at this
  | x :: a, y :: b, ha, hb, h => by
    have hk : x.key = y.key := by
      rcases Decidable.em (x.key = y.key) with e | e
      · exact e
      · exfalso
        have h1 := h x.key
        have h2 := h y.key
        simp only [findE, if_true] at h1 h2
        rw [if_neg (fun e2 => e e2.symm)] at h1
        rw [if_neg e] at h2
        obtain ⟨z, hz, ez, _⟩ := findE_some h1.symm
        obtain ⟨u, hu, eu, _⟩ := findE_some h2
        have a1 := hb.lt z hz
        have a2 := ha.lt u hu
        have a3 : ce z = ce x := by unfold ce; rw [ez]
        have a4 : ce u = ce y := by unfold ce; rw [eu]
        omega
    have e : x = y := by
      have h1 := h x.key
      simp only [findE, if_true] at h1
      rw [if_pos hk.symm] at h1
      injection h1 with h1
      obtain ⟨xk, xv⟩ := x
      obtain ⟨yk, yv⟩ := y
      simp only at hk h1
      rw [hk, h1]
    subst e
    congr 1
    refine okE_ext ha.tail hb.tail fun k => ?_
    have h1 := h k
    simp only [findE] at h1
    by_cases e : x.key = k
    · subst e
      rw [ha.not_mem, hb.not_mem]
    · rwa [if_neg e, if_neg e] at h1
/-- With, or without, a value of a key. -/
def setE : List RE → RK → Option RV → List RE
  | [], k, some v => [⟨k, v⟩]
  | [], _, none => []
  | x :: l, k, o => if code x.key < code k then x :: setE l k o else if x.key = k then (match o with | some v => ⟨k, v⟩ :: l | none => l) else (match o with | some v => ⟨k, v⟩ :: x :: l | none => x :: l)
theorem setE_mem {l : List RE} {k : RK} {o : Option RV} {x : RE} (h : x ∈ setE l k o) : x ∈ l ∨ x.key = k := by
  induction l with
  | nil =>
    cases o with
    | none => simp [setE] at h
    | some v => simp [setE] at h; exact .inr (by rw [h])
  | cons y l ih =>
    unfold setE at h
    split at h
    · rcases List.mem_cons.1 h with rfl | h
      · exact .inl (by simp)
      · rcases ih h with h | h
        · exact .inl (List.mem_cons_of_mem _ h)
        · exact .inr h
    · split at h
      · cases o with
        | none => exact .inl (List.mem_cons_of_mem _ h)
        | some v =>
          rcases List.mem_cons.1 h with rfl | h
          · exact .inr rfl
          · exact .inl (List.mem_cons_of_mem _ h)
      · cases o with
        | none => exact .inl h
        | some v =>
          rcases List.mem_cons.1 h with rfl | h
          · exact .inr rfl
          · exact .inl h
theorem setE_ok {l : List RE} {k : RK} {o : Option RV} (h : OkE l) (wk : k.wf) (ok : okB k = true) (ho : ∀ v, o = some v → v.wf ∧ okV v = true) : OkE (setE l k o) := by
  induction l with
  | nil =>
    cases o with
    | none => exact OkE.nil
    | some v => exact OkE.cons ⟨wk, ok, (ho v rfl).1, (ho v rfl).2⟩ OkE.nil (by simp)
  | cons x l ih =>
    have hx := h.head
    unfold setE
    split
    · rename_i hlt
      refine OkE.cons hx (ih h.tail) fun y hy => ?_
      rcases setE_mem hy with hy | hy
      · exact h.lt y hy
      · unfold ce; rw [hy]; exact hlt
    · split
      · rename_i hk
        cases o with
        | none => exact h.tail
        | some v =>
          refine OkE.cons ⟨wk, ok, (ho v rfl).1, (ho v rfl).2⟩ h.tail fun y hy => ?_
          have h1 := h.lt y hy
          have h2 : ce x = code k := by unfold ce; rw [hk]
          show code k < ce y
          omega
      · rename_i h1 h2
        cases o with
        | none => exact h
        | some v =>
          have hne : code x.key ≠ code k := fun e => h2 (code_inj hx.wk wk (okB_len' hx.ok) (okB_len' ok) e)
          refine OkE.cons ⟨wk, ok, (ho v rfl).1, (ho v rfl).2⟩ h fun y hy => ?_
          show code k < ce y
          rcases List.mem_cons.1 hy with rfl | hy
          · unfold ce; omega
          · have := h.lt y hy
            unfold ce at *
            omega
theorem findE_set {l : List RE} {k : RK} {o : Option RV} (h : OkE l) (wk : k.wf) (ok : okB k = true) (j : RK) : findE (setE l k o) j = if j = k then o else findE l j := by
  induction l with
  | nil =>
    cases o with
    | none => simp [setE, findE]
    | some v =>
      show findE [⟨k, v⟩] j = _
      simp only [findE]
      by_cases e : k = j
      · rw [if_pos e, if_pos e.symm]
      · rw [if_neg e, if_neg (fun e2 => e e2.symm)]
  | cons x l ih =>
    have hx := h.head
    have IH := ih h.tail
    unfold setE
    split
    · rename_i hlt
      have hne : x.key ≠ k := fun e => by rw [e] at hlt; omega
      simp only [findE]
      rw [IH]
      by_cases e : x.key = j
      · subst e
        rw [if_pos rfl, if_pos rfl, if_neg hne]
      · rw [if_neg e, if_neg e]
    · split
      · rename_i hk
        cases o with
        | none =>
          simp only [findE]
          by_cases e : j = k
          · subst e
            rw [if_pos rfl, ← hk, h.not_mem]
          · rw [if_neg e, if_neg (fun e2 => e (e2.symm.trans hk))]
        | some v =>
          simp only [findE]
          by_cases e : j = k
          · rw [if_pos e, if_pos e.symm]
          · rw [if_neg e, if_neg (fun e2 => e e2.symm), if_neg (fun e2 => e (e2.symm.trans hk))]
      · rename_i h1 h2
        have hno : findE (x :: l) k = none := by
          rw [findE_none]
          intro y hy ey
          have hc : ce y = code k := by unfold ce; rw [ey]
          have hne : code x.key ≠ code k := fun e => h2 (code_inj hx.wk wk (okB_len' hx.ok) (okB_len' ok) e)
          rcases List.mem_cons.1 hy with rfl | hy
          · unfold ce at hc; omega
          · have := h.lt y hy
            unfold ce at *
            omega
        cases o with
        | none =>
          by_cases e : j = k
          · subst e
            rw [if_pos rfl, hno]
          · rw [if_neg e]
        | some v =>
          show findE (⟨k, v⟩ :: x :: l) j = _
          rw [findE]
          by_cases e : j = k
          · rw [if_pos e, if_pos e.symm]
          · rw [if_neg e, if_neg (fun e2 => e e2.symm)]
/-- What a message makes of what is there. -/
def appO (m : RM) (o : Option RV) : Option RV := if appB m = true then some (appV (o.getD zeroV) o.isSome m) else none
theorem appO_app {a b : RM} (oa : okM a = true) (ob : okM b = true) (hk : a.key = b.key) (wa : a.wf) (o : Option RV) : appO b (appO a o) = appO (compM a b) o := by
  obtain ⟨e1, e2⟩ := app_app oa ob hk wa (o.getD zeroV) o.isSome
  unfold appO
  rw [← e2, ← e1]
  by_cases ha : appB a = true
  · rw [if_pos ha, ha]
    rfl
  · rw [if_neg ha]
    have hz : appV (o.getD zeroV) o.isSome a = zeroV := by
      have hk2 : a.kind = 2 := by
        unfold appB at ha
        simpa using ha
      simp [appV, hk2]
    rw [hz, Bool.eq_false_iff.2 ha]
    rfl
/-- A leaf behind a message; behind many. -/
def putE (l : List RE) (m : RM) : List RE := setE l m.key (appO m (findE l m.key))
def allE (l : List RE) (ms : List RM) : List RE := ms.foldl putE l
theorem findE_ok {l : List RE} (h : OkE l) {k : RK} {v : RV} (hf : findE l k = some v) : v.wf ∧ okV v = true := by
  obtain ⟨e, he, _, hv⟩ := findE_some hf
  rw [← hv]
  exact ⟨(h.good e he).wv, (h.good e he).ov⟩
theorem putE_ok {l : List RE} {m : RM} (h : OkE l) (wm : m.wf) (om : okM m = true) : OkE (putE l m) := by
  refine setE_ok h wm.key (okM_key om) fun v hv => ?_
  unfold appO at hv
  split at hv
  · injection hv with hv
    rw [← hv]
    refine ⟨appV_wf ?_ wm, appV_ok om⟩
    cases hf : findE l m.key with
    | none => exact zeroV_wf
    | some u => exact (findE_ok h hf).1
  · cases hv
theorem findE_put {l : List RE} {m : RM} (h : OkE l) (wm : m.wf) (om : okM m = true) (k : RK) : findE (putE l m) k = if k = m.key then appO m (findE l k) else findE l k := by
  unfold putE
  rw [findE_set h wm.key (okM_key om)]
  by_cases e : k = m.key
  · rw [if_pos e, if_pos e, e]
  · rw [if_neg e, if_neg e]
theorem allE_ok : ∀ {ms : List RM} {l : List RE}, OkE l → Good ms → OkE (allE l ms)
  | [], _, h, _ => h
  | m :: ms, l, h, hg => allE_ok (ms := ms) (putE_ok h hg.head.1 hg.head.2) hg.tail
theorem findE_all : ∀ {ms : List RM} {l : List RE}, OkE l → OkL ms → ∀ k, findE (allE l ms) k = (match findL ms k with | some m => appO m (findE l k) | none => findE l k)
  | [], _, _, _, k => by rw [findL_nil]; rfl
  | m :: ms, l, h, hm, k => by
    have hm1 := hm.good.head
    show findE (allE (putE l m) ms) k = _
    rw [findE_all (putE_ok h hm1.1 hm1.2) hm.tail, findE_put h hm1.1 hm1.2, findL_cons]
    by_cases e : m.key = k
    · subst e
      have hno : findL ms m.key = none := by
        rw [findL_none]
        intro z hz ez
        have := hm.lt z hz
        have : cd z = cd m := by unfold cd; rw [ez]
        omega
      rw [hno, if_pos rfl, if_pos rfl]
    · rw [if_neg (fun e2 => e e2.symm), if_neg e]
/-- A leaf behind one buffer and then another one is the leaf behind both. -/
theorem allE_all {x : List RE} {l m : List RM} (hx : OkE x) (hl : OkL l) (hm : OkL m) : allE (allE x l) m = allE x (allL l m) := by
  refine okE_ext (allE_ok (allE_ok hx hl.good) hm.good) (allE_ok hx (allL_ok hl hm.good).good) fun k => ?_
  rw [findE_all (allE_ok hx hl.good) hm, findE_all hx hl, findE_all hx (allL_ok hl hm.good), findL_all hl hm]
  cases h1 : findL m k with
  | none => rfl
  | some b =>
    cases h2 : findL l k with
    | none => rfl
    | some a =>
      have ma := findL_mem h2
      have mb := findL_mem h1
      exact appO_app (hl.good a ma.1).2 (hm.good b mb.1).2 (ma.2.trans mb.2.symm) (hl.good a ma.1).1 _
end Go.Proofs.Ytcdcaanmmbopbaa
/- The buffers, the leaves, the pivots by numbers (package 00 of the laws). No program text. -/
namespace Go.Proofs.Ytcdcaanmmbopbaa
set_option maxRecDepth 100000
open Go.RowKit
set_option linter.unusedVariables false
/-- The first j numbers as messages of a buffer, at most so many bytes. -/
def msgsJ (ns : List Int) (most : Int) : Nat → List RM
  | 0 => []
  | j + 1 => if bytL (addL (msgsJ ns most j) (lawM (ns.getD j 0) ((j : Int) + 1))) ≤ most then addL (msgsJ ns most j) (lawM (ns.getD j 0) ((j : Int) + 1)) else msgsJ ns most j
theorem msgsJ_ok (ns : List Int) (most : Int) : ∀ j, OkL (msgsJ ns most j)
  | 0 => OkL.nil
  | j + 1 => by
    unfold msgsJ
    split
    · exact addL_ok (msgsJ_ok ns most j) (lawM_wf _ _) (lawM_ok _ _)
    · exact msgsJ_ok ns most j
theorem msgsJ_len (ns : List Int) (most : Int) : ∀ j, (msgsJ ns most j).length ≤ j
  | 0 => Nat.le_refl _
  | j + 1 => by
    have := msgsJ_len ns most j
    unfold msgsJ
    split
    · rw [addL_length (msgsJ_ok ns most j) (lawM_wf _ _) (lawM_ok _ _)]
      split <;> omega
    · omega
def msgsL (ns : List Int) (most : Int) : List RM := msgsJ ns most (min ns.length 60)
theorem msgsL_ok (ns : List Int) (most : Int) : OkL (msgsL ns most) := msgsJ_ok _ _ _
theorem msgsL_len (ns : List Int) (most : Int) : (msgsL ns most).length ≤ 60 := Nat.le_trans (msgsJ_len _ _ _) (Nat.min_le_right _ _)
/-- The bytes of a leaf's entries. -/
def bytE (e : RE) : Int := 2 + e.key.n + e.val.n
def bytsE (l : List RE) : Int := (l.map bytE).sum
theorem bytsE_cons (m : RE) (l : List RE) : bytsE (m :: l) = bytE m + bytsE l := by simp [bytsE]
theorem bytsE_app (a b : List RE) : bytsE (a ++ b) = bytsE a + bytsE b := by simp [bytsE]
/-- The message by which the leaf by numbers puts an entry. -/
def lawP (v : Int) : RM := ⟨1, 0, lawK ((pl v : Nat) : Int), lawV ((pl v / 16 : Nat) : Int), 0⟩
theorem lawP_wf (v : Int) : (lawP v).wf := putM_wf (lawK_wf _) (lawV_wf _) (by simp [Us64])
theorem lawP_ok (v : Int) : okM (lawP v) = true := putM_ok (lawK_ok _) (lawV_ok _)
def entsJ (ns : List Int) (most : Int) : Nat → List RE
  | 0 => []
  | j + 1 => if bytsE (putE (entsJ ns most j) (lawP (ns.getD j 0))) ≤ most then putE (entsJ ns most j) (lawP (ns.getD j 0)) else entsJ ns most j
theorem entsJ_ok (ns : List Int) (most : Int) : ∀ j, OkE (entsJ ns most j)
  | 0 => OkE.nil
  | j + 1 => by
    unfold entsJ
    split
    · exact putE_ok (entsJ_ok ns most j) (lawP_wf _) (lawP_ok _)
    · exact entsJ_ok ns most j
theorem setE_length (l : List RE) (k : RK) (o : Option RV) : (setE l k o).length ≤ l.length + 1 := by
  induction l with
  | nil => cases o <;> simp [setE]
  | cons x l ih =>
    unfold setE
    split
    · simp; omega
    · split
      · cases o <;> simp <;> omega
      · cases o <;> simp
theorem entsJ_len (ns : List Int) (most : Int) : ∀ j, (entsJ ns most j).length ≤ j
  | 0 => Nat.le_refl _
  | j + 1 => by
    have := entsJ_len ns most j
    unfold entsJ
    split
    · have := setE_length (entsJ ns most j) (lawP (ns.getD j 0)).key (appO (lawP (ns.getD j 0)) (findE (entsJ ns most j) (lawP (ns.getD j 0)).key))
      unfold putE
      omega
    · omega
def entsL (ns : List Int) (most : Int) : List RE := entsJ ns most (min ns.length 80)
theorem entsL_ok (ns : List Int) (most : Int) : OkE (entsL ns most) := entsJ_ok _ _ _
theorem entsL_len (ns : List Int) (most : Int) : (entsL ns most).length ≤ 80 := Nat.le_trans (entsJ_len _ _ _) (Nat.min_le_right _ _)
/-- A key put where it belongs among keys that rise. -/
def insP : List RK → RK → List RK
  | [], k => [k]
  | x :: l, k => if code x < code k then x :: insP l k else if x = k then x :: l else k :: x :: l
theorem insP_mem {l : List RK} {k x : RK} : x ∈ insP l k ↔ x ∈ l ∨ x = k := by
  induction l with
  | nil => simp [insP]
  | cons y l ih =>
    unfold insP
    split
    · simp only [List.mem_cons, ih]
      constructor
      · rintro (h | h | h)
        · exact .inl (.inl h)
        · exact .inl (.inr h)
        · exact .inr h
      · rintro ((h | h) | h)
        · exact .inl h
        · exact .inr (.inl h)
        · exact .inr (.inr h)
    · split
      · rename_i e
        constructor
        · exact fun h => .inl h
        · rintro (h | h)
          · exact h
          · rw [h, ← e]; simp
      · simp only [List.mem_cons]
        constructor
        · rintro (h | h)
          · exact .inr h
          · exact .inl h
        · rintro (h | h)
          · exact .inr h
          · exact .inl h
theorem OkP.nil : OkP [] := ⟨fun _ h => by simp at h, List.Pairwise.nil⟩
theorem OkP.tail {k : RK} {l : List RK} (h : OkP (k :: l)) : OkP l := ⟨fun x hx => h.good x (List.mem_cons_of_mem _ hx), (List.pairwise_cons.1 h.asc).2⟩
theorem insP_ok {l : List RK} {k : RK} (h : OkP l) (wk : k.wf) (ok : okB k = true) : OkP (insP l k) := by
  refine ⟨fun x hx => ?_, ?_⟩
  · rcases insP_mem.1 hx with hx | rfl
    · exact h.good x hx
    · exact ⟨wk, ok⟩
  · induction l with
    | nil => exact List.pairwise_cons.2 ⟨by simp, List.Pairwise.nil⟩
    | cons x l ih =>
      have hx := h.good x (by simp)
      have hlt := (List.pairwise_cons.1 h.asc).1
      unfold insP
      split
      · rename_i hl
        refine List.pairwise_cons.2 ⟨fun y hy => ?_, ih h.tail⟩
        rcases insP_mem.1 hy with hy | rfl
        · exact hlt y hy
        · exact hl
      · split
        · exact h.asc
        · rename_i h1 h2
          have hne : code x ≠ code k := fun e => h2 (code_inj hx.1 wk (okB_len' hx.2) (okB_len' ok) e)
          refine List.pairwise_cons.2 ⟨fun y hy => ?_, h.asc⟩
          rcases List.mem_cons.1 hy with rfl | hy
          · omega
          · have := hlt y hy
            omega
/-- The first j numbers as pivots, at most so many. -/
def pivsJ (ns : List Int) (most : Int) : Nat → List RK
  | 0 => []
  | j + 1 => if ((insP (pivsJ ns most j) (lawK (ns.getD j 0))).length : Int) ≤ most then insP (pivsJ ns most j) (lawK (ns.getD j 0)) else pivsJ ns most j
theorem pivsJ_ok (ns : List Int) (most : Int) : ∀ j, OkP (pivsJ ns most j)
  | 0 => OkP.nil
  | j + 1 => by
    unfold pivsJ
    split
    · exact insP_ok (pivsJ_ok ns most j) (lawK_wf _) (lawK_ok _)
    · exact pivsJ_ok ns most j
theorem pivsJ_len (ns : List Int) (most : Int) (h : 0 ≤ most) : ∀ j, ((pivsJ ns most j).length : Int) ≤ most
  | 0 => by simpa [pivsJ] using h
  | j + 1 => by
    unfold pivsJ
    split
    · assumption
    · exact pivsJ_len ns most h j
def pivsL (ns : List Int) (most : Int) : List RK := pivsJ ns most (min ns.length 20)
theorem pivsL_ok (ns : List Int) (most : Int) : OkP (pivsL ns most) := pivsJ_ok _ _ _
end Go.Proofs.Ytcdcaanmmbopbaa
/- Leaves as lists of entries: messages composed, or one by one; halves. No program text. -/
namespace Go.Proofs.Ytcdcaanmmbopbaa
set_option maxRecDepth 100000
open Go.RowKit
set_option linter.unusedVariables false
theorem allL_nil {l : List RM} (h : OkL l) : allL [] l = l := by
  refine okL_ext (allL_ok OkL.nil h.good) h fun k => ?_
  rw [findL_all OkL.nil h, findL_nil]
  cases findL l k <;> rfl
theorem allE_add {x : List RE} {l : List RM} {m : RM} (hx : OkE x) (hl : OkL l) (wm : m.wf) (om : okM m = true) : allE x (addL l m) = putE (allE x l) m := by
  refine okE_ext (allE_ok hx (addL_ok hl wm om).good) (putE_ok (allE_ok hx hl.good) wm om) fun k => ?_
  rw [findE_all hx (addL_ok hl wm om), findE_put (allE_ok hx hl.good) wm om, findE_all hx hl, findL_add hl wm om]
  by_cases e : k = m.key
  · rw [if_pos e, if_pos e]
    cases h2 : findL l k with
    | none => rfl
    | some a =>
      have ma := findL_mem h2
      exact (appO_app (hl.good a ma.1).2 om (ma.2.trans e) (hl.good a ma.1).1 _).symm
  · rw [if_neg e, if_neg e]
/-- Messages composed in a buffer do what they do one by one. -/
theorem allE_comp : ∀ {ms : List RM} {x : List RE} {l : List RM}, OkE x → OkL l → Good ms → allE x (allL l ms) = allE (allE x l) ms
  | [], _, _, _, _, _ => rfl
  | m :: ms, x, l, hx, hl, hm => by
    show allE x (allL (addL l m) ms) = allE (putE (allE x l) m) ms
    rw [allE_comp hx (addL_ok hl hm.head.1 hm.head.2) hm.tail, allE_add hx hl hm.head.1 hm.head.2]
theorem allE_app (x : List RE) (a b : List RM) : allE x (a ++ b) = allE (allE x a) b := by simp [allE]
/-- How many more go to the first half. -/
def splF (all : Int) : Int → List RE → Nat
  | _, [] => 0
  | _, [_] => 0
  | s, x :: y :: l => if 2 * s < all then splF all (s + bytE x) (y :: l) + 1 else 0
/-- Where a leaf is split. -/
def splE : List RE → Nat
  | [] => 0
  | x :: l => splF (bytsE (x :: l)) (bytE x) l + 1
theorem splF_lt (all : Int) : ∀ (s : Int) (l : List RE), l ≠ [] → splF all s l < l.length
  | _, [], h => absurd rfl h
  | _, [_], _ => by simp [splF]
  | s, x :: y :: l, _ => by
    unfold splF
    split
    · have := splF_lt all (s + bytE x) (y :: l) (by simp)
      simp only [List.length_cons] at this ⊢
      omega
    · simp
theorem splF_half (all : Int) : ∀ (s : Int) (l : List RE), l ≠ [] → all ≤ 2 * (s + bytsE (l.take (splF all s l))) ∨ l.length - splF all s l = 1
  | _, [], h => absurd rfl h
  | _, [_], _ => .inr rfl
  | s, x :: y :: l, _ => by
    unfold splF
    split
    · rcases splF_half all (s + bytE x) (y :: l) (by simp) with h | h
      · refine .inl ?_
        rw [List.take_succ_cons, bytsE_cons]
        omega
      · refine .inr ?_
        simp only [List.length_cons] at h ⊢
        omega
    · refine .inl ?_
      simp only [List.take_zero]
      show all ≤ 2 * (s + bytsE [])
      simp [bytsE]
      omega
theorem splF_few (all : Int) : ∀ (s : Int) (l : List RE), splF all s l = 0 ∨ 2 * (s + bytsE (l.take (splF all s l - 1))) < all
  | _, [] => .inl rfl
  | _, [_] => .inl rfl
  | s, x :: y :: l => by
    unfold splF
    split
    · rename_i hs
      refine .inr ?_
      rw [Nat.add_sub_cancel]
      rcases splF_few all (s + bytE x) (y :: l) with h | h
      · rw [h, List.take_zero]
        simp [bytsE]
        exact hs
      · by_cases h0 : splF all (s + bytE x) (y :: l) = 0
        · rw [h0, List.take_zero]
          simp [bytsE]
          exact hs
        · obtain ⟨d, hd⟩ : ∃ d, splF all (s + bytE x) (y :: l) = d + 1 := ⟨splF all (s + bytE x) (y :: l) - 1, by omega⟩
          rw [hd, List.take_succ_cons, bytsE_cons]
          rw [hd, Nat.add_sub_cancel] at h
          omega
    · exact .inl rfl
theorem bytE_bd {e : RE} (h : e.ok) : 2 ≤ bytE e ∧ bytE e ≤ 26 := by
  have h1 := key_bd h.ok
  obtain ⟨m, h2, h3, _⟩ := okV_n h.ov
  unfold bytE
  omega
theorem splE_bd {l : List RE} (h : 2 ≤ l.length) : 1 ≤ splE l ∧ splE l < l.length := by
  match l, h with
  | x :: y :: l, _ =>
    have := splF_lt (bytsE (x :: y :: l)) (bytE x) (y :: l) (by simp)
    unfold splE
    simp only [List.length_cons] at this ⊢
    omega
theorem splE_half {l : List RE} (h : 2 ≤ l.length) : bytsE l ≤ 2 * bytsE (l.take (splE l)) ∨ l.length - splE l = 1 := by
  match l, h with
  | x :: y :: l, _ =>
    unfold splE
    rcases splF_half (bytsE (x :: y :: l)) (bytE x) (y :: l) (by simp) with h | h
    · refine .inl ?_
      rw [List.take_succ_cons, bytsE_cons x ((y :: l).take _)]
      exact h
    · refine .inr ?_
      simp only [List.length_cons] at h ⊢
      omega
theorem splE_few {l : List RE} (h : 2 ≤ l.length) : splE l = 1 ∨ 2 * bytsE (l.take (splE l - 1)) < bytsE l := by
  match l, h with
  | x :: y :: l, _ =>
    have e : splE (x :: y :: l) = splF (bytsE (x :: y :: l)) (bytE x) (y :: l) + 1 := rfl
    rw [e]
    rcases splF_few (bytsE (x :: y :: l)) (bytE x) (y :: l) with h | h
    · exact .inl (by omega)
    · by_cases h0 : splF (bytsE (x :: y :: l)) (bytE x) (y :: l) = 0
      · exact .inl (by omega)
      · refine .inr ?_
        obtain ⟨d, hd⟩ : ∃ d, splF (bytsE (x :: y :: l)) (bytE x) (y :: l) = d + 1 := ⟨splF (bytsE (x :: y :: l)) (bytE x) (y :: l) - 1, by omega⟩
        rw [hd, Nat.add_sub_cancel, List.take_succ_cons, bytsE_cons x ((y :: l).take d)]
        rw [hd, Nat.add_sub_cancel] at h
        exact h
end Go.Proofs.Ytcdcaanmmbopbaa
