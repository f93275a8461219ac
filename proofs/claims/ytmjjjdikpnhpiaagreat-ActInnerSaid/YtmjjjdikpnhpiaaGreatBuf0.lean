/- Buffers as lists of messages: their order, what is found, added, parted, left out. No program text. -/
import Derived.Test.YtmjjjdikpnhpiaaGreatMsgF
import Derived.Test.YtmjjjdikpnhpiaaGreatKeyE
import Derived.Test.YtmjjjdikpnhpiaaGreatLawA
namespace Go.Proofs.YtmjjjdikpnhpiaaGreat
set_option linter.unusedVariables false
set_option linter.unusedSimpArgs false
set_option maxRecDepth 100000
open Go.RowKit
section
theorem za1 {k : RK} (h : okB k = true) : Len k := by
 obtain ⟨m, hm, hn, _⟩ := zi4 h;unfold Len; omega
def cd (m : RM) : Int := zu m.key
def zcq (l : List RM) : Prop := ∀ m ∈ l, m.wf ∧ okM m = true
structure OkL (l : List RM) : Prop where
 good : zcq l
 asc : l.Pairwise fun a b => cd a < cd b
theorem zfK {a b : RM} (wa : a.wf) (wb : b.wf) (oa : okM a = true) (ob : okM b = true) : cd a = cd b ↔ a.key = b.key :=
 ⟨fun h => zcI wa.key wb.key (za1 (zaH oa)) (za1 (zaH ob)) h, fun h => by unfold cd; rw [h]⟩
theorem zcq.nil : zcq [] := fun _ h => by simp at h
theorem zcq.cons {m : RM} {l : List RM} (wm : m.wf) (om : okM m = true) (h : zcq l) : zcq (m :: l) := fun x hx => by
 rcases List.mem_cons.1 hx with rfl | hx
 ·exact ⟨wm, om⟩
 ·exact h x hx
theorem zcq.tail {m : RM} {l : List RM} (h : zcq (m :: l)) : zcq l := fun x hx => h x (List.mem_cons_of_mem _ hx)
theorem zcq.head {m : RM} {l : List RM} (h : zcq (m :: l)) : m.wf ∧ okM m = true := h m (by simp)
theorem zcq.sub {l l' : List RM} (h : zcq l) (hs : l'.Sublist l) : zcq l' := fun x hx => h x (hs.subset hx)
theorem OkL.nil : OkL [] := ⟨zcq.nil, List.Pairwise.nil⟩
theorem OkL.tail {m : RM} {l : List RM} (h : OkL (m :: l)) : OkL l := ⟨h.good.tail, (List.pairwise_cons.1 h.asc).2⟩
theorem OkL.lt {m : RM} {l : List RM} (h : OkL (m :: l)) : ∀ x ∈ l, cd m < cd x := (List.pairwise_cons.1 h.asc).1
theorem OkL.sub {l l' : List RM} (h : OkL l) (hs : l'.Sublist l) : OkL l' := ⟨h.good.sub hs, h.asc.sublist hs⟩
theorem OkL.cons {m : RM} {l : List RM} (wm : m.wf) (om : okM m = true) (h : OkL l) (hl : ∀ x ∈ l, cd m < cd x) : OkL (m :: l) := ⟨zcq.cons wm om h.good, List.pairwise_cons.2 ⟨hl, h.asc⟩⟩
def zaj (l : List RM) (k : RK) : Option RM := l.find? fun m => decide (m.key = k)
theorem zds (k : RK) : zaj [] k = none := rfl
theorem zai (m : RM) (l : List RM) (k : RK) : zaj (m :: l) k = if m.key = k then some m else zaj l k := by
 unfold zaj;rw [List.find?_cons]
 by_cases h : m.key = k <;> simp [h]
theorem zjm {l : List RM} {k : RK} {m : RM} (h : zaj l k = some m) : m ∈ l ∧ m.key = k := by
 unfold zaj at h;exact ⟨List.mem_of_find?_eq_some h, by simpa using List.find?_some h⟩
theorem zcB {l : List RM} {k : RK} : zaj l k = none ↔ ∀ m ∈ l, m.key ≠ k := by
 unfold zaj;rw [List.find?_eq_none];simp
def zaK : List RM → RM → List RM
 | [], m => [m]
 | x :: l, m => if cd x < cd m then x :: zaK l m else if x.key = m.key then za7 x m :: l else m :: x :: l
theorem cd_comp (a b : RM) : cd (za7 a b) = cd b := by unfold cd; rw [zhS]
theorem addL_mem {l : List RM} {m x : RM} (h : x ∈ zaK l m) : x ∈ l ∨ x.key = m.key := by
 induction l with
 | nil => simp [zaK] at h; exact .inr (by rw [h])
 | cons y l ih =>
  unfold zaK at h
  split at h
  ·rcases List.mem_cons.1 h with rfl | h
   ·exact .inl (by simp)
   ·rcases ih h with h | h
    ·exact .inl (List.mem_cons_of_mem _ h)
    ·exact .inr h
  ·split at h
   ·rcases List.mem_cons.1 h with rfl | h
    ·exact .inr zhS
    ·exact .inl (List.mem_cons_of_mem _ h)
   ·rcases List.mem_cons.1 h with rfl | h
    ·exact .inr rfl
    ·exact .inl h
theorem zdP {l : List RM} {m : RM} (h : OkL l) (wm : m.wf) (om : okM m = true) : OkL (zaK l m) := by
 induction l with
 | nil => exact OkL.cons wm om OkL.nil (by simp)
 | cons x l ih =>
  have hx := h.good.head;unfold zaK
  split
  ·rename_i hlt
   refine OkL.cons hx.1 hx.2 (ih h.tail) fun y hy => ?_
   rcases addL_mem hy with hy | hy
   ·exact h.lt y hy
   ·have : cd y = cd m := by unfold cd; rw [hy]
    omega
  ·split
   ·rename_i hk
    refine OkL.cons (zkj hx.1 wm) (comp_ok om) h.tail fun y hy => ?_;have h1 := h.lt y hy;have h2 : cd x = cd m := by unfold cd; rw [hk]
    rw [cd_comp]; omega
   ·rename_i h1 h2
    have hne : cd x ≠ cd m := fun e => h2 ((zfK hx.1 wm hx.2 om).1 e);refine OkL.cons wm om h fun y hy => ?_
    rcases List.mem_cons.1 hy with rfl | hy
    ·omega
    ·have := h.lt y hy
     omega
theorem zkI {l : List RM} {m : RM} (h : OkL l) (wm : m.wf) (om : okM m = true) : (zaK l m).length = if (zaj l m.key).isSome = true then l.length else l.length + 1 := by
 induction l with
 | nil => simp [zaK, zds]
 | cons x l ih =>
  have hx := h.good.head;have IH := ih h.tail;unfold zaK
  split
  ·rename_i hlt
   have hne : x.key ≠ m.key := fun e => by have : cd x = cd m := by unfold cd; rw [e]
                                           omega
   rw [List.length_cons, IH, zai, if_neg hne]
   split <;> simp
  ·split
   ·rename_i hk
    rw [zai, if_pos hk];simp
   ·rename_i h1 h2
    have hno : zaj (x :: l) m.key = none := by
     rw [zcB];intro y hy e;have hc : cd y = cd m := by unfold cd; rw [e]
     have hxm : cd x ≠ cd m := fun e => h2 ((zfK hx.1 wm hx.2 om).1 e)
     rcases List.mem_cons.1 hy with rfl | hy
     ·omega
     ·have := h.lt y hy
      omega
    rw [hno];simp
def zcg (l more : List RM) : List RM := more.foldl zaK l
theorem zgA : ∀ {more l : List RM}, OkL l → zcq more → OkL (zcg l more)
 | [], _, h, _ => h
 | m :: more, l, h, hg => zgA (more := more) (zdP h hg.head.1 hg.head.2) hg.tail
def zaL (l gone : List RM) : List RM := l.filter fun m => !(zaj gone m.key).isSome
def zbB (l : List RM) : Int := (l.map zc9).sum
theorem zoO (m : RM) (l : List RM) : zbB (m :: l) = zc9 m + zbB l := by simp [zbB]
theorem bytL_app (a b : List RM) : zbB (a ++ b) = zbB a + zbB b := by simp [zbB]
end
section
def zdK : Int → List RM → Nat
 | _, [] => 0
 | n, m :: l => if 96 < n + zc9 m then 0 else zdK (n + zc9 m) l + 1
def zfE (l : List RM) : List RM := l.take (zdK 0 l)
def zf9 (ps : List Int) (i : Nat) (c : Int) : Bool := (decide (i = 0) || decide (ps.getD (i - 1) 0 ≤ c)) && (decide (ps.length ≤ i) || decide (c < ps.getD i 0))
def zah (l : List RM) (ps : List RK) (i : Nat) : List RM := if ps.length < i then [] else l.filter fun m => zf9 (ps.map zu) i (cd m)
structure OkP (ps : List RK) : Prop where
 good : ∀ k ∈ ps, k.wf ∧ okB k = true
 asc : ps.Pairwise fun a b => zu a < zu b
def belowL (l : List RM) (ps : List RK) (i : Nat) : List RM := if ps.length < i then l else if i = 0 then [] else l.filter fun m => decide (cd m < (ps.map zu).getD (i - 1) 0)
theorem OkP.lt {ps : List RK} (h : OkP ps) {i j : Nat} (hij : i < j) (hj : j < ps.length) : (ps.map zu).getD i 0 < (ps.map zu).getD j 0 := by
 have hi : i < ps.length := by omega
 have := (List.pairwise_iff_getElem.1 h.asc) i j hi hj hij
 simpa [List.getD, hi, hj] using this
end
section
def zaS : List RM → Int → Nat
 | [], _ => 0
 | m :: l, c => if cd m < c then zaS l c + 1 else 0
theorem zes : ∀ (l : List RM) (c : Int), zaS l c ≤ l.length
 | [], _ => Nat.le_refl _
 | m :: l, c => by
  have := zes l c;unfold zaS
  split <;> simp <;> omega
theorem zhu : ∀ {l : List RM} {c : Int} {t : Nat} {m : RM}, t < zaS l c → l[t]? = some m → cd m < c
 | [], c, t, m, h, _ => by simp [zaS] at h
 | x :: l, c, t, m, h, hm => by
  unfold zaS at h
  split at h
  ·rename_i hx
   cases t with
   | zero => simp at hm; subst hm; exact hx
   | succ t => exact zhu (l := l) (t := t) (by omega) (by simpa using hm)
  ·omega
theorem zjZ : ∀ {l : List RM} {c : Int} {t : Nat} {m : RM}, OkL l → zaS l c ≤ t → l[t]? = some m → c ≤ cd m
 | [], c, t, m, _, h, hm => by simp at hm
 | x :: l, c, t, m, ho, h, hm => by
  unfold zaS at h
  split at h
  ·cases t with
   | zero => omega
   | succ t => exact zjZ (l := l) (t := t) ho.tail (by omega) (by simpa using hm)
  ·rename_i hx
   cases t with
   | zero => simp at hm; subst hm; omega
   | succ t =>
    have hmem : m ∈ l := by
     obtain ⟨_, e⟩ := List.getElem?_eq_some_iff.1 (show l[t]? = some m by simpa using hm);rw [← e]; exact List.getElem_mem _
    have := ho.lt m hmem;omega
theorem zjd {l : List RM} {c : Int} (h : OkL l) {lo : Nat} (hlo : lo ≤ l.length) (h1 : ∀ t m, t < lo → l[t]? = some m → cd m < c) (h2 : ∀ t m, lo ≤ t → l[t]? = some m → c ≤ cd m) : lo = zaS l c := by
 have hp := zes l c
 rcases Nat.lt_trichotomy lo (zaS l c) with hl | hl | hl
 ·have hlen : lo < l.length := by omega
  have a := zhu hl (List.getElem?_eq_getElem hlen);have b := h2 lo _ (Nat.le_refl _) (List.getElem?_eq_getElem hlen);omega
 ·exact hl
 ·have hlen : zaS l c < l.length := by omega
  have a := h1 _ _ hl (List.getElem?_eq_getElem hlen);have b := zjZ h (Nat.le_refl _) (List.getElem?_eq_getElem hlen);omega
theorem zim : ∀ {l : List RM} {k : RK}, OkL l → k.wf → okB k = true → zaj l k = (match l[zaS l (zu k)]? with | some m => if m.key = k then some m else none | none => none)
 | [], k, _, _, _ => rfl
 | x :: l, k, h, wk, ok => by
  have hx := h.good.head;rw [zai]
  by_cases hlt : cd x < zu k
  ·have hp : zaS (x :: l) (zu k) = zaS l (zu k) + 1 := by rw [zaS, if_pos hlt]
   have hne : x.key ≠ k := fun e => by unfold cd at hlt; rw [e] at hlt; omega
   rw [hp, if_neg hne, List.getElem?_cons_succ];exact zim h.tail wk ok
  ·have hp : zaS (x :: l) (zu k) = 0 := by rw [zaS, if_neg hlt]
   rw [hp, List.getElem?_cons_zero]
   by_cases e : x.key = k
   ·simp [e]
   ·simp only [if_neg e]
    rw [zcB];intro z hz ez;have := h.lt z hz;have : cd z = zu k := by unfold cd; rw [ez]
    omega
theorem ziI {l : List RM} {k : RK} {m : RM} (h : OkL l) (wk : k.wf) (ok : okB k = true) (hf : zaj l k = some m) : l[zaS l (zu k)]? = some m ∧ m.key = k := by
 rw [zim h wk ok] at hf
 split at hf
 ·rename_i x hx
  by_cases e : x.key = k
  ·rw [if_pos e] at hf
   injection hf with hf
   subst hf;exact ⟨hx, e⟩
  ·rw [if_neg e] at hf; cases hf
 ·cases hf
theorem zm1 : ∀ {l : List RM} {m : RM}, OkL l → m.wf → okM m = true → zaK l m = (match zaj l m.key with | some x => l.set (zaS l (cd m)) (za7 x m) | none => l.take (zaS l (cd m)) ++ m :: l.drop (zaS l (cd m)))
 | [], m, _, _, _ => rfl
 | x :: l, m, h, wm, om => by
  have hx := h.good.head;rw [zai];unfold zaK
  by_cases hlt : cd x < cd m
  ·have hp : zaS (x :: l) (cd m) = zaS l (cd m) + 1 := by rw [zaS, if_pos hlt]
   have hne : x.key ≠ m.key := fun e => by have := (zfK hx.1 wm hx.2 om).2 e; omega
   rw [hp, if_pos hlt, if_neg hne, zm1 h.tail wm om]
   cases zaj l m.key <;> simp
  ·have hp : zaS (x :: l) (cd m) = 0 := by rw [zaS, if_neg hlt]
   rw [hp, if_neg hlt]
   by_cases e : x.key = m.key
   ·simp [e]
   ·have hno : zaj l m.key = none := by
     rw [zcB];intro z hz ez;have h1 := h.lt z hz;have hz2 := h.good z (List.mem_cons_of_mem _ hz);have := (zfK hz2.1 wm hz2.2 om).2 ez;omega
    simp [e, hno]
theorem zlS : ∀ {l : List RM} {c : Int}, OkL l → l.take (zaS l c) = l.filter fun m => decide (cd m < c)
 | [], c, _ => rfl
 | x :: l, c, h => by
  by_cases hlt : cd x < c
  ·rw [zaS, if_pos hlt, List.take_succ_cons, zlS h.tail, List.filter_cons, if_pos (by simpa using hlt)]
  ·rw [zaS, if_neg hlt, List.take_zero, eq_comm, List.filter_eq_nil_iff]
   intro z hz
   rcases List.mem_cons.1 hz with rfl | hz
   ·simpa using hlt
   ·have := h.lt z hz
    simp; omega
theorem zlq : ∀ {l : List RM} {c : Int}, OkL l → l.drop (zaS l c) = l.filter fun m => decide (c ≤ cd m)
 | [], c, _ => rfl
 | x :: l, c, h => by
  by_cases hlt : cd x < c
  ·rw [zaS, if_pos hlt, List.drop_succ_cons, zlq h.tail, List.filter_cons, if_neg (by simp; omega)]
  ·rw [zaS, if_neg hlt, List.drop_zero, eq_comm, List.filter_eq_self]
   intro z hz
   rcases List.mem_cons.1 hz with rfl | hz
   ·simp; omega
   ·have := h.lt z hz
    simp; omega
theorem posL_all {l : List RM} {c : Int} (h : ∀ m ∈ l, cd m < c) : zaS l c = l.length := by
 induction l with
 | nil => rfl
 | cons x l ih => rw [zaS, if_pos (h x (by simp)), ih fun m hm => h m (List.mem_cons_of_mem _ hm)]; rfl
def loP (l : List RM) (ps : List RK) (i : Nat) : Nat := if i = 0 then 0 else zaS l ((ps.map zu).getD (i - 1) 0)
def hiP (l : List RM) (ps : List RK) (i : Nat) : Nat := if ps.length ≤ i then l.length else zaS l ((ps.map zu).getD i 0)
theorem zlh {l : List RM} {c : Int} {n : Nat} (h : OkL l) : (l.take n).filter (fun m => decide (c ≤ cd m)) = (l.take n).drop (zaS l c) := by
 have ht : OkL (l.take n) := h.sub (List.take_sublist _ _);rw [← zlq ht]
 by_cases hp : zaS l c ≤ n
 ·congr 1
  refine zjd ht (by rw [List.length_take]; have := zes l c; omega) ?_ ?_ |>.symm
  ·intro t m h1 h2
   rw [List.getElem?_take] at h2
   split at h2
   ·exact zhu h1 h2
   ·cases h2
  ·intro t m h1 h2
   rw [List.getElem?_take] at h2
   split at h2
   ·exact zjZ h h1 h2
   ·cases h2
 ·have : zaS (l.take n) c = (l.take n).length := posL_all fun m hm => by
   obtain ⟨t, ht, e⟩ := List.mem_iff_getElem.1 hm;have h3 : (l.take n)[t]? = some m := by rw [List.getElem?_eq_getElem ht, e]
   rw [List.getElem?_take] at h3
   split at h3
   ·exact zhu (by omega) h3
   ·cases h3
  rw [this, List.drop_length, List.drop_eq_nil_of_le (by simp; omega)]
theorem zkN {l : List RM} {ps : List RK} (h : OkL l) {i : Nat} (hi : i ≤ ps.length) : zah l ps i = (l.take (hiP l ps i)).drop (loP l ps i) := by
 unfold zah loP hiP;rw [if_neg (by omega)]
 have e2 : l.take (if ps.length ≤ i then l.length else zaS l ((ps.map zu).getD i 0)) = l.filter fun m => decide (ps.length ≤ i) || decide (cd m < (ps.map zu).getD i 0) := by
  by_cases hc : ps.length ≤ i
  ·simp only [hc, if_true, decide_true, Bool.true_or, List.take_length]
   exact (List.filter_eq_self.2 fun _ _ => rfl).symm
  ·simp only [hc, if_false, decide_false, Bool.false_or]
   exact zlS h
 by_cases h0 : i = 0
 ·rw [if_pos h0, List.drop_zero, e2]
  congr 1
  funext m
  simp [zf9, h0]
 ·rw [if_neg h0, ← zlh h, e2, List.filter_filter]
  congr 1
  funext m
  simp [zf9, h0]
end
section
structure RE where
 key : RK
 val : RV
 deriving DecidableEq, Inhabited
def ec (e : RE) : List Value := kc e.key ++ vc e.val
abbrev ev (e : RE) : Value := .agg (ec e).toArray
structure RE.ok (e : RE) : Prop where
 wk : e.key.wf
 ok : okB e.key = true
 wv : e.val.wf
 ov : okV e.val = true
def ce (e : RE) : Int := zu e.key
structure OkE (l : List RE) : Prop where
 good : ∀ e ∈ l, e.ok
 asc : l.Pairwise fun a b => ce a < ce b
theorem OkE.nil : OkE [] := ⟨fun _ h => by simp at h, List.Pairwise.nil⟩
theorem OkE.tail {m : RE} {l : List RE} (h : OkE (m :: l)) : OkE l := ⟨fun x hx => h.good x (List.mem_cons_of_mem _ hx), (List.pairwise_cons.1 h.asc).2⟩
theorem OkE.head {m : RE} {l : List RE} (h : OkE (m :: l)) : m.ok := h.good m (by simp)
theorem OkE.lt {m : RE} {l : List RE} (h : OkE (m :: l)) : ∀ x ∈ l, ce m < ce x := (List.pairwise_cons.1 h.asc).1
theorem OkE.sub {l l' : List RE} (h : OkE l) (hs : l'.Sublist l) : OkE l' := ⟨fun x hx => h.good x (hs.subset hx), h.asc.sublist hs⟩
theorem OkE.cons {m : RE} {l : List RE} (hm : m.ok) (h : OkE l) (hl : ∀ x ∈ l, ce m < ce x) : OkE (m :: l) :=
 ⟨fun x hx => by
  rcases List.mem_cons.1 hx with rfl | hx
  ·exact hm
  ·exact h.good x hx, List.pairwise_cons.2 ⟨hl, h.asc⟩⟩
def zO : List RE → RK → Option RV
 | [], _ => none
 | x :: l, k => if x.key = k then some x.val else zO l k
theorem zdG {l : List RE} {k : RK} : zO l k = none ↔ ∀ m ∈ l, m.key ≠ k := by
 induction l with
 | nil => simp [zO]
 | cons x l ih =>
  unfold zO
  by_cases h : x.key = k
  ·simp [h]
  ·rw [if_neg h, ih]
   simp [h]
theorem zfJ {l : List RE} {k : RK} {v : RV} (h : zO l k = some v) : ∃ e ∈ l, e.key = k ∧ e.val = v := by
 induction l with
 | nil => cases h
 | cons x l ih =>
  unfold zO at h
  by_cases hk : x.key = k
  ·rw [if_pos hk] at h
   injection h with h
   exact ⟨x, by simp, hk, h⟩
  ·rw [if_neg hk] at h
   obtain ⟨e, he, h1, h2⟩ := ih h;exact ⟨e, List.mem_cons_of_mem _ he, h1, h2⟩
def za3 : List RE → RK → Option RV → List RE
 | [], k, some v => [⟨k, v⟩]
 | [], _, none => []
 | x :: l, k, o => if zu x.key < zu k then x :: za3 l k o else if x.key = k then (match o with | some v => ⟨k, v⟩ :: l | none => l) else (match o with | some v => ⟨k, v⟩ :: x :: l | none => x :: l)
theorem setE_mem {l : List RE} {k : RK} {o : Option RV} {x : RE} (h : x ∈ za3 l k o) : x ∈ l ∨ x.key = k := by
 induction l with
 | nil =>
  cases o with
  | none => simp [za3] at h
  | some v => simp [za3] at h; exact .inr (by rw [h])
 | cons y l ih =>
  unfold za3 at h
  split at h
  ·rcases List.mem_cons.1 h with rfl | h
   ·exact .inl (by simp)
   ·rcases ih h with h | h
    ·exact .inl (List.mem_cons_of_mem _ h)
    ·exact .inr h
  ·split at h
   ·cases o with
    | none => exact .inl (List.mem_cons_of_mem _ h)
    | some v =>
     rcases List.mem_cons.1 h with rfl | h
     ·exact .inr rfl
     ·exact .inl (List.mem_cons_of_mem _ h)
   ·cases o with
    | none => exact .inl h
    | some v =>
     rcases List.mem_cons.1 h with rfl | h
     ·exact .inr rfl
     ·exact .inl h
theorem setE_ok {l : List RE} {k : RK} {o : Option RV} (h : OkE l) (wk : k.wf) (ok : okB k = true) (ho : ∀ v, o = some v → v.wf ∧ okV v = true) : OkE (za3 l k o) := by
 induction l with
 | nil =>
  cases o with
  | none => exact OkE.nil
  | some v => exact OkE.cons ⟨wk, ok, (ho v rfl).1, (ho v rfl).2⟩ OkE.nil (by simp)
 | cons x l ih =>
  have hx := h.head;unfold za3
  split
  ·rename_i hlt
   refine OkE.cons hx (ih h.tail) fun y hy => ?_
   rcases setE_mem hy with hy | hy
   ·exact h.lt y hy
   ·unfold ce; rw [hy]; exact hlt
  ·split
   ·rename_i hk
    cases o with
    | none => exact h.tail
    | some v =>
     refine OkE.cons ⟨wk, ok, (ho v rfl).1, (ho v rfl).2⟩ h.tail fun y hy => ?_;have h1 := h.lt y hy;have h2 : ce x = zu k := by unfold ce; rw [hk]
     show zu k < ce y
     omega
   ·rename_i h1 h2
    cases o with
    | none => exact h
    | some v =>
     have hne : zu x.key ≠ zu k := fun e => h2 (zcI hx.wk wk (za1 hx.ok) (za1 ok) e);refine OkE.cons ⟨wk, ok, (ho v rfl).1, (ho v rfl).2⟩ h fun y hy => ?_
     show zu k < ce y
     rcases List.mem_cons.1 hy with rfl | hy
     ·unfold ce; omega
     ·have := h.lt y hy
      unfold ce at *;omega
def zhJ (m : RM) (o : Option RV) : Option RV := if zcy m = true then some (zbx (o.getD zE) o.isSome m) else none
def zba (l : List RE) (m : RM) : List RE := za3 l m.key (zhJ m (zO l m.key))
def zbI (l : List RE) (ms : List RM) : List RE := ms.foldl zba l
theorem ze2 {l : List RE} (h : OkE l) {k : RK} {v : RV} (hf : zO l k = some v) : v.wf ∧ okV v = true := by
 obtain ⟨e, he, _, hv⟩ := zfJ hf;rw [← hv];exact ⟨(h.good e he).wv, (h.good e he).ov⟩
theorem zfk {l : List RE} {m : RM} (h : OkE l) (wm : m.wf) (om : okM m = true) : OkE (zba l m) := by
 refine setE_ok h wm.key (zaH om) fun v hv => ?_;unfold zhJ at hv
 split at hv
 ·injection hv with hv
  rw [← hv];refine ⟨zgj ?_ wm, appV_ok om⟩
  cases hf : zO l m.key with
  | none => exact zcA
  | some u => exact (ze2 h hf).1
 ·cases hv
theorem zbW : ∀ {ms : List RM} {l : List RE}, OkE l → zcq ms → OkE (zbI l ms)
 | [], _, h, _ => h
 | m :: ms, l, h, hg => zbW (ms := ms) (zfk h hg.head.1 hg.head.2) hg.tail
end
section
def zbY (ns : List Int) (most : Int) : Nat → List RM
 | 0 => []
 | j + 1 => if zbB (zaK (zbY ns most j) (zdq (ns.getD j 0) ((j : Int) + 1))) ≤ most then zaK (zbY ns most j) (zdq (ns.getD j 0) ((j : Int) + 1)) else zbY ns most j
theorem zeJ (ns : List Int) (most : Int) : ∀ j, OkL (zbY ns most j)
 | 0 => OkL.nil
 | j + 1 => by
  unfold zbY
  split
  ·exact zdP (zeJ ns most j) (zc0 _ _) (zc4 _ _)
  ·exact zeJ ns most j
theorem zgV (ns : List Int) (most : Int) : ∀ j, (zbY ns most j).length ≤ j
 | 0 => Nat.le_refl _
 | j + 1 => by
  have := zgV ns most j;unfold zbY
  split
  ·rw [zkI (zeJ ns most j) (zc0 _ _) (zc4 _ _)]
   split <;> omega
  ·omega
def zdS (ns : List Int) (most : Int) : List RM := zbY ns most (min ns.length 60)
theorem zgC (ns : List Int) (most : Int) : OkL (zdS ns most) := zeJ _ _ _
theorem zcS (ns : List Int) (most : Int) : (zdS ns most).length ≤ 60 := Nat.le_trans (zgV _ _ _) (Nat.min_le_right _ _)
def zcs (e : RE) : Int := 2 + e.key.n + e.val.n
def zQ (l : List RE) : Int := (l.map zcs).sum
theorem zdx (m : RE) (l : List RE) : zQ (m :: l) = zcs m + zQ l := by simp [zQ]
theorem zg3 (a b : List RE) : zQ (a ++ b) = zQ a + zQ b := by simp [zQ]
def zij (v : Int) : RM := ⟨1, 0, zbL ((pl v : Nat) : Int), zgW ((pl v / 16 : Nat) : Int), 0⟩
theorem zm6 (v : Int) : (zij v).wf := putM_wf (zfj _) (zgE _) (by simp [zeb])
theorem zng (v : Int) : okM (zij v) = true := zjA (zhz _) (zni _)
def zbC (ns : List Int) (most : Int) : Nat → List RE
 | 0 => []
 | j + 1 => if zQ (zba (zbC ns most j) (zij (ns.getD j 0))) ≤ most then zba (zbC ns most j) (zij (ns.getD j 0)) else zbC ns most j
theorem zf4 (ns : List Int) (most : Int) : ∀ j, OkE (zbC ns most j)
 | 0 => OkE.nil
 | j + 1 => by
  unfold zbC
  split
  ·exact zfk (zf4 ns most j) (zm6 _) (zng _)
  ·exact zf4 ns most j
theorem zhi (l : List RE) (k : RK) (o : Option RV) : (za3 l k o).length ≤ l.length + 1 := by
 induction l with
 | nil => cases o <;> simp [za3]
 | cons x l ih =>
  unfold za3
  split
  ·simp; omega
  ·split
   ·cases o <;> simp <;> omega
   ·cases o <;> simp
theorem zgI (ns : List Int) (most : Int) : ∀ j, (zbC ns most j).length ≤ j
 | 0 => Nat.le_refl _
 | j + 1 => by
  have := zgI ns most j;unfold zbC
  split
  ·have := zhi (zbC ns most j) (zij (ns.getD j 0)).key (zhJ (zij (ns.getD j 0)) (zO (zbC ns most j) (zij (ns.getD j 0)).key))
   unfold zba;omega
  ·omega
def zef (ns : List Int) (most : Int) : List RE := zbC ns most (min ns.length 80)
theorem zeX (ns : List Int) (most : Int) : OkE (zef ns most) := zf4 _ _ _
theorem zfe (ns : List Int) (most : Int) : (zef ns most).length ≤ 80 := Nat.le_trans (zgI _ _ _) (Nat.min_le_right _ _)
def zdJ : List RK → RK → List RK
 | [], k => [k]
 | x :: l, k => if zu x < zu k then x :: zdJ l k else if x = k then x :: l else k :: x :: l
theorem zii {l : List RK} {k x : RK} : x ∈ zdJ l k ↔ x ∈ l ∨ x = k := by
 induction l with
 | nil => simp [zdJ]
 | cons y l ih =>
  unfold zdJ
  split
  ·simp only [List.mem_cons, ih]
   constructor
   ·rintro (h | h | h)
    ·exact .inl (.inl h)
    ·exact .inl (.inr h)
    ·exact .inr h
   ·rintro ((h | h) | h)
    ·exact .inl h
    ·exact .inr (.inl h)
    ·exact .inr (.inr h)
  ·split
   ·rename_i e
    constructor
    ·exact fun h => .inl h
    ·rintro (h | h)
     ·exact h
     ·rw [h, ← e]; simp
   ·simp only [List.mem_cons]
    constructor
    ·rintro (h | h)
     ·exact .inr h
     ·exact .inl h
    ·rintro (h | h)
     ·exact .inr h
     ·exact .inl h
theorem OkP.nil : OkP [] := ⟨fun _ h => by simp at h, List.Pairwise.nil⟩
theorem OkP.tail {k : RK} {l : List RK} (h : OkP (k :: l)) : OkP l := ⟨fun x hx => h.good x (List.mem_cons_of_mem _ hx), (List.pairwise_cons.1 h.asc).2⟩
theorem zm9 {l : List RK} {k : RK} (h : OkP l) (wk : k.wf) (ok : okB k = true) : OkP (zdJ l k) := by
 refine ⟨fun x hx => ?_, ?_⟩
 ·rcases zii.1 hx with hx | rfl
  ·exact h.good x hx
  ·exact ⟨wk, ok⟩
 ·induction l with
  | nil => exact List.pairwise_cons.2 ⟨by simp, List.Pairwise.nil⟩
  | cons x l ih =>
   have hx := h.good x (by simp);have hlt := (List.pairwise_cons.1 h.asc).1;unfold zdJ
   split
   ·rename_i hl
    refine List.pairwise_cons.2 ⟨fun y hy => ?_, ih h.tail⟩
    rcases zii.1 hy with hy | rfl
    ·exact hlt y hy
    ·exact hl
   ·split
    ·exact h.asc
    ·rename_i h1 h2
     have hne : zu x ≠ zu k := fun e => h2 (zcI hx.1 wk (za1 hx.2) (za1 ok) e);refine List.pairwise_cons.2 ⟨fun y hy => ?_, h.asc⟩
     rcases List.mem_cons.1 hy with rfl | hy
     ·omega
     ·have := hlt y hy
      omega
def zbD (ns : List Int) (most : Int) : Nat → List RK
 | 0 => []
 | j + 1 => if ((zdJ (zbD ns most j) (zbL (ns.getD j 0))).length : Int) ≤ most then zdJ (zbD ns most j) (zbL (ns.getD j 0)) else zbD ns most j
theorem zfN (ns : List Int) (most : Int) : ∀ j, OkP (zbD ns most j)
 | 0 => OkP.nil
 | j + 1 => by
  unfold zbD
  split
  ·exact zm9 (zfN ns most j) (zfj _) (zhz _)
  ·exact zfN ns most j
theorem zfa (ns : List Int) (most : Int) (h : 0 ≤ most) : ∀ j, ((zbD ns most j).length : Int) ≤ most
 | 0 => by simpa [zbD] using h
 | j + 1 => by
  unfold zbD
  split
  ·assumption
  ·exact zfa ns most h j
def zca (ns : List Int) (most : Int) : List RK := zbD ns most (min ns.length 20)
theorem zh1 (ns : List Int) (most : Int) : OkP (zca ns most) := zfN _ _ _
end
section
def zeI (all : Int) : Int → List RE → Nat
 | _, [] => 0
 | _, [_] => 0
 | s, x :: y :: l => if 2 * s < all then zeI all (s + zcs x) (y :: l) + 1 else 0
def zaZ : List RE → Nat
 | [] => 0
 | x :: l => zeI (zQ (x :: l)) (zcs x) l + 1
theorem zna (all : Int) : ∀ (s : Int) (l : List RE), l ≠ [] → zeI all s l < l.length
 | _, [], h => absurd rfl h
 | _, [_], _ => by simp [zeI]
 | s, x :: y :: l, _ => by
  unfold zeI
  split
  ·have := zna all (s + zcs x) (y :: l) (by simp)
   simp only [List.length_cons] at this ⊢;omega
  ·simp
theorem zjr (all : Int) : ∀ (s : Int) (l : List RE), l ≠ [] → all ≤ 2 * (s + zQ (l.take (zeI all s l))) ∨ l.length - zeI all s l = 1
 | _, [], h => absurd rfl h
 | _, [_], _ => .inr rfl
 | s, x :: y :: l, _ => by
  unfold zeI
  split
  ·rcases zjr all (s + zcs x) (y :: l) (by simp) with h | h
   ·refine .inl ?_
    rw [List.take_succ_cons, zdx];omega
   ·refine .inr ?_
    simp only [List.length_cons] at h ⊢;omega
  ·refine .inl ?_
   simp only [List.take_zero]
   show all ≤ 2 * (s + zQ [])
   simp [zQ];omega
theorem zlt (all : Int) : ∀ (s : Int) (l : List RE), zeI all s l = 0 ∨ 2 * (s + zQ (l.take (zeI all s l - 1))) < all
 | _, [] => .inl rfl
 | _, [_] => .inl rfl
 | s, x :: y :: l => by
  unfold zeI
  split
  ·rename_i hs
   refine .inr ?_;rw [Nat.add_sub_cancel]
   rcases zlt all (s + zcs x) (y :: l) with h | h
   ·rw [h, List.take_zero]
    simp [zQ];exact hs
   ·by_cases h0 : zeI all (s + zcs x) (y :: l) = 0
    ·rw [h0, List.take_zero]
     simp [zQ];exact hs
    ·obtain ⟨d, hd⟩ : ∃ d, zeI all (s + zcs x) (y :: l) = d + 1 := ⟨zeI all (s + zcs x) (y :: l) - 1, by omega⟩
     rw [hd, List.take_succ_cons, zdx];rw [hd, Nat.add_sub_cancel] at h;omega
  ·exact .inl rfl
theorem zfS {l : List RE} (h : 2 ≤ l.length) : 1 ≤ zaZ l ∧ zaZ l < l.length := by
 match l, h with
 | x :: y :: l, _ =>
  have := zna (zQ (x :: y :: l)) (zcs x) (y :: l) (by simp);unfold zaZ;simp only [List.length_cons] at this ⊢;omega
theorem zja {l : List RE} (h : 2 ≤ l.length) : zQ l ≤ 2 * zQ (l.take (zaZ l)) ∨ l.length - zaZ l = 1 := by
 match l, h with
 | x :: y :: l, _ =>
  unfold zaZ
  rcases zjr (zQ (x :: y :: l)) (zcs x) (y :: l) (by simp) with h | h
  ·refine .inl ?_
   rw [List.take_succ_cons, zdx x ((y :: l).take _)];exact h
  ·refine .inr ?_
   simp only [List.length_cons] at h ⊢;omega
theorem zkR {l : List RE} (h : 2 ≤ l.length) : zaZ l = 1 ∨ 2 * zQ (l.take (zaZ l - 1)) < zQ l := by
 match l, h with
 | x :: y :: l, _ =>
  have e : zaZ (x :: y :: l) = zeI (zQ (x :: y :: l)) (zcs x) (y :: l) + 1 := rfl;rw [e]
  rcases zlt (zQ (x :: y :: l)) (zcs x) (y :: l) with h | h
  ·exact .inl (by omega)
  ·by_cases h0 : zeI (zQ (x :: y :: l)) (zcs x) (y :: l) = 0
   ·exact .inl (by omega)
   ·refine .inr ?_
    obtain ⟨d, hd⟩ : ∃ d, zeI (zQ (x :: y :: l)) (zcs x) (y :: l) = d + 1 := ⟨zeI (zQ (x :: y :: l)) (zcs x) (y :: l) - 1, by omega⟩;rw [hd, Nat.add_sub_cancel, List.take_succ_cons, zdx x ((y :: l).take d)];rw [hd, Nat.add_sub_cancel] at h;exact h
end
end Go.Proofs.YtmjjjdikpnhpiaaGreat
