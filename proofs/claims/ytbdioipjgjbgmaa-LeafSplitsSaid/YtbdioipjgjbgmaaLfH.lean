/- Entries in memory: 'Put', 'All' of the document. -/
import Derived.Test.YtbdioipjgjbgmaaLfF
namespace Go.Proofs.Ytbdioipjgjbgmaa
set_option maxRecDepth 100000
open Go.RowKit
set_option linter.unusedVariables false
attribute [local go_sem ↓] key_ld ent_ld val_ld msg_ld
/-- What stands for a key that is given a value, or none. -/
def optE (k : RK) : Option RV → List RE
  | some v => [⟨k, v⟩]
  | none => []
theorem setE_lt {x : RE} {l : List RE} {k : RK} {o : Option RV} (h : code x.key < code k) : setE (x :: l) k o = x :: setE l k o := by
  cases o <;> simp [setE, h]
theorem setE_eq {x : RE} {l : List RE} {k : RK} {o : Option RV} (h : ¬ code x.key < code k) (hk : x.key = k) : setE (x :: l) k o = optE k o ++ l := by
  cases o <;> simp [setE, hk, optE]
theorem setE_gt {x : RE} {l : List RE} {k : RK} {o : Option RV} (h : ¬ code x.key < code k) (hk : ¬ x.key = k) : setE (x :: l) k o = optE k o ++ x :: l := by
  cases o <;> simp [setE, h, hk, optE]
/-- What has come of j entries of l, k being given the value o, or none. -/
def PutI (l : List RE) (k : RK) (o : Option RV) (j : Nat) (p : Bool) (q : List RE) : Prop :=
  if p = true then q ++ l.drop j = setE l k o ∧ ∀ y ∈ l.drop j, code k < ce y else q = l.take j ∧ ∀ y ∈ l.take j, ce y < code k
theorem setE_before : ∀ {q : List RE} (r : List RE) {k : RK} {o : Option RV}, (∀ y ∈ q, ce y < code k) → setE (q ++ r) k o = q ++ setE r k o
  | [], _, _, _, _ => rfl
  | x :: q, r, k, o, h => by
    have hx : code x.key < code k := h x (by simp)
    show setE (x :: (q ++ r)) k o = _
    rw [setE_lt hx, setE_before r (fun y hy => h y (List.mem_cons_of_mem _ hy))]
    rfl
theorem putI_start (l : List RE) (k : RK) (o : Option RV) : PutI l k o 0 false [] := ⟨rfl, fun y hy => by simp at hy⟩
theorem putI_len {l q : List RE} {k : RK} {o : Option RV} {j : Nat} (h : PutI l k o j false q) : q.length ≤ j := by
  obtain ⟨rfl, -⟩ : q = l.take j ∧ ∀ y ∈ l.take j, ce y < code k := h
  rw [List.length_take]; omega
theorem drop_one {α : Type} {l : List α} {j : Nat} {a : α} (h : l[j]? = some a) : l.drop j = a :: l.drop (j + 1) := by
  obtain ⟨hj, e⟩ := List.getElem?_eq_some_iff.1 h
  rw [List.drop_eq_getElem_cons hj, e]
theorem putI_lt {l q : List RE} {k : RK} {o : Option RV} {x : RE} {j : Nat} (h : PutI l k o j false q) (hx : l[j]? = some x) (hlt : ce x < code k) : PutI l k o (j + 1) false (q ++ [x]) := by
  obtain ⟨rfl, h2⟩ : q = l.take j ∧ ∀ y ∈ l.take j, ce y < code k := h
  show l.take j ++ [x] = l.take (j + 1) ∧ ∀ y ∈ l.take (j + 1), ce y < code k
  rw [take_one hx]
  refine ⟨rfl, fun y hy => ?_⟩
  rcases List.mem_append.1 hy with e | e
  · exact h2 y e
  · simp at e; subst e; exact hlt
theorem drop_lt {l : List RE} (ol : OkE l) {x : RE} {j : Nat} (hx : l[j]? = some x) : ∀ y ∈ l.drop (j + 1), ce x < ce y := fun y hy => by
  have h := ol.sub (List.drop_sublist j l)
  rw [drop_one hx] at h
  exact h.lt y hy
theorem putI_eq {l q : List RE} {k : RK} {o : Option RV} {x : RE} {j : Nat} (ol : OkE l) (h : PutI l k o j false q) (hx : l[j]? = some x) (hk : x.key = k) : PutI l k o (j + 1) true (q ++ optE k o) := by
  obtain ⟨rfl, h2⟩ : q = l.take j ∧ ∀ y ∈ l.take j, ce y < code k := h
  have hc : ce x = code k := by unfold ce; rw [hk]
  have h3 := drop_lt ol hx
  show _ = setE l k o ∧ ∀ y ∈ l.drop (j + 1), code k < ce y
  refine ⟨?_, fun y hy => by have := h3 y hy; omega⟩
  have e : setE l k o = setE (l.take j ++ l.drop j) k o := by rw [List.take_append_drop]
  rw [e, setE_before _ h2, drop_one hx, setE_eq (by unfold ce at hc; omega) hk, List.append_assoc]
theorem putI_gt {l q : List RE} {k : RK} {o : Option RV} {x : RE} {j : Nat} (ol : OkE l) (h : PutI l k o j false q) (hx : l[j]? = some x) (hgt : code k < ce x) : PutI l k o (j + 1) true (q ++ optE k o ++ [x]) := by
  obtain ⟨rfl, h2⟩ : q = l.take j ∧ ∀ y ∈ l.take j, ce y < code k := h
  have h3 := drop_lt ol hx
  show _ = setE l k o ∧ ∀ y ∈ l.drop (j + 1), code k < ce y
  refine ⟨?_, fun y hy => by have := h3 y hy; omega⟩
  have e : setE l k o = setE (l.take j ++ l.drop j) k o := by rw [List.take_append_drop]
  rw [e, setE_before _ h2, drop_one hx, setE_gt (by unfold ce at hgt; omega) (fun e => by unfold ce at hgt; rw [e] at hgt; omega), List.append_assoc, List.append_assoc]
  rfl
theorem putI_past {l q : List RE} {k : RK} {o : Option RV} {x : RE} {j : Nat} (h : PutI l k o j true q) (hx : l[j]? = some x) : PutI l k o (j + 1) true (q ++ [x]) := by
  obtain ⟨h1, h2⟩ : q ++ l.drop j = setE l k o ∧ ∀ y ∈ l.drop j, code k < ce y := h
  rw [drop_one hx] at h1 h2
  show _ = setE l k o ∧ ∀ y ∈ l.drop (j + 1), code k < ce y
  exact ⟨by rw [List.append_assoc]; exact h1, fun y hy => h2 y (List.mem_cons_of_mem _ hy)⟩
theorem putI_gt_of {l q : List RE} {k : RK} {o : Option RV} {x : RE} {j : Nat} (h : PutI l k o j true q) (hx : l[j]? = some x) : code k < ce x := by
  obtain ⟨h1, h2⟩ : q ++ l.drop j = setE l k o ∧ ∀ y ∈ l.drop j, code k < ce y := h
  exact h2 x (by rw [drop_one hx]; simp)
theorem putI_end {l q : List RE} {k : RK} {o : Option RV} {j : Nat} {p : Bool} (h : PutI l k o j p q) (hj : l.length ≤ j) : setE l k o = if p = true then q else q ++ optE k o := by
  cases p
  · obtain ⟨rfl, h2⟩ : q = l.take j ∧ ∀ y ∈ l.take j, ce y < code k := h
    rw [List.take_of_length_le hj] at h2 ⊢
    have := setE_before [] (o := o) h2
    rw [List.append_nil] at this
    rw [this]
    cases o <;> rfl
  · obtain ⟨h1, -⟩ : q ++ l.drop j = setE l k o ∧ ∀ y ∈ l.drop j, code k < ce y := h
    rw [List.drop_eq_nil_of_le hj, List.append_nil] at h1
    exact h1.symm
end Go.Proofs.Ytbdioipjgjbgmaa
