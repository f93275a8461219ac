/- Slices of keys. -/
import Derived.Test.YtignnjflodkihaaKeyG
import Derived.Maps.RangeWalk
namespace Go.Proofs.Ytignnjflodkihaa
open Go.RowKit
set_option linter.unusedVariables false

/-- The cells of keys, one behind the other. -/
def flat (ks : List RK) : List Value := ks.flatMap kc
theorem flat_nil : flat [] = [] := rfl
theorem flat_append (a b : List RK) : flat (a ++ b) = flat a ++ flat b := by simp [flat]
theorem flat_len : ∀ ks : List RK, (flat ks).length = ks.length * 9
  | [] => rfl
  | k :: ks => by
    have := flat_len ks
    simp only [flat, List.flatMap_cons, List.length_append, List.length_cons] at this ⊢
    rw [this, Nat.add_mul]; simp; omega
theorem flat_take (ks : List RK) (m : Nat) : flat (ks.take m) = (flat ks).take (m * 9) := by
  induction ks generalizing m with
  | nil => simp [flat]
  | cons k ks ih =>
    cases m with
    | zero => simp [flat]
    | succ m =>
      have h : (m + 1) * 9 = (kc k).length + m * 9 := by simp; omega
      show flat (k :: ks.take m) = (kc k ++ flat ks).take ((m + 1) * 9)
      rw [h, List.take_length_add_append]
      show kc k ++ flat (ks.take m) = _
      rw [ih]
theorem flat_drop (ks : List RK) (m : Nat) : flat (ks.drop m) = (flat ks).drop (m * 9) := by
  have h1 : flat ks = flat (ks.take m) ++ flat (ks.drop m) := by rw [← flat_append, List.take_append_drop]
  by_cases h : m ≤ ks.length
  · have h2 : (flat (ks.take m)).length = m * 9 := by rw [flat_len, List.length_take, Nat.min_eq_left h]
    rw [h1, List.drop_append_of_le_length (by omega), ← h2, List.drop_length, List.nil_append]
  · rw [List.drop_eq_nil_of_le (by omega), List.drop_eq_nil_of_le (by rw [flat_len]; omega)]; rfl
theorem flat_get {ks : List RK} {j : Nat} {k : RK} (h : ks[j]? = some k) (t : Nat) (ht : t < 9) : (flat ks)[j * 9 + t]? = (kc k)[t]? := by
  rw [← List.getElem?_drop, ← flat_drop]
  have hj := (List.getElem?_eq_some_iff.1 h).1
  rw [List.drop_eq_getElem_cons hj]
  have e : ks[j] = k := by rw [List.getElem?_eq_getElem hj] at h; injection h
  rw [e]
  show (kc k ++ flat _)[t]? = _
  rw [List.getElem?_append_left (by simpa using ht)]
theorem flat_one (ks : List RK) : ∀ v ∈ flat ks, v.oneCell' = true := by
  intro v hv
  obtain ⟨k, _, hk⟩ := List.mem_flatMap.1 hv
  simp at hk
  rcases hk with rfl | rfl | rfl | rfl | rfl | rfl | rfl | rfl | rfl <;> rfl
/-- The nine cells of k lie at that place. -/
def KeyAt (w : World) (b off : Nat) (k : RK) : Prop := ∀ j v, (kc k)[j]? = some v → w.cell? ⟨b, off + j, none⟩ = some v
theorem hask_at {w : World} {B : Nat} {A : Option Addr} {ks : List RK} (h : Has w B A (flat ks)) {j : Nat} {k : RK} (hk : ks[j]? = some k) : ∃ b off, A = some ⟨b, off, none⟩ ∧ b < B ∧ KeyAt w b (off + j * 9) k := by
  have hne : flat ks ≠ [] := by
    intro e
    have h1 := flat_len ks
    rw [e] at h1
    have := (List.getElem?_eq_some_iff.1 hk).1
    simp at h1
    omega
  obtain ⟨b, off, e, hb, hc⟩ := h.form hne
  refine ⟨b, off, e, hb, fun t v ht => ?_⟩
  have h9 : t < 9 := (List.getElem?_eq_some_iff.1 ht).1
  rw [Nat.add_assoc]
  exact hc (j * 9 + t) v (by rw [flat_get hk t h9]; exact ht)
theorem KeyAt.lift {w w' : World} {b off : Nat} {k : RK} (h : KeyAt w b off k) (hc : ∀ p : Addr, p.block = b → w'.cell? p = w.cell? p) : KeyAt w' b off k := fun j v hj => (hc _ rfl).trans (h j v hj)
theorem KeyAt.below {w w' : World} {b off B : Nat} {k : RK} (h : KeyAt w b off k) (hb : Below B w w') (hl : b < B) : KeyAt w' b off k := h.lift fun p hp => hb.cell (by rw [hp]; exact hl)
theorem key_agg (w : World) : (isAgg 30).run Try.prog w = .ok true w := by kernel_rfl
theorem run_load_key {w : World} {b off : Nat} {k : RK} (h : KeyAt w b off k) : (loadVar 30 ⟨b, off, none⟩).run Try.prog w = .ok (kv k) w := by
  have hl : (loadCells ⟨b, off, none⟩ (kc k).length).run Try.prog w = .ok (kc k).toArray w :=
    run_loadCells_list (P := Try.prog) w ⟨b, off, none⟩ (kc k) (fun j v hv => by rw [Addr.add_lit]; exact h j v hv)
  have hi := key_info
  cases hq : Try.prog.info? 30 with
  | none => simp [hq] at hi
  | some i =>
    have hs : i.size = 9 := by simpa [hq] using hi
    have hl9 : (loadCells ⟨b, off, none⟩ 9).run Try.prog w = .ok (kc k).toArray w := hl
    have hg := key_agg w
    simp [loadVar, Sem.run_bind, hg, sizeOf, typeInfo, hq, hs, hl9]
theorem wpList_load_key {ops : Array Oper} {rest : List Oper} {o : Oper} {a : Act} {w : World} {Q : Exit → Act → World → Prop} (hgd : o.guard = none) (x : Operand) (ho : o.op = .load 30 x)
    (b off : Nat) (k : RK) (hx : a.eval x = .pointer (some ⟨b, off, none⟩)) (hk : KeyAt w b off k)
    (h : wpList Try.prog ops Q rest (a.put o.dst (kv k)) w) : wpList Try.prog ops Q (o :: rest) a w :=
  wpList_plain hgd fun K hK => by
    unfold Oper.wp execOp
    simp only [ho, hx, Instr.loadAt, Instr.sureAddr, Sem.run_bind, Sem.run_pure, Result.andThen_ok, run_load_key hk]
    exact hK _ _ h
theorem KeyAt.cells {w : World} {b off : Nat} {k : RK} (h : KeyAt w b off k) : w.cell? ⟨b, off, none⟩ = some (.int .i64 k.n) ∧ w.cell? ⟨b, off + 1, none⟩ = some (.int .u8 k.b0) ∧ w.cell? ⟨b, off + 2, none⟩ = some (.int .u8 k.b1) ∧ w.cell? ⟨b, off + 3, none⟩ = some (.int .u8 k.b2) ∧ w.cell? ⟨b, off + 4, none⟩ = some (.int .u8 k.b3) ∧ w.cell? ⟨b, off + 5, none⟩ = some (.int .u8 k.b4) ∧ w.cell? ⟨b, off + 6, none⟩ = some (.int .u8 k.b5) ∧ w.cell? ⟨b, off + 7, none⟩ = some (.int .u8 k.b6) ∧ w.cell? ⟨b, off + 8, none⟩ = some (.int .u8 k.b7) :=
  ⟨h 0 _ rfl, h 1 _ rfl, h 2 _ rfl, h 3 _ rfl, h 4 _ rfl, h 5 _ rfl, h 6 _ rfl, h 7 _ rfl, h 8 _ rfl⟩
end Go.Proofs.Ytignnjflodkihaa
