/- Package store: its state, find. -/
import Derived.Test.YtliglcaakhfahaaRows
import Derived.Test.YtliglcaakhfahaaObj
namespace Go.Proofs.Ytliglcaakhfahaa
set_option linter.unusedVariables false
set_option linter.unusedSimpArgs false
set_option maxRecDepth 100000
open Go.RowKit
/-- A slot: used or not, its bytes. -/
abbrev Slot := Bool × List Int
def slotC (x : Slot) : List Value := .bool x.1 :: u8s x.2
def OkS (l : List Slot) : Prop := ∀ x ∈ l, x.2.length = 256 ∧ Bytes x.2
theorem slotC_wid {l : List Slot} (h : OkS l) : Wid slotC 257 l := fun x hx => by simp [slotC, u8s, (h x hx).1]
theorem slotC_len {x : Slot} (h : x.2.length = 256) : (slotC x).length = 257 := by simp [slotC, u8s, h]
theorem slotC_one (x : Slot) : One (slotC x) := .cons rfl (u8s_one _)
theorem OkS.set {l : List Slot} (h : OkS l) (k : Nat) {x : Slot} (hx : x.2.length = 256 ∧ Bytes x.2) : OkS (l.set k x) := fun y hy => by
  rcases List.mem_or_eq_of_mem_set hy with e | e
  · exact h y e
  · rw [e]; exact hx
/-- A store of the program's: its box g, its slots' block q. -/
structure PS (w : World) (g q : Nat) (l : List Slot) : Prop where
  box : Arr w g 59 #[.slice (some ⟨q, 0, none⟩) l.length l.length]
  row : Arr w q 66 (rows slotC l).toArray
  ne : g ≠ q
  len : 1 ≤ l.length ∧ l.length ≤ 256
  ok : OkS l
theorem PS.chg {w W : World} {g q : Nat} {l : List Slot} {X : Nat → Prop} (h : PS w g q l) (k : Chg X w W) (hg : ¬ X g) (hq : ¬ X q) : PS W g q l := { h with box := h.box.chg k hg, row := h.row.chg k hq }
theorem PS.fr {w W : World} {g q : Nat} {l : List Slot} (h : PS w g q l) (k : Fr w W) : PS W g q l := h.chg (.of_fr (fun _ => False) k) id id
/-- The bytes of a used block. -/
def atS (l : List Slot) (id : Int) : Option (List Int) := if 0 ≤ id then (match l[id.toNat]? with | some (true, b) => some b | _ => none) else none
theorem atS_some {l : List Slot} {id : Int} {b : List Int} (h : atS l id = some b) : ∃ k : Nat, id = k ∧ k < l.length ∧ l[k]? = some (true, b) := by
  unfold atS at h
  split at h
  · rename_i h0
    obtain ⟨k, rfl⟩ := Int.eq_ofNat_of_zero_le h0
    simp only [Int.ofNat_eq_natCast, Int.toNat_natCast] at h ⊢
    split at h
    · rename_i b' hb
      injection h with h
      subst h
      exact ⟨k, rfl, (List.getElem?_eq_some_iff.1 hb).1, hb⟩
    · cases h
  · cases h
theorem atS_none {l : List Slot} {id : Int} (h : atS l id = none) : id < 0 ∨ (l.length : Int) ≤ id ∨ ∃ k b, id = (k : Nat) ∧ k < l.length ∧ l[k]? = some (false, b) := by
  unfold atS at h
  split at h
  · rename_i h0
    obtain ⟨k, rfl⟩ := Int.eq_ofNat_of_zero_le h0
    simp only [Int.ofNat_eq_natCast, Int.toNat_natCast] at h ⊢
    rcases Nat.lt_or_ge k l.length with hk | hk
    · have e := List.getElem?_eq_getElem hk
      rw [e] at h
      rcases hx : l[k] with ⟨b, x⟩
      cases b
      · exact .inr (.inr ⟨k, x, rfl, hk, by rw [e, hx]⟩)
      · rw [hx] at h; cases h
    · exact .inr (.inl (by omega))
  · exact .inl (by omega)
theorem cell_used {w : World} {g q k : Nat} {l : List Slot} {x : Slot} (h : PS w g q l) (hx : l[k]? = some x) : w.cell? ⟨q, k * 257, none⟩ = some (.bool x.1) := by
  rw [h.row.cell]
  have := rows_get (slotC_wid h.ok) hx 0 (by decide)
  simpa [slotC] using this
set_option maxHeartbeats 1000000 in
theorem find_yes {w : World} {g q k : Nat} {l : List Slot} {b : List Int} (h : PS w g q l) (hk : l[k]? = some (true, b)) :
    Calls Try.prog 27 #[.pointer (some ⟨g, 0, none⟩), .int .i64 (k : Int)] w fun e w' => e = .returned (.pointer (some ⟨q, k * 257, none⟩)) ∧ w = w' := by
  have hl := (List.getElem?_eq_some_iff.1 hk).1
  have c1 := h.box.cell 0
  have c2 := cell_used h hk
  simp only [List.getElem?_toArray, List.getElem?_cons_zero] at c1
  obtain ⟨h1, h2⟩ := h.len
  generalize l.length = n at *
  clear hk h
  go_enter Try.func27, Try.ntmps27
  go_wp2
  go_ret
  exact ⟨rfl, rfl⟩
set_option maxHeartbeats 1000000 in
theorem find_no {w : World} {g q : Nat} {id : Int} {l : List Slot} (h : PS w g q l) (hid : -9223372036854775808 ≤ id ∧ id ≤ 9223372036854775807) (hk : atS l id = none) :
    Calls Try.prog 27 #[.pointer (some ⟨g, 0, none⟩), .int .i64 id] w fun e w' => e = .returned (.pointer none) ∧ w = w' := by
  have c1 := h.box.cell 0
  simp only [List.getElem?_toArray, List.getElem?_cons_zero] at c1
  obtain ⟨h1, h2⟩ := h.len
  rcases atS_none hk with hn | hn | ⟨k, b, rfl, hl, hk⟩
  · clear hk h
    generalize l.length = n at *
    go_enter Try.func27, Try.ntmps27
    go_wp2
    go_ret
    exact ⟨rfl, rfl⟩
  · have hnn : ¬ id < 0 := by omega
    clear hk h
    generalize l.length = n at *
    go_enter Try.func27, Try.ntmps27
    go_wp2
    go_ret
    exact ⟨rfl, rfl⟩
  · have c2 := cell_used h hk
    clear hk h
    generalize l.length = n at *
    go_enter Try.func27, Try.ntmps27
    go_wp2
    go_ret
    exact ⟨rfl, rfl⟩
end Go.Proofs.Ytliglcaakhfahaa
