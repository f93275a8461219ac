/- Package store: New, Alloc, Free, Read, Write. -/
import Derived.Test.YtliglcaakhfahaaStA
import Derived.Laws.MakeOwn
import Derived.Laws.Tables
namespace Go.Proofs.Ytliglcaakhfahaa
set_option linter.unusedVariables false
set_option linter.unusedSimpArgs false
set_option maxRecDepth 100000
open Go.RowKit
/-- A free slot that was never used. -/
def z256 : List Int := List.replicate 256 0
theorem z256_ok : z256.length = 256 ∧ Bytes z256 := ⟨by simp [z256], fun z hz => by rw [List.eq_of_mem_replicate hz]; omega⟩
def newS (n : Nat) : List Slot := List.replicate n (false, z256)
theorem newS_ok (n : Nat) : OkS (newS n) := fun x hx => by rw [List.eq_of_mem_replicate hx]; exact z256_ok
theorem slot_elem : ∃ i z, Try.prog.info? 66 = some i ∧ i.zero = some z ∧ i.size = 257 ∧ i.bytes = 257 ∧ z.cells = (slotC (false, z256)).toArray := by
  cases h : Try.prog.info? 66 with
  | none => exact absurd h (by decide +kernel)
  | some i =>
    have e1 : (Try.prog.info? 66).bind (·.zero) = some (.agg (slotC (false, z256)).toArray) := by kernel_rfl
    have e2 : (Try.prog.info? 66).map (·.size) = some 257 := by kernel_rfl
    have e3 : (Try.prog.info? 66).map (·.bytes) = some 257 := by kernel_rfl
    rw [h] at e1 e2 e3
    exact ⟨i, _, rfl, by simpa using e1, by simpa using e2, by simpa using e3, rfl⟩
theorem slot_make (n : Nat) (hn : n ≤ 256) (w : World) : (Instr.makeSlice 57 (.int .i64 (n : Int)) (.int .i64 (n : Int))).run Try.prog w = .ok (.slice (some ⟨w.heap.size, 0, none⟩) n n) (w.alloc (.cells (rows slotC (newS n)).toArray 66)) := by
  obtain ⟨i, z, hi, hz, hs, hb, hc⟩ := slot_elem
  have h := run_make (P := Try.prog) w 57 66 i z Try.underlying57 hi hz .i64 .i64 n n (by omega) (Int.le_refl _) (by rw [hb]; omega) (by omega)
  rw [hs, hc, Int.toNat_natCast, rows_made (by decide) _ (slotC_len (x := (false, z256)) z256_ok.1)] at h
  exact h
set_option maxHeartbeats 1000000 in
theorem new_yes (w : World) (n : Nat) (h1 : 1 ≤ n) (h2 : n ≤ 256) :
    Calls Try.prog 7 #[.int .i64 (n : Int)] w fun e w' => ∃ g q, e = .returned (.tuple #[.pointer (some ⟨g, 0, none⟩), .int .i64 0]) ∧ Hid (PS w' g q (newS n) ∧ Fr w w' ∧ w.heap.size ≤ g ∧ w.heap.size ≤ q) := by
  have hm := slot_make n h2 w
  generalize hz : (rows slotC (newS n)).toArray = zs at *
  have Hz := keep hz
  clear hz
  go_enter Try.func7, Try.ntmps7
  go_wp2
  go_ret2
  have a1 := Arr.new (w.alloc (.cells zs 66)) #[.slice (some ⟨w.heap.size, 0, none⟩) n n] 59
  have a2 := (Arr.new w zs 66).alloc (.cells #[.slice (some ⟨w.heap.size, 0, none⟩) n n] 59)
  have hl : (newS n).length = n := by simp [newS]
  exact ⟨_, w.heap.size, rfl, keep ⟨⟨by rw [hl]; simpa using a1, by rw [Hz.out]; exact a2, by simp, by rw [hl]; exact ⟨h1, h2⟩, newS_ok n⟩, fr_new (fr_new (fr_refl w) _) _, by simp, Nat.le_refl _⟩⟩
set_option maxHeartbeats 1000000 in
theorem new_no (w : World) (n : Int) (hn : n < 1 ∨ 256 < n) :
    Calls Try.prog 7 #[.int .i64 n] w fun e w' => e = .returned (.tuple #[.pointer none, .int .i64 1]) ∧ w = w' := by
  rcases hn with h | h
  · go_enter Try.func7, Try.ntmps7
    go_wp2
    go_ret2
    exact ⟨rfl, rfl⟩
  · have h1 : ¬ n < 1 := by omega
    go_enter Try.func7, Try.ntmps7
    go_wp2
    go_ret2
    exact ⟨rfl, rfl⟩
/-- What Alloc comes to: a number, an error, the slots behind it. -/
def frS (l : List Slot) : Nat := l.findIdx (!·.1)
def alI (l : List Slot) : Int := if frS l < l.length then (frS l : Int) else 0
def alE (l : List Slot) : Int := if frS l < l.length then 0 else 3
def alL (l : List Slot) : List Slot := l.set (frS l) (true, z256)
theorem frS_at {l : List Slot} {j : Nat} {b : List Int} (hb : ∀ t, t < j → ∀ x, l[t]? = some x → x.1 = true) (hj : l[j]? = some (false, b)) : frS l = j := by
  have hl := (List.getElem?_eq_some_iff.1 hj).1
  have he := (List.getElem?_eq_some_iff.1 hj).2
  refine (List.findIdx_eq hl).2 ⟨by rw [he]; rfl, fun t ht => ?_⟩
  have := hb t ht _ (List.getElem?_eq_getElem (by omega))
  simp [this]
theorem frS_end {l : List Slot} (hb : ∀ t, t < l.length → ∀ x, l[t]? = some x → x.1 = true) : frS l = l.length := by
  refine List.findIdx_eq_length.2 fun x hx => ?_
  obtain ⟨t, ht, rfl⟩ := List.getElem_of_mem hx
  have := hb t ht _ (List.getElem?_eq_getElem ht)
  simp [this]
theorem PS.set {w W : World} {g q k : Nat} {l : List Slot} {x : Slot} (h : PS w g q l) (hk : k < l.length) (hx : x.2.length = 256 ∧ Bytes x.2) (ha : Arr W q 66 (rows slotC (l.set k x)).toArray) (hb : Arr W g 59 #[.slice (some ⟨q, 0, none⟩) l.length l.length]) : PS W g q (l.set k x) :=
  ⟨by simpa using hb, ha, h.ne, by simpa using h.len, h.ok.set k hx⟩
theorem slot_fit {l : List Slot} (h : OkS l) {j n : Nat} (hn : l.length = n) (hj : j < n) : j * 257 + 257 ≤ (rows slotC l).length := by
  rw [rows_len (slotC_wid h)]
  have : (j + 1) * 257 ≤ l.length * 257 := Nat.mul_le_mul_right _ (by omega)
  omega
def bdS (T : TypeId) (ps : Array (Nat × Value)) : Sem Value := Instr.build T ps
theorem slot_bd (ps : Array (Nat × Value)) : Instr.build 66 ps = bdS 66 ps := rfl
theorem slot_built (w : World) : (bdS 66 #[(0, .bool true)]).run Try.prog w = .ok (.agg (slotC (true, z256)).toArray) w := run_build w _ _ _ (by kernel_rfl)
theorem slot_info : (Try.prog.info? 66).map (·.size) = some 257 := by kernel_rfl
attribute [local go_sem ↓] slot_bd
set_option maxHeartbeats 2000000 in
theorem alloc_at {w : World} {g q : Nat} {l : List Slot} (h : PS w g q l) :
    Calls Try.prog 11 #[.pointer (some ⟨g, 0, none⟩)] w fun e w' => e = .returned (.tuple #[.int .i64 (alI l), .int .i64 (alE l)]) ∧ Hid (PS w' g q (alL l) ∧ Chg (· = q) w w') := by
  have H := keep h
  have c1 := h.box.cell 0
  simp only [List.getElem?_toArray, List.getElem?_cons_zero] at c1
  obtain ⟨h1, h2⟩ := h.len
  obtain ⟨n, hn⟩ : ∃ n, l.length = n := ⟨_, rfl⟩
  have HN := keep hn
  rw [hn] at c1 h1 h2
  clear h hn
  go_enter Try.func11, Try.ntmps11
  go_wp2_with fail
  go_loopg [4, 10] n (fun g' s4 s10 wr => ∃ j : Nat, j + g' = n ∧ s10 = .int .i64 j ∧ Hid (wr = w) ∧ Hid (∀ t, t < j → ∀ x, l[t]? = some x → x.1 = true))
  case atStart => exact ⟨0, by omega, rfl, keep rfl, keep (fun t h => by omega)⟩
  case round =>
    obtain ⟨j, hj, rfl, hW, hno⟩ := hrel
    obtain rfl : w = wr := hW.out.symm
    have hM := H.out
    by_cases hlt : j < n
    · have hjz : (j : Int) < (n : Int) := by omega
      have hx : l[j]? = some (l[j]'(by rw [HN.out]; exact hlt)) := List.getElem?_eq_getElem _
      generalize l[j]'(by rw [HN.out]; exact hlt) = x at hx
      have c2 := cell_used hM hx
      obtain ⟨u, b⟩ := x
      cases u
      · have HX := keep hx
        have hb := slot_built w
        have hl := slotC_len (x := (true, z256)) z256_ok.1
        have ho := slotC_one (true, z256)
        have hs := rows_splice (slotC_wid hM.ok) (by rw [HN.out]; exact hlt) hl
        have hft := slot_fit hM.ok HN.out hlt
        generalize hz : slotC (true, z256) = zc at *
        have Hl := keep hl
        have Hs := keep hs
        have HM := keep hM
        clear hx hM hz hl hs
        go_wp2_with (first
          | (refine wpList_store_chg (ds := zc) slot_info rfl (.tmp 28) (.tmp 27) rfl q (j * 257) rfl rfl Hl.out ho HM.out.row hft Hs.out ?_; intro W hA hK)
          | fail)
        go_ret2
        have hf : frS l = j := frS_at (fun t ht => hno.out t ht) HX.out
        refine ⟨by simp [alI, alE, hf, HN.out, hlt], keep ⟨?_, hK⟩⟩
        rw [alL, hf]
        exact HM.out.set (by rw [HN.out]; exact hlt) z256_ok hA (HM.out.box.chg hK HM.out.ne)
      · have HX := keep hx
        clear hx hM
        go_wp2_with fail
        go_roundg (gk - 1)
        case measure => omega
        case rel => exact ⟨j + 1, by omega, rfl, keep rfl, keep (fun t ht y hy => by
          rcases Nat.lt_or_ge t j with h | h
          · exact hno.out t h y hy
          · obtain rfl : t = j := by omega
            rw [HX.out] at hy; injection hy with hy; rw [← hy])⟩
    · have hjn : j = n := by omega
      have hjz : ¬ (j : Int) < (n : Int) := by omega
      have Hj := keep hjn
      clear hjn hlt hM
      go_wp2_with fail
      go_ret2
      have hf : frS l = l.length := frS_end fun t ht => hno.out t (by rw [Hj.out, ← HN.out]; exact ht)
      refine ⟨by simp [alI, alE, hf], keep ⟨?_, .refl _ _⟩⟩
      rw [alL, hf, List.set_eq_of_length_le (Nat.le_refl _)]
      exact H.out
end Go.Proofs.Ytliglcaakhfahaa
