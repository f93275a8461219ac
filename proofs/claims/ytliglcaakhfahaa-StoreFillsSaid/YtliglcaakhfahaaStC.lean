/- Package store: Free, Read, Write. -/
import Derived.Test.YtliglcaakhfahaaStB
namespace Go.Proofs.Ytliglcaakhfahaa
set_option linter.unusedVariables false
set_option linter.unusedSimpArgs false
set_option maxRecDepth 100000
open Go.RowKit
def frE (l : List Slot) (id : Int) : Int := if (atS l id).isSome then 0 else 6
def frL (l : List Slot) (id : Int) : List Slot := match atS l id with | some b => l.set id.toNat (false, b) | none => l
theorem bool_info : (Try.prog.info? 4).map (·.size) = some 1 := by kernel_rfl
theorem PS.at {w : World} {g q : Nat} {l : List Slot} (h : PS w g q l) {k : Nat} {x : Slot} (hx : l[k]? = some x) : k < l.length ∧ x.2.length = 256 ∧ Bytes x.2 := ⟨(List.getElem?_eq_some_iff.1 hx).1, h.ok x (List.mem_of_getElem? hx)⟩
theorem atS_nat {l : List Slot} {k : Nat} {b : List Int} (h : l[k]? = some (true, b)) : atS l (k : Int) = some b := by
  simp [atS, h]
set_option maxHeartbeats 1000000 in
theorem free_at {w : World} {g q : Nat} {l : List Slot} {id : Int} (h : PS w g q l) (hid : -9223372036854775808 ≤ id ∧ id ≤ 9223372036854775807) :
    Calls Try.prog 13 #[.pointer (some ⟨g, 0, none⟩), .int .i64 id] w fun e w' => e = .returned (.int .i64 (frE l id)) ∧ Hid (PS w' g q (frL l id) ∧ Chg (· = q) w w') := by
  cases hb : atS l id with
  | none =>
    have c := find_no h hid hb
    have H := keep h
    have HB := keep hb
    clear h hb
    go_enter Try.func13, Try.ntmps13
    go_wp2_with fail
    refine c.mono ?_
    rintro e w' ⟨rfl, rfl⟩
    go_wp2_with fail
    go_ret
    exact ⟨by rw [frE, HB.out]; rfl, keep ⟨by rw [frL, HB.out]; exact H.out, .refl _ _⟩⟩
  | some b =>
    obtain ⟨k, rfl, hl, hk⟩ := atS_some hb
    have c := find_yes h hk
    have hf := slot_fit h.ok rfl hl
    have hp := rows_patch (t := 0) (ds := [.bool false]) (y := (false, b)) (slotC_wid h.ok) hk (by decide) (by simp [splice, slotC])
    have hx := (h.at hk).2
    have HP := keep hp
    have H := keep h
    have HB := keep hb
    clear h hb hk hp
    go_enter Try.func13, Try.ntmps13
    go_wp2_with fail
    refine c.mono ?_
    rintro e w' ⟨rfl, rfl⟩
    go_wp2_with (first
      | (refine wpList_store_chg (ds := [.bool false]) bool_info rfl (.tmp 13) (.const (.bool false)) rfl q (k * 257) rfl rfl rfl (one_of _ rfl) H.out.row (by omega) HP.out ?_; intro W hA hK)
      | fail)
    go_ret
    exact ⟨by rw [frE, HB.out]; rfl, keep ⟨by rw [frL, HB.out]; exact H.out.set hl hx hA (H.out.box.chg hK H.out.ne), hK⟩⟩
/-- What Read comes to. -/
def rdE (l : List Slot) (id : Int) : Int := if (atS l id).isSome then 0 else 6
def rdB (l : List Slot) (id : Int) : List Int := (atS l id).getD []
theorem u8_info : (Try.prog.info? 5).map (·.size) = some 1 := by kernel_rfl
theorem u8_elem : Elem Try.prog 5 1 1 := Elem.of (z := .int .u8 0) (by kernel_rfl) (by kernel_rfl) (by kernel_rfl) rfl
theorem u8_make (n : Nat) (hn : n ≤ 100000) (w : World) : (Instr.makeSlice 40 (.int .i64 (n : Int)) (.int .i64 (n : Int))).run Try.prog w = .ok (.slice (some ⟨w.heap.size, 0, none⟩) n n) (w.alloc (.cells (u8s (List.replicate n 0)).toArray 5)) := by
  rw [u8s, List.map_replicate]
  exact make_one (b := 1) Try.underlying40 (by kernel_rfl) (by kernel_rfl) (by kernel_rfl) rfl n (by omega) w
set_option maxHeartbeats 1000000 in
theorem read_at {w : World} {g q : Nat} {l : List Slot} {id : Int} (h : PS w g q l) (hid : -9223372036854775808 ≤ id ∧ id ≤ 9223372036854775807) :
    Calls Try.prog 18 #[.pointer (some ⟨g, 0, none⟩), .int .i64 id] w fun e w' => ∃ A n c, e = .returned (.tuple #[.slice A n c, .int .i64 (rdE l id)]) ∧ Hid ((rdB l id).length = n ∧ HasP w' (fun b => w.heap.size ≤ b) A (u8s (rdB l id)) ∧ Fr w w') := by
  cases hb : atS l id with
  | none =>
    have c := find_no h hid hb
    have H := keep h
    have HB := keep hb
    clear h hb
    go_enter Try.func18, Try.ntmps18
    go_wp2_with fail
    refine c.mono ?_
    rintro e w' ⟨rfl, rfl⟩
    go_wp2_with fail
    go_ret2
    exact ⟨none, 0, 0, by rw [rdE, HB.out]; rfl, keep ⟨by rw [rdB, HB.out]; rfl, by rw [rdB, HB.out]; exact HasP.nil, fr_refl _⟩⟩
  | some b =>
    obtain ⟨k, rfl, hl, hk⟩ := atS_some hb
    have c := find_yes h hk
    have hm := u8_make 256 (by decide) w
    rw [show ((256 : Nat) : Int) = 256 from rfl] at hm
    obtain ⟨-, hx1, hx2⟩ := h.at hk
    replace hx1 : b.length = 256 := hx1
    have hp : ∀ j u, (u8s b)[j]? = some u → (rows slotC l)[k * 257 + 1 + j]? = some u := fun j u hu => by
      have hj : j < 256 := by have := (List.getElem?_eq_some_iff.1 hu).1; rw [u8s_len] at this; omega
      rw [Nat.add_assoc, Nat.add_comm 1 j, rows_get (slotC_wid h.ok) hk (j + 1) (by omega)]
      exact hu
    have hr := arr_part (h.row.alloc (.cells (u8s (List.replicate 256 0)).toArray 5)) hp
    have hcs := u8s_len (List.replicate 256 (0 : Int))
    rw [List.length_replicate] at hcs
    have hbl := u8s_len b
    rw [hx1] at hbl
    have aN := Arr.new w (u8s (List.replicate 256 0)).toArray 5
    generalize u8s (List.replicate 256 0) = zs at *
    have fN := fr_new (fr_refl w) (.cells zs.toArray 5)
    have H := keep h
    have HB := keep hb
    have HX := keep hx1
    have Hl := keep hbl
    have Hz := keep hcs
    clear h hb hk hp hx1 hbl hcs
    go_enter Try.func18, Try.ntmps18
    go_wp2_with fail
    refine c.mono ?_
    rintro e w' ⟨rfl, rfl⟩
    go_wp2_with (first
      | (refine wpList_copy_chg rfl (.tmp 14) (.tmp 18) _ _ rfl Try.underlying40 u8_info (by decide) w.heap.size 0 256 256 256 256 (q + 1) (some ⟨q, k * 257 + 1, none⟩) rfl rfl aN (by rw [Hl.out]; rfl) hr (by rw [Hl.out, Hz.out]; decide) (u8s_one b) ?_; intro W hA hK)
      | fail)
    go_ret2
    rw [splice_all _ _ (by rw [Hl.out, Hz.out]; decide)] at hA
    refine ⟨_, 256, 256, by rw [rdE, HB.out]; rfl, keep ⟨by rw [rdB, HB.out]; exact HX.out, ?_, ?_⟩⟩
    · rw [rdB, HB.out]
      exact fun j u hu => ⟨w.heap.size, 0, rfl, Nat.le_refl _, by rw [hA.cell]; simpa using hu⟩
    · exact fN.trans ((hK.below (B := w.heap.size) fN.size (fun i hi => Nat.le_of_eq hi.symm)))
end Go.Proofs.Ytliglcaakhfahaa
