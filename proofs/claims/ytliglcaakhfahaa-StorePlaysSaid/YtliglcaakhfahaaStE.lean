/- The document's store. -/
import Derived.Test.YtliglcaakhfahaaStD
namespace Go.Proofs.Ytliglcaakhfahaa
set_option linter.unusedVariables false
set_option linter.unusedSimpArgs false
set_option maxRecDepth 100000
open Go.RowKit
/-- A store of the document's: its box r, the block gi of what is used, the block gb of the bytes' slices; all of it in blocks of which ok holds. -/
structure RS (w : World) (ok : Nat → Prop) (r gi gb : Nat) (l : List Slot) : Prop where
  box : Arr w r 63 #[.slice (some ⟨gi, 0, none⟩) l.length l.length, .slice (some ⟨gb, 0, none⟩) l.length l.length]
  is : Arr w gi 4 (l.map fun x => Value.bool x.1).toArray
  bs : ∃ sl : List Value, Arr w gb 40 sl.toArray ∧ sl.length = l.length ∧ ∀ (k : Nat) (b : List Int), l[k]? = some (true, b) → ∃ (A : Option Addr) (c : Nat), sl[k]? = some (Value.slice A 256 c) ∧ HasP w (fun i => ok i ∧ i ≠ gi ∧ i ≠ gb) A (u8s b)
  ne : r ≠ gi ∧ r ≠ gb ∧ gi ≠ gb
  oks : ok r ∧ ok gi ∧ ok gb
  len : 1 ≤ l.length ∧ l.length ≤ 256
  good : OkS l
section
variable {w W : World} {ok ok' X : Nat → Prop} {r gi gb : Nat} {l : List Slot}
theorem RS.chg (h : RS w ok r gi gb l) (k : Chg X w W) (hx : ∀ i, ok i → ¬ X i) : RS W ok r gi gb l := by
  obtain ⟨sl, h1, h2, h3⟩ := h.bs
  exact { h with box := h.box.chg k (hx _ h.oks.1), is := h.is.chg k (hx _ h.oks.2.1), bs := ⟨sl, h1.chg k (hx _ h.oks.2.2), h2, fun j b hj => by
    obtain ⟨A, c, e, hh⟩ := h3 j b hj
    exact ⟨A, c, e, hh.chg k fun i hi => hx _ hi.1⟩⟩ }
theorem RS.fr (h : RS w ok r gi gb l) (k : Fr w W) : RS W ok r gi gb l := h.chg (.of_fr (fun _ => False) k) fun _ _ => id
theorem RS.weak (h : RS w ok r gi gb l) (hk : ∀ i, i < w.heap.size → ok i → ok' i) : RS w ok' r gi gb l := by
  obtain ⟨sl, h1, h2, h3⟩ := h.bs
  exact { h with oks := ⟨hk _ h.box.lt h.oks.1, hk _ h.is.lt h.oks.2.1, hk _ h1.lt h.oks.2.2⟩, bs := ⟨sl, h1, h2, fun j b hj => by
    obtain ⟨A, c, e, hh⟩ := h3 j b hj
    exact ⟨A, c, e, hh.weak fun i hi ho => ⟨hk i hi ho.1, ho.2⟩⟩⟩ }
theorem RS.lt (h : RS w ok r gi gb l) : r < w.heap.size ∧ gi < w.heap.size ∧ gb < w.heap.size := by
  obtain ⟨sl, h1, _⟩ := h.bs
  exact ⟨h.box.lt, h.is.lt, h1.lt⟩
theorem RS.cells (h : RS w ok r gi gb l) : w.cell? ⟨r, 0, none⟩ = some (.slice (some ⟨gi, 0, none⟩) l.length l.length) ∧ w.cell? ⟨r, 1, none⟩ = some (.slice (some ⟨gb, 0, none⟩) l.length l.length) := by
  have c1 := h.box.cell 0
  have c2 := h.box.cell 1
  exact ⟨by simpa using c1, by simpa using c2⟩
theorem RS.used (h : RS w ok r gi gb l) {k : Nat} {x : Slot} (hx : l[k]? = some x) : w.cell? ⟨gi, k, none⟩ = some (.bool x.1) := by
  rw [h.is.cell]
  simp [hx]
end
theorem bools_make (n : Nat) (hn : n ≤ 256) (w : World) : (Instr.makeSlice 60 (.int .i64 (n : Int)) (.int .i64 (n : Int))).run Try.prog w = .ok (.slice (some ⟨w.heap.size, 0, none⟩) n n) (w.alloc (.cells (List.replicate n (.bool false)).toArray 4)) :=
  make_one (b := 1) Try.underlying60 (by kernel_rfl) (by kernel_rfl) (by kernel_rfl) rfl n (by omega) w
theorem rows_make (n : Nat) (hn : n ≤ 256) (w : World) : (Instr.makeSlice 61 (.int .i64 (n : Int)) (.int .i64 (n : Int))).run Try.prog w = .ok (.slice (some ⟨w.heap.size, 0, none⟩) n n) (w.alloc (.cells (List.replicate n (.slice none 0 0)).toArray 40)) :=
  make_one (b := 24) Try.underlying61 (by kernel_rfl) (by kernel_rfl) (by kernel_rfl) rfl n (by omega) w
set_option maxHeartbeats 1000000 in
theorem rnew_no (w : World) (n : Int) (hn : n < 1 ∨ 256 < n) :
    Calls Try.prog 8 #[.int .i64 n] w fun e w' => e = .returned (.tuple #[.pointer none, .int .i64 1]) ∧ w = w' := by
  rcases hn with h | h
  · go_enter Try.func8, Try.ntmps8
    go_wp2
    go_ret2
    exact ⟨rfl, rfl⟩
  · have h1 : ¬ n < 1 := by omega
    go_enter Try.func8, Try.ntmps8
    go_wp2
    go_ret2
    exact ⟨rfl, rfl⟩
theorem rs_new {w W : World} {n r gi gb : Nat} (h1 : 1 ≤ n) (h2 : n ≤ 256) (a : Arr W r 63 #[.slice (some ⟨gi, 0, none⟩) n n, .slice (some ⟨gb, 0, none⟩) n n]) (b : Arr W gi 4 (List.replicate n (Value.bool false)).toArray) (c : Arr W gb 40 (List.replicate n (Value.slice none 0 0)).toArray)
    (ne : r ≠ gi ∧ r ≠ gb ∧ gi ≠ gb) (hk : w.heap.size ≤ r ∧ w.heap.size ≤ gi ∧ w.heap.size ≤ gb) : RS W (fun i => w.heap.size ≤ i) r gi gb (newS n) := by
  have hl : (newS n).length = n := by simp [newS]
  refine ⟨by rw [hl]; exact a, by simpa [newS] using b, ⟨_, c, by simp [newS], fun k b hk => ?_⟩, ne, hk, by rw [hl]; exact ⟨h1, h2⟩, newS_ok n⟩
  have := List.mem_of_getElem? hk
  simp [newS] at this
set_option maxHeartbeats 2000000 in
theorem rnew_yes (w : World) (n : Nat) (h1 : 1 ≤ n) (h2 : n ≤ 256) :
    Calls Try.prog 8 #[.int .i64 (n : Int)] w fun e w' => ∃ r gi gb, e = .returned (.tuple #[.pointer (some ⟨r, 0, none⟩), .int .i64 0]) ∧ Hid (RS w' (fun i => w.heap.size ≤ i) r gi gb (newS n) ∧ Fr w w') := by
  have m1 := bools_make n h2
  have m2 := rows_make n h2
  have k1 := fun W r gi gb => @rs_new w W n r gi gb h1 h2
  generalize List.replicate n (Value.bool false) = zs at *
  generalize List.replicate n (Value.slice none 0 0) = ys at *
  go_enter Try.func8, Try.ntmps8
  go_wp2
  go_region
  all_goals
    go_wp2_with fail
    go_ret2
  · obtain ⟨b1, b2, b3, f⟩ := alloc3 w zs.toArray ys.toArray #[.slice (some ⟨w.heap.size, 0, none⟩) n n, .slice (some ⟨w.heap.size + 1, 0, none⟩) n n] 4 40 63
    exact ⟨_, _, _, rfl, keep ⟨k1 _ _ _ _ b3 b1 b2 (by omega) (by omega), fr_drew f⟩⟩
  · obtain ⟨b1, b2, b3, f⟩ := alloc3 w ys.toArray zs.toArray #[.slice (some ⟨w.heap.size + 1, 0, none⟩) n n, .slice (some ⟨w.heap.size, 0, none⟩) n n] 40 4 63
    exact ⟨_, _, _, rfl, keep ⟨k1 _ _ _ _ b3 b2 b1 (by omega) (by omega), fr_drew f⟩⟩
set_option maxHeartbeats 1000000 in
theorem there_at {w : World} {ok : Nat → Prop} {r gi gb : Nat} {l : List Slot} {id : Int} (h : RS w ok r gi gb l) (hid : -9223372036854775808 ≤ id ∧ id ≤ 9223372036854775807) :
    Calls Try.prog 28 #[.pointer (some ⟨r, 0, none⟩), .int .i64 id] w fun e w' => e = .returned (.bool (atS l id).isSome) ∧ w = w' := by
  obtain ⟨c1, -⟩ := h.cells
  obtain ⟨h1, h2⟩ := h.len
  cases hb : atS l id with
  | some b =>
    obtain ⟨k, rfl, hl, hk⟩ := atS_some hb
    have c2 := h.used hk
    generalize l.length = n at *
    clear hb hk h
    go_enter Try.func28, Try.ntmps28
    go_wp2
    go_ret
    exact ⟨rfl, rfl⟩
  | none =>
    rcases atS_none hb with hn | hn | ⟨k, b, rfl, hl, hk⟩
    · have hnn : ¬ 0 ≤ id := by omega
      generalize l.length = n at *
      clear hb h
      go_enter Try.func28, Try.ntmps28
      go_wp2
      go_ret
      exact ⟨rfl, rfl⟩
    · have hnn : 0 ≤ id := by omega
      have hnl : ¬ id < (l.length : Int) := by omega
      generalize l.length = n at *
      clear hb h
      go_enter Try.func28, Try.ntmps28
      go_wp2
      go_ret
      exact ⟨rfl, rfl⟩
    · have c2 := h.used hk
      generalize l.length = n at *
      clear hb hk h
      go_enter Try.func28, Try.ntmps28
      go_wp2
      go_ret
      exact ⟨rfl, rfl⟩
end Go.Proofs.Ytliglcaakhfahaa
