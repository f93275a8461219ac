/- The document's store, two: Used, Left; the laws' own bytes, and what they look at. -/
import Derived.Test.YtliglcaakhfahaaStF
import Derived.Test.YtliglcaakhfahaaPlace
import Derived.Test.YtliglcaakhfahaaSame
import Derived.Test.YtliglcaakhfahaaConv
namespace Go.Proofs.Ytliglcaakhfahaa
set_option linter.unusedVariables false
set_option linter.unusedSimpArgs false
set_option maxRecDepth 100000
open Go.RowKit
set_option maxHeartbeats 2000000 in
theorem rused_at {w : World} {ok : Nat → Prop} {r gi gb : Nat} {l : List Slot} (h : RS w ok r gi gb l) :
    Calls Try.prog 23 #[.pointer (some ⟨r, 0, none⟩)] w fun e w' => ∃ A n c, e = .returned (.slice A n c) ∧ Hid ((usL l).length = n ∧ Own w' w.heap.size 3 1 A n c (ints (usL l)) ∧ Fr w w') := by
  have H := keep h
  obtain ⟨c1, -⟩ := h.cells
  obtain ⟨h1, h2⟩ := h.len
  obtain ⟨n, hn⟩ : ∃ n, l.length = n := ⟨_, rfl⟩
  have HN := keep hn
  have gl := h.box.lt
  rw [hn] at c1 h1 h2
  have cF : ∀ W, Fr w W → W.cell? ⟨r, 0, none⟩ = some (.slice (some ⟨gi, 0, none⟩) n n) := fun W f => (f.cell gl).trans c1
  have ww := fr_refl w
  clear h hn c1 gl
  go_enter Try.func23, Try.ntmps23
  go_wp2_with fail
  go_loopg [3, 4] n (fun g' s3 s4 wr => ∃ (j m : Nat) (A : Option Addr) (c : Nat), j + g' = n ∧ s4 = .int .i64 j ∧ s3 = .slice A m c ∧ Hid (Fr w wr) ∧ Hid ((usJ l j).length = m ∧ Own wr w.heap.size 3 1 A m c (ints (usJ l j))))
  case atStart => exact ⟨0, 0, none, 0, by omega, rfl, rfl, keep ww, keep ⟨rfl, Own.nil _ _ _ _⟩⟩
  case round =>
    obtain ⟨j, m, A, c, hj, rfl, rfl, hW, hO⟩ := hrel
    have hF := hW.out
    have c1 := cF wr hF
    have hM := H.out.fr hF
    by_cases hlt : j < n
    · have hjz : (j : Int) < (n : Int) := by omega
      have hx : l[j]? = some (l[j]'(by rw [HN.out]; exact hlt)) := List.getElem?_eq_getElem _
      generalize l[j]'(by rw [HN.out]; exact hlt) = x at hx
      have c2 := hM.used hx
      obtain ⟨u, b⟩ := x
      have hml : m ≤ j := by have := usJ_len l j; rw [hO.out.1] at this; exact this
      have HX := keep hx
      clear hx hM
      cases u
      · clear hF
        go_wp2_with fail
        go_roundg (gk - 1)
        case measure => omega
        case rel => exact ⟨j + 1, m, A, c, by omega, rfl, rfl, hW, keep (by rw [usJ, HX.out, if_neg (by simp)]; exact hO.out)⟩
      · go_wp2_with (first
          | (refine wpList_append_vals (w0 := w) int_elem Try.underlying50 (by decide) rfl (.tmp 21) (.tmp 23) rfl (fr_new hF _) A m c (ints (usJ l j)) rfl (hO.out.2.alloc _) (wr.heap.size + 1) (some ⟨wr.heap.size, 0, none⟩) 1 1 (ints [(j : Int)]) rfl rfl (has_one wr _ _) (ints_one _) (by unfold maxLen; omega) (by omega) ?_; intro A2 c2' w2 o2 f2)
          | fail)
        go_roundg (gk - 1)
        case measure => omega
        case rel => exact ⟨j + 1, m + 1, A2, c2', by omega, rfl, rfl, keep f2, keep (by rw [usJ, HX.out, if_pos (by simp), ints_app, List.length_append, hO.out.1]; exact ⟨rfl, o2⟩)⟩
    · have hjn : j = n := by omega
      have hjz : ¬ (j : Int) < (n : Int) := by omega
      have Hj := keep hjn
      clear hjn hlt hM hF
      go_wp2_with fail
      go_ret
      have e : usJ l j = usL l := by rw [usL, HN.out, Hj.out]
      rw [e] at hO
      exact ⟨A, m, c, rfl, keep ⟨hO.out.1, hO.out.2, hW.out⟩⟩
set_option maxHeartbeats 2000000 in
theorem rleft_at {w : World} {ok : Nat → Prop} {r gi gb : Nat} {l : List Slot} (h : RS w ok r gi gb l) :
    Calls Try.prog 25 #[.pointer (some ⟨r, 0, none⟩)] w fun e w' => e = .returned (.int .i64 (lfN l)) ∧ Fr w w' := by
  obtain ⟨c1, -⟩ := h.cells
  obtain ⟨h1, h2⟩ := h.len
  have gl := h.box.lt
  have hul : (usL l).length ≤ l.length := usJ_len l _
  obtain ⟨n, hn⟩ : ∃ n, l.length = n := ⟨_, rfl⟩
  obtain ⟨m, hm⟩ : ∃ m, (usL l).length = m := ⟨_, rfl⟩
  have cU : ∀ W, Fr w W → Calls Try.prog 23 #[.pointer (some ⟨r, 0, none⟩)] W fun e w' => ∃ A c, e = .returned (.slice A m c) ∧ Fr w w' := fun W f => (rused_at (h.fr f)).mono fun e w' ⟨A, n', c, he, hh⟩ => ⟨A, c, by rw [he, ← hh.out.1, hm], fr_step f hh.out.2.2⟩
  have hlf : lfN l = (n : Int) - m := by rw [lfN, hn, hm]
  rw [hn] at c1 h1 h2 hul
  rw [hm] at hul
  rw [hlf]
  have cF : ∀ W, Fr w W → W.cell? ⟨r, 0, none⟩ = some (.slice (some ⟨gi, 0, none⟩) n n) := fun W f => (f.cell gl).trans c1
  have ww := fr_refl w
  have wd := fr_drew ww
  clear h hn hm hlf c1 gl
  go_enter Try.func25, Try.ntmps25
  go_wp2_with fail
  go_region_held3 (fun W => Fr w W) (first | exact wd | assumption) (first | (go_at_call 23; (with_reducible refine (cU _ (by assumption)).mono ?_); rintro e w2 ⟨A, c, rfl, h2⟩))
  all_goals
    go_wp2_with fail
    go_ret
    exact ⟨ret_int (by rw [IntKind.wrap_i64]; omega), by assumption⟩
/-- The laws' bytes: so many, by a byte. -/
def byV (x : Int) (t : Nat) : Int := (x + (t : Int) % 7) % 256
def byL (n : Nat) (x : Int) : List Int := (List.range n).map (byV x)
theorem byL_len (n : Nat) (x : Int) : (byL n x).length = n := by simp [byL]
theorem byL_ok (n : Nat) (x : Int) : Bytes (byL n x) := fun z hz => by
  obtain ⟨t, _, rfl⟩ := List.mem_map.1 hz
  unfold byV; omega
set_option maxHeartbeats 2000000 in
theorem bytes_at (w : World) (n : Nat) (hn : n ≤ 10000) (x : Int) (hx : 0 ≤ x ∧ x ≤ 255) :
    Calls Try.prog 15 #[.int .i64 (n : Int), .int .u8 x] w fun e w' => ∃ A, e = .returned (.slice A n n) ∧ Hid (HasP w' (fun i => w.heap.size ≤ i) A (u8s (byL n x)) ∧ Fr w w') := by
  have hm := u8_make n (by omega) w
  have ww := fr_refl w
  have a0 := Arr.new w (u8s (List.replicate n 0)).toArray 5
  have f0 := fr_new ww (.cells (u8s (List.replicate n 0)).toArray 5)
  have Hz : Hid ((List.replicate n (0 : Int)).length = n) := keep (by simp)
  generalize List.replicate n (0 : Int) = zs at *
  have A0 := keep a0
  have F0 := keep f0
  clear a0 f0
  go_enter Try.func15, Try.ntmps15
  go_wp2_with fail
  go_loopg [6] n (fun g' s6 wr => ∃ (j : Nat) (ys : List Int), j + g' = n ∧ s6 = .int .i64 j ∧ Hid (Fr w wr) ∧ Hid (ys.length = n) ∧ Hid (Arr wr w.heap.size 5 (u8s ys).toArray) ∧ Hid (∀ t, t < j → ys[t]? = some (byV x t)))
  case atStart => exact ⟨0, zs, by omega, rfl, F0, Hz, A0, keep (fun t h => by omega)⟩
  case round =>
    obtain ⟨j, ys, hj, rfl, hW, hL, hA, hV⟩ := hrel
    by_cases hlt : j < n
    · have hjz : (j : Int) < (n : Int) := by omega
      have hA1 := hA.out
      obtain ⟨y, hy⟩ : ∃ y, ys[j]? = some y := ⟨_, List.getElem?_eq_getElem (by rw [hL.out]; exact hlt)⟩
      have z1 : wr.cell? ⟨w.heap.size, j, none⟩ = some (.int .u8 y) := by rw [hA1.cell]; simpa using u8s_get hy
      have z2 := hA1.free j
      clear hA1 hy
      go_wp2_with fail
      go_roundg (gk - 1)
      case measure => omega
      case rel =>
        refine ⟨j + 1, ys.set j (byV x j), by omega, rfl, keep (hW.out.setCell (Nat.le_refl _) _), keep (by rw [List.length_set]; exact hL.out), keep ?_, keep fun t ht => ?_⟩
        · have := hA.out.set j (.int .u8 (byV x j))
          rw [show (u8s (ys.set j (byV x j))).toArray = (u8s ys).toArray.setIfInBounds j (.int .u8 (byV x j)) from by simp [u8s, List.map_set]]
          exact this
        · by_cases e : j = t
          · subst e
            rw [List.getElem?_set_self (by rw [hL.out]; exact hlt)]
          · rw [List.getElem?_set_ne e]
            exact hV.out t (by omega)
    · have hjn : j = n := by omega
      have hjz : ¬ (j : Int) < (n : Int) := by omega
      have Hj := keep hjn
      clear hjn hlt
      go_wp2_with fail
      go_ret
      have e : ys = byL n x := List.ext_getElem? fun t => by
        rcases Nat.lt_or_ge t n with h | h
        · rw [hV.out t (by rw [Hj.out]; exact h)]; simp [byL, h]
        · rw [List.getElem?_eq_none (by rw [hL.out]; exact h), List.getElem?_eq_none (by rw [byL_len]; exact h)]
      exact ⟨_, rfl, keep ⟨fun t u hu => ⟨w.heap.size, 0, rfl, Nat.le_refl _, by rw [hA.out.cell, e]; simpa using hu⟩, hW.out⟩⟩
end Go.Proofs.Ytliglcaakhfahaa
