/- Package store: Write, Used, Left, Copy. -/
import Derived.Test.YtliglcaakhfahaaStC
namespace Go.Proofs.Ytliglcaakhfahaa
set_option linter.unusedVariables false
set_option linter.unusedSimpArgs false
set_option maxRecDepth 100000
open Go.RowKit
/-- What Write comes to. -/
def wrE (l : List Slot) (id : Int) (n : Nat) : Int := if (atS l id).isSome then (if n = 256 then 0 else 1) else 6
def wrL (l : List Slot) (id : Int) (bs : List Int) : List Slot := if (atS l id).isSome ∧ bs.length = 256 then l.set id.toNat (true, bs) else l
set_option maxHeartbeats 1000000 in
theorem write_at {w : World} {g q n c B : Nat} {l : List Slot} {id : Int} {A : Option Addr} {bs : List Int} (h : PS w g q l) (hid : -9223372036854775808 ≤ id ∧ id ≤ 9223372036854775807) (hA : Has w B A (u8s bs)) (hn : bs.length = n) (hm : n ≤ 1000000) (hby : Bytes bs) :
    Calls Try.prog 16 #[.pointer (some ⟨g, 0, none⟩), .int .i64 id, .slice A n c] w fun e w' => e = .returned (.int .i64 (wrE l id n)) ∧ Hid (PS w' g q (wrL l id bs) ∧ Chg (· = q) w w') := by
  cases hb : atS l id with
  | none =>
    have cc := find_no h hid hb
    have H := keep h
    have HB := keep hb
    clear h hb hn
    go_enter Try.func16, Try.ntmps16
    go_wp2_with fail
    refine cc.mono ?_
    rintro e w' ⟨rfl, rfl⟩
    go_wp2_with fail
    go_ret
    exact ⟨by rw [wrE, HB.out]; rfl, keep ⟨by rw [wrL, HB.out, if_neg (fun h => by cases h.1)]; exact H.out, .refl _ _⟩⟩
  | some b =>
    obtain ⟨k, rfl, hl, hk⟩ := atS_some hb
    have cc := find_yes h hk
    by_cases h256 : n = 256
    · subst h256
      have hf := slot_fit h.ok rfl hl
      have hlb := u8s_len bs
      rw [hn] at hlb
      have hx1 : b.length = 256 := (h.at hk).2.1
      have hp := rows_patch (t := 1) (ds := u8s bs) (y := (true, bs)) (slotC_wid h.ok) hk (by rw [hlb]; decide) (by simp [splice, slotC, u8s, hn, hx1])
      have hone := u8s_one bs
      have HA := keep hA
      have HP := keep hp
      have H := keep h
      have HB := keep hb
      have HL := keep hlb
      have HN := keep hn
      clear h hb hk hp hlb hn hx1 hA
      go_enter Try.func16, Try.ntmps16
      go_wp2_with fail
      refine cc.mono ?_
      rintro e w' ⟨rfl, rfl⟩
      go_wp2_with (first
        | (refine wpList_copy_chg rfl (.tmp 19) (.tmp 20) _ _ rfl Try.underlying40 u8_info (by decide) q (k * 257 + 1) 256 256 256 c B A rfl rfl H.out.row (by rw [HL.out]; rfl) HA.out (by rw [HL.out]; omega) hone ?_; intro W hA hK)
        | fail)
      go_ret
      rw [HP.out] at hA
      exact ⟨by rw [wrE, HB.out]; rfl, keep ⟨by rw [wrL, HB.out, if_pos ⟨rfl, HN.out⟩]; exact H.out.set hl ⟨HN.out, hby⟩ hA (H.out.box.chg hK H.out.ne), hK⟩⟩
    · have hne : ((n : Int) != 256) = true := by rw [bne_iff_ne]; omega
      have H := keep h
      have HB := keep hb
      have HN := keep hn
      have H2 := keep h256
      clear h hb hk hn h256
      go_enter Try.func16, Try.ntmps16
      go_wp2_with fail
      refine cc.mono ?_
      rintro e w' ⟨rfl, rfl⟩
      go_wp2_with fail
      go_ret
      exact ⟨ret_int (by simp [wrE, HB.out, H2.out]), keep ⟨by rw [wrL, HB.out, if_neg (fun h => H2.out (HN.out ▸ h.2))]; exact H.out, .refl _ _⟩⟩
/-- The numbers of the used ones among the first j. -/
def usJ (l : List Slot) : Nat → List Int
  | 0 => []
  | j + 1 => if (l[j]?).map (·.1) = some true then usJ l j ++ [(j : Int)] else usJ l j
def usL (l : List Slot) : List Int := usJ l l.length
theorem usJ_len (l : List Slot) (j : Nat) : (usJ l j).length ≤ j := by
  induction j with
  | zero => simp [usJ]
  | succ j ih =>
    rw [usJ]
    split
    · rw [List.length_append]; simp; omega
    · omega
theorem int_elem : Elem Try.prog 3 1 8 := Elem.of (z := .int .i64 0) (by kernel_rfl) (by kernel_rfl) (by kernel_rfl) rfl
set_option maxHeartbeats 2000000 in
theorem used_at {w : World} {g q : Nat} {l : List Slot} (h : PS w g q l) :
    Calls Try.prog 22 #[.pointer (some ⟨g, 0, none⟩)] w fun e w' => ∃ A n c, e = .returned (.slice A n c) ∧ Hid ((usL l).length = n ∧ Own w' w.heap.size 3 1 A n c (ints (usL l)) ∧ Fr w w') := by
  have H := keep h
  have c1 := h.box.cell 0
  simp only [List.getElem?_toArray, List.getElem?_cons_zero] at c1
  obtain ⟨h1, h2⟩ := h.len
  obtain ⟨n, hn⟩ : ∃ n, l.length = n := ⟨_, rfl⟩
  have HN := keep hn
  have gl := h.box.lt
  rw [hn] at c1 h1 h2
  have cF : ∀ W, Fr w W → W.cell? ⟨g, 0, none⟩ = some (.slice (some ⟨q, 0, none⟩) n n) := fun W f => (f.cell gl).trans c1
  have ww := fr_refl w
  clear h hn c1 gl
  go_enter Try.func22, Try.ntmps22
  go_wp2_with fail
  go_loopg [3, 4, 10] n (fun g' s3 s4 s10 wr => ∃ (j m : Nat) (A : Option Addr) (c : Nat), j + g' = n ∧ s10 = .int .i64 j ∧ s3 = .slice A m c ∧ Hid (Fr w wr) ∧ Hid ((usJ l j).length = m ∧ Own wr w.heap.size 3 1 A m c (ints (usJ l j))))
  case atStart => exact ⟨0, 0, none, 0, by omega, rfl, rfl, keep ww, keep ⟨rfl, Own.nil _ _ _ _⟩⟩
  case round =>
    obtain ⟨j, m, A, c, hj, rfl, rfl, hW, hO⟩ := hrel
    have hF := hW.out
    have c1 := cF wr hF
    have hM := H.out.fr hF
    have hr := fr_refl wr
    by_cases hlt : j < n
    · have hjz : (j : Int) < (n : Int) := by omega
      have hx : l[j]? = some (l[j]'(by rw [HN.out]; exact hlt)) := List.getElem?_eq_getElem _
      generalize l[j]'(by rw [HN.out]; exact hlt) = x at hx
      have c2 := cell_used hM hx
      obtain ⟨u, b⟩ := x
      have hml : m ≤ j := by have := usJ_len l j; rw [hO.out.1] at this; exact this
      have HX := keep hx
      clear hx hM
      cases u
      · clear hr hF
        go_wp2_with fail
        go_roundg (gk - 1)
        case measure => omega
        case rel => exact ⟨j + 1, m, A, c, by omega, rfl, rfl, hW, keep (by rw [usJ, HX.out, if_neg (by simp)]; exact hO.out)⟩
      · clear hr
        go_wp2_with (first
          | (refine wpList_append_vals (w0 := w) int_elem Try.underlying50 (by decide) rfl (.tmp 21) (.tmp 23) rfl (fr_new hF _) A m c (ints (usJ l j)) rfl (hO.out.2.alloc _) (wr.heap.size + 1) (some ⟨wr.heap.size, 0, none⟩) 1 1 (ints [(j : Int)]) rfl rfl (has_one wr _ _) (ints_one _) (by unfold maxLen; omega) (by omega) ?_; intro A2 c2' w2 o2 f2)
          | fail)
        go_roundg (gk - 1)
        case measure => omega
        case rel => exact ⟨j + 1, m + 1, A2, c2', by omega, rfl, rfl, keep f2, keep (by rw [usJ, HX.out, if_pos (by simp), ints_app, List.length_append, hO.out.1]; exact ⟨rfl, o2⟩)⟩
    · have hjn : j = n := by omega
      have hjz : ¬ (j : Int) < (n : Int) := by omega
      have Hj := keep hjn
      clear hjn hlt hM hr hF
      go_wp2_with fail
      go_ret
      have e : usJ l j = usL l := by rw [usL, HN.out, Hj.out]
      rw [e] at hO
      exact ⟨A, m, c, rfl, keep ⟨hO.out.1, hO.out.2, hW.out⟩⟩
/-- How many are free. -/
def lfN (l : List Slot) : Int := l.length - (usL l).length
set_option maxHeartbeats 2000000 in
theorem left_at {w : World} {g q : Nat} {l : List Slot} (h : PS w g q l) :
    Calls Try.prog 24 #[.pointer (some ⟨g, 0, none⟩)] w fun e w' => e = .returned (.int .i64 (lfN l)) ∧ Fr w w' := by
  have c1 := h.box.cell 0
  simp only [List.getElem?_toArray, List.getElem?_cons_zero] at c1
  obtain ⟨h1, h2⟩ := h.len
  have gl := h.box.lt
  have hul : (usL l).length ≤ l.length := usJ_len l _
  obtain ⟨n, hn⟩ : ∃ n, l.length = n := ⟨_, rfl⟩
  obtain ⟨m, hm⟩ : ∃ m, (usL l).length = m := ⟨_, rfl⟩
  have cU : ∀ W, Fr w W → Calls Try.prog 22 #[.pointer (some ⟨g, 0, none⟩)] W fun e w' => ∃ A c, e = .returned (.slice A m c) ∧ Fr w w' := fun W f => (used_at (h.fr f)).mono fun e w' ⟨A, n', c, he, hh⟩ => ⟨A, c, by rw [he, ← hh.out.1, hm], fr_step f hh.out.2.2⟩
  have hlf : lfN l = (n : Int) - m := by rw [lfN, hn, hm]
  rw [hn] at c1 h1 h2 hul
  rw [hm] at hul
  rw [hlf]
  have cF : ∀ W, Fr w W → W.cell? ⟨g, 0, none⟩ = some (.slice (some ⟨q, 0, none⟩) n n) := fun W f => (f.cell gl).trans c1
  have ww := fr_refl w
  have wd := fr_drew ww
  clear h hn hm hlf c1 gl
  go_enter Try.func24, Try.ntmps24
  go_wp2_with fail
  go_region_held3 (fun W => Fr w W) (first | exact wd | assumption) (first | (go_at_call 22; (with_reducible refine (cU _ (by assumption)).mono ?_); rintro e w2 ⟨A, c, rfl, h2⟩))
  all_goals
    go_wp2_with fail
    go_ret
    exact ⟨ret_int (by rw [IntKind.wrap_i64]; omega), by assumption⟩
set_option maxHeartbeats 2000000 in
theorem copy_at {w : World} {g q : Nat} {l : List Slot} (h : PS w g q l) :
    Calls Try.prog 20 #[.pointer (some ⟨g, 0, none⟩)] w fun e w' => ∃ g' q', e = .returned (.pointer (some ⟨g', 0, none⟩)) ∧ Hid (PS w' g' q' l ∧ Fr w w' ∧ w.heap.size ≤ g' ∧ w.heap.size ≤ q') := by
  have c1 := h.box.cell 0
  simp only [List.getElem?_toArray, List.getElem?_cons_zero] at c1
  obtain ⟨h1, h2⟩ := h.len
  obtain ⟨n, hn⟩ : ∃ n, l.length = n := ⟨_, rfl⟩
  have gl := h.box.lt
  rw [hn] at c1 h1 h2
  have hm := slot_make n h2 w
  have hrl : (rows slotC l).length = n * 257 := by rw [rows_len (slotC_wid h.ok), hn]
  have hzl : (rows slotC (newS n)).length = n * 257 := by rw [rows_len (slotC_wid (newS_ok n)), newS, List.length_replicate]
  have hone := rows_one slotC_one l
  generalize hz : rows slotC (newS n) = zs at *
  obtain ⟨V, hV⟩ : ∃ V, V = (w.alloc (.cells zs.toArray 66)).alloc (.cells #[.slice (some ⟨w.heap.size, 0, none⟩) n n] 59) := ⟨_, rfl⟩
  have a1 : Arr V (w.heap.size + 1) 59 #[.slice (some ⟨w.heap.size, 0, none⟩) n n] := by
    rw [hV]; simpa using Arr.new (w.alloc (.cells zs.toArray 66)) #[.slice (some ⟨w.heap.size, 0, none⟩) n n] 59
  have a2 : Arr V w.heap.size 66 zs.toArray := by rw [hV]; exact (Arr.new w zs.toArray 66).alloc _
  have fV : Fr w V := by rw [hV]; exact fr_new (fr_new (fr_refl w) _) _
  have hMV := h.fr fV
  have d1 := a1.cell 0
  have d2 := hMV.box.cell 0
  simp only [List.getElem?_toArray, List.getElem?_cons_zero] at d1 d2
  rw [hn] at d2
  have hs := arr_part (o := 0) (zs := rows slotC l) hMV.row (fun j u hu => by rw [Nat.zero_add]; exact hu)
  have HN := keep hn
  have H := keep h
  have HM := keep hMV
  have Hr := keep hrl
  have Hz := keep hzl
  clear hrl hzl hz hMV hn h gl
  have hV' := hV.symm
  clear hV
  go_enter Try.func20, Try.ntmps20
  go_wp2_with fail
  go_region_law (refine step_copy_chg rfl (.tmp 15) (.tmp 19) _ _ rfl Try.underlying57 slot_info (by decide) w.heap.size 0 n n n n (q + 1) (some ⟨q, 0, none⟩) rfl rfl a2 (by rw [Hr.out]; simp) hs (by rw [Hr.out, Hz.out]; omega) hone ?_; intro W hA hK)
  all_goals
    go_wp2_with fail
    go_ret
    rw [splice_all _ _ (by rw [Hr.out, Hz.out]; exact Nat.le_refl _)] at hA
    have hg : ¬ (w.heap.size + 1 = w.heap.size) := by omega
    exact ⟨_, _, rfl, keep ⟨⟨by rw [HN.out]; exact (show Arr V.drew _ _ _ from a1).chg hK hg, hA, by omega, H.out.len, H.out.ok⟩, (fr_drew fV).trans ((hK.below (B := w.heap.size) fV.size (fun i hi => Nat.le_of_eq hi.symm))), by omega, Nat.le_refl _⟩⟩
end Go.Proofs.Ytliglcaakhfahaa
