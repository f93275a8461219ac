/- The document's cache in memory: frames, rows of those who stand, the box; at, leave. -/
import Derived.Test.YtmoaddbpfekdbaaGreatM16
import Derived.Test.YtmoaddbpfekdbaaGreatM15
namespace Go.Proofs.YtmoaddbpfekdbaaGreat
set_option linter.unusedSectionVars false
set_option linter.unusedVariables false
set_option linter.unusedSimpArgs false
set_option maxRecDepth 100000
open Go.RowKit
/-- A node's value as five cells. -/
class NVal (V : Type) extends Inhabited V where
  nc : V → List Value
  len : ∀ v, (nc v).length = 5
  one : ∀ v, One (nc v)
  zero : nc default = [.bool false, .slice none 0 0, .slice none 0 0, .slice none 0 0, .slice none 0 0]
def fc {V : Type} [NVal V] (f : Fra V) : List Value := .int .i64 (f.st : Int) :: .int .i64 f.blk :: .int .i64 f.pins :: .bool f.ref :: .bool f.dirty :: (NVal.nc f.node ++ [.int .i64 f.own])
def sc (p : Int × Int) : List Value := [.int .i64 p.1, .int .i64 p.2]
theorem sc_wid (l : List (Int × Int)) : Wid sc 2 l := fun _ _ => rfl
theorem sc_one (p : Int × Int) : One (sc p) := .cons rfl (.cons rfl .nil)
theorem stand_elem : Elem Tryz.prog 103 2 16 := Elem.of (z := .agg #[.int .i64 0, .int .i64 0]) (by kernel_rfl) (by kernel_rfl) (by kernel_rfl) rfl
theorem stands_und : Tryz.prog.underlying 59 = some (.slice 103) := Tryz.underlying59
theorem stand_ty : Sty Tryz.prog 103 2 := ⟨by kernel_rfl, ⟨_, Tryz.underlying103, rfl⟩⟩
theorem stand_ld (p : Value) : Instr.loadAt 103 p = ldS 103 p := rfl
section
variable {V : Type} [NVal V]
theorem fc_len (f : Fra V) : (fc f).length = 11 := by simp [fc, NVal.len]
theorem fc_wid (l : List (Fra V)) : Wid fc 11 l := fun f _ => fc_len f
theorem fc_one (f : Fra V) : One (fc f) := .cons rfl (.cons rfl (.cons rfl (.cons rfl (.cons rfl (.app (NVal.one _) (.cons rfl .nil))))))
theorem fc_0 (f : Fra V) : (fc f)[0]? = some (.int .i64 (f.st : Int)) := rfl
theorem fc_1 (f : Fra V) : (fc f)[1]? = some (.int .i64 f.blk) := rfl
theorem fc_2 (f : Fra V) : (fc f)[2]? = some (.int .i64 f.pins) := rfl
theorem fc_3 (f : Fra V) : (fc f)[3]? = some (.bool f.ref) := rfl
theorem fc_4 (f : Fra V) : (fc f)[4]? = some (.bool f.dirty) := rfl
theorem fc_10 (f : Fra V) : (fc f)[10]? = some (.int .i64 f.own) := by
  show (NVal.nc f.node ++ [Value.int .i64 f.own])[5]? = _
  rw [List.getElem?_append_right (by rw [NVal.len]; exact Nat.le_refl _), NVal.len]
  rfl
theorem fc_node (f : Fra V) : ((fc f).drop 5).take 5 = NVal.nc f.node := by
  show (NVal.nc f.node ++ [Value.int .i64 f.own]).take 5 = _
  rw [← NVal.len f.node, List.take_left]
end
theorem idx_some {α : Type} {p : α → Bool} {l : List α} {j : Nat} {x : α} (h : ∀ i y, i < j → l[i]? = some y → p y = false) (hx : l[j]? = some x) (hp : p x = true) : l.findIdx? p = some j := by
  rw [List.findIdx?_eq_some_iff_getElem]
  obtain ⟨hj, e⟩ := List.getElem?_eq_some_iff.1 hx
  refine ⟨hj, by rw [e]; exact hp, fun i hi => ?_⟩
  have := h i l[i] hi (List.getElem?_eq_getElem _)
  simp [this]
theorem idx_none {α : Type} {p : α → Bool} {l : List α} {n : Nat} (hn : l.length = n) (h : ∀ i y, i < n → l[i]? = some y → p y = false) : l.findIdx? p = none := by
  rw [List.findIdx?_eq_none_iff]
  intro x hx
  obtain ⟨i, hi, e⟩ := List.mem_iff_getElem.1 hx
  exact h i x (by omega) (by rw [List.getElem?_eq_getElem hi, e])
theorem upto {α : Type} {p : α → Bool} {l : List α} {j : Nat} {x : α} (h : ∀ i y, i < j → l[i]? = some y → p y = false) (hx : l[j]? = some x) (hp : p x = false) : ∀ i y, i < j + 1 → l[i]? = some y → p y = false := fun i y hi hy => by
  by_cases e : i = j
  · subst e
    rw [hx] at hy
    injection hy with hy
    rw [← hy]
    exact hp
  · exact h i y (by omega) hy
/-- A place as the code tells it. -/
def pos (o : Option Nat) : Int := match o with | some i => i | none => -1
def atI (l : List (Int × Int)) (t : Int) : Option Nat := l.findIdx? fun p => p.1 == t
set_option maxHeartbeats 2000000 in
theorem at_at {w : World} {A : Option Addr} {n c B : Nat} {l : List (Int × Int)} (t : Int) (hl : Has w B A (rows sc l)) (hB : B ≤ w.heap.size) (hn : l.length = n) (hsm : n ≤ 100000) :
    Calls Tryz.prog 62 #[.slice A n c, .int .i64 t] w fun e w' => e = .returned (.int .i64 (pos (atI l t))) ∧ w = w' := by
  have Hl := keep hl
  have Hn := keep hn
  clear hl hn
  go_enter Tryz.func62, Tryz.ntmps62
  go_wp2_with fail
  go_loopg [5] n (fun gg s5 wr => ∃ j : Nat, j + gg = n ∧ s5 = .int .i64 j ∧ w = wr ∧ Hid (∀ i x, i < j → l[i]? = some x → (x.1 == t) = false))
  case atStart => exact ⟨0, by omega, rfl, rfl, keep (fun t x h => by omega)⟩
  case round =>
    obtain ⟨j, hj, rfl, rfl, hno⟩ := hrel
    by_cases hlt : j < n
    · have hm : l[j]? = some (l[j]'(by rw [Hn.out]; exact hlt)) := List.getElem?_eq_getElem _
      generalize l[j]'(by rw [Hn.out]; exact hlt) = m at hm
      obtain ⟨b, off, rfl, hb1, hr⟩ := has_rows Hl.out (sc_wid l) (by decide) (by intro e; rw [e] at hm; simp at hm)
      have lX := elem_cell0 hr (sc_wid l) (by omega) hm (u := .int .i64 m.1) rfl w (fr_refl w)
      have Hm := keep hm
      have hjz : (j : Int) < (n : Int) := by omega
      have wj : IntKind.i64.wrap ((j : Int) + 1) = (j : Int) + 1 := by rw [IntKind.wrap_i64]; omega
      clear hm hr hlt
      by_cases hq : m.1 = t
      · have e9 : atI l t = some j := idx_some hno.out Hm.out (by simpa using hq)
        have E9 := keep e9
        clear e9
        subst hq
        go_wp2_with fail
        go_ret
        rw [E9.out]
        exact ⟨rfl, rfl⟩
      · have hq2 : (m.1 == t) = false := by simpa using hq
        go_wp2_with fail
        go_roundg (gk - 1)
        case measure => omega
        case rel => exact ⟨j + 1, by omega, rfl, rfl, keep (upto hno.out Hm.out hq2)⟩
    · have hjn : j = n := by omega
      have hjz : ¬ (j : Int) < (n : Int) := by omega
      subst hjn
      have E9 := keep (show atI l t = none from idx_none Hn.out hno.out)
      clear hlt
      go_wp2_with fail
      go_ret
      rw [E9.out]
      exact ⟨rfl, rfl⟩
end Go.Proofs.YtmoaddbpfekdbaaGreat
/- The document's cache: leave; the box; free, Find, Free. -/
namespace Go.Proofs.YtmoaddbpfekdbaaGreat
set_option linter.unusedSectionVars false
set_option linter.unusedVariables false
set_option linter.unusedSimpArgs false
set_option maxRecDepth 100000
open Go.RowKit
/-- A row of those who stand that a call made. -/
structure ResS (w W : World) (O : Option Addr) (n c : Nat) (l : List (Int × Int)) : Prop where
  row : Rw W 103 2 O n c (rows sc l)
  len : l.length = n
  new : ∀ k, At O k → w.heap.size ≤ k
theorem leave_in {l : List (Int × Int)} {t : Int} {j : Nat} {m : Int × Int} (hm : l[j]? = some m) (hq : m.1 ≠ t) : leave (l.take (j + 1)) t = leave (l.take j) t ++ [m] := by
  obtain ⟨hj, e⟩ := List.getElem?_eq_some_iff.1 hm
  rw [List.take_succ_eq_append_getElem hj, e]
  unfold leave
  rw [List.filter_append]
  simp [hq]
theorem leave_out {l : List (Int × Int)} {t : Int} {j : Nat} {m : Int × Int} (hm : l[j]? = some m) (hq : m.1 = t) : leave (l.take (j + 1)) t = leave (l.take j) t := by
  obtain ⟨hj, e⟩ := List.getElem?_eq_some_iff.1 hm
  rw [List.take_succ_eq_append_getElem hj, e]
  unfold leave
  rw [List.filter_append]
  simp [hq]
attribute [local go_sem ↓] stand_ld
set_option maxHeartbeats 4000000 in
theorem leave_at {w : World} {A : Option Addr} {n c B : Nat} {l : List (Int × Int)} (t : Int) (hl : Has w B A (rows sc l)) (hB : B ≤ w.heap.size) (hn : l.length = n) (hsm : n ≤ 100000) :
    Calls Tryz.prog 64 #[.slice A n c, .int .i64 t] w fun e w' => ∃ O k b, e = .returned (.slice O k b) ∧ Hid (ResS w w' O k b (leave l t) ∧ Fr w w') := by
  have Hl := keep hl
  have Hn := keep hn
  clear hl hn
  go_enter Tryz.func64, Tryz.ntmps64
  go_wp2_with fail
  go_loopg [5, 6] n (fun gg s5 s6 wr => ∃ (j k b : Nat) (O : Option Addr), j + gg = n ∧ s5 = .slice O k b ∧ s6 = .int .i64 j ∧ k ≤ j ∧ Hid (ResS w wr O k b (leave (l.take j) t) ∧ Fr w wr))
  case atStart => exact ⟨0, 0, 0, none, by omega, rfl, rfl, Nat.le_refl _, keep ⟨⟨Rw.nil _ _ _, rfl, fun k hk => by cases hk⟩, fr_refl w⟩⟩
  case round =>
    obtain ⟨j, k, b, O, hj, rfl, rfl, hkj, HI⟩ := hrel
    by_cases hlt : j < n
    · have hm : l[j]? = some (l[j]'(by rw [Hn.out]; exact hlt)) := List.getElem?_eq_getElem _
      generalize l[j]'(by rw [Hn.out]; exact hlt) = m at hm
      obtain ⟨g, off, rfl, hb1, hr⟩ := has_rows (Hl.out.fr hB HI.out.2) (sc_wid l) (by decide) (by intro e; rw [e] at hm; simp at hm)
      have hgw : g < wr.heap.size := Nat.lt_of_lt_of_le hb1 (Nat.le_trans hB HI.out.2.size)
      have lX := elem_cell0 hr (sc_wid l) hgw hm (u := .int .i64 m.1) rfl wr (fr_refl wr)
      have lS := elem_ld stand_ty hr (sc_wid l) hgw hm wr (fr_refl wr)
      unfold sc at lS
      have Hm := keep hm
      have hjz : (j : Int) < (n : Int) := by omega
      have wj : IntKind.i64.wrap ((j : Int) + 1) = (j : Int) + 1 := by rw [IntKind.wrap_i64]; omega
      clear hm hr hlt
      by_cases hq : m.1 = t
      · have HL := keep (leave_out Hm.out hq)
        have hq3 : (t != t) = false := by simp
        subst hq
        go_wp2_with fail
        go_roundg (gk - 1)
        case measure => omega
        case rel => exact ⟨j + 1, k, b, O, by omega, rfl, rfl, by omega, keep ⟨by rw [HL.out]; exact HI.out.1, HI.out.2⟩⟩
      · have HL := keep (leave_in Hm.out hq)
        have hq2 : (m.1 == t) = false := by simpa using hq
        have hq3 : (m.1 != t) = true := by simpa using hq
        have HO := keep (HI.out.1.row.fr (fr_new (fr_refl wr) (.cells (sc m).toArray 103)))
        clear hq
        go_wp2_with (first
          | (refine wpList_append_rw stand_elem stands_und (by decide) rfl (.tmp 20) (.tmp 25) rfl O k b (rows sc (leave (l.take j) t)) rfl HO.out (wr.heap.size + 1) (some ⟨wr.heap.size, 0, none⟩) 1 1 (sc m) rfl rfl (has_new wr (sc m) 103) (sc_one _) (by simp only [maxLen]; omega) (by omega) ?_; intro O' b' w3 h3 p3; have H3 := keep (show Rw w3 _ _ _ _ _ _ ∧ Put _ w3 _ _ from ⟨h3, p3⟩); clear h3 p3)
          | fail)
        go_roundg (gk - 1)
        case measure => omega
        case rel =>
          obtain ⟨h3, p3⟩ := H3.out
          refine ⟨j + 1, k + 1, b', O', by omega, rfl, rfl, by omega, keep ⟨⟨?_, ?_, fun i hi => ?_⟩, ?_⟩⟩
          · rw [HL.out, rows_append, rows_single]; exact h3
          · rw [HL.out, List.length_append, HI.out.1.len]; rfl
          · rcases p3.blk i hi with e | e
            · exact HI.out.1.new i e
            · have := HI.out.2.size
              simp at e
              omega
          · exact (fr_new HI.out.2 _).step_chg p3.chg HI.out.1.new
    · have hjn : j = n := by omega
      have hjz : ¬ (j : Int) < (n : Int) := by omega
      subst hjn
      have E9 := keep (show l.take j = l by rw [← Hn.out, List.take_length])
      clear hlt
      go_wp2_with fail
      go_ret
      refine ⟨O, k, b, rfl, keep ?_⟩
      have := HI.out
      rw [E9.out] at this
      exact this
/-- Where the rows of a cache lie: frames A, line B, loads L. -/
structure CH where
  A : Option Addr
  n : Nat
  c : Nat
  B : Option Addr
  m : Nat
  d : Nat
  L : Option Addr
  p : Nat
  e : Nat
def CHX (g : Nat) (h : CH) (k : Nat) : Prop := k = g ∨ At h.A k ∨ At h.B k ∨ At h.L k
section
variable {V : Type} [NVal V]
/-- A cache of the document's in memory. -/
structure DC (w : World) (g : Nat) (h : CH) (t : Ca V) : Prop where
  box : Arr w g 61 #[.slice h.A h.n h.c, .slice h.B h.m h.d, .slice h.L h.p h.e, .int .i64 t.hand]
  fs : Rw w 63 11 h.A h.n h.c (rows fc t.fs)
  ln : Rw w 103 2 h.B h.m h.d (rows sc t.line)
  ld : Rw w 103 2 h.L h.p h.e (rows sc t.loads)
  ap : ∀ k, At h.B k → ¬ At h.L k
theorem Rw.arrT {w : World} {e size n c k : Nat} {A : Option Addr} {xs : List Value} (h : Rw w e size A n c xs) (hk : At A k) : ∃ cs, Arr w k e cs := by
  rcases h.2 with ⟨rfl, _⟩ | ⟨g, p, r, rfl, ha, _⟩
  · cases hk
  · injection hk with hk
    subst hk
    exact ⟨_, ha⟩
section
variable {w W : World} {g : Nat} {h : CH} {t : Ca V} {X : Nat → Prop}
theorem DC.ng (k : DC w g h t) : ¬ At h.A g ∧ ¬ At h.B g ∧ ¬ At h.L g := by
  refine ⟨fun hk => ?_, fun hk => ?_, fun hk => ?_⟩
  · obtain ⟨cs, h1⟩ := k.fs.arrT hk
    exact absurd (h1.ty k.box) (by decide)
  · obtain ⟨cs, h1⟩ := k.ln.arrT hk
    exact absurd (h1.ty k.box) (by decide)
  · obtain ⟨cs, h1⟩ := k.ld.arrT hk
    exact absurd (h1.ty k.box) (by decide)
theorem DC.nA (k : DC w g h t) {i : Nat} (hi : At h.A i) : ¬ At h.B i ∧ ¬ At h.L i := by
  obtain ⟨cs, h1⟩ := k.fs.arrT hi
  refine ⟨fun hk => ?_, fun hk => ?_⟩
  · obtain ⟨cs, h2⟩ := k.ln.arrT hk
    exact absurd (h1.ty h2) (by decide)
  · obtain ⟨cs, h2⟩ := k.ld.arrT hk
    exact absurd (h1.ty h2) (by decide)
theorem DC.lt (k : DC w g h t) : ∀ i, CHX g h i → i < w.heap.size := by
  rintro i (rfl | hi | hi | hi)
  · exact k.box.lt
  · exact k.fs.lt i hi
  · exact k.ln.lt i hi
  · exact k.ld.lt i hi
theorem DC.chg (k : DC w g h t) (f : Chg X w W) (hx : ∀ i, CHX g h i → ¬ X i) : DC W g h t :=
  ⟨k.box.chg f (hx _ (.inl rfl)), k.fs.chg f fun b hb => hx b (.inr (.inl hb)), k.ln.chg f fun b hb => hx b (.inr (.inr (.inl hb))), k.ld.chg f fun b hb => hx b (.inr (.inr (.inr hb))), k.ap⟩
theorem DC.fr (k : DC w g h t) (f : Fr w W) : DC W g h t := k.chg (.of_fr (fun _ => False) f) fun _ _ => id
theorem DC.nlen (k : DC w g h t) : t.fs.length = h.n ∧ t.line.length = h.m ∧ t.loads.length = h.p := by
  have h1 := k.fs.len
  have h2 := k.ln.len
  have h3 := k.ld.len
  rw [rows_len (fc_wid _)] at h1
  rw [rows_len (sc_wid _)] at h2 h3
  omega
theorem DC.cells (k : DC w g h t) : w.cell? ⟨g, 0, none⟩ = some (.slice h.A h.n h.c) ∧ w.cell? ⟨g, 1, none⟩ = some (.slice h.B h.m h.d) ∧ w.cell? ⟨g, 2, none⟩ = some (.slice h.L h.p h.e) ∧ w.cell? ⟨g, 3, none⟩ = some (.int .i64 t.hand) := by
  have c1 := k.box.cell 0
  have c2 := k.box.cell 1
  have c3 := k.box.cell 2
  have c4 := k.box.cell 3
  exact ⟨by simpa using c1, by simpa using c2, by simpa using c3, by simpa using c4⟩
end
set_option maxHeartbeats 2000000 in
theorem dfree_at {w : World} {g : Nat} {h : CH} {t : Ca V} (k : DC w g h t) (hs : t.fs.length ≤ 100000) :
    Calls Tryz.prog 69 #[.pointer (some ⟨g, 0, none⟩)] w fun e w' => e = .returned (.int .i64 (pos (freeI t.fs))) ∧ w = w' := by
  obtain ⟨hn, -, -⟩ := k.nlen
  obtain ⟨c0, -, -, -⟩ := k.cells
  have Hn := keep hn
  have Hl := keep k.fs.has
  have hs' : h.n ≤ 100000 := by omega
  generalize t.fs = l at *
  obtain ⟨A, n, c, B, m, d, L, p, e⟩ := h
  simp only at *
  clear hn k hs
  go_enter Tryz.func69, Tryz.ntmps69
  go_wp2_with fail
  go_loopg [3] n (fun gg s5 wr => ∃ j : Nat, j + gg = n ∧ s5 = .int .i64 j ∧ w = wr ∧ Hid (∀ i (x : Fra V), i < j → l[i]? = some x → (x.st == 0) = false))
  case atStart => exact ⟨0, by omega, rfl, rfl, keep (fun t x h => by omega)⟩
  case round =>
    obtain ⟨j, hj, rfl, rfl, hno⟩ := hrel
    by_cases hlt : j < n
    · have hm : l[j]? = some (l[j]'(by rw [Hn.out]; exact hlt)) := List.getElem?_eq_getElem _
      generalize l[j]'(by rw [Hn.out]; exact hlt) = m at hm
      obtain ⟨b, off, rfl, hb1, hr⟩ := has_rows Hl.out (fc_wid l) (by decide) (by intro e; rw [e] at hm; simp at hm)
      have lX := elem_cell0 hr (fc_wid l) (by omega) hm (fc_0 m) w (fr_refl w)
      have Hm := keep hm
      have hjz : (j : Int) < (n : Int) := by omega
      have wj : IntKind.i64.wrap ((j : Int) + 1) = (j : Int) + 1 := by rw [IntKind.wrap_i64]; omega
      clear hm hr hlt
      by_cases hq : m.st = 0
      · have e9 : freeI l = some j := idx_some hno.out Hm.out (by simpa using hq)
        have E9 := keep e9
        have hz : ((m.st : Int) == 0) = true := by simp; omega
        clear e9 hq
        go_wp2_with fail
        go_ret
        rw [E9.out]
        exact ⟨rfl, rfl⟩
      · have hq2 : (m.st == 0) = false := by simpa using hq
        have hz : ((m.st : Int) == 0) = false := by simp; omega
        have Hu := keep (upto hno.out Hm.out hq2)
        clear hq2 hq
        go_wp2_with fail
        go_roundg (gk - 1)
        case measure => omega
        case rel => exact ⟨j + 1, by omega, rfl, rfl, Hu⟩
    · have hjn : j = n := by omega
      have hjz : ¬ (j : Int) < (n : Int) := by omega
      subst hjn
      have E9 := keep (show freeI l = none from idx_none Hn.out hno.out)
      clear hlt
      go_wp2_with fail
      go_ret
      rw [E9.out]
      exact ⟨rfl, rfl⟩
end
end Go.Proofs.YtmoaddbpfekdbaaGreat
/- The document's cache: Find, Free, ready, task, block. -/
namespace Go.Proofs.YtmoaddbpfekdbaaGreat
set_option linter.unusedSectionVars false
set_option linter.unusedVariables false
set_option linter.unusedSimpArgs false
set_option maxRecDepth 100000
open Go.RowKit
section
variable {V : Type} [NVal V]
set_option maxHeartbeats 4000000 in
theorem dfind_at {w : World} {g : Nat} {h : CH} {t : Ca V} (x : Int) (k : DC w g h t) (hs : t.fs.length ≤ 100000) :
    Calls Tryz.prog 63 #[.pointer (some ⟨g, 0, none⟩), .int .i64 x] w fun e w' => e = .returned (.int .i64 (pos (findB t.fs x))) ∧ w = w' := by
  obtain ⟨hn, -, -⟩ := k.nlen
  obtain ⟨c0, -, -, -⟩ := k.cells
  have Hn := keep hn
  have Hl := keep k.fs.has
  have hs' : h.n ≤ 100000 := by omega
  generalize t.fs = l at *
  obtain ⟨A, n, c, B, m, d, L, p, e⟩ := h
  simp only at *
  clear hn k hs
  go_enter Tryz.func63, Tryz.ntmps63
  go_wp2_with fail
  go_loopg [5] n (fun gg s5 wr => ∃ j : Nat, j + gg = n ∧ s5 = .int .i64 j ∧ w = wr ∧ Hid (∀ i (y : Fra V), i < j → l[i]? = some y → isB x y = false))
  case atStart => exact ⟨0, by omega, rfl, rfl, keep (fun t x h => by omega)⟩
  case round =>
    obtain ⟨j, hj, rfl, rfl, hno⟩ := hrel
    by_cases hlt : j < n
    · have hm : l[j]? = some (l[j]'(by rw [Hn.out]; exact hlt)) := List.getElem?_eq_getElem _
      generalize l[j]'(by rw [Hn.out]; exact hlt) = m at hm
      obtain ⟨b, off, rfl, hb1, hr⟩ := has_rows Hl.out (fc_wid l) (by decide) (by intro e; rw [e] at hm; simp at hm)
      have lX := elem_cell0 hr (fc_wid l) (by omega) hm (fc_0 m) w (fr_refl w)
      have lY := elem_cell hr (fc_wid l) (by omega) hm (fc_1 m) w (fr_refl w)
      have Hm := keep hm
      have hjz : (j : Int) < (n : Int) := by omega
      have wj : IntKind.i64.wrap ((j : Int) + 1) = (j : Int) + 1 := by rw [IntKind.wrap_i64]; omega
      clear hm hr hlt
      by_cases hb : m.blk = x
      · have hbz : (m.blk == x) = true := by simpa using hb
        by_cases h1 : m.st = 1
        · have E9 := keep (show findB l x = some j from idx_some hno.out Hm.out (by simp [isB, hb, h1]))
          have hz : ((m.st : Int) == 1) = true := by simp; omega
          clear hb h1
          go_wp2_with fail
          go_ret
          rw [E9.out]
          exact ⟨rfl, rfl⟩
        · have hz : ((m.st : Int) == 1) = false := by simp; omega
          by_cases h2 : m.st = 2
          · have E9 := keep (show findB l x = some j from idx_some hno.out Hm.out (by simp [isB, hb, h2]))
            have hz2 : ((m.st : Int) == 2) = true := by simp; omega
            clear hb h1 h2
            go_wp2_with fail
            go_ret
            rw [E9.out]
            exact ⟨rfl, rfl⟩
          · have hz2 : ((m.st : Int) == 2) = false := by simp; omega
            have Hu := keep (upto hno.out Hm.out (show isB x m = false by simp [isB, h1, h2]))
            clear hb h1 h2
            go_wp2_with fail
            go_roundg (gk - 1)
            case measure => omega
            case rel => exact ⟨j + 1, by omega, rfl, rfl, Hu⟩
      · have hbz : (m.blk == x) = false := by simpa using hb
        have Hu := keep (upto hno.out Hm.out (show isB x m = false by simp [isB, hb]))
        clear hb
        go_wp2_with fail
        go_roundg (gk - 1)
        case measure => omega
        case rel => exact ⟨j + 1, by omega, rfl, rfl, Hu⟩
    · have hjn : j = n := by omega
      have hjz : ¬ (j : Int) < (n : Int) := by omega
      subst hjn
      have E9 := keep (show findB l x = none from idx_none Hn.out hno.out)
      clear hlt
      go_wp2_with fail
      go_ret
      rw [E9.out]
      exact ⟨rfl, rfl⟩
theorem count_upto {α : Type} {p : α → Bool} {l : List α} {j : Nat} {m : α} (hm : l[j]? = some m) : (l.take (j + 1)).countP p = (l.take j).countP p + (if p m = true then 1 else 0) := by
  obtain ⟨hj, e⟩ := List.getElem?_eq_some_iff.1 hm
  rw [List.take_succ_eq_append_getElem hj, e, List.countP_append]
  simp [List.countP_cons]
set_option maxHeartbeats 4000000 in
theorem dfreen_at {w : World} {g : Nat} {h : CH} {t : Ca V} (k : DC w g h t) (hs : t.fs.length ≤ 100000) :
    Calls Tryz.prog 39 #[.pointer (some ⟨g, 0, none⟩)] w fun e w' => e = .returned (.int .i64 (freeN t.fs : Nat)) ∧ w = w' := by
  obtain ⟨hn, -, -⟩ := k.nlen
  obtain ⟨c0, -, -, -⟩ := k.cells
  have Hn := keep hn
  have Hl := keep k.fs.has
  have hs' : h.n ≤ 100000 := by omega
  generalize t.fs = l at *
  obtain ⟨A, n, c, B, m, d, L, p, e⟩ := h
  simp only at *
  clear hn k hs
  go_enter Tryz.func39, Tryz.ntmps39
  go_wp2_with fail
  go_loopg [3, 4] n (fun gg s3 s4 wr => ∃ j q : Nat, j + gg = n ∧ s3 = .int .i64 q ∧ s4 = .int .i64 j ∧ w = wr ∧ q ≤ j ∧ Hid (q = (l.take j).countP fun f => f.st == 0))
  case atStart => exact ⟨0, 0, by omega, rfl, rfl, rfl, Nat.le_refl _, keep rfl⟩
  case round =>
    obtain ⟨j, q, hj, rfl, rfl, rfl, hqj, hno⟩ := hrel
    by_cases hlt : j < n
    · have hm : l[j]? = some (l[j]'(by rw [Hn.out]; exact hlt)) := List.getElem?_eq_getElem _
      generalize l[j]'(by rw [Hn.out]; exact hlt) = m at hm
      obtain ⟨b, off, rfl, hb1, hr⟩ := has_rows Hl.out (fc_wid l) (by decide) (by intro e; rw [e] at hm; simp at hm)
      have lX := elem_cell0 hr (fc_wid l) (by omega) hm (fc_0 m) w (fr_refl w)
      have Hc := keep (count_upto (p := fun f : Fra V => f.st == 0) hm)
      have hjz : (j : Int) < (n : Int) := by omega
      have wj : IntKind.i64.wrap ((j : Int) + 1) = (j : Int) + 1 := by rw [IntKind.wrap_i64]; omega
      have wq : IntKind.i64.wrap ((q : Int) + 1) = (q : Int) + 1 := by rw [IntKind.wrap_i64]; omega
      clear hm hr hlt
      by_cases hq : m.st = 0
      · have hz : ((m.st : Int) == 0) = true := by simp; omega
        have H1 := keep (show q + 1 = (l.take (j + 1)).countP fun f => f.st == 0 by rw [Hc.out, ← hno.out, if_pos (by simpa using hq)])
        clear hq
        go_wp2_with fail
        go_roundg (gk - 1)
        case measure => omega
        case rel => exact ⟨j + 1, q + 1, by omega, rfl, rfl, rfl, by omega, H1⟩
      · have hz : ((m.st : Int) == 0) = false := by simp; omega
        have H1 := keep (show q = (l.take (j + 1)).countP fun f => f.st == 0 by rw [Hc.out, ← hno.out, if_neg (by simpa using hq)]; rfl)
        clear hq
        go_wp2_with fail
        go_roundg (gk - 1)
        case measure => omega
        case rel => exact ⟨j + 1, q, by omega, rfl, rfl, rfl, by omega, H1⟩
    · have hjn : j = n := by omega
      have hjz : ¬ (j : Int) < (n : Int) := by omega
      subst hjn
      have E9 := keep (show q = freeN l by rw [hno.out, ← Hn.out, List.take_length]; rfl)
      clear hlt
      go_wp2_with fail
      go_ret
      rw [← E9.out]
      exact ⟨rfl, rfl⟩
end
end Go.Proofs.YtmoaddbpfekdbaaGreat
/- The document's cache: task, block, ready. -/
namespace Go.Proofs.YtmoaddbpfekdbaaGreat
set_option linter.unusedSectionVars false
set_option linter.unusedVariables false
set_option linter.unusedSimpArgs false
set_option maxRecDepth 100000
open Go.RowKit
set_option maxHeartbeats 1000000 in
theorem dtask_at (w : World) (x : Int) : Calls Tryz.prog 60 #[.int .i64 x] w fun e w' => e = .returned (.bool (okT x)) ∧ w = w' := by
  by_cases h0 : 0 ≤ x
  · by_cases h1 : x < 8
    · go_enter Tryz.func60, Tryz.ntmps60
      go_wp2_with fail
      go_ret
      exact ⟨by simp [okT, h0, h1], rfl⟩
    · go_enter Tryz.func60, Tryz.ntmps60
      go_wp2_with fail
      go_ret
      exact ⟨by simp [okT, h0, h1], rfl⟩
  · go_enter Tryz.func60, Tryz.ntmps60
    go_wp2_with fail
    go_ret
    exact ⟨by simp [okT]; omega, rfl⟩
set_option maxHeartbeats 1000000 in
theorem dblock_at (w : World) (x : Int) : Calls Tryz.prog 61 #[.int .i64 x] w fun e w' => e = .returned (.bool (okBl x)) ∧ w = w' := by
  by_cases h0 : 0 ≤ x
  · by_cases h1 : x < 256
    · go_enter Tryz.func61, Tryz.ntmps61
      go_wp2_with fail
      go_ret
      exact ⟨by simp [okBl, h0, h1], rfl⟩
    · go_enter Tryz.func61, Tryz.ntmps61
      go_wp2_with fail
      go_ret
      exact ⟨by simp [okBl, h0, h1], rfl⟩
  · go_enter Tryz.func61, Tryz.ntmps61
    go_wp2_with fail
    go_ret
    exact ⟨by simp [okBl]; omega, rfl⟩
section
variable {V : Type} [NVal V]
theorem idx_at {α : Type} {p : α → Bool} {l : List α} {i : Nat} (h : l.findIdx? p = some i) : ∃ f, l[i]? = some f ∧ p f = true := by
  rw [List.findIdx?_eq_some_iff_getElem] at h
  obtain ⟨hj, e, -⟩ := h
  exact ⟨l[i], List.getElem?_eq_getElem _, e⟩
theorem fr_of {l : List (Fra V)} {i : Nat} {f : Fra V} (h : l[i]? = some f) : fr l i = f := by simp [fr, List.getD, h]
/-- The cells of one frame, where it lies. -/
theorem frame_cells {w : World} {B : Nat} {A : Option Addr} {l : List (Fra V)} {i : Nat} {f : Fra V} (hl : Has w B A (rows fc l)) (hB : B ≤ w.heap.size) (hf : l[i]? = some f) :
    ∃ b off, A = some ⟨b, off, none⟩ ∧ b < B ∧ ∀ W, Fr w W → W.cell? ⟨b, off + i * 11, none⟩ = some (.int .i64 (f.st : Int)) ∧ W.cell? ⟨b, off + i * 11 + 1, none⟩ = some (.int .i64 f.blk) ∧ W.cell? ⟨b, off + i * 11 + 2, none⟩ = some (.int .i64 f.pins) ∧ W.cell? ⟨b, off + i * 11 + 3, none⟩ = some (.bool f.ref) ∧ W.cell? ⟨b, off + i * 11 + 4, none⟩ = some (.bool f.dirty) ∧ W.cell? ⟨b, off + i * 11 + 10, none⟩ = some (.int .i64 f.own) := by
  obtain ⟨b, off, rfl, hb1, hr⟩ := has_rows hl (fc_wid l) (by decide) (by intro e; rw [e] at hf; simp at hf)
  have hb : b < w.heap.size := by omega
  exact ⟨b, off, rfl, hb1, fun W hW => ⟨elem_cell0 hr (fc_wid l) hb hf (fc_0 f) W hW, elem_cell hr (fc_wid l) hb hf (fc_1 f) W hW, elem_cell hr (fc_wid l) hb hf (fc_2 f) W hW, elem_cell hr (fc_wid l) hb hf (fc_3 f) W hW, elem_cell hr (fc_wid l) hb hf (fc_4 f) W hW, elem_cell hr (fc_wid l) hb hf (fc_10 f) W hW⟩⟩
set_option maxHeartbeats 4000000 in
theorem dready_at {w : World} {g : Nat} {h : CH} {t : Ca V} (x : Int) (k : DC w g h t) (hs : t.fs.length ≤ 100000) :
    Calls Tryz.prog 45 #[.pointer (some ⟨g, 0, none⟩), .int .i64 x] w fun e w' => e = .returned (.int .i64 (pos (readyI t x))) ∧ w = w' := by
  have cF := dfind_at x k hs
  have cB := dblock_at w x
  obtain ⟨hn, -, -⟩ := k.nlen
  obtain ⟨c0, -, -, -⟩ := k.cells
  have Hl := keep k.fs.has
  have Hn := keep hn
  unfold readyI
  generalize t.fs = l at *
  obtain ⟨A, n, c, B, m, d, L, p, e⟩ := h
  simp only at *
  clear hn k
  cases hB : okBl x with
  | false =>
    rw [hB] at cB
    simp only [Bool.false_eq_true, if_false]
    cases hf : findB l x with
    | none =>
      rw [hf] at cF
      have CF := keep cF
      have CB := keep cB
      clear cF cB hf hB
      go_enter Tryz.func45, Tryz.ntmps45
      go_wp2_with (first
        | (go_at_call 63; with_reducible refine CF.out.mono ?_; rintro e w2 ⟨rfl, rfl⟩)
        | (go_at_call 61; with_reducible refine CB.out.mono ?_; rintro e w2 ⟨rfl, rfl⟩)
        | fail)
      go_ret
      exact ⟨rfl, rfl⟩
    | some i =>
      rw [hf] at cF
      have CF := keep (show Calls _ _ _ _ fun e w' => e = .returned (.int .i64 (i : Int)) ∧ w = w' from cF)
      have CB := keep cB
      clear cF cB hf hB
      go_enter Tryz.func45, Tryz.ntmps45
      go_wp2_with (first
        | (go_at_call 63; with_reducible refine CF.out.mono ?_; rintro e w2 ⟨rfl, rfl⟩)
        | (go_at_call 61; with_reducible refine CB.out.mono ?_; rintro e w2 ⟨rfl, rfl⟩)
        | fail)
      go_ret
      exact ⟨rfl, rfl⟩
  | true =>
    rw [hB] at cB
    simp only [if_true]
    cases hf : findB l x with
    | none =>
      rw [hf] at cF
      have CF := keep (show Calls _ _ _ _ fun e w' => e = .returned (.int .i64 (-1)) ∧ w = w' from cF)
      have CB := keep cB
      clear cF cB hf hB
      go_enter Tryz.func45, Tryz.ntmps45
      go_wp2_with (first
        | (go_at_call 63; with_reducible refine CF.out.mono ?_; rintro e w2 ⟨rfl, rfl⟩)
        | (go_at_call 61; with_reducible refine CB.out.mono ?_; rintro e w2 ⟨rfl, rfl⟩)
        | fail)
      go_ret
      exact ⟨rfl, rfl⟩
    | some i =>
      rw [hf] at cF
      have CF := keep (show Calls _ _ _ _ fun e w' => e = .returned (.int .i64 (i : Int)) ∧ w = w' from cF)
      have CB := keep cB
      obtain ⟨f, hfi, -⟩ := idx_at hf
      have hil : i < n := by rw [← Hn.out]; exact (List.getElem?_eq_some_iff.1 hfi).1
      have e0 := fr_of hfi
      simp only [e0]
      obtain ⟨b, off, rfl, hb1, hc⟩ := frame_cells Hl.out (Nat.le_refl _) hfi
      obtain ⟨lX, -⟩ := hc w (fr_refl w)
      have hi0 : ¬ ((i : Int) < 0) := by omega
      have hiz : (i : Int) < (n : Int) := by omega
      clear cF cB hf hB hfi hc e0 hil
      by_cases h2 : f.st = 2
      · have hz : ((f.st : Int) != 2) = false := by simp; omega
        rw [if_pos h2]
        clear h2
        go_enter Tryz.func45, Tryz.ntmps45
        go_wp2_with (first
          | (go_at_call 63; with_reducible refine CF.out.mono ?_; rintro e w2 ⟨rfl, rfl⟩)
          | (go_at_call 61; with_reducible refine CB.out.mono ?_; rintro e w2 ⟨rfl, rfl⟩)
          | fail)
        go_ret
        exact ⟨rfl, rfl⟩
      · have hz : ((f.st : Int) != 2) = true := by simp; omega
        rw [if_neg h2]
        clear h2
        go_enter Tryz.func45, Tryz.ntmps45
        go_wp2_with (first
          | (go_at_call 63; with_reducible refine CF.out.mono ?_; rintro e w2 ⟨rfl, rfl⟩)
          | (go_at_call 61; with_reducible refine CB.out.mono ?_; rintro e w2 ⟨rfl, rfl⟩)
          | fail)
        go_ret
        exact ⟨rfl, rfl⟩
end
end Go.Proofs.YtmoaddbpfekdbaaGreat
