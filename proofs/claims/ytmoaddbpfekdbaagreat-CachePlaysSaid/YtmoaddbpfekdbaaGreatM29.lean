/- Package clock: the document's Order. -/
import Derived.Test.YtmoaddbpfekdbaaGreatM16
import Derived.Test.YtmoaddbpfekdbaaGreatM18
import Derived.Laws.Externs
import Derived.Deep.Cut
import Derived.Test.YtmoaddbpfekdbaaGreatM13
import Derived.Maps.OwnSet
namespace Go.Proofs.YtmoaddbpfekdbaaGreat
set_option linter.unusedVariables false
set_option linter.unusedSimpArgs false
set_option maxRecDepth 100000
open Go.RowKit
/-- The world on the way: who can go, the marks, who went. -/
structure DI (w W : World) (S : Option Addr) (n sc : Nat) (R : Option Addr) (m : Nat) (O : Option Addr) (oc : Nat) (c l : List Bool) (o : List Nat) : Prop where
  fr : Fr w W
  can : ResB w W S n sc c
  ref : HasP W (fun b => ¬ At S b ∧ ¬ At O b) R (rows bc l)
  rlen : l.length = m
  out : ResI w W O o.length oc (oi o)
end Go.Proofs.YtmoaddbpfekdbaaGreat
/- The program's cache: the types of its lists; 'slices.IndexFunc', 'Index', 'Contains'; the closures. -/
namespace Go.Proofs.YtmoaddbpfekdbaaGreat
set_option linter.unusedVariables false
set_option linter.unusedSimpArgs false
set_option maxRecDepth 100000
open Go.RowKit
def sv (x : Int × Int) : Value := .agg (sc x).toArray
theorem want_elem : Elem Tryz.prog 93 2 16 := Elem.of (z := sv (0, 0)) (by kernel_rfl) (by kernel_rfl) (by kernel_rfl) rfl
theorem wants_und : Tryz.prog.underlying 55 = some (.slice 93) := Tryz.underlying55
theorem want_ty : Sty Tryz.prog 93 2 := ⟨by kernel_rfl, ⟨_, Tryz.underlying93, rfl⟩⟩
theorem want_info : (Tryz.prog.info? 93).map (·.size) = some 2 := by kernel_rfl
theorem want_ld (p : Value) : Instr.loadAt 93 p = ldS 93 p := rfl
theorem pfr_ty : Sty Tryz.prog 52 14 := ⟨by kernel_rfl, ⟨_, Tryz.underlying52, rfl⟩⟩
theorem pfr_info : (Tryz.prog.info? 52).map (·.size) = some 14 := by kernel_rfl
theorem pfr_ld (p : Value) : Instr.loadAt 52 p = ldS 52 p := rfl
theorem pfrs_und : Tryz.prog.underlying 46 = some (.slice 52) := Tryz.underlying46
def NoneOf {α : Type} (p : α → Bool) (l : List α) : Prop := ∀ m ∈ l, p m = false
section
variable {V : Type} [NVal V]
/-- The task that has claimed it, as the program tells it. -/
def tk (f : Fra V) : Int := if f.st = 3 then f.own else -1
def pc (f : Fra V) : List Value := .int .i64 (f.st : Int) :: .int .i64 f.blk :: .int .i64 f.pins :: .bool f.ref :: .bool f.dirty :: (NVal.nc f.node ++ [.slice none 0 0, .int .i64 (-1), .slice none 0 0, .int .i64 (tk f)])
def pv (f : Fra V) : Value := .agg (pc f).toArray
theorem pc_len (f : Fra V) : (pc f).length = 14 := by simp [pc, NVal.len]
theorem pc_wid (l : List (Fra V)) : Wid pc 14 l := fun f _ => pc_len f
theorem pc_one (f : Fra V) : One (pc f) := .cons rfl (.cons rfl (.cons rfl (.cons rfl (.cons rfl (.app (NVal.one _) (.cons rfl (.cons rfl (.cons rfl (.cons rfl .nil)))))))))
theorem pc_0 (f : Fra V) : (pc f)[0]? = some (.int .i64 (f.st : Int)) := rfl
theorem pc_1 (f : Fra V) : (pc f)[1]? = some (.int .i64 f.blk) := rfl
theorem pc_2 (f : Fra V) : (pc f)[2]? = some (.int .i64 f.pins) := rfl
theorem pc_3 (f : Fra V) : (pc f)[3]? = some (.bool f.ref) := rfl
theorem pc_4 (f : Fra V) : (pc f)[4]? = some (.bool f.dirty) := rfl
theorem pc_13 (f : Fra V) : (pc f)[13]? = some (.int .i64 (tk f)) := by
  show (NVal.nc f.node ++ [Value.slice none 0 0, .int .i64 (-1), .slice none 0 0, .int .i64 (tk f)])[8]? = _
  rw [List.getElem?_append_right (by rw [NVal.len]; decide), NVal.len]
  rfl
theorem pc_node (f : Fra V) : ((pc f).drop 5).take 5 = NVal.nc f.node := by
  show (NVal.nc f.node ++ [Value.slice none 0 0, .int .i64 (-1), .slice none 0 0, .int .i64 (tk f)]).take 5 = _
  rw [← NVal.len f.node, List.take_left]
end
theorem w_sz (w : World) : (sizeOf (Tryz.prog.elem 55)).run Tryz.prog w = .ok 2 w := by kernel_rfl
theorem w_el : Tryz.prog.underlying 55 = some (.slice (Tryz.prog.elem 55)) := by kernel_rfl
theorem w_slice_hi (A : Option Addr) (n c t : Nat) (ht : t ≤ c) (W : World) : (Instr.slice 55 (.slice A n c) none (some (.int .i64 (t : Int))) none).run Tryz.prog W = .ok (.slice A t c) W := by
  rw [run_slice_h (P := Tryz.prog) (w := W) (t := 55) (ht := w_el) A n c .i64 (t : Int) (by omega) (by omega), w_sz]
  have h0 : A.map (·.add 0) = A := by cases A <;> simp [Addr.add]
  simp only [Result.andThen, sliced, Int.toNat_natCast, Nat.zero_mul, h0, Nat.sub_zero, ite_self]
theorem w_slice_lo (A : Option Addr) (n c t : Nat) (ht : t ≤ n) (W : World) : (Instr.slice 55 (.slice A n c) (some (.int .i64 (t : Int))) none none).run Tryz.prog W = .ok (.slice (lowB 2 A c t) (n - t) (c - t)) W := by
  rw [run_slice_l (P := Tryz.prog) (w := W) (t := 55) (ht := w_el) A n c .i64 (t : Int) (by omega) (by omega), w_sz]
  simp only [Result.andThen, sliced, Int.toNat_natCast, lowB]
attribute [local go_sem ↓] want_ld pfr_ld
set_option maxHeartbeats 2000000 in
theorem w_index {w : World} {A : Option Addr} {n c B : Nat} {l : List (Int × Int)} (p : (Int × Int) → Bool) (g : Nat) (cb : Array Value) (eg : ∀ args w, (callFunc g args).run Tryz.prog w = .ok (.enter g args) w)
    (hl : Has w B A (rows sc l)) (hB : B ≤ w.heap.size) (hn : l.length = n) (hsm : n ≤ 100000)
    (hp : ∀ W m, Fr w W → Calls Tryz.prog g (#[sv m] ++ cb) W fun e w' => e = .returned (.bool (p m)) ∧ Fr W w') :
    Calls Tryz.prog 83 #[.slice A n c, .func (.func g) #[] cb] w fun e w' => Fr w w' ∧ ((e = .returned (.int .i64 (-1)) ∧ Hid (NoneOf p l)) ∨ ∃ k : Nat, e = .returned (.int .i64 k) ∧ Hid (∃ m, l[k]? = some m ∧ p m = true ∧ ∀ t x, t < k → l[t]? = some x → p x = false)) := by
  have Hl := keep hl
  have Hn := keep hn
  have Hp := keep hp
  clear hl hn hp
  go_enter Tryz.func83, Tryz.ntmps83
  go_wp2_with fail
  go_loopg [5, 8] n (fun gg _ s8 wr => ∃ j : Nat, j + gg = n ∧ s8 = .int .i64 j ∧ Hid (Fr w wr) ∧ Hid (∀ t x, t < j → l[t]? = some x → p x = false))
  case atStart => exact ⟨0, by omega, rfl, keep (fr_refl w), keep (fun t x h => by omega)⟩
  case round =>
    obtain ⟨j, hj, rfl, hF, hno⟩ := hrel
    by_cases hlt : j < n
    · have hm : l[j]? = some (l[j]'(by rw [Hn.out]; exact hlt)) := List.getElem?_eq_getElem _
      generalize l[j]'(by rw [Hn.out]; exact hlt) = m at hm
      obtain ⟨b, off, rfl, hb1, hr⟩ := has_rows Hl.out (sc_wid l) (by decide) (by intro e; rw [e] at hm; simp at hm)
      have lX := elem_ld want_ty hr (sc_wid l) (by omega) hm
      have hc := Hp.out wr m hF.out
      have Hm := keep hm
      have hF1 := hF.out
      have hjz : (j : Int) < (n : Int) := by omega
      clear hm hr hlt
      cases hq : p m with
      | true =>
        rw [hq] at hc
        go_wp2_with (first | (go_at_fn g; refine hc.mono ?_; rintro e w' ⟨rfl, hz⟩) | fail)
        go_ret
        exact ⟨fr_step hF1 hz, .inr ⟨j, rfl, keep ⟨m, Hm.out, hq, hno.out⟩⟩⟩
      | false =>
        rw [hq] at hc
        have Hq := keep hq
        clear hq
        go_wp2_with (first | (go_at_fn g; refine hc.mono ?_; rintro e w' ⟨rfl, hz⟩) | fail)
        go_roundg (gk - 1)
        case measure => omega
        case rel => exact ⟨j + 1, by omega, rfl, keep (fr_step hF1 hz), keep (fun t x ht hx => by
          by_cases e : t = j
          · subst e
            rw [Hm.out] at hx
            injection hx with hx
            rw [← hx]; exact Hq.out
          · exact hno.out t x (by omega) hx)⟩
    · have hjn : j = n := by omega
      have hjz : ¬ (j : Int) < (n : Int) := by omega
      clear hlt
      go_wp2_with fail
      go_ret
      refine ⟨hF.out, .inl ⟨rfl, keep fun m hm => ?_⟩⟩
      obtain ⟨t, ht, e⟩ := List.mem_iff_getElem.1 hm
      exact hno.out t m (by rw [hjn, ← Hn.out]; exact ht) (by rw [List.getElem?_eq_getElem ht, e])
section
variable {V : Type} [NVal V]
set_option maxHeartbeats 2000000 in
theorem f_index {w : World} {A : Option Addr} {n c B : Nat} {l : List (Fra V)} (p : Fra V → Bool) (g : Nat) (cb : Array Value) (eg : ∀ args w, (callFunc g args).run Tryz.prog w = .ok (.enter g args) w)
    (hl : Has w B A (rows pc l)) (hB : B ≤ w.heap.size) (hn : l.length = n) (hsm : n ≤ 100000)
    (hp : ∀ W m, Fr w W → Calls Tryz.prog g (#[pv m] ++ cb) W fun e w' => e = .returned (.bool (p m)) ∧ Fr W w') :
    Calls Tryz.prog 85 #[.slice A n c, .func (.func g) #[] cb] w fun e w' => Fr w w' ∧ ((e = .returned (.int .i64 (-1)) ∧ Hid (NoneOf p l)) ∨ ∃ k : Nat, e = .returned (.int .i64 k) ∧ Hid (∃ m, l[k]? = some m ∧ p m = true ∧ ∀ t x, t < k → l[t]? = some x → p x = false)) := by
  have Hl := keep hl
  have Hn := keep hn
  have Hp := keep hp
  clear hl hn hp
  go_enter Tryz.func85, Tryz.ntmps85
  go_wp2_with fail
  go_loopg [5, 8] n (fun gg _ s8 wr => ∃ j : Nat, j + gg = n ∧ s8 = .int .i64 j ∧ Hid (Fr w wr) ∧ Hid (∀ t x, t < j → l[t]? = some x → p x = false))
  case atStart => exact ⟨0, by omega, rfl, keep (fr_refl w), keep (fun t x h => by omega)⟩
  case round =>
    obtain ⟨j, hj, rfl, hF, hno⟩ := hrel
    by_cases hlt : j < n
    · have hm : l[j]? = some (l[j]'(by rw [Hn.out]; exact hlt)) := List.getElem?_eq_getElem _
      generalize l[j]'(by rw [Hn.out]; exact hlt) = m at hm
      obtain ⟨b, off, rfl, hb1, hr⟩ := has_rows Hl.out (pc_wid l) (by decide) (by intro e; rw [e] at hm; simp at hm)
      have lX := elem_ld pfr_ty hr (pc_wid l) (by omega) hm
      have hc := Hp.out wr m hF.out
      have Hm := keep hm
      have hF1 := hF.out
      have hjz : (j : Int) < (n : Int) := by omega
      clear hm hr hlt
      cases hq : p m with
      | true =>
        rw [hq] at hc
        go_wp2_with (first | (go_at_fn g; refine hc.mono ?_; rintro e w' ⟨rfl, hz⟩) | fail)
        go_ret
        exact ⟨fr_step hF1 hz, .inr ⟨j, rfl, keep ⟨m, Hm.out, hq, hno.out⟩⟩⟩
      | false =>
        rw [hq] at hc
        have Hq := keep hq
        clear hq
        go_wp2_with (first | (go_at_fn g; refine hc.mono ?_; rintro e w' ⟨rfl, hz⟩) | fail)
        go_roundg (gk - 1)
        case measure => omega
        case rel => exact ⟨j + 1, by omega, rfl, keep (fr_step hF1 hz), keep (fun t x ht hx => by
          by_cases e : t = j
          · subst e
            rw [Hm.out] at hx
            injection hx with hx
            rw [← hx]; exact Hq.out
          · exact hno.out t x (by omega) hx)⟩
    · have hjn : j = n := by omega
      have hjz : ¬ (j : Int) < (n : Int) := by omega
      clear hlt
      go_wp2_with fail
      go_ret
      refine ⟨hF.out, .inl ⟨rfl, keep fun m hm => ?_⟩⟩
      obtain ⟨t, ht, e⟩ := List.mem_iff_getElem.1 hm
      exact hno.out t m (by rw [hjn, ← Hn.out]; exact ht) (by rw [List.getElem?_eq_getElem ht, e])
end
set_option maxHeartbeats 1000000 in
theorem cl_place {W : World} {tb : Nat} {t : Int} (hT : Arr W tb 3 #[.int .i64 t]) (x : (Int × Int)) :
    Calls Tryz.prog 84 #[sv x, .pointer (some ⟨tb, 0, none⟩)] W fun e w' => e = .returned (.bool (decide (x.1 = t))) ∧ Fr W w' := by
  obtain ⟨Z, hZ, hF, hX, hS⟩ : ∃ Z, W.alloc (.cells (sc x).toArray 93) = Z ∧ Fr W Z ∧ Arr Z W.heap.size 93 (sc x).toArray ∧ Z.heap.size = W.heap.size + 1 := ⟨_, rfl, fr_new (fr_refl W) _, Arr.new W _ _, by simp⟩
  have d0 := hX.cell 0
  have d1 := (hT.below hF hT.lt).cell 0
  simp only [List.getElem?_toArray, List.getElem?_cons_zero, sc] at d0 d1
  clear hX hT
  unfold sv
  by_cases h : x.1 = t
  · subst h
    go_enter Tryz.func84, Tryz.ntmps84
    go_wp2_with fail
    go_ret
    exact ⟨by simp, hF⟩
  · have h2 : (x.1 == t) = false := by simpa using h
    go_enter Tryz.func84, Tryz.ntmps84
    go_wp2_with fail
    go_ret
    exact ⟨by simp [h], hF⟩
set_option maxHeartbeats 1000000 in
theorem cl_leave {W : World} {tb : Nat} {t : Int} (hT : Arr W tb 3 #[.int .i64 t]) (x : (Int × Int)) :
    Calls Tryz.prog 88 #[sv x, .pointer (some ⟨tb, 0, none⟩)] W fun e w' => e = .returned (.bool (decide (x.1 = t))) ∧ Fr W w' := by
  obtain ⟨Z, hZ, hF, hX, hS⟩ : ∃ Z, W.alloc (.cells (sc x).toArray 93) = Z ∧ Fr W Z ∧ Arr Z W.heap.size 93 (sc x).toArray ∧ Z.heap.size = W.heap.size + 1 := ⟨_, rfl, fr_new (fr_refl W) _, Arr.new W _ _, by simp⟩
  have d0 := hX.cell 0
  have d1 := (hT.below hF hT.lt).cell 0
  simp only [List.getElem?_toArray, List.getElem?_cons_zero, sc] at d0 d1
  clear hX hT
  unfold sv
  by_cases h : x.1 = t
  · subst h
    go_enter Tryz.func88, Tryz.ntmps88
    go_wp2_with fail
    go_ret
    exact ⟨by simp, hF⟩
  · have h2 : (x.1 == t) = false := by simpa using h
    go_enter Tryz.func88, Tryz.ntmps88
    go_wp2_with fail
    go_ret
    exact ⟨by simp [h], hF⟩
end Go.Proofs.YtmoaddbpfekdbaaGreat
/- The program's cache: 'slices.DeleteFunc' of those who want. -/
namespace Go.Proofs.YtmoaddbpfekdbaaGreat
set_option linter.unusedVariables false
set_option linter.unusedSimpArgs false
set_option maxRecDepth 100000
open Go.RowKit
/-- What has been kept, j looked at: i of them, ahead. -/
structure DelW {α : Type} (p : α → Bool) (l l' : List α) (i j : Nat) : Prop where
  lt : i < j
  len : l'.length = l.length
  low : l'.take i = (l.take j).filter fun m => !p m
  high : l'.drop j = l.drop j
section
variable {α : Type} {p : α → Bool} {l l' : List α} {i j k : Nat} {m : α}
theorem take_onew (hm : l[j]? = some m) : l.take (j + 1) = l.take j ++ [m] := by
  rw [List.take_add_one, hm]; rfl
theorem DelW.at (h : DelW p l l' i j) : l'[j]? = l[j]? := by
  have := congrArg (fun q => q[0]?) h.high
  simpa using this
theorem DelW.skip (h : DelW p l l' i j) (hm : l[j]? = some m) (hp : p m = true) : DelW p l l' i (j + 1) where
  lt := by have := h.lt; omega
  len := h.len
  low := by rw [take_onew hm, List.filter_append, h.low]; simp [hp]
  high := by rw [← List.drop_drop, ← List.drop_drop, h.high]
theorem DelW.keep (h : DelW p l l' i j) (hm : l[j]? = some m) (hp : p m = false) : DelW p l (l'.set i m) (i + 1) (j + 1) where
  lt := by have := h.lt; omega
  len := by rw [List.length_set, h.len]
  low := by
    have hj := (List.getElem?_eq_some_iff.1 hm).1
    have hi : i < l'.length := by have := h.lt; have := h.len; omega
    have e : (l'.set i m)[i]? = some m := by simp [hi]
    rw [take_onew e, List.take_set_of_le (Nat.le_refl _), h.low, take_onew hm, List.filter_append]
    simp [hp]
  high := by
    rw [List.drop_set_of_lt (by have := h.lt; omega), ← List.drop_drop, ← List.drop_drop, h.high]
theorem DelW.start (hm : l[k]? = some m) (hp : p m = true) (hno : ∀ t x, t < k → l[t]? = some x → p x = false) : DelW p l l k (k + 1) where
  lt := Nat.lt_succ_self _
  len := rfl
  low := by
    rw [take_onew hm, List.filter_append]
    have : (l.take k).filter (fun m => !p m) = l.take k := List.filter_eq_self.2 fun x hx => by
      obtain ⟨t, ht, e⟩ := List.mem_iff_getElem.1 hx
      have h3 : (l.take k)[t]? = some x := by rw [List.getElem?_eq_getElem ht, e]
      rw [List.getElem?_take] at h3
      split at h3
      · rename_i h4; simp [hno t x h4 h3]
      · cases h3
    rw [this]
    simp [hp]
  high := rfl
theorem DelW.done (h : DelW p l l' i l.length) : l'.take i = l.filter fun m => !p m := by
  have := h.low
  rwa [List.take_of_length_le (Nat.le_refl _)] at this
end
theorem want_zero : ∃ i, Tryz.prog.info? 93 = some i ∧ i.zero = some (sv (0, 0)) := by
  have e1 : (Tryz.prog.info? 93).bind (·.zero) = some (sv (0, 0)) := by kernel_rfl
  cases h : Tryz.prog.info? 93 with
  | none => rw [h] at e1; cases e1
  | some i =>
    rw [h] at e1
    exact ⟨i, rfl, by simpa using e1⟩
attribute [local go_sem ↓] want_ld
set_option maxHeartbeats 4000000 in
theorem w_delete {w : World} {A : Option Addr} {n c f : Nat} {l : List (Int × Int)} (p : (Int × Int) → Bool) (cb : Array Value) (eg : ∀ args w, (callFunc f args).run Tryz.prog w = .ok (.enter f args) w) (ho : Rw w 93 2 A n c (rows sc l)) (hn : l.length = n) (hsm : n ≤ 100000)
    (hp : ∀ W m, Chg (At A) w W → Calls Tryz.prog f (#[sv m] ++ cb) W fun e w' => e = .returned (.bool (p m)) ∧ Fr W w') :
    Calls Tryz.prog 87 #[.slice A n c, .func (.func f) #[] cb] w fun e w' => ∃ n', e = .returned (.slice A n' c) ∧ Hid (n' = (l.filter fun m => !p m).length ∧ Rw w' 93 2 A n' c (rows sc (l.filter fun m => !p m)) ∧ Chg (At A) w w') := by
  have cI := w_index (c := c) p f cb eg ho.has (Nat.le_refl _) hn hsm (fun W m hW => hp W m (.of_fr _ hW))
  have Ho := keep ho
  have Hn := keep hn
  have Hp := keep hp
  clear ho hn hp
  go_enter Tryz.func87, Tryz.ntmps87
  go_wp2_with fail
  refine cI.mono ?_
  rintro e w1 ⟨hz, ⟨rfl, hno⟩ | ⟨k, rfl, hk⟩⟩
  · replace hno := hno.out
    have hf : l.filter (fun m => !p m) = l := List.filter_eq_self.2 fun x hx => by simp [hno x hx]
    have Hf := keep hf
    clear hno hf cI
    go_wp2_with fail
    go_ret
    exact ⟨n, rfl, keep ⟨by rw [Hf.out, Hn.out], by rw [Hf.out]; exact Ho.out.fr hz, .of_fr _ hz⟩⟩
  · obtain ⟨m, hk, hpm, hno⟩ := hk.out
    have hkn : k < n := by rw [← Hn.out]; exact (List.getElem?_eq_some_iff.1 hk).1
    have HI := keep (DelW.start hk hpm hno)
    have hk1 : ¬ ((k : Int) = -1) := by omega
    have HO1 : Hid (Rw w1 93 2 A n c (rows sc l)) := keep (Ho.out.fr hz)
    have HB1 : Hid (Chg (At A) w w1) := keep (.of_fr _ hz)
    obtain ⟨g, o, rfl⟩ := HO1.out.addr (by omega)
    clear hk hpm hno cI
    go_wp2_with fail
    go_loopg [5, 6] n (fun gg s5 s6 wr => ∃ (i j : Nat) (l' : List (Int × Int)), j ≤ n ∧ n - j ≤ gg ∧ s5 = .int .i64 i ∧ s6 = .int .i64 j ∧ Hid (DelW p l l' i j) ∧ Hid (Rw wr 93 2 (some ⟨g, o, none⟩) n c (rows sc l')) ∧ Hid (Chg (At (some ⟨g, o, none⟩)) w wr))
    case atStart => exact ⟨k, k + 1, l, hkn, by omega, rfl, rfl, HI, HO1, HB1⟩
    case round =>
      clear HI HO1 HB1
      obtain ⟨i, j, l', hjn, hjg, rfl, rfl, HI, HO, HB⟩ := hrel
      have hij := HI.out.lt
      by_cases hlt : j < n
      · have hm : l[j]? = some (l[j]'(by rw [Hn.out]; exact hlt)) := List.getElem?_eq_getElem _
        generalize l[j]'(by rw [Hn.out]; exact hlt) = m at hm
        have hm' : l'[j]? = some m := by rw [HI.out.at, hm]
        have hr : wr.rangeAt g o (rows sc l') := fun t v ht => by
          obtain ⟨b, off, e, -, hc⟩ := HO.out.has t v ht
          injection e with e
          injection e with e1 e2
          subst e1 e2
          exact hc
        have hgl := HO.out.lt g rfl
        have lX := elem_ld want_ty hr (sc_wid l') hgl hm'
        have Hm := keep hm
        have hrr := fr_refl wr
        have hjz : (j : Int) < (n : Int) := by omega
        have Hln : Hid (l'.length = n) := keep (by rw [HI.out.len, Hn.out])
        have cD := fun W (h : Fr wr W) => Hp.out W m (HB.out.fr h)
        clear hm hm' hr hlt
        cases hq : p m with
        | true =>
          rw [hq] at cD
          have Hq := keep hq
          clear hq
          go_wp2_with (first
            | (refine wpList_store_at (ds := sc m) want_info rfl (.tmp 7) (.tmp 25) rfl wr.heap.size 0 rfl rfl rfl (sc_one _) (Arr.new wr (sc (0, 0)).toArray 93) (Nat.le_refl 2) (splice_all _ _ (Nat.le_refl 2)) ?_; intro W5 hM5 hk5; have hF5 := hk5.fr (fr_new hrr _) (Nat.le_refl _); clear hk5; have lM := fun W (h : Fr W5 W) => want_ty.ld (cs := sc m) rfl (hM5.below h hM5.lt); have h55 := fr_refl W5)
            | fail)
          refine (cD _ (by assumption)).mono ?_
          rintro e w9 ⟨rfl, hz9⟩
          have hF9 := fr_step hF5 hz9
          go_wp2_with fail
          go_roundg (gk - 1)
          case measure => omega
          case rel => exact ⟨i, j + 1, l', by omega, by omega, rfl, rfl, keep (HI.out.skip Hm.out Hq.out), keep (HO.out.fr hF9), keep (HB.out.fr hF9)⟩
        | false =>
          rw [hq] at cD
          have Hq := keep hq
          clear hq
          have hin : (i : Int) < (n : Int) := by omega
          go_wp2_with (first
            | (refine wpList_store_at (ds := sc m) want_info rfl (.tmp 7) (.tmp 25) rfl wr.heap.size 0 rfl rfl rfl (sc_one _) (Arr.new wr (sc (0, 0)).toArray 93) (Nat.le_refl 2) (splice_all _ _ (Nat.le_refl 2)) ?_; intro W5 hM5 hk5; have hF5 := hk5.fr (fr_new hrr _) (Nat.le_refl _); clear hk5; have lM := fun W (h : Fr W5 W) => want_ty.ld (cs := sc m) rfl (hM5.below h hM5.lt); have h55 := fr_refl W5)
            | fail)
          refine (cD _ (by assumption)).mono ?_
          rintro e w9 ⟨rfl, hz9⟩
          have hF9 := fr_step hF5 hz9
          have HO9 := keep (HO.out.fr hF9)
          go_wp2_with (first
            | (refine wpList_store_rw (cf := sc) (x := m) (j := i) want_info rfl (.tmp 33) (.tmp 32) rfl rfl rfl rfl (sc_one _) HO9.out (sc_wid _) Hln.out (by omega) ?_; intro W10 ho10 hb10)
            | fail)
          go_roundg (gk - 1)
          case measure => omega
          case rel => exact ⟨i + 1, j + 1, l'.set i m, by omega, by omega, rfl, rfl, keep (HI.out.keep Hm.out Hq.out), keep ho10, keep ((HB.out.fr hF9).trans' hb10 fun x _ hx => by subst hx; rfl)⟩
      · have hjn2 : j = n := by omega
        have hjz : ¬ (j : Int) < (n : Int) := by omega
        have hdone : l'.take i = l.filter fun m => !p m := DelW.done (by rw [hjn2, ← Hn.out] at HI; exact HI.out)
        have hlen : (l'.take i).length = i := by rw [List.length_take, HI.out.len, Hn.out]; omega
        obtain ⟨inf, hinf, hz0⟩ := want_zero
        have hin : i < n := by omega
        obtain ⟨w2, ys, hr, ho2, hg2⟩ := rw_clear (P := Tryz.prog) (size := 2) wr 55 0 wants_und hinf hz0 rfl (sc_one _) HO.out i (c - i) hin
        have hpre := ho2.pre (Nat.le_of_lt hin)
        have e1 : (((rows sc l').take (i * 2)) ++ ys).take (i * 2) = rows sc (l'.take i) := by
          rw [List.take_left' (by rw [List.length_take, rows_len (sc_wid l'), HI.out.len, Hn.out]; omega), ← rows_take (sc_wid l')]
        rw [e1, hdone] at hpre
        rw [hdone] at hlen
        have Hpre := keep hpre
        have Hlen := keep hlen
        have hnc := HO.out.cap
        have q1 := w_slice_lo (some ⟨g, o, none⟩) n c i (by omega)
        rw [lowB_some (by omega)] at q1
        have q2 := w_slice_hi (some ⟨g, o, none⟩) n c i (by omega)
        have Hb : Hid (Chg (At (some ⟨g, o, none⟩)) w w2) := keep (HB.out.trans' hg2 fun x _ hx => by subst hx; rfl)
        clear hlt hjn2 hdone hlen hinf hz0 hpre e1 ho2 hg2 inf HI HO HB
        go_wp2_with (first
          | (refine wpList_clear_run _ rfl (.tmp 38) 55 rfl _ rfl hr ?_)
          | fail)
        go_ret
        exact ⟨i, rfl, keep ⟨Hlen.out.symm, Hpre.out, Hb.out⟩⟩
end Go.Proofs.YtmoaddbpfekdbaaGreat
/- A map from numbers to numbers of a call's own: what stands at a number. No program text. -/
namespace Go.Proofs.YtmoaddbpfekdbaaGreat
set_option linter.unusedVariables false
set_option linter.unusedSimpArgs false
open Go.RowKit
open Go.Maps (Keyed)
/-- A number of 64 bits. -/
def W64 (z : Int) : Prop := -9223372036854775808 ≤ z ∧ z ≤ 9223372036854775807
theorem W64.wf {z : Int} (h : W64 z) : (Lit.int .i64 z).wf = true := by
  obtain ⟨h1, h2⟩ := h
  simp only [Lit.wf, IntKind.min, IntKind.max, IntKind.signed, IntKind.bits, Bool.and_eq_true, decide_eq_true_eq]
  exact ⟨h1, h2⟩
/-- Block m is a map of at most K entries: at b stands F b. -/
def PMap (P : Program) (k e : TypeId) (w : World) (m K : Nat) (F : Int → Option Nat) : Prop :=
  ∃ D : DataW Unit, w.ownsMap P k (plainElem P e) m K D ∧ ∀ b, W64 b → Maps.has D (.int .i64 b) = (F b).isSome ∧ ∀ i : Nat, F b = some i → D.atKey (.int .i64 b) (.lit (.int .i64 0)) = .lit (.int .i64 i)
section
variable {P : Program} {k e t : TypeId} {w W : World} {m K : Nat} {F : Int → Option Nat} {X : Nat → Prop}
theorem PMap.lt (h : PMap P k e w m K F) : m < w.heap.size := by obtain ⟨D, h, _⟩ := h; exact h.lt
theorem PMap.chg (h : PMap P k e w m K F) (c : Chg X w W) (hx : ¬ X m) : PMap P k e W m K F := by
  have hlt := h.lt
  obtain ⟨D, ⟨es, clock, hb, r⟩, h2⟩ := h
  exact ⟨D, ⟨es, clock, (c.block m hlt hx).trans hb, r⟩, h2⟩
theorem PMap.mono (h : PMap P k e w m K F) {K' : Nat} (hk : K ≤ K') : PMap P k e w m K' F := by
  obtain ⟨D, h, h2⟩ := h
  exact ⟨D, h.mono hk, h2⟩
theorem PMap.eq {G : Int → Option Nat} (h : PMap P k e w m K F) (hg : ∀ b, W64 b → G b = F b) : PMap P k e w m K G := by
  obtain ⟨D, h, h2⟩ := h
  exact ⟨D, h, fun b hb => by rw [hg b hb]; exact h2 b hb⟩
theorem PMap.new (P : Program) (k e : TypeId) (w : World) : PMap P k e (w.alloc (.map #[] 0)) w.heap.size 0 fun _ => none :=
  ⟨.map [], World.ownsMap_made w P k _, fun b _ => ⟨rfl, fun i h => absurd h (by simp)⟩⟩
theorem PMap.ty (h : PMap P k e w m K F) {T : Nat} {cs : Array Value} {g : Nat} (ha : Arr w g T cs) : g ≠ m := by
  rintro rfl
  obtain ⟨D, ⟨es, clock, hb, r⟩, h2⟩ := h
  have hb2 : w.heap[g]? = some (.cells cs T (0, 0)) := ha
  rw [hb2] at hb
  cases hb
theorem chg_turned {b : Nat} (h : w.mapTurned W b) : Chg (· = b) w W := by
  have := h.grown
  exact ⟨this.os, this.tape, this.output, this.size, fun i hi n => this.block i hi (fun e => n (by first | exact Option.some.inj e | exact (Option.some.inj e).symm))⟩
section
variable {ops : Array Oper} {rest : List Oper} {o : Oper} {a : Act} {Q : Exit → Act → World → Prop}
/-- 'v, ok := m[b]'. -/
theorem wpList_look_pm (hg : o.guard = none) (p x : Operand) (t : TypeId) (hop : o.op = Op.lookup t p x true) (hk : P.underlying k = some (.int .i64)) (ht : P.underlying t = some (.map k e)) (he : P.underlying e = some (.int .i64)) (hz : (zeroValue e).run P w = .ok (.int .i64 0) w)
    (hm : a.eval p = .map (some m)) (h : PMap P k e w m K F) (b : Int) (hb : W64 b) (hx : a.eval x = .int .i64 b)
    (hK : wpList P ops Q rest (a.put o.dst (.tuple #[.int .i64 ((F b).getD 0 : Nat), .bool (F b).isSome])) w) : wpList P ops Q (o :: rest) a w := by
  obtain ⟨D, h1, h2⟩ := h
  obtain ⟨h3, h4⟩ := h2 b hb
  refine wpList_lookup_own_ok_int (H := Unit) w hg p x t hop k e .i64 (Maps.int_keyed hk) ht he hz m K D hm h1 (.int .i64 b) (.int .i64 b) hx (Maps.keyOf_int_mk hk hb.wf) fun c hc _ => ?_
  rw [h3]
  have e9 : c = ((F b).getD 0 : Nat) := by
    cases hf : F b with
    | none =>
      rw [hf] at h3
      rw [Maps.atKey_of_not_has h3] at hc
      injection hc with hc
      injection hc with _ hc
      exact hc.symm
    | some i =>
      rw [h4 i hf] at hc
      injection hc with hc
      injection hc with _ hc
      exact hc.symm
  rw [e9]
  exact hK
theorem wpList_look_yes (hg : o.guard = none) (p x : Operand) (t : TypeId) (hop : o.op = Op.lookup t p x true) (hk : P.underlying k = some (.int .i64)) (ht : P.underlying t = some (.map k e)) (he : P.underlying e = some (.int .i64)) (hz : ∀ w, (zeroValue e).run P w = .ok (.int .i64 0) w)
    (hm : a.eval p = .map (some m)) (h : PMap P k e w m K F) (b : Int) (hb : W64 b) (hx : a.eval x = .int .i64 b) {i : Nat} (hi : F b = some i)
    (hK : wpList P ops Q rest (a.put o.dst (.tuple #[.int .i64 i, .bool true])) w) : wpList P ops Q (o :: rest) a w :=
  wpList_look_pm hg p x t hop hk ht he (hz w) hm h b hb hx (by rw [hi]; exact hK)
theorem wpList_look_no (hg : o.guard = none) (p x : Operand) (t : TypeId) (hop : o.op = Op.lookup t p x true) (hk : P.underlying k = some (.int .i64)) (ht : P.underlying t = some (.map k e)) (he : P.underlying e = some (.int .i64)) (hz : ∀ w, (zeroValue e).run P w = .ok (.int .i64 0) w)
    (hm : a.eval p = .map (some m)) (h : PMap P k e w m K F) (b : Int) (hb : W64 b) (hx : a.eval x = .int .i64 b) (hi : F b = none)
    (hK : wpList P ops Q rest (a.put o.dst (.tuple #[.int .i64 0, .bool false])) w) : wpList P ops Q (o :: rest) a w :=
  wpList_look_pm hg p x t hop hk ht he (hz w) hm h b hb hx (by rw [hi]; exact hK)
theorem litne {b b' : Int} (h : b' ≠ b) : (Lit.int .i64 b') ≠ (Lit.int .i64 b) := fun e => h (by injection e)
theorem isKey (hk : P.underlying k = some (.int .i64)) {b : Int} (hb : W64 b) : WideAt.IsKeyLit (.int .i64 b) := (Maps.int_keyed hk).key (Maps.keyOf_int_mk hk hb.wf)
/-- 'm[b] = i'. -/
theorem wpList_put_pm (hg : o.guard = none) (p x v : Operand) (t : TypeId) (hop : o.op = Op.mapUpdate t p x v) (hk : P.underlying k = some (.int .i64)) (ht : P.underlying t = some (.map k e)) (he : P.underlying e = some (.int .i64))
    (hm : a.eval p = .map (some m)) (h : PMap P k e w m K F) (hn : K < maxLen) (b : Int) (hb : W64 b) (hx : a.eval x = .int .i64 b) (i : Nat) (hi : W64 i) (hv : a.eval v = .int .i64 i)
    (hK : ∀ w', PMap P k e w' m (K + 1) (fun c => if c = b then some i else F c) → Chg (· = m) w w' → wpList P ops Q rest (a.put o.dst undef) w') : wpList P ops Q (o :: rest) a w := by
  obtain ⟨D, h1, h2⟩ := h
  refine wpList_mapUpdate_in (H := Unit) w hg p x v t hop k e (Maps.int_keyed hk) ht (plainElem P e) m K D hm h1 hn (.int .i64 b) (.int .i64 i) (.int .i64 b) hx hv (Maps.keyOf_int_mk hk hb.wf) (.lit (.int .i64 i)) [] (plainElem_int he hi.wf) fun w' h3 h4 => hK w' ⟨_, h3, fun c hc => ?_⟩ (chg_turned h4)
  by_cases e9 : c = b
  · subst e9
    simp only [if_true]
    refine ⟨Maps.has_put_same h1.isMap (isKey hk hc) _, fun j hj => ?_⟩
    injection hj with hj
    subst hj
    exact Maps.atKey_put_same h1.isMap (isKey hk hc) _ _
  · simp only [if_neg e9]
    rw [Maps.has_put_other (litne e9), Maps.atKey_put_other (litne e9)]
    exact h2 c hc
/-- 'delete(m, b)'. -/
theorem wpList_del_pm (hg : o.guard = none) (p x : Operand) (t : TypeId) (hop : o.op = Op.call { callee := Callee.builtin Builtin.delete, args := #[p, x], argTypes := #[t, k] }) (hk : P.underlying k = some (.int .i64)) (ht : P.underlying t = some (.map k e))
    (hm : a.eval p = .map (some m)) (h : PMap P k e w m K F) (b : Int) (hb : W64 b) (hx : a.eval x = .int .i64 b)
    (hK : ∀ w', PMap P k e w' m K (fun c => if c = b then none else F c) → Chg (· = m) w w' → wpList P ops Q rest (a.put o.dst (.tuple #[])) w') : wpList P ops Q (o :: rest) a w := by
  obtain ⟨D, h1, h2⟩ := h
  refine wpList_delete_own (H := Unit) w hg p x t k hop e (Maps.int_keyed hk) ht (plainElem P e) m K D hm h1 (.int .i64 b) (.int .i64 b) hx (Maps.keyOf_int_mk hk hb.wf) fun w' h3 h4 => hK w' ⟨_, h3, fun c hc => ?_⟩ (chg_turned h4)
  by_cases e9 : c = b
  · subst e9
    simp only [if_true]
    exact ⟨Maps.has_del_same, fun j hj => by cases hj⟩
  · simp only [if_neg e9]
    rw [Maps.has_del_other (litne e9), Maps.atKey_del_other (litne e9)]
    exact h2 c hc
end
end
end Go.Proofs.YtmoaddbpfekdbaaGreat
