/- Kids and pivots: rows of numbers, rows of keys; which are valid. -/
import Derived.Test.YtcdcaanmmbopbaaOrP
import Derived.Deep.RegionLaw
import Derived.Deep.RegionWith
import Derived.Deep.RegionHeld3
import Derived.Deep.QuietTactic
import Derived.BigQuiet
namespace Go.Proofs.Ytcdcaanmmbopbaa
set_option maxRecDepth 100000
open Go.RowKit
set_option linter.unusedVariables false
attribute [local go_sem ↓] key_ld msg_ld
def ints (l : List Int) : List Value := l.map (Value.int .i64)
theorem ints_get {l : List Int} {j : Nat} {v : Int} (h : l[j]? = some v) : (ints l)[j]? = some (.int .i64 v) := by rw [ints, List.getElem?_map, h]; rfl
theorem ints_len (l : List Int) : (ints l).length = l.length := by simp [ints]
theorem ints_app (a b : List Int) : ints (a ++ b) = ints a ++ ints b := by simp [ints]
theorem ints_take (l : List Int) (k : Nat) : ints (l.take k) = (ints l).take k := by simp [ints, List.map_take]
theorem ints_drop (l : List Int) (k : Nat) : ints (l.drop k) = (ints l).drop k := by simp [ints, List.map_drop]
def WfK (l : List RK) : Prop := ∀ k ∈ l, k.wf
theorem kwid (l : List RK) : Wid kc 9 l := fun k _ => kc_len k
theorem OkP.wfk {l : List RK} (h : OkP l) : WfK l := fun k hk => (h.good k hk).1
/-- At which place a number stands first, -1 if nowhere. -/
def plc : List Int → Int → Int
  | [], _ => -1
  | x :: l, v => if x = v then 0 else if plc l v < 0 then -1 else plc l v + 1
theorem plc_rng : ∀ (l : List Int) (v : Int), -1 ≤ plc l v ∧ plc l v < l.length
  | [], v => by simp [plc]
  | x :: l, v => by
    have := plc_rng l v
    simp only [plc, List.length_cons]
    split
    · omega
    · split <;> omega
theorem plc_miss : ∀ {l : List Int} {v : Int}, v ∉ l → plc l v = -1
  | [], v, _ => rfl
  | x :: l, v, h => by
    simp only [List.mem_cons, not_or] at h
    have := plc_miss h.2
    simp only [plc, if_neg (fun e : x = v => h.1 e.symm), this]
    rfl
theorem plc_hit : ∀ {l : List Int} {v : Int} {j : Nat}, l[j]? = some v → v ∉ l.take j → plc l v = j
  | [], v, j, h, _ => by simp at h
  | x :: l, v, 0, h, _ => by
    simp at h
    simp [plc, h]
  | x :: l, v, j + 1, h, hn => by
    simp only [List.getElem?_cons_succ] at h
    simp only [List.take_succ_cons, List.mem_cons, not_or] at hn
    have := plc_hit h hn.2
    simp only [plc, if_neg (fun e : x = v => hn.1 e.symm), this]
    rw [if_neg (by omega)]
    omega
theorem plc_nn {l : List Int} {v : Int} : 0 ≤ plc l v ↔ v ∈ l := by
  constructor
  · intro h
    by_cases hm : v ∈ l
    · exact hm
    · rw [plc_miss hm] at h; omega
  · intro h
    obtain ⟨j, hj⟩ := List.mem_iff_getElem?.1 h
    by_cases hn : 0 ≤ plc l v
    · exact hn
    · exfalso
      have key : ∀ (l : List Int), v ∈ l → 0 ≤ plc l v := by
        intro l
        induction l with
        | nil => intro h; simp at h
        | cons x l ih =>
          intro h
          simp only [plc]
          split
          · omega
          · rename_i hx
            rcases List.mem_cons.1 h with e | e
            · exact absurd e.symm hx
            · have := ih e
              split <;> omega
      exact hn (key l h)
theorem plc_at {l : List Int} {v : Int} {j : Nat} (h : l[j]? = some v) : plc l v = (j : Int) ↔ v ∉ l.take j := by
  constructor
  · intro e hm
    have h1 : ∀ (l : List Int) (j : Nat), v ∈ l.take j → plc l v < j := by
      intro l
      induction l with
      | nil => intro j h; simp at h
      | cons x l ih =>
        intro j h
        cases j with
        | zero => simp at h
        | succ j =>
          simp only [List.take_succ_cons, List.mem_cons] at h
          simp only [plc]
          split
          · omega
          · rename_i hx
            rcases h with e | e
            · exact absurd e.symm hx
            · have := ih j e
              split <;> omega
    have := h1 l j hm
    omega
  · exact plc_hit h
theorem mem_take_one {l : List Int} {j : Nat} {x v : Int} (h : l[j]? = some x) : v ∉ l.take (j + 1) ↔ v ∉ l.take j ∧ v ≠ x := by
  rw [take_one h, List.mem_append, List.mem_singleton, not_or]
/-- Kids: two to four blocks beside the root, each once. -/
def KidsG (l : List Int) : Prop := (∀ x ∈ l, 1 ≤ x ∧ x < 256) ∧ l.Nodup
theorem kidsG_nil : KidsG [] := ⟨fun _ h => by simp at h, List.nodup_nil⟩
theorem kidsG_one {l : List Int} {j : Nat} {x : Int} (h : KidsG (l.take j)) (hx : l[j]? = some x) (h1 : 1 ≤ x) (h2 : x < 256) (h3 : x ∉ l.take j) : KidsG (l.take (j + 1)) := by
  rw [take_one hx]
  refine ⟨fun y hy => ?_, List.nodup_append.2 ⟨h.2, by simp, fun a ha b hb => ?_⟩⟩
  · rcases List.mem_append.1 hy with e | e
    · exact h.1 y e
    · simp at e; subst e; exact ⟨h1, h2⟩
  · simp at hb; subst hb; intro e; subst e; exact h3 ha
theorem kidsG_bad {l : List Int} {j : Nat} {x : Int} (hx : l[j]? = some x) (h : x < 1 ∨ 256 ≤ x ∨ x ∈ l.take j) : ¬ KidsG l := fun g => by
  have hm := List.mem_of_getElem? hx
  have := g.1 x hm
  rcases h with h | h | h
  · omega
  · omega
  · have h1 : (l.take (j + 1)).Nodup := g.2.sublist (List.take_sublist _ _)
    rw [take_one hx] at h1
    exact (List.nodup_append.1 h1).2.2 x h x (by simp) rfl
def KidsOk (l : List Int) : Prop := 2 ≤ l.length ∧ l.length ≤ 4 ∧ KidsG l
def blkB (l : List Int) : Bool := decide (2 ≤ l.length) && decide (l.length ≤ 4) && l.all (fun x => decide (1 ≤ x) && decide (x < 256)) && decide l.Nodup
def ladB (l : List RK) : Bool := l.all okB && decide (l.Pairwise fun a b => code a < code b)
theorem blkB_iff {l : List Int} : blkB l = true ↔ KidsOk l := by
  unfold blkB KidsOk KidsG
  simp only [Bool.and_eq_true, decide_eq_true_eq, List.all_eq_true, and_assoc]
theorem ladB_iff {l : List RK} (wl : WfK l) : ladB l = true ↔ OkP l := by
  unfold ladB
  simp only [Bool.and_eq_true, decide_eq_true_eq, List.all_eq_true]
  exact ⟨fun h => ⟨fun k hk => ⟨wl k hk, h.1 k hk⟩, h.2⟩, fun h => ⟨fun k hk => (h.good k hk).2, h.asc⟩⟩
theorem blkB_yes {l : List Int} (h : KidsOk l) : blkB l = true := blkB_iff.2 h
theorem blkB_no {l : List Int} (h : ¬ KidsOk l) : blkB l = false := by
  cases hb : blkB l with
  | false => rfl
  | true => exact absurd (blkB_iff.1 hb) h
theorem ladB_yes {l : List RK} (h : OkP l) : ladB l = true := (ladB_iff h.wfk).2 h
theorem ladB_no {l : List RK} (wl : WfK l) (h : ¬ OkP l) : ladB l = false := by
  cases hb : ladB l with
  | false => rfl
  | true => exact absurd ((ladB_iff wl).1 hb) h
def chkB (ks : List Int) (ps : List RK) : Bool := blkB ks && decide (ps.length + 1 = ks.length) && ladB ps
theorem chkB_yes {ks : List Int} {ps : List RK} (h : KidsOk ks) (hl : ps.length + 1 = ks.length) (hp : OkP ps) : chkB ks ps = true := by
  unfold chkB; rw [blkB_yes h, ladB_yes hp, decide_eq_true hl]; rfl
theorem okP_one {l : List RK} {j : Nat} {m : RK} (hm : l[j]? = some m) (h : OkP (l.take j)) (gm : m.wf ∧ okB m = true) (hp : j = 0 ∨ ∃ p, l[j - 1]? = some p ∧ code p < code m) : OkP (l.take (j + 1)) := by
  rw [take_one hm]
  refine ⟨fun x hx => ?_, List.pairwise_append.2 ⟨h.asc, List.pairwise_singleton _ _, fun x hx y hy => ?_⟩⟩
  · rcases List.mem_append.1 hx with hx | hx
    · exact h.good x hx
    · simp at hx; subst hx; exact gm
  · simp at hy
    subst hy
    rcases hp with rfl | ⟨p, hp, hlt⟩
    · simp at hx
    · obtain ⟨t, ht, e⟩ := List.mem_iff_getElem.1 hx
      have hj := (List.getElem?_eq_some_iff.1 hm).1
      have htl : t < j := by rw [List.length_take] at ht; omega
      have hp' : (l.take j)[j - 1]? = some p := by rw [List.getElem?_take, if_pos (by omega)]; exact hp
      obtain ⟨hj1, e1⟩ := List.getElem?_eq_some_iff.1 hp'
      rcases Nat.lt_or_ge t (j - 1) with h1 | h1
      · have := List.pairwise_iff_getElem.1 h.asc t (j - 1) ht hj1 h1
        rw [e, e1] at this
        omega
      · have : t = j - 1 := by omega
        subst this
        rw [e1] at e
        subst e
        exact hlt
theorem okP_bad1 {l : List RK} {j : Nat} {m : RK} (hm : l[j]? = some m) (om : okB m = false) : ¬ OkP l := fun h => by
  have := (h.good m (List.mem_of_getElem? hm)).2
  rw [om] at this
  cases this
theorem okP_bad2 {l : List RK} {j : Nat} {m p : RK} (hj : 0 < j) (hm : l[j]? = some m) (hp : l[j - 1]? = some p) (hn : ¬ code p < code m) : ¬ OkP l := fun h => by
  obtain ⟨h1, e1⟩ := List.getElem?_eq_some_iff.1 hm
  obtain ⟨h2, e2⟩ := List.getElem?_eq_some_iff.1 hp
  have := List.pairwise_iff_getElem.1 h.asc (j - 1) j h2 h1 (by omega)
  rw [e1, e2] at this
  exact hn this
theorem okP_prev {l : List RK} {j : Nat} {p : RK} (h : OkP (l.take j)) (hj : 0 < j) (hp : l[j - 1]? = some p) : p.wf ∧ okB p = true :=
  h.good p (List.mem_of_getElem? (by rw [List.getElem?_take, if_pos (by omega)]; exact hp : (l.take j)[j - 1]? = some p))
theorem has_take_ints {w : World} {B : Nat} {A : Option Addr} {l : List Int} (h : Has w B A (ints l)) (k : Nat) : Has w B A (ints (l.take k)) := by rw [ints_take]; exact h.take k
theorem ints_under : Try.prog.underlying 22 = some (.slice (Try.prog.elem 22)) := by kernel_rfl
theorem ints_size_elem (w : World) : (sizeOf (Try.prog.elem 22)).run Try.prog w = .ok 1 w := by kernel_rfl
theorem ints_slice_hi (A : Option Addr) (n c t : Nat) (ht : t ≤ n) (hc : n ≤ c) (W : World) : (Instr.slice 22 (.slice A n c) none (some (.int .i64 (t : Int))) none).run Try.prog W = .ok (.slice A t c) W := by
  rw [run_slice_h (P := Try.prog) (w := W) (t := 22) (ht := ints_under) A n c .i64 (t : Int) (by omega) (by omega), ints_size_elem]
  simp only [Result.andThen, sliced, Int.toNat_natCast, Nat.zero_mul, add_zero, Nat.sub_zero, ite_self]
/-- The place of a number, by the library's Index. -/
theorem index_int {w : World} {A : Option Addr} {n c B : Nat} {l : List Int} {v : Int} (hl : Has w B A (ints l)) (hB : B ≤ w.heap.size) (hn : l.length = n) (hsm : n ≤ maxLen) :
    Calls Try.prog 93 #[.slice A n c, .int .i64 v] w fun e w' => e = .returned (.int .i64 (plc l v)) ∧ Fr w w' := by
  have Hl := keep hl
  have Hn := keep hn
  have hww := fr_refl w
  have hnm2 : (n : Int) ≤ 9223372036854775807 := by simp only [maxLen] at hsm; omega
  clear hl hn
  go_enter Try.func93, Try.ntmps93
  go_wp2_with fail
  go_loopg [8] n (fun g s8 wr => ∃ j : Nat, j + g = n ∧ s8 = .int .i64 j ∧ Hid (Fr w wr) ∧ Hid (v ∉ l.take j))
  case atStart => exact ⟨0, by omega, rfl, keep hww, keep (by simp)⟩
  case round =>
    obtain ⟨j, hj, rfl, hW, hno⟩ := hrel
    by_cases hlt : j < n
    · have hm : l[j]? = some (l[j]'(by rw [Hn.out]; exact hlt)) := List.getElem?_eq_getElem _
      generalize l[j]'(by rw [Hn.out]; exact hlt) = x at hm
      obtain ⟨b, off, rfl, hb, hc⟩ := Hl.out j _ (ints_get hm)
      have hWW := hW.out
      have cell : wr.cell? ⟨b, off + j, none⟩ = some (.int .i64 x) := (hWW.cell (by show b < w.heap.size; omega)).trans hc
      have hjz : (j : Int) < (n : Int) := by omega
      have Hm := keep hm
      clear hm hc hlt
      by_cases hx : v = x
      · have hxe : (v == x) = true := by simp [hx]
        have He : Hid (plc l v = (j : Int)) := keep (plc_hit (by rw [hx]; exact Hm.out) hno.out)
        clear hx
        go_wp2_with fail
        go_ret
        rw [He.out]
        exact ⟨rfl, hWW⟩
      · have hxe : (v == x) = false := by simp [hx]
        have Hx := keep hx
        clear hx
        go_wp2_with fail
        go_roundg (gk - 1)
        case measure => omega
        case rel => exact ⟨j + 1, by omega, rfl, hW, keep ((mem_take_one Hm.out).2 ⟨hno.out, Hx.out⟩)⟩
    · have hjn : j = n := by omega
      have hjz : ¬ (j : Int) < (n : Int) := by omega
      have He : Hid (plc l v = -1) := keep (plc_miss (by have := hno.out; rwa [List.take_of_length_le (by rw [Hn.out]; omega)] at this))
      clear hlt hjn
      go_wp2_with fail
      go_ret
      rw [He.out]
      exact ⟨rfl, hW.out⟩
theorem place_int {W0 w : World} {A : Option Addr} {n c B : Nat} {l : List Int} {v : Int} (hl : Has w B A (ints l)) (hB : B ≤ w.heap.size) (hn : l.length = n) (hsm : n ≤ maxLen) (h0 : Fr W0 w) :
    Calls Try.prog 88 #[.slice A n c, .int .i64 v] w fun e w' => e = .returned (.int .i64 (plc l v)) ∧ Fr W0 w' := by
  have cI := fun W h => index_int (v := v) (c := c) (hl.fr hB (show Fr w W from h)) (Nat.le_trans hB h.size) hn hsm
  have H0 := keep h0
  have rr := fr_refl w
  generalize plc l v = q at *
  clear hl hn h0
  go_enter Try.func88, Try.ntmps88
  go_wp2_with (first
    | (go_at_call 93; (with_reducible refine (cI _ rr).mono ?_); rintro e w1 ⟨rfl, h1⟩)
    | fail)
  go_ret
  exact ⟨rfl, fr_step H0.out h1⟩
theorem rplace_int {W0 w : World} {A : Option Addr} {n c B : Nat} {l : List Int} {v : Int} (hl : Has w B A (ints l)) (hB : B ≤ w.heap.size) (hn : l.length = n) (hsm : n ≤ maxLen) (h0 : Fr W0 w) :
    Calls Try.prog 75 #[.slice A n c, .int .i64 v] w fun e w' => e = .returned (.int .i64 (plc l v)) ∧ Fr W0 w' := by
  have Hl := keep hl
  have Hn := keep hn
  have hww := keep h0
  have rr := fr_refl w
  have hnm2 : (n : Int) ≤ 9223372036854775807 := by simp only [maxLen] at hsm; omega
  clear hl hn h0
  go_enter Try.func75, Try.ntmps75
  go_wp2_with fail
  go_loopg [5] n (fun g s8 wr => ∃ j : Nat, j + g = n ∧ s8 = .int .i64 j ∧ Hid (Fr w wr) ∧ Hid (v ∉ l.take j))
  case atStart => exact ⟨0, by omega, rfl, keep rr, keep (by simp)⟩
  case round =>
    obtain ⟨j, hj, rfl, hW, hno⟩ := hrel
    by_cases hlt : j < n
    · have hm : l[j]? = some (l[j]'(by rw [Hn.out]; exact hlt)) := List.getElem?_eq_getElem _
      generalize l[j]'(by rw [Hn.out]; exact hlt) = x at hm
      obtain ⟨b, off, rfl, hb, hc⟩ := Hl.out j _ (ints_get hm)
      have hWW := hW.out
      have cell : wr.cell? ⟨b, off + j, none⟩ = some (.int .i64 x) := (hWW.cell (by show b < w.heap.size; omega)).trans hc
      have hjz : (j : Int) < (n : Int) := by omega
      have Hm := keep hm
      clear hm hc hlt
      by_cases hx : v = x
      · have hxe : (x == v) = true := by simp [hx]
        have He : Hid (plc l v = (j : Int)) := keep (plc_hit (by rw [hx]; exact Hm.out) hno.out)
        clear hx
        go_wp2_with fail
        go_ret
        rw [He.out]
        exact ⟨rfl, fr_step hww.out hWW⟩
      · have hxe : (x == v) = false := by simp [Ne.symm hx]
        have Hx := keep hx
        clear hx
        go_wp2_with fail
        go_roundg (gk - 1)
        case measure => omega
        case rel => exact ⟨j + 1, by omega, rfl, hW, keep ((mem_take_one Hm.out).2 ⟨hno.out, Hx.out⟩)⟩
    · have hjn : j = n := by omega
      have hjz : ¬ (j : Int) < (n : Int) := by omega
      have He : Hid (plc l v = -1) := keep (plc_miss (by have := hno.out; rwa [List.take_of_length_le (by rw [Hn.out]; omega)] at this))
      clear hlt hjn
      go_wp2_with fail
      go_ret
      rw [He.out]
      exact ⟨rfl, fr_step hww.out hW.out⟩
end Go.Proofs.Ytcdcaanmmbopbaa
/- Pivots: which are valid, by the program and by the document; both together; to which kid a key goes. -/
namespace Go.Proofs.Ytcdcaanmmbopbaa
set_option maxRecDepth 100000
open Go.RowKit
set_option linter.unusedVariables false
attribute [local go_sem ↓] key_ld msg_ld
set_option maxHeartbeats 4000000 in
theorem ladder_at {w : World} {A : Option Addr} {n c B : Nat} {ps : List RK} (hl : Has w B A (rows kc ps)) (hB : B ≤ w.heap.size) (hn : ps.length = n) (hsm : n ≤ 100000) (wl : WfK ps) :
    Calls Try.prog 71 #[.slice A n c] w fun e w' => e = .returned (.bool (ladB ps)) ∧ Fr w w' := by
  have Hl := keep hl
  have Hn := keep hn
  have Hwl := keep wl
  clear hl hn wl
  go_enter Try.func71, Try.ntmps71
  go_wp2_with fail
  go_loopg [7] n (fun g s7 wr => ∃ j : Nat, j + g = n ∧ s7 = .int .i64 j ∧ Hid (Fr w wr) ∧ Hid (OkP (ps.take j)))
  case atStart => exact ⟨0, by omega, rfl, keep (fr_refl w), keep OkP.nil⟩
  case round =>
    obtain ⟨j, hj, rfl, hF, hok⟩ := hrel
    by_cases hlt : j < n
    · have hm : ps[j]? = some (ps[j]'(by rw [Hn.out]; exact hlt)) := List.getElem?_eq_getElem _
      generalize ps[j]'(by rw [Hn.out]; exact hlt) = m at hm
      obtain ⟨b, off, rfl, hb1, hr⟩ := has_rows Hl.out (kwid ps) (by decide) (by intro e; rw [e] at hm; simp at hm)
      have wm := Hwl.out m (List.mem_of_getElem? hm)
      have lX0 := elem_ld keyS hr (kwid ps) (by omega) hm
      have hF1 := hF.out
      have hrr := fr_refl wr
      have hrD := fr_drew hrr
      have lX := fun W (h : Fr wr W) => lX0 W (fr_step hF1 h)
      have hjz : (j : Int) < (n : Int) := by omega
      have cK := fun W0 W h => kcheck_at (W0 := W0) (W := W) wm h
      have pv : 0 < j → okB m = true → ∃ p, ps[j - 1]? = some p ∧ (∀ W, Fr wr W → (ldS 40 (.pointer (some ⟨b, off + (j - 1) * 9, none⟩))).run Try.prog W = .ok (.agg (kc p).toArray) W) ∧ (∀ W0 W, Fr W0 W → Calls Try.prog 69 #[kv p, kv m] W fun e w' => e = .returned (.int .i64 (cmpK p m)) ∧ Fr W0 w') ∧ IntKind.i64.wrap ((j : Int) - 1) = ((j - 1 : Nat) : Int) := by
        intro h0 ok
        have hp : ps[j - 1]? = some (ps[j - 1]'(by rw [Hn.out]; omega)) := List.getElem?_eq_getElem _
        generalize ps[j - 1]'(by rw [Hn.out]; omega) = p at hp
        have gp := okP_prev hok.out h0 hp
        exact ⟨p, hp, fun W h => elem_ld keyS hr (kwid ps) (by omega) hp W (fr_step hF1 h), fun W0 W h => kcomp_at gp.1 wm gp.2 ok h, by rw [IntKind.wrap_i64]; omega⟩
      clear lX0
      cases ok : okB m with
      | false =>
        have Hbad := keep (okP_bad1 hm ok)
        rw [ok] at cK
        clear hm hr hlt ok pv
        have lP : ∀ W : World, Fr wr W → True := fun _ _ => trivial
        go_wp2_with (first
          | (refine wpList_store_at (ds := kc m) key_info rfl (.tmp 4) (.tmp 11) rfl wr.heap.size 0 rfl rfl (kc_len _) (kc_one _) (Arr.new wr (kc zeroK).toArray 40) (by rw [kc_len]; decide) (splice_all _ _ (Nat.le_of_eq rfl)) ?_; intro W5 hM5 hk5; have hF5 := hk5.fr (fr_new hF1 _) hF1.size; have hF6 := hk5.fr (fr_new hrr _) (Nat.le_refl _); clear hk5; have lM : ∀ W, Fr W5 W → (ldS 40 (.pointer (some ⟨wr.heap.size, 0, none⟩))).run Try.prog W = .ok (.agg (kc m).toArray) W := fun W h => keyS.ld (kc_len _) (hM5.below h hM5.lt); replace lX := fun (W : World) (h : Fr W5 W) => lX W (fr_step hF6 h); replace lP := fun (W : World) (h : Fr W5 W) => lP W (fr_step hF6 h); have h55 := fr_refl W5; have hrD := fr_drew h55; clear hM5 hF6)
          | fail)
        refine wp_region_noPanic ?_
        refine wp_region_held_drew (S := fun w' => Fr W5 w') (by kernel_rfl) hrD (fun hHeld => ?_)
        change wpAnyH _ _ _ _ _ _ _ _ _
        refine wpAnyH_take (i := 0) (v := ?_) rfl (by kernel_rfl) (by kernel_rfl) (by kernel_rfl) (fun _ _ _ h => h) (Or.inl ⟨by rfl, ?_⟩) (by assumption) ?_
        rotate_left
        · intro w' hSw
          try dsimp only at hSw
          go_simp
          try with_reducible rfl
        try simp only [List.getElem_toArray, List.getElem_cons_zero, Act.put, List.setIfInBounds_toArray, List.set_cons_zero, List.set_cons_succ]
        refine wpAnyH_ready (rs := [1]) (by kernel_rfl) (by simp) ?_
        refine AllReadyH.cons rfl (fun K hK0 => ?_) AllReadyH.nil
        go_simp
        refine (cK W5 _ (by assumption)).mono ?_
        rintro e w7 ⟨rfl, zw7⟩
        go_simp
        refine hK0.out _ _ zw7 (fun _ => ?_)
        clear hK0 K
        try simp only [List.getElem_toArray, List.getElem_cons_succ, List.getElem_cons_zero, Act.put, List.setIfInBounds_toArray, List.set_cons_zero, List.set_cons_succ]
        refine wpAnyH_take (i := 2) (v := .bool true) rfl (by kernel_rfl) (by kernel_rfl) (by kernel_rfl) (fun _ _ _ h => h) (Or.inl ⟨by rfl, ?_⟩) (by assumption) ?_
        · intro w' hSw
          try dsimp only at hSw
          try go_simp
          all_goals first | done | with_reducible rfl | omega | assumption | (simp; omega)
        try simp only [List.getElem_toArray, List.getElem_cons_succ, List.getElem_cons_zero, Act.put, List.setIfInBounds_toArray, List.set_cons_zero, List.set_cons_succ]
        refine wpAnyH_take (i := 3) (v := .bool true) rfl (by kernel_rfl) (by kernel_rfl) (by kernel_rfl) (fun _ _ _ h => h) (Or.inl ⟨by rfl, ?_⟩) (by assumption) ?_
        · intro w' hSw
          try dsimp only at hSw
          try go_simp
          all_goals first | done | with_reducible rfl | omega | assumption | (simp; omega)
        try simp only [List.getElem_toArray, List.getElem_cons_succ, List.getElem_cons_zero, Act.put, List.setIfInBounds_toArray, List.set_cons_zero, List.set_cons_succ]
        refine wpAnyH_take (i := 4) (v := undef) rfl (by kernel_rfl) (by kernel_rfl) (by kernel_rfl) (fun _ _ _ h => h) (Or.inr ⟨by rfl, rfl⟩) (by assumption) ?_
        try simp only [List.getElem_toArray, List.getElem_cons_succ, List.getElem_cons_zero, Act.put, List.setIfInBounds_toArray, List.set_cons_zero, List.set_cons_succ]
        refine wpAnyH_take (i := 5) (v := undef) rfl (by kernel_rfl) (by kernel_rfl) (by kernel_rfl) (fun _ _ _ h => h) (Or.inr ⟨by rfl, rfl⟩) (by assumption) ?_
        try simp only [List.getElem_toArray, List.getElem_cons_succ, List.getElem_cons_zero, Act.put, List.setIfInBounds_toArray, List.set_cons_zero, List.set_cons_succ]
        refine wpAnyH_take (i := 6) (v := undef) rfl (by kernel_rfl) (by kernel_rfl) (by kernel_rfl) (fun _ _ _ h => h) (Or.inr ⟨by rfl, rfl⟩) (by assumption) ?_
        try simp only [List.getElem_toArray, List.getElem_cons_succ, List.getElem_cons_zero, Act.put, List.setIfInBounds_toArray, List.set_cons_zero, List.set_cons_succ]
        refine wpAnyH_take (i := 7) (v := undef) rfl (by kernel_rfl) (by kernel_rfl) (by kernel_rfl) (fun _ _ _ h => h) (Or.inr ⟨by rfl, rfl⟩) (by assumption) ?_
        try simp only [List.getElem_toArray, List.getElem_cons_succ, List.getElem_cons_zero, Act.put, List.setIfInBounds_toArray, List.set_cons_zero, List.set_cons_succ]
        refine wpAnyH_take (i := 8) (v := undef) rfl (by kernel_rfl) (by kernel_rfl) (by kernel_rfl) (fun _ _ _ h => h) (Or.inr ⟨by rfl, rfl⟩) (by assumption) ?_
        try simp only [List.getElem_toArray, List.getElem_cons_succ, List.getElem_cons_zero, Act.put, List.setIfInBounds_toArray, List.set_cons_zero, List.set_cons_succ]
        refine wpAnyH_take (i := 9) (v := undef) rfl (by kernel_rfl) (by kernel_rfl) (by kernel_rfl) (fun _ _ _ h => h) (Or.inr ⟨by rfl, rfl⟩) (by assumption) ?_
        try simp only [List.getElem_toArray, List.getElem_cons_succ, List.getElem_cons_zero, Act.put, List.setIfInBounds_toArray, List.set_cons_zero, List.set_cons_succ]
        refine wpAnyH_take (i := 10) (v := undef) rfl (by kernel_rfl) (by kernel_rfl) (by kernel_rfl) (fun _ _ _ h => h) (Or.inr ⟨by rfl, rfl⟩) (by assumption) ?_
        try simp only [List.getElem_toArray, List.getElem_cons_succ, List.getElem_cons_zero, Act.put, List.setIfInBounds_toArray, List.set_cons_zero, List.set_cons_succ]
        refine wpAnyH_take (i := 11) (v := undef) rfl (by kernel_rfl) (by kernel_rfl) (by kernel_rfl) (fun _ _ _ h => h) (Or.inr ⟨by rfl, rfl⟩) (by assumption) ?_
        try simp only [List.getElem_toArray, List.getElem_cons_succ, List.getElem_cons_zero, Act.put, List.setIfInBounds_toArray, List.set_cons_zero, List.set_cons_succ]
        refine wpAnyH_take (i := 12) (v := undef) rfl (by kernel_rfl) (by kernel_rfl) (by kernel_rfl) (fun _ _ _ h => h) (Or.inr ⟨by rfl, rfl⟩) (by assumption) ?_
        try simp only [List.getElem_toArray, List.getElem_cons_succ, List.getElem_cons_zero, Act.put, List.setIfInBounds_toArray, List.set_cons_zero, List.set_cons_succ]
        refine wpAnyH_take (i := 13) (v := undef) rfl (by kernel_rfl) (by kernel_rfl) (by kernel_rfl) (fun _ _ _ h => h) (Or.inr ⟨by rfl, rfl⟩) (by assumption) ?_
        try simp only [List.getElem_toArray, List.getElem_cons_succ, List.getElem_cons_zero, Act.put, List.setIfInBounds_toArray, List.set_cons_zero, List.set_cons_succ]
        refine wpAnyH_take (i := 14) (v := undef) rfl (by kernel_rfl) (by kernel_rfl) (by kernel_rfl) (fun _ _ _ h => h) (Or.inr ⟨by rfl, rfl⟩) (by assumption) ?_
        try simp only [List.getElem_toArray, List.getElem_cons_succ, List.getElem_cons_zero, Act.put, List.setIfInBounds_toArray, List.set_cons_zero, List.set_cons_succ]
        refine wpAnyH_take (i := 15) (v := undef) rfl (by kernel_rfl) (by kernel_rfl) (by kernel_rfl) (fun _ _ _ h => h) (Or.inr ⟨by rfl, rfl⟩) (by assumption) ?_
        try simp only [List.getElem_toArray, List.getElem_cons_succ, List.getElem_cons_zero, Act.put, List.setIfInBounds_toArray, List.set_cons_zero, List.set_cons_succ]
        refine wpAnyH_take (i := 16) (v := .bool true) rfl (by kernel_rfl) (by kernel_rfl) (by kernel_rfl) (fun _ _ _ h => h) (Or.inl ⟨by rfl, ?_⟩) (by assumption) ?_
        · intro w' hSw
          try dsimp only at hSw
          try go_simp
          all_goals first | done | with_reducible rfl | omega | assumption | (simp; omega)
        try simp only [List.getElem_toArray, List.getElem_cons_succ, List.getElem_cons_zero, Act.put, List.setIfInBounds_toArray, List.set_cons_zero, List.set_cons_succ]
        refine wpAnyH_done (by kernel_rfl) ?_ _
        refine NoPanic.normal ?_
        go_wp2_with fail
        go_ret
        rw [ladB_no Hwl.out Hbad.out]
        exact ⟨rfl, fr_step hF5 (by assumption)⟩
      | true =>
        rw [ok] at cK
        rcases Nat.eq_zero_or_pos j with h0 | h0
        · have hgt : ¬ (0 < (j : Int)) := by omega
          have Hok2 := keep (okP_one hm hok.out ⟨wm, ok⟩ (.inl h0))
          clear hm hr hlt ok pv h0
          have lP : ∀ W : World, Fr wr W → True := fun _ _ => trivial
          go_wp2_with (first
            | (refine wpList_store_at (ds := kc m) key_info rfl (.tmp 4) (.tmp 11) rfl wr.heap.size 0 rfl rfl (kc_len _) (kc_one _) (Arr.new wr (kc zeroK).toArray 40) (by rw [kc_len]; decide) (splice_all _ _ (Nat.le_of_eq rfl)) ?_; intro W5 hM5 hk5; have hF5 := hk5.fr (fr_new hF1 _) hF1.size; have hF6 := hk5.fr (fr_new hrr _) (Nat.le_refl _); clear hk5; have lM : ∀ W, Fr W5 W → (ldS 40 (.pointer (some ⟨wr.heap.size, 0, none⟩))).run Try.prog W = .ok (.agg (kc m).toArray) W := fun W h => keyS.ld (kc_len _) (hM5.below h hM5.lt); replace lX := fun (W : World) (h : Fr W5 W) => lX W (fr_step hF6 h); replace lP := fun (W : World) (h : Fr W5 W) => lP W (fr_step hF6 h); have h55 := fr_refl W5; have hrD := fr_drew h55; clear hM5 hF6)
            | fail)
          refine wp_region_noPanic ?_
          refine wp_region_held_drew (S := fun w' => Fr W5 w') (by kernel_rfl) hrD (fun hHeld => ?_)
          change wpAnyH _ _ _ _ _ _ _ _ _
          refine wpAnyH_take (i := 0) (v := ?_) rfl (by kernel_rfl) (by kernel_rfl) (by kernel_rfl) (fun _ _ _ h => h) (Or.inl ⟨by rfl, ?_⟩) (by assumption) ?_
          rotate_left
          · intro w' hSw
            try dsimp only at hSw
            go_simp
            try with_reducible rfl
          try simp only [List.getElem_toArray, List.getElem_cons_zero, Act.put, List.setIfInBounds_toArray, List.set_cons_zero, List.set_cons_succ]
          refine wpAnyH_ready (rs := [1]) (by kernel_rfl) (by simp) ?_
          refine AllReadyH.cons rfl (fun K hK0 => ?_) AllReadyH.nil
          go_simp
          refine (cK W5 _ (by assumption)).mono ?_
          rintro e w7 ⟨rfl, zw7⟩
          go_simp
          refine hK0.out _ _ zw7 (fun _ => ?_)
          clear hK0 K
          try simp only [List.getElem_toArray, List.getElem_cons_succ, List.getElem_cons_zero, Act.put, List.setIfInBounds_toArray, List.set_cons_zero, List.set_cons_succ]
          refine wpAnyH_take (i := 2) (v := .bool false) rfl (by kernel_rfl) (by kernel_rfl) (by kernel_rfl) (fun _ _ _ h => h) (Or.inl ⟨by rfl, ?_⟩) (by assumption) ?_
          · intro w' hSw
            try dsimp only at hSw
            try go_simp
            all_goals first | done | with_reducible rfl | omega | assumption | (simp; omega)
          try simp only [List.getElem_toArray, List.getElem_cons_succ, List.getElem_cons_zero, Act.put, List.setIfInBounds_toArray, List.set_cons_zero, List.set_cons_succ]
          refine wpAnyH_take (i := 3) (v := .bool false) rfl (by kernel_rfl) (by kernel_rfl) (by kernel_rfl) (fun _ _ _ h => h) (Or.inl ⟨by rfl, ?_⟩) (by assumption) ?_
          · intro w' hSw
            try dsimp only at hSw
            try go_simp
            all_goals first | done | with_reducible rfl | omega | assumption | (simp; omega)
          try simp only [List.getElem_toArray, List.getElem_cons_succ, List.getElem_cons_zero, Act.put, List.setIfInBounds_toArray, List.set_cons_zero, List.set_cons_succ]
          refine wpAnyH_take (i := 4) (v := ?_) rfl (by kernel_rfl) (by kernel_rfl) (by kernel_rfl) (fun _ _ _ h => h) (Or.inl ⟨by rfl, ?_⟩) (by assumption) ?_
          rotate_left
          · intro w' hSw
            try dsimp only at hSw
            go_simp
            try with_reducible rfl
          try simp only [List.getElem_toArray, List.getElem_cons_succ, List.getElem_cons_zero, Act.put, List.setIfInBounds_toArray, List.set_cons_zero, List.set_cons_succ]
          refine wpAnyH_take (i := 5) (v := .bool false) rfl (by kernel_rfl) (by kernel_rfl) (by kernel_rfl) (fun _ _ _ h => h) (Or.inl ⟨by rfl, ?_⟩) (by assumption) ?_
          · intro w' hSw
            try dsimp only at hSw
            try go_simp
            all_goals first | done | with_reducible rfl | omega | assumption | (simp; omega)
          try simp only [List.getElem_toArray, List.getElem_cons_succ, List.getElem_cons_zero, Act.put, List.setIfInBounds_toArray, List.set_cons_zero, List.set_cons_succ]
          refine wpAnyH_take (i := 6) (v := .bool false) rfl (by kernel_rfl) (by kernel_rfl) (by kernel_rfl) (fun _ _ _ h => h) (Or.inl ⟨by rfl, ?_⟩) (by assumption) ?_
          · intro w' hSw
            try dsimp only at hSw
            try go_simp
            all_goals first | done | with_reducible rfl | omega | assumption | (simp; omega)
          try simp only [List.getElem_toArray, List.getElem_cons_succ, List.getElem_cons_zero, Act.put, List.setIfInBounds_toArray, List.set_cons_zero, List.set_cons_succ]
          refine wpAnyH_take (i := 7) (v := undef) rfl (by kernel_rfl) (by kernel_rfl) (by kernel_rfl) (fun _ _ _ h => h) (Or.inr ⟨by rfl, rfl⟩) (by assumption) ?_
          try simp only [List.getElem_toArray, List.getElem_cons_succ, List.getElem_cons_zero, Act.put, List.setIfInBounds_toArray, List.set_cons_zero, List.set_cons_succ]
          refine wpAnyH_take (i := 8) (v := undef) rfl (by kernel_rfl) (by kernel_rfl) (by kernel_rfl) (fun _ _ _ h => h) (Or.inr ⟨by rfl, rfl⟩) (by assumption) ?_
          try simp only [List.getElem_toArray, List.getElem_cons_succ, List.getElem_cons_zero, Act.put, List.setIfInBounds_toArray, List.set_cons_zero, List.set_cons_succ]
          refine wpAnyH_take (i := 9) (v := undef) rfl (by kernel_rfl) (by kernel_rfl) (by kernel_rfl) (fun _ _ _ h => h) (Or.inr ⟨by rfl, rfl⟩) (by assumption) ?_
          try simp only [List.getElem_toArray, List.getElem_cons_succ, List.getElem_cons_zero, Act.put, List.setIfInBounds_toArray, List.set_cons_zero, List.set_cons_succ]
          refine wpAnyH_take (i := 10) (v := undef) rfl (by kernel_rfl) (by kernel_rfl) (by kernel_rfl) (fun _ _ _ h => h) (Or.inr ⟨by rfl, rfl⟩) (by assumption) ?_
          try simp only [List.getElem_toArray, List.getElem_cons_succ, List.getElem_cons_zero, Act.put, List.setIfInBounds_toArray, List.set_cons_zero, List.set_cons_succ]
          refine wpAnyH_take (i := 11) (v := undef) rfl (by kernel_rfl) (by kernel_rfl) (by kernel_rfl) (fun _ _ _ h => h) (Or.inr ⟨by rfl, rfl⟩) (by assumption) ?_
          try simp only [List.getElem_toArray, List.getElem_cons_succ, List.getElem_cons_zero, Act.put, List.setIfInBounds_toArray, List.set_cons_zero, List.set_cons_succ]
          refine wpAnyH_take (i := 12) (v := undef) rfl (by kernel_rfl) (by kernel_rfl) (by kernel_rfl) (fun _ _ _ h => h) (Or.inr ⟨by rfl, rfl⟩) (by assumption) ?_
          try simp only [List.getElem_toArray, List.getElem_cons_succ, List.getElem_cons_zero, Act.put, List.setIfInBounds_toArray, List.set_cons_zero, List.set_cons_succ]
          refine wpAnyH_take (i := 13) (v := undef) rfl (by kernel_rfl) (by kernel_rfl) (by kernel_rfl) (fun _ _ _ h => h) (Or.inr ⟨by rfl, rfl⟩) (by assumption) ?_
          try simp only [List.getElem_toArray, List.getElem_cons_succ, List.getElem_cons_zero, Act.put, List.setIfInBounds_toArray, List.set_cons_zero, List.set_cons_succ]
          refine wpAnyH_take (i := 14) (v := undef) rfl (by kernel_rfl) (by kernel_rfl) (by kernel_rfl) (fun _ _ _ h => h) (Or.inr ⟨by rfl, rfl⟩) (by assumption) ?_
          try simp only [List.getElem_toArray, List.getElem_cons_succ, List.getElem_cons_zero, Act.put, List.setIfInBounds_toArray, List.set_cons_zero, List.set_cons_succ]
          refine wpAnyH_take (i := 15) (v := .bool false) rfl (by kernel_rfl) (by kernel_rfl) (by kernel_rfl) (fun _ _ _ h => h) (Or.inl ⟨by rfl, ?_⟩) (by assumption) ?_
          · intro w' hSw
            try dsimp only at hSw
            try go_simp
            all_goals first | done | with_reducible rfl | omega | assumption | (simp; omega)
          try simp only [List.getElem_toArray, List.getElem_cons_succ, List.getElem_cons_zero, Act.put, List.setIfInBounds_toArray, List.set_cons_zero, List.set_cons_succ]
          refine wpAnyH_take (i := 16) (v := .bool false) rfl (by kernel_rfl) (by kernel_rfl) (by kernel_rfl) (fun _ _ _ h => h) (Or.inl ⟨by rfl, ?_⟩) (by assumption) ?_
          · intro w' hSw
            try dsimp only at hSw
            try go_simp
            all_goals first | done | with_reducible rfl | omega | assumption | (simp; omega)
          try simp only [List.getElem_toArray, List.getElem_cons_succ, List.getElem_cons_zero, Act.put, List.setIfInBounds_toArray, List.set_cons_zero, List.set_cons_succ]
          refine wpAnyH_done (by kernel_rfl) ?_ _
          refine NoPanic.normal ?_
          go_wp2_with fail
          go_roundg (gk - 1)
          case measure => omega
          case rel => exact ⟨j + 1, by omega, rfl, keep (fr_step hF5 (by assumption)), Hok2⟩
        · have hgt : 0 < (j : Int) := by omega
          obtain ⟨p, hp, lP, cC, hjw⟩ := pv h0 ok
          have hjl : (j : Int) - 1 < (n : Int) := by omega
          have hjl2 : j - 1 < n := by omega
          by_cases hcd : code p < code m
          · have Hok2 := keep (okP_one hm hok.out ⟨wm, ok⟩ (.inr ⟨p, hp, hcd⟩))
            have hq : ¬ (0 ≤ cmpK p m) := fun h => by have := cmpK_ge.1 h; omega
            clear hm hr hlt ok pv h0 hp hcd
            go_wp2_with (first
              | (refine wpList_store_at (ds := kc m) key_info rfl (.tmp 4) (.tmp 11) rfl wr.heap.size 0 rfl rfl (kc_len _) (kc_one _) (Arr.new wr (kc zeroK).toArray 40) (by rw [kc_len]; decide) (splice_all _ _ (Nat.le_of_eq rfl)) ?_; intro W5 hM5 hk5; have hF5 := hk5.fr (fr_new hF1 _) hF1.size; have hF6 := hk5.fr (fr_new hrr _) (Nat.le_refl _); clear hk5; have lM : ∀ W, Fr W5 W → (ldS 40 (.pointer (some ⟨wr.heap.size, 0, none⟩))).run Try.prog W = .ok (.agg (kc m).toArray) W := fun W h => keyS.ld (kc_len _) (hM5.below h hM5.lt); replace lX := fun (W : World) (h : Fr W5 W) => lX W (fr_step hF6 h); replace lP := fun (W : World) (h : Fr W5 W) => lP W (fr_step hF6 h); have h55 := fr_refl W5; have hrD := fr_drew h55; clear hM5 hF6)
              | fail)
            refine wp_region_noPanic ?_
            refine wp_region_held_drew (S := fun w' => Fr W5 w') (by kernel_rfl) hrD (fun hHeld => ?_)
            change wpAnyH _ _ _ _ _ _ _ _ _
            refine wpAnyH_take (i := 0) (v := ?_) rfl (by kernel_rfl) (by kernel_rfl) (by kernel_rfl) (fun _ _ _ h => h) (Or.inl ⟨by rfl, ?_⟩) (by assumption) ?_
            rotate_left
            · intro w' hSw
              try dsimp only at hSw
              go_simp
              try with_reducible rfl
            try simp only [List.getElem_toArray, List.getElem_cons_zero, Act.put, List.setIfInBounds_toArray, List.set_cons_zero, List.set_cons_succ]
            refine wpAnyH_ready (rs := [1]) (by kernel_rfl) (by simp) ?_
            refine AllReadyH.cons rfl (fun K hK0 => ?_) AllReadyH.nil
            go_simp
            refine (cK W5 _ (by assumption)).mono ?_
            rintro e w7 ⟨rfl, zw7⟩
            go_simp
            refine hK0.out _ _ zw7 (fun _ => ?_)
            clear hK0 K
            try simp only [List.getElem_toArray, List.getElem_cons_succ, List.getElem_cons_zero, Act.put, List.setIfInBounds_toArray, List.set_cons_zero, List.set_cons_succ]
            refine wpAnyH_take (i := 2) (v := .bool false) rfl (by kernel_rfl) (by kernel_rfl) (by kernel_rfl) (fun _ _ _ h => h) (Or.inl ⟨by rfl, ?_⟩) (by assumption) ?_
            · intro w' hSw
              try dsimp only at hSw
              try go_simp
              all_goals first | done | with_reducible rfl | omega | assumption | (simp; omega)
            try simp only [List.getElem_toArray, List.getElem_cons_succ, List.getElem_cons_zero, Act.put, List.setIfInBounds_toArray, List.set_cons_zero, List.set_cons_succ]
            refine wpAnyH_take (i := 3) (v := .bool false) rfl (by kernel_rfl) (by kernel_rfl) (by kernel_rfl) (fun _ _ _ h => h) (Or.inl ⟨by rfl, ?_⟩) (by assumption) ?_
            · intro w' hSw
              try dsimp only at hSw
              try go_simp
              all_goals first | done | with_reducible rfl | omega | assumption | (simp; omega)
            try simp only [List.getElem_toArray, List.getElem_cons_succ, List.getElem_cons_zero, Act.put, List.setIfInBounds_toArray, List.set_cons_zero, List.set_cons_succ]
            refine wpAnyH_take (i := 4) (v := ?_) rfl (by kernel_rfl) (by kernel_rfl) (by kernel_rfl) (fun _ _ _ h => h) (Or.inl ⟨by rfl, ?_⟩) (by assumption) ?_
            rotate_left
            · intro w' hSw
              try dsimp only at hSw
              go_simp
              try with_reducible rfl
            try simp only [List.getElem_toArray, List.getElem_cons_succ, List.getElem_cons_zero, Act.put, List.setIfInBounds_toArray, List.set_cons_zero, List.set_cons_succ]
            refine wpAnyH_take (i := 5) (v := .bool true) rfl (by kernel_rfl) (by kernel_rfl) (by kernel_rfl) (fun _ _ _ h => h) (Or.inl ⟨by rfl, ?_⟩) (by assumption) ?_
            · intro w' hSw
              try dsimp only at hSw
              try go_simp
              all_goals first | done | with_reducible rfl | omega | assumption | (simp; omega)
            try simp only [List.getElem_toArray, List.getElem_cons_succ, List.getElem_cons_zero, Act.put, List.setIfInBounds_toArray, List.set_cons_zero, List.set_cons_succ]
            refine wpAnyH_take (i := 6) (v := .bool true) rfl (by kernel_rfl) (by kernel_rfl) (by kernel_rfl) (fun _ _ _ h => h) (Or.inl ⟨by rfl, ?_⟩) (by assumption) ?_
            · intro w' hSw
              try dsimp only at hSw
              try go_simp
              all_goals first | done | with_reducible rfl | omega | assumption | (simp; omega)
            try simp only [List.getElem_toArray, List.getElem_cons_succ, List.getElem_cons_zero, Act.put, List.setIfInBounds_toArray, List.set_cons_zero, List.set_cons_succ]
            refine wpAnyH_take (i := 7) (v := ?_) rfl (by kernel_rfl) (by kernel_rfl) (by kernel_rfl) (fun _ _ _ h => h) (Or.inl ⟨by rfl, ?_⟩) (by assumption) ?_
            rotate_left
            · intro w' hSw
              try dsimp only at hSw
              go_simp
              try with_reducible rfl
            try simp only [List.getElem_toArray, List.getElem_cons_succ, List.getElem_cons_zero, Act.put, List.setIfInBounds_toArray, List.set_cons_zero, List.set_cons_succ]
            refine wpAnyH_take (i := 8) (v := ?_) rfl (by kernel_rfl) (by kernel_rfl) (by kernel_rfl) (fun _ _ _ h => h) (Or.inl ⟨by rfl, ?_⟩) (by assumption) ?_
            rotate_left
            · intro w' hSw
              try dsimp only at hSw
              go_simp
              try with_reducible rfl
            try simp only [List.getElem_toArray, List.getElem_cons_succ, List.getElem_cons_zero, Act.put, List.setIfInBounds_toArray, List.set_cons_zero, List.set_cons_succ]
            refine wpAnyH_take (i := 9) (v := ?_) rfl (by kernel_rfl) (by kernel_rfl) (by kernel_rfl) (fun _ _ _ h => h) (Or.inl ⟨by rfl, ?_⟩) (by assumption) ?_
            rotate_left
            · intro w' hSw
              try dsimp only at hSw
              go_simp
              try with_reducible rfl
            try simp only [List.getElem_toArray, List.getElem_cons_succ, List.getElem_cons_zero, Act.put, List.setIfInBounds_toArray, List.set_cons_zero, List.set_cons_succ]
            refine wpAnyH_take (i := 10) (v := ?_) rfl (by kernel_rfl) (by kernel_rfl) (by kernel_rfl) (fun _ _ _ h => h) (Or.inl ⟨by rfl, ?_⟩) (by assumption) ?_
            rotate_left
            · intro w' hSw
              try dsimp only at hSw
              go_simp
              try with_reducible rfl
            try simp only [List.getElem_toArray, List.getElem_cons_succ, List.getElem_cons_zero, Act.put, List.setIfInBounds_toArray, List.set_cons_zero, List.set_cons_succ]
            refine wpAnyH_take (i := 11) (v := ?_) rfl (by kernel_rfl) (by kernel_rfl) (by kernel_rfl) (fun _ _ _ h => h) (Or.inl ⟨by rfl, ?_⟩) (by assumption) ?_
            rotate_left
            · intro w' hSw
              try dsimp only at hSw
              go_simp
              try with_reducible rfl
            try simp only [List.getElem_toArray, List.getElem_cons_succ, List.getElem_cons_zero, Act.put, List.setIfInBounds_toArray, List.set_cons_zero, List.set_cons_succ]
            refine wpAnyH_take (i := 12) (v := ?_) rfl (by kernel_rfl) (by kernel_rfl) (by kernel_rfl) (fun _ _ _ h => h) (Or.inl ⟨by rfl, ?_⟩) (by assumption) ?_
            rotate_left
            · intro w' hSw
              try dsimp only at hSw
              go_simp
              try with_reducible rfl
            try simp only [List.getElem_toArray, List.getElem_cons_succ, List.getElem_cons_zero, Act.put, List.setIfInBounds_toArray, List.set_cons_zero, List.set_cons_succ]
            refine wpAnyH_ready (rs := [13]) (by kernel_rfl) (by simp) ?_
            refine AllReadyH.cons rfl (fun K hK0 => ?_) AllReadyH.nil
            go_simp
            refine (cC W5 _ (by assumption)).mono ?_
            rintro e w8 ⟨rfl, zw8⟩
            go_simp
            refine hK0.out _ _ zw8 (fun _ => ?_)
            clear hK0 K
            try simp only [List.getElem_toArray, List.getElem_cons_succ, List.getElem_cons_zero, Act.put, List.setIfInBounds_toArray, List.set_cons_zero, List.set_cons_succ]
            refine wpAnyH_take (i := 14) (v := .bool false) rfl (by kernel_rfl) (by kernel_rfl) (by kernel_rfl) (fun _ _ _ h => h) (Or.inl ⟨by rfl, ?_⟩) (by assumption) ?_
            · intro w' hSw
              try dsimp only at hSw
              try go_simp
              all_goals first | done | with_reducible rfl | omega | assumption | (simp; omega)
            try simp only [List.getElem_toArray, List.getElem_cons_succ, List.getElem_cons_zero, Act.put, List.setIfInBounds_toArray, List.set_cons_zero, List.set_cons_succ]
            refine wpAnyH_take (i := 15) (v := .bool false) rfl (by kernel_rfl) (by kernel_rfl) (by kernel_rfl) (fun _ _ _ h => h) (Or.inl ⟨by rfl, ?_⟩) (by assumption) ?_
            · intro w' hSw
              try dsimp only at hSw
              try go_simp
              all_goals first | done | with_reducible rfl | omega | assumption | (simp; omega)
            try simp only [List.getElem_toArray, List.getElem_cons_succ, List.getElem_cons_zero, Act.put, List.setIfInBounds_toArray, List.set_cons_zero, List.set_cons_succ]
            refine wpAnyH_take (i := 16) (v := .bool false) rfl (by kernel_rfl) (by kernel_rfl) (by kernel_rfl) (fun _ _ _ h => h) (Or.inl ⟨by rfl, ?_⟩) (by assumption) ?_
            · intro w' hSw
              try dsimp only at hSw
              try go_simp
              all_goals first | done | with_reducible rfl | omega | assumption | (simp; omega)
            try simp only [List.getElem_toArray, List.getElem_cons_succ, List.getElem_cons_zero, Act.put, List.setIfInBounds_toArray, List.set_cons_zero, List.set_cons_succ]
            refine wpAnyH_done (by kernel_rfl) ?_ _
            refine NoPanic.normal ?_
            go_wp2_with fail
            go_roundg (gk - 1)
            case measure => omega
            case rel => exact ⟨j + 1, by omega, rfl, keep (fr_step hF5 (by assumption)), Hok2⟩
          · have Hbad := keep (okP_bad2 h0 hm hp hcd)
            have hq : 0 ≤ cmpK p m := cmpK_ge.2 (by omega)
            clear hm hr hlt ok pv h0 hp hcd
            go_wp2_with (first
              | (refine wpList_store_at (ds := kc m) key_info rfl (.tmp 4) (.tmp 11) rfl wr.heap.size 0 rfl rfl (kc_len _) (kc_one _) (Arr.new wr (kc zeroK).toArray 40) (by rw [kc_len]; decide) (splice_all _ _ (Nat.le_of_eq rfl)) ?_; intro W5 hM5 hk5; have hF5 := hk5.fr (fr_new hF1 _) hF1.size; have hF6 := hk5.fr (fr_new hrr _) (Nat.le_refl _); clear hk5; have lM : ∀ W, Fr W5 W → (ldS 40 (.pointer (some ⟨wr.heap.size, 0, none⟩))).run Try.prog W = .ok (.agg (kc m).toArray) W := fun W h => keyS.ld (kc_len _) (hM5.below h hM5.lt); replace lX := fun (W : World) (h : Fr W5 W) => lX W (fr_step hF6 h); replace lP := fun (W : World) (h : Fr W5 W) => lP W (fr_step hF6 h); have h55 := fr_refl W5; have hrD := fr_drew h55; clear hM5 hF6)
              | fail)
            refine wp_region_noPanic ?_
            refine wp_region_held_drew (S := fun w' => Fr W5 w') (by kernel_rfl) hrD (fun hHeld => ?_)
            change wpAnyH _ _ _ _ _ _ _ _ _
            refine wpAnyH_take (i := 0) (v := ?_) rfl (by kernel_rfl) (by kernel_rfl) (by kernel_rfl) (fun _ _ _ h => h) (Or.inl ⟨by rfl, ?_⟩) (by assumption) ?_
            rotate_left
            · intro w' hSw
              try dsimp only at hSw
              go_simp
              try with_reducible rfl
            try simp only [List.getElem_toArray, List.getElem_cons_zero, Act.put, List.setIfInBounds_toArray, List.set_cons_zero, List.set_cons_succ]
            refine wpAnyH_ready (rs := [1]) (by kernel_rfl) (by simp) ?_
            refine AllReadyH.cons rfl (fun K hK0 => ?_) AllReadyH.nil
            go_simp
            refine (cK W5 _ (by assumption)).mono ?_
            rintro e w7 ⟨rfl, zw7⟩
            go_simp
            refine hK0.out _ _ zw7 (fun _ => ?_)
            clear hK0 K
            try simp only [List.getElem_toArray, List.getElem_cons_succ, List.getElem_cons_zero, Act.put, List.setIfInBounds_toArray, List.set_cons_zero, List.set_cons_succ]
            refine wpAnyH_take (i := 2) (v := .bool false) rfl (by kernel_rfl) (by kernel_rfl) (by kernel_rfl) (fun _ _ _ h => h) (Or.inl ⟨by rfl, ?_⟩) (by assumption) ?_
            · intro w' hSw
              try dsimp only at hSw
              try go_simp
              all_goals first | done | with_reducible rfl | omega | assumption | (simp; omega)
            try simp only [List.getElem_toArray, List.getElem_cons_succ, List.getElem_cons_zero, Act.put, List.setIfInBounds_toArray, List.set_cons_zero, List.set_cons_succ]
            refine wpAnyH_take (i := 3) (v := .bool false) rfl (by kernel_rfl) (by kernel_rfl) (by kernel_rfl) (fun _ _ _ h => h) (Or.inl ⟨by rfl, ?_⟩) (by assumption) ?_
            · intro w' hSw
              try dsimp only at hSw
              try go_simp
              all_goals first | done | with_reducible rfl | omega | assumption | (simp; omega)
            try simp only [List.getElem_toArray, List.getElem_cons_succ, List.getElem_cons_zero, Act.put, List.setIfInBounds_toArray, List.set_cons_zero, List.set_cons_succ]
            refine wpAnyH_take (i := 4) (v := ?_) rfl (by kernel_rfl) (by kernel_rfl) (by kernel_rfl) (fun _ _ _ h => h) (Or.inl ⟨by rfl, ?_⟩) (by assumption) ?_
            rotate_left
            · intro w' hSw
              try dsimp only at hSw
              go_simp
              try with_reducible rfl
            try simp only [List.getElem_toArray, List.getElem_cons_succ, List.getElem_cons_zero, Act.put, List.setIfInBounds_toArray, List.set_cons_zero, List.set_cons_succ]
            refine wpAnyH_take (i := 5) (v := .bool true) rfl (by kernel_rfl) (by kernel_rfl) (by kernel_rfl) (fun _ _ _ h => h) (Or.inl ⟨by rfl, ?_⟩) (by assumption) ?_
            · intro w' hSw
              try dsimp only at hSw
              try go_simp
              all_goals first | done | with_reducible rfl | omega | assumption | (simp; omega)
            try simp only [List.getElem_toArray, List.getElem_cons_succ, List.getElem_cons_zero, Act.put, List.setIfInBounds_toArray, List.set_cons_zero, List.set_cons_succ]
            refine wpAnyH_take (i := 6) (v := .bool true) rfl (by kernel_rfl) (by kernel_rfl) (by kernel_rfl) (fun _ _ _ h => h) (Or.inl ⟨by rfl, ?_⟩) (by assumption) ?_
            · intro w' hSw
              try dsimp only at hSw
              try go_simp
              all_goals first | done | with_reducible rfl | omega | assumption | (simp; omega)
            try simp only [List.getElem_toArray, List.getElem_cons_succ, List.getElem_cons_zero, Act.put, List.setIfInBounds_toArray, List.set_cons_zero, List.set_cons_succ]
            refine wpAnyH_take (i := 7) (v := ?_) rfl (by kernel_rfl) (by kernel_rfl) (by kernel_rfl) (fun _ _ _ h => h) (Or.inl ⟨by rfl, ?_⟩) (by assumption) ?_
            rotate_left
            · intro w' hSw
              try dsimp only at hSw
              go_simp
              try with_reducible rfl
            try simp only [List.getElem_toArray, List.getElem_cons_succ, List.getElem_cons_zero, Act.put, List.setIfInBounds_toArray, List.set_cons_zero, List.set_cons_succ]
            refine wpAnyH_take (i := 8) (v := ?_) rfl (by kernel_rfl) (by kernel_rfl) (by kernel_rfl) (fun _ _ _ h => h) (Or.inl ⟨by rfl, ?_⟩) (by assumption) ?_
            rotate_left
            · intro w' hSw
              try dsimp only at hSw
              go_simp
              try with_reducible rfl
            try simp only [List.getElem_toArray, List.getElem_cons_succ, List.getElem_cons_zero, Act.put, List.setIfInBounds_toArray, List.set_cons_zero, List.set_cons_succ]
            refine wpAnyH_take (i := 9) (v := ?_) rfl (by kernel_rfl) (by kernel_rfl) (by kernel_rfl) (fun _ _ _ h => h) (Or.inl ⟨by rfl, ?_⟩) (by assumption) ?_
            rotate_left
            · intro w' hSw
              try dsimp only at hSw
              go_simp
              try with_reducible rfl
            try simp only [List.getElem_toArray, List.getElem_cons_succ, List.getElem_cons_zero, Act.put, List.setIfInBounds_toArray, List.set_cons_zero, List.set_cons_succ]
            refine wpAnyH_take (i := 10) (v := ?_) rfl (by kernel_rfl) (by kernel_rfl) (by kernel_rfl) (fun _ _ _ h => h) (Or.inl ⟨by rfl, ?_⟩) (by assumption) ?_
            rotate_left
            · intro w' hSw
              try dsimp only at hSw
              go_simp
              try with_reducible rfl
            try simp only [List.getElem_toArray, List.getElem_cons_succ, List.getElem_cons_zero, Act.put, List.setIfInBounds_toArray, List.set_cons_zero, List.set_cons_succ]
            refine wpAnyH_take (i := 11) (v := ?_) rfl (by kernel_rfl) (by kernel_rfl) (by kernel_rfl) (fun _ _ _ h => h) (Or.inl ⟨by rfl, ?_⟩) (by assumption) ?_
            rotate_left
            · intro w' hSw
              try dsimp only at hSw
              go_simp
              try with_reducible rfl
            try simp only [List.getElem_toArray, List.getElem_cons_succ, List.getElem_cons_zero, Act.put, List.setIfInBounds_toArray, List.set_cons_zero, List.set_cons_succ]
            refine wpAnyH_take (i := 12) (v := ?_) rfl (by kernel_rfl) (by kernel_rfl) (by kernel_rfl) (fun _ _ _ h => h) (Or.inl ⟨by rfl, ?_⟩) (by assumption) ?_
            rotate_left
            · intro w' hSw
              try dsimp only at hSw
              go_simp
              try with_reducible rfl
            try simp only [List.getElem_toArray, List.getElem_cons_succ, List.getElem_cons_zero, Act.put, List.setIfInBounds_toArray, List.set_cons_zero, List.set_cons_succ]
            refine wpAnyH_ready (rs := [13]) (by kernel_rfl) (by simp) ?_
            refine AllReadyH.cons rfl (fun K hK0 => ?_) AllReadyH.nil
            go_simp
            refine (cC W5 _ (by assumption)).mono ?_
            rintro e w8 ⟨rfl, zw8⟩
            go_simp
            refine hK0.out _ _ zw8 (fun _ => ?_)
            clear hK0 K
            try simp only [List.getElem_toArray, List.getElem_cons_succ, List.getElem_cons_zero, Act.put, List.setIfInBounds_toArray, List.set_cons_zero, List.set_cons_succ]
            refine wpAnyH_take (i := 14) (v := .bool true) rfl (by kernel_rfl) (by kernel_rfl) (by kernel_rfl) (fun _ _ _ h => h) (Or.inl ⟨by rfl, ?_⟩) (by assumption) ?_
            · intro w' hSw
              try dsimp only at hSw
              try go_simp
              all_goals first | done | with_reducible rfl | omega | assumption | (simp; omega)
            try simp only [List.getElem_toArray, List.getElem_cons_succ, List.getElem_cons_zero, Act.put, List.setIfInBounds_toArray, List.set_cons_zero, List.set_cons_succ]
            refine wpAnyH_take (i := 15) (v := .bool true) rfl (by kernel_rfl) (by kernel_rfl) (by kernel_rfl) (fun _ _ _ h => h) (Or.inl ⟨by rfl, ?_⟩) (by assumption) ?_
            · intro w' hSw
              try dsimp only at hSw
              try go_simp
              all_goals first | done | with_reducible rfl | omega | assumption | (simp; omega)
            try simp only [List.getElem_toArray, List.getElem_cons_succ, List.getElem_cons_zero, Act.put, List.setIfInBounds_toArray, List.set_cons_zero, List.set_cons_succ]
            refine wpAnyH_take (i := 16) (v := .bool true) rfl (by kernel_rfl) (by kernel_rfl) (by kernel_rfl) (fun _ _ _ h => h) (Or.inl ⟨by rfl, ?_⟩) (by assumption) ?_
            · intro w' hSw
              try dsimp only at hSw
              try go_simp
              all_goals first | done | with_reducible rfl | omega | assumption | (simp; omega)
            try simp only [List.getElem_toArray, List.getElem_cons_succ, List.getElem_cons_zero, Act.put, List.setIfInBounds_toArray, List.set_cons_zero, List.set_cons_succ]
            refine wpAnyH_done (by kernel_rfl) ?_ _
            refine NoPanic.normal ?_
            go_wp2_with fail
            go_ret
            rw [ladB_no Hwl.out Hbad.out]
            exact ⟨rfl, fr_step hF5 (by assumption)⟩
    · have hjn : j = n := by omega
      have hjz : ¬ (j : Int) < (n : Int) := by omega
      have hgood : OkP ps := by have := hok.out; rwa [List.take_of_length_le (by rw [Hn.out]; omega)] at this
      have He := keep (ladB_yes hgood)
      clear hlt hjn hgood
      go_wp2_with fail
      go_ret
      rw [He.out]
      exact ⟨rfl, hF.out⟩
end Go.Proofs.Ytcdcaanmmbopbaa
/- Which kids and pivots are valid, by the program and by the document. -/
namespace Go.Proofs.Ytcdcaanmmbopbaa
set_option maxRecDepth 100000
open Go.RowKit
set_option linter.unusedVariables false
attribute [local go_sem ↓] key_ld msg_ld
theorem chkB_blk {ks : List Int} {ps : List RK} (h : ¬ KidsOk ks) : chkB ks ps = false := by unfold chkB; rw [blkB_no h]; rfl
theorem chkB_len {ks : List Int} {ps : List RK} (h : ¬ ps.length + 1 = ks.length) : chkB ks ps = false := by unfold chkB; rw [decide_eq_false h, Bool.and_false]; rfl
theorem chkB_lad {ks : List Int} {ps : List RK} (wl : WfK ps) (h : ¬ OkP ps) : chkB ks ps = false := by unfold chkB; rw [ladB_no wl h, Bool.and_false]
set_option maxHeartbeats 4000000 in
theorem rfcheck_at {w : World} {A A2 : Option Addr} {nk ck Bk n c B : Nat} {ks : List Int} {ps : List RK} (hk : Has w Bk A2 (ints ks)) (hBk : Bk ≤ w.heap.size) (hnk : ks.length = nk) (hsk : nk ≤ 100000) (hl : Has w B A (rows kc ps)) (hB : B ≤ w.heap.size) (hn : ps.length = n) (hsm : n ≤ 100000) (wl : WfK ps) :
    Calls Try.prog 54 #[.slice A2 nk ck, .slice A n c] w fun e w' => e = .returned (.bool (chkB ks ps)) ∧ Fr w w' := by
  have Hk := keep hk
  have Hnk := keep hnk
  have Hl := keep hl
  have Hn := keep hn
  have Hwl := keep wl
  have rr := fr_refl w
  clear hk hnk hl hn wl
  by_cases h1 : (nk : Int) < 2
  · have He : Hid (chkB ks ps = false) := keep (chkB_blk fun h => by have := h.1; rw [Hnk.out] at this; omega)
    go_enter Try.func54, Try.ntmps54
    go_wp2_with fail
    go_ret
    rw [He.out]
    exact ⟨rfl, rr⟩
  by_cases h2 : 4 < (nk : Int)
  · have He : Hid (chkB ks ps = false) := keep (chkB_blk fun h => by have := h.2.1; rw [Hnk.out] at this; omega)
    go_enter Try.func54, Try.ntmps54
    go_wp2_with fail
    go_ret
    rw [He.out]
    exact ⟨rfl, rr⟩
  by_cases h3 : n + 1 = nk
  case neg =>
    have He : Hid (chkB ks ps = false) := keep (chkB_len (by rw [Hn.out, Hnk.out]; exact h3))
    have e1 : ((n : Int) == (nk : Int) - 1) = false := by simp; omega
    have e2 : ((n : Int) != (nk : Int) - 1) = true := by simp; omega
    clear h3
    go_enter Try.func54, Try.ntmps54
    go_wp2_with fail
    go_ret
    rw [He.out]
    exact ⟨rfl, rr⟩
  have e1 : ((n : Int) == (nk : Int) - 1) = true := by simp; omega
  have e2 : ((n : Int) != (nk : Int) - 1) = false := by simp; omega
  have H3 := keep h3
  clear h3
  go_enter Try.func54, Try.ntmps54
  go_wp2_with fail
  go_loopg [5] nk (fun g s5 wr => ∃ j : Nat, j + g = nk ∧ s5 = .int .i64 j ∧ Hid (Fr w wr) ∧ Hid (KidsG (ks.take j)))
  case atStart => exact ⟨0, by omega, rfl, keep (fr_refl w), keep kidsG_nil⟩
  case round =>
    obtain ⟨j, hj, rfl, hF, hok⟩ := hrel
    by_cases hlt : j < nk
    · have hm : ks[j]? = some (ks[j]'(by rw [Hnk.out]; exact hlt)) := List.getElem?_eq_getElem _
      generalize ks[j]'(by rw [Hnk.out]; exact hlt) = x at hm
      obtain ⟨b, off, rfl, hb, hc⟩ := Hk.out j _ (ints_get hm)
      have hF1 := hF.out
      have hrr := fr_refl wr
      have cell : wr.cell? ⟨b, off + j, none⟩ = some (.int .i64 x) := (hF1.cell (by show b < w.heap.size; omega)).trans hc
      have hjz : (j : Int) < (nk : Int) := by omega
      have Hm := keep hm
      have cP := fun W (h : Fr wr W) => rplace_int (W0 := wr) (v := x) (c := ck) (Hk.out.fr hBk (fr_step hF1 h)) (Nat.le_trans hBk (fr_step hF1 h).size) Hnk.out (by unfold maxLen; omega) h
      clear hm hc hlt
      by_cases hx1 : x < 1
      · have He : Hid (chkB ks ps = false) := keep (chkB_blk fun h => kidsG_bad Hm.out (.inl hx1) h.2.2)
        clear cP
        go_wp2_with fail
        go_ret
        rw [He.out]
        exact ⟨rfl, hF1⟩
      by_cases hx2 : 256 ≤ x
      · have He : Hid (chkB ks ps = false) := keep (chkB_blk fun h => kidsG_bad Hm.out (.inr (.inl hx2)) h.2.2)
        clear cP
        go_wp2_with fail
        go_ret
        rw [He.out]
        exact ⟨rfl, hF1⟩
      by_cases hx3 : x ∈ ks.take j
      · have He : Hid (chkB ks ps = false) := keep (chkB_blk fun h => kidsG_bad Hm.out (.inr (.inr hx3)) h.2.2)
        have hq : ¬ plc ks x = (j : Int) := fun e => (plc_at Hm.out).1 e hx3
        generalize plc ks x = q at *
        have q1 : (q == (j : Int)) = false := by simpa using hq
        have q2 : (q != (j : Int)) = true := by simpa using hq
        clear hq hx3
        go_wp2_with (first
          | (go_at_call 75; (with_reducible refine (cP _ hrr).mono ?_); rintro e w1 ⟨rfl, hz1⟩)
          | fail)
        go_ret
        rw [He.out]
        exact ⟨rfl, fr_step hF1 hz1⟩
      · have hq : plc ks x = (j : Int) := plc_hit Hm.out hx3
        have Hok2 := keep (kidsG_one hok.out Hm.out (by omega) (by omega) hx3)
        rw [hq] at cP
        clear hq hx3
        go_wp2_with (first
          | (go_at_call 75; (with_reducible refine (cP _ hrr).mono ?_); rintro e w1 ⟨rfl, hz1⟩)
          | fail)
        go_roundg (gk - 1)
        case measure => omega
        case rel => exact ⟨j + 1, by omega, rfl, keep (fr_step hF1 hz1), Hok2⟩
    · have hjn : j = nk := by omega
      have hjz : ¬ (j : Int) < (nk : Int) := by omega
      have hgood : KidsG ks := by have := hok.out; rwa [List.take_of_length_le (by rw [Hnk.out]; omega)] at this
      have Hkids : Hid (KidsOk ks) := keep ⟨by rw [Hnk.out]; omega, by rw [Hnk.out]; omega, hgood⟩
      have hFo := hF.out
      obtain ⟨go0, rfl⟩ : ∃ go0 : Nat, go0 = gk := ⟨_, rfl⟩
      clear hlt hjn hgood hj hok hF
      go_wp2_with fail
      go_loopg [6] n (fun g s7 wr => ∃ j : Nat, j + g = n ∧ s7 = .int .i64 j ∧ Hid (Fr w wr) ∧ Hid (OkP (ps.take j)))
      case atStart => exact ⟨0, by omega, rfl, keep hFo, keep OkP.nil⟩
      case round =>
        obtain ⟨j, hj, rfl, hF, hok⟩ := hrel
        by_cases hlt : j < n
        · have hm : ps[j]? = some (ps[j]'(by rw [Hn.out]; exact hlt)) := List.getElem?_eq_getElem _
          generalize ps[j]'(by rw [Hn.out]; exact hlt) = m at hm
          obtain ⟨b, off, rfl, hb1, hr⟩ := has_rows Hl.out (kwid ps) (by decide) (by intro e; rw [e] at hm; simp at hm)
          have wm := Hwl.out m (List.mem_of_getElem? hm)
          have lX0 := elem_ld keyS hr (kwid ps) (by omega) hm
          have hF1 := hF.out
          have hrr := fr_refl wr
          have hrD := fr_drew hrr
          have lX := fun W (h : Fr wr W) => lX0 W (fr_step hF1 h)
          have hjz : (j : Int) < (n : Int) := by omega
          have cK := fun W0 W h => rkcheck_at (W0 := W0) (W := W) wm h
          have pv : 0 < j → okB m = true → ∃ p, ps[j - 1]? = some p ∧ (∀ W, Fr wr W → (ldS 40 (.pointer (some ⟨b, off + (j - 1) * 9, none⟩))).run Try.prog W = .ok (.agg (kc p).toArray) W) ∧ (∀ W0 W, Fr W0 W → Calls Try.prog 60 #[kv p, kv m] W fun e w' => e = .returned (.int .i64 (cmpK p m)) ∧ Fr W0 w') ∧ IntKind.i64.wrap ((j : Int) - 1) = ((j - 1 : Nat) : Int) := by
            intro h0 ok
            have hp : ps[j - 1]? = some (ps[j - 1]'(by rw [Hn.out]; omega)) := List.getElem?_eq_getElem _
            generalize ps[j - 1]'(by rw [Hn.out]; omega) = p at hp
            have gp := okP_prev hok.out h0 hp
            exact ⟨p, hp, fun W h => elem_ld keyS hr (kwid ps) (by omega) hp W (fr_step hF1 h), fun W0 W h => rkcomp_at gp.1 wm gp.2 ok h, by rw [IntKind.wrap_i64]; omega⟩
          clear lX0
          cases ok : okB m with
          | false =>
            have Hbad := keep (okP_bad1 hm ok)
            rw [ok] at cK
            clear hm hr hlt ok pv
            have lP : ∀ W : World, Fr wr W → True := fun _ _ => trivial
            go_wp2_with fail
            refine wp_region_noPanic ?_
            refine wp_region_held_drew (S := fun w' => Fr wr w') (by kernel_rfl) hrD (fun hHeld => ?_)
            change wpAnyH _ _ _ _ _ _ _ _ _
            refine wpAnyH_take (i := 0) (v := ?_) rfl (by kernel_rfl) (by kernel_rfl) (by kernel_rfl) (fun _ _ _ h => h) (Or.inl ⟨by rfl, ?_⟩) (by assumption) ?_
            rotate_left
            · intro w' hSw
              try dsimp only at hSw
              go_simp
              try with_reducible rfl
            try simp only [List.getElem_toArray, List.getElem_cons_zero, Act.put, List.setIfInBounds_toArray, List.set_cons_zero, List.set_cons_succ]
            refine wpAnyH_take (i := 1) (v := ?_) rfl (by kernel_rfl) (by kernel_rfl) (by kernel_rfl) (fun _ _ _ h => h) (Or.inl ⟨by rfl, ?_⟩) (by assumption) ?_
            rotate_left
            · intro w' hSw
              try dsimp only at hSw
              go_simp
              try with_reducible rfl
            try simp only [List.getElem_toArray, List.getElem_cons_succ, List.getElem_cons_zero, Act.put, List.setIfInBounds_toArray, List.set_cons_zero, List.set_cons_succ]
            refine wpAnyH_take (i := 2) (v := ?_) rfl (by kernel_rfl) (by kernel_rfl) (by kernel_rfl) (fun _ _ _ h => h) (Or.inl ⟨by rfl, ?_⟩) (by assumption) ?_
            rotate_left
            · intro w' hSw
              try dsimp only at hSw
              go_simp
              try with_reducible rfl
            try simp only [List.getElem_toArray, List.getElem_cons_succ, List.getElem_cons_zero, Act.put, List.setIfInBounds_toArray, List.set_cons_zero, List.set_cons_succ]
            refine wpAnyH_take (i := 3) (v := ?_) rfl (by kernel_rfl) (by kernel_rfl) (by kernel_rfl) (fun _ _ _ h => h) (Or.inl ⟨by rfl, ?_⟩) (by assumption) ?_
            rotate_left
            · intro w' hSw
              try dsimp only at hSw
              go_simp
              try with_reducible rfl
            try simp only [List.getElem_toArray, List.getElem_cons_succ, List.getElem_cons_zero, Act.put, List.setIfInBounds_toArray, List.set_cons_zero, List.set_cons_succ]
            refine wpAnyH_ready (rs := [4]) (by kernel_rfl) (by simp) ?_
            refine AllReadyH.cons rfl (fun K hK0 => ?_) AllReadyH.nil
            go_simp
            refine (cK wr _ (by assumption)).mono ?_
            rintro e w7 ⟨rfl, zw7⟩
            go_simp
            refine hK0.out _ _ zw7 (fun _ => ?_)
            clear hK0 K
            try simp only [List.getElem_toArray, List.getElem_cons_succ, List.getElem_cons_zero, Act.put, List.setIfInBounds_toArray, List.set_cons_zero, List.set_cons_succ]
            refine wpAnyH_take (i := 5) (v := .bool true) rfl (by kernel_rfl) (by kernel_rfl) (by kernel_rfl) (fun _ _ _ h => h) (Or.inl ⟨by rfl, ?_⟩) (by assumption) ?_
            · intro w' hSw
              try dsimp only at hSw
              try go_simp
              all_goals first | done | with_reducible rfl | omega | assumption | (simp; omega)
            try simp only [List.getElem_toArray, List.getElem_cons_succ, List.getElem_cons_zero, Act.put, List.setIfInBounds_toArray, List.set_cons_zero, List.set_cons_succ]
            refine wpAnyH_take (i := 6) (v := .bool true) rfl (by kernel_rfl) (by kernel_rfl) (by kernel_rfl) (fun _ _ _ h => h) (Or.inl ⟨by rfl, ?_⟩) (by assumption) ?_
            · intro w' hSw
              try dsimp only at hSw
              try go_simp
              all_goals first | done | with_reducible rfl | omega | assumption | (simp; omega)
            try simp only [List.getElem_toArray, List.getElem_cons_succ, List.getElem_cons_zero, Act.put, List.setIfInBounds_toArray, List.set_cons_zero, List.set_cons_succ]
            refine wpAnyH_take (i := 7) (v := undef) rfl (by kernel_rfl) (by kernel_rfl) (by kernel_rfl) (fun _ _ _ h => h) (Or.inr ⟨by rfl, rfl⟩) (by assumption) ?_
            try simp only [List.getElem_toArray, List.getElem_cons_succ, List.getElem_cons_zero, Act.put, List.setIfInBounds_toArray, List.set_cons_zero, List.set_cons_succ]
            refine wpAnyH_take (i := 8) (v := undef) rfl (by kernel_rfl) (by kernel_rfl) (by kernel_rfl) (fun _ _ _ h => h) (Or.inr ⟨by rfl, rfl⟩) (by assumption) ?_
            try simp only [List.getElem_toArray, List.getElem_cons_succ, List.getElem_cons_zero, Act.put, List.setIfInBounds_toArray, List.set_cons_zero, List.set_cons_succ]
            refine wpAnyH_take (i := 9) (v := undef) rfl (by kernel_rfl) (by kernel_rfl) (by kernel_rfl) (fun _ _ _ h => h) (Or.inr ⟨by rfl, rfl⟩) (by assumption) ?_
            try simp only [List.getElem_toArray, List.getElem_cons_succ, List.getElem_cons_zero, Act.put, List.setIfInBounds_toArray, List.set_cons_zero, List.set_cons_succ]
            refine wpAnyH_take (i := 10) (v := undef) rfl (by kernel_rfl) (by kernel_rfl) (by kernel_rfl) (fun _ _ _ h => h) (Or.inr ⟨by rfl, rfl⟩) (by assumption) ?_
            try simp only [List.getElem_toArray, List.getElem_cons_succ, List.getElem_cons_zero, Act.put, List.setIfInBounds_toArray, List.set_cons_zero, List.set_cons_succ]
            refine wpAnyH_take (i := 11) (v := undef) rfl (by kernel_rfl) (by kernel_rfl) (by kernel_rfl) (fun _ _ _ h => h) (Or.inr ⟨by rfl, rfl⟩) (by assumption) ?_
            try simp only [List.getElem_toArray, List.getElem_cons_succ, List.getElem_cons_zero, Act.put, List.setIfInBounds_toArray, List.set_cons_zero, List.set_cons_succ]
            refine wpAnyH_take (i := 12) (v := undef) rfl (by kernel_rfl) (by kernel_rfl) (by kernel_rfl) (fun _ _ _ h => h) (Or.inr ⟨by rfl, rfl⟩) (by assumption) ?_
            try simp only [List.getElem_toArray, List.getElem_cons_succ, List.getElem_cons_zero, Act.put, List.setIfInBounds_toArray, List.set_cons_zero, List.set_cons_succ]
            refine wpAnyH_take (i := 13) (v := undef) rfl (by kernel_rfl) (by kernel_rfl) (by kernel_rfl) (fun _ _ _ h => h) (Or.inr ⟨by rfl, rfl⟩) (by assumption) ?_
            try simp only [List.getElem_toArray, List.getElem_cons_succ, List.getElem_cons_zero, Act.put, List.setIfInBounds_toArray, List.set_cons_zero, List.set_cons_succ]
            refine wpAnyH_take (i := 14) (v := undef) rfl (by kernel_rfl) (by kernel_rfl) (by kernel_rfl) (fun _ _ _ h => h) (Or.inr ⟨by rfl, rfl⟩) (by assumption) ?_
            try simp only [List.getElem_toArray, List.getElem_cons_succ, List.getElem_cons_zero, Act.put, List.setIfInBounds_toArray, List.set_cons_zero, List.set_cons_succ]
            refine wpAnyH_take (i := 15) (v := undef) rfl (by kernel_rfl) (by kernel_rfl) (by kernel_rfl) (fun _ _ _ h => h) (Or.inr ⟨by rfl, rfl⟩) (by assumption) ?_
            try simp only [List.getElem_toArray, List.getElem_cons_succ, List.getElem_cons_zero, Act.put, List.setIfInBounds_toArray, List.set_cons_zero, List.set_cons_succ]
            refine wpAnyH_take (i := 16) (v := undef) rfl (by kernel_rfl) (by kernel_rfl) (by kernel_rfl) (fun _ _ _ h => h) (Or.inr ⟨by rfl, rfl⟩) (by assumption) ?_
            try simp only [List.getElem_toArray, List.getElem_cons_succ, List.getElem_cons_zero, Act.put, List.setIfInBounds_toArray, List.set_cons_zero, List.set_cons_succ]
            refine wpAnyH_take (i := 17) (v := undef) rfl (by kernel_rfl) (by kernel_rfl) (by kernel_rfl) (fun _ _ _ h => h) (Or.inr ⟨by rfl, rfl⟩) (by assumption) ?_
            try simp only [List.getElem_toArray, List.getElem_cons_succ, List.getElem_cons_zero, Act.put, List.setIfInBounds_toArray, List.set_cons_zero, List.set_cons_succ]
            refine wpAnyH_take (i := 18) (v := undef) rfl (by kernel_rfl) (by kernel_rfl) (by kernel_rfl) (fun _ _ _ h => h) (Or.inr ⟨by rfl, rfl⟩) (by assumption) ?_
            try simp only [List.getElem_toArray, List.getElem_cons_succ, List.getElem_cons_zero, Act.put, List.setIfInBounds_toArray, List.set_cons_zero, List.set_cons_succ]
            refine wpAnyH_take (i := 19) (v := undef) rfl (by kernel_rfl) (by kernel_rfl) (by kernel_rfl) (fun _ _ _ h => h) (Or.inr ⟨by rfl, rfl⟩) (by assumption) ?_
            try simp only [List.getElem_toArray, List.getElem_cons_succ, List.getElem_cons_zero, Act.put, List.setIfInBounds_toArray, List.set_cons_zero, List.set_cons_succ]
            refine wpAnyH_take (i := 20) (v := undef) rfl (by kernel_rfl) (by kernel_rfl) (by kernel_rfl) (fun _ _ _ h => h) (Or.inr ⟨by rfl, rfl⟩) (by assumption) ?_
            try simp only [List.getElem_toArray, List.getElem_cons_succ, List.getElem_cons_zero, Act.put, List.setIfInBounds_toArray, List.set_cons_zero, List.set_cons_succ]
            refine wpAnyH_take (i := 21) (v := undef) rfl (by kernel_rfl) (by kernel_rfl) (by kernel_rfl) (fun _ _ _ h => h) (Or.inr ⟨by rfl, rfl⟩) (by assumption) ?_
            try simp only [List.getElem_toArray, List.getElem_cons_succ, List.getElem_cons_zero, Act.put, List.setIfInBounds_toArray, List.set_cons_zero, List.set_cons_succ]
            refine wpAnyH_take (i := 22) (v := .bool true) rfl (by kernel_rfl) (by kernel_rfl) (by kernel_rfl) (fun _ _ _ h => h) (Or.inl ⟨by rfl, ?_⟩) (by assumption) ?_
            · intro w' hSw
              try dsimp only at hSw
              try go_simp
              all_goals first | done | with_reducible rfl | omega | assumption | (simp; omega)
            try simp only [List.getElem_toArray, List.getElem_cons_succ, List.getElem_cons_zero, Act.put, List.setIfInBounds_toArray, List.set_cons_zero, List.set_cons_succ]
            refine wpAnyH_done (by kernel_rfl) ?_ _
            refine NoPanic.normal ?_
            go_wp2_with fail
            go_ret
            rw [chkB_lad Hwl.out Hbad.out]
            exact ⟨rfl, fr_step hF1 (by assumption)⟩
          | true =>
            rw [ok] at cK
            rcases Nat.eq_zero_or_pos j with h0 | h0
            · have hgt : ¬ (0 < (j : Int)) := by omega
              have Hok2 := keep (okP_one hm hok.out ⟨wm, ok⟩ (.inl h0))
              clear hm hr hlt ok pv h0
              have lP : ∀ W : World, Fr wr W → True := fun _ _ => trivial
              go_wp2_with fail
              refine wp_region_noPanic ?_
              refine wp_region_held_drew (S := fun w' => Fr wr w') (by kernel_rfl) hrD (fun hHeld => ?_)
              change wpAnyH _ _ _ _ _ _ _ _ _
              refine wpAnyH_take (i := 0) (v := ?_) rfl (by kernel_rfl) (by kernel_rfl) (by kernel_rfl) (fun _ _ _ h => h) (Or.inl ⟨by rfl, ?_⟩) (by assumption) ?_
              rotate_left
              · intro w' hSw
                try dsimp only at hSw
                go_simp
                try with_reducible rfl
              try simp only [List.getElem_toArray, List.getElem_cons_zero, Act.put, List.setIfInBounds_toArray, List.set_cons_zero, List.set_cons_succ]
              refine wpAnyH_take (i := 1) (v := ?_) rfl (by kernel_rfl) (by kernel_rfl) (by kernel_rfl) (fun _ _ _ h => h) (Or.inl ⟨by rfl, ?_⟩) (by assumption) ?_
              rotate_left
              · intro w' hSw
                try dsimp only at hSw
                go_simp
                try with_reducible rfl
              try simp only [List.getElem_toArray, List.getElem_cons_succ, List.getElem_cons_zero, Act.put, List.setIfInBounds_toArray, List.set_cons_zero, List.set_cons_succ]
              refine wpAnyH_take (i := 2) (v := ?_) rfl (by kernel_rfl) (by kernel_rfl) (by kernel_rfl) (fun _ _ _ h => h) (Or.inl ⟨by rfl, ?_⟩) (by assumption) ?_
              rotate_left
              · intro w' hSw
                try dsimp only at hSw
                go_simp
                try with_reducible rfl
              try simp only [List.getElem_toArray, List.getElem_cons_succ, List.getElem_cons_zero, Act.put, List.setIfInBounds_toArray, List.set_cons_zero, List.set_cons_succ]
              refine wpAnyH_take (i := 3) (v := ?_) rfl (by kernel_rfl) (by kernel_rfl) (by kernel_rfl) (fun _ _ _ h => h) (Or.inl ⟨by rfl, ?_⟩) (by assumption) ?_
              rotate_left
              · intro w' hSw
                try dsimp only at hSw
                go_simp
                try with_reducible rfl
              try simp only [List.getElem_toArray, List.getElem_cons_succ, List.getElem_cons_zero, Act.put, List.setIfInBounds_toArray, List.set_cons_zero, List.set_cons_succ]
              refine wpAnyH_ready (rs := [4]) (by kernel_rfl) (by simp) ?_
              refine AllReadyH.cons rfl (fun K hK0 => ?_) AllReadyH.nil
              go_simp
              refine (cK wr _ (by assumption)).mono ?_
              rintro e w7 ⟨rfl, zw7⟩
              go_simp
              refine hK0.out _ _ zw7 (fun _ => ?_)
              clear hK0 K
              try simp only [List.getElem_toArray, List.getElem_cons_succ, List.getElem_cons_zero, Act.put, List.setIfInBounds_toArray, List.set_cons_zero, List.set_cons_succ]
              refine wpAnyH_take (i := 5) (v := .bool false) rfl (by kernel_rfl) (by kernel_rfl) (by kernel_rfl) (fun _ _ _ h => h) (Or.inl ⟨by rfl, ?_⟩) (by assumption) ?_
              · intro w' hSw
                try dsimp only at hSw
                try go_simp
                all_goals first | done | with_reducible rfl | omega | assumption | (simp; omega)
              try simp only [List.getElem_toArray, List.getElem_cons_succ, List.getElem_cons_zero, Act.put, List.setIfInBounds_toArray, List.set_cons_zero, List.set_cons_succ]
              refine wpAnyH_take (i := 6) (v := .bool false) rfl (by kernel_rfl) (by kernel_rfl) (by kernel_rfl) (fun _ _ _ h => h) (Or.inl ⟨by rfl, ?_⟩) (by assumption) ?_
              · intro w' hSw
                try dsimp only at hSw
                try go_simp
                all_goals first | done | with_reducible rfl | omega | assumption | (simp; omega)
              try simp only [List.getElem_toArray, List.getElem_cons_succ, List.getElem_cons_zero, Act.put, List.setIfInBounds_toArray, List.set_cons_zero, List.set_cons_succ]
              refine wpAnyH_take (i := 7) (v := ?_) rfl (by kernel_rfl) (by kernel_rfl) (by kernel_rfl) (fun _ _ _ h => h) (Or.inl ⟨by rfl, ?_⟩) (by assumption) ?_
              rotate_left
              · intro w' hSw
                try dsimp only at hSw
                go_simp
                try with_reducible rfl
              try simp only [List.getElem_toArray, List.getElem_cons_succ, List.getElem_cons_zero, Act.put, List.setIfInBounds_toArray, List.set_cons_zero, List.set_cons_succ]
              refine wpAnyH_take (i := 8) (v := .bool false) rfl (by kernel_rfl) (by kernel_rfl) (by kernel_rfl) (fun _ _ _ h => h) (Or.inl ⟨by rfl, ?_⟩) (by assumption) ?_
              · intro w' hSw
                try dsimp only at hSw
                try go_simp
                all_goals first | done | with_reducible rfl | omega | assumption | (simp; omega)
              try simp only [List.getElem_toArray, List.getElem_cons_succ, List.getElem_cons_zero, Act.put, List.setIfInBounds_toArray, List.set_cons_zero, List.set_cons_succ]
              refine wpAnyH_take (i := 9) (v := .bool false) rfl (by kernel_rfl) (by kernel_rfl) (by kernel_rfl) (fun _ _ _ h => h) (Or.inl ⟨by rfl, ?_⟩) (by assumption) ?_
              · intro w' hSw
                try dsimp only at hSw
                try go_simp
                all_goals first | done | with_reducible rfl | omega | assumption | (simp; omega)
              try simp only [List.getElem_toArray, List.getElem_cons_succ, List.getElem_cons_zero, Act.put, List.setIfInBounds_toArray, List.set_cons_zero, List.set_cons_succ]
              refine wpAnyH_take (i := 10) (v := undef) rfl (by kernel_rfl) (by kernel_rfl) (by kernel_rfl) (fun _ _ _ h => h) (Or.inr ⟨by rfl, rfl⟩) (by assumption) ?_
              try simp only [List.getElem_toArray, List.getElem_cons_succ, List.getElem_cons_zero, Act.put, List.setIfInBounds_toArray, List.set_cons_zero, List.set_cons_succ]
              refine wpAnyH_take (i := 11) (v := undef) rfl (by kernel_rfl) (by kernel_rfl) (by kernel_rfl) (fun _ _ _ h => h) (Or.inr ⟨by rfl, rfl⟩) (by assumption) ?_
              try simp only [List.getElem_toArray, List.getElem_cons_succ, List.getElem_cons_zero, Act.put, List.setIfInBounds_toArray, List.set_cons_zero, List.set_cons_succ]
              refine wpAnyH_take (i := 12) (v := undef) rfl (by kernel_rfl) (by kernel_rfl) (by kernel_rfl) (fun _ _ _ h => h) (Or.inr ⟨by rfl, rfl⟩) (by assumption) ?_
              try simp only [List.getElem_toArray, List.getElem_cons_succ, List.getElem_cons_zero, Act.put, List.setIfInBounds_toArray, List.set_cons_zero, List.set_cons_succ]
              refine wpAnyH_take (i := 13) (v := undef) rfl (by kernel_rfl) (by kernel_rfl) (by kernel_rfl) (fun _ _ _ h => h) (Or.inr ⟨by rfl, rfl⟩) (by assumption) ?_
              try simp only [List.getElem_toArray, List.getElem_cons_succ, List.getElem_cons_zero, Act.put, List.setIfInBounds_toArray, List.set_cons_zero, List.set_cons_succ]
              refine wpAnyH_take (i := 14) (v := undef) rfl (by kernel_rfl) (by kernel_rfl) (by kernel_rfl) (fun _ _ _ h => h) (Or.inr ⟨by rfl, rfl⟩) (by assumption) ?_
              try simp only [List.getElem_toArray, List.getElem_cons_succ, List.getElem_cons_zero, Act.put, List.setIfInBounds_toArray, List.set_cons_zero, List.set_cons_succ]
              refine wpAnyH_take (i := 15) (v := undef) rfl (by kernel_rfl) (by kernel_rfl) (by kernel_rfl) (fun _ _ _ h => h) (Or.inr ⟨by rfl, rfl⟩) (by assumption) ?_
              try simp only [List.getElem_toArray, List.getElem_cons_succ, List.getElem_cons_zero, Act.put, List.setIfInBounds_toArray, List.set_cons_zero, List.set_cons_succ]
              refine wpAnyH_take (i := 16) (v := undef) rfl (by kernel_rfl) (by kernel_rfl) (by kernel_rfl) (fun _ _ _ h => h) (Or.inr ⟨by rfl, rfl⟩) (by assumption) ?_
              try simp only [List.getElem_toArray, List.getElem_cons_succ, List.getElem_cons_zero, Act.put, List.setIfInBounds_toArray, List.set_cons_zero, List.set_cons_succ]
              refine wpAnyH_take (i := 17) (v := undef) rfl (by kernel_rfl) (by kernel_rfl) (by kernel_rfl) (fun _ _ _ h => h) (Or.inr ⟨by rfl, rfl⟩) (by assumption) ?_
              try simp only [List.getElem_toArray, List.getElem_cons_succ, List.getElem_cons_zero, Act.put, List.setIfInBounds_toArray, List.set_cons_zero, List.set_cons_succ]
              refine wpAnyH_take (i := 18) (v := undef) rfl (by kernel_rfl) (by kernel_rfl) (by kernel_rfl) (fun _ _ _ h => h) (Or.inr ⟨by rfl, rfl⟩) (by assumption) ?_
              try simp only [List.getElem_toArray, List.getElem_cons_succ, List.getElem_cons_zero, Act.put, List.setIfInBounds_toArray, List.set_cons_zero, List.set_cons_succ]
              refine wpAnyH_take (i := 19) (v := undef) rfl (by kernel_rfl) (by kernel_rfl) (by kernel_rfl) (fun _ _ _ h => h) (Or.inr ⟨by rfl, rfl⟩) (by assumption) ?_
              try simp only [List.getElem_toArray, List.getElem_cons_succ, List.getElem_cons_zero, Act.put, List.setIfInBounds_toArray, List.set_cons_zero, List.set_cons_succ]
              refine wpAnyH_take (i := 20) (v := undef) rfl (by kernel_rfl) (by kernel_rfl) (by kernel_rfl) (fun _ _ _ h => h) (Or.inr ⟨by rfl, rfl⟩) (by assumption) ?_
              try simp only [List.getElem_toArray, List.getElem_cons_succ, List.getElem_cons_zero, Act.put, List.setIfInBounds_toArray, List.set_cons_zero, List.set_cons_succ]
              refine wpAnyH_take (i := 21) (v := .bool false) rfl (by kernel_rfl) (by kernel_rfl) (by kernel_rfl) (fun _ _ _ h => h) (Or.inl ⟨by rfl, ?_⟩) (by assumption) ?_
              · intro w' hSw
                try dsimp only at hSw
                try go_simp
                all_goals first | done | with_reducible rfl | omega | assumption | (simp; omega)
              try simp only [List.getElem_toArray, List.getElem_cons_succ, List.getElem_cons_zero, Act.put, List.setIfInBounds_toArray, List.set_cons_zero, List.set_cons_succ]
              refine wpAnyH_take (i := 22) (v := .bool false) rfl (by kernel_rfl) (by kernel_rfl) (by kernel_rfl) (fun _ _ _ h => h) (Or.inl ⟨by rfl, ?_⟩) (by assumption) ?_
              · intro w' hSw
                try dsimp only at hSw
                try go_simp
                all_goals first | done | with_reducible rfl | omega | assumption | (simp; omega)
              try simp only [List.getElem_toArray, List.getElem_cons_succ, List.getElem_cons_zero, Act.put, List.setIfInBounds_toArray, List.set_cons_zero, List.set_cons_succ]
              refine wpAnyH_done (by kernel_rfl) ?_ _
              refine NoPanic.normal ?_
              go_wp2_with fail
              go_roundg (gk - 1)
              case measure => omega
              case rel => exact ⟨j + 1, by omega, rfl, keep (fr_step hF1 (by assumption)), Hok2⟩
            · have hgt : 0 < (j : Int) := by omega
              obtain ⟨p, hp, lP, cC, hjw⟩ := pv h0 ok
              have hjl : (j : Int) - 1 < (n : Int) := by omega
              have hjl2 : j - 1 < n := by omega
              by_cases hcd : code p < code m
              · have Hok2 := keep (okP_one hm hok.out ⟨wm, ok⟩ (.inr ⟨p, hp, hcd⟩))
                have hq : ¬ (0 ≤ cmpK p m) := fun h => by have := cmpK_ge.1 h; omega
                clear hm hr hlt ok pv h0 hp hcd
                go_wp2_with fail
                refine wp_region_noPanic ?_
                refine wp_region_held_drew (S := fun w' => Fr wr w') (by kernel_rfl) hrD (fun hHeld => ?_)
                change wpAnyH _ _ _ _ _ _ _ _ _
                refine wpAnyH_take (i := 0) (v := ?_) rfl (by kernel_rfl) (by kernel_rfl) (by kernel_rfl) (fun _ _ _ h => h) (Or.inl ⟨by rfl, ?_⟩) (by assumption) ?_
                rotate_left
                · intro w' hSw
                  try dsimp only at hSw
                  go_simp
                  try with_reducible rfl
                try simp only [List.getElem_toArray, List.getElem_cons_zero, Act.put, List.setIfInBounds_toArray, List.set_cons_zero, List.set_cons_succ]
                refine wpAnyH_take (i := 1) (v := ?_) rfl (by kernel_rfl) (by kernel_rfl) (by kernel_rfl) (fun _ _ _ h => h) (Or.inl ⟨by rfl, ?_⟩) (by assumption) ?_
                rotate_left
                · intro w' hSw
                  try dsimp only at hSw
                  go_simp
                  try with_reducible rfl
                try simp only [List.getElem_toArray, List.getElem_cons_succ, List.getElem_cons_zero, Act.put, List.setIfInBounds_toArray, List.set_cons_zero, List.set_cons_succ]
                refine wpAnyH_take (i := 2) (v := ?_) rfl (by kernel_rfl) (by kernel_rfl) (by kernel_rfl) (fun _ _ _ h => h) (Or.inl ⟨by rfl, ?_⟩) (by assumption) ?_
                rotate_left
                · intro w' hSw
                  try dsimp only at hSw
                  go_simp
                  try with_reducible rfl
                try simp only [List.getElem_toArray, List.getElem_cons_succ, List.getElem_cons_zero, Act.put, List.setIfInBounds_toArray, List.set_cons_zero, List.set_cons_succ]
                refine wpAnyH_take (i := 3) (v := ?_) rfl (by kernel_rfl) (by kernel_rfl) (by kernel_rfl) (fun _ _ _ h => h) (Or.inl ⟨by rfl, ?_⟩) (by assumption) ?_
                rotate_left
                · intro w' hSw
                  try dsimp only at hSw
                  go_simp
                  try with_reducible rfl
                try simp only [List.getElem_toArray, List.getElem_cons_succ, List.getElem_cons_zero, Act.put, List.setIfInBounds_toArray, List.set_cons_zero, List.set_cons_succ]
                refine wpAnyH_ready (rs := [4]) (by kernel_rfl) (by simp) ?_
                refine AllReadyH.cons rfl (fun K hK0 => ?_) AllReadyH.nil
                go_simp
                refine (cK wr _ (by assumption)).mono ?_
                rintro e w7 ⟨rfl, zw7⟩
                go_simp
                refine hK0.out _ _ zw7 (fun _ => ?_)
                clear hK0 K
                try simp only [List.getElem_toArray, List.getElem_cons_succ, List.getElem_cons_zero, Act.put, List.setIfInBounds_toArray, List.set_cons_zero, List.set_cons_succ]
                refine wpAnyH_take (i := 5) (v := .bool false) rfl (by kernel_rfl) (by kernel_rfl) (by kernel_rfl) (fun _ _ _ h => h) (Or.inl ⟨by rfl, ?_⟩) (by assumption) ?_
                · intro w' hSw
                  try dsimp only at hSw
                  try go_simp
                  all_goals first | done | with_reducible rfl | omega | assumption | (simp; omega)
                try simp only [List.getElem_toArray, List.getElem_cons_succ, List.getElem_cons_zero, Act.put, List.setIfInBounds_toArray, List.set_cons_zero, List.set_cons_succ]
                refine wpAnyH_take (i := 6) (v := .bool false) rfl (by kernel_rfl) (by kernel_rfl) (by kernel_rfl) (fun _ _ _ h => h) (Or.inl ⟨by rfl, ?_⟩) (by assumption) ?_
                · intro w' hSw
                  try dsimp only at hSw
                  try go_simp
                  all_goals first | done | with_reducible rfl | omega | assumption | (simp; omega)
                try simp only [List.getElem_toArray, List.getElem_cons_succ, List.getElem_cons_zero, Act.put, List.setIfInBounds_toArray, List.set_cons_zero, List.set_cons_succ]
                refine wpAnyH_take (i := 7) (v := ?_) rfl (by kernel_rfl) (by kernel_rfl) (by kernel_rfl) (fun _ _ _ h => h) (Or.inl ⟨by rfl, ?_⟩) (by assumption) ?_
                rotate_left
                · intro w' hSw
                  try dsimp only at hSw
                  go_simp
                  try with_reducible rfl
                try simp only [List.getElem_toArray, List.getElem_cons_succ, List.getElem_cons_zero, Act.put, List.setIfInBounds_toArray, List.set_cons_zero, List.set_cons_succ]
                refine wpAnyH_take (i := 8) (v := .bool true) rfl (by kernel_rfl) (by kernel_rfl) (by kernel_rfl) (fun _ _ _ h => h) (Or.inl ⟨by rfl, ?_⟩) (by assumption) ?_
                · intro w' hSw
                  try dsimp only at hSw
                  try go_simp
                  all_goals first | done | with_reducible rfl | omega | assumption | (simp; omega)
                try simp only [List.getElem_toArray, List.getElem_cons_succ, List.getElem_cons_zero, Act.put, List.setIfInBounds_toArray, List.set_cons_zero, List.set_cons_succ]
                refine wpAnyH_take (i := 9) (v := .bool true) rfl (by kernel_rfl) (by kernel_rfl) (by kernel_rfl) (fun _ _ _ h => h) (Or.inl ⟨by rfl, ?_⟩) (by assumption) ?_
                · intro w' hSw
                  try dsimp only at hSw
                  try go_simp
                  all_goals first | done | with_reducible rfl | omega | assumption | (simp; omega)
                try simp only [List.getElem_toArray, List.getElem_cons_succ, List.getElem_cons_zero, Act.put, List.setIfInBounds_toArray, List.set_cons_zero, List.set_cons_succ]
                refine wpAnyH_take (i := 10) (v := ?_) rfl (by kernel_rfl) (by kernel_rfl) (by kernel_rfl) (fun _ _ _ h => h) (Or.inl ⟨by rfl, ?_⟩) (by assumption) ?_
                rotate_left
                · intro w' hSw
                  try dsimp only at hSw
                  go_simp
                  try with_reducible rfl
                try simp only [List.getElem_toArray, List.getElem_cons_succ, List.getElem_cons_zero, Act.put, List.setIfInBounds_toArray, List.set_cons_zero, List.set_cons_succ]
                refine wpAnyH_take (i := 11) (v := ?_) rfl (by kernel_rfl) (by kernel_rfl) (by kernel_rfl) (fun _ _ _ h => h) (Or.inl ⟨by rfl, ?_⟩) (by assumption) ?_
                rotate_left
                · intro w' hSw
                  try dsimp only at hSw
                  go_simp
                  try with_reducible rfl
                try simp only [List.getElem_toArray, List.getElem_cons_succ, List.getElem_cons_zero, Act.put, List.setIfInBounds_toArray, List.set_cons_zero, List.set_cons_succ]
                refine wpAnyH_take (i := 12) (v := ?_) rfl (by kernel_rfl) (by kernel_rfl) (by kernel_rfl) (fun _ _ _ h => h) (Or.inl ⟨by rfl, ?_⟩) (by assumption) ?_
                rotate_left
                · intro w' hSw
                  try dsimp only at hSw
                  go_simp
                  try with_reducible rfl
                try simp only [List.getElem_toArray, List.getElem_cons_succ, List.getElem_cons_zero, Act.put, List.setIfInBounds_toArray, List.set_cons_zero, List.set_cons_succ]
                refine wpAnyH_take (i := 13) (v := ?_) rfl (by kernel_rfl) (by kernel_rfl) (by kernel_rfl) (fun _ _ _ h => h) (Or.inl ⟨by rfl, ?_⟩) (by assumption) ?_
                rotate_left
                · intro w' hSw
                  try dsimp only at hSw
                  go_simp
                  try with_reducible rfl
                try simp only [List.getElem_toArray, List.getElem_cons_succ, List.getElem_cons_zero, Act.put, List.setIfInBounds_toArray, List.set_cons_zero, List.set_cons_succ]
                refine wpAnyH_take (i := 14) (v := ?_) rfl (by kernel_rfl) (by kernel_rfl) (by kernel_rfl) (fun _ _ _ h => h) (Or.inl ⟨by rfl, ?_⟩) (by assumption) ?_
                rotate_left
                · intro w' hSw
                  try dsimp only at hSw
                  go_simp
                  try with_reducible rfl
                try simp only [List.getElem_toArray, List.getElem_cons_succ, List.getElem_cons_zero, Act.put, List.setIfInBounds_toArray, List.set_cons_zero, List.set_cons_succ]
                refine wpAnyH_take (i := 15) (v := ?_) rfl (by kernel_rfl) (by kernel_rfl) (by kernel_rfl) (fun _ _ _ h => h) (Or.inl ⟨by rfl, ?_⟩) (by assumption) ?_
                rotate_left
                · intro w' hSw
                  try dsimp only at hSw
                  go_simp
                  try with_reducible rfl
                try simp only [List.getElem_toArray, List.getElem_cons_succ, List.getElem_cons_zero, Act.put, List.setIfInBounds_toArray, List.set_cons_zero, List.set_cons_succ]
                refine wpAnyH_take (i := 16) (v := ?_) rfl (by kernel_rfl) (by kernel_rfl) (by kernel_rfl) (fun _ _ _ h => h) (Or.inl ⟨by rfl, ?_⟩) (by assumption) ?_
                rotate_left
                · intro w' hSw
                  try dsimp only at hSw
                  go_simp
                  try with_reducible rfl
                try simp only [List.getElem_toArray, List.getElem_cons_succ, List.getElem_cons_zero, Act.put, List.setIfInBounds_toArray, List.set_cons_zero, List.set_cons_succ]
                refine wpAnyH_take (i := 17) (v := ?_) rfl (by kernel_rfl) (by kernel_rfl) (by kernel_rfl) (fun _ _ _ h => h) (Or.inl ⟨by rfl, ?_⟩) (by assumption) ?_
                rotate_left
                · intro w' hSw
                  try dsimp only at hSw
                  go_simp
                  try with_reducible rfl
                try simp only [List.getElem_toArray, List.getElem_cons_succ, List.getElem_cons_zero, Act.put, List.setIfInBounds_toArray, List.set_cons_zero, List.set_cons_succ]
                refine wpAnyH_take (i := 18) (v := ?_) rfl (by kernel_rfl) (by kernel_rfl) (by kernel_rfl) (fun _ _ _ h => h) (Or.inl ⟨by rfl, ?_⟩) (by assumption) ?_
                rotate_left
                · intro w' hSw
                  try dsimp only at hSw
                  go_simp
                  try with_reducible rfl
                try simp only [List.getElem_toArray, List.getElem_cons_succ, List.getElem_cons_zero, Act.put, List.setIfInBounds_toArray, List.set_cons_zero, List.set_cons_succ]
                refine wpAnyH_ready (rs := [19]) (by kernel_rfl) (by simp) ?_
                refine AllReadyH.cons rfl (fun K hK0 => ?_) AllReadyH.nil
                go_simp
                refine (cC wr _ (by assumption)).mono ?_
                rintro e w8 ⟨rfl, zw8⟩
                go_simp
                refine hK0.out _ _ zw8 (fun _ => ?_)
                clear hK0 K
                try simp only [List.getElem_toArray, List.getElem_cons_succ, List.getElem_cons_zero, Act.put, List.setIfInBounds_toArray, List.set_cons_zero, List.set_cons_succ]
                refine wpAnyH_take (i := 20) (v := .bool false) rfl (by kernel_rfl) (by kernel_rfl) (by kernel_rfl) (fun _ _ _ h => h) (Or.inl ⟨by rfl, ?_⟩) (by assumption) ?_
                · intro w' hSw
                  try dsimp only at hSw
                  try go_simp
                  all_goals first | done | with_reducible rfl | omega | assumption | (simp; omega)
                try simp only [List.getElem_toArray, List.getElem_cons_succ, List.getElem_cons_zero, Act.put, List.setIfInBounds_toArray, List.set_cons_zero, List.set_cons_succ]
                refine wpAnyH_take (i := 21) (v := .bool false) rfl (by kernel_rfl) (by kernel_rfl) (by kernel_rfl) (fun _ _ _ h => h) (Or.inl ⟨by rfl, ?_⟩) (by assumption) ?_
                · intro w' hSw
                  try dsimp only at hSw
                  try go_simp
                  all_goals first | done | with_reducible rfl | omega | assumption | (simp; omega)
                try simp only [List.getElem_toArray, List.getElem_cons_succ, List.getElem_cons_zero, Act.put, List.setIfInBounds_toArray, List.set_cons_zero, List.set_cons_succ]
                refine wpAnyH_take (i := 22) (v := .bool false) rfl (by kernel_rfl) (by kernel_rfl) (by kernel_rfl) (fun _ _ _ h => h) (Or.inl ⟨by rfl, ?_⟩) (by assumption) ?_
                · intro w' hSw
                  try dsimp only at hSw
                  try go_simp
                  all_goals first | done | with_reducible rfl | omega | assumption | (simp; omega)
                try simp only [List.getElem_toArray, List.getElem_cons_succ, List.getElem_cons_zero, Act.put, List.setIfInBounds_toArray, List.set_cons_zero, List.set_cons_succ]
                refine wpAnyH_done (by kernel_rfl) ?_ _
                refine NoPanic.normal ?_
                go_wp2_with fail
                go_roundg (gk - 1)
                case measure => omega
                case rel => exact ⟨j + 1, by omega, rfl, keep (fr_step hF1 (by assumption)), Hok2⟩
              · have Hbad := keep (okP_bad2 h0 hm hp hcd)
                have hq : 0 ≤ cmpK p m := cmpK_ge.2 (by omega)
                clear hm hr hlt ok pv h0 hp hcd
                go_wp2_with fail
                refine wp_region_noPanic ?_
                refine wp_region_held_drew (S := fun w' => Fr wr w') (by kernel_rfl) hrD (fun hHeld => ?_)
                change wpAnyH _ _ _ _ _ _ _ _ _
                refine wpAnyH_take (i := 0) (v := ?_) rfl (by kernel_rfl) (by kernel_rfl) (by kernel_rfl) (fun _ _ _ h => h) (Or.inl ⟨by rfl, ?_⟩) (by assumption) ?_
                rotate_left
                · intro w' hSw
                  try dsimp only at hSw
                  go_simp
                  try with_reducible rfl
                try simp only [List.getElem_toArray, List.getElem_cons_zero, Act.put, List.setIfInBounds_toArray, List.set_cons_zero, List.set_cons_succ]
                refine wpAnyH_take (i := 1) (v := ?_) rfl (by kernel_rfl) (by kernel_rfl) (by kernel_rfl) (fun _ _ _ h => h) (Or.inl ⟨by rfl, ?_⟩) (by assumption) ?_
                rotate_left
                · intro w' hSw
                  try dsimp only at hSw
                  go_simp
                  try with_reducible rfl
                try simp only [List.getElem_toArray, List.getElem_cons_succ, List.getElem_cons_zero, Act.put, List.setIfInBounds_toArray, List.set_cons_zero, List.set_cons_succ]
                refine wpAnyH_take (i := 2) (v := ?_) rfl (by kernel_rfl) (by kernel_rfl) (by kernel_rfl) (fun _ _ _ h => h) (Or.inl ⟨by rfl, ?_⟩) (by assumption) ?_
                rotate_left
                · intro w' hSw
                  try dsimp only at hSw
                  go_simp
                  try with_reducible rfl
                try simp only [List.getElem_toArray, List.getElem_cons_succ, List.getElem_cons_zero, Act.put, List.setIfInBounds_toArray, List.set_cons_zero, List.set_cons_succ]
                refine wpAnyH_take (i := 3) (v := ?_) rfl (by kernel_rfl) (by kernel_rfl) (by kernel_rfl) (fun _ _ _ h => h) (Or.inl ⟨by rfl, ?_⟩) (by assumption) ?_
                rotate_left
                · intro w' hSw
                  try dsimp only at hSw
                  go_simp
                  try with_reducible rfl
                try simp only [List.getElem_toArray, List.getElem_cons_succ, List.getElem_cons_zero, Act.put, List.setIfInBounds_toArray, List.set_cons_zero, List.set_cons_succ]
                refine wpAnyH_ready (rs := [4]) (by kernel_rfl) (by simp) ?_
                refine AllReadyH.cons rfl (fun K hK0 => ?_) AllReadyH.nil
                go_simp
                refine (cK wr _ (by assumption)).mono ?_
                rintro e w7 ⟨rfl, zw7⟩
                go_simp
                refine hK0.out _ _ zw7 (fun _ => ?_)
                clear hK0 K
                try simp only [List.getElem_toArray, List.getElem_cons_succ, List.getElem_cons_zero, Act.put, List.setIfInBounds_toArray, List.set_cons_zero, List.set_cons_succ]
                refine wpAnyH_take (i := 5) (v := .bool false) rfl (by kernel_rfl) (by kernel_rfl) (by kernel_rfl) (fun _ _ _ h => h) (Or.inl ⟨by rfl, ?_⟩) (by assumption) ?_
                · intro w' hSw
                  try dsimp only at hSw
                  try go_simp
                  all_goals first | done | with_reducible rfl | omega | assumption | (simp; omega)
                try simp only [List.getElem_toArray, List.getElem_cons_succ, List.getElem_cons_zero, Act.put, List.setIfInBounds_toArray, List.set_cons_zero, List.set_cons_succ]
                refine wpAnyH_take (i := 6) (v := .bool false) rfl (by kernel_rfl) (by kernel_rfl) (by kernel_rfl) (fun _ _ _ h => h) (Or.inl ⟨by rfl, ?_⟩) (by assumption) ?_
                · intro w' hSw
                  try dsimp only at hSw
                  try go_simp
                  all_goals first | done | with_reducible rfl | omega | assumption | (simp; omega)
                try simp only [List.getElem_toArray, List.getElem_cons_succ, List.getElem_cons_zero, Act.put, List.setIfInBounds_toArray, List.set_cons_zero, List.set_cons_succ]
                refine wpAnyH_take (i := 7) (v := ?_) rfl (by kernel_rfl) (by kernel_rfl) (by kernel_rfl) (fun _ _ _ h => h) (Or.inl ⟨by rfl, ?_⟩) (by assumption) ?_
                rotate_left
                · intro w' hSw
                  try dsimp only at hSw
                  go_simp
                  try with_reducible rfl
                try simp only [List.getElem_toArray, List.getElem_cons_succ, List.getElem_cons_zero, Act.put, List.setIfInBounds_toArray, List.set_cons_zero, List.set_cons_succ]
                refine wpAnyH_take (i := 8) (v := .bool true) rfl (by kernel_rfl) (by kernel_rfl) (by kernel_rfl) (fun _ _ _ h => h) (Or.inl ⟨by rfl, ?_⟩) (by assumption) ?_
                · intro w' hSw
                  try dsimp only at hSw
                  try go_simp
                  all_goals first | done | with_reducible rfl | omega | assumption | (simp; omega)
                try simp only [List.getElem_toArray, List.getElem_cons_succ, List.getElem_cons_zero, Act.put, List.setIfInBounds_toArray, List.set_cons_zero, List.set_cons_succ]
                refine wpAnyH_take (i := 9) (v := .bool true) rfl (by kernel_rfl) (by kernel_rfl) (by kernel_rfl) (fun _ _ _ h => h) (Or.inl ⟨by rfl, ?_⟩) (by assumption) ?_
                · intro w' hSw
                  try dsimp only at hSw
                  try go_simp
                  all_goals first | done | with_reducible rfl | omega | assumption | (simp; omega)
                try simp only [List.getElem_toArray, List.getElem_cons_succ, List.getElem_cons_zero, Act.put, List.setIfInBounds_toArray, List.set_cons_zero, List.set_cons_succ]
                refine wpAnyH_take (i := 10) (v := ?_) rfl (by kernel_rfl) (by kernel_rfl) (by kernel_rfl) (fun _ _ _ h => h) (Or.inl ⟨by rfl, ?_⟩) (by assumption) ?_
                rotate_left
                · intro w' hSw
                  try dsimp only at hSw
                  go_simp
                  try with_reducible rfl
                try simp only [List.getElem_toArray, List.getElem_cons_succ, List.getElem_cons_zero, Act.put, List.setIfInBounds_toArray, List.set_cons_zero, List.set_cons_succ]
                refine wpAnyH_take (i := 11) (v := ?_) rfl (by kernel_rfl) (by kernel_rfl) (by kernel_rfl) (fun _ _ _ h => h) (Or.inl ⟨by rfl, ?_⟩) (by assumption) ?_
                rotate_left
                · intro w' hSw
                  try dsimp only at hSw
                  go_simp
                  try with_reducible rfl
                try simp only [List.getElem_toArray, List.getElem_cons_succ, List.getElem_cons_zero, Act.put, List.setIfInBounds_toArray, List.set_cons_zero, List.set_cons_succ]
                refine wpAnyH_take (i := 12) (v := ?_) rfl (by kernel_rfl) (by kernel_rfl) (by kernel_rfl) (fun _ _ _ h => h) (Or.inl ⟨by rfl, ?_⟩) (by assumption) ?_
                rotate_left
                · intro w' hSw
                  try dsimp only at hSw
                  go_simp
                  try with_reducible rfl
                try simp only [List.getElem_toArray, List.getElem_cons_succ, List.getElem_cons_zero, Act.put, List.setIfInBounds_toArray, List.set_cons_zero, List.set_cons_succ]
                refine wpAnyH_take (i := 13) (v := ?_) rfl (by kernel_rfl) (by kernel_rfl) (by kernel_rfl) (fun _ _ _ h => h) (Or.inl ⟨by rfl, ?_⟩) (by assumption) ?_
                rotate_left
                · intro w' hSw
                  try dsimp only at hSw
                  go_simp
                  try with_reducible rfl
                try simp only [List.getElem_toArray, List.getElem_cons_succ, List.getElem_cons_zero, Act.put, List.setIfInBounds_toArray, List.set_cons_zero, List.set_cons_succ]
                refine wpAnyH_take (i := 14) (v := ?_) rfl (by kernel_rfl) (by kernel_rfl) (by kernel_rfl) (fun _ _ _ h => h) (Or.inl ⟨by rfl, ?_⟩) (by assumption) ?_
                rotate_left
                · intro w' hSw
                  try dsimp only at hSw
                  go_simp
                  try with_reducible rfl
                try simp only [List.getElem_toArray, List.getElem_cons_succ, List.getElem_cons_zero, Act.put, List.setIfInBounds_toArray, List.set_cons_zero, List.set_cons_succ]
                refine wpAnyH_take (i := 15) (v := ?_) rfl (by kernel_rfl) (by kernel_rfl) (by kernel_rfl) (fun _ _ _ h => h) (Or.inl ⟨by rfl, ?_⟩) (by assumption) ?_
                rotate_left
                · intro w' hSw
                  try dsimp only at hSw
                  go_simp
                  try with_reducible rfl
                try simp only [List.getElem_toArray, List.getElem_cons_succ, List.getElem_cons_zero, Act.put, List.setIfInBounds_toArray, List.set_cons_zero, List.set_cons_succ]
                refine wpAnyH_take (i := 16) (v := ?_) rfl (by kernel_rfl) (by kernel_rfl) (by kernel_rfl) (fun _ _ _ h => h) (Or.inl ⟨by rfl, ?_⟩) (by assumption) ?_
                rotate_left
                · intro w' hSw
                  try dsimp only at hSw
                  go_simp
                  try with_reducible rfl
                try simp only [List.getElem_toArray, List.getElem_cons_succ, List.getElem_cons_zero, Act.put, List.setIfInBounds_toArray, List.set_cons_zero, List.set_cons_succ]
                refine wpAnyH_take (i := 17) (v := ?_) rfl (by kernel_rfl) (by kernel_rfl) (by kernel_rfl) (fun _ _ _ h => h) (Or.inl ⟨by rfl, ?_⟩) (by assumption) ?_
                rotate_left
                · intro w' hSw
                  try dsimp only at hSw
                  go_simp
                  try with_reducible rfl
                try simp only [List.getElem_toArray, List.getElem_cons_succ, List.getElem_cons_zero, Act.put, List.setIfInBounds_toArray, List.set_cons_zero, List.set_cons_succ]
                refine wpAnyH_take (i := 18) (v := ?_) rfl (by kernel_rfl) (by kernel_rfl) (by kernel_rfl) (fun _ _ _ h => h) (Or.inl ⟨by rfl, ?_⟩) (by assumption) ?_
                rotate_left
                · intro w' hSw
                  try dsimp only at hSw
                  go_simp
                  try with_reducible rfl
                try simp only [List.getElem_toArray, List.getElem_cons_succ, List.getElem_cons_zero, Act.put, List.setIfInBounds_toArray, List.set_cons_zero, List.set_cons_succ]
                refine wpAnyH_ready (rs := [19]) (by kernel_rfl) (by simp) ?_
                refine AllReadyH.cons rfl (fun K hK0 => ?_) AllReadyH.nil
                go_simp
                refine (cC wr _ (by assumption)).mono ?_
                rintro e w8 ⟨rfl, zw8⟩
                go_simp
                refine hK0.out _ _ zw8 (fun _ => ?_)
                clear hK0 K
                try simp only [List.getElem_toArray, List.getElem_cons_succ, List.getElem_cons_zero, Act.put, List.setIfInBounds_toArray, List.set_cons_zero, List.set_cons_succ]
                refine wpAnyH_take (i := 20) (v := .bool true) rfl (by kernel_rfl) (by kernel_rfl) (by kernel_rfl) (fun _ _ _ h => h) (Or.inl ⟨by rfl, ?_⟩) (by assumption) ?_
                · intro w' hSw
                  try dsimp only at hSw
                  try go_simp
                  all_goals first | done | with_reducible rfl | omega | assumption | (simp; omega)
                try simp only [List.getElem_toArray, List.getElem_cons_succ, List.getElem_cons_zero, Act.put, List.setIfInBounds_toArray, List.set_cons_zero, List.set_cons_succ]
                refine wpAnyH_take (i := 21) (v := .bool true) rfl (by kernel_rfl) (by kernel_rfl) (by kernel_rfl) (fun _ _ _ h => h) (Or.inl ⟨by rfl, ?_⟩) (by assumption) ?_
                · intro w' hSw
                  try dsimp only at hSw
                  try go_simp
                  all_goals first | done | with_reducible rfl | omega | assumption | (simp; omega)
                try simp only [List.getElem_toArray, List.getElem_cons_succ, List.getElem_cons_zero, Act.put, List.setIfInBounds_toArray, List.set_cons_zero, List.set_cons_succ]
                refine wpAnyH_take (i := 22) (v := .bool true) rfl (by kernel_rfl) (by kernel_rfl) (by kernel_rfl) (fun _ _ _ h => h) (Or.inl ⟨by rfl, ?_⟩) (by assumption) ?_
                · intro w' hSw
                  try dsimp only at hSw
                  try go_simp
                  all_goals first | done | with_reducible rfl | omega | assumption | (simp; omega)
                try simp only [List.getElem_toArray, List.getElem_cons_succ, List.getElem_cons_zero, Act.put, List.setIfInBounds_toArray, List.set_cons_zero, List.set_cons_succ]
                refine wpAnyH_done (by kernel_rfl) ?_ _
                refine NoPanic.normal ?_
                go_wp2_with fail
                go_ret
                rw [chkB_lad Hwl.out Hbad.out]
                exact ⟨rfl, fr_step hF1 (by assumption)⟩
        · have hjn : j = n := by omega
          have hjz : ¬ (j : Int) < (n : Int) := by omega
          have hgood : OkP ps := by have := hok.out; rwa [List.take_of_length_le (by rw [Hn.out]; omega)] at this
          have He := keep (chkB_yes Hkids.out (by rw [Hn.out, Hnk.out]; exact H3.out) hgood)
          clear hlt hjn hgood
          go_wp2_with fail
          go_ret
          rw [He.out]
          exact ⟨rfl, hF.out⟩
set_option maxHeartbeats 4000000 in
theorem blocks_at {w : World} {A2 : Option Addr} {nk ck Bk : Nat} {ks : List Int} (hk : Has w Bk A2 (ints ks)) (hBk : Bk ≤ w.heap.size) (hnk : ks.length = nk) (hsk : nk ≤ 100000) (hck : nk ≤ ck) :
    Calls Try.prog 70 #[.slice A2 nk ck] w fun e w' => e = .returned (.bool (blkB ks)) ∧ Fr w w' := by
  have Hk := keep hk
  have Hnk := keep hnk
  have rr := fr_refl w
  clear hk hnk
  by_cases h1 : (nk : Int) < 2
  · have He : Hid (blkB ks = false) := keep (blkB_no fun h => by have := h.1; rw [Hnk.out] at this; omega)
    go_enter Try.func70, Try.ntmps70
    go_wp2_with fail
    go_ret
    rw [He.out]
    exact ⟨rfl, rr⟩
  by_cases h2 : 4 < (nk : Int)
  · have He : Hid (blkB ks = false) := keep (blkB_no fun h => by have := h.2.1; rw [Hnk.out] at this; omega)
    go_enter Try.func70, Try.ntmps70
    go_wp2_with fail
    go_ret
    rw [He.out]
    exact ⟨rfl, rr⟩
  go_enter Try.func70, Try.ntmps70
  go_wp2_with fail
  go_loopg [15] nk (fun g s5 wr => ∃ j : Nat, j + g = nk ∧ s5 = .int .i64 j ∧ Hid (Fr w wr) ∧ Hid (KidsG (ks.take j)))
  case atStart => exact ⟨0, by omega, rfl, keep (fr_refl w), keep kidsG_nil⟩
  case round =>
    obtain ⟨j, hj, rfl, hF, hok⟩ := hrel
    by_cases hlt : j < nk
    · have hm : ks[j]? = some (ks[j]'(by rw [Hnk.out]; exact hlt)) := List.getElem?_eq_getElem _
      generalize ks[j]'(by rw [Hnk.out]; exact hlt) = x at hm
      obtain ⟨b, off, rfl, hb, hc⟩ := Hk.out j _ (ints_get hm)
      have hF1 := hF.out
      have hrr := fr_refl wr
      have cell : wr.cell? ⟨b, off + j, none⟩ = some (.int .i64 x) := (hF1.cell (by show b < w.heap.size; omega)).trans hc
      have hjz : (j : Int) < (nk : Int) := by omega
      have hsl := ints_slice_hi (some ⟨b, off, none⟩) nk ck j (by omega) hck
      have Hm := keep hm
      have hlj : (ks.take j).length = j := by rw [List.length_take, Hnk.out]; omega
      have cP := fun W (h : Fr wr W) => place_int (W0 := wr) (v := x) (c := ck) (n := j) (has_take_ints (Hk.out.fr hBk (fr_step hF1 h)) j) (Nat.le_trans hBk (fr_step hF1 h).size) hlj (by unfold maxLen; omega) h
      clear hm hc hlt hlj
      by_cases hx1 : x < 1
      · have He : Hid (blkB ks = false) := keep (blkB_no fun h => kidsG_bad Hm.out (.inl hx1) h.2.2)
        clear cP hsl
        go_wp2_with fail
        go_ret
        rw [He.out]
        exact ⟨rfl, hF1⟩
      by_cases hx2 : 256 ≤ x
      · have He : Hid (blkB ks = false) := keep (blkB_no fun h => kidsG_bad Hm.out (.inr (.inl hx2)) h.2.2)
        clear cP hsl
        go_wp2_with fail
        go_ret
        rw [He.out]
        exact ⟨rfl, hF1⟩
      by_cases hx3 : x ∈ ks.take j
      · have He : Hid (blkB ks = false) := keep (blkB_no fun h => kidsG_bad Hm.out (.inr (.inr hx3)) h.2.2)
        have hq : 0 ≤ plc (ks.take j) x := plc_nn.2 hx3
        generalize plc (ks.take j) x = q at *
        clear hx3
        go_wp2_with (first
          | (go_at_call 88; (with_reducible refine (cP _ hrr).mono ?_); rintro e w1 ⟨rfl, hz1⟩)
          | fail)
        go_ret
        rw [He.out]
        exact ⟨rfl, fr_step hF1 hz1⟩
      · have hq : ¬ 0 ≤ plc (ks.take j) x := fun h => hx3 (plc_nn.1 h)
        have Hok2 := keep (kidsG_one hok.out Hm.out (by omega) (by omega) hx3)
        generalize plc (ks.take j) x = q at *
        clear hx3
        go_wp2_with (first
          | (go_at_call 88; (with_reducible refine (cP _ hrr).mono ?_); rintro e w1 ⟨rfl, hz1⟩)
          | fail)
        go_roundg (gk - 1)
        case measure => omega
        case rel => exact ⟨j + 1, by omega, rfl, keep (fr_step hF1 hz1), Hok2⟩
    · have hjn : j = nk := by omega
      have hjz : ¬ (j : Int) < (nk : Int) := by omega
      have hgood : KidsG ks := by have := hok.out; rwa [List.take_of_length_le (by rw [Hnk.out]; omega)] at this
      have He : Hid (blkB ks = true) := keep (blkB_yes ⟨by rw [Hnk.out]; omega, by rw [Hnk.out]; omega, hgood⟩)
      clear hlt hjn hgood hj hok
      go_wp2_with fail
      go_ret
      rw [He.out]
      exact ⟨rfl, hF.out⟩
theorem fcheck_at {w : World} {A A2 : Option Addr} {nk ck Bk n c B : Nat} {ks : List Int} {ps : List RK} (hk : Has w Bk A2 (ints ks)) (hBk : Bk ≤ w.heap.size) (hnk : ks.length = nk) (hsk : nk ≤ 100000) (hck : nk ≤ ck) (hl : Has w B A (rows kc ps)) (hB : B ≤ w.heap.size) (hn : ps.length = n) (hsm : n ≤ 100000) (wl : WfK ps) :
    Calls Try.prog 43 #[.slice A2 nk ck, .slice A n c] w fun e w' => e = .returned (.bool (chkB ks ps)) ∧ Fr w w' := by
  have cB := fun W (h : Fr w W) => blocks_at (hk.fr hBk h) (Nat.le_trans hBk h.size) hnk hsk hck
  have cL := fun W (h : Fr w W) => ladder_at (c := c) (hl.fr hB h) (Nat.le_trans hB h.size) hn hsm wl
  have hd : chkB ks ps = (blkB ks && decide (n + 1 = nk) && ladB ps) := by unfold chkB; rw [hn, hnk]
  have rr := fr_refl w
  rw [hd]
  have e0 : blkB ks = true → 2 ≤ nk := fun h => by
    have := (blkB_iff.1 h).1
    omega
  clear hd hk hnk hl hn wl
  generalize ladB ps = b2 at *
  generalize blkB ks = b1 at *
  cases b1 with
  | false =>
    clear e0
    go_enter Try.func43, Try.ntmps43
    go_wp2_with (first
      | (go_at_call 70; (with_reducible refine (cB _ rr).mono ?_); rintro e w1 ⟨rfl, h1⟩)
      | fail)
    go_ret
    exact ⟨by simp, h1⟩
  | true =>
    have e1 := e0 rfl
    clear e0
    by_cases h3 : n + 1 = nk
    · have q1 : ((n : Int) == (nk : Int) - 1) = true := by simp; omega
      have q2 : decide (n + 1 = nk) = true := decide_eq_true h3
      rw [q2]
      clear h3 q2
      go_enter Try.func43, Try.ntmps43
      go_wp2_with (first
        | (go_at_call 70; (with_reducible refine (cB _ rr).mono ?_); rintro e w1 ⟨rfl, h1⟩)
        | (go_at_call 71; (with_reducible refine (cL _ h1).mono ?_); rintro e w2 ⟨rfl, h2⟩)
        | fail)
      go_ret
      exact ⟨by simp, fr_step h1 h2⟩
    · have q1 : ((n : Int) == (nk : Int) - 1) = false := by simp; omega
      have q2 : decide (n + 1 = nk) = false := decide_eq_false h3
      rw [q2]
      clear h3 q2
      go_enter Try.func43, Try.ntmps43
      go_wp2_with (first
        | (go_at_call 70; (with_reducible refine (cB _ rr).mono ?_); rintro e w1 ⟨rfl, h1⟩)
        | fail)
      go_ret
      exact ⟨by simp, h1⟩
end Go.Proofs.Ytcdcaanmmbopbaa
/- Pivots: to which kid a key goes. No program text. -/
namespace Go.Proofs.Ytcdcaanmmbopbaa
open Go.RowKit
set_option linter.unusedVariables false
/-- The kid to which a place in the order goes: how many pivots are not above it. -/
def kidN : List RK → Int → Nat
  | [], _ => 0
  | p :: ps, c => if code p ≤ c then kidN ps c + 1 else 0
theorem kidN_le : ∀ (ps : List RK) (c : Int), kidN ps c ≤ ps.length
  | [], _ => Nat.le_refl _
  | p :: ps, c => by
    have := kidN_le ps c
    unfold kidN
    split <;> simp only [List.length_cons] <;> omega
theorem kidN_lo : ∀ {ps : List RK} {c : Int} {j : Nat}, j < kidN ps c → (ps.map code).getD j 0 ≤ c
  | [], _, _, h => by simp [kidN] at h
  | p :: ps, c, j, h => by
    unfold kidN at h
    split at h
    · rename_i hp
      cases j with
      | zero => simpa using hp
      | succ j =>
        have := kidN_lo (ps := ps) (c := c) (j := j) (by omega)
        simpa using this
    · omega
theorem kidN_hi : ∀ {ps : List RK} {c : Int} {j : Nat}, OkP ps → kidN ps c ≤ j → j < ps.length → c < (ps.map code).getD j 0
  | [], _, _, _, _, h => by simp at h
  | p :: ps, c, j, hp, h, hl => by
    unfold kidN at h
    split at h
    · cases j with
      | zero => omega
      | succ j =>
        have := kidN_hi (ps := ps) (c := c) (j := j) hp.tail (by omega) (by simpa using hl)
        simpa using this
    · rename_i hc
      cases j with
      | zero => simp; omega
      | succ j =>
        have := hp.lt (i := 0) (j := j + 1) (by omega) hl
        rw [show (List.map code (p :: ps)).getD 0 0 = code p from rfl] at this
        omega
/-- A place lies between the pivots of just one kid. -/
theorem betw_kid {ps : List RK} (h : OkP ps) {i : Nat} (hi : i ≤ ps.length) (c : Int) : betw (ps.map code) i c = decide (i = kidN ps c) := by
  have hk := kidN_le ps c
  rw [Bool.eq_iff_iff, decide_eq_true_iff]
  unfold betw
  simp only [Bool.and_eq_true, Bool.or_eq_true, decide_eq_true_iff, List.length_map]
  constructor
  · rintro ⟨h1, h2⟩
    rcases Nat.lt_trichotomy i (kidN ps c) with hlt | heq | hgt
    · exfalso
      have := kidN_lo (ps := ps) (c := c) hlt
      rcases h2 with h2 | h2 <;> omega
    · exact heq
    · exfalso
      have := kidN_hi (c := c) (j := i - 1) h (by omega) (by omega)
      rcases h1 with h1 | h1 <;> omega
  · rintro rfl
    refine ⟨?_, ?_⟩
    · by_cases h0 : kidN ps c = 0
      · exact .inl h0
      · exact .inr (kidN_lo (by omega))
    · by_cases h0 : ps.length ≤ kidN ps c
      · exact .inl h0
      · exact .inr (kidN_hi h (Nat.le_refl _) (by omega))
theorem partL_kid {l : List RM} {ps : List RK} (h : OkP ps) {i : Nat} (hi : i ≤ ps.length) : partL l ps i = l.filter fun m => decide (i = kidN ps (cd m)) := by
  unfold partL
  rw [if_neg (by omega)]
  congr 1
  funext m
  exact betw_kid h hi _
/-- What is found in the part of a key's kid is what is found in the whole. -/
theorem findL_part {l : List RM} {ps : List RK} (hl : OkL l) (h : OkP ps) {i : Nat} (hi : i ≤ ps.length) {k : RK} (wk : k.wf) (ok : okB k = true) : findL (partL l ps i) k = if i = kidN ps (code k) then findL l k else none := by
  rw [partL_kid h hi]
  induction l with
  | nil => show findL [] k = _; rw [findL_nil]; split <;> rfl
  | cons x l ih =>
    have IH := ih hl.tail
    rw [List.filter_cons, findL_cons]
    by_cases hx : x.key = k
    · rw [if_pos hx]
      have hc : cd x = code k := by unfold cd; rw [hx]
      rw [hc]
      by_cases hk : i = kidN ps (code k)
      · rw [if_pos (by simpa using hk), findL_cons, if_pos hx, if_pos hk]
      · rw [if_neg (by simpa using hk), if_neg hk, IH, if_neg hk]
    · rw [if_neg hx]
      split
      · rw [findL_cons, if_neg hx, IH]
      · exact IH
end Go.Proofs.Ytcdcaanmmbopbaa
/- To which kid a key goes, by the program and by the document; rows that are the same. -/
namespace Go.Proofs.Ytcdcaanmmbopbaa
set_option maxRecDepth 100000
open Go.RowKit
set_option linter.unusedVariables false
attribute [local go_sem ↓] key_ld msg_ld
theorem key_boxed1 (w : World) (k : RK) : ∃ Z, w.alloc (.cells (kc k).toArray 40) = Z ∧ Fr w Z ∧ Fr Z Z ∧ (∀ W, Fr Z W → (ldS 40 (.pointer (some ⟨w.heap.size, 0, none⟩))).run Try.prog W = .ok (.agg (kc k).toArray) W) :=
  ⟨_, rfl, fr_new (fr_refl w) _, fr_refl _, fun W h => keyS.ld (kc_len k) ((Arr.new w (kc k).toArray 40).below h (Arr.new w (kc k).toArray 40).lt)⟩
theorem kidN_step {ps : List RK} {c : Int} {j : Nat} {p : RK} (op : OkP ps) (hp : ps[j]? = some p) : min (j + 1) (kidN ps c) = if code p ≤ c then min j (kidN ps c) + 1 else min j (kidN ps c) := by
  have e : (ps.map code).getD j 0 = code p := by simp [List.getD, hp]
  have hj := (List.getElem?_eq_some_iff.1 hp).1
  split
  · rename_i h
    have : j < kidN ps c := by
      rcases Nat.lt_or_ge j (kidN ps c) with h1 | h1
      · exact h1
      · have := kidN_hi op h1 hj
        rw [e] at this
        omega
    omega
  · rename_i h
    have : kidN ps c ≤ j := by
      rcases Nat.lt_or_ge j (kidN ps c) with h1 | h1
      · have := kidN_lo h1
        rw [e] at this
        omega
      · exact h1
    omega
theorem kidN_end {ps : List RK} {c : Int} {n : Nat} (hn : ps.length = n) : min n (kidN ps c) = kidN ps c := by
  have := kidN_le ps c
  omega
theorem cmpK_le {a b : RK} : cmpK a b ≤ 0 ↔ code a ≤ code b := by
  unfold cmpK
  rcases cmpI_cases (code a) (code b) with ⟨h, e⟩ | ⟨h, e⟩ | ⟨h, e⟩ <;> rw [e] <;> omega
set_option maxHeartbeats 2000000 in
theorem sameints_at {W0 w : World} {A A2 : Option Addr} {n c B n2 c2 B2 : Nat} {l l2 : List Int} (hl : Has w B A (ints l)) (hB : B ≤ w.heap.size) (hn : l.length = n) (hsm : n ≤ 100000) (hl2 : Has w B2 A2 (ints l2)) (hB2 : B2 ≤ w.heap.size) (hn2 : l2.length = n2) (hsm2 : n2 ≤ 100000) (h0 : Fr W0 w) :
    Calls Try.prog 50 #[.slice A n c, .slice A2 n2 c2] w fun e w' => e = .returned (.bool (decide (l = l2))) ∧ Fr W0 w' := by
  have hww := fr_refl w
  have H0 := keep h0
  clear h0
  by_cases hnn : n = n2
  · subst hnn
    have Hl := keep hl
    have Hn := keep hn
    have Hl2 := keep hl2
    have Hn2 := keep hn2
    clear hl hn hl2 hn2
    go_enter Try.func50, Try.ntmps50
    go_wp2_with fail
    go_loopg [5] n (fun g s5 wr => ∃ j : Nat, j + g = n ∧ s5 = .int .i64 j ∧ Hid (Fr w wr) ∧ Hid (∀ t, t < j → l[t]? = l2[t]?))
    case atStart => exact ⟨0, by omega, rfl, keep hww, keep (fun t h => by omega)⟩
    case round =>
      obtain ⟨j, hj, rfl, hW, hno⟩ := hrel
      by_cases hlt : j < n
      · have hm : l[j]? = some (l[j]'(by rw [Hn.out]; exact hlt)) := List.getElem?_eq_getElem _
        generalize l[j]'(by rw [Hn.out]; exact hlt) = m at hm
        have hm2 : l2[j]? = some (l2[j]'(by rw [Hn2.out]; exact hlt)) := List.getElem?_eq_getElem _
        generalize l2[j]'(by rw [Hn2.out]; exact hlt) = m2 at hm2
        have hWW := hW.out
        have hWD := fr_drew hWW
        obtain ⟨b, off, rfl, hb1, hr⟩ := Hl.out j _ (ints_get hm)
        obtain ⟨b2, off2, rfl, hb2, hr2⟩ := Hl2.out j _ (ints_get hm2)
        have cell1 : ∀ W, Fr w W → W.cell? ⟨b, off + j, none⟩ = some (.int .i64 m) := fun W h => (h.cell (by show b < w.heap.size; omega)).trans hr
        have cell2 : ∀ W, Fr w W → W.cell? ⟨b2, off2 + j, none⟩ = some (.int .i64 m2) := fun W h => (h.cell (by show b2 < w.heap.size; omega)).trans hr2
        clear hr hr2
        have Hm := keep hm
        have Hm2 := keep hm2
        have hjz : (j : Int) < (n : Int) := by omega
        clear hm hm2 hlt
        by_cases hk : m = m2
        · have Hk := keep hk
          have q1 : (m != m2) = false := by simp [hk]
          have q2 : (m == m2) = true := by simp [hk]
          clear hk
          go_wp2_with fail
          go_region_held3 (fun w' => Fr w w') (first | exact hWD | assumption) (first | fail)
          rename_i hH
          go_wp2_with fail
          go_roundg (gk - 1)
          case measure => omega
          case rel => exact ⟨j + 1, by omega, rfl, keep hH, keep (fun t ht => by
            by_cases e : t = j
            · subst e
              rw [Hm.out, Hm2.out, Hk.out]
            · exact hno.out t (by omega))⟩
        · have Hf : Hid (decide (l = l2) = false) := keep (decide_eq_false (fun e => hk (by
            have := Hm.out
            rw [e, Hm2.out] at this
            injection this with this
            exact this.symm)))
          have q1 : (m != m2) = true := by simpa using hk
          have q2 : (m == m2) = false := by simpa using hk
          clear hk
          go_wp2_with fail
          go_region_held3 (fun w' => Fr w w') (first | exact hWD | assumption) (first | fail)
          rename_i hH
          go_wp2_with fail
          go_ret
          rw [Hf.out]
          exact ⟨rfl, fr_step H0.out hH⟩
      · have hjn : j = n := by omega
        have hjz : ¬ (j : Int) < (n : Int) := by omega
        have Ht : Hid (decide (l = l2) = true) := keep (decide_eq_true (List.ext_getElem? fun t => by
          rcases Nat.lt_or_ge t n with h | h
          · exact hno.out t (by omega)
          · rw [List.getElem?_eq_none (by rw [Hn.out]; exact h), List.getElem?_eq_none (by rw [Hn2.out]; exact h)]))
        clear hlt hjn
        go_wp2_with fail
        go_ret
        rw [Ht.out]
        exact ⟨rfl, fr_step H0.out hW.out⟩
  · have Hf : Hid (decide (l = l2) = false) := keep (decide_eq_false (fun e => hnn (by rw [← hn, ← hn2, e])))
    have e1 : ((n : Int) != (n2 : Int)) = true := by simp; omega
    have e2 : ((n : Int) == (n2 : Int)) = false := by simp; omega
    clear hl hn hl2 hn2 hnn
    go_enter Try.func50, Try.ntmps50
    go_wp2_with fail
    go_ret
    rw [Hf.out]
    exact ⟨rfl, fr_step H0.out hww⟩
set_option maxHeartbeats 2000000 in
theorem samekeys_at {W0 w : World} {A A2 : Option Addr} {n c B n2 c2 B2 : Nat} {l l2 : List RK} (hl : Has w B A (rows kc l)) (hB : B ≤ w.heap.size) (hn : l.length = n) (hsm : n ≤ 100000) (wl : WfK l) (hl2 : Has w B2 A2 (rows kc l2)) (hB2 : B2 ≤ w.heap.size) (hn2 : l2.length = n2) (hsm2 : n2 ≤ 100000) (wl2 : WfK l2) (h0 : Fr W0 w) :
    Calls Try.prog 51 #[.slice A n c, .slice A2 n2 c2] w fun e w' => e = .returned (.bool (decide (l = l2))) ∧ Fr W0 w' := by
  have hww := fr_refl w
  have H0 := keep h0
  clear h0
  by_cases hnn : n = n2
  · subst hnn
    have Hl := keep hl
    have Hn := keep hn
    have Hl2 := keep hl2
    have Hn2 := keep hn2
    have Hwl := keep wl
    have Hwl2 := keep wl2
    clear wl wl2
    clear hl hn hl2 hn2
    go_enter Try.func51, Try.ntmps51
    go_wp2_with fail
    go_loopg [5] n (fun g s5 wr => ∃ j : Nat, j + g = n ∧ s5 = .int .i64 j ∧ Hid (Fr w wr) ∧ Hid (∀ t, t < j → l[t]? = l2[t]?))
    case atStart => exact ⟨0, by omega, rfl, keep hww, keep (fun t h => by omega)⟩
    case round =>
      obtain ⟨j, hj, rfl, hW, hno⟩ := hrel
      by_cases hlt : j < n
      · have hm : l[j]? = some (l[j]'(by rw [Hn.out]; exact hlt)) := List.getElem?_eq_getElem _
        generalize l[j]'(by rw [Hn.out]; exact hlt) = m at hm
        have hm2 : l2[j]? = some (l2[j]'(by rw [Hn2.out]; exact hlt)) := List.getElem?_eq_getElem _
        generalize l2[j]'(by rw [Hn2.out]; exact hlt) = m2 at hm2
        have hWW := hW.out
        have hWD := fr_drew hWW
        obtain ⟨b, off, rfl, hb1, hr⟩ := has_rows Hl.out (kwid l) (by decide) (by intro e; rw [e] at hm; simp at hm)
        obtain ⟨b2, off2, rfl, hb2, hr2⟩ := has_rows Hl2.out (kwid l2) (by decide) (by intro e; rw [e] at hm2; simp at hm2)
        have lX := elem_ld keyS hr (kwid l) (by omega) hm
        have lX2 := elem_ld keyS hr2 (kwid l2) (by omega) hm2
        have wm := Hwl.out m (List.mem_of_getElem? hm)
        have wm2 := Hwl2.out m2 (List.mem_of_getElem? hm2)
        have qE := fun W => key_neq wm wm2 W
        clear hr hr2 wm wm2
        have Hm := keep hm
        have Hm2 := keep hm2
        have hjz : (j : Int) < (n : Int) := by omega
        clear hm hm2 hlt
        by_cases hk : m = m2
        · have Hk := keep hk
          rw [decide_eq_true hk] at qE
          simp only [Bool.not_true] at qE
          clear hk
          go_wp2_with fail
          go_region_held3 (fun w' => Fr w w') (first | exact hWD | assumption) (first | fail)
          rename_i hH
          go_wp2_with fail
          go_roundg (gk - 1)
          case measure => omega
          case rel => exact ⟨j + 1, by omega, rfl, keep hH, keep (fun t ht => by
            by_cases e : t = j
            · subst e
              rw [Hm.out, Hm2.out, Hk.out]
            · exact hno.out t (by omega))⟩
        · have Hf : Hid (decide (l = l2) = false) := keep (decide_eq_false (fun e => hk (by
            have := Hm.out
            rw [e, Hm2.out] at this
            injection this with this
            exact this.symm)))
          rw [decide_eq_false hk] at qE
          simp only [Bool.not_false] at qE
          clear hk
          go_wp2_with fail
          go_region_held3 (fun w' => Fr w w') (first | exact hWD | assumption) (first | fail)
          rename_i hH
          go_wp2_with fail
          go_ret
          rw [Hf.out]
          exact ⟨rfl, fr_step H0.out hH⟩
      · have hjn : j = n := by omega
        have hjz : ¬ (j : Int) < (n : Int) := by omega
        have Ht : Hid (decide (l = l2) = true) := keep (decide_eq_true (List.ext_getElem? fun t => by
          rcases Nat.lt_or_ge t n with h | h
          · exact hno.out t (by omega)
          · rw [List.getElem?_eq_none (by rw [Hn.out]; exact h), List.getElem?_eq_none (by rw [Hn2.out]; exact h)]))
        clear hlt hjn
        go_wp2_with fail
        go_ret
        rw [Ht.out]
        exact ⟨rfl, fr_step H0.out hW.out⟩
  · have Hf : Hid (decide (l = l2) = false) := keep (decide_eq_false (fun e => hnn (by rw [← hn, ← hn2, e])))
    have e1 : ((n : Int) != (n2 : Int)) = true := by simp; omega
    have e2 : ((n : Int) == (n2 : Int)) = false := by simp; omega
    clear hl hn hl2 hn2 hnn
    go_enter Try.func51, Try.ntmps51
    go_wp2_with fail
    go_ret
    rw [Hf.out]
    exact ⟨rfl, fr_step H0.out hww⟩
end Go.Proofs.Ytcdcaanmmbopbaa
