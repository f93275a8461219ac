/- Buffers in memory, one: what comparing comes to from a base world; 'sort.Search' with a closure; 'place'. -/
import Derived.Test.YtmoaddbpfekdbaaGreatM06
import Derived.Test.YtmoaddbpfekdbaaGreatM04
import Derived.Deep.LoopGhost
import Derived.Deep.RegionWith
import Derived.Deep.RegionHeld3
import Derived.Deep.Cut
import Derived.BigQuiet
import Derived.Deep.QuietTactic
import Derived.Laws.Externs
import Derived.Lib.LazyBuf
import Derived.Deep.RegionLaw
import Derived.Lib.SlBuf
import Derived.Test.YtmoaddbpfekdbaaGreatM05
import Derived.Deep.CutRange
import Derived.Deep.Draws
import Derived.Test.YtmoaddbpfekdbaaGreatM02
import Derived.Deep.Slices
import Derived.ProofKit
import Derived.OpenShut
import Derived.SliceStrings
import Derived.Test.YtmoaddbpfekdbaaGreatM03
import Derived.ChangeSlices
import Derived.ChangeArms
import Derived.Maps.RangeWalk
import Derived.Lib.AppendZeros
namespace Go.Proofs.YtmoaddbpfekdbaaGreat
set_option maxRecDepth 100000
open Go.RowKit
set_option linter.unusedVariables false
attribute [local go_sem ↓] key_ld msg_ld
section
variable {W0 W : World} {a b : RK}
theorem rkcomp_at (wa : a.wf) (wb : b.wf) (oa : okB a = true) (ob : okB b = true) (hb : Fr W0 W) : Calls Tryz.prog 92 #[kv a, kv b] W fun e w' => e = .returned (.int .i64 (cmpK a b)) ∧ Fr W0 w' := (ref_compare a b wa wb oa ob W).mono fun _ _ ⟨he, hw⟩ => ⟨he, fr_step hb hw⟩
theorem cmpK_gt : 0 < cmpK a b ↔ code b < code a := by
  unfold cmpK
  rcases cmpI_cases (code a) (code b) with ⟨h, h2⟩ | ⟨h, h2⟩ | ⟨h, h2⟩ <;> omega
theorem cmpK_lt : cmpK a b < 0 ↔ code a < code b := by
  unfold cmpK
  rcases cmpI_cases (code a) (code b) with ⟨h, h2⟩ | ⟨h, h2⟩ | ⟨h, h2⟩ <;> omega
theorem cmpK_eq (wa : a.wf) (wb : b.wf) (oa : okB a = true) (ob : okB b = true) : cmpK a b = 0 ↔ a = b := by
  unfold cmpK
  rcases cmpI_cases (code a) (code b) with ⟨h, h2⟩ | ⟨h, h2⟩ | ⟨h, h2⟩
  · exact ⟨fun e => by omega, fun e => by rw [e] at h; omega⟩
  · exact ⟨fun e => by omega, fun e => by rw [e] at h; omega⟩
  · exact ⟨fun _ => code_inj wa wb (okB_len' oa) (okB_len' ob) h, fun e => h2⟩
end
/-- Whatever messages, valid or not. -/
def WfM (l : List RM) : Prop := ∀ m ∈ l, m.wf
theorem WfM.wid {l : List RM} (h : WfM l) : Wid mc 29 l := fun a ha => mc_len (h a ha).val.hl
theorem mem_at {l : List RM} {j : Nat} {m : RM} (h : l[j]? = some m) : m ∈ l := by
  obtain ⟨_, e⟩ := List.getElem?_eq_some_iff.1 h
  rw [← e]; exact List.getElem_mem _
end Go.Proofs.YtmoaddbpfekdbaaGreat
/- Buffers in memory, two: 'place'. -/
namespace Go.Proofs.YtmoaddbpfekdbaaGreat
set_option maxRecDepth 100000
open Go.RowKit
set_option linter.unusedVariables false
attribute [local go_sem ↓] key_ld msg_ld
end Go.Proofs.YtmoaddbpfekdbaaGreat
/- Buffers in memory, three: 'slices.Clone', 'slices.Insert' of messages. -/
namespace Go.Proofs.YtmoaddbpfekdbaaGreat
set_option maxRecDepth 100000
open Go.RowKit
set_option linter.unusedVariables false
attribute [local go_sem ↓] key_ld msg_ld
/-- Messages in a row of the call's own. -/
abbrev OwnM (w : World) (B : Nat) (A : Option Addr) (c : Nat) (l : List RM) : Prop := Own w B 123 29 A l.length c (rows mc l)
/-- Where 's[t:]' begins. -/
def lowM (A : Option Addr) (m t : Nat) : Option Addr := if m = t then A else A.map (·.add (t * 29))
end Go.Proofs.YtmoaddbpfekdbaaGreat
/- Buffers in memory, four: 'slices.Insert' of a message in the midst, where there is room. -/
namespace Go.Proofs.YtmoaddbpfekdbaaGreat
set_option maxRecDepth 100000
open Go.RowKit
set_option linter.unusedVariables false
attribute [local go_sem ↓] key_ld msg_ld
end Go.Proofs.YtmoaddbpfekdbaaGreat
/- Buffers in memory, five: 'slices.Insert' of a message in the midst, where there is no room; and wherever. -/
namespace Go.Proofs.YtmoaddbpfekdbaaGreat
set_option maxRecDepth 100000
open Go.RowKit
set_option linter.unusedVariables false
attribute [local go_sem ↓] key_ld msg_ld
theorem wpList_append_run {P : Program} (w : World) {ops : Array Oper} {rest : List Oper} {o : Oper} {a : Act} {Q : Exit → Act → World → Prop} (hgd : o.guard = none) (d s : Operand) (t t' : TypeId)
    (ho : o.op = .call { callee := .builtin .append, args := #[d, s], argTypes := #[t, t'] }) (v u : Value) (hd : a.eval d = v) (hs : a.eval s = u) {v' : Value} {w' : World}
    (hr : (Builtin.append_ #[t, t'] o.type #[v, u]).run P w = .ok v' w') (h : wpList P ops Q rest (a.put o.dst v') w') : wpList P ops Q (o :: rest) a w :=
  wpList_plain hgd fun _ hK => by
    unfold Oper.wp execOp
    simp only [ho, resolve, invoke, builtin, Sem.run_bind, Sem.run_pure, Result.andThen_ok, List.map_toArray, List.map_cons, List.map_nil, hd, hs, hr]
    exact hK _ _ h
end Go.Proofs.YtmoaddbpfekdbaaGreat
/- Buffers in memory, six: 'enter'. -/
namespace Go.Proofs.YtmoaddbpfekdbaaGreat
set_option maxRecDepth 100000
open Go.RowKit
set_option linter.unusedVariables false
attribute [local go_sem ↓] key_ld msg_ld msg_st
theorem msg_box1 (w : World) (m : RM) : ∃ Z, w.alloc (.cells (mc m).toArray 123) = Z ∧ Fr w Z ∧ Fr Z Z ∧ Arr Z w.heap.size 123 (mc m).toArray ∧ Z.heap.size = w.heap.size + 1 := ⟨_, rfl, fr_new (fr_refl w) _, fr_refl _, Arr.new w _ _, by simp⟩
theorem build_fold : ∀ (cs : List Value) (k : Nat) (z : Array Value), k + cs.length = z.size → List.foldl (fun (cs : Array Value) (x : Value × Nat) => cs.setIfInBounds x.snd x.fst) z (cs.zipIdx k) = (z.toList.take k ++ cs).toArray
  | [], k, z, h => by
    simp at h
    subst h
    simp [List.take_of_length_le]
  | v :: cs, k, z, h => by
    simp only [List.length_cons] at h
    rw [List.zipIdx_cons, List.foldl_cons, build_fold cs (k + 1) _ (by simp; omega)]
    congr 1
    simp only [Array.toList_setIfInBounds]
    rw [show v :: cs = [v] ++ cs from rfl, ← List.append_assoc]
    congr 1
    apply List.ext_getElem?
    intro j
    simp only [List.getElem?_take, List.getElem?_set, List.getElem?_append, List.length_take, Array.length_toList]
    by_cases h1 : j < k
    · have : min k z.size = k := by omega
      simp [h1, this, show j < k + 1 by omega, Nat.ne_of_gt h1]
    · by_cases h2 : j = k
      · subst h2
        have : min j z.size = j := by omega
        have : j < z.size := by omega
        simp [*]
      · have : min k z.size = k := by omega
        simp [h1, this, show ¬ j < k + 1 by omega]
        omega
end Go.Proofs.YtmoaddbpfekdbaaGreat
/- Buffers in memory, seven: 'Add', 'Find', 'Bytes'. -/
namespace Go.Proofs.YtmoaddbpfekdbaaGreat
set_option maxRecDepth 100000
open Go.RowKit
set_option linter.unusedVariables false
attribute [local go_sem ↓] key_ld msg_ld msg_st
theorem Has.fr {w W : World} {B : Nat} {A : Option Addr} {xs : List Value} (h : Has w B A xs) (hB : B ≤ w.heap.size) (hF : Fr w W) : Has W B A xs := h.below (hF.mono hB)
theorem OwnM.fr {w W : World} {B : Nat} {A : Option Addr} {c : Nat} {l : List RM} (h : OwnM w B A c l) (hF : Fr w W) : OwnM W B A c l := Own.below h hF (Nat.le_refl _)
/-- What 'Find' tells. -/
def findV (o : Option RM) : Value := .tuple #[mm (o.getD zeroM), .bool o.isSome]
end Go.Proofs.YtmoaddbpfekdbaaGreat
/- Buffers in memory, eight: 'Bytes' and 'All' of the program, 'Bytes' of the document. -/
namespace Go.Proofs.YtmoaddbpfekdbaaGreat
set_option maxRecDepth 100000
open Go.RowKit
set_option linter.unusedVariables false
attribute [local go_sem ↓] key_ld msg_ld msg_st
theorem take_one {α : Type} {l : List α} {j : Nat} {a : α} (h : l[j]? = some a) : l.take (j + 1) = l.take j ++ [a] := by
  obtain ⟨hj, e⟩ := List.getElem?_eq_some_iff.1 h
  rw [List.take_add_one, h]
  rfl
end Go.Proofs.YtmoaddbpfekdbaaGreat
/- Buffers in memory, nine: 'Batch' of both. -/
namespace Go.Proofs.YtmoaddbpfekdbaaGreat
set_option maxRecDepth 100000
open Go.RowKit
set_option linter.unusedVariables false
attribute [local go_sem ↓] key_ld msg_ld msg_st
/-- Kid i's part, whatever i. -/
def partI (l : List RM) (ps : List RK) (i : Int) : List RM := if 0 ≤ i ∧ i ≤ (ps.length : Int) then partL l ps i.toNat else []
theorem OkP.wid {ps : List RK} (h : OkP ps) : Wid kc 9 ps := fun k _ => kc_len k
end Go.Proofs.YtmoaddbpfekdbaaGreat
/- Buffers in memory, ten: 'slices.IndexFunc', 'ContainsFunc', the closures of 'Less'. -/
namespace Go.Proofs.YtmoaddbpfekdbaaGreat
set_option maxRecDepth 100000
open Go.RowKit
set_option linter.unusedVariables false
attribute [local go_sem ↓] key_ld msg_ld msg_st
end Go.Proofs.YtmoaddbpfekdbaaGreat
/- Buffers in memory, eleven: 'slices.DeleteFunc', 'Less'. -/
namespace Go.Proofs.YtmoaddbpfekdbaaGreat
set_option maxRecDepth 100000
open Go.RowKit
set_option linter.unusedVariables false
attribute [local go_sem ↓] key_ld msg_ld msg_st
theorem wpList_clear_run {P : Program} (w : World) {ops : Array Oper} {rest : List Oper} {o : Oper} {a : Act} {Q : Exit → Act → World → Prop} (hgd : o.guard = none) (d : Operand) (t : TypeId)
    (ho : o.op = .call { callee := .builtin .clear, args := #[d], argTypes := #[t] }) (v : Value) (hd : a.eval d = v) {v' : Value} {w' : World}
    (hr : (Builtin.clear_ #[t] o.type #[v]).run P w = .ok v' w') (h : wpList P ops Q rest (a.put o.dst v') w') : wpList P ops Q (o :: rest) a w :=
  wpList_plain hgd fun _ hK => by
    unfold Oper.wp execOp
    simp only [ho, resolve, invoke, builtin, Sem.run_bind, Sem.run_pure, Result.andThen_ok, List.map_toArray, List.map_cons, List.map_nil, hd, hr]
    exact hK _ _ h
/-- What has been kept, j looked at: i of them, ahead. -/
structure DelI (p : RM → Bool) (l l' : List RM) (i j : Nat) : Prop where
  lt : i < j
  len : l'.length = l.length
  low : l'.take i = (l.take j).filter fun m => !p m
  high : l'.drop j = l.drop j
  wf : WfM l'
theorem WfM.set {l : List RM} {m : RM} (h : WfM l) (wm : m.wf) (i : Nat) : WfM (l.set i m) := fun x hx => by
  rcases List.mem_or_eq_of_mem_set hx with h2 | h2
  · exact h x h2
  · rw [h2]; exact wm
theorem DelI.at {p : RM → Bool} {l l' : List RM} {i j : Nat} (h : DelI p l l' i j) : l'[j]? = l[j]? := by
  have := congrArg (fun q => q[0]?) h.high
  simpa using this
theorem DelI.skip {p : RM → Bool} {l l' : List RM} {i j : Nat} {m : RM} (h : DelI p l l' i j) (hm : l[j]? = some m) (hp : p m = true) : DelI p l l' i (j + 1) where
  lt := by have := h.lt; omega
  len := h.len
  low := by rw [take_one hm, List.filter_append, h.low]; simp [hp]
  high := by rw [← List.drop_drop, ← List.drop_drop, h.high]
  wf := h.wf
theorem DelI.keep {p : RM → Bool} {l l' : List RM} {i j : Nat} {m : RM} (h : DelI p l l' i j) (hm : l[j]? = some m) (hp : p m = false) (wm : m.wf) : DelI p l (l'.set i m) (i + 1) (j + 1) where
  lt := by have := h.lt; omega
  len := by rw [List.length_set, h.len]
  low := by
    have hj := (List.getElem?_eq_some_iff.1 hm).1
    have hi : i < l'.length := by have := h.lt; have := h.len; omega
    have e : (l'.set i m)[i]? = some m := by simp [hi]
    rw [take_one e, List.take_set_of_le (Nat.le_refl _), h.low, take_one hm, List.filter_append]
    simp [hp]
  high := by
    rw [List.drop_set_of_lt (by have := h.lt; omega), ← List.drop_drop, ← List.drop_drop, h.high]
  wf := h.wf.set wm i
theorem DelI.start {p : RM → Bool} {l : List RM} {k : Nat} {m : RM} (hm : l[k]? = some m) (hp : p m = true) (hno : ∀ t x, t < k → l[t]? = some x → p x = false) (wl : WfM l) : DelI p l l k (k + 1) where
  lt := Nat.lt_succ_self _
  len := rfl
  low := by
    rw [take_one hm, List.filter_append]
    have : (l.take k).filter (fun m => !p m) = l.take k := List.filter_eq_self.2 fun x hx => by
      obtain ⟨t, ht, e⟩ := List.mem_iff_getElem.1 hx
      have h3 : (l.take k)[t]? = some x := by rw [List.getElem?_eq_getElem ht, e]
      rw [List.getElem?_take] at h3
      split at h3
      · rename_i h4; simp [hno t x h4 h3]
      · cases h3
    rw [this]
    simp [hp]
  high := rfl
  wf := wl
theorem DelI.done {p : RM → Bool} {l l' : List RM} {i : Nat} (h : DelI p l l' i l.length) : l'.take i = l.filter fun m => !p m := by
  have := h.low
  rwa [List.take_of_length_le (Nat.le_refl _)] at this
end Go.Proofs.YtmoaddbpfekdbaaGreat
/- Buffers in memory, twelve: 'Check', of both. -/
namespace Go.Proofs.YtmoaddbpfekdbaaGreat
set_option maxRecDepth 100000
open Go.RowKit
set_option linter.unusedVariables false
attribute [local go_sem ↓] key_ld msg_ld msg_st
end Go.Proofs.YtmoaddbpfekdbaaGreat
/- Buffers in memory, thirteen: 'Check' of the document. -/
namespace Go.Proofs.YtmoaddbpfekdbaaGreat
set_option maxRecDepth 100000
open Go.RowKit
set_option linter.unusedVariables false
attribute [local go_sem ↓] key_ld msg_ld msg_st
end Go.Proofs.YtmoaddbpfekdbaaGreat
/- Buffers in memory, fourteen: 'awake' of layer 6. -/
namespace Go.Proofs.YtmoaddbpfekdbaaGreat
set_option maxRecDepth 100000
open Go.RowKit
set_option linter.unusedVariables false
attribute [local go_sem ↓] key_ld msg_ld msg_st
end Go.Proofs.YtmoaddbpfekdbaaGreat
/- Buffers in memory, fifteen: the document's 'Find', 'Same', 'Batch', 'Less'. -/
namespace Go.Proofs.YtmoaddbpfekdbaaGreat
set_option maxRecDepth 100000
open Go.RowKit
set_option linter.unusedVariables false
attribute [local go_sem ↓] key_ld msg_ld msg_st
theorem msg_neq {a b : RM} (ha : a.wf) (hb : b.wf) (W : World) : (binOp .neq 123 (mm a) (mm b)).run Tryz.prog W = .ok (.bool (!decide (a = b))) W := by
  simp only [binOp, Sem.run_bind, msg_eqr ha hb, Result.andThen_ok, Sem.run_pure]
set_option maxHeartbeats 2000000 in
theorem ref_same {w : World} {A A2 : Option Addr} {n c B n2 c2 B2 : Nat} {l l2 : List RM} (hl : Has w B A (rows mc l)) (hB : B ≤ w.heap.size) (hn : l.length = n) (hsm : n ≤ 100000) (wl : WfM l) (hl2 : Has w B2 A2 (rows mc l2)) (hB2 : B2 ≤ w.heap.size) (hn2 : l2.length = n2) (hsm2 : n2 ≤ 100000) (wl2 : WfM l2) :
    Calls Tryz.prog 48 #[.slice A n c, .slice A2 n2 c2] w fun e w' => e = .returned (.bool (decide (l = l2))) ∧ Fr w w' := by
  have hww := fr_refl w
  by_cases hnn : n = n2
  · subst hnn
    have Hl := keep hl
    have Hn := keep hn
    have Hwl := keep wl
    have Hl2 := keep hl2
    have Hn2 := keep hn2
    have Hwl2 := keep wl2
    clear hl hn wl hl2 hn2 wl2
    go_enter Tryz.func48, Tryz.ntmps48
    go_wp2_with fail
    go_loopg [5] n (fun g s5 wr => ∃ j : Nat, j + g = n ∧ s5 = .int .i64 j ∧ Hid (Fr w wr) ∧ Hid (∀ t, t < j → l[t]? = l2[t]?))
    case atStart => exact ⟨0, by omega, rfl, keep hww, keep (fun t h => by omega)⟩
    case round =>
      obtain ⟨j, hj, rfl, hW, hno⟩ := hrel
      by_cases hlt : j < n
      · have hm : l[j]? = some (l[j]'(by rw [Hn.out]; exact hlt)) := List.getElem?_eq_getElem _
        generalize l[j]'(by rw [Hn.out]; exact hlt) = m at hm
        have hm2 : l2[j]? = some (l2[j]'(by rw [Hn2.out]; exact hlt)) := List.getElem?_eq_getElem _
        generalize l2[j]'(by rw [Hn2.out]; exact hlt) = m2 at hm2
        obtain ⟨b, off, rfl, hb1, hr⟩ := has_rows Hl.out Hwl.out.wid (by decide) (by intro e; rw [e] at hm; simp at hm)
        obtain ⟨b2, off2, rfl, hb2, hr2⟩ := has_rows Hl2.out Hwl2.out.wid (by decide) (by intro e; rw [e] at hm2; simp at hm2)
        have lX := elem_ld msgS hr Hwl.out.wid (by omega) hm
        have lX2 := elem_ld msgS hr2 Hwl2.out.wid (by omega) hm2
        have wm := Hwl.out m (mem_at hm)
        have wm2 := Hwl2.out m2 (mem_at hm2)
        have qE := fun W => msg_neq wm wm2 W
        have Hm := keep hm
        have Hm2 := keep hm2
        have hWW := hW.out
        have hWD := fr_drew hWW
        have hjz : (j : Int) < (n : Int) := by omega
        clear hm hr hm2 hr2 hlt
        by_cases hk : m = m2
        · have Hk := keep hk
          rw [decide_eq_true hk] at qE
          simp only [Bool.not_true] at qE
          clear hk wm wm2
          go_wp2_with fail
          go_region_held3 (fun w' => Fr w w') (first | exact hWD | assumption) (first | fail)
          rename_i hH
          go_wp2_with fail
          go_roundg (gk - 1)
          case measure => omega
          case rel => exact ⟨j + 1, by omega, rfl, keep hH, keep (fun t ht => by
            by_cases e : t = j
            · subst e
              rw [Hm.out, Hm2.out, Hk.out]
            · exact hno.out t (by omega))⟩
        · have Hf : Hid (decide (l = l2) = false) := keep (decide_eq_false (fun e => hk (by
            have := Hm.out
            rw [e, Hm2.out] at this
            injection this with this
            exact this.symm)))
          rw [decide_eq_false hk] at qE
          simp only [Bool.not_false] at qE
          clear hk wm wm2
          go_wp2_with fail
          go_region_held3 (fun w' => Fr w w') (first | exact hWD | assumption) (first | fail)
          rename_i hH
          go_wp2_with fail
          go_ret
          exact ⟨by rw [Hf.out]; rfl, hH⟩
      · have hjn : j = n := by omega
        have hjz : ¬ (j : Int) < (n : Int) := by omega
        have he : l = l2 := by
          apply List.ext_getElem?
          intro t
          by_cases ht : t < j
          · exact hno.out t ht
          · rw [List.getElem?_eq_none (by rw [Hn.out]; omega), List.getElem?_eq_none (by rw [Hn2.out]; omega)]
        have Hf : Hid (decide (l = l2) = true) := keep (decide_eq_true he)
        have hWW := hW.out
        clear hlt hjn hno he
        go_wp2_with fail
        go_ret
        exact ⟨by rw [Hf.out]; rfl, hWW⟩
  · have hnz : ¬ (n : Int) = (n2 : Int) := by omega
    have Hf : Hid (decide (l = l2) = false) := keep (decide_eq_false (fun e => hnn (by rw [← hn, ← hn2, e])))
    clear hl hl2 wl wl2 hn hn2
    go_enter Tryz.func48, Tryz.ntmps48
    go_wp2_with fail
    go_ret
    exact ⟨by rw [Hf.out]; rfl, hww⟩
end Go.Proofs.YtmoaddbpfekdbaaGreat
/- Buffers in memory, sixteen: 'append' of one message; the document's 'Batch', 'Less'. -/
namespace Go.Proofs.YtmoaddbpfekdbaaGreat
set_option maxRecDepth 100000
open Go.RowKit
set_option linter.unusedVariables false
attribute [local go_sem ↓] key_ld msg_ld msg_st
end Go.Proofs.YtmoaddbpfekdbaaGreat
/- Buffers in memory, seventeen: the document's 'Less'. -/
namespace Go.Proofs.YtmoaddbpfekdbaaGreat
set_option maxRecDepth 100000
open Go.RowKit
set_option linter.unusedVariables false
attribute [local go_sem ↓] key_ld msg_ld msg_st
end Go.Proofs.YtmoaddbpfekdbaaGreat
/- Buffers in memory, eighteen: the document's 'Add'. -/
namespace Go.Proofs.YtmoaddbpfekdbaaGreat
set_option maxRecDepth 100000
open Go.RowKit
set_option linter.unusedVariables false
attribute [local go_sem ↓] key_ld msg_ld msg_st
/-- What has come of j messages of l, m being added: whether m is in it, the list. -/
def AddI (l : List RM) (m : RM) (j : Nat) (p : Bool) (q : List RM) : Prop :=
  if p = true then q = addL (l.take j) m ∧ ∃ y ∈ l.take j, cd m ≤ cd y else q = l.take j ∧ ∀ y ∈ l.take j, cd y < cd m
end Go.Proofs.YtmoaddbpfekdbaaGreat
/- Buffers in memory, nineteen: the document's 'All'; package 00's 'Msgs'. -/
namespace Go.Proofs.YtmoaddbpfekdbaaGreat
set_option maxRecDepth 100000
open Go.RowKit
set_option linter.unusedVariables false
attribute [local go_sem ↓] key_ld msg_ld msg_st
theorem int_at {w : World} {B : Nat} {A : Option Addr} {ns : List Int} (h : Has w B A (ns.map (Value.int .i64))) {j : Nat} {v : Int} (hv : ns[j]? = some v) : ∃ b off, A = some ⟨b, off, none⟩ ∧ b < B ∧ w.cell? ⟨b, off + j, none⟩ = some (.int .i64 v) := by
  obtain ⟨b, off, e, hb, hx⟩ := h j (.int .i64 v) (by rw [List.getElem?_map, hv]; rfl)
  exact ⟨b, off, e, hb, hx⟩
end Go.Proofs.YtmoaddbpfekdbaaGreat
/- Keys that came in. -/
namespace Go.Proofs.YtmoaddbpfekdbaaGreat
set_option maxRecDepth 100000
open Go.RowKit Go.ChangeShapes Go.WideShapes Go.Deep
set_option linter.unusedVariables false
section
variable {H : Type} {enc : TypeId × Value → H} {w : World} {base : Nat} {spare : Nat → Bool} {held : Bool}
end
end Go.Proofs.YtmoaddbpfekdbaaGreat
/- Values that came in. -/
namespace Go.Proofs.YtmoaddbpfekdbaaGreat
set_option maxRecDepth 100000
open Go.RowKit Go.ChangeShapes Go.WideShapes Go.Deep
set_option linter.unusedVariables false
section
variable {H : Type} {enc : TypeId × Value → H} {w : World} {base : Nat} {spare : Nat → Bool} {held : Bool}
end
end Go.Proofs.YtmoaddbpfekdbaaGreat
/- Messages that came in; a row of 64-bit numbers that came in. -/
namespace Go.Proofs.YtmoaddbpfekdbaaGreat
set_option maxRecDepth 100000
open Go.RowKit Go.ChangeShapes Go.WideShapes Go.Deep
set_option linter.unusedVariables false
section
variable {H : Type} {enc : TypeId × Value → H} {w : World} {base : Nat} {spare : Nat → Bool} {held : Bool}
end
end Go.Proofs.YtmoaddbpfekdbaaGreat
/- Messages, and numbers, in rows that came in. -/
namespace Go.Proofs.YtmoaddbpfekdbaaGreat
set_option maxRecDepth 100000
open Go.RowKit Go.ChangeShapes Go.WideShapes Go.Deep
set_option linter.unusedVariables false
section
variable {H : Type} {enc : TypeId × Value → H} {w : World} {base : Nat} {spare : Nat → Bool} {held : Bool}
end
end Go.Proofs.YtmoaddbpfekdbaaGreat
/- What the functions of buffers do to rows of the call's own, in few words: for the walks of laws. -/
namespace Go.Proofs.YtmoaddbpfekdbaaGreat
set_option maxRecDepth 100000
open Go.RowKit
set_option linter.unusedVariables false
attribute [local go_sem ↓] key_ld msg_ld msg_st
section
variable {W : World} {A A2 : Option Addr} {c c2 : Nat} {l l2 : List RM} {m : RM} {k : RK}
end
/-- What stands for m's key, m added. -/
def wantM (o : Option RM) (m : RM) : RM := match o with | some x => compM x m | none => m
end Go.Proofs.YtmoaddbpfekdbaaGreat
/- Buffers in memory: 'All' of the document. -/
namespace Go.Proofs.YtmoaddbpfekdbaaGreat
set_option maxRecDepth 100000
open Go.RowKit
set_option linter.unusedVariables false
attribute [local go_sem ↓] key_ld msg_ld msg_st
end Go.Proofs.YtmoaddbpfekdbaaGreat
/- Package 03's Order at this seat. -/
namespace Go.Proofs.YtmoaddbpfekdbaaGreat
set_option maxRecDepth 100000
open Go.RowKit Go.Maps
set_option linter.unusedVariables false

/-- The cells of keys, one behind the other. -/
def flat (ks : List RK) : List Value := ks.flatMap kc
theorem flat_one (ks : List RK) : ∀ v ∈ flat ks, v.oneCell' = true := by
  intro v hv
  obtain ⟨k, _, hk⟩ := List.mem_flatMap.1 hv
  simp at hk
  rcases hk with rfl | rfl | rfl | rfl | rfl | rfl | rfl | rfl | rfl <;> rfl
/-- The nine cells of k lie at that place. -/
def KeyAt (w : World) (b off : Nat) (k : RK) : Prop := ∀ j v, (kc k)[j]? = some v → w.cell? ⟨b, off + j, none⟩ = some v
theorem KeyAt.lift {w w' : World} {b off : Nat} {k : RK} (h : KeyAt w b off k) (hc : ∀ p : Addr, p.block = b → w'.cell? p = w.cell? p) : KeyAt w' b off k := fun j v hj => (hc _ rfl).trans (h j v hj)
theorem KeyAt.below {w w' : World} {b off B : Nat} {k : RK} (h : KeyAt w b off k) (hb : Below B w w') (hl : b < B) : KeyAt w' b off k := h.lift fun p hp => hb.cell (by rw [hp]; exact hl)
theorem KeyAt.cells {w : World} {b off : Nat} {k : RK} (h : KeyAt w b off k) : w.cell? ⟨b, off, none⟩ = some (.int .i64 k.n) ∧ w.cell? ⟨b, off + 1, none⟩ = some (.int .u8 k.b0) ∧ w.cell? ⟨b, off + 2, none⟩ = some (.int .u8 k.b1) ∧ w.cell? ⟨b, off + 3, none⟩ = some (.int .u8 k.b2) ∧ w.cell? ⟨b, off + 4, none⟩ = some (.int .u8 k.b3) ∧ w.cell? ⟨b, off + 5, none⟩ = some (.int .u8 k.b4) ∧ w.cell? ⟨b, off + 6, none⟩ = some (.int .u8 k.b5) ∧ w.cell? ⟨b, off + 7, none⟩ = some (.int .u8 k.b6) ∧ w.cell? ⟨b, off + 8, none⟩ = some (.int .u8 k.b7) :=
  ⟨h 0 _ rfl, h 1 _ rfl, h 2 _ rfl, h 3 _ rfl, h 4 _ rfl, h 5 _ rfl, h 6 _ rfl, h 7 _ rfl, h 8 _ rfl⟩
def WfAll (ks : List RK) : Prop := ∀ k ∈ ks, k.wf
/-- 'os' are the right ones of ks, each once, rising. -/
def IsOrd (ks os : List RK) : Prop := os.Pairwise (fun a b => code a < code b) ∧ ∀ k, k ∈ os ↔ k ∈ ks ∧ okB k = true
/-- What 'Order' hands back. -/
def OrdOut (w : World) (ks : List RK) (e : Ending) (w' : World) : Prop := ∃ A c os, e = .returned (.slice A os.length c) ∧ IsOrd ks os ∧ Own w' w.heap.size 112 9 A os.length c (flat os) ∧ Fr w w'
/-- The row with k laid in at place t. -/
def insAt (os : List RK) (t : Nat) (k : RK) : List RK := os.take t ++ [k] ++ os.drop t
/-- Where 's[t:]' begins. -/
def lowA (A : Option Addr) (cap t : Nat) : Option Addr := if cap = t then A else A.map (·.add (t * 9))
theorem add_zero (A : Option Addr) : A.map (·.add 0) = A := by cases A <;> simp [Addr.add]
end Go.Proofs.YtmoaddbpfekdbaaGreat
/- Package 00's Pivots. -/
namespace Go.Proofs.YtmoaddbpfekdbaaGreat
set_option maxRecDepth 100000
open Go.RowKit
set_option linter.unusedVariables false
attribute [local go_sem ↓] key_ld msg_ld
abbrev OwnPv (w : World) (B : Nat) (A : Option Addr) (c : Nat) (l : List RK) : Prop := Own w B 112 9 A l.length c (rows kc l)
end Go.Proofs.YtmoaddbpfekdbaaGreat
/- Kids and pivots: rows of numbers, rows of keys; which are valid. -/
namespace Go.Proofs.YtmoaddbpfekdbaaGreat
set_option maxRecDepth 100000
open Go.RowKit
set_option linter.unusedVariables false
attribute [local go_sem ↓] key_ld msg_ld
def ints (l : List Int) : List Value := l.map (Value.int .i64)
theorem ints_get {l : List Int} {j : Nat} {v : Int} (h : l[j]? = some v) : (ints l)[j]? = some (.int .i64 v) := by rw [ints, List.getElem?_map, h]; rfl
theorem ints_len (l : List Int) : (ints l).length = l.length := by simp [ints]
def WfK (l : List RK) : Prop := ∀ k ∈ l, k.wf
theorem kwid (l : List RK) : Wid kc 9 l := fun k _ => kc_len k
/-- At which place a number stands first, -1 if nowhere. -/
def plc : List Int → Int → Int
  | [], _ => -1
  | x :: l, v => if x = v then 0 else if plc l v < 0 then -1 else plc l v + 1
/-- Kids: two to four blocks beside the root, each once. -/
def KidsG (l : List Int) : Prop := (∀ x ∈ l, 1 ≤ x ∧ x < 256) ∧ l.Nodup
def KidsOk (l : List Int) : Prop := 2 ≤ l.length ∧ l.length ≤ 4 ∧ KidsG l
def blkB (l : List Int) : Bool := decide (2 ≤ l.length) && decide (l.length ≤ 4) && l.all (fun x => decide (1 ≤ x) && decide (x < 256)) && decide l.Nodup
def ladB (l : List RK) : Bool := l.all okB && decide (l.Pairwise fun a b => code a < code b)
def chkB (ks : List Int) (ps : List RK) : Bool := blkB ks && decide (ps.length + 1 = ks.length) && ladB ps
theorem ints_under : Tryz.prog.underlying 37 = some (.slice (Tryz.prog.elem 37)) := by kernel_rfl
end Go.Proofs.YtmoaddbpfekdbaaGreat
/- Pivots: which are valid, by the program and by the document; both together; to which kid a key goes. -/
namespace Go.Proofs.YtmoaddbpfekdbaaGreat
set_option maxRecDepth 100000
open Go.RowKit
set_option linter.unusedVariables false
attribute [local go_sem ↓] key_ld msg_ld
end Go.Proofs.YtmoaddbpfekdbaaGreat
/- Which kids and pivots are valid, by the program and by the document. -/
namespace Go.Proofs.YtmoaddbpfekdbaaGreat
set_option maxRecDepth 100000
open Go.RowKit
set_option linter.unusedVariables false
attribute [local go_sem ↓] key_ld msg_ld
end Go.Proofs.YtmoaddbpfekdbaaGreat
/- Pivots: to which kid a key goes. No program text. -/
namespace Go.Proofs.YtmoaddbpfekdbaaGreat
open Go.RowKit
set_option linter.unusedVariables false
/-- The kid to which a place in the order goes: how many pivots are not above it. -/
def kidN : List RK → Int → Nat
  | [], _ => 0
  | p :: ps, c => if code p ≤ c then kidN ps c + 1 else 0
end Go.Proofs.YtmoaddbpfekdbaaGreat
/- To which kid a key goes, by the program and by the document; rows that are the same. -/
namespace Go.Proofs.YtmoaddbpfekdbaaGreat
set_option maxRecDepth 100000
open Go.RowKit
set_option linter.unusedVariables false
attribute [local go_sem ↓] key_ld msg_ld
set_option maxHeartbeats 2000000 in
theorem sameints_at {W0 w : World} {A A2 : Option Addr} {n c B n2 c2 B2 : Nat} {l l2 : List Int} (hl : Has w B A (ints l)) (hB : B ≤ w.heap.size) (hn : l.length = n) (hsm : n ≤ 100000) (hl2 : Has w B2 A2 (ints l2)) (hB2 : B2 ≤ w.heap.size) (hn2 : l2.length = n2) (hsm2 : n2 ≤ 100000) (h0 : Fr W0 w) :
    Calls Tryz.prog 27 #[.slice A n c, .slice A2 n2 c2] w fun e w' => e = .returned (.bool (decide (l = l2))) ∧ Fr W0 w' := by
  have hww := fr_refl w
  have H0 := keep h0
  clear h0
  by_cases hnn : n = n2
  · subst hnn
    have Hl := keep hl
    have Hn := keep hn
    have Hl2 := keep hl2
    have Hn2 := keep hn2
    clear hl hn hl2 hn2
    go_enter Tryz.func27, Tryz.ntmps27
    go_wp2_with fail
    go_loopg [5] n (fun g s5 wr => ∃ j : Nat, j + g = n ∧ s5 = .int .i64 j ∧ Hid (Fr w wr) ∧ Hid (∀ t, t < j → l[t]? = l2[t]?))
    case atStart => exact ⟨0, by omega, rfl, keep hww, keep (fun t h => by omega)⟩
    case round =>
      obtain ⟨j, hj, rfl, hW, hno⟩ := hrel
      by_cases hlt : j < n
      · have hm : l[j]? = some (l[j]'(by rw [Hn.out]; exact hlt)) := List.getElem?_eq_getElem _
        generalize l[j]'(by rw [Hn.out]; exact hlt) = m at hm
        have hm2 : l2[j]? = some (l2[j]'(by rw [Hn2.out]; exact hlt)) := List.getElem?_eq_getElem _
        generalize l2[j]'(by rw [Hn2.out]; exact hlt) = m2 at hm2
        have hWW := hW.out
        have hWD := fr_drew hWW
        obtain ⟨b, off, rfl, hb1, hr⟩ := Hl.out j _ (ints_get hm)
        obtain ⟨b2, off2, rfl, hb2, hr2⟩ := Hl2.out j _ (ints_get hm2)
        have cell1 : ∀ W, Fr w W → W.cell? ⟨b, off + j, none⟩ = some (.int .i64 m) := fun W h => (h.cell (by show b < w.heap.size; omega)).trans hr
        have cell2 : ∀ W, Fr w W → W.cell? ⟨b2, off2 + j, none⟩ = some (.int .i64 m2) := fun W h => (h.cell (by show b2 < w.heap.size; omega)).trans hr2
        clear hr hr2
        have Hm := keep hm
        have Hm2 := keep hm2
        have hjz : (j : Int) < (n : Int) := by omega
        clear hm hm2 hlt
        by_cases hk : m = m2
        · have Hk := keep hk
          have q1 : (m != m2) = false := by simp [hk]
          have q2 : (m == m2) = true := by simp [hk]
          clear hk
          go_wp2_with fail
          go_region_held3 (fun w' => Fr w w') (first | exact hWD | assumption) (first | fail)
          rename_i hH
          go_wp2_with fail
          go_roundg (gk - 1)
          case measure => omega
          case rel => exact ⟨j + 1, by omega, rfl, keep hH, keep (fun t ht => by
            by_cases e : t = j
            · subst e
              rw [Hm.out, Hm2.out, Hk.out]
            · exact hno.out t (by omega))⟩
        · have Hf : Hid (decide (l = l2) = false) := keep (decide_eq_false (fun e => hk (by
            have := Hm.out
            rw [e, Hm2.out] at this
            injection this with this
            exact this.symm)))
          have q1 : (m != m2) = true := by simpa using hk
          have q2 : (m == m2) = false := by simpa using hk
          clear hk
          go_wp2_with fail
          go_region_held3 (fun w' => Fr w w') (first | exact hWD | assumption) (first | fail)
          rename_i hH
          go_wp2_with fail
          go_ret
          rw [Hf.out]
          exact ⟨rfl, fr_step H0.out hH⟩
      · have hjn : j = n := by omega
        have hjz : ¬ (j : Int) < (n : Int) := by omega
        have Ht : Hid (decide (l = l2) = true) := keep (decide_eq_true (List.ext_getElem? fun t => by
          rcases Nat.lt_or_ge t n with h | h
          · exact hno.out t (by omega)
          · rw [List.getElem?_eq_none (by rw [Hn.out]; exact h), List.getElem?_eq_none (by rw [Hn2.out]; exact h)]))
        clear hlt hjn
        go_wp2_with fail
        go_ret
        rw [Ht.out]
        exact ⟨rfl, fr_step H0.out hW.out⟩
  · have Hf : Hid (decide (l = l2) = false) := keep (decide_eq_false (fun e => hnn (by rw [← hn, ← hn2, e])))
    have e1 : ((n : Int) != (n2 : Int)) = true := by simp; omega
    have e2 : ((n : Int) == (n2 : Int)) = false := by simp; omega
    clear hl hn hl2 hn2 hnn
    go_enter Tryz.func27, Tryz.ntmps27
    go_wp2_with fail
    go_ret
    rw [Hf.out]
    exact ⟨rfl, fr_step H0.out hww⟩
set_option maxHeartbeats 2000000 in
theorem samekeys_at {W0 w : World} {A A2 : Option Addr} {n c B n2 c2 B2 : Nat} {l l2 : List RK} (hl : Has w B A (rows kc l)) (hB : B ≤ w.heap.size) (hn : l.length = n) (hsm : n ≤ 100000) (wl : WfK l) (hl2 : Has w B2 A2 (rows kc l2)) (hB2 : B2 ≤ w.heap.size) (hn2 : l2.length = n2) (hsm2 : n2 ≤ 100000) (wl2 : WfK l2) (h0 : Fr W0 w) :
    Calls Tryz.prog 47 #[.slice A n c, .slice A2 n2 c2] w fun e w' => e = .returned (.bool (decide (l = l2))) ∧ Fr W0 w' := by
  have hww := fr_refl w
  have H0 := keep h0
  clear h0
  by_cases hnn : n = n2
  · subst hnn
    have Hl := keep hl
    have Hn := keep hn
    have Hl2 := keep hl2
    have Hn2 := keep hn2
    have Hwl := keep wl
    have Hwl2 := keep wl2
    clear wl wl2
    clear hl hn hl2 hn2
    go_enter Tryz.func47, Tryz.ntmps47
    go_wp2_with fail
    go_loopg [5] n (fun g s5 wr => ∃ j : Nat, j + g = n ∧ s5 = .int .i64 j ∧ Hid (Fr w wr) ∧ Hid (∀ t, t < j → l[t]? = l2[t]?))
    case atStart => exact ⟨0, by omega, rfl, keep hww, keep (fun t h => by omega)⟩
    case round =>
      obtain ⟨j, hj, rfl, hW, hno⟩ := hrel
      by_cases hlt : j < n
      · have hm : l[j]? = some (l[j]'(by rw [Hn.out]; exact hlt)) := List.getElem?_eq_getElem _
        generalize l[j]'(by rw [Hn.out]; exact hlt) = m at hm
        have hm2 : l2[j]? = some (l2[j]'(by rw [Hn2.out]; exact hlt)) := List.getElem?_eq_getElem _
        generalize l2[j]'(by rw [Hn2.out]; exact hlt) = m2 at hm2
        have hWW := hW.out
        have hWD := fr_drew hWW
        obtain ⟨b, off, rfl, hb1, hr⟩ := has_rows Hl.out (kwid l) (by decide) (by intro e; rw [e] at hm; simp at hm)
        obtain ⟨b2, off2, rfl, hb2, hr2⟩ := has_rows Hl2.out (kwid l2) (by decide) (by intro e; rw [e] at hm2; simp at hm2)
        have lX := elem_ld keyS hr (kwid l) (by omega) hm
        have lX2 := elem_ld keyS hr2 (kwid l2) (by omega) hm2
        have wm := Hwl.out m (List.mem_of_getElem? hm)
        have wm2 := Hwl2.out m2 (List.mem_of_getElem? hm2)
        have qE := fun W => key_neq wm wm2 W
        clear hr hr2 wm wm2
        have Hm := keep hm
        have Hm2 := keep hm2
        have hjz : (j : Int) < (n : Int) := by omega
        clear hm hm2 hlt
        by_cases hk : m = m2
        · have Hk := keep hk
          rw [decide_eq_true hk] at qE
          simp only [Bool.not_true] at qE
          clear hk
          go_wp2_with fail
          go_region_held3 (fun w' => Fr w w') (first | exact hWD | assumption) (first | fail)
          rename_i hH
          go_wp2_with fail
          go_roundg (gk - 1)
          case measure => omega
          case rel => exact ⟨j + 1, by omega, rfl, keep hH, keep (fun t ht => by
            by_cases e : t = j
            · subst e
              rw [Hm.out, Hm2.out, Hk.out]
            · exact hno.out t (by omega))⟩
        · have Hf : Hid (decide (l = l2) = false) := keep (decide_eq_false (fun e => hk (by
            have := Hm.out
            rw [e, Hm2.out] at this
            injection this with this
            exact this.symm)))
          rw [decide_eq_false hk] at qE
          simp only [Bool.not_false] at qE
          clear hk
          go_wp2_with fail
          go_region_held3 (fun w' => Fr w w') (first | exact hWD | assumption) (first | fail)
          rename_i hH
          go_wp2_with fail
          go_ret
          rw [Hf.out]
          exact ⟨rfl, fr_step H0.out hH⟩
      · have hjn : j = n := by omega
        have hjz : ¬ (j : Int) < (n : Int) := by omega
        have Ht : Hid (decide (l = l2) = true) := keep (decide_eq_true (List.ext_getElem? fun t => by
          rcases Nat.lt_or_ge t n with h | h
          · exact hno.out t (by omega)
          · rw [List.getElem?_eq_none (by rw [Hn.out]; exact h), List.getElem?_eq_none (by rw [Hn2.out]; exact h)]))
        clear hlt hjn
        go_wp2_with fail
        go_ret
        rw [Ht.out]
        exact ⟨rfl, fr_step H0.out hW.out⟩
  · have Hf : Hid (decide (l = l2) = false) := keep (decide_eq_false (fun e => hnn (by rw [← hn, ← hn2, e])))
    have e1 : ((n : Int) != (n2 : Int)) = true := by simp; omega
    have e2 : ((n : Int) == (n2 : Int)) = false := by simp; omega
    clear hl hn hl2 hn2 hnn
    go_enter Tryz.func47, Tryz.ntmps47
    go_wp2_with fail
    go_ret
    rw [Hf.out]
    exact ⟨rfl, fr_step H0.out hww⟩
end Go.Proofs.YtmoaddbpfekdbaaGreat
