/- 'awake' of layer 5. -/
import Derived.Test.YtmoaddbpfekdbaaGreatM05
import Derived.Deep.RegionWith
import Derived.Deep.Cut
import Derived.Deep.CutRange
import Derived.Test.YtmoaddbpfekdbaaGreatM04
import Derived.Deep.RegionHeld3
import Derived.Test.YtmoaddbpfekdbaaGreatM02
import Derived.Lib.Bytealg
import Derived.Lib.BytesEntry
import Derived.Sort.Grow
import Derived.BigQuiet
import Derived.Deep.QuietTactic
import Derived.Deep.LoopGhost
namespace Go.Proofs.YtmoaddbpfekdbaaGreat
set_option maxRecDepth 100000
open Go.RowKit
set_option linter.unusedVariables false
theorem msg_st (p v : Value) : Instr.storeAt 123 p v = stS 123 p v := rfl
attribute [local go_sem ↓] val_ld key_ld msg_ld
section
variable {W0 W : World} {a b m : RM} {v : RV}
theorem rmapply_at {there : Bool} (wv : v.wf) (ov : there = true → okV v = true) (wm : m.wf) (om : okM m = true) (hb : Fr W0 W) : Calls Tryz.prog 91 #[vv v, .bool there, mm m] W fun e w' => e = .returned (.tuple #[vv (appV v there m), .bool (appB m)]) ∧ Fr W0 w' := (ref_apply v there m wv ov wm om W).mono fun _ _ ⟨he, hw⟩ => ⟨he, fr_step hb hw⟩
end
theorem putM_wf {k : RK} (wk : k.wf) {v : RV} (wv : v.wf) {s : Int} (hs : Us64 s) : RM.wf ⟨1, s, k, v, 0⟩ := ⟨by simp [Is64], hs, wk, wv, by simp [Us64]⟩
theorem putM_ok {k : RK} (ok : okB k = true) {v : RV} (ov : okV v = true) {s : Int} : okM ⟨1, s, k, v, 0⟩ = true := by simp [okM, ok, ov]
section
attribute [local go_sem ↓] msg_st
end
end Go.Proofs.YtmoaddbpfekdbaaGreat
/- What two and three messages of one key come to. -/
namespace Go.Proofs.YtmoaddbpfekdbaaGreat
set_option maxRecDepth 100000
open Go.RowKit
set_option linter.unusedVariables false
section
variable {a b c : RM}
end
/-- With another key of its own. -/
def withK (m : RM) (k : RK) : RM := { m with key := k }
theorem okM_key {m : RM} (om : okM m = true) : okB m.key = true := (okM_parts om).2.1
end Go.Proofs.YtmoaddbpfekdbaaGreat
/- MsgTwice, walked. -/
namespace Go.Proofs.YtmoaddbpfekdbaaGreat
set_option maxRecDepth 100000
open Go.RowKit
set_option linter.unusedVariables false
attribute [local go_sem ↓] val_ld key_ld msg_ld
theorem val_st (p v : Value) : Instr.storeAt 115 p v = stS 115 p v := rfl
theorem appV_wf {v : RV} {t : Bool} {m : RM} (wv : v.wf) (wm : m.wf) : (appV v t m).wf := by
  unfold appV
  split
  · exact wm.val
  · split
    · exact zeroV_wf
    · split
      · exact fromV_wf _
      · exact fromV_wf _
theorem appV_ok {v : RV} {t : Bool} {m : RM} (om : okM m = true) : okV (appV v t m) = true := by
  obtain ⟨_, _, h1, _, _⟩ := okM_parts om
  unfold appV
  split
  · rename_i h
    exact (h1 h).2
  · split
    · decide
    · split
      · exact fromV_ok _
      · exact fromV_ok _
section
attribute [local go_sem ↓] val_st
end
end Go.Proofs.YtmoaddbpfekdbaaGreat
/- MsgThree, walked. -/
namespace Go.Proofs.YtmoaddbpfekdbaaGreat
set_option maxRecDepth 100000
open Go.RowKit
set_option linter.unusedVariables false
attribute [local go_sem ↓] val_ld key_ld msg_ld
theorem key_st (p v : Value) : Instr.storeAt 112 p v = stS 112 p v := rfl
section
attribute [local go_sem ↓] msg_st key_st
end
end Go.Proofs.YtmoaddbpfekdbaaGreat
/- MsgOver, walked. -/
namespace Go.Proofs.YtmoaddbpfekdbaaGreat
set_option maxRecDepth 100000
open Go.RowKit
set_option linter.unusedVariables false
attribute [local go_sem ↓] val_ld key_ld msg_ld
end Go.Proofs.YtmoaddbpfekdbaaGreat
/- MsgSizes, walked. -/
namespace Go.Proofs.YtmoaddbpfekdbaaGreat
set_option maxRecDepth 100000
open Go.RowKit
set_option linter.unusedVariables false
attribute [local go_sem ↓] val_ld key_ld msg_ld
/-- One byte more, where there is room: a 0. -/
def moreK (k : RK) : RK := { k with n := k.n + 1 }
theorem key_bd {k : RK} (ok : okB k = true) : 0 ≤ k.n ∧ k.n ≤ 8 := by
  obtain ⟨a, h1, h2, _⟩ := okB_n ok
  omega
section
attribute [local go_sem ↓] msg_st
end
end Go.Proofs.YtmoaddbpfekdbaaGreat
/- Keys by their order: a number for each. No program text. -/
namespace Go.Proofs.YtmoaddbpfekdbaaGreat
set_option maxRecDepth 100000
open Go.RowKit
set_option linter.unusedVariables false

def val8 (k : RK) : Int := ((((((k.b0 * 256 + k.b1) * 256 + k.b2) * 256 + k.b3) * 256 + k.b4) * 256 + k.b5) * 256 + k.b6) * 256 + k.b7
def code (k : RK) : Int := val8 k * 16 + k.n
def cmpI (x y : Int) : Int := if x < y then -1 else if y < x then 1 else 0
def cmpK (a b : RK) : Int := cmpI (code a) (code b)
theorem cmpI_lt {x y : Int} (h : x < y) : cmpI x y = -1 := by simp [cmpI, h]
theorem cmpI_gt {x y : Int} (h : y < x) : cmpI x y = 1 := by unfold cmpI; rw [if_neg (by omega), if_pos h]
theorem cmpI_eq {x y : Int} (h : x = y) : cmpI x y = 0 := by unfold cmpI; rw [if_neg (by omega), if_neg (by omega)]
theorem cmpI_cases (x y : Int) : (x < y ∧ cmpI x y = -1) ∨ (y < x ∧ cmpI x y = 1) ∨ (x = y ∧ cmpI x y = 0) := by
  rcases Int.lt_trichotomy x y with h | h | h
  · exact .inl ⟨h, cmpI_lt h⟩
  · exact .inr (.inr ⟨h, cmpI_eq h⟩)
  · exact .inr (.inl ⟨h, cmpI_gt h⟩)
theorem step256 {x y a b : Int} (ha : Byt a) (hb : Byt b) (h : x * 256 + a = y * 256 + b) : x = y ∧ a = b := by
  unfold Byt at ha hb; omega
/-- n is from 0 to 8. -/
def Len (k : RK) : Prop := 0 ≤ k.n ∧ k.n ≤ 8
theorem code_inj {a b : RK} (ha : a.wf) (hb : b.wf) (la : Len a) (lb : Len b) (h : code a = code b) : a = b := by
  unfold code at h
  unfold Len at la lb
  have h0 : val8 a = val8 b := by omega
  have h1 : a.n = b.n := by omega
  unfold val8 at h0
  obtain ⟨h0, e7⟩ := step256 ha.h7 hb.h7 h0
  obtain ⟨h0, e6⟩ := step256 ha.h6 hb.h6 h0
  obtain ⟨h0, e5⟩ := step256 ha.h5 hb.h5 h0
  obtain ⟨h0, e4⟩ := step256 ha.h4 hb.h4 h0
  obtain ⟨h0, e3⟩ := step256 ha.h3 hb.h3 h0
  obtain ⟨h0, e2⟩ := step256 ha.h2 hb.h2 h0
  obtain ⟨h0, e1⟩ := step256 ha.h1 hb.h1 h0
  cases a; cases b
  simp_all
/-- The bytes. -/
def ub (k : RK) : List UInt8 := (kbs k).map fun z => UInt8.ofNat z.toNat
end Go.Proofs.YtmoaddbpfekdbaaGreat
/- What the functions of layer 3 come to, four: 'Compare', of the program. -/
namespace Go.Proofs.YtmoaddbpfekdbaaGreat
set_option maxRecDepth 100000
open Go.RowKit
set_option linter.unusedVariables false
/-- w' is w behind some draws, with some new blocks. -/
def Gr (w w' : World) : Prop := ∃ q os, w' = Sort.grow (w.drewN q) os
theorem Gr.fr {w w' : World} (h : Gr w w') : Fr w w' := by
  obtain ⟨q, os, rfl⟩ := h
  exact ⟨rfl, rfl, rfl, by simp [Sort.grow, World.drewN], fun k hk => by simp [Sort.grow, World.drewN, Array.getElem?_append, hk]⟩
end Go.Proofs.YtmoaddbpfekdbaaGreat
/- What the functions of layer 3 come to, five: 'Compare', of the document. -/
namespace Go.Proofs.YtmoaddbpfekdbaaGreat
set_option maxRecDepth 100000
open Go.RowKit
set_option linter.unusedVariables false

theorem val8_le {a b : RK} (h : ∀ t, t < 8 → a.at t ≤ b.at t) : val8 a ≤ val8 b := by
  have h0 : a.b0 ≤ b.b0 := h 0 (by omega)
  have h1 : a.b1 ≤ b.b1 := h 1 (by omega)
  have h2 : a.b2 ≤ b.b2 := h 2 (by omega)
  have h3 : a.b3 ≤ b.b3 := h 3 (by omega)
  have h4 : a.b4 ≤ b.b4 := h 4 (by omega)
  have h5 : a.b5 ≤ b.b5 := h 5 (by omega)
  have h6 : a.b6 ≤ b.b6 := h 6 (by omega)
  have h7 : a.b7 ≤ b.b7 := h 7 (by omega)
  unfold val8
  omega
theorem val8_lt {a b : RK} (ha : a.wf) (hb : b.wf) (j : Nat) (hj : j < 8) (h : ∀ t, t < j → a.at t = b.at t) (hl : a.at j < b.at j) : val8 a < val8 b := by
  obtain ⟨_, a0, a1, a2, a3, a4, a5, a6, a7⟩ := ha
  obtain ⟨_, c0, c1, c2, c3, c4, c5, c6, c7⟩ := hb
  unfold Byt at *
  unfold val8
  have h0 : 0 < j → a.b0 = b.b0 := fun q => h 0 q
  have h1 : 1 < j → a.b1 = b.b1 := fun q => h 1 q
  have h2 : 2 < j → a.b2 = b.b2 := fun q => h 2 q
  have h3 : 3 < j → a.b3 = b.b3 := fun q => h 3 q
  have h4 : 4 < j → a.b4 = b.b4 := fun q => h 4 q
  have h5 : 5 < j → a.b5 = b.b5 := fun q => h 5 q
  have h6 : 6 < j → a.b6 = b.b6 := fun q => h 6 q
  clear h
  rcases j with _|_|_|_|_|_|_|_|j
  all_goals simp only [RK.at] at hl
  all_goals omega
theorem okB_len {k : RK} (h : okB k = true) : Len k := by
  obtain ⟨m, hm, hn, _⟩ := okB_n h
  unfold Len; omega
theorem okB_zero {k : RK} (h : okB k = true) (t : Nat) (ht : t < 8) (hn : k.n ≤ t) : k.at t = 0 := by
  obtain ⟨m, hm, hn', he⟩ := okB_n h
  exact (first_iff k m hm hn').1 he t (by omega) ht
/-- Before place j the keys are alike, and both reach there. -/
def Pre (a b : RK) (j : Nat) : Prop := ∀ t, t < j → a.at t = b.at t ∧ (t : Int) < a.n ∧ (t : Int) < b.n
theorem pre_ge {a b : RK} {j : Nat} (h : Pre a b j) : (j : Int) ≤ a.n ∨ j = 0 := by
  rcases j with _|j
  · exact .inr rfl
  · have := (h j (by omega)).2.1; left; omega
theorem pre_ge' {a b : RK} {j : Nat} (h : Pre a b j) : (j : Int) ≤ b.n ∨ j = 0 := by
  rcases j with _|j
  · exact .inr rfl
  · have := (h j (by omega)).2.2; left; omega
theorem cmp_both {a b : RK} (oa : okB a = true) (ob : okB b = true) (j : Nat) (hj : j ≤ 8) (h : Pre a b j) (h1 : a.n ≤ j) (h2 : b.n ≤ j) : cmpK a b = 0 := by
  have la := okB_len oa
  have lb := okB_len ob
  unfold Len at la lb
  have g1 := pre_ge h
  have g2 := pre_ge' h
  have e : ∀ t, t < 8 → a.at t = b.at t := fun t ht => by
    by_cases hl : t < j
    · exact (h t hl).1
    · rw [okB_zero oa t ht (by omega), okB_zero ob t ht (by omega)]
  have v1 := val8_le (a := a) (b := b) fun t ht => by rw [e t ht]; exact Int.le_refl _
  have v2 := val8_le (a := b) (b := a) fun t ht => by rw [e t ht]; exact Int.le_refl _
  exact cmpI_eq (by unfold code; omega)
theorem cmp_short {a b : RK} (oa : okB a = true) (ob : okB b = true) (wb : b.wf) (j : Nat) (hj : j < 8) (h : Pre a b j) (h1 : a.n ≤ j) (h2 : (j : Int) < b.n) : cmpK a b = -1 := by
  have v1 := val8_le (a := a) (b := b) fun t ht => by
    by_cases hl : t < j
    · rw [(h t hl).1]; exact Int.le_refl _
    · rw [okB_zero oa t ht (by omega)]; exact (at_byt wb t).1
  exact cmpI_lt (by unfold code; omega)
theorem cmp_long {a b : RK} (oa : okB a = true) (ob : okB b = true) (wa : a.wf) (j : Nat) (hj : j < 8) (h : Pre a b j) (h1 : (j : Int) < a.n) (h2 : b.n ≤ j) : cmpK a b = 1 := by
  have v1 := val8_le (a := b) (b := a) fun t ht => by
    by_cases hl : t < j
    · rw [(h t hl).1]; exact Int.le_refl _
    · rw [okB_zero ob t ht (by omega)]; exact (at_byt wa t).1
  exact cmpI_gt (by unfold code; omega)
theorem cmp_at_lt {a b : RK} (oa : okB a = true) (ob : okB b = true) (wa : a.wf) (wb : b.wf) (j : Nat) (hj : j < 8) (h : Pre a b j) (hl : a.at j < b.at j) : cmpK a b = -1 := by
  have la := okB_len oa
  have lb := okB_len ob
  unfold Len at la lb
  have := val8_lt wa wb j hj (fun t ht => (h t ht).1) hl
  exact cmpI_lt (by unfold code; omega)
theorem cmp_at_gt {a b : RK} (oa : okB a = true) (ob : okB b = true) (wa : a.wf) (wb : b.wf) (j : Nat) (hj : j < 8) (h : Pre a b j) (hl : b.at j < a.at j) : cmpK a b = 1 := by
  have la := okB_len oa
  have lb := okB_len ob
  unfold Len at la lb
  have := val8_lt wb wa j hj (fun t ht => (h t ht).1.symm) hl
  exact cmpI_gt (by unfold code; omega)
set_option maxHeartbeats 2000000 in
theorem ref_compare (a b : RK) (wa : a.wf) (wb : b.wf) (oa : okB a = true) (ob : okB b = true) (w : World) : Calls Tryz.prog 92 #[kv a, kv b] w fun e w' => e = .returned (.int .i64 (cmpK a b)) ∧ Fr w w' := by
  have Oa := keep oa
  have Ob := keep ob
  clear oa ob
  go_enter Tryz.func92, Tryz.ntmps92
  go_wp2_with fail
  generalize hW : World.alloc (World.alloc w _) _ = W
  have hA : Arr W w.heap.size 112 (kc a).toArray := by rw [← hW]; exact (Arr.new w _ _).alloc _
  have hB : Arr W (w.heap.size + 1) 112 (kc b).toArray := by rw [← hW]; exact arr_new_at _ _ _ _ (by simp)
  have hF : Fr w W := by rw [← hW]; exact fr_new (fr_new (fr_refl w) _) _
  clear hW
  go_loopg [5] 8 (fun g i wr => ∃ j : Nat, j + g = 8 ∧ i = .int .i64 j ∧ Hid (Pre a b j) ∧ Arr wr w.heap.size 112 (kc a).toArray ∧ Arr wr (w.heap.size + 1) 112 (kc b).toArray ∧ Fr w wr)
  case atStart => exact ⟨0, rfl, rfl, keep fun t h => by omega, hA, hB, hF⟩
  case round =>
    clear hA hB hF
    obtain ⟨j, hj, rfl, Hp, hA, hB, hF⟩ := hrel
    have Hj := keep hj
    by_cases hlt : j < 8
    · have ca : wr.cell? ⟨w.heap.size, 1 + j, none⟩ = some (.int .u8 (a.at j)) := (hA.cell (1 + j)).trans (kc_at a j hlt)
      have cb : wr.cell? ⟨w.heap.size + 1, 1 + j, none⟩ = some (.int .u8 (b.at j)) := (hB.cell (1 + j)).trans (kc_at b j hlt)
      have na : wr.cell? ⟨w.heap.size, 0, none⟩ = some (.int .i64 a.n) := hA.cell 0
      have nb : wr.cell? ⟨w.heap.size + 1, 0, none⟩ = some (.int .i64 b.n) := hB.cell 0
      clear hj
      by_cases h1 : a.n ≤ j
      · have d1 : decide (a.n ≤ (j : Int)) = true := by simpa using h1
        by_cases h2 : b.n ≤ j
        · have d2 : decide (b.n ≤ (j : Int)) = true := by simpa using h2
          have Hr := keep (cmp_both Oa.out Ob.out j (by omega) Hp.out h1 h2)
          go_wp2_with fail
          go_ret
          exact ⟨ret_int Hr.out.symm, hF⟩
        · have d2 : decide (b.n ≤ (j : Int)) = false := by simpa using h2
          have Hr := keep (cmp_short Oa.out Ob.out wb j hlt Hp.out h1 (by omega))
          go_wp2_with fail
          go_ret
          exact ⟨ret_int Hr.out.symm, hF⟩
      · have d1 : decide (a.n ≤ (j : Int)) = false := by simpa using h1
        by_cases h2 : b.n ≤ j
        · have d2 : decide (b.n ≤ (j : Int)) = true := by simpa using h2
          have Hr := keep (cmp_long Oa.out Ob.out wa j hlt Hp.out (by omega) h2)
          go_wp2_with fail
          go_ret
          exact ⟨ret_int Hr.out.symm, hF⟩
        · have d2 : decide (b.n ≤ (j : Int)) = false := by simpa using h2
          by_cases h3 : a.at j < b.at j
          · have d3 : decide (a.at j < b.at j) = true := by simpa using h3
            have Hr := keep (cmp_at_lt Oa.out Ob.out wa wb j hlt Hp.out h3)
            go_wp2_with fail
            go_quiet (fail)
            go_wp2_with fail
            go_ret
            exact ⟨ret_int Hr.out.symm, by first | exact fr_drewN hF _ | exact fr_drewN (fr_drewN hF _) _⟩
          · have d3 : decide (a.at j < b.at j) = false := by simpa using h3
            by_cases h4 : b.at j < a.at j
            · have d4 : decide (b.at j < a.at j) = true := by simpa using h4
              have Hr := keep (cmp_at_gt Oa.out Ob.out wa wb j hlt Hp.out h4)
              go_wp2_with fail
              go_quiet (fail)
              go_wp2_with fail
              go_quiet (fail)
              go_wp2_with fail
              go_ret
              exact ⟨ret_int Hr.out.symm, by first | exact fr_drewN hF _ | exact fr_drewN (fr_drewN hF _) _⟩
            · have d4 : decide (b.at j < a.at j) = false := by simpa using h4
              have Hq : Hid (Pre a b (j + 1)) := keep fun t ht => by
                by_cases e : t = j
                · subst e; exact ⟨by omega, by omega, by omega⟩
                · exact Hp.out t (by omega)
              go_wp2_with fail
              go_quiet (fail)
              go_wp2_with fail
              go_quiet (fail)
              go_wp2_with fail
              go_roundg (gk - 1)
              case measure => have := Hj.out; omega
              case rel => exact ⟨j + 1, by have := Hj.out; omega, by go_num, Hq, hA, hB, by first | exact fr_drewN hF _ | exact fr_drewN (fr_drewN hF _) _⟩
    · obtain rfl : j = 8 := by omega
      have Hr := keep (cmp_both Oa.out Ob.out 8 (by omega) Hp.out (okB_len Oa.out).2 (okB_len Ob.out).2)
      clear hj
      go_wp2_with fail
      go_ret
      exact ⟨ret_int Hr.out.symm, hF⟩
end Go.Proofs.YtmoaddbpfekdbaaGreat
/- Buffers as lists of messages: their order, what is found, added, parted, left out. No program text. -/
namespace Go.Proofs.YtmoaddbpfekdbaaGreat
set_option maxRecDepth 100000
open Go.RowKit
set_option linter.unusedVariables false
theorem okB_len' {k : RK} (h : okB k = true) : Len k := by
  obtain ⟨m, hm, hn, _⟩ := okB_n h
  unfold Len; omega
/-- A message's place in the order. -/
def cd (m : RM) : Int := code m.key
/-- Messages that are right ones. -/
def Good (l : List RM) : Prop := ∀ m ∈ l, m.wf ∧ okM m = true
/-- .. whose keys rise. -/
structure OkL (l : List RM) : Prop where
  good : Good l
  asc : l.Pairwise fun a b => cd a < cd b
theorem Good.nil : Good [] := fun _ h => by simp at h
theorem Good.cons {m : RM} {l : List RM} (wm : m.wf) (om : okM m = true) (h : Good l) : Good (m :: l) := fun x hx => by
  rcases List.mem_cons.1 hx with rfl | hx
  · exact ⟨wm, om⟩
  · exact h x hx
theorem Good.tail {m : RM} {l : List RM} (h : Good (m :: l)) : Good l := fun x hx => h x (List.mem_cons_of_mem _ hx)
theorem Good.head {m : RM} {l : List RM} (h : Good (m :: l)) : m.wf ∧ okM m = true := h m (by simp)
theorem Good.sub {l l' : List RM} (h : Good l) (hs : l'.Sublist l) : Good l' := fun x hx => h x (hs.subset hx)
theorem OkL.nil : OkL [] := ⟨Good.nil, List.Pairwise.nil⟩
theorem OkL.tail {m : RM} {l : List RM} (h : OkL (m :: l)) : OkL l := ⟨h.good.tail, (List.pairwise_cons.1 h.asc).2⟩
theorem OkL.lt {m : RM} {l : List RM} (h : OkL (m :: l)) : ∀ x ∈ l, cd m < cd x := (List.pairwise_cons.1 h.asc).1
theorem OkL.sub {l l' : List RM} (h : OkL l) (hs : l'.Sublist l) : OkL l' := ⟨h.good.sub hs, h.asc.sublist hs⟩
theorem OkL.cons {m : RM} {l : List RM} (wm : m.wf) (om : okM m = true) (h : OkL l) (hl : ∀ x ∈ l, cd m < cd x) : OkL (m :: l) := ⟨Good.cons wm om h.good, List.pairwise_cons.2 ⟨hl, h.asc⟩⟩
/-- The message of a key. -/
def findL (l : List RM) (k : RK) : Option RM := l.find? fun m => decide (m.key = k)
/-- With a message added. -/
def addL : List RM → RM → List RM
  | [], m => [m]
  | x :: l, m => if cd x < cd m then x :: addL l m else if x.key = m.key then compM x m :: l else m :: x :: l
/-- With all messages of another list added. -/
def allL (l more : List RM) : List RM := more.foldl addL l
/-- Without the keys of another list. -/
def lessL (l gone : List RM) : List RM := l.filter fun m => !(findL gone m.key).isSome
/-- The sum of their bytes. -/
def bytL (l : List RM) : Int := (l.map bytM).sum
end Go.Proofs.YtmoaddbpfekdbaaGreat
/- Buffers as lists of messages: what goes at once, parts by pivots. No program text. -/
namespace Go.Proofs.YtmoaddbpfekdbaaGreat
set_option maxRecDepth 100000
open Go.RowKit
set_option linter.unusedVariables false
/-- How many go at once, n bytes being taken. -/
def batC : Int → List RM → Nat
  | _, [] => 0
  | n, m :: l => if 96 < n + bytM m then 0 else batC (n + bytM m) l + 1
def batL (l : List RM) : List RM := l.take (batC 0 l)
/-- Whether a place in the order lies between the pivots ahead of kid i and behind it. -/
def betw (ps : List Int) (i : Nat) (c : Int) : Bool := (decide (i = 0) || decide (ps.getD (i - 1) 0 ≤ c)) && (decide (ps.length ≤ i) || decide (c < ps.getD i 0))
def partL (l : List RM) (ps : List RK) (i : Nat) : List RM := if ps.length < i then [] else l.filter fun m => betw (ps.map code) i (cd m)
/-- Pivots that are right ones, and rise. -/
structure OkP (ps : List RK) : Prop where
  good : ∀ k ∈ ps, k.wf ∧ okB k = true
  asc : ps.Pairwise fun a b => code a < code b
/-- What lies ahead of kid i's part. -/
def belowL (l : List RM) (ps : List RK) (i : Nat) : List RM := if ps.length < i then l else if i = 0 then [] else l.filter fun m => decide (cd m < (ps.map code).getD (i - 1) 0)
theorem OkP.lt {ps : List RK} (h : OkP ps) {i j : Nat} (hij : i < j) (hj : j < ps.length) : (ps.map code).getD i 0 < (ps.map code).getD j 0 := by
  have hi : i < ps.length := by omega
  have := (List.pairwise_iff_getElem.1 h.asc) i j hi hj hij
  simpa [List.getD, hi, hj] using this
end Go.Proofs.YtmoaddbpfekdbaaGreat
/- Buffers by places: where a key stands, or would; what that is worth. No program text. -/
namespace Go.Proofs.YtmoaddbpfekdbaaGreat
set_option maxRecDepth 100000
set_option linter.unusedVariables false
/-- How many stand ahead of c. -/
def posL : List RM → Int → Nat
  | [], _ => 0
  | m :: l, c => if cd m < c then posL l c + 1 else 0
/-- Where kid i's part begins, and ends. -/
def loP (l : List RM) (ps : List RK) (i : Nat) : Nat := if i = 0 then 0 else posL l ((ps.map code).getD (i - 1) 0)
def hiP (l : List RM) (ps : List RK) (i : Nat) : Nat := if ps.length ≤ i then l.length else posL l ((ps.map code).getD i 0)
end Go.Proofs.YtmoaddbpfekdbaaGreat
/- Leaves as lists of entries: what is found, what messages make of them; a buffer's messages do what all that was added did. No program text. -/
namespace Go.Proofs.YtmoaddbpfekdbaaGreat
set_option maxRecDepth 100000
open Go.RowKit
set_option linter.unusedVariables false
/-- An entry. -/
structure RE where
  key : RK
  val : RV
  deriving DecidableEq, Inhabited
/-- Its cells. -/
def ec (e : RE) : List Value := kc e.key ++ vc e.val
abbrev ev (e : RE) : Value := .agg (ec e).toArray
structure RE.ok (e : RE) : Prop where
  wk : e.key.wf
  ok : okB e.key = true
  wv : e.val.wf
  ov : okV e.val = true
/-- An entry's place in the order. -/
def ce (e : RE) : Int := code e.key
structure OkE (l : List RE) : Prop where
  good : ∀ e ∈ l, e.ok
  asc : l.Pairwise fun a b => ce a < ce b
theorem OkE.nil : OkE [] := ⟨fun _ h => by simp at h, List.Pairwise.nil⟩
theorem OkE.tail {m : RE} {l : List RE} (h : OkE (m :: l)) : OkE l := ⟨fun x hx => h.good x (List.mem_cons_of_mem _ hx), (List.pairwise_cons.1 h.asc).2⟩
theorem OkE.head {m : RE} {l : List RE} (h : OkE (m :: l)) : m.ok := h.good m (by simp)
theorem OkE.lt {m : RE} {l : List RE} (h : OkE (m :: l)) : ∀ x ∈ l, ce m < ce x := (List.pairwise_cons.1 h.asc).1
theorem OkE.sub {l l' : List RE} (h : OkE l) (hs : l'.Sublist l) : OkE l' := ⟨fun x hx => h.good x (hs.subset hx), h.asc.sublist hs⟩
theorem OkE.cons {m : RE} {l : List RE} (hm : m.ok) (h : OkE l) (hl : ∀ x ∈ l, ce m < ce x) : OkE (m :: l) :=
  ⟨fun x hx => by
    rcases List.mem_cons.1 hx with rfl | hx
    · exact hm
    · exact h.good x hx, List.pairwise_cons.2 ⟨hl, h.asc⟩⟩
/-- The value of a key. -/
def findE : List RE → RK → Option RV
  | [], _ => none
  | x :: l, k => if x.key = k then some x.val else findE l k
theorem findE_none {l : List RE} {k : RK} : findE l k = none ↔ ∀ m ∈ l, m.key ≠ k := by
  induction l with
  | nil => simp [findE]
  | cons x l ih =>
    unfold findE
    by_cases h : x.key = k
    · simp [h]
    · rw [if_neg h, ih]
      simp [h]
theorem findE_some {l : List RE} {k : RK} {v : RV} (h : findE l k = some v) : ∃ e ∈ l, e.key = k ∧ e.val = v := by
  induction l with
  | nil => cases h
  | cons x l ih =>
    unfold findE at h
    by_cases hk : x.key = k
    · rw [if_pos hk] at h
      injection h with h
      exact ⟨x, by simp, hk, h⟩
    · rw [if_neg hk] at h
      obtain ⟨e, he, h1, h2⟩ := ih h
      exact ⟨e, List.mem_cons_of_mem _ he, h1, h2⟩
/-- With, or without, a value of a key. -/
def setE : List RE → RK → Option RV → List RE
  | [], k, some v => [⟨k, v⟩]
  | [], _, none => []
  | x :: l, k, o => if code x.key < code k then x :: setE l k o else if x.key = k then (match o with | some v => ⟨k, v⟩ :: l | none => l) else (match o with | some v => ⟨k, v⟩ :: x :: l | none => x :: l)
theorem setE_mem {l : List RE} {k : RK} {o : Option RV} {x : RE} (h : x ∈ setE l k o) : x ∈ l ∨ x.key = k := by
  induction l with
  | nil =>
    cases o with
    | none => simp [setE] at h
    | some v => simp [setE] at h; exact .inr (by rw [h])
  | cons y l ih =>
    unfold setE at h
    split at h
    · rcases List.mem_cons.1 h with rfl | h
      · exact .inl (by simp)
      · rcases ih h with h | h
        · exact .inl (List.mem_cons_of_mem _ h)
        · exact .inr h
    · split at h
      · cases o with
        | none => exact .inl (List.mem_cons_of_mem _ h)
        | some v =>
          rcases List.mem_cons.1 h with rfl | h
          · exact .inr rfl
          · exact .inl (List.mem_cons_of_mem _ h)
      · cases o with
        | none => exact .inl h
        | some v =>
          rcases List.mem_cons.1 h with rfl | h
          · exact .inr rfl
          · exact .inl h
theorem setE_ok {l : List RE} {k : RK} {o : Option RV} (h : OkE l) (wk : k.wf) (ok : okB k = true) (ho : ∀ v, o = some v → v.wf ∧ okV v = true) : OkE (setE l k o) := by
  induction l with
  | nil =>
    cases o with
    | none => exact OkE.nil
    | some v => exact OkE.cons ⟨wk, ok, (ho v rfl).1, (ho v rfl).2⟩ OkE.nil (by simp)
  | cons x l ih =>
    have hx := h.head
    unfold setE
    split
    · rename_i hlt
      refine OkE.cons hx (ih h.tail) fun y hy => ?_
      rcases setE_mem hy with hy | hy
      · exact h.lt y hy
      · unfold ce; rw [hy]; exact hlt
    · split
      · rename_i hk
        cases o with
        | none => exact h.tail
        | some v =>
          refine OkE.cons ⟨wk, ok, (ho v rfl).1, (ho v rfl).2⟩ h.tail fun y hy => ?_
          have h1 := h.lt y hy
          have h2 : ce x = code k := by unfold ce; rw [hk]
          show code k < ce y
          omega
      · rename_i h1 h2
        cases o with
        | none => exact h
        | some v =>
          have hne : code x.key ≠ code k := fun e => h2 (code_inj hx.wk wk (okB_len' hx.ok) (okB_len' ok) e)
          refine OkE.cons ⟨wk, ok, (ho v rfl).1, (ho v rfl).2⟩ h fun y hy => ?_
          show code k < ce y
          rcases List.mem_cons.1 hy with rfl | hy
          · unfold ce; omega
          · have := h.lt y hy
            unfold ce at *
            omega
/-- What a message makes of what is there. -/
def appO (m : RM) (o : Option RV) : Option RV := if appB m = true then some (appV (o.getD zeroV) o.isSome m) else none
/-- A leaf behind a message; behind many. -/
def putE (l : List RE) (m : RM) : List RE := setE l m.key (appO m (findE l m.key))
def allE (l : List RE) (ms : List RM) : List RE := ms.foldl putE l
theorem findE_ok {l : List RE} (h : OkE l) {k : RK} {v : RV} (hf : findE l k = some v) : v.wf ∧ okV v = true := by
  obtain ⟨e, he, _, hv⟩ := findE_some hf
  rw [← hv]
  exact ⟨(h.good e he).wv, (h.good e he).ov⟩
theorem putE_ok {l : List RE} {m : RM} (h : OkE l) (wm : m.wf) (om : okM m = true) : OkE (putE l m) := by
  refine setE_ok h wm.key (okM_key om) fun v hv => ?_
  unfold appO at hv
  split at hv
  · injection hv with hv
    rw [← hv]
    refine ⟨appV_wf ?_ wm, appV_ok om⟩
    cases hf : findE l m.key with
    | none => exact zeroV_wf
    | some u => exact (findE_ok h hf).1
  · cases hv
end Go.Proofs.YtmoaddbpfekdbaaGreat
/- The buffers, the leaves, the pivots by numbers (package 00 of the laws). No program text. -/
namespace Go.Proofs.YtmoaddbpfekdbaaGreat
set_option maxRecDepth 100000
open Go.RowKit
set_option linter.unusedVariables false
/-- The first j numbers as messages of a buffer, at most so many bytes. -/
def msgsJ (ns : List Int) (most : Int) : Nat → List RM
  | 0 => []
  | j + 1 => if bytL (addL (msgsJ ns most j) (lawM (ns.getD j 0) ((j : Int) + 1))) ≤ most then addL (msgsJ ns most j) (lawM (ns.getD j 0) ((j : Int) + 1)) else msgsJ ns most j
def msgsL (ns : List Int) (most : Int) : List RM := msgsJ ns most (min ns.length 60)
/-- The bytes of a leaf's entries. -/
def bytE (e : RE) : Int := 2 + e.key.n + e.val.n
def bytsE (l : List RE) : Int := (l.map bytE).sum
theorem bytsE_cons (m : RE) (l : List RE) : bytsE (m :: l) = bytE m + bytsE l := by simp [bytsE]
theorem bytsE_app (a b : List RE) : bytsE (a ++ b) = bytsE a + bytsE b := by simp [bytsE]
/-- The message by which the leaf by numbers puts an entry. -/
def lawP (v : Int) : RM := ⟨1, 0, lawK ((pl v : Nat) : Int), lawV ((pl v / 16 : Nat) : Int), 0⟩
theorem lawP_wf (v : Int) : (lawP v).wf := putM_wf (lawK_wf _) (lawV_wf _) (by simp [Us64])
theorem lawP_ok (v : Int) : okM (lawP v) = true := putM_ok (lawK_ok _) (lawV_ok _)
def entsJ (ns : List Int) (most : Int) : Nat → List RE
  | 0 => []
  | j + 1 => if bytsE (putE (entsJ ns most j) (lawP (ns.getD j 0))) ≤ most then putE (entsJ ns most j) (lawP (ns.getD j 0)) else entsJ ns most j
theorem entsJ_ok (ns : List Int) (most : Int) : ∀ j, OkE (entsJ ns most j)
  | 0 => OkE.nil
  | j + 1 => by
    unfold entsJ
    split
    · exact putE_ok (entsJ_ok ns most j) (lawP_wf _) (lawP_ok _)
    · exact entsJ_ok ns most j
theorem setE_length (l : List RE) (k : RK) (o : Option RV) : (setE l k o).length ≤ l.length + 1 := by
  induction l with
  | nil => cases o <;> simp [setE]
  | cons x l ih =>
    unfold setE
    split
    · simp; omega
    · split
      · cases o <;> simp <;> omega
      · cases o <;> simp
theorem entsJ_len (ns : List Int) (most : Int) : ∀ j, (entsJ ns most j).length ≤ j
  | 0 => Nat.le_refl _
  | j + 1 => by
    have := entsJ_len ns most j
    unfold entsJ
    split
    · have := setE_length (entsJ ns most j) (lawP (ns.getD j 0)).key (appO (lawP (ns.getD j 0)) (findE (entsJ ns most j) (lawP (ns.getD j 0)).key))
      unfold putE
      omega
    · omega
def entsL (ns : List Int) (most : Int) : List RE := entsJ ns most (min ns.length 80)
theorem entsL_ok (ns : List Int) (most : Int) : OkE (entsL ns most) := entsJ_ok _ _ _
theorem entsL_len (ns : List Int) (most : Int) : (entsL ns most).length ≤ 80 := Nat.le_trans (entsJ_len _ _ _) (Nat.min_le_right _ _)
/-- A key put where it belongs among keys that rise. -/
def insP : List RK → RK → List RK
  | [], k => [k]
  | x :: l, k => if code x < code k then x :: insP l k else if x = k then x :: l else k :: x :: l
theorem OkP.nil : OkP [] := ⟨fun _ h => by simp at h, List.Pairwise.nil⟩
theorem OkP.tail {k : RK} {l : List RK} (h : OkP (k :: l)) : OkP l := ⟨fun x hx => h.good x (List.mem_cons_of_mem _ hx), (List.pairwise_cons.1 h.asc).2⟩
/-- The first j numbers as pivots, at most so many. -/
def pivsJ (ns : List Int) (most : Int) : Nat → List RK
  | 0 => []
  | j + 1 => if ((insP (pivsJ ns most j) (lawK (ns.getD j 0))).length : Int) ≤ most then insP (pivsJ ns most j) (lawK (ns.getD j 0)) else pivsJ ns most j
def pivsL (ns : List Int) (most : Int) : List RK := pivsJ ns most (min ns.length 20)
end Go.Proofs.YtmoaddbpfekdbaaGreat
/- Leaves as lists of entries: messages composed, or one by one; halves. No program text. -/
namespace Go.Proofs.YtmoaddbpfekdbaaGreat
set_option maxRecDepth 100000
open Go.RowKit
set_option linter.unusedVariables false
/-- How many more go to the first half. -/
def splF (all : Int) : Int → List RE → Nat
  | _, [] => 0
  | _, [_] => 0
  | s, x :: y :: l => if 2 * s < all then splF all (s + bytE x) (y :: l) + 1 else 0
/-- Where a leaf is split. -/
def splE : List RE → Nat
  | [] => 0
  | x :: l => splF (bytsE (x :: l)) (bytE x) l + 1
end Go.Proofs.YtmoaddbpfekdbaaGreat
