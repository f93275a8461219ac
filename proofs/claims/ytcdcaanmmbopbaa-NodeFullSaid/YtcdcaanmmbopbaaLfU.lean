/- What the functions of buffers do to rows of the call's own, in few words: for the walks of laws. -/
import Derived.Test.YtcdcaanmmbopbaaBufT
import Derived.Test.YtcdcaanmmbopbaaLfM
namespace Go.Proofs.Ytcdcaanmmbopbaa
set_option maxRecDepth 100000
open Go.RowKit
set_option linter.unusedVariables false
attribute [local go_sem ↓] key_ld msg_ld msg_st
theorem getM_wf {o : Option RM} (h : ∀ m, o = some m → m.wf) : (o.getD zeroM).wf := by
  cases o with
  | none => exact zeroM_wf
  | some m => exact h m rfl
theorem msg_nself {a : RM} (ha : a.wf) (W : World) : (binOp .neq 48 (.agg (mc a).toArray) (.agg (mc a).toArray)).run Try.prog W = .ok (.bool false) W := by
  have h := msg_neq ha ha W
  rwa [decide_eq_true rfl] at h
section
variable {W : World} {A A2 : Option Addr} {c c2 : Nat} {l l2 : List RM} {m : RM} {k : RK}
theorem qmsgs {ns : List Int} {most : Int} {n B : Nat} (hl : Has W B A (ns.map (Value.int .i64))) (hB : B ≤ W.heap.size) (hn : ns.length = n) (hns : ∀ z ∈ ns, Is64 z) (hmost : 0 ≤ most ∧ most ≤ 1000000) (hnm : n ≤ maxLen) :
    Calls Try.prog 35 #[.slice A n c, .int .i64 most] W fun e w' => ∃ A' c', e = .returned (.slice A' (msgsL ns most).length c') ∧ Hid (OwnM w' 0 A' c' (msgsL ns most)) ∧ Fr W w' :=
  (law_msgs hl hB hn hns hmost hnm).mono fun e w' h => by
    obtain ⟨A', c', e1, h1, h2⟩ := h
    exact ⟨A', c', e1, keep (h1.mono (Nat.zero_le _)), h2⟩
theorem qradd (ho : Hid (OwnM W 0 A c l)) (hs : l.length ≤ 100000) (ol : OkL l) (wm : m.wf) (om : okM m = true) :
    Calls Try.prog 63 #[.slice A l.length c, mm m] W fun e w' => ∃ A' c', e = .returned (.slice A' (addL l m).length c') ∧ Hid (OwnM w' 0 A' c' (addL l m)) ∧ Fr W w' :=
  (ref_add ho.out.has (Nat.le_refl _) rfl hs ol wm om).mono fun e w' h => by
    obtain ⟨A', c', e1, h1, h2⟩ := h
    exact ⟨A', c', e1, keep (h1.mono (Nat.zero_le _)), h2⟩
theorem qmrcheck (ho : Hid (OwnM W 0 A c l)) (hs : l.length ≤ 100000) (ol : OkL l) :
    Calls Try.prog 55 #[.slice A l.length c] W fun e w' => e = .returned (.bool true) ∧ Fr W w' :=
  (ref_check6 ho.out.has (Nat.le_refl _) rfl hs ol.good.wfm).mono fun e w' h => by
    obtain ⟨⟨b, e1, hb⟩, h2⟩ := h
    rw [hb.2 ol] at e1
    exact ⟨e1, h2⟩
theorem qmcheck (ho : Hid (OwnM W 0 A c l)) (hs : l.length ≤ 100000) (ol : OkL l) :
    Calls Try.prog 44 #[.slice A l.length c] W fun e w' => e = .returned (.bool true) ∧ Fr W w' :=
  (bcheck_at ho.out.has (Nat.le_refl _) rfl hs ol.good.wfm).mono fun e w' h => by
    obtain ⟨⟨b, e1, hb⟩, h2⟩ := h
    rw [hb.2 ol] at e1
    exact ⟨e1, h2⟩
theorem qmbytes (ho : Hid (OwnM W 0 A c l)) (hs : l.length ≤ 100000) (ol : OkL l) :
    Calls Try.prog 37 #[.slice A l.length c] W fun e w' => e = .returned (.int .i64 (bytL l)) ∧ Fr W w' :=
  bytes_at ho.out.has (Nat.le_refl _) rfl hs ol.good.wfm
theorem qmrbytes (ho : Hid (OwnM W 0 A c l)) (hs : l.length ≤ 100000) (ol : OkL l) :
    Calls Try.prog 27 #[.slice A l.length c] W fun e w' => e = .returned (.int .i64 (bytL l)) ∧ Fr W w' :=
  ref_bytes ho.out.has (Nat.le_refl _) rfl hs ol.good.wfm
end
/-- What stands for m's key, m added. -/
def wantM (o : Option RM) (m : RM) : RM := match o with | some x => compM x m | none => m
theorem find_added {l : List RM} {m : RM} (ol : OkL l) (wm : m.wf) (om : okM m = true) : findL (addL l m) m.key = some (wantM (findL l m.key) m) := by
  rw [findL_add ol wm om, if_pos rfl]
  cases findL l m.key <;> rfl
theorem find_other {l : List RM} {m : RM} {k : RK} (ol : OkL l) (wm : m.wf) (om : okM m = true) (h : ¬ k = m.key) : findL (addL l m) k = findL l k := by
  rw [findL_add ol wm om, if_neg h]
end Go.Proofs.Ytcdcaanmmbopbaa
/- Buffers in memory: 'All' of the document. -/
namespace Go.Proofs.Ytcdcaanmmbopbaa
set_option maxRecDepth 100000
open Go.RowKit
set_option linter.unusedVariables false
attribute [local go_sem ↓] key_ld msg_ld msg_st
/-- A row from place p on. -/
theorem has_low {W : World} {B : Nat} {A : Option Addr} {c p : Nat} {l : List RM} (h : Has W B A (rows mc l)) (wl : WfM l) (hc : l.length ≤ c) (hp : p ≤ l.length) : Has W B (lowM A c p) (rows mc (l.drop p)) := by
  unfold lowM
  by_cases e : c = p
  · rw [if_pos e, List.drop_eq_nil_of_le (by omega)]
    exact Has.nil
  · rw [if_neg e]
    cases l with
    | nil => simp; exact Has.nil
    | cons x l =>
      obtain ⟨b, off, rfl, -, -⟩ := has_rows h wl.wid (by decide) (by simp)
      rw [Option.map_some, Addr.add_lit]
      exact has_rows_drop h wl.wid p
end Go.Proofs.Ytcdcaanmmbopbaa
