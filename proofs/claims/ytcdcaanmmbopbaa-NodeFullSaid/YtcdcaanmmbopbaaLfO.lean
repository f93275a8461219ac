/- 'awake' of layer 7; 'same'. -/
import Derived.Test.YtcdcaanmmbopbaaLfL
import Derived.Test.YtcdcaanmmbopbaaLfM
import Derived.Test.YtcdcaanmmbopbaaLfA
import Derived.Test.YtcdcaanmmbopbaaLfU
namespace Go.Proofs.Ytcdcaanmmbopbaa
set_option maxRecDepth 100000
open Go.RowKit
set_option linter.unusedVariables false
attribute [local go_sem ↓] key_ld ent_ld val_ld msg_ld msg_st
theorem aw_len : (entsL [0, 8, 16] 2000).length = 3 := by decide +kernel
theorem aw_put : (putE [] (lawM 0 1)).length = 1 := by decide +kernel
theorem aw_all : (allE [] [lawM 0 1]).length = 1 := by decide +kernel
theorem findE_of_mem {l : List RE} (h : OkE l) {m : RE} (hm : m ∈ l) : findE l m.key = some m.val := by
  induction l with
  | nil => simp at hm
  | cons x l ih =>
    rw [findE]
    rcases List.mem_cons.1 hm with rfl | hm'
    · rw [if_pos rfl]
    · have hx := h.head
      have hm2 := h.good m hm
      have hlt := h.lt m hm'
      rw [if_neg (fun e => by have := (ce_key hx hm2).2 e; omega)]
      exact ih h.tail hm'
end Go.Proofs.Ytcdcaanmmbopbaa
/- Entries that came in. -/
namespace Go.Proofs.Ytcdcaanmmbopbaa
set_option maxRecDepth 100000
open Go.RowKit Go.ChangeShapes Go.WideShapes Go.Deep
set_option linter.unusedVariables false
section
variable {H : Type} {enc : TypeId × Value → H} {w : World} {base : Nat} {spare : Nat → Bool} {held : Bool}
/-- What reads as an entry is 26 cells. -/
theorem trod_ent {fuel : Nat} {cs : List Value} {x : DataW H × List MemPlace} (h : DataW.trod enc Try.prog w base spare held fuel 45 cs = some x) : ∃ m : RE, cs = ec m ∧ m.wf := by
  obtain ⟨xs, n, _, _, hlen, hxs, hf⟩ := DataW.trod_struct Try.underlying45 h
  rw [ent_cells] at hlen
  match xs, hxs with
  | [y2, y3], _ =>
    have h2 : DataW.trod enc Try.prog w base spare held n 40 ((cs.drop 0).take (Try.prog.cellsOf 40)) = some y2 := hf 0 _ rfl
    have h3 : DataW.trod enc Try.prog w base spare held n 43 ((cs.drop 9).take (Try.prog.cellsOf 43)) = some y3 := hf 1 _ rfl
    rw [key_cells, List.drop_zero] at h2
    rw [val_cells] at h3
    obtain ⟨k, e2, wk⟩ := trod_key h2
    obtain ⟨v, e3, wv⟩ := trod_val h3
    refine ⟨⟨k, v⟩, ?_, ⟨wk, wv⟩⟩
    have e4 : (cs.drop 9).take 17 = cs.drop 9 := List.take_of_length_le (by simp [hlen])
    rw [e4] at e3
    have e5 : cs = cs.take 9 ++ cs.drop 9 := (List.take_append_drop 9 cs).symm
    rw [e5, e2, e3]
    rfl
/-- A slice of entries that came in. -/
theorem open_ents {r : Reach} {b0 : Nat} {v : Value} {d : DataW H} {p : List MemPlace} (hv : Value.okWide Try.prog w r b0 23 v) (h : DataW.Trod enc Try.prog w 0 spare held 23 v d p) :
    ∃ (A : Option Addr) (n c : Nat) (ks : List RE), v = .slice A n c ∧ ks.length = n ∧ n ≤ c ∧ n ≤ maxLen ∧ WfE ks ∧ Has w w.heap.size A (rows ec ks) := by
  obtain ⟨A, n, c, rfl⟩ := okWide_slice Try.underlying23 hv
  obtain ⟨fuel, hf⟩ := h
  rcases open_slice Try.underlying23 hf with ⟨hcs, _⟩ | ⟨a, len, cap, m, q, D, Pl, hcs, _, hl, hcm, hm, _, hi⟩
  · simp [Value.cells] at hcs
    obtain ⟨rfl, rfl, rfl⟩ := hcs
    exact ⟨none, 0, 0, [], rfl, rfl, Nat.le_refl _, Nat.zero_le _, by simp [WfE], Has.nil⟩
  · simp [Value.cells] at hcs
    obtain ⟨rfl, rfl, rfl⟩ := hcs
    have hmm : n ≤ m := by rw [hm]; split <;> omega
    have hk : ∀ i, i < n → ∃ k : RE, k.wf ∧ ∀ j v, (ec k)[j]? = some v → w.cell? (a.add (i * 26 + j)) = some v := fun i hin => by
      obtain ⟨cs', hc, ht⟩ := hi i (by omega)
      rw [ent_cells] at hc
      obtain ⟨k, rfl, wk⟩ := trod_ent ht
      obtain ⟨_, _, hat⟩ := World.cells?_some hc
      refine ⟨k, wk, fun j v hj => ?_⟩
      have hj9 : j < 26 := by rw [← ec_len wk.val.hl]; exact (List.getElem?_eq_some_iff.1 hj).1
      have := hat j hj9
      rw [Go.Deep.add_add] at this
      rw [this]; exact hj
    have hall : ∀ l, l ≤ n → ∃ ks : List RE, ks.length = l ∧ WfE ks ∧ ∀ i k, ks[i]? = some k → ∀ j v, (ec k)[j]? = some v → w.cell? (a.add (i * 26 + j)) = some v := by
      intro l
      induction l with
      | zero => intro _; exact ⟨[], rfl, by simp [WfE], fun i k h => by simp at h⟩
      | succ l ih =>
        intro hl2
        obtain ⟨ks, h1, h2, h3⟩ := ih (by omega)
        obtain ⟨k, wk, hkc⟩ := hk l (by omega)
        refine ⟨ks ++ [k], by simp [h1], fun x hx => ?_, fun i x hx => ?_⟩
        · rcases List.mem_append.1 hx with e | e
          · exact h2 x e
          · simp at e; rw [e]; exact wk
        · by_cases e : i < ks.length
          · rw [List.getElem?_append_left e] at hx; exact h3 i x hx
          · have hi2 := (List.getElem?_eq_some_iff.1 hx).1
            simp at hi2
            have e2 : i = ks.length := by omega
            subst e2
            simp at hx
            subst hx
            rw [h1]; exact hkc
    obtain ⟨ks, h1, h2, h3⟩ := hall n (Nat.le_refl _)
    refine ⟨some a, n, c, ks, rfl, h1, hl, Nat.le_trans hl hcm, h2, fun j u hu => ?_⟩
    have hj : j < (rows ec ks).length := (List.getElem?_eq_some_iff.1 hu).1
    rw [rows_len h2.wid] at hj
    obtain ⟨k, hk⟩ : ∃ k, ks[j / 26]? = some k := ⟨ks[j / 26]'(by omega), List.getElem?_eq_getElem _⟩
    have hg := rows_get h2.wid hk (j % 26) (Nat.mod_lt _ (by omega))
    rw [show j / 26 * 26 + j % 26 = j from by omega, hu] at hg
    have hcell := h3 (j / 26) k hk (j % 26) u hg.symm
    rw [show j / 26 * 26 + j % 26 = j from by omega] at hcell
    have hs : a.spot = none := by
      obtain ⟨k1, hk1⟩ : ∃ k1, ks[0]? = some k1 := ⟨ks[0]'(by omega), List.getElem?_eq_getElem _⟩
      have h0 := h3 0 k1 hk1 0 _ rfl
      exact World.cell?_spot (by simpa [Addr.add] using h0)
    obtain ⟨b, off, sp⟩ := a
    simp only at hs
    subst hs
    rw [Addr.add_lit] at hcell
    exact ⟨b, off, rfl, World.block_lt_of_cell? w _ hcell, hcell⟩
end
end Go.Proofs.Ytcdcaanmmbopbaa
/- The laws of layer 7, walked: what they have in common. -/
namespace Go.Proofs.Ytcdcaanmmbopbaa
set_option maxRecDepth 100000
open Go.RowKit
set_option linter.unusedVariables false
theorem bool_iff {a b : Bool} {p : Prop} (ha : a = true ↔ p) (hb : b = true ↔ p) : a = b := by
  cases a <;> cases b <;> simp_all
theorem ents_small {ns : List Int} {most : Int} : (entsL ns most).length ≤ 80 := entsL_len ns most
end Go.Proofs.Ytcdcaanmmbopbaa
/- What the functions of entries do to rows of the call's own, in few words: for the walks of laws. -/
namespace Go.Proofs.Ytcdcaanmmbopbaa
set_option maxRecDepth 100000
open Go.RowKit
set_option linter.unusedVariables false
section
variable {W : World} {A A2 : Option Addr} {c c2 : Nat} {l l2 : List RE} {m : RM} {k : RK} {ms : List RM}
theorem qrput (ho : Hid (OwnE W 0 A c l)) (hs : l.length ≤ 100000) (ol : OkE l) (wm : m.wf) (om : okM m = true) :
    Calls Try.prog 30 #[.slice A l.length c, mm m] W fun e w' => ∃ A' c', e = .returned (.slice A' (putE l m).length c') ∧ Hid (OwnE w' 0 A' c' (putE l m)) ∧ Fr W w' :=
  (ref_eput ho.out.has (Nat.le_refl _) rfl hs ol wm om).mono fun e w' h => by
    obtain ⟨A', c', e1, h1, h2⟩ := h
    exact ⟨A', c', e1, keep (h1.mono (Nat.zero_le _)), h2⟩
theorem qrfind (ho : Hid (OwnE W 0 A c l)) (hs : l.length ≤ 100000) (ol : OkE l) (wk : k.wf) :
    Calls Try.prog 58 #[.slice A l.length c, kv k] W fun e w' => e = .returned (findEV (findE l k)) ∧ Fr W w' :=
  ref_efind ho.out.has (Nat.le_refl _) rfl hs ol.wfe wk
theorem qcheck (ho : Hid (OwnE W 0 A c l)) (hs : l.length ≤ 100000) (ol : OkE l) :
    Calls Try.prog 42 #[.slice A l.length c] W fun e w' => e = .returned (.bool true) ∧ Fr W w' :=
  (echeck_at ho.out.has (Nat.le_refl _) rfl hs ol.wfe).mono fun e w' h => by
    obtain ⟨⟨b, e1, hb⟩, h2⟩ := h
    rw [hb.2 ol] at e1
    exact ⟨e1, h2⟩
theorem qrcheck (ho : Hid (OwnE W 0 A c l)) (hs : l.length ≤ 100000) (ol : OkE l) :
    Calls Try.prog 53 #[.slice A l.length c] W fun e w' => e = .returned (.bool true) ∧ Fr W w' :=
  (ref_echeck ho.out.has (Nat.le_refl _) rfl hs ol.wfe).mono fun e w' h => by
    obtain ⟨⟨b, e1, hb⟩, h2⟩ := h
    rw [hb.2 ol] at e1
    exact ⟨e1, h2⟩
theorem qbytes (ho : Hid (OwnE W 0 A c l)) (hs : l.length ≤ 100000) (ol : OkE l) :
    Calls Try.prog 40 #[.slice A l.length c] W fun e w' => e = .returned (.int .i64 (bytsE l)) ∧ Fr W w' :=
  ebytes_at ho.out.has (Nat.le_refl _) rfl hs ol.wfe ol.sm
theorem qrbytes (ho : Hid (OwnE W 0 A c l)) (hs : l.length ≤ 100000) (ol : OkE l) :
    Calls Try.prog 41 #[.slice A l.length c] W fun e w' => e = .returned (.int .i64 (bytsE l)) ∧ Fr W w' :=
  ref_ebytes ho.out.has (Nat.le_refl _) rfl hs ol.wfe ol.sm
theorem qents {ns : List Int} {most : Int} {n B : Nat} (hl : Has W B A (ns.map (Value.int .i64))) (hB : B ≤ W.heap.size) (hn : ns.length = n) (hns : ∀ z ∈ ns, Is64 z) (hmost : 0 ≤ most ∧ most ≤ 1000000) (hnm : n ≤ maxLen) :
    Calls Try.prog 33 #[.slice A n c, .int .i64 most] W fun e w' => ∃ A' c', e = .returned (.slice A' (entsL ns most).length c') ∧ Hid (OwnE w' 0 A' c' (entsL ns most)) ∧ Fr W w' :=
  (law_ents hl hB hn hns hmost hnm).mono fun e w' h => by
    obtain ⟨A', c', e1, h1, h2⟩ := h
    exact ⟨A', c', e1, keep (h1.mono (Nat.zero_le _)), h2⟩
end
theorem appO_getD (m : RM) (o : Option RV) : (appO m o).getD zeroV = appV (o.getD zeroV) o.isSome m := by
  unfold appO
  by_cases h : appB m = true
  · rw [if_pos h]; rfl
  · rw [if_neg h]
    have hk2 : m.kind = 2 := by
      unfold appB at h
      simpa using h
    simp [appV, hk2]
theorem appO_isSome (m : RM) (o : Option RV) : (appO m o).isSome = appB m := by
  unfold appO
  by_cases h : appB m = true
  · rw [if_pos h, h]; rfl
  · rw [if_neg h, Bool.eq_false_iff.2 h]; rfl
theorem getV_wf {o : Option RV} (h : ∀ v, o = some v → v.wf) : (o.getD zeroV).wf := by
  cases o with
  | none => exact zeroV_wf
  | some v => exact h v rfl
end Go.Proofs.Ytcdcaanmmbopbaa
/- 'Split' of both, with one answer for all leaves; reads of the rows of laws. -/
namespace Go.Proofs.Ytcdcaanmmbopbaa
set_option maxRecDepth 100000
open Go.RowKit
set_option linter.unusedVariables false
def spl1 (l : List RE) : List RE := if l.length < 2 then [] else l.take (splE l)
def spl2 (l : List RE) : List RE := if l.length < 2 then [] else l.drop (splE l)
def splK (l : List RE) : RK := if l.length < 2 then zeroK else ((l.drop (splE l)).headD zeroE).key
def splB (l : List RE) : Bool := if l.length < 2 then false else true
theorem spl1_ok {l : List RE} (h : OkE l) : OkE (spl1 l) := by
  unfold spl1
  split
  · exact OkE.nil
  · exact h.sub (List.take_sublist _ _)
theorem spl2_ok {l : List RE} (h : OkE l) : OkE (spl2 l) := by
  unfold spl2
  split
  · exact OkE.nil
  · exact h.sub (List.drop_sublist _ _)
theorem spl_le (l : List RE) : (spl1 l).length ≤ l.length ∧ (spl2 l).length ≤ l.length := by
  unfold spl1 spl2
  split
  · simp
  · simp only [List.length_take, List.length_drop]; omega
theorem splK_at {l : List RE} {p : RE} (h : ¬ l.length < 2) (hp : l[splE l]? = some p) : splK l = p.key := by
  unfold splK
  rw [if_neg h]
  obtain ⟨hj, e⟩ := List.getElem?_eq_some_iff.1 hp
  rw [List.drop_eq_getElem_cons hj, e]
  rfl
theorem splK_wf {l : List RE} (h : OkE l) : (splK l).wf := by
  by_cases h2 : l.length < 2
  · unfold splK
    rw [if_pos h2]
    exact zeroK_wf
  · have hb := splE_bd (l := l) (by omega)
    have hp : l[splE l]? = some (l[splE l]'hb.2) := List.getElem?_eq_getElem _
    rw [splK_at h2 hp]
    exact (h.good _ (emem_at hp)).wk
section
variable {W : World} {A A2 : Option Addr} {c c2 : Nat} {l : List RE}
end
theorem val_nself {v : RV} (wv : v.wf) (W : World) : (binOp .neq 43 (.agg (vc v).toArray) (.agg (vc v).toArray)).run Try.prog W = .ok (.bool false) W := by
  have h := val_neq wv wv W
  rwa [decide_eq_true rfl] at h
end Go.Proofs.Ytcdcaanmmbopbaa
