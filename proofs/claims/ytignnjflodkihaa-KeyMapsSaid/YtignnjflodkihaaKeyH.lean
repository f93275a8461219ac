/- What the functions of layer 3 come to, eight: a set of keys, how many kinds there are. -/
import Derived.Test.YtignnjflodkihaaKeyH0
namespace Go.Proofs.Ytignnjflodkihaa
open Go.RowKit Go.Maps
set_option linter.unusedVariables false

def U : DataW Unit := .agg []
/-- The set of keys, as a map that reads. -/
def setD (ks : List RK) : DataW Unit := setOf U (ks.map klit)
theorem setD_snoc (ks : List RK) (k : RK) : setD (ks ++ [k]) = (setD ks).put (klit k) U := by
  unfold setD; rw [List.map_append]; exact setOf_snoc _ _ _
theorem setD_nil : setD [] = .map [] := rfl
def WfAll (ks : List RK) : Prop := ∀ k ∈ ks, k.wf
theorem klit_is (k : RK) : WideAt.IsKeyLit (klit k) := trivial
theorem klits_are (ks : List RK) : ∀ x ∈ ks.map klit, WideAt.IsKeyLit x := by
  intro x hx
  obtain ⟨k, _, rfl⟩ := List.mem_map.1 hx
  exact klit_is k
theorem take_snoc {α : Type} {l : List α} {j : Nat} {x : α} (h : l[j]? = some x) : l.take (j + 1) = l.take j ++ [x] := by
  rw [List.take_add_one, h]; rfl
/-- A key that is there. -/
theorem has_set {ks : List RK} (hw : WfAll ks) {k : RK} (hk : k.wf) : has (setD ks) (klit k) = decide (k ∈ ks) := by
  unfold setD
  rw [has_setOf _ _ _ (klits_are ks), Bool.eq_iff_iff, List.any_eq_true, decide_eq_true_iff]
  constructor
  · rintro ⟨x, hx, hs⟩
    obtain ⟨k', hk', rfl⟩ := List.mem_map.1 hx
    rw [← klit_inj (hw k' hk') hk (WideAt.sameKey_eq hs)]
    exact hk'
  · intro h
    exact ⟨klit k, List.mem_map.2 ⟨k, h, rfl⟩, WideAt.sameKey_self (klit_is k)⟩
theorem has_set_inv {ks : List RK} {kl : Lit} (h : has (setD ks) kl = true) : ∃ k ∈ ks, kl = klit k := by
  unfold setD at h
  rw [has_setOf _ _ _ (klits_are ks), List.any_eq_true] at h
  obtain ⟨x, hx, hs⟩ := h
  obtain ⟨k', hk', rfl⟩ := List.mem_map.1 hx
  exact ⟨k', hk', (WideAt.sameKey_eq hs).symm⟩
/-- A key that is not yet there goes to the end. -/
def addK (acc : List RK) (k : RK) : List RK := if k ∈ acc then acc else acc ++ [k]
/-- The different ones. -/
def kinds (ks : List RK) : List RK := ks.foldl addK []
theorem kinds_snoc (ks : List RK) (k : RK) : kinds (ks ++ [k]) = addK (kinds ks) k := by simp [kinds, List.foldl_append]
theorem mem_fold (k : RK) : ∀ (ks acc : List RK), k ∈ ks.foldl addK acc ↔ k ∈ acc ∨ k ∈ ks
  | [], acc => by simp
  | x :: ks, acc => by
    rw [List.foldl_cons, mem_fold k ks, addK]
    split
    · simp; constructor
      · rintro (h | h)
        · exact .inl h
        · exact .inr (.inr h)
      · rintro (h | rfl | h)
        · exact .inl h
        · exact .inl (by assumption)
        · exact .inr h
    · simp [or_assoc]
theorem mem_kinds (k : RK) (ks : List RK) : k ∈ kinds ks ↔ k ∈ ks := by unfold kinds; rw [mem_fold]; simp
theorem kinds_lits : ∀ (ks acc : List RK), WfAll ks → WfAll acc → (ks.map klit).foldl addKey (acc.map klit) = (ks.foldl addK acc).map klit
  | [], acc, _, _ => rfl
  | x :: ks, acc, h, ha => by
    have hx : x.wf := h x (by simp)
    have e : addKey (acc.map klit) (klit x) = (addK acc x).map klit := by
      unfold addKey addK
      have : ((acc.map klit).any fun y => y.sameKey (klit x)) = decide (x ∈ acc) := by
        rw [Bool.eq_iff_iff, List.any_eq_true, decide_eq_true_iff]
        constructor
        · rintro ⟨y, hy, hs⟩
          obtain ⟨k', hk', rfl⟩ := List.mem_map.1 hy
          rw [← klit_inj (ha k' hk') hx (WideAt.sameKey_eq hs)]
          exact hk'
        · intro hm
          exact ⟨klit x, List.mem_map.2 ⟨x, hm, rfl⟩, WideAt.sameKey_self (klit_is x)⟩
      rw [this]
      by_cases hm : x ∈ acc <;> simp [hm]
    rw [List.map_cons, List.foldl_cons, List.foldl_cons, e]
    exact kinds_lits ks (addK acc x) (fun k hk => h k (by simp [hk])) (fun k hk => by
      unfold addK at hk
      split at hk
      · exact ha k hk
      · rcases List.mem_append.1 hk with h1 | h1
        · exact ha k h1
        · simp at h1; rw [h1]; exact hx)
theorem size_set {ks : List RK} (h : WfAll ks) : Maps.size (setD ks) = (kinds ks).length := by
  unfold setD kinds
  rw [size_setOf _ _ (klits_are ks)]
  have := kinds_lits ks [] h (fun _ hk => by simp at hk)
  rw [show ([] : List Lit) = ([] : List RK).map klit from rfl, this, List.length_map]
theorem kinds_le (ks : List RK) : (kinds ks).length ≤ ks.length := by
  have h : ∀ (ks acc : List RK), (ks.foldl addK acc).length ≤ acc.length + ks.length := by
    intro ks
    induction ks with
    | nil => intro acc; simp
    | cons x ks ih =>
      intro acc
      have := ih (addK acc x)
      have h2 : (addK acc x).length ≤ acc.length + 1 := by unfold addK; split <;> simp
      simp only [List.foldl_cons, List.length_cons]
      omega
  have := h ks []
  unfold kinds
  simpa using this
/-- What 'set' hands back. -/
def SetOut (w : World) (ks : List RK) (e : Ending) (w' : World) : Prop := ∃ b n, e = .returned (.map (some b)) ∧ w.heap.size ≤ b ∧ n ≤ ks.length ∧ w'.ownsMap Try.prog 30 unitElem b n (setD ks) ∧ Fr w w'
set_option maxRecDepth 100000 in
set_option maxHeartbeats 1000000 in
theorem key_set (A : Option Addr) (n c : Nat) (ks : List RK) (w : World) (hl : ks.length = n) (hn : n ≤ 1000000) (hw : WfAll ks) (hr : Has w w.heap.size A (flat ks)) :
    Calls Try.prog 30 #[.slice A n c] w (SetOut w ks) := by
  have hmm := @run_makeMap Try.prog
  have Hl := keep hl
  clear hl
  go_enter Try.func30, Try.ntmps30
  go_wp2_with fail
  go_loopg [9] n (fun g i wr => ∃ j : Nat, j + g = n ∧ i = .int .i64 j ∧ wr.ownsMap Try.prog 30 unitElem w.heap.size j (setD (ks.take j)) ∧ Fr w wr)
  case atStart => exact ⟨0, by omega, rfl, by rw [List.take_zero, setD_nil]; exact World.ownsMap_made _ _ _ _, fr_new (fr_refl w) _⟩
  case round =>
    obtain ⟨j, hj, rfl, hown, hF⟩ := hrel
    have Hj := keep hj
    by_cases hlt : j < n
    · obtain ⟨k, hk⟩ : ∃ k, ks[j]? = some k := ⟨ks[j]'(by have := Hl.out; omega), List.getElem?_eq_getElem _⟩
      have wk : k.wf := hw k (List.mem_of_getElem? hk)
      obtain ⟨b, off, rfl, hb, hka⟩ := hask_at hr hk
      have hka' := hka.below hF hb
      have Ht := keep (take_snoc hk)
      have Hs := keep (setD_snoc (ks.take j) k)
      clear hj hk
      go_wp2_with (first
        | (refine wpList_load_key rfl (.tmp 11) rfl b (off + j * 9) k rfl hka' ?_)
        | (at_mapUpdate; refine wpList_mapUpdate_own _ rfl _ _ _ 64 rfl 30 74 key_keyed Try.underlying64 unitElem w.heap.size j _ rfl (hown.alloc _) (by unfold maxLen; omega) (kv k) (.agg #[]) _ rfl rfl (key_of k wk) _ [] unitElem_mk ?_; intro w1 hown1 hgrow1)
        | fail)
      go_roundg (gk - 1)
      case measure => have := Hj.out; omega
      case rel => exact ⟨j + 1, by have := Hj.out; omega, by go_num, by rw [Ht.out, Hs.out]; exact hown1, (fr_new hF _).grown hgrow1 (by have := hF.size; simp; omega) (fun q hq => by cases hq; exact Nat.le_refl _)⟩
    · obtain rfl : j = n := by omega
      have Hx := keep (show ks.take j = ks from by rw [← Hl.out, List.take_length])
      have Hn := keep (show j ≤ ks.length from by rw [Hl.out]; exact Nat.le_refl _)
      clear hj
      go_wp2_with fail
      go_ret
      exact ⟨w.heap.size, j, rfl, Nat.le_refl _, Hn.out, by rw [Hx.out] at hown; exact hown, hF⟩
theorem key_set_at {w0 : World} {A : Option Addr} {n : Nat} {ks : List RK} (c : Nat) (hr : Has w0 w0.heap.size A (flat ks)) {w : World} (hb : Fr w0 w) (hl : ks.length = n) (hn : n ≤ 1000000) (hw : WfAll ks) :
    Calls Try.prog 30 #[.slice A n c] w (SetOut w ks) := key_set A n c ks w hl hn hw ((hr.below hb).mono hb.size)
set_option maxRecDepth 100000 in
set_option maxHeartbeats 1000000 in
theorem key_kinds (A : Option Addr) (n c : Nat) (ks : List RK) (w : World) (hl : ks.length = n) (hn : n ≤ 1000000) (hw : WfAll ks) (hr : Has w w.heap.size A (flat ks)) :
    Calls Try.prog 11 #[.slice A n c] w fun e w' => e = .returned (.int .i64 ((kinds ks).length : Int)) ∧ Fr w w' := by
  have hs := key_set A n c ks w hl hn hw hr
  have Hz := keep (size_set hw)
  clear hl
  go_enter Try.func11, Try.ntmps11
  go_wp2_with (first
    | (go_at_call 30; refine hs.mono ?_; rintro e w' ⟨b, m, rfl, hb, hm, hown, hF⟩)
    | (at_len; refine wpList_len_own _ rfl _ 64 rfl 30 74 Try.underlying64 _ b m _ rfl hown ?_; rw [Hz.out])
    | fail)
  go_ret
  exact ⟨rfl, hF⟩
end Go.Proofs.Ytignnjflodkihaa
