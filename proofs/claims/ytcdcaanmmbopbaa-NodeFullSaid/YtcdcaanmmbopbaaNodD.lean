/- What the functions of nodes tell, of the program and of the document. -/
import Derived.Test.YtcdcaanmmbopbaaNodR
import Derived.Test.YtcdcaanmmbopbaaNodB
import Derived.Test.YtcdcaanmmbopbaaRPart
namespace Go.Proofs.Ytcdcaanmmbopbaa
set_option maxRecDepth 100000
open Go.RowKit
set_option linter.unusedVariables false
theorem okN_leaf {n : RN} (h : n.lf = true) : OkN n ↔ n.ks.length = 0 ∧ n.ps.length = 0 ∧ n.ms.length = 0 ∧ OkE n.es := by
  unfold OkN
  simp [h]
theorem okN_inner {n : RN} (h : n.lf = false) : OkN n ↔ n.es.length = 0 ∧ (KidsOk n.ks ∧ n.ps.length + 1 = n.ks.length ∧ OkP n.ps) ∧ OkL n.ms := by
  unfold OkN
  simp [h, and_assoc]
theorem n_partL_len (l : List RM) (ps : List RK) (i : Nat) : (partL l ps i).length ≤ l.length := by
  unfold partL
  split
  · simp
  · exact List.length_filter_le _ _
theorem n_partI_nat {l : List RM} {ps : List RK} {j n2 : Nat} (hn2 : ps.length = n2) (hj : j ≤ n2) : partI l ps (j : Int) = partL l ps j := by
  unfold partI
  rw [if_pos (by omega)]
  rfl
theorem n_btw_part {l : List RM} {ps : List RK} {i n2 : Nat} (hn2 : ps.length = n2) (hi : i ≤ n2) : btw ps i l = partL l ps i := by
  unfold partL
  rw [if_neg (by omega)]
  rfl
theorem partL_wf {l : List RM} {ps : List RK} {i : Nat} (h : WfM l) : WfM (partL l ps i) := by
  unfold partL
  split
  · intro m hm; simp at hm
  · intro m hm; exact h m (List.mem_filter.1 hm).1
/-- A child's weight. -/
def wtN (n : RN) (i : Nat) : Int := bytL (partL n.ms n.ps i)
/-- All weights. -/
def wtsN (n : RN) : List Int := if n.lf then [] else (List.range n.ks.length).map (wtN n)
theorem sum_range_add (f g : Nat → Int) : ∀ N, ((List.range N).map fun i => f i + g i).sum = ((List.range N).map f).sum + ((List.range N).map g).sum
  | 0 => rfl
  | N + 1 => by
    rw [List.range_succ, List.map_append, List.map_append, List.map_append, List.sum_append, List.sum_append, List.sum_append, sum_range_add f g N]
    simp
    omega
theorem sum_range_zero : ∀ N, ((List.range N).map fun _ => (0 : Int)).sum = 0
  | 0 => rfl
  | N + 1 => by rw [List.range_succ, List.map_append, List.sum_append, sum_range_zero N]; rfl
theorem sum_range_miss (x : Int) {k : Nat} : ∀ N, N ≤ k → ((List.range N).map fun i => if i = k then x else 0).sum = 0
  | 0, _ => rfl
  | N + 1, h => by
    rw [List.range_succ, List.map_append, List.sum_append, sum_range_miss x N (by omega)]
    simp [show ¬ N = k by omega]
theorem sum_range_one (x : Int) {k : Nat} : ∀ N, k < N → ((List.range N).map fun i => if i = k then x else 0).sum = x
  | 0, h => by omega
  | N + 1, h => by
    rw [List.range_succ, List.map_append, List.sum_append]
    by_cases e : N = k
    · subst e
      rw [sum_range_miss x N (Nat.le_refl _)]
      simp
    · rw [sum_range_one x N (by omega)]
      simp [e]
theorem sum_kinds (g : RM → Nat) (N : Nat) : ∀ l : List RM, (∀ m ∈ l, g m < N) → ((List.range N).map fun i => bytL (l.filter fun m => decide (i = g m))).sum = bytL l
  | [], _ => sum_range_zero N
  | m :: l, h => by
    have ih := sum_kinds g N l (fun x hx => h x (List.mem_cons_of_mem _ hx))
    have e : (fun i => bytL ((m :: l).filter fun m => decide (i = g m))) = fun i => (if i = g m then bytM m else 0) + bytL (l.filter fun m => decide (i = g m)) := by
      funext i
      by_cases hi : i = g m
      · rw [List.filter_cons_of_pos (by simpa using hi), bytL_cons, if_pos hi]
      · rw [List.filter_cons_of_neg (by simpa using hi), if_neg hi]; omega
    rw [e, sum_range_add, ih, sum_range_one _ _ (h m List.mem_cons_self), bytL_cons]
/-- All weights together are the bytes of the messages. -/
theorem sum_wts {n : RN} (h : OkN n) (hl : n.lf = false) : (wtsN n).sum = bytL n.ms := by
  obtain ⟨_, ⟨_, h3, op⟩, ol⟩ := (okN_inner hl).1 h
  unfold wtsN
  rw [if_neg (by rw [hl]; decide)]
  have e : (List.range n.ks.length).map (wtN n) = (List.range n.ks.length).map fun i => bytL (n.ms.filter fun m => decide (i = kidN n.ps (cd m))) := by
    apply List.map_congr_left
    intro i hi
    unfold wtN
    rw [partL_kid op (by have := List.mem_range.1 hi; omega)]
  rw [e]
  exact sum_kinds _ _ _ (fun m _ => by have := kidN_le n.ps (cd m); omega)
section
variable {W : World} {B : Nat} {v : NV} {n : RN}
theorem q_check (h : NH W B v n) : Calls Try.prog 15 #[nv v] W fun e w' => (∃ b, e = .returned (.bool b) ∧ (b = true ↔ OkN n)) ∧ Fr W w' := by
  have hlf := h.lf
  cases v with | mk lf A1 n1 c1 A2 n2 c2 A3 n3 c3 A4 n4 c4
  cases lf
  · refine ncheck_inner (P := KidsOk n.ks ∧ n.ps.length + 1 = n.ks.length ∧ OkP n.ps) (R := OkL n.ms) (by rw [okN_inner hlf.symm, h.l1]) (fun V hF => ?_) (fun V hF => ?_)
    · have k := h.fr hF
      exact (fcheck_at (c := c3) k.h2 k.hB k.l2 k.s2 k.k2 k.h3 k.hB k.l3 k.s3 k.w3).mono fun e w' ⟨h1, h2⟩ => ⟨⟨_, h1, chkB_iff k.w3⟩, h2⟩
    · have k := h.fr hF
      exact (bcheck_at (c := c4) k.h4 k.hB k.l4 k.s4 k.w4).mono fun e w' ⟨h1, h2⟩ => ⟨h1, fr_step hF h2⟩
  · refine ncheck_leaf (P := OkE n.es) (by rw [okN_leaf hlf.symm, h.l2, h.l3, h.l4]) (fun V hF => ?_)
    have k := h.fr hF
    exact (echeck_at (c := c1) k.h1 k.hB k.l1 k.s1 k.w1).mono fun e w' ⟨h1, h2⟩ => ⟨h1, fr_step hF h2⟩
theorem q_rcheck (h : NH W B v n) : Calls Try.prog 25 #[nv v] W fun e w' => (∃ b, e = .returned (.bool b) ∧ (b = true ↔ OkN n)) ∧ Fr W w' := by
  have hlf := h.lf
  cases v with | mk lf A1 n1 c1 A2 n2 c2 A3 n3 c3 A4 n4 c4
  cases lf
  · refine rcheck_inner (P := KidsOk n.ks ∧ n.ps.length + 1 = n.ks.length ∧ OkP n.ps) (R := OkL n.ms) (by rw [okN_inner hlf.symm, h.l1]) (fun V hF => ?_) (fun V hF => ?_)
    · have k := h.fr hF
      exact (rfcheck_at (ck := c2) (c := c3) k.h2 k.hB k.l2 k.s2 k.h3 k.hB k.l3 k.s3 k.w3).mono fun e w' ⟨h1, h2⟩ => ⟨⟨_, h1, chkB_iff k.w3⟩, h2⟩
    · have k := h.fr hF
      exact ref_check6 (c := c4) k.h4 k.hB k.l4 k.s4 k.w4
  · refine rcheck_leaf (P := OkE n.es) (by rw [okN_leaf hlf.symm, h.l2, h.l3, h.l4]) (fun V hF => ?_)
    have k := h.fr hF
    exact ref_echeck (c := c1) k.h1 k.hB k.l1 k.s1 k.w1
theorem q_bytes (h : NH W B v n) (hs : n.lf = true → SmE n.es) : Calls Try.prog 13 #[nv v] W fun e w' => e = .returned (.int .i64 (bytN n)) ∧ Fr W w' := by
  have hlf := h.lf
  unfold bytN
  cases v with | mk lf A1 n1 c1 A2 n2 c2 A3 n3 c3 A4 n4 c4
  cases lf
  · rw [if_neg (by rw [← hlf]; exact Bool.false_ne_true)]
    refine nbytes_inner (fun V hF => ?_)
    have k := h.fr hF
    exact (bytes_at (c := c4) k.h4 k.hB k.l4 k.s4 k.w4).mono fun e w' ⟨h1, h2⟩ => ⟨h1, fr_step hF h2⟩
  · rw [if_pos (by rw [← hlf])]
    refine nbytes_leaf (fun V hF => ?_)
    have k := h.fr hF
    exact (ebytes_at (c := c1) k.h1 k.hB k.l1 k.s1 k.w1 (hs hlf.symm)).mono fun e w' ⟨h1, h2⟩ => ⟨h1, fr_step hF h2⟩
theorem q_rbytes (h : NH W B v n) (hs : n.lf = true → SmE n.es) : Calls Try.prog 14 #[nv v] W fun e w' => e = .returned (.int .i64 (bytN n)) ∧ Fr W w' := by
  have hlf := h.lf
  unfold bytN
  cases v with | mk lf A1 n1 c1 A2 n2 c2 A3 n3 c3 A4 n4 c4
  cases lf
  · rw [if_neg (by rw [← hlf]; exact Bool.false_ne_true)]
    refine rbytes_inner (fun V hF => ?_)
    have k := h.fr hF
    exact ref_bytes (c := c4) k.h4 k.hB k.l4 k.s4 k.w4
  · rw [if_pos (by rw [← hlf])]
    refine rbytes_leaf (fun V hF => ?_)
    have k := h.fr hF
    exact ref_ebytes (c := c1) k.h1 k.hB k.l1 k.s1 k.w1 (hs hlf.symm)
theorem OkN.sm (h : OkN n) : n.lf = true → SmE n.es := fun hl => ((okN_leaf hl).1 h).2.2.2.sm
theorem rmN_leaf (h : n.lf = true) : rmN n = 248 := by unfold rmN; rw [h]; rfl
theorem rmN_inner (h : n.lf = false) : rmN n = 205 := by unfold rmN; rw [h]; rfl
theorem q_fits (h : NH W B v n) : Calls Try.prog 16 #[nv v] W fun e w' => (∃ b, e = .returned (.bool b) ∧ (b = true ↔ OkN n ∧ bytN n ≤ rmN n)) ∧ Fr W w' := by
  have hlf := h.lf
  have cC := fun V (hF : Fr W V) => q_check (h.fr hF)
  have cB := fun (ok : OkN n) V (hF : Fr W V) => q_bytes (h.fr hF) ok.sm
  cases v with | mk lf A1 n1 c1 A2 n2 c2 A3 n3 c3 A4 n4 c4
  cases lf
  · exact nfits_inner (by rw [rmN_inner hlf.symm]) cC cB
  · exact nfits_leaf (by rw [rmN_leaf hlf.symm]) cC cB
theorem q_rfits (h : NH W B v n) : Calls Try.prog 26 #[nv v] W fun e w' => (∃ b, e = .returned (.bool b) ∧ (b = true ↔ OkN n ∧ bytN n ≤ rmN n)) ∧ Fr W w' := by
  have hlf := h.lf
  have cC := fun V (hF : Fr W V) => q_rcheck (h.fr hF)
  have cB := fun (ok : OkN n) V (hF : Fr W V) => q_rbytes (h.fr hF) ok.sm
  cases v with | mk lf A1 n1 c1 A2 n2 c2 A3 n3 c3 A4 n4 c4
  cases lf
  · exact rfits_inner (by rw [rmN_inner hlf.symm]) cC cB
  · exact rfits_leaf (by rw [rmN_leaf hlf.symm]) cC cB
theorem q_weights (h : NH W B v n) (ok : OkN n) : Calls Try.prog 11 #[nv v] W fun e w' => ∃ A c, e = .returned (.slice A (wtsN n).length c) ∧ Hid (Has w' w'.heap.size A (ints (wtsN n))) ∧ Fr W w' := by
  have hlf := h.lf
  unfold wtsN
  cases v with | mk lf A1 n1 c1 A2 n2 c2 A3 n3 c3 A4 n4 c4
  cases lf
  · rw [if_neg (by rw [← hlf]; exact Bool.false_ne_true)]
    obtain ⟨_, ⟨_, h3, op⟩, ol⟩ := (okN_inner hlf.symm).1 ok
    have hl2 := h.l2
    have hl3 := h.l3
    simp only at hl2 hl3
    rw [hl2]
    have := nweights_inner (A1 := A1) (n1 := n1) (c1 := c1) (A2 := A2) (n2 := n2) (c2 := c2) (A3 := A3) (n3 := n3) (c3 := c3) (A4 := A4) (n4 := n4) (c4 := c4) (w := W) (wt := wtN n) h.s2 (fun V i hi hF => by
      have k := h.fr hF
      refine (part_at (c := c4) (c2 := c3) k.h4 k.hB k.l4 k.k4 k.s4 ol k.h3 k.hB k.l3 k.s3 op (i : Int) (by have := k.s2; simp only at this; unfold Is64; omega)).mono ?_
      rintro e w' ⟨A', c', rfl, hp, _, f⟩
      rw [n_partI_nat k.l3 (by show i ≤ n3; omega)] at hp ⊢
      refine ⟨⟨A', _, c', rfl, fun V' hF' => ?_⟩, f⟩
      exact bytes_at (hp.fr k.hB (fr_step f hF')) (Nat.le_trans k.hB (fr_step f hF').size) rfl (by have := n_partL_len n.ms n.ps i; have h4 := k.l4; have h5 := k.s4; simp only at h4 h5; omega) (partL_wf k.w4))
    rw [List.length_map, List.length_range]
    exact this
  · rw [if_pos (by rw [← hlf])]
    exact nweights_leaf.mono fun e w' ⟨h1, h2⟩ => ⟨none, 0, h1, keep (by exact Has.nil), h2⟩
theorem q_rweights (h : NH W B v n) (ok : OkN n) : Calls Try.prog 12 #[nv v] W fun e w' => ∃ A c, e = .returned (.slice A (wtsN n).length c) ∧ Hid (Has w' w'.heap.size A (ints (wtsN n))) ∧ Fr W w' := by
  have hlf := h.lf
  unfold wtsN
  cases v with | mk lf A1 n1 c1 A2 n2 c2 A3 n3 c3 A4 n4 c4
  cases lf
  · rw [if_neg (by rw [← hlf]; exact Bool.false_ne_true)]
    obtain ⟨_, ⟨_, h3, op⟩, ol⟩ := (okN_inner hlf.symm).1 ok
    have hl2 := h.l2
    have hl3 := h.l3
    simp only at hl2 hl3
    rw [hl2]
    have := rweights_inner (A1 := A1) (n1 := n1) (c1 := c1) (A2 := A2) (n2 := n2) (c2 := c2) (A3 := A3) (n3 := n3) (c3 := c3) (A4 := A4) (n4 := n4) (c4 := c4) (w := W) (wt := wtN n) h.s2 (fun V i hi hF => by
      have k := h.fr hF
      refine (ref_part_in (c := c4) (c2 := c3) k.h4 k.hB k.l4 k.s4 ol k.h3 k.hB k.l3 k.s3 op i (by show i ≤ n3; omega)).mono ?_
      rintro e w' ⟨A', c', rfl, hp, f⟩
      rw [n_btw_part k.l3 (by show i ≤ n3; omega)] at hp ⊢
      refine ⟨⟨A', _, c', rfl, fun V' hF' => ?_⟩, f⟩
      exact ref_bytes (hp.has.fr (Nat.le_refl _) hF') hF'.size rfl (by have := n_partL_len n.ms n.ps i; have h4 := k.l4; have h5 := k.s4; simp only at h4 h5; omega) (partL_wf k.w4))
    rw [List.length_map, List.length_range]
    exact this
  · rw [if_pos (by rw [← hlf])]
    exact rweights_leaf.mono fun e w' ⟨h1, h2⟩ => ⟨none, 0, h1, keep (by exact Has.nil), h2⟩
theorem wtsN_len (h : NH W B v n) : (wtsN n).length ≤ 100000 := by
  unfold wtsN
  have h1 := h.l2
  have h2 := h.s2
  split
  · simp
  · simp; omega
theorem q_heaviest (h : NH W B v n) (ok : OkN n) : Calls Try.prog 17 #[nv v] W fun e w' => (∃ f x, e = .returned (.int .i64 f) ∧ TopI (wtsN n) (wtsN n).length f x) ∧ Fr W w' :=
  nheaviest rfl (wtsN_len h) (fun V hF => q_weights (h.fr hF) ok)
theorem q_rheaviest (h : NH W B v n) (ok : OkN n) : Calls Try.prog 18 #[nv v] W fun e w' => (∃ f x, e = .returned (.int .i64 f) ∧ TopI (wtsN n) (wtsN n).length f x) ∧ Fr W w' :=
  rheaviest rfl (wtsN_len h) (fun V hF => q_rweights (h.fr hF) ok)
/-- Is a node heavy? -/
def hvN (n : RN) : Bool := if n.lf then false else decide (205 ≤ 2 * bytL n.ms)
theorem q_heavy (h : NH W B v n) : Calls Try.prog 19 #[nv v] W fun e w' => e = .returned (.bool (hvN n)) ∧ Fr W w' := by
  have hlf := h.lf
  unfold hvN
  cases v with | mk lf A1 n1 c1 A2 n2 c2 A3 n3 c3 A4 n4 c4
  cases lf
  · rw [if_neg (by rw [← hlf]; exact Bool.false_ne_true)]
    refine nheavy_inner (by have h1 := bytL_rng n.ms; have h2 := h.l4; have h3 := h.s4; simp only at h2 h3; omega) (fun V hF => ?_)
    have k := h.fr hF
    exact bytes_at (c := c4) k.h4 k.hB k.l4 k.s4 k.w4
  · rw [if_pos (by rw [← hlf])]
    exact nheavy_leaf
theorem q_rheavy (h : NH W B v n) : Calls Try.prog 20 #[nv v] W fun e w' => e = .returned (.bool (hvN n)) ∧ Fr W w' := by
  have hlf := h.lf
  have cB := fun V (hF : Fr W V) hs => q_rbytes (h.fr hF) hs
  unfold hvN
  unfold bytN at cB
  cases v with | mk lf A1 n1 c1 A2 n2 c2 A3 n3 c3 A4 n4 c4
  cases lf
  · rw [if_neg (by rw [← hlf]; exact Bool.false_ne_true)]
    rw [if_neg (by rw [← hlf]; exact Bool.false_ne_true)] at cB
    exact rheavy_inner (by have h1 := bytL_rng n.ms; have h2 := h.l4; have h3 := h.s4; simp only at h2 h3; omega) (fun V hF => cB V hF (fun e => by rw [e] at hlf; cases hlf))
  · rw [if_pos (by rw [← hlf])]
    exact rheavy_leaf
/-- Are two nodes the same? -/
def smN (a b : RN) : Bool := a.lf == b.lf && (decide (a.es = b.es) && (decide (a.ks = b.ks) && (decide (a.ps = b.ps) && decide (a.ms = b.ms))))
theorem q_same {B2 : Nat} {v2 : NV} {n2 : RN} (h : NH W B v n) (h2 : NH W B2 v2 n2) : Calls Try.prog 21 #[nv v, nv v2] W fun e w' => e = .returned (.bool (smN n n2)) ∧ Fr W w' := by
  unfold smN
  rw [← h.lf, ← h2.lf]
  refine nsame (fun V hF => ?_) (fun V hF => ?_) (fun V hF => ?_) (fun V hF => ?_)
  all_goals have k := h.fr hF
  all_goals have k2 := h2.fr hF
  · exact equalE_in k.h1 k.hB k.l1 k.s1 k.w1 k2.h1 k2.hB k2.l1 k2.s1 k2.w1
  · exact equalI_at k.h2 k.hB k.l2 k.s2 k2.h2 k2.hB k2.l2 k2.s2 (fr_refl V)
  · exact equalK_at k.h3 k.hB k.l3 k.s3 k.w3 k2.h3 k2.hB k2.l3 k2.s3 k2.w3 (fr_refl V)
  · exact equalM_in k.h4 k.hB k.l4 k.s4 k.w4 k2.h4 k2.hB k2.l4 k2.s4 k2.w4
theorem q_rsame {B2 : Nat} {v2 : NV} {n2 : RN} (h : NH W B v n) (h2 : NH W B2 v2 n2) : Calls Try.prog 22 #[nv v, nv v2] W fun e w' => e = .returned (.bool (smN n n2)) ∧ Fr W w' := by
  unfold smN
  rw [← h.lf, ← h2.lf]
  refine rnsame (fun V hF => ?_) (fun V hF => ?_) (fun V hF => ?_) (fun V hF => ?_)
  all_goals have k := h.fr hF
  all_goals have k2 := h2.fr hF
  · exact ref_esame k.h1 k.hB k.l1 k.s1 k.w1 k2.h1 k2.hB k2.l1 k2.s1 k2.w1
  · exact sameints_at k.h2 k.hB k.l2 k.s2 k2.h2 k2.hB k2.l2 k2.s2 (fr_refl V)
  · exact samekeys_at k.h3 k.hB k.l3 k.s3 k.w3 k2.h3 k2.hB k2.l3 k2.s3 k2.w3 (fr_refl V)
  · exact ref_same k.h4 k.hB k.l4 k.s4 k.w4 k2.h4 k2.hB k2.l4 k2.s4 k2.w4
theorem smN_self (a : RN) : smN a a = true := by simp [smN]
end
end Go.Proofs.Ytcdcaanmmbopbaa
