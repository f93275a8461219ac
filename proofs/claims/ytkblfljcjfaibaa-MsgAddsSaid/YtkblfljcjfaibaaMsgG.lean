/- What two and three messages of one key come to. -/
import Derived.Test.YtkblfljcjfaibaaMsgF
import Derived.Test.YtkblfljcjfaibaaStore
namespace Go.Proofs.Ytkblfljcjfaibaa
open Go.RowKit
set_option linter.unusedVariables false
section
variable {a b c : RM}
theorem comp_wf (wa : a.wf) (wb : b.wf) : (compM a b).wf := by
  unfold compM
  split
  · exact wb
  · split
    · exact ⟨by simp [Is64], wb.hs, wb.key, fromV_wf _, by simp [Us64]⟩
    · split
      · exact ⟨by simp [Is64], wb.hs, wb.key, fromV_wf _, by simp [Us64]⟩
      · exact ⟨wb.hk, wb.hs, wb.key, wb.val, wrap_u64 _⟩
theorem comp_ok (ob : okM b = true) : okM (compM a b) = true := by
  obtain ⟨_, hk, _, _, hz⟩ := okM_parts ob
  unfold compM
  split
  · exact ob
  · rename_i h
    have h3 : b.kind = 3 := by
      rcases Decidable.em (b.kind = 3) with h3 | h3
      · exact h3
      · exact absurd (.inl h3) h
    split
    · exact putM_ok hk (fromV_ok _)
    · split
      · exact putM_ok hk (fromV_ok _)
      · have hv := hz (by omega)
        simp [okM, h3, hk, hv]
theorem comp_seq : (compM a b).seq = b.seq := by
  unfold compM
  split
  · rfl
  · split
    · rfl
    · split <;> rfl
theorem comp_key : (compM a b).key = b.key := by
  unfold compM
  split
  · rfl
  · split
    · rfl
    · split <;> rfl
theorem comp_not3 (h : b.kind ≠ 3) : compM a b = b := by unfold compM; rw [if_pos (.inl h)]
theorem comp_31 (h : b.kind = 3) (hk : a.key = b.key) (h1 : a.kind = 1) : compM a b = { b with kind := 1, val := plusV a.val b.inc, inc := 0 } := by
  unfold compM; rw [if_neg (by simp [h, hk]), if_pos h1]
theorem comp_32 (h : b.kind = 3) (hk : a.key = b.key) (h1 : a.kind = 2) : compM a b = { b with kind := 1, val := fromV b.inc, inc := 0 } := by
  unfold compM; rw [if_neg (by simp [h, hk]), if_neg (by omega), if_pos h1]
theorem comp_33 (h : b.kind = 3) (hk : a.key = b.key) (h1 : a.kind = 3) : compM a b = { b with inc := IntKind.u64.wrap (a.inc + b.inc) } := by
  unfold compM; rw [if_neg (by simp [h, hk]), if_neg (by omega), if_neg (by omega)]
theorem wrap_sum (x y z : Int) : IntKind.u64.wrap (IntKind.u64.wrap (x + y) + z) = IntKind.u64.wrap (x + IntKind.u64.wrap (y + z)) := by
  simp only [u64_of]; omega
theorem plus_of (n k : Int) (h : Us64 n) : plusV (fromV n) k = fromV (IntKind.u64.wrap (n + k)) := plus_from h.1 h.2
/-- Composed it does what both do. -/
theorem app_app (oa : okM a = true) (ob : okM b = true) (hk : a.key = b.key) (wa : a.wf) (v : RV) (t : Bool) :
    appV (appV v t a) (appB a) b = appV v t (compM a b) ∧ appB b = appB (compM a b) := by
  obtain ⟨ka, -, -, -, -⟩ := okM_parts oa
  obtain ⟨kb, -, -, -, -⟩ := okM_parts ob
  rcases kb with kb | kb | kb
  · rw [comp_not3 (by omega)]
    simp [appV, kb]
  · rw [comp_not3 (by omega)]
    simp [appV, kb]
  · rcases ka with ka | ka | ka
    · rw [comp_31 kb hk ka]
      simp [appV, appB, ka, kb]
    · rw [comp_32 kb hk ka]
      simp [appV, appB, ka, kb]
    · rw [comp_33 kb hk ka]
      have e : appB a = true := by simp [appB, ka]
      rw [e]
      simp only [appV, appB, ka, kb]
      cases t
      · simp [plus_of _ _ wa.hi]
      · simp [plus_plus]
theorem comp_comp (oa : okM a = true) (ob : okM b = true) (hb : a.key = b.key) (hc : a.key = c.key) (wb : b.wf) : compM (compM a b) c = compM a (compM b c) := by
  obtain ⟨ka, -, -, -, -⟩ := okM_parts oa
  obtain ⟨kb, -, -, -, -⟩ := okM_parts ob
  have hbc : b.key = c.key := hb.symm.trans hc
  rcases Decidable.em (c.kind = 3) with kc | kc
  · have hk1 : (compM a b).key = c.key := comp_key.trans hbc
    rcases kb with kb | kb | kb
    · rw [comp_not3 (b := b) (by omega), comp_31 kc hbc kb]
      rw [comp_not3 (a := a)]
      simp
    · rw [comp_not3 (b := b) (by omega), comp_32 kc hbc kb]
      rw [comp_not3 (a := a)]
      simp
    · rw [comp_33 kc hbc kb]
      rcases ka with ka | ka | ka
      · rw [comp_31 kb hb ka, comp_31 (a := { b with kind := 1, val := plusV a.val b.inc, inc := 0 }) kc hbc rfl, comp_31 (b := { c with inc := IntKind.u64.wrap (b.inc + c.inc) }) kc hc ka]
        simp [plus_plus]
      · rw [comp_32 kb hb ka, comp_31 (a := { b with kind := 1, val := fromV b.inc, inc := 0 }) kc hbc rfl, comp_32 (b := { c with inc := IntKind.u64.wrap (b.inc + c.inc) }) kc hc ka]
        simp [plus_of _ _ wb.hi]
      · rw [comp_33 kb hb ka, comp_33 (a := { b with inc := IntKind.u64.wrap (a.inc + b.inc) }) kc hbc kb, comp_33 (b := { c with inc := IntKind.u64.wrap (b.inc + c.inc) }) kc hc ka]
        simp [wrap_sum]
  · rw [comp_not3 kc, comp_not3 kc, comp_not3 kc]
end
/-- With another key of its own. -/
def withK (m : RM) (k : RK) : RM := { m with key := k }
theorem withK_wf {m : RM} {k : RK} (wm : m.wf) (wk : k.wf) : (withK m k).wf := ⟨wm.hk, wm.hs, wk, wm.val, wm.hi⟩
theorem withK_ok {m : RM} {k : RK} (om : okM m = true) (ok : okB k = true) : okM (withK m k) = true := by
  obtain ⟨kk, hk, h1, h2, h3⟩ := okM_parts om
  rcases kk with kk | kk | kk
  · have := h1 kk; simp [okM, withK, kk, ok, this]
  · have := h2 kk; have := h3 (by omega); simp [okM, withK, kk, ok, *]
  · have := h3 (by omega); simp [okM, withK, kk, ok, *]
theorem okM_key {m : RM} (om : okM m = true) : okB m.key = true := (okM_parts om).2.1
end Go.Proofs.Ytkblfljcjfaibaa
