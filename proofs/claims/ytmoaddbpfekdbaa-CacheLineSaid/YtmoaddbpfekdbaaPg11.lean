/- CacheClock: two rows that grow; cells of what was told; what can go. -/
import Derived.Test.YtmoaddbpfekdbaaPg9
import Derived.Test.YtmoaddbpfekdbaaM35
import Derived.Test.YtmoaddbpfekdbaaM21
import Derived.Test.YtmoaddbpfekdbaaM23
namespace Go.Proofs.Ytmoaddbpfekdbaa
set_option linter.unusedVariables false
set_option linter.unusedSimpArgs false
set_option linter.unusedSectionVars false
set_option maxRecDepth 100000
open Go.RowKit
/-- The cells of frames told, in whatever world their row lies. -/
theorem told_cells {W : World} {e g o n c : Nat} {l' : List (Fra NX)} {l : List (Fra RN)} (h : Rw W e 13 (some ⟨g, o, none⟩) n c (rows fac l')) (hs : l'.map (mF NX.n) = l) {i : Nat} {f : Fra RN} (hb : l[i]? = some f) :
    W.cell? ⟨g, o + i * 13, none⟩ = some (.int .i64 (f.st : Int)) ∧ W.cell? ⟨g, o + i * 13 + 1, none⟩ = some (.int .i64 f.blk) ∧ W.cell? ⟨g, o + i * 13 + 2, none⟩ = some (.int .i64 f.pins) ∧ W.cell? ⟨g, o + i * 13 + 3, none⟩ = some (.bool f.ref) ∧ W.cell? ⟨g, o + i * 13 + 4, none⟩ = some (.bool f.dirty) := by
  have h1 : (l'.map (mF NX.n))[i]? = some f := by rw [hs]; exact hb
  rw [List.getElem?_map] at h1
  cases h2 : l'[i]? with
  | none => rw [h2] at h1; simp at h1
  | some f' =>
    rw [h2] at h1
    have h3 := Option.some.inj h1
    subst h3
    obtain ⟨b2, off2, e2, hb2, hr2⟩ := has_rows h.has (fac_wid l') (by decide) (by intro e; rw [e] at h2; simp at h2)
    injection e2 with e2
    injection e2 with e2 e3
    subst e2 e3
    exact ⟨elem_cell (o := 0) hr2 (fac_wid l') (by omega) h2 rfl W (fr_refl W), elem_cell (o := 1) hr2 (fac_wid l') (by omega) h2 rfl W (fr_refl W), elem_cell (o := 2) hr2 (fac_wid l') (by omega) h2 rfl W (fr_refl W), elem_cell (o := 3) hr2 (fac_wid l') (by omega) h2 rfl W (fr_refl W), elem_cell (o := 4) hr2 (fac_wid l') (by omega) h2 rfl W (fr_refl W)⟩
/-- Two rows of marks that a call has made. -/
structure TwoB (w9 V : World) (C R : Option Addr) (cn cb rn rb : Nat) (cl rl : List Bool) : Prop where
  c : ResB w9 V C cn cb cl
  r : ResB w9 V R rn rb rl
  ap : ∀ k, At C k → ¬ At R k
  fr : Fr w9 V
/-- A row of one mark, beside them. -/
def Bx (V : World) (C R : Option Addr) (bx : Nat) (x : Bool) : Prop := Has V (bx + 1) (some ⟨bx, 0, none⟩) (bc x) ∧ bx < V.heap.size ∧ ¬ At C bx ∧ ¬ At R bx
section
variable {w9 V W : World} {C R C' : Option Addr} {cn cb rn rb cb' b by' : Nat} {cl rl : List Bool} {x y : Bool}
theorem TwoB.go (h : TwoB w9 V C R cn cb rn rb cl rl) (f : Fr V W) : TwoB w9 W C R cn cb rn rb cl rl := ⟨⟨h.c.row.fr f, h.c.len, h.c.new⟩, ⟨h.r.row.fr f, h.r.len, h.r.new⟩, h.ap, fr_step h.fr f⟩
theorem Bx.go (h : Bx V C R b x) (f : Fr V W) : Bx W C R b x := ⟨h.1.fr h.2.1 f, Nat.lt_of_lt_of_le h.2.1 f.size, h.2.2⟩
theorem two_new (h : TwoB w9 V C R cn cb rn rb cl rl) (x : Bool) : Bx (V.alloc (.cells #[.bool x] 4)) C R V.heap.size x :=
  ⟨has_new V (bc x) 4, by simp, fun e => by have := h.c.row.lt _ e; omega, fun e => by have := h.r.row.lt _ e; omega⟩
theorem Bx.put (h : Bx V C R b x) (p : Put V W C C') : Bx W C' R b x := by
  refine ⟨?_, Nat.lt_of_lt_of_le h.2.1 p.chg.size, fun e => ?_, h.2.2.2⟩
  · intro j u hu
    obtain ⟨b2, off2, e1, e2, e3⟩ := h.1 j u hu
    injection e1 with e1
    injection e1 with e4 e5
    refine ⟨b2, off2, by rw [← e4, ← e5], e2, ?_⟩
    rw [p.chg.cell (by show b2 < _; rw [← e4]; exact h.2.1) (fun e => h.2.2.1 (by rw [e4]; exact e))]
    exact e3
  · rcases p.blk b e with e | e
    · exact h.2.2.1 e
    · have := h.2.1; omega
theorem Bx.swap (h : Bx V C R b x) : Bx V R C b x := ⟨h.1, h.2.1, h.2.2.2, h.2.2.1⟩
theorem TwoB.swap (h : TwoB w9 V C R cn cb rn rb cl rl) : TwoB w9 V R C rn rb cn cb rl cl := ⟨h.r, h.c, fun k a b => h.ap k b a, h.fr⟩
theorem two_put (h : TwoB w9 V C R cn cb rn rb cl rl) (h3 : Rw W 4 1 C' (cn + 1) cb' (rows bc cl ++ bc x)) (p : Put V W C C') : TwoB w9 W C' R (cn + 1) cb' rn rb (cl ++ [x]) rl := by
  refine ⟨⟨by rw [rows_append, rows_single]; exact h3, by rw [List.length_append, h.c.len]; rfl, fun k hk => ?_⟩, ⟨h.r.row.chg p.chg fun a ha ho => h.ap a ho ha, h.r.len, h.r.new⟩, fun k hk hr => ?_, h.fr.step_chg p.chg h.c.new⟩
  · rcases p.blk k hk with e | e
    · exact h.c.new k e
    · exact Nat.le_trans h.fr.size e
  · rcases p.blk k hk with e | e
    · exact h.ap k e hr
    · have := h.r.row.lt k hr
      omega
end
theorem k_can (n : RN) (r : Nat → Bool) (p : Nat → Int) (h : Int) : canL (kS n r p h).fs = (kS n r p h).fs.map fun f => f.pins == 0 := rfl
theorem k_cnt (n : RN) (r : Nat → Bool) (h : Int) {b : Nat} (hb : b < 6) : cnt (canL (kS n r (fun i => if i = b then 1 else 0) h).fs) = 5 := by
  match b, hb with
  | 0, _ => rfl
  | 1, _ => rfl
  | 2, _ => rfl
  | 3, _ => rfl
  | 4, _ => rfl
  | 5, _ => rfl
theorem k_free (n : RN) (r : Nat → Bool) (p : Nat → Int) (h : Int) : freeN (kS n r p h).fs = 0 := rfl
theorem u8_at {w : World} {A : Option Addr} {m : Nat} {l : List Int} (h : Has w w.heap.size A (u8s l)) (hl : l.length = m) : ∃ b o, ∀ t, t < m → A = some ⟨b, o, none⟩ ∧ ∃ z, l[t]? = some z ∧ ∀ V, Fr w V → V.cell? ⟨b, o + t, none⟩ = some (.int .u8 z) := by
  by_cases hm : m = 0
  · exact ⟨0, 0, fun t ht => by omega⟩
  · have h' : Has w w.heap.size A (rows (fun z => [Value.int .u8 z]) l) := by rw [rows_map]; exact h
    have hw : Wid (fun z : Int => [Value.int .u8 z]) 1 l := fun _ _ => rfl
    obtain ⟨b2, off2, e2, hb2, hr2⟩ := has_rows h' hw (by decide) (by intro e; rw [e] at hl; simp at hl; omega)
    refine ⟨b2, off2, fun t ht => ⟨e2, l[t]'(by omega), List.getElem?_eq_getElem _, fun V hV => ?_⟩⟩
    have lX := elem_cell0 hr2 hw hb2 (List.getElem?_eq_getElem (show t < l.length by omega)) rfl V hV
    rw [Nat.mul_one] at lX
    exact lX
end Go.Proofs.Ytmoaddbpfekdbaa
