/- The program's cache in a law, by what its frames hold: values forgotten. -/
import Derived.Test.YtmoaddbpfekdbaaM40
namespace Go.Proofs.Ytmoaddbpfekdbaa
set_option linter.unusedVariables false
set_option linter.unusedSimpArgs false
set_option linter.unusedSectionVars false
set_option maxRecDepth 100000
open Go.RowKit
instance : Inhabited RN := ⟨zeroN⟩
theorem nq_def : NX.n default = default := rfl
def QL (w0 W : World) (g n K : Nat) (u : Ca RN) : Prop := ∃ t, PL w0 W g n K t ∧ mC NX.n t = u
structure TQ (w W : World) (O : Option Addr) (n c : Nat) (l' : List (Fra NX)) (fs : List (Fra RN)) : Prop where
  res : ResA w W O n c l'
  same : l'.map (mF NX.n) = fs
section
variable {w0 W w' : World} {g n K : Nat} {u u' : Ca RN}
theorem QL.more (k : QL w0 W g n K u) {K' : Nat} (h : K ≤ K') : QL w0 W g n K' u := by obtain ⟨t, k1, k2⟩ := k; exact ⟨t, k1.more h, k2⟩
theorem QL.fr (k : QL w0 W g n K u) (f : Fr W w') : QL w0 w' g n K u := by obtain ⟨t, k1, k2⟩ := k; exact ⟨t, k1.fr f, k2⟩
theorem QL.frw (k : QL w0 W g n K u) : Fr w0 W := by obtain ⟨t, k1, k2⟩ := k; exact k1.frw
theorem QL.bd (k : QL w0 W g n K u) : u.fs.length = n := by
  obtain ⟨t, ⟨h, k1, -, -⟩, rfl⟩ := k
  exact (List.length_map ..).trans k1.bd.len
theorem x_new (w : World) (n : Nat) {N : Int} (hN : N = (n : Int)) (h1 : 1 ≤ n) (h2 : n ≤ 64) : Calls Try.prog 8 #[.int .i64 N] w fun e w' => ∃ g, e = .returned (.tuple #[.pointer (some ⟨g, 0, none⟩), .int .i64 0]) ∧ Hid (QL w w' g n 0 (newC n)) := by
  refine (z_new w n hN h1 h2).mono ?_
  rintro e w' ⟨g, rfl, H⟩
  exact ⟨g, rfl, keep ⟨_, H.out, mc_new nq_def n⟩⟩
theorem x_pin (k : QL w0 W g n K u) (hK : K ≤ 1000) {x b r : Int} (e0 : pinC u x b = (r, u')) :
    Calls Try.prog 12 #[.pointer (some ⟨g, 0, none⟩), .int .i64 x, .int .i64 b] W fun e w' => e = .returned (.int .i64 r) ∧ Hid (QL w0 w' g n (K + 1) u' ∧ KeepT W w') := by
  obtain ⟨t, k1, rfl⟩ := k
  rw [mc_pin nq_def, Prod.mk.injEq] at e0
  obtain ⟨rfl, rfl⟩ := e0
  refine (z_pin k1 hK rfl).mono ?_
  rintro e w' ⟨rfl, H⟩
  exact ⟨rfl, keep ⟨⟨_, H.out.1, rfl⟩, H.out.2⟩⟩
theorem x_claim (k : QL w0 W g n K u) (hK : K ≤ 1000) {x : Int} {r : Bool} (e0 : claimC u x = (r, u')) :
    Calls Try.prog 14 #[.pointer (some ⟨g, 0, none⟩), .int .i64 x] W fun e w' => e = .returned (.bool r) ∧ Hid (QL w0 w' g n (K + 1) u' ∧ KeepT W w') := by
  obtain ⟨t, k1, rfl⟩ := k
  rw [mc_claim nq_def, Prod.mk.injEq] at e0
  obtain ⟨rfl, rfl⟩ := e0
  refine (z_claim k1 hK rfl).mono ?_
  rintro e w' ⟨rfl, H⟩
  exact ⟨rfl, keep ⟨⟨_, H.out.1, rfl⟩, H.out.2⟩⟩
theorem x_give (k : QL w0 W g n K u) {x R : Int} {r : Nat} (e0 : giveC u x = (r, u')) (hR : R = (r : Int)) :
    Calls Try.prog 25 #[.pointer (some ⟨g, 0, none⟩), .int .i64 x] W fun e w' => e = .returned (.int .i64 R) ∧ Hid (QL w0 w' g n (K + 1) u' ∧ KeepT W w') := by
  obtain ⟨t, k1, rfl⟩ := k
  rw [mc_give nq_def, Prod.mk.injEq] at e0
  obtain ⟨rfl, rfl⟩ := e0
  refine (z_give k1 rfl hR).mono ?_
  rintro e w' ⟨rfl, H⟩
  exact ⟨rfl, keep ⟨⟨_, H.out.1, rfl⟩, H.out.2⟩⟩
theorem x_unpin (k : QL w0 W g n K u) (hK : K ≤ 1000) {x : Int} (hx : W64 x) {r : Bool} (e0 : unpinC u x = (r, u')) :
    Calls Try.prog 16 #[.pointer (some ⟨g, 0, none⟩), .int .i64 x] W fun e w' => e = .returned (.bool r) ∧ Hid (QL w0 w' g n (K + 1) u' ∧ KeepT W w') := by
  obtain ⟨t, k1, rfl⟩ := k
  rw [mc_unpin nq_def, Prod.mk.injEq] at e0
  obtain ⟨rfl, rfl⟩ := e0
  refine (z_unpin k1 hK hx rfl).mono ?_
  rintro e w' ⟨rfl, H⟩
  exact ⟨rfl, keep ⟨⟨_, H.out.1, rfl⟩, H.out.2⟩⟩
theorem x_evict_no (k : QL w0 W g n K u) (e0 : evictC u = (none, u')) :
    Calls Try.prog 18 #[.pointer (some ⟨g, 0, none⟩)] W fun e w' => e = .returned (.tuple #[.int .i64 0, nv zeroNV, .bool false, .bool false]) ∧ Hid (QL w0 w' g n (K + 1) u' ∧ KeepT W w') := by
  obtain ⟨t, k1, rfl⟩ := k
  rw [mc_evict nq_def, Prod.mk.injEq] at e0
  obtain ⟨h1, rfl⟩ := e0
  have h2 : (evictC t).1 = none := by cases h : (evictC t).1 with | none => rfl | some f => rw [h] at h1; simp at h1
  refine (z_evict k1 (o := none) (u := (evictC t).2) (by rw [← h2]) evP_none).mono ?_
  rintro e w' ⟨rfl, H⟩
  exact ⟨rfl, keep ⟨⟨_, H.out.1, rfl⟩, H.out.2⟩⟩
theorem x_evict (k : QL w0 W g n K u) {f : Fra RN} (e0 : evictC u = (some f, u')) {b : Int} {d : Bool} (hb : f.blk = b) (hd : f.dirty = d) :
    Calls Try.prog 18 #[.pointer (some ⟨g, 0, none⟩)] W fun e w' => ∃ v : NV, e = .returned (.tuple #[.int .i64 b, nv v, .bool d, .bool true]) ∧ Hid (QL w0 w' g n (K + 1) u' ∧ KeepT W w') := by
  obtain ⟨t, k1, rfl⟩ := k
  rw [mc_evict nq_def, Prod.mk.injEq] at e0
  obtain ⟨h1, rfl⟩ := e0
  obtain ⟨f0, h2, h3⟩ : ∃ f0, (evictC t).1 = some f0 ∧ mF NX.n f0 = f := by
    cases h : (evictC t).1 with
    | none => rw [h] at h1; simp at h1
    | some f0 => rw [h] at h1; exact ⟨f0, rfl, Option.some.inj h1⟩
  subst h3
  subst hb hd
  refine (z_evict k1 (o := some f0) (u := (evictC t).2) (by rw [← h2]) (evP_some f0.st f0.blk f0.pins f0.ref f0.dirty f0.node f0.own)).mono ?_
  rintro e w' ⟨rfl, H⟩
  exact ⟨_, rfl, keep ⟨⟨_, H.out.1, rfl⟩, H.out.2⟩⟩
theorem x_fill {ok : Nat → Prop} {val : Value} {r : Bool} {l : List Int} {m : Nat} (k : QL w0 W g n K u) (hK : K ≤ 1000) {x : Int} (hx : W64 x) (v : NX) (hval : val = nv v.v) (hv : NP W ok v.v v.n) (e0 : fillC u x v.n = (l, r, u')) (hm : l.length = m) :
    Calls Try.prog 13 #[.pointer (some ⟨g, 0, none⟩), .int .i64 x, val] W fun e w' => ∃ (O : Option Addr) (c : Nat), e = .returned (.tuple #[.slice O m c, .bool r]) ∧ Hid (ResI W w' O m c l ∧ QL w0 w' g n (K + 1) u' ∧ KeepT W w') := by
  obtain ⟨t, k1, rfl⟩ := k
  have e1 : ∀ v' : NX, v'.n = v.n → (fillC t x v').1 = l ∧ (fillC t x v').2.1 = r ∧ mC NX.n (fillC t x v').2.2 = u' := fun v' hv' => by
    rw [← hv', mc_fill nq_def, Prod.mk.injEq, Prod.mk.injEq] at e0
    exact e0
  refine (y_fill k1 hK hx v hval hv (r := r) (l := l) (m := m) (uf := fun v' => (fillC t x v').2.2) (fun v' hv' => by
    obtain ⟨h1, h2, h3⟩ := e1 v' hv'
    rw [← h1, ← h2]) hm).mono ?_
  rintro e w' ⟨v', O, c, h1, rfl, H⟩
  exact ⟨O, c, rfl, keep ⟨H.out.1, ⟨_, H.out.2.1, (e1 v' h1).2.2⟩, H.out.2.2⟩⟩
theorem x_name {ok : Nat → Prop} {val : Value} {r : Bool} (k : QL w0 W g n K u) (hK : K ≤ 1000) {x b : Int} (hx : W64 x) (hb : W64 b) (v : NX) (hval : val = nv v.v) (hv : NP W ok v.v v.n) (e0 : nameC u x b v.n = (r, u')) :
    Calls Try.prog 15 #[.pointer (some ⟨g, 0, none⟩), .int .i64 x, .int .i64 b, val] W fun e w' => e = .returned (.bool r) ∧ Hid (QL w0 w' g n (K + 1) u' ∧ KeepT W w') := by
  obtain ⟨t, k1, rfl⟩ := k
  have e1 : ∀ v' : NX, v'.n = v.n → (nameC t x b v').1 = r ∧ mC NX.n (nameC t x b v').2 = u' := fun v' hv' => by
    rw [← hv', mc_name nq_def, Prod.mk.injEq] at e0
    exact e0
  refine (y_name k1 hK hx hb v hval hv (r := r) (uf := fun v' => (nameC t x b v').2) (fun v' hv' => by
    obtain ⟨h1, h2⟩ := e1 v' hv'
    rw [← h1])).mono ?_
  rintro e w' ⟨v', h1, rfl, H⟩
  exact ⟨rfl, keep ⟨⟨_, H.out.1, (e1 v' h1).2⟩, H.out.2⟩⟩
theorem x_set {ok : Nat → Prop} {val : Value} {r : Bool} (k : QL w0 W g n K u) {x : Int} (hx : W64 x) (v : NX) (hval : val = nv v.v) (hv : NP W ok v.v v.n) (e0 : setC u x v.n = (r, u')) :
    Calls Try.prog 17 #[.pointer (some ⟨g, 0, none⟩), .int .i64 x, val] W fun e w' => e = .returned (.bool r) ∧ Hid (QL w0 w' g n (K + 1) u' ∧ KeepT W w') := by
  obtain ⟨t, k1, rfl⟩ := k
  have e1 : ∀ v' : NX, v'.n = v.n → (setC t x v').1 = r ∧ mC NX.n (setC t x v').2 = u' := fun v' hv' => by
    rw [← hv', mc_set nq_def, Prod.mk.injEq] at e0
    exact e0
  refine (y_set k1 hx v hval hv (r := r) (uf := fun v' => (setC t x v').2) (fun v' hv' => by
    obtain ⟨h1, h2⟩ := e1 v' hv'
    rw [← h1])).mono ?_
  rintro e w' ⟨v', h1, rfl, H⟩
  exact ⟨rfl, keep ⟨⟨_, H.out.1, (e1 v' h1).2⟩, H.out.2⟩⟩
theorem x_free (k : QL w0 W g n K u) {r : Nat} {R : Int} (e0 : freeN u.fs = r) (hR : R = (r : Int)) : Calls Try.prog 23 #[.pointer (some ⟨g, 0, none⟩)] W fun e w' => e = .returned (.int .i64 R) ∧ Fr W w' := by
  obtain ⟨t, k1, rfl⟩ := k
  exact z_free k1 ((mf_freeN t.fs).symm.trans e0) hR
theorem x_may (k : QL w0 W g n K u) (hK : K ≤ 1000) {x : Int} {r : Bool} (e0 : mayC u x = r) : Calls Try.prog 21 #[.pointer (some ⟨g, 0, none⟩), .int .i64 x] W fun e w' => e = .returned (.bool r) ∧ Fr W w' := by
  obtain ⟨t, k1, rfl⟩ := k
  exact z_may k1 hK ((mc_may nq_def t x).symm.trans e0)
theorem x_line (k : QL w0 W g n K u) (hK : K ≤ 1000) {m : Nat} (e0 : u.line.length = m) : Calls Try.prog 24 #[.pointer (some ⟨g, 0, none⟩)] W fun e w' => ∃ O c, e = .returned (.slice O m c) ∧ Hid (ResI W w' O m c (lineC u) ∧ Fr W w') := by
  obtain ⟨t, k1, rfl⟩ := k
  exact z_line k1 hK e0
theorem x_frames (k : QL w0 W g n K u) : Calls Try.prog 10 #[.pointer (some ⟨g, 0, none⟩)] W fun e w' => ∃ (O : Option Addr) (c : Nat) (l' : List (Fra NX)), e = .returned (.slice O n c) ∧ Hid (TQ W w' O n c l' u.fs ∧ Fr W w') := by
  obtain ⟨t, k1, rfl⟩ := k
  refine (z_frames k1).mono ?_
  rintro e w' ⟨O, c, l', rfl, H⟩
  exact ⟨O, c, l', rfl, keep ⟨⟨H.out.1.res, H.out.1.same⟩, H.out.2⟩⟩
theorem TQ.cells {w W : World} {O : Option Addr} {n c : Nat} {l' : List (Fra NX)} {l : List (Fra RN)} (h : TQ w W O n c l' l) (hn : 0 < n) : ∃ g o, O = some ⟨g, o, none⟩ ∧ ∀ V, Fr W V → ∀ i f, l[i]? = some f →
    V.cell? ⟨g, o + i * 13, none⟩ = some (.int .i64 (f.st : Int)) ∧ V.cell? ⟨g, o + i * 13 + 1, none⟩ = some (.int .i64 f.blk) ∧ V.cell? ⟨g, o + i * 13 + 2, none⟩ = some (.int .i64 f.pins) ∧ V.cell? ⟨g, o + i * 13 + 3, none⟩ = some (.bool f.ref) ∧ V.cell? ⟨g, o + i * 13 + 4, none⟩ = some (.bool f.dirty) := by
  obtain ⟨g, o, rfl⟩ := h.res.row.addr hn
  refine ⟨g, o, rfl, fun V hV i f hb => ?_⟩
  have hs := h.same
  have h1 : (l'.map (mF NX.n))[i]? = some f := by rw [hs]; exact hb
  rw [List.getElem?_map] at h1
  cases h2 : l'[i]? with
  | none => rw [h2] at h1; simp at h1
  | some f' =>
    rw [h2] at h1
    have h3 := Option.some.inj h1
    subst h3
    obtain ⟨b2, off2, e2, hb2, hr2⟩ := has_rows h.res.row.has (fac_wid l') (by decide) (by intro e; rw [e] at h2; simp at h2)
    injection e2 with e2
    injection e2 with e2 e3
    subst e2 e3
    exact ⟨elem_cell (o := 0) hr2 (fac_wid l') (by omega) h2 rfl V hV, elem_cell (o := 1) hr2 (fac_wid l') (by omega) h2 rfl V hV, elem_cell (o := 2) hr2 (fac_wid l') (by omega) h2 rfl V hV, elem_cell (o := 3) hr2 (fac_wid l') (by omega) h2 rfl V hV, elem_cell (o := 4) hr2 (fac_wid l') (by omega) h2 rfl V hV⟩
end
end Go.Proofs.Ytmoaddbpfekdbaa
