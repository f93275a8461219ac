/- The program's cache in a law: what is behind each call, told by one fact. -/
import Derived.Test.YtmoaddbpfekdbaaM39
import Derived.Test.YtmoaddbpfekdbaaM11
import Derived.Test.YtmoaddbpfekdbaaM20
import Derived.Test.YtmoaddbpfekdbaaM21
namespace Go.Proofs.Ytmoaddbpfekdbaa
set_option linter.unusedVariables false
set_option linter.unusedSimpArgs false
set_option linter.unusedSectionVars false
set_option maxRecDepth 100000
open Go.RowKit
/-- A cache of the law's own, in blocks made since w0. -/
def PL (w0 W : World) (g n K : Nat) (t : Ca NX) : Prop := ∃ h, PN W g h n K t ∧ (∀ k, PHX g h k → w0.heap.size ≤ k) ∧ Fr w0 W
/-- Blocks of other types stay. -/
def KeepT (W w' : World) : Prop := ∀ k T cs, Arr W k T cs → T ≠ 72 → T ≠ 67 → T ≠ 77 → Arr w' k T cs
section
variable {w0 W w' w'' : World} {g n K : Nat} {h : PH} {t u : Ca NX}
theorem KeepT.of_fr (f : Fr W w') : KeepT W w' := fun k T cs ha _ _ _ => ha.below f ha.lt
theorem KeepT.trans (a : KeepT W w') (b : KeepT w' w'') : KeepT W w'' := fun k T cs ha h1 h2 h3 => b k T cs (a k T cs ha h1 h2 h3) h1 h2 h3
theorem KeepT.rw {e size m c : Nat} {A : Option Addr} {xs : List Value} (a : KeepT W w') (hr : Rw W e size A m c xs) (h1 : e ≠ 72) (h2 : e ≠ 67) (h3 : e ≠ 77) : Rw w' e size A m c xs := by
  refine ⟨hr.1, hr.2.imp id fun ⟨g, p, r, e1, ha, k⟩ => ⟨g, p, r, e1, a g e _ ha h1 h2 h3, k⟩⟩
theorem PNT.keepT (k : PN W g h n K t) (p : Chg (PHX g h) W w') : KeepT W w' := fun b T cs ha h1 h2 h3 => ha.chg p fun hx => by
  rcases hx with e | e | e | e | e
  · subst e; exact h1 (ha.ty k.pc.box)
  · obtain ⟨cs2, h9⟩ := k.pc.fs.arrT e; exact h2 (ha.ty h9)
  · exact k.pc.mp.ty ha e
  · obtain ⟨cs2, h9⟩ := k.pc.ln.arrT e; exact h3 (ha.ty h9)
  · obtain ⟨cs2, h9⟩ := k.pc.ld.arrT e; exact h3 (ha.ty h9)
theorem PL.fr (k : PL w0 W g n K t) (f : Fr W w') : PL w0 w' g n K t := by
  obtain ⟨h, h1, h2, h3⟩ := k
  exact ⟨h, h1.fr f, h2, fr_step h3 f⟩
theorem PL.frw (k : PL w0 W g n K t) : Fr w0 W := by obtain ⟨h, h1, h2, h3⟩ := k; exact h3
theorem PL.step {K' : Nat} (k : PN W g h n K t) (hb : ∀ k, PHX g h k → w0.heap.size ≤ k) (hf : Fr w0 W) (p : PNT W w' g h n K' u) : PL w0 w' g n K' u ∧ KeepT W w' := by
  obtain ⟨h', a1, a2, a3⟩ := p
  refine ⟨⟨h', a1, fun i hi => ?_, hf.step_chg a2 hb⟩, PNT.keepT k a2⟩
  rcases a3 i hi with e | e
  · exact hb i e
  · exact Nat.le_trans hf.size e
theorem z_new (w : World) (n : Nat) {N : Int} (hN : N = (n : Int)) (h1 : 1 ≤ n) (h2 : n ≤ 64) : Calls Try.prog 8 #[.int .i64 N] w fun e w' => ∃ g, e = .returned (.tuple #[.pointer (some ⟨g, 0, none⟩), .int .i64 0]) ∧ Hid (PL w w' g n 0 (newC n : Ca NX)) := by
  subst hN
  refine (l_new w n h1 h2).mono ?_
  rintro e w' ⟨g, rfl, H⟩
  obtain ⟨⟨h, a1, a2⟩, a3⟩ := H.out
  exact ⟨g, rfl, keep ⟨h, a1, a2, a3⟩⟩
theorem z_pin (k : PL w0 W g n K t) (hK : K ≤ 1000) {x b r : Int} (e0 : pinC t x b = (r, u)) :
    Calls Try.prog 12 #[.pointer (some ⟨g, 0, none⟩), .int .i64 x, .int .i64 b] W fun e w' => e = .returned (.int .i64 r) ∧ Hid (PL w0 w' g n (K + 1) u ∧ KeepT W w') := by
  obtain ⟨h, k1, k2, k3⟩ := k
  refine (l_pin k1 hK x b).mono ?_
  rintro e w' ⟨rfl, H⟩
  rw [e0] at H ⊢
  exact ⟨rfl, keep (PL.step k1 k2 k3 H.out)⟩
theorem z_claim (k : PL w0 W g n K t) (hK : K ≤ 1000) {x : Int} {r : Bool} (e0 : claimC t x = (r, u)) :
    Calls Try.prog 14 #[.pointer (some ⟨g, 0, none⟩), .int .i64 x] W fun e w' => e = .returned (.bool r) ∧ Hid (PL w0 w' g n (K + 1) u ∧ KeepT W w') := by
  obtain ⟨h, k1, k2, k3⟩ := k
  refine (l_claim k1 hK x).mono ?_
  rintro e w' ⟨rfl, H⟩
  rw [e0] at H ⊢
  exact ⟨rfl, keep (PL.step k1 k2 k3 H.out)⟩
theorem z_give (k : PL w0 W g n K t) {x R : Int} {r : Nat} (e0 : giveC t x = (r, u)) (hR : R = (r : Int)) :
    Calls Try.prog 25 #[.pointer (some ⟨g, 0, none⟩), .int .i64 x] W fun e w' => e = .returned (.int .i64 R) ∧ Hid (PL w0 w' g n (K + 1) u ∧ KeepT W w') := by
  subst hR
  obtain ⟨h, k1, k2, k3⟩ := k
  refine (l_give k1 x).mono ?_
  rintro e w' ⟨rfl, H⟩
  rw [e0] at H ⊢
  exact ⟨rfl, keep (PL.step k1 k2 k3 H.out)⟩
theorem z_unpin (k : PL w0 W g n K t) (hK : K ≤ 1000) {x : Int} (hx : W64 x) {r : Bool} (e0 : unpinC t x = (r, u)) :
    Calls Try.prog 16 #[.pointer (some ⟨g, 0, none⟩), .int .i64 x] W fun e w' => e = .returned (.bool r) ∧ Hid (PL w0 w' g n (K + 1) u ∧ KeepT W w') := by
  obtain ⟨h, k1, k2, k3⟩ := k
  refine (l_unpin k1 hK x hx).mono ?_
  rintro e w' ⟨rfl, H⟩
  rw [e0] at H ⊢
  exact ⟨rfl, keep (PL.step k1 k2 k3 H.out)⟩
theorem z_evict (k : PL w0 W g n K t) {o : Option (Fra NX)} {val : Value} (e0 : evictC t = (o, u)) (hv : evP o = val) :
    Calls Try.prog 18 #[.pointer (some ⟨g, 0, none⟩)] W fun e w' => e = .returned val ∧ Hid (PL w0 w' g n (K + 1) u ∧ KeepT W w') := by
  subst hv
  obtain ⟨h, k1, k2, k3⟩ := k
  refine (l_evict k1).mono ?_
  rintro e w' ⟨rfl, H⟩
  rw [e0] at H ⊢
  exact ⟨rfl, keep (PL.step k1 k2 k3 H.out)⟩
theorem z_set {ok : Nat → Prop} {val : Value} (k : PL w0 W g n K t) {x : Int} (hx : W64 x) (v : NX) (hval : val = nv v.v) (hv : NP W ok v.v v.n) :
    Calls Try.prog 17 #[.pointer (some ⟨g, 0, none⟩), .int .i64 x, val] W fun e w' => ∃ v' : NX, v'.n = v.n ∧ e = .returned (.bool (setC t x v').1) ∧ Hid (PL w0 w' g n (K + 1) (setC t x v').2 ∧ KeepT W w') := by
  obtain ⟨h, k1, k2, k3⟩ := k
  subst hval
  refine (l_set k1 x hx v hv).mono ?_
  rintro e w' ⟨v', h1, rfl, H⟩
  exact ⟨v', h1, rfl, keep (PL.step k1 k2 k3 H.out)⟩
theorem z_name {ok : Nat → Prop} {val : Value} (k : PL w0 W g n K t) (hK : K ≤ 1000) {x b : Int} (hx : W64 x) (hb : W64 b) (v : NX) (hval : val = nv v.v) (hv : NP W ok v.v v.n) :
    Calls Try.prog 15 #[.pointer (some ⟨g, 0, none⟩), .int .i64 x, .int .i64 b, val] W fun e w' => ∃ v' : NX, v'.n = v.n ∧ e = .returned (.bool (nameC t x b v').1) ∧ Hid (PL w0 w' g n (K + 1) (nameC t x b v').2 ∧ KeepT W w') := by
  obtain ⟨h, k1, k2, k3⟩ := k
  subst hval
  refine (l_name k1 hK x b hx hb v hv).mono ?_
  rintro e w' ⟨v', h1, rfl, H⟩
  exact ⟨v', h1, rfl, keep (PL.step k1 k2 k3 H.out)⟩
theorem z_fill {ok : Nat → Prop} {val : Value} (k : PL w0 W g n K t) (hK : K ≤ 1000) {x : Int} (hx : W64 x) (v : NX) (hval : val = nv v.v) (hv : NP W ok v.v v.n) :
    Calls Try.prog 13 #[.pointer (some ⟨g, 0, none⟩), .int .i64 x, val] W fun e w' => ∃ (v' : NX) (O : Option Addr) (m c : Nat), v'.n = v.n ∧ e = .returned (.tuple #[.slice O m c, .bool (fillC t x v').2.1]) ∧ Hid (ResI W w' O m c (fillC t x v').1 ∧ PL w0 w' g n (K + 1) (fillC t x v').2.2 ∧ KeepT W w') := by
  obtain ⟨h, k1, k2, k3⟩ := k
  subst hval
  refine (l_fill k1 hK x hx v hv).mono ?_
  rintro e w' ⟨v', O, m, c, h1, rfl, H⟩
  exact ⟨v', O, m, c, h1, rfl, keep ⟨H.out.1, PL.step k1 k2 k3 H.out.2⟩⟩
theorem z_node (k : PL w0 W g n K t) {x : Int} (hx : W64 x) {o : NX} {r : Bool} (e0 : nodC t x = (o, r)) :
    Calls Try.prog 30 #[.pointer (some ⟨g, 0, none⟩), .int .i64 x] W fun e w' => ∃ v' : NV, e = .returned (.tuple #[nv v', .bool r]) ∧ Hid (NP w' (fun _ => True) v' o.n) ∧ Fr W w' := by
  obtain ⟨h, k1, k2, k3⟩ := k
  have := l_node k1 x hx
  rw [e0] at this
  exact this
theorem z_free (k : PL w0 W g n K t) {r : Nat} {R : Int} (e0 : freeN t.fs = r) (hR : R = (r : Int)) : Calls Try.prog 23 #[.pointer (some ⟨g, 0, none⟩)] W fun e w' => e = .returned (.int .i64 R) ∧ Fr W w' := by
  subst hR
  obtain ⟨h, k1, k2, k3⟩ := k
  have := l_free k1
  rw [e0] at this
  exact this
theorem z_line (k : PL w0 W g n K t) (hK : K ≤ 1000) {m : Nat} (e0 : t.line.length = m) : Calls Try.prog 24 #[.pointer (some ⟨g, 0, none⟩)] W fun e w' => ∃ O c, e = .returned (.slice O m c) ∧ Hid (ResI W w' O m c (lineC t) ∧ Fr W w') := by
  obtain ⟨h, k1, k2, k3⟩ := k
  have := l_line k1 hK
  rw [e0] at this
  exact this
theorem z_may (k : PL w0 W g n K t) (hK : K ≤ 1000) {x : Int} {r : Bool} (e0 : mayC t x = r) : Calls Try.prog 21 #[.pointer (some ⟨g, 0, none⟩), .int .i64 x] W fun e w' => e = .returned (.bool r) ∧ Fr W w' := by
  obtain ⟨h, k1, k2, k3⟩ := k
  have := l_may k1 hK x
  rw [e0] at this
  exact this
theorem z_frames (k : PL w0 W g n K t) : Calls Try.prog 10 #[.pointer (some ⟨g, 0, none⟩)] W fun e w' => ∃ (O : Option Addr) (c : Nat) (l' : List (Fra NX)), e = .returned (.slice O n c) ∧ Hid (TellF W w' O n c l' t.fs ∧ Fr W w') := by
  obtain ⟨h, k1, k2, k3⟩ := k
  exact l_frames k1
/-- The leaf node with nothing in it, as the laws write it. -/
def lfNV : NV := ⟨true, none, 0, 0, none, 0, 0, none, 0, 0, none, 0, 0⟩
def lfN : RN := ⟨true, [], [], [], []⟩
def lfX : NX := ⟨lfNV, lfN⟩
theorem lf_np (w : World) (ok : Nat → Prop) : NP w ok lfX.v lfX.n := ⟨rfl, HasP.nil, rfl, by decide, by intro m hm; simp [lfX, lfN] at hm, HasP.nil, rfl, Nat.le_refl _, by decide, HasP.nil, rfl, by decide, by intro m hm; simp [lfX, lfN] at hm, HasP.nil, rfl, Nat.le_refl _, by decide, by intro m hm; simp [lfX, lfN] at hm⟩
theorem y_name {ok : Nat → Prop} {val : Value} {r : Bool} {uf : NX → Ca NX} (k : PL w0 W g n K t) (hK : K ≤ 1000) {x b : Int} (hx : W64 x) (hb : W64 b) (v : NX) (hval : val = nv v.v) (hv : NP W ok v.v v.n) (e0 : ∀ v', v'.n = v.n → nameC t x b v' = (r, uf v')) :
    Calls Try.prog 15 #[.pointer (some ⟨g, 0, none⟩), .int .i64 x, .int .i64 b, val] W fun e w' => ∃ v' : NX, v'.n = v.n ∧ e = .returned (.bool r) ∧ Hid (PL w0 w' g n (K + 1) (uf v') ∧ KeepT W w') := by
  refine (z_name k hK hx hb v hval hv).mono ?_
  rintro e w' ⟨v', h1, rfl, H⟩
  have h2 := H.out
  rw [e0 v' h1] at h2 ⊢
  exact ⟨v', h1, rfl, keep h2⟩
theorem y_set {ok : Nat → Prop} {val : Value} {r : Bool} {uf : NX → Ca NX} (k : PL w0 W g n K t) {x : Int} (hx : W64 x) (v : NX) (hval : val = nv v.v) (hv : NP W ok v.v v.n) (e0 : ∀ v', v'.n = v.n → setC t x v' = (r, uf v')) :
    Calls Try.prog 17 #[.pointer (some ⟨g, 0, none⟩), .int .i64 x, val] W fun e w' => ∃ v' : NX, v'.n = v.n ∧ e = .returned (.bool r) ∧ Hid (PL w0 w' g n (K + 1) (uf v') ∧ KeepT W w') := by
  refine (z_set k hx v hval hv).mono ?_
  rintro e w' ⟨v', h1, rfl, H⟩
  have h2 := H.out
  rw [e0 v' h1] at h2 ⊢
  exact ⟨v', h1, rfl, keep h2⟩
theorem y_fill {ok : Nat → Prop} {val : Value} {r : Bool} {l : List Int} {m : Nat} {uf : NX → Ca NX} (k : PL w0 W g n K t) (hK : K ≤ 1000) {x : Int} (hx : W64 x) (v : NX) (hval : val = nv v.v) (hv : NP W ok v.v v.n) (e0 : ∀ v', v'.n = v.n → fillC t x v' = (l, r, uf v')) (hm : l.length = m) :
    Calls Try.prog 13 #[.pointer (some ⟨g, 0, none⟩), .int .i64 x, val] W fun e w' => ∃ (v' : NX) (O : Option Addr) (c : Nat), v'.n = v.n ∧ e = .returned (.tuple #[.slice O m c, .bool r]) ∧ Hid (ResI W w' O m c l ∧ PL w0 w' g n (K + 1) (uf v') ∧ KeepT W w') := by
  refine (z_fill k hK hx v hval hv).mono ?_
  rintro e w' ⟨v', O, m', c, h1, rfl, H⟩
  have h2 := H.out
  rw [e0 v' h1] at h2 ⊢
  have h3 := h2.1.len
  simp only at h3
  have h4 : m' = m := by omega
  subst h4
  exact ⟨v', O, c, h1, rfl, keep h2⟩
theorem PL.more (k : PL w0 W g n K t) {K' : Nat} (hk : K ≤ K') : PL w0 W g n K' t := by
  obtain ⟨h, k1, k2, k3⟩ := k
  exact ⟨h, { k1 with pc := k1.pc.more hk, bd := ⟨k1.bd.len, fun f hf => by have := k1.bd.pin f hf; omega, by have := k1.bd.ln; omega, by have := k1.bd.ld; omega⟩ }, k2, k3⟩
/-- What a frame's node holds. -/
theorem PL.ents (k : PL w0 W g n K t) {f : Fra NX} (hf : f ∈ t.fs) : f.node.n.es.length = f.node.v.n1 := by
  obtain ⟨h, k1, -, -⟩ := k
  exact (k1.nod f hf).l1
theorem lf_val : Value.agg #[.bool true, .slice none 0 0, .slice none 0 0, .slice none 0 0, .slice none 0 0] = nv lfX.v := rfl
end
end Go.Proofs.Ytmoaddbpfekdbaa
/- The laws' 'awake'. -/
namespace Go.Proofs.Ytmoaddbpfekdbaa
set_option linter.unusedVariables false
set_option linter.unusedSimpArgs false
set_option linter.unusedSectionVars false
set_option maxRecDepth 100000
open Go.RowKit
attribute [local go_sem ↓] node16_ld
theorem one_leaf : (leafN [0]).es.length = 1 := by decide
theorem leaf_one (w : World) (z : Int) (hz : Is64 z) : Calls Try.prog 27 #[.slice (some ⟨w.heap.size, 0, none⟩) 1 1] (w.alloc (.cells #[.int .i64 z] 3)) fun e w' => ∃ v, e = .returned (nv v) ∧ Hid (NP w' (fun _ => True) v (leafN [z])) ∧ Fr w w' := by
  refine (q_leaf (ns := [z]) (c := 1) (n := 1) (has_new w ([z].map (Value.int .i64)) 3) (by simp) rfl (by intro y hy; simp at hy; subst hy; exact hz) (by decide)).mono ?_
  rintro e w' ⟨v, rfl, h1, h2⟩
  exact ⟨v, rfl, keep (h1.out.np fun _ _ => trivial), fr_step (fr_new (fr_refl w) _) h2⟩
theorem ri_at {W : World} {e g o n c : Nat} {l : List Int} (h : Rw W e 1 (some ⟨g, o, none⟩) n c (rows ic l)) {i : Nat} {b : Int} (hb : l[i]? = some b) : W.cell? ⟨g, o + i, none⟩ = some (.int .i64 b) := by
  obtain ⟨b2, off2, e2, hb2, hr2⟩ := has_rows h.has (ic_wid l) (by decide) (by intro e; rw [e] at hb; simp at hb)
  injection e2 with e2
  injection e2 with e2 e3
  subst e2 e3
  have lX := elem_cell0 hr2 (ic_wid l) (by omega) hb (u := .int .i64 b) rfl W (fr_refl W)
  rw [Nat.mul_one] at lX
  exact lX
theorem TellF.cells {w W : World} {O : Option Addr} {n c : Nat} {l' l : List (Fra NX)} (h : TellF w W O n c l' l) (hn : 0 < n) : ∃ g o, O = some ⟨g, o, none⟩ ∧ ∀ V, Fr W V → ∀ i f, l'[i]? = some f → ∀ j u, (fac f)[j]? = some u → V.cell? ⟨g, o + i * 13 + j, none⟩ = some u := by
  obtain ⟨g, o, rfl⟩ := h.res.row.addr hn
  refine ⟨g, o, rfl, fun V hV i f hb j u hu => ?_⟩
  obtain ⟨b2, off2, e2, hb2, hr2⟩ := has_rows h.res.row.has (fac_wid l') (by decide) (by intro e; rw [e] at hb; simp at hb)
  injection e2 with e2
  injection e2 with e2 e3
  subst e2 e3
  exact elem_cell hr2 (fac_wid l') (by omega) hb hu V hV
theorem TellF.get {w W : World} {O : Option Addr} {n c : Nat} {l' l : List (Fra NX)} (h : TellF w W O n c l' l) {i : Nat} {f : Fra NX} (hi : l[i]? = some f) : ∃ f', l'[i]? = some f' ∧ f'.st = f.st ∧ f'.blk = f.blk ∧ f'.pins = f.pins ∧ f'.ref = f.ref ∧ f'.dirty = f.dirty ∧ f'.node.n = f.node.n ∧ NP W (fun b => ¬ At O b) f'.node.v f.node.n := by
  have hs := h.same
  have h1 : (l.map (mF NX.n))[i]? = some (mF NX.n f) := by rw [List.getElem?_map, hi]; rfl
  rw [← hs, List.getElem?_map] at h1
  cases h2 : l'[i]? with
  | none => rw [h2] at h1; simp at h1
  | some f' =>
    rw [h2] at h1
    simp only [Option.map_some, Option.some.injEq, mF, Fra.mk.injEq] at h1
    refine ⟨f', rfl, h1.1, h1.2.1, h1.2.2.1, h1.2.2.2.1, h1.2.2.2.2.1, h1.2.2.2.2.2.1, ?_⟩
    rw [← h1.2.2.2.2.2.1]
    exact h.nod f' (List.mem_of_getElem? h2)
theorem nv_ents {v : NV} {m : Nat} (h : v.n1 = m) : v.cells.toArray[1]? = some (.slice v.A1 m v.c1) := by subst h; rfl
theorem fac_blk {f : Fra NX} {z : Int} (h : f.blk = z) : (fac f)[1]? = some (.int .i64 z) := by subst h; rfl
theorem fac_pins {f : Fra NX} {z : Int} (h : f.pins = z) : (fac f)[2]? = some (.int .i64 z) := by subst h; rfl
theorem fac_ref {f : Fra NX} {z : Bool} (h : f.ref = z) : (fac f)[3]? = some (.bool z) := by subst h; rfl
theorem fac_dirty {f : Fra NX} {z : Bool} (h : f.dirty = z) : (fac f)[4]? = some (.bool z) := by subst h; rfl
theorem evP_none : evP none = .tuple #[.int .i64 0, nv zeroNV, .bool false, .bool false] := rfl
theorem evP_some (a : Nat) (b c : Int) (d e : Bool) (x : NX) (o : Int) : evP (some ⟨a, b, c, d, e, x, o⟩) = .tuple #[.int .i64 b, nv x.v, .bool e, .bool true] := rfl
theorem fac_ents {f : Fra NX} {m : Nat} (h : f.node.v.n1 = m) : (fac f)[6]? = some (.slice f.node.v.A1 m f.node.v.c1) := by subst h; rfl
set_option maxHeartbeats 16000000 in
theorem awake16 (w : World) : Calls Try.prog 9 #[] w fun e w' => e = .returned (.bool true) ∧ Fr w w' := by
  have hww := fr_refl w
  have is5 : W64 5 := ⟨by decide, by decide⟩
  have a1 : (1 : Nat) ≤ 64 := by decide
  go_enter Try.func9, Try.ntmps9
  go_wp2_with (first
    | (go_at_call 8; (with_reducible refine (z_new _ 1 (N := 1) rfl (by decide) (by decide)).mono ?_); rintro e w1 ⟨g, rfl, H1⟩; rw [a_new] at H1)
    | (go_at_call 8; (with_reducible refine (pnew_no _ 0 (by decide)).mono ?_); rintro e w2 ⟨rfl, rfl⟩)
    | (go_at_call 12; (with_reducible refine (z_pin H1.out (by decide) a_pin0).mono ?_); rintro e w3 ⟨rfl, H3⟩)
    | (go_at_call 12; (with_reducible refine (z_pin H3.out.1 (by decide) a_pin1).mono ?_); rintro e w4 ⟨rfl, H4⟩)
    | (go_at_call 12; (with_reducible refine (z_pin H4.out.1 (by decide) a_pin2).mono ?_); rintro e w5 ⟨rfl, H5⟩)
    | (go_at_call 14; (with_reducible refine (z_claim H5.out.1 (by decide) a_claim).mono ?_); rintro e w6 ⟨rfl, H6⟩)
    | (go_at_call 27; (with_reducible refine (leaf_one w6 0 (by simp [Is64])).mono ?_); rintro e w7 ⟨v, rfl, HV, f67⟩; have H7 := keep (H6.out.1.fr f67); clear f67)
    | (go_at_call 13; (with_reducible refine (z_fill H7.out (by decide) is5 ⟨v, leafN [0]⟩ rfl HV.out).mono ?_); rintro e w8 ⟨v1, O, m, c, hvn, rfl, H8⟩; rw [a_fill] at H8 ⊢; have hm1 : m = 1 := H8.out.1.len.symm; subst hm1; obtain ⟨bO, oO, hO⟩ := H8.out.1.row.addr (by decide); subst hO; have HR8 := keep H8.out.1.row)
    | (go_at_call 30; (with_reducible refine (z_node H8.out.2.1 is5 (a_node v1)).mono ?_); rintro e w9 ⟨v2, rfl, h9, f9⟩; have hn2 : v2.n1 = 1 := by { have := h9.out.l1; rw [hvn, one_leaf] at this; exact this.symm }; have HR9 := keep (HR8.fr f9); have H9 := keep (H8.out.2.1.fr f9); clear h9 f9)
    | (refine wpList_store_at (ds := v2.cells) node16_info rfl (.tmp 11) (.tmp 58) rfl w9.heap.size 0 rfl rfl rfl (nv_onex v2) (Arr.new w9 zeroNV.cells.toArray 41) (by decide) (splice_all _ _ (by show 5 ≤ 5; decide)) ?_; intro W10 hA10 hk10; have f10 : Fr w9 W10 := hk10.fr (fr_new (fr_refl w9) _) (Nat.le_refl _); have HR10 := keep (HR9.out.fr f10); have H10 := keep (H9.out.fr f10); have HA10 := keep hA10; clear hA10 hk10 f10)
    | (go_at_call 18; (with_reducible refine (z_evict H10.out (a_evict v1) evP_none).mono ?_); rintro e w11 ⟨rfl, H11⟩; have HR11 := keep (H11.out.2.rw HR10.out (by decide) (by decide) (by decide)); have HA11 := keep (H11.out.2 _ _ _ HA10.out (by decide) (by decide) (by decide)))
    | (refine wpList_store_at (ds := zeroNV.cells) node16_info rfl (.tmp 14) (.tmp 64) rfl w11.heap.size 0 rfl rfl rfl (nv_onex zeroNV) (Arr.new w11 zeroNV.cells.toArray 41) (by decide) (splice_all _ _ (by show 5 ≤ 5; decide)) ?_; intro W12 hA12 hk12; have f12 : Fr w11 W12 := hk12.fr (fr_new (fr_refl w11) _) (Nat.le_refl _); have HR12 := keep (HR11.out.fr f12); have H12 := keep (H11.out.1.fr f12); have HA12 := keep (HA11.out.below f12 HA11.out.lt); clear hA12 hk12 f12)
    | (go_at_call 10; (with_reducible refine (z_frames H12.out).mono ?_); rintro e w13 ⟨Q, qc, l', rfl, H13⟩; obtain ⟨f', e1, e2, e3, e4, e5, e6, e7, e8⟩ := H13.out.1.get (i := 0) rfl; obtain ⟨bQ, oQ, hQ, hq⟩ := H13.out.1.cells (by decide); subst hQ; have hq2 := hq w13 (fr_refl _) 0 f' e1 2 (.int .i64 2) (fac_pins e4); have hl0 := ri_at (HR12.out.fr H13.out.2) (i := 0) rfl; have hA := HA12.out.below H13.out.2 HA12.out.lt; have hnE : w13.cell? ⟨w9.heap.size, 1, none⟩ = some (.slice v2.A1 1 v2.c1) := (hA.cell 1).trans (nv_ents hn2); simp only [Nat.add_zero, Nat.zero_mul] at hl0 hq2; have H14 := keep (H12.out.fr H13.out.2); clear e2 e3 e5 e6 e7 e8 e4 e1 hq)
    | (go_at_call 24; (with_reducible refine (z_line H14.out (by decide) (m := 1) rfl).mono ?_); rintro e w15 ⟨O5, c5, rfl, H15⟩; have H16 := keep (H14.out.fr H15.out.2))
    | (go_at_call 21; (with_reducible refine (z_may H16.out (by decide) (a_may2 v1)).mono ?_); rintro e w17 ⟨rfl, f17⟩; have H17 := keep (H16.out.fr f17); clear f17)
    | (go_at_call 21; (with_reducible refine (z_may H17.out (by decide) (a_may1 v1)).mono ?_); rintro e w18 ⟨rfl, f18⟩; have H18 := keep (H17.out.fr f18); clear f18)
    | (go_at_call 23; (with_reducible refine (z_free H18.out (r := 0) (R := 0) (a_free v1) rfl).mono ?_); rintro e w19 ⟨rfl, f19⟩; have H19 := keep (H18.out.fr f19); clear f19)
    | fail)
  go_ret
  exact ⟨rfl, H19.out.frw⟩
end Go.Proofs.Ytmoaddbpfekdbaa
