/- What encodes a block, three: head and body. -/
import Derived.Test.YtmjjjdikpnhpiaaCodB
import Derived.Test.YtmjjjdikpnhpiaaCodL
import Derived.Test.YtmjjjdikpnhpiaaNodA
import Derived.Deep.CutBlock
import Derived.Test.YtmjjjdikpnhpiaaCrcMore
import Derived.Test.YtmjjjdikpnhpiaaNodD
import Derived.Test.YtmjjjdikpnhpiaaLawA
namespace Go.Proofs.Ytmjjjdikpnhpiaa
set_option linter.unusedVariables false
set_option linter.unusedSimpArgs false
set_option maxRecDepth 100000
open Go.RowKit
def eB (e : RE) : List Int := kB e.key ++ vB e.val
theorem enP_of {e : RE} (o : e.ok) (r : List Int) : enP (eB e ++ r) = (e, r) := by
  unfold enP eB
  rw [List.append_assoc, kyP_of o.ok]
  dsimp only
  rw [vlP_of o.wv o.ov]
/-- A node's bytes, ahead of the sum and behind it. -/
def headB (n : RN) : List Int := if n.lf = true then [1, n.es.length, 0, 0] else [2, n.ks.length, n.ms.length, 0]
def bodyB (n : RN) : List Int := n.es.flatMap eB ++ (n.ks.flatMap iB ++ (n.ps.flatMap kB ++ n.ms.flatMap mB))
theorem flat_le {α : Type} (f : α → List Int) (l : List α) (j : Nat) : ((l.take j).flatMap f).length ≤ (l.flatMap f).length := by
  conv => rhs; rw [← List.take_append_drop j l, List.flatMap_append, List.length_append]
  omega
theorem flat_snoc {α : Type} (f : α → List Int) {l : List α} {j : Nat} {x : α} (h : l[j]? = some x) : (l.take (j + 1)).flatMap f = (l.take j).flatMap f ++ f x := by
  rw [List.take_add_one, h, List.flatMap_append]; simp
/-- What is kept of a node that is written: its parts are right. -/
structure Wr (n : RN) : Prop where
  es : ∀ e ∈ n.es, e.ok
  ks : ∀ z ∈ n.ks, 0 ≤ z ∧ z < 4294967296
  ps : ∀ k ∈ n.ps, okB k = true
  pw : ∀ k ∈ n.ps, k.wf
  hd : n.es.length ≤ 124 ∧ n.ks.length ≤ 4 ∧ n.ms.length ≤ 24
  ms : ∀ m ∈ n.ms, m.wf ∧ okM m = true
  len : (bodyB n).length ≤ 1000
attribute [local go_sem ↓] zw zt zae zbh zaP
theorem byte_wrap {n : Nat} (h : n ≤ 255) : IntKind.u8.wrap (n : Int) = n := by rw [IntKind.wrap_u8]; omega
/-- A node that was boxed: the world from there on, by a name. -/
theorem nod_boxed (w : World) (v : NV) : ∃ Y, w.alloc (.cells v.cells.toArray 29) = Y ∧ Fr w Y ∧ Arr Y w.heap.size 29 v.cells.toArray ∧
    (∀ W, Fr Y W → W.cell? ⟨w.heap.size, 0, none⟩ = some (.bool v.lf)) ∧ (∀ W, Fr Y W → W.cell? ⟨w.heap.size, 1, none⟩ = some (.slice v.A1 v.n1 v.c1)) ∧ (∀ W, Fr Y W → W.cell? ⟨w.heap.size, 2, none⟩ = some (.slice v.A2 v.n2 v.c2)) ∧
    (∀ W, Fr Y W → W.cell? ⟨w.heap.size, 3, none⟩ = some (.slice v.A3 v.n3 v.c3)) ∧ (∀ W, Fr Y W → W.cell? ⟨w.heap.size, 4, none⟩ = some (.slice v.A4 v.n4 v.c4)) ∧
    (∀ W, Fr Y W → (ldS 29 (.pointer (some ⟨w.heap.size, 0, none⟩))).run Try.prog W = .ok (.agg v.cells.toArray) W) := by
  refine ⟨_, rfl, zf (ze w) _, Arr.new w _ _, ?_⟩
  generalize hX : World.alloc w _ = Z
  have ha : Arr Z w.heap.size 29 v.cells.toArray := by rw [← hX]; exact Arr.new w _ _
  exact ⟨fun W h => (ha.below h ha.lt).cell 0, fun W h => (ha.below h ha.lt).cell 1, fun W h => (ha.below h ha.lt).cell 2, fun W h => (ha.below h ha.lt).cell 3, fun W h => (ha.below h ha.lt).cell 4, fun W h => zq.ld rfl (ha.below h ha.lt)⟩
set_option maxHeartbeats 1000000 in
theorem head_at {w : World} {B : Nat} {v : NV} {n : RN} (h : NH w B v n) (h1 : v.n1 ≤ 255) (h2 : v.n2 ≤ 255) (h4 : v.n4 ≤ 255) :
    Calls Try.prog 24 #[nv v] w fun e w' => ∃ g, e = .returned (.slice (some ⟨g, 0, none⟩) 4 4) ∧ Hid (w.heap.size ≤ g ∧ Arr w' g 5 (u8s (headB n)).toArray ∧ Fr w w') := by
  unfold nv
  obtain ⟨Y, hY, fY, -, c0, c1, c2, -, c4, -⟩ := nod_boxed w v
  have c0 := c0 Y (ze _)
  have c1 := c1 Y (ze _)
  have c2 := c2 Y (ze _)
  have c4 := c4 Y (ze _)
  have e1 := byte_wrap h1
  have e2 := byte_wrap h2
  have e4 := byte_wrap h4
  have hlf := h.lf
  have l1 := h.l1
  have l2 := h.l2
  have l4 := h.l4
  have fin : ∀ b : Bool, b = n.lf → u8s (headB n) = (if b = true then [.int .u8 1, .int .u8 (v.n1 : Int), .int .u8 0, .int .u8 0] else [.int .u8 2, .int .u8 (v.n2 : Int), .int .u8 (v.n4 : Int), .int .u8 0]) := fun b hb => by
    subst hb
    unfold headB
    rw [l1, l2, l4]
    split <;> rfl
  have Fin := zb (fin _ hlf)
  have zY := fY.size
  clear fin hlf l1 l2 l4 h
  cases hb : v.lf
  · rw [hb] at c0 Fin
    rw [if_neg (by decide)] at Fin
    clear hb
    go_enter Try.func24, Try.ntmps24
    go_wp2_with fail
    go_ret
    exact ⟨_, rfl, zb ⟨zY, by rw [Fin.out]; exact Arr.new _ _ _, zf fY _⟩⟩
  · rw [hb] at c0 Fin
    rw [if_pos rfl] at Fin
    clear hb
    go_enter Try.func24, Try.ntmps24
    go_wp2_with fail
    go_ret
    exact ⟨_, rfl, zb ⟨zY, by rw [Fin.out]; exact Arr.new _ _ _, zf fY _⟩⟩
/-- The row so far, in the round of a loop. -/
def BdI (Y w : World) (A : Option Addr) (N c : Nat) (bs : List Int) : Prop := N = bs.length ∧ Own w Y.heap.size 5 1 A N c (u8s bs) ∧ Fr Y w
theorem BdI.step {Y w W w' : World} {A A' : Option Addr} {N c N' c' : Nat} {bs zs : List Int} (h : BdI Y w A N c bs) (f : Fr w W) (k : Hid (N' = N + zs.length ∧ Own w' Y.heap.size 5 1 A' N' c' (u8s (bs ++ zs)) ∧ Grw W A w' A')) : BdI Y w' A' N' c' (bs ++ zs) :=
  ⟨by rw [k.out.1, h.1, List.length_append], k.out.2.1, (Grw.of_fr A f).trans k.out.2.2 |>.below h.2.2 h.2.2.size fun k hk => (h.2.1.lt k hk).1⟩
set_option maxHeartbeats 8000000 in
theorem body_at {w : World} {v : NV} {n : RN} (h : NH w w.heap.size v n) (wr : Wr n) :
    Calls Try.prog 25 #[nv v] w fun e w' => ∃ A N c, e = .returned (.slice A N c) ∧ Hid (N = (bodyB n).length ∧ Own w' w.heap.size 5 1 A N c (u8s (bodyB n)) ∧ Fr w w') := by
  have hlen := wr.len
  unfold bodyB at hlen
  simp only [List.length_append] at hlen
  obtain ⟨Y, hY, fY, -, -, c1, c2, c3, c4, -⟩ := nod_boxed w v
  have hN := h.fr fY
  have H1 := zb hN.h1
  have H2 := zb hN.h2
  have H3 := zb hN.h3
  have H4 := zb hN.h4
  have L1 := zb hN.l1
  have L2 := zb hN.l2
  have L3 := zb hN.l3
  have L4 := zb hN.l4
  have q1 := hN.s1
  have q2 := hN.s2
  have q3 := hN.s3
  have q4 := hN.s4
  have hwB := Nat.le_refl w.heap.size
  have zY := fY.size
  have Wes := zb wr.es
  have Wks := zb wr.ks
  have Wps := zb wr.ps
  have Wms := zb wr.ms
  have H0 : Hid (BdI Y Y none 0 0 []) := zb ⟨rfl, Own.nil _ _ _ _, ze _⟩
  have w5 := zb hN.w1
  have w6 := zb hN.w4
  clear h wr hN
  unfold nv
  obtain ⟨lf, A1, n1, k1, A2, n2, k2, A3, n3, k3, A4, n4, k4⟩ := v
  dsimp only at c1 c2 c3 c4 H1 H2 H3 H4 L1 L2 L3 L4 q1 q2 q3 q4 hY ⊢
  have hbod : Hid (bodyB n = n.es.flatMap eB ++ (n.ks.flatMap iB ++ (n.ps.flatMap kB ++ n.ms.flatMap mB))) := zb rfl
  generalize bodyB n = bod at *
  generalize n.es = es at *
  generalize n.ks = ks at *
  generalize n.ps = ps at *
  generalize n.ms = ms at *
  have c1Y := c1 Y (ze _)
  have hY' := zb hY
  go_enter Try.func25, Try.ntmps25
  go_wp2_with fail
  go_loopg [3, 15] n1 (fun gg s3 si wr => ∃ (j : Nat) (A : Option Addr) (N c : Nat), j + gg = n1 ∧ si = .int .i64 j ∧ s3 = .slice A N c ∧ Hid (BdI Y wr A N c ((es.take j).flatMap eB)))
  case atStart => exact ⟨0, _, _, _, by omega, rfl, rfl, H0⟩
  case round =>
    obtain ⟨j, A, N, c, hj, rfl, rfl, hI⟩ := hrel
    obtain ⟨wx, rfl⟩ : ∃ W : World, W = wr := ⟨_, rfl⟩
    by_cases hlt : j < n1
    · have hjz : (j : Int) < (n1 : Int) := by omega
      have hm : es[j]? = some (es[j]'(by have := L1.out; omega)) := List.getElem?_eq_getElem _
      generalize es[j]'(by have := L1.out; omega) = x at hm
      have hfl := flat_le eB es (j + 1)
      have hfj := flat_le eB es j
      rw [flat_snoc eB hm, List.length_append] at hfl
      have hsn := zb (flat_snoc eB hm)
      have fw := hI.out.2.2
      have hNl := hI.out.1
      try simp only [List.length_append, List.length_nil] at hNl
      have hN5 : N ≤ 1000 := by omega
      have Hj := zb (And.intro hj hlt)
      have ox := Wes.out x (List.mem_of_getElem? hm)
      obtain ⟨b, off, eA, hb1, hr⟩ := zJ H1.out (show Wid ec 26 es from fun x hx => zbT (w5.out x hx).val.hl) (by decide) (by intro e; rw [e] at hm; simp at hm)
      subst eA
      have lX := z9 zh4 hr (show Wid ec 26 es from fun x hx => zbT (w5.out x hx).val.hl) (by omega) hm
      have lx := lX wx fw
      have he26 := zb (zbT ox.wv.hl)
      have hz26 : Hid ((ec zea).length = 26) := zb rfl
      obtain ⟨V, hV, fV, aV⟩ : ∃ V, wx.alloc (.cells (ec zea).toArray 74) = V ∧ Fr wx V ∧ Arr V wx.heap.size 74 (ec zea).toArray := ⟨_, rfl, zf (ze _) _, Arr.new _ _ _⟩
      rw [zkV] at hV
      have tok1 : Hid (0 < 1) := zb (by decide)
      clear hj hlt lX hm hfl hfj hNl c1 c1Y
      go_upto_region 5 with (first
        | (clear tok1; refine wpList_put (ds := ec x) zdA rfl (.tmp 5) (.tmp 18) rfl wx.heap.size 0 rfl rfl he26.out (zdw _) aV (Nat.le_of_eq hz26.out.symm) (zk _ _ (Nat.le_of_eq (hz26.out.trans he26.out.symm))) ?_; intro W1 a1 k1')
        | fail)
      try simp only [Act.put]
      have f1 : Fr wx W1 := k1'.below fV fV.size (Nat.le_refl _)
      have ho := hI.out.2.1
      have hne := own_ne ho
      have aW : ∀ W, GrS W1 A W → Arr W wx.heap.size 74 (ec x).toArray := fun W h => by
        obtain ⟨A', h⟩ := h
        exact h.arr a1 hne
      have lK : ∀ W, GrS W1 A W → (ldS 69 (.pointer (some ⟨wx.heap.size, 0, none⟩))).run Try.prog W = .ok (.agg (kc x.key).toArray) W := fun W h => zaf.ldMid (zl _) (zdm (aW W h) (by rw [zl]; exact zcC x))
      have lV : ∀ W, GrS W1 A W → (ldS 72 (.pointer (some ⟨wx.heap.size, 9, none⟩))).run Try.prog W = .ok (.agg (vc x.val).toArray) W := fun W h => zbs.ldMid (zD ox.wv.hl) (zdm (aW W h) (by rw [zD ox.wv.hl]; exact ze4 ox.wv.hl))
      have gD : Grw W1 A W1.drew A := Grw.of_fr A (zn (ze W1))
      have GD : GrS W1 A W1.drew := ⟨A, gD⟩
      have oW := ho.below f1 (Nat.le_refl _)
      have bW : Y.heap.size ≤ W1.heap.size := Nat.le_trans fw.size f1.size
      have oD := oW.below (zn (ze W1)) (Nat.le_refl _)
      have bD := Nat.le_trans bW gD.size
      have AW := zb aW
      clear aW ho oW fV aV hV lx k1'
      refine wp_region_noPanic ?_
      refine wp_region_held_drew (S := fun w' => GrS W1 A w') (by kernel_rfl) GD (fun hHeld => ?_)
      change wpAnyH _ _ _ _ _ _ _ _ _
      generalize W1.drew = X0 at *
      have gX := gD
      have oX := oD
      have bX := bD
      refine wpAnyH_take (i := 0) (v := ?_) rfl (by kernel_rfl) (by kernel_rfl) (by kernel_rfl) (fun _ _ _ h => h) (Or.inl ⟨by rfl, ?_⟩) (by assumption) ?_
      rotate_left
      · intro w' hSw
        try dsimp only at hSw
        go_simp
        try with_reducible rfl
      try simp only [List.getElem_toArray, List.getElem_cons_zero, Act.put, List.setIfInBounds_toArray, List.set_cons_zero, List.set_cons_succ]
      refine wpAnyH_take (i := 1) (v := ?_) rfl (by kernel_rfl) (by kernel_rfl) (by kernel_rfl) (fun _ _ _ h => h) (Or.inl ⟨by rfl, ?_⟩) (by assumption) ?_
      rotate_left
      · intro w' hSw
        try dsimp only at hSw
        go_simp
        try with_reducible rfl
      try simp only [List.getElem_toArray, List.getElem_cons_succ, List.getElem_cons_zero, Act.put, List.setIfInBounds_toArray, List.set_cons_zero, List.set_cons_succ]
      refine wpAnyH_take (i := 2) (v := ?_) rfl (by kernel_rfl) (by kernel_rfl) (by kernel_rfl) (fun _ _ _ h => h) (Or.inl ⟨by rfl, ?_⟩) (by assumption) ?_
      rotate_left
      · intro w' hSw
        try dsimp only at hSw
        go_simp
        try with_reducible rfl
      try simp only [List.getElem_toArray, List.getElem_cons_succ, List.getElem_cons_zero, Act.put, List.setIfInBounds_toArray, List.set_cons_zero, List.set_cons_succ]
      refine wpAnyH_take (i := 4) (v := ?_) rfl (by kernel_rfl) (by kernel_rfl) (by kernel_rfl) (fun _ _ _ h => h) (Or.inl ⟨by rfl, ?_⟩) (by assumption) ?_
      rotate_left
      · intro w' hSw
        try dsimp only at hSw
        go_simp
        try with_reducible rfl
      try simp only [List.getElem_toArray, List.getElem_cons_succ, List.getElem_cons_zero, Act.put, List.setIfInBounds_toArray, List.set_cons_zero, List.set_cons_succ]
      refine wpAnyH_take (i := 5) (v := ?_) rfl (by kernel_rfl) (by kernel_rfl) (by kernel_rfl) (fun _ _ _ h => h) (Or.inl ⟨by rfl, ?_⟩) (by assumption) ?_
      rotate_left
      · intro w' hSw
        try dsimp only at hSw
        go_simp
        try with_reducible rfl
      try simp only [List.getElem_toArray, List.getElem_cons_succ, List.getElem_cons_zero, Act.put, List.setIfInBounds_toArray, List.set_cons_zero, List.set_cons_succ]
      refine wpAnyH_ready (rs := [3]) (by kernel_rfl) (by simp) ?_
      refine AllReadyH.cons rfl (fun K hK0 => ?_) AllReadyH.nil
      go_simp
      refine (addKey_at oX bX (by omega) ox.ok).mono ?_
      rintro e w2 ⟨A2', c2', N2, rfl, h2⟩
      have G2 := gX.trans h2.out.2.2
      have S2 : GrS W1 A w2 := ⟨A2', G2⟩
      have hN2 : N2 ≤ N + 9 := by have := h2.out.1; have := kB_len ox.ok; obtain ⟨m, hm, hn, -⟩ := zi4 ox.ok; omega
      have b2 := Nat.le_trans bW G2.size
      go_simp
      refine hK0.out _ _ S2 (fun _ => ?_)
      clear hK0 K
      try simp only [List.getElem_toArray, List.getElem_cons_succ, List.getElem_cons_zero, Act.put, List.setIfInBounds_toArray, List.set_cons_zero, List.set_cons_succ]
      refine wpAnyH_ready (rs := [6]) (by kernel_rfl) (by simp) ?_
      refine AllReadyH.cons rfl (fun K hK0 => ?_) AllReadyH.nil
      go_simp
      refine (addValue_at h2.out.2.1 b2 (by omega) ox.wv ox.ov).mono ?_
      rintro e w3 ⟨A3', c3', N3, rfl, h3⟩
      have G3 := G2.trans h3.out.2.2
      have S3 : GrS W1 A w3 := ⟨A3', G3⟩
      go_simp
      refine hK0.out _ _ S3 (fun _ => ?_)
      clear hK0 K
      try simp only [List.getElem_toArray, List.getElem_cons_succ, List.getElem_cons_zero, Act.put, List.setIfInBounds_toArray, List.set_cons_zero, List.set_cons_succ]
      refine wpAnyH_take (i := 7) (v := ?_) rfl (by kernel_rfl) (by kernel_rfl) (by kernel_rfl) (fun _ _ _ h => h) (Or.inl ⟨by rfl, ?_⟩) (by assumption) ?_
      rotate_left
      · intro w' hSw
        try dsimp only at hSw
        go_simp
        try with_reducible rfl
      try simp only [List.getElem_toArray, List.getElem_cons_succ, List.getElem_cons_zero, Act.put, List.setIfInBounds_toArray, List.set_cons_zero, List.set_cons_succ]
      refine wpAnyH_done (by kernel_rfl) ?_ _
      refine NoPanic.normal ?_
      have hB3 := zb (BdI.step hI.out f1 (zb (p := N3 = N + (eB x).length ∧ _) ⟨by have e2 := h2.out.1; have e3 := h3.out.1; unfold eB; rw [List.length_append]; omega, (by have := h3.out.2.1; rw [List.append_assoc] at this; exact this), G3⟩))
      clear lK lV
      go_wp2_with fail
      go_roundg (gk - 1)
      case measure => have := Hj.out.1; have := Hj.out.2; omega
      case rel => exact ⟨j + 1, _, _, _, by have := Hj.out.1; omega, by go_num, rfl, zb (by rw [hsn.out]; exact hB3.out)⟩
    have hjz : ¬ (j : Int) < (n1 : Int) := by omega
    have ej : es.take j = es := List.take_of_length_le (by have := L1.out; omega)
    rw [ej] at hI
    have fw := zb hI.out.2.2
    clear hj hlt ej
    have hI1 := zb hI.out
    have c2x := c2 wx fw.out
    go_wp2_with fail
    go_loopg [3, 30] n2 (fun gg s3 si wr => ∃ (j : Nat) (A : Option Addr) (N c : Nat), j + gg = n2 ∧ si = .int .i64 j ∧ s3 = .slice A N c ∧ Hid (BdI Y wr A N c (es.flatMap eB ++ (ks.take j).flatMap iB)))
    case atStart => exact ⟨0, _, _, _, by omega, rfl, rfl, zb (by rw [List.take_zero, List.flatMap_nil, List.append_nil]; exact hI1.out)⟩
    case round =>
      obtain ⟨j, A, N, c, hj, rfl, rfl, hI⟩ := hrel
      obtain ⟨wx, rfl⟩ : ∃ W : World, W = wr := ⟨_, rfl⟩
      by_cases hlt : j < n2
      · have hjz : (j : Int) < (n2 : Int) := by omega
        have hm : ks[j]? = some (ks[j]'(by have := L2.out; omega)) := List.getElem?_eq_getElem _
        generalize ks[j]'(by have := L2.out; omega) = x at hm
        have hfl := flat_le iB ks (j + 1)
        have hfj := flat_le iB ks j
        rw [flat_snoc iB hm, List.length_append] at hfl
        have hsn := zb (flat_snoc iB hm)
        have fw := hI.out.2.2
        have hNl := hI.out.1
        try simp only [List.length_append, List.length_nil] at hNl
        have hN5 : N ≤ 1000 := by omega
        have Hj := zb (And.intro hj hlt)
        have oz := Wks.out x (List.mem_of_getElem? hm)
        obtain ⟨b, off, eA, hb1, hc⟩ := H2.out.form (by intro e; unfold zS at e; rw [List.map_eq_nil_iff.1 e] at hm; simp at hm)
        subst eA
        have hcx : wx.cell? ⟨b, off + j, none⟩ = some (.int .i64 x) := (fw.cell (p := ⟨b, off + j, none⟩) (by show b < _; omega)).trans (hc j _ (by unfold zS; rw [List.getElem?_map, hm]; rfl))
        have hwz : IntKind.u64.wrap x = x := by rw [zeB]; omega
        have h0x := oz.1
        have h1x := oz.2
        have cP := cput_at hI.out.2.1 fw.size (by omega) oz.1 4 (show (4 : Int) = ((4 : Nat) : Int) from rfl) (by decide) (by decide)
        clear hj hlt hc hm hfl hfj hNl c2 c2x oz
        go_wp2_with fail
        refine cP.mono ?_
        rintro e w2 ⟨A2', c2', N2, rfl, h2⟩
        have hB3 := zb (BdI.step hI.out (ze _) h2)
        clear cP
        go_wp2_with fail
        go_roundg (gk - 1)
        case measure => have := Hj.out.1; have := Hj.out.2; omega
        case rel => exact ⟨j + 1, _, _, _, by have := Hj.out.1; omega, by go_num, rfl, zb (by rw [hsn.out, ← List.append_assoc]; exact hB3.out)⟩
      have hjz : ¬ (j : Int) < (n2 : Int) := by omega
      have ej : ks.take j = ks := List.take_of_length_le (by have := L2.out; omega)
      rw [ej] at hI
      have fw := zb hI.out.2.2
      clear hj hlt ej
      have hI2 := zb hI.out
      have c3x := c3 wx fw.out
      go_wp2_with fail
      go_loopg [3, 42] n3 (fun gg s3 si wr => ∃ (j : Nat) (A : Option Addr) (N c : Nat), j + gg = n3 ∧ si = .int .i64 j ∧ s3 = .slice A N c ∧ Hid (BdI Y wr A N c (es.flatMap eB ++ ks.flatMap iB ++ (ps.take j).flatMap kB)))
      case atStart => exact ⟨0, _, _, _, by omega, rfl, rfl, zb (by rw [List.take_zero, List.flatMap_nil, List.append_nil]; exact hI2.out)⟩
      case round =>
        obtain ⟨j, A, N, c, hj, rfl, rfl, hI⟩ := hrel
        obtain ⟨wx, rfl⟩ : ∃ W : World, W = wr := ⟨_, rfl⟩
        by_cases hlt : j < n3
        · have hjz : (j : Int) < (n3 : Int) := by omega
          have hm : ps[j]? = some (ps[j]'(by have := L3.out; omega)) := List.getElem?_eq_getElem _
          generalize ps[j]'(by have := L3.out; omega) = x at hm
          have hfl := flat_le kB ps (j + 1)
          have hfj := flat_le kB ps j
          rw [flat_snoc kB hm, List.length_append] at hfl
          have hsn := zb (flat_snoc kB hm)
          have fw := hI.out.2.2
          have hNl := hI.out.1
          try simp only [List.length_append, List.length_nil] at hNl
          have hN5 : N ≤ 1000 := by omega
          have Hj := zb (And.intro hj hlt)
          have ox := Wps.out x (List.mem_of_getElem? hm)
          obtain ⟨b, off, eA, hb1, hr⟩ := zJ H3.out (show Wid kc 9 ps from fun x _ => zl x) (by decide) (by intro e; rw [e] at hm; simp at hm)
          subst eA
          have lX := z9 zaf hr (show Wid kc 9 ps from fun x _ => zl x) (by omega) hm
          have lx := lX wx fw
          obtain ⟨V, hV, fV, aV⟩ : ∃ V, wx.alloc (.cells (kc zr).toArray 69) = V ∧ Fr wx V ∧ Arr V wx.heap.size 69 (kc zr).toArray := ⟨_, rfl, zf (ze _) _, Arr.new _ _ _⟩
          change wx.alloc (.cells #[.int .i64 0, .int .u8 0, .int .u8 0, .int .u8 0, .int .u8 0, .int .u8 0, .int .u8 0, .int .u8 0, .int .u8 0] 69) = V at hV
          have tok1 : Hid (0 < 1) := zb (by decide)
          clear hj hlt lX hm hfl hfj hNl c3 c3x
          go_upto_region 15 with (first
            | (clear tok1; refine wpList_put (ds := kc x) zC rfl (.tmp 9) (.tmp 45) rfl wx.heap.size 0 rfl rfl (zl _) (zU _) aV (Nat.le_of_ble_eq_true rfl) (zk _ _ (Nat.le_of_eq rfl)) ?_; intro W1 a1 k1')
            | fail)
          try simp only [Act.put]
          have f1 : Fr wx W1 := k1'.below fV fV.size (Nat.le_refl _)
          have bW : Y.heap.size ≤ W1.heap.size := Nat.le_trans fw.size f1.size
          have cP := addKey_at (hI.out.2.1.below f1 (Nat.le_refl _)) bW (by omega) ox
          have l1 : (ldS 69 (.pointer (some ⟨wx.heap.size, 0, none⟩))).run Try.prog W1 = .ok (.agg (kc x).toArray) W1 := zaf.ld (zl _) a1
          clear fV aV hV lx k1' a1
          go_wp2_with fail
          refine cP.mono ?_
          rintro e w2 ⟨A2', c2', N2, rfl, h2⟩
          have hB3 := zb (BdI.step hI.out f1 h2)
          clear cP
          go_wp2_with fail
          go_roundg (gk - 1)
          case measure => have := Hj.out.1; have := Hj.out.2; omega
          case rel => exact ⟨j + 1, _, _, _, by have := Hj.out.1; omega, by go_num, rfl, zb (by rw [hsn.out, ← List.append_assoc]; exact hB3.out)⟩
        have hjz : ¬ (j : Int) < (n3 : Int) := by omega
        have ej : ps.take j = ps := List.take_of_length_le (by have := L3.out; omega)
        rw [ej] at hI
        have fw := zb hI.out.2.2
        clear hj hlt ej
        have hI3 := zb hI.out
        have c4x := c4 wx fw.out
        go_wp2_with fail
        go_loopg [3, 53] n4 (fun gg s3 si wr => ∃ (j : Nat) (A : Option Addr) (N c : Nat), j + gg = n4 ∧ si = .int .i64 j ∧ s3 = .slice A N c ∧ Hid (BdI Y wr A N c (es.flatMap eB ++ ks.flatMap iB ++ ps.flatMap kB ++ (ms.take j).flatMap mB)))
        case atStart => exact ⟨0, _, _, _, by omega, rfl, rfl, zb (by rw [List.take_zero, List.flatMap_nil, List.append_nil]; exact hI3.out)⟩
        case round =>
          obtain ⟨j, A, N, c, hj, rfl, rfl, hI⟩ := hrel
          obtain ⟨wx, rfl⟩ : ∃ W : World, W = wr := ⟨_, rfl⟩
          by_cases hlt : j < n4
          · have hjz : (j : Int) < (n4 : Int) := by omega
            have hm : ms[j]? = some (ms[j]'(by have := L4.out; omega)) := List.getElem?_eq_getElem _
            generalize ms[j]'(by have := L4.out; omega) = x at hm
            have hfl := flat_le mB ms (j + 1)
            have hfj := flat_le mB ms j
            rw [flat_snoc mB hm, List.length_append] at hfl
            have hsn := zb (flat_snoc mB hm)
            have fw := hI.out.2.2
            have hNl := hI.out.1
            try simp only [List.length_append, List.length_nil] at hNl
            have hN5 : N ≤ 1000 := by omega
            have Hj := zb (And.intro hj hlt)
            have ox := Wms.out x (List.mem_of_getElem? hm)
            obtain ⟨b, off, eA, hb1, hr⟩ := zJ H4.out (show Wid mc 29 ms from fun x hx => zP (w6.out x hx).val.hl) (by decide) (by intro e; rw [e] at hm; simp at hm)
            subst eA
            have lX := z9 za4 hr (show Wid mc 29 ms from fun x hx => zP (w6.out x hx).val.hl) (by omega) hm
            have lx := lX wx fw
            have he29 := zb (zP ox.1.val.hl)
            have hz29 : Hid ((mc za0).length = 29) := zb rfl
            obtain ⟨V, hV, fV, aV⟩ : ∃ V, wx.alloc (.cells (mc za0).toArray 81) = V ∧ Fr wx V ∧ Arr V wx.heap.size 81 (mc za0).toArray := ⟨_, rfl, zf (ze _) _, Arr.new _ _ _⟩
            rw [zdM] at hV
            have tok1 : Hid (0 < 1) := zb (by decide)
            clear hj hlt lX hm hfl hfj hNl c4 c4x
            go_upto_region 20 with (first
              | (clear tok1; refine wpList_put (ds := mc x) zX rfl (.tmp 11) (.tmp 56) rfl wx.heap.size 0 rfl rfl he29.out (zay _) aV (Nat.le_of_eq hz29.out.symm) (zk _ _ (Nat.le_of_eq (hz29.out.trans he29.out.symm))) ?_; intro W1 a1 k1')
              | fail)
            try simp only [Act.put]
            have f1 : Fr wx W1 := k1'.below fV fV.size (Nat.le_refl _)
            have bW : Y.heap.size ≤ W1.heap.size := Nat.le_trans fw.size f1.size
            have cP := addMsg_at (hI.out.2.1.below f1 (Nat.le_refl _)) bW (by omega) ox.1 ox.2
            have l1 : (ldS 81 (.pointer (some ⟨wx.heap.size, 0, none⟩))).run Try.prog W1 = .ok (.agg (mc x).toArray) W1 := za4.ld he29.out a1
            clear fV aV hV lx k1' a1
            go_wp2_with fail
            refine cP.mono ?_
            rintro e w2 ⟨A2', c2', N2, rfl, h2⟩
            have hB3 := zb (BdI.step hI.out f1 h2)
            clear cP
            go_wp2_with fail
            go_roundg (gk - 1)
            case measure => have := Hj.out.1; have := Hj.out.2; omega
            case rel => exact ⟨j + 1, _, _, _, by have := Hj.out.1; omega, by go_num, rfl, zb (by rw [hsn.out, ← List.append_assoc]; exact hB3.out)⟩
          have hjz : ¬ (j : Int) < (n4 : Int) := by omega
          have ej : ms.take j = ms := List.take_of_length_le (by have := L4.out; omega)
          rw [ej] at hI
          have fw := zb hI.out.2.2
          clear hj hlt ej
          have hI4 : BdI Y wx A N c bod := by
            have := hI.out
            rw [hbod.out]
            simpa only [List.append_assoc] using this
          clear hI
          go_wp2_with fail
          go_ret
          exact ⟨_, _, _, rfl, zb ⟨hI4.1, hI4.2.1.mono zY, za fY hI4.2.2⟩⟩
end Go.Proofs.Ytmjjjdikpnhpiaa
/- What encodes a block, four: the sum, the whole. -/
namespace Go.Proofs.Ytmjjjdikpnhpiaa
set_option linter.unusedVariables false
set_option linter.unusedSimpArgs false
set_option maxRecDepth 100000
open Go.RowKit
def toN (l : List Int) : List Nat := l.map Int.toNat
theorem octs_toN {l : List Int} (h : zdi l) : octs (toN l) = u8s l := by
  unfold octs toN
  rw [List.map_map]
  refine List.map_congr_left fun z hz => ?_
  have := h z hz
  show Value.int .u8 ((z.toNat : Nat) : Int) = _
  rw [Int.toNat_of_nonneg this.1]
theorem octets_toN {l : List Int} (h : zdi l) : Octets (toN l) := fun b hb => by
  obtain ⟨z, hz, rfl⟩ := List.mem_map.1 hb
  have := h z hz
  omega
theorem toN_len (l : List Int) : (toN l).length = l.length := by simp [toN]
theorem bytes_z4 : zdi [0, 0, 0, 0] := fun z hz => by simp at hz; omega
theorem octets_z4 : Octets [0, 0, 0, 0] := fun z hz => by simp at hz; omega
/-- The sum of a block's bytes, its own four as 0. -/
def sumB (b : List Int) : Nat := moreS 0 (toN (b.take 4 ++ ([0, 0, 0, 0] ++ b.drop 8)))
theorem sumB_lt {b : List Int} (h : zdi b) : sumB b < 4294967296 := moreS_lt (by decide) (octets_toN (bytes_app (zdD h 4) (bytes_app bytes_z4 (bytes_drop h 8))))
theorem crc_sumN {A : Option Addr} {n c : Nat} {l : List Int} (hl : l.length = n) (h : zdi l) (hn : n ≤ 100000) {W0 w : World} (f : Fr W0 w) (hr : Has w w.heap.size A (u8s l)) :
    Calls Try.prog 31 #[.slice A n c] w fun e w' => e = .returned (.int .u32 ((moreS 0 (toN l) : Nat) : Int)) ∧ Fr W0 w' :=
  (crc_sum A n c (toN l) (by rw [toN_len]; exact hl) (octets_toN h) hn w (by rw [octs_toN h]; exact hr)).mono fun e w' h => ⟨h.1, za f h.2⟩
theorem crc_moreN {s : Nat} (hs : s < 4294967296) {A : Option Addr} {n c : Nat} {l : List Int} (hl : l.length = n) (h : zdi l) (hn : n ≤ 100000) {W0 w : World} (f : Fr W0 w) (hr : Has w w.heap.size A (u8s l)) :
    Calls Try.prog 29 #[.int .u32 (s : Int), .slice A n c] w fun e w' => e = .returned (.int .u32 ((moreS s (toN l) : Nat) : Int)) ∧ Fr W0 w' :=
  (crc_more s hs A n c (toN l) (by rw [toN_len]; exact hl) (octets_toN h) hn w (by rw [octs_toN h]; exact hr)).mono fun e w' h => ⟨h.1, za f h.2⟩
theorem crc_zeros4 {s : Nat} (hs : s < 4294967296) {W0 w : World} (f : Fr W0 w) :
    Calls Try.prog 30 #[.int .u32 (s : Int), .int .i64 4] w fun e w' => e = .returned (.int .u32 ((moreS s [0, 0, 0, 0] : Nat) : Int)) ∧ Fr W0 w' :=
  (crc_zeros s hs 4 w).mono fun e w' h => ⟨h.1, za f h.2⟩
set_option maxHeartbeats 2000000 in
theorem sum_at {w : World} {B : Nat} {A : Option Addr} {l : List Int} (h : Has w B A (u8s l)) (hB : B ≤ w.heap.size) (hl : l.length = 256) (hby : zdi l) {c : Nat} (hc256 : 256 ≤ c) :
    Calls Try.prog 11 #[.slice A 256 c] w fun e w' => e = .returned (.int .u32 ((sumB l : Nat) : Int)) ∧ Fr w w' := by
  obtain ⟨b, off, rfl, hb, hc⟩ := h.form (by intro e; have := congrArg List.length e; rw [List.length_map, hl] at this; cases this)
  have hA : Has w B (some ⟨b, off, none⟩) (u8s (l.take 4)) := by rw [show u8s (l.take 4) = (u8s l).take 4 from List.map_take]; exact h.take 4
  have hD : Has w B (some ⟨b, off + 8, none⟩) (u8s (l.drop 8)) := by rw [show u8s (l.drop 8) = (u8s l).drop 8 from List.map_drop]; exact h.drop 8
  have ba := zdD hby 4
  have bd := bytes_drop hby 8
  have la : (l.take 4).length = 4 := by rw [List.length_take]; omega
  have ld : (l.drop 8).length = 248 := by rw [List.length_drop]; omega
  have fin : moreS (moreS (moreS 0 (toN (l.take 4))) [0, 0, 0, 0]) (toN (l.drop 8)) = sumB l := by
    unfold sumB toN
    rw [moreS_app, moreS_app, List.map_append, List.map_append]
    rfl
  have s1 := moreS_lt (s := 0) (by decide) (octets_toN ba)
  have s2 := moreS_lt (l := [0, 0, 0, 0]) s1 octets_z4
  generalize l.take 4 = la1 at *
  generalize l.drop 8 = ld1 at *
  have hS := fun W (f : Fr w W) => crc_sumN (c := c) la ba (by decide) f ((hA.lift fun p hp => f.cell (by omega)).mono (Nat.le_trans hB f.size))
  have hM := fun W (f : Fr w W) => crc_moreN (c := c - 8) s2 ld bd (by decide) f ((hD.lift fun p hp => f.cell (by omega)).mono (Nat.le_trans hB f.size))
  have hZ := fun W (f : Fr w W) => crc_zeros4 s1 f
  generalize moreS 0 (toN la1) = S1 at *
  generalize moreS S1 [0, 0, 0, 0] = S2 at *
  generalize moreS S2 (toN ld1) = S3 at *
  subst fin
  have fD := zn (ze w)
  have hc4 : ¬ c = 8 := by omega
  have hci : (4 : Int) ≤ (c : Int) := by omega
  have hcj : (8 : Int) ≤ (c : Int) := by omega
  clear h hc hA hD ba bd la ld hby
  go_enter Try.func11, Try.ntmps11
  go_wp2_with fail
  refine wp_region_noPanic ?_
  refine wp_region_held_drew (S := fun w' => Fr w w') (by kernel_rfl) fD (fun hHeld => ?_)
  change wpAnyH _ _ _ _ _ _ _ _ _
  generalize w.drew = X0 at *
  refine wpAnyH_take (i := 0) (v := ?_) rfl (by kernel_rfl) (by kernel_rfl) (by kernel_rfl) (fun _ _ _ h => h) (Or.inl ⟨by rfl, ?_⟩) (by assumption) ?_
  rotate_left
  · intro w' hSw
    try dsimp only at hSw
    go_simp
    try with_reducible rfl
  try simp only [List.getElem_toArray, List.getElem_cons_zero, Act.put, List.setIfInBounds_toArray, List.set_cons_zero, List.set_cons_succ]
  refine wpAnyH_take (i := 1) (v := ?_) rfl (by kernel_rfl) (by kernel_rfl) (by kernel_rfl) (fun _ _ _ h => h) (Or.inl ⟨by rfl, ?_⟩) (by assumption) ?_
  rotate_left
  · intro w' hSw
    try dsimp only at hSw
    go_simp
    try with_reducible rfl
  try simp only [List.getElem_toArray, List.getElem_cons_succ, List.getElem_cons_zero, Act.put, List.setIfInBounds_toArray, List.set_cons_zero, List.set_cons_succ]
  refine wpAnyH_take (i := 4) (v := ?_) rfl (by kernel_rfl) (by kernel_rfl) (by kernel_rfl) (fun _ _ _ h => h) (Or.inl ⟨by rfl, ?_⟩) (by assumption) ?_
  rotate_left
  · intro w' hSw
    try dsimp only at hSw
    go_simp
    try with_reducible rfl
  try simp only [List.getElem_toArray, List.getElem_cons_succ, List.getElem_cons_zero, Act.put, List.setIfInBounds_toArray, List.set_cons_zero, List.set_cons_succ]
  refine wpAnyH_take (i := 5) (v := ?_) rfl (by kernel_rfl) (by kernel_rfl) (by kernel_rfl) (fun _ _ _ h => h) (Or.inl ⟨by rfl, ?_⟩) (by assumption) ?_
  rotate_left
  · intro w' hSw
    try dsimp only at hSw
    go_simp
    try with_reducible rfl
  try simp only [List.getElem_toArray, List.getElem_cons_succ, List.getElem_cons_zero, Act.put, List.setIfInBounds_toArray, List.set_cons_zero, List.set_cons_succ]
  refine wpAnyH_ready (rs := [2]) (by kernel_rfl) (by simp) ?_
  refine AllReadyH.cons rfl (fun K hK0 => ?_) AllReadyH.nil
  go_simp
  refine (hS _ (by assumption)).mono ?_
  rintro e y1 ⟨rfl, fy1⟩
  go_simp
  refine hK0.out _ _ fy1 (fun _ => ?_)
  clear hK0 K
  try simp only [List.getElem_toArray, List.getElem_cons_succ, List.getElem_cons_zero, Act.put, List.setIfInBounds_toArray, List.set_cons_zero, List.set_cons_succ]
  refine wpAnyH_ready (rs := [3]) (by kernel_rfl) (by simp) ?_
  refine AllReadyH.cons rfl (fun K hK0 => ?_) AllReadyH.nil
  go_simp
  refine (hZ _ (by assumption)).mono ?_
  rintro e y2 ⟨rfl, fy2⟩
  go_simp
  refine hK0.out _ _ fy2 (fun _ => ?_)
  clear hK0 K
  try simp only [List.getElem_toArray, List.getElem_cons_succ, List.getElem_cons_zero, Act.put, List.setIfInBounds_toArray, List.set_cons_zero, List.set_cons_succ]
  refine wpAnyH_ready (rs := [6]) (by kernel_rfl) (by simp) ?_
  refine AllReadyH.cons rfl (fun K hK0 => ?_) AllReadyH.nil
  go_simp
  refine (hM _ (by assumption)).mono ?_
  rintro e y3 ⟨rfl, fy3⟩
  go_simp
  refine hK0.out _ _ fy3 (fun _ => ?_)
  clear hK0 K
  try simp only [List.getElem_toArray, List.getElem_cons_succ, List.getElem_cons_zero, Act.put, List.setIfInBounds_toArray, List.set_cons_zero, List.set_cons_succ]
  refine wpAnyH_take (i := 7) (v := ?_) rfl (by kernel_rfl) (by kernel_rfl) (by kernel_rfl) (fun _ _ _ h => h) (Or.inl ⟨by rfl, ?_⟩) (by assumption) ?_
  rotate_left
  · intro w' hSw
    try dsimp only at hSw
    go_simp
    try with_reducible rfl
  try simp only [List.getElem_toArray, List.getElem_cons_succ, List.getElem_cons_zero, Act.put, List.setIfInBounds_toArray, List.set_cons_zero, List.set_cons_succ]
  refine wpAnyH_done (by kernel_rfl) ?_ _
  refine NoPanic.normal ?_
  go_wp2_with fail
  go_ret
  exact ⟨rfl, fy3⟩
/-- A block ahead of its sum, and with it. -/
def pdB (n : RN) : List Int := headB n ++ ([0, 0, 0, 0] ++ (bodyB n ++ List.replicate (248 - (bodyB n).length) 0))
def bkB (n : RN) : List Int := headB n ++ (leB (sumB (pdB n)) 4 ++ (bodyB n ++ List.replicate (248 - (bodyB n).length) 0))
theorem headB_len (n : RN) : (headB n).length = 4 := by unfold headB; split <;> rfl
theorem pdB_len {n : RN} (h : (bodyB n).length ≤ 248) : (pdB n).length = 256 := by unfold pdB; simp [headB_len]; omega
theorem bkB_len {n : RN} (h : (bodyB n).length ≤ 248) : (bkB n).length = 256 := by unfold bkB; simp [headB_len, zcP]; omega
theorem u8s_splice (a b : List Int) (o : Nat) : splice (u8s a) o (u8s b) = u8s (splice a o b) := by
  unfold splice
  simp
theorem pad_0 (n : RN) (h : (bodyB n).length ≤ 248) : splice (splice (List.replicate 256 0) 0 (headB n)) 8 (bodyB n) = pdB n := by
  have e := headB_len n
  unfold splice pdB
  rw [List.take_zero, List.nil_append, e, List.drop_replicate]
  rw [List.take_append, e, List.take_of_length_le (l := headB n) (by omega), List.take_replicate]
  rw [List.drop_append, e, List.drop_of_length_le (l := headB n) (by omega), List.drop_replicate, List.nil_append, List.append_assoc]
  congr 2
  congr 2
  omega
theorem pad_1 (n : RN) (h : (bodyB n).length ≤ 248) : splice (pdB n) 4 (leB (sumB (pdB n)) 4) = bkB n := by
  have e := headB_len n
  unfold splice
  rw [zcP]
  unfold bkB
  generalize leB (sumB (pdB n)) 4 = q
  unfold pdB
  generalize bodyB n ++ List.replicate (248 - (bodyB n).length) 0 = Y
  rw [List.take_left' e, show headB n ++ ([0, 0, 0, 0] ++ Y) = (headB n ++ [0, 0, 0, 0]) ++ Y from by simp, List.drop_left' (by simp [e])]
theorem eB_len {e : RE} (o : e.ok) : ((eB e).length : Int) = zcs e := by
  unfold eB zcs
  rw [List.length_append]
  have := kB_len o.ok
  have := vB_len o.wv o.ov
  omega
theorem mB_len {m : RM} (w : m.wf) (om : okM m = true) : ((mB m).length : Int) = zc9 m := by
  rw [bytM_of om]
  unfold mB tB
  have hk := kB_len (okM_okB om)
  simp only [List.length_cons, List.length_append, zcP]
  rcases okM_kind om with h | h | h
  · rw [if_pos h, if_pos h]
    have := vB_len w.val (okM_one om h).2.2
    omega
  · rw [if_neg (by omega), if_neg (by omega), if_neg (by omega), if_neg (by omega)]
    simp only [List.length_nil]
    omega
  · rw [if_neg (by omega), if_pos h, if_neg (by omega), if_pos h, zcP]
    omega
theorem flatE_len : ∀ {l : List RE}, (∀ e ∈ l, e.ok) → ((l.flatMap eB).length : Int) = zQ l
  | [], _ => rfl
  | e :: l, h => by
    rw [List.flatMap_cons, List.length_append, zdx, ← flatE_len (fun x hx => h x (List.mem_cons_of_mem _ hx)), ← eB_len (h e (by simp))]
    omega
theorem flatM_len : ∀ {l : List RM}, (∀ m ∈ l, m.wf ∧ okM m = true) → ((l.flatMap mB).length : Int) = zbB l
  | [], _ => rfl
  | e :: l, h => by
    rw [List.flatMap_cons, List.length_append, zoO, ← flatM_len (fun x hx => h x (List.mem_cons_of_mem _ hx)), ← mB_len (h e (by simp)).1 (h e (by simp)).2]
    omega
theorem flatI_len : ∀ (l : List Int), (l.flatMap iB).length = 4 * l.length
  | [] => rfl
  | z :: l => by rw [List.flatMap_cons, List.length_append, flatI_len l, iB, zcP, List.length_cons]; omega
theorem flatK_len : ∀ {l : List RK}, (∀ k ∈ l, okB k = true) → (l.flatMap kB).length ≤ 9 * l.length
  | [], _ => Nat.le_refl _
  | k :: l, h => by
    have := flatK_len (l := l) (fun x hx => h x (List.mem_cons_of_mem _ hx))
    have h2 := kB_len (h k (by simp))
    obtain ⟨m, hm, hn, -⟩ := zi4 (h k (by simp))
    rw [List.flatMap_cons, List.length_append, List.length_cons]
    omega
theorem min_len {α : Type} (f : α → List Int) (c : Nat) : ∀ (l : List α), (∀ x ∈ l, c ≤ (f x).length) → c * l.length ≤ (l.flatMap f).length
  | [], _ => Nat.le_refl _
  | x :: l, h => by
    have := min_len f c l (fun y hy => h y (List.mem_cons_of_mem _ hy))
    have h2 := h x (by simp)
    rw [List.flatMap_cons, List.length_append, List.length_cons, Nat.mul_succ]
    omega
/-- What a node that fits is written as. -/
structure WrF (n : RN) : Prop extends Wr n where
  b248 : (bodyB n).length ≤ 248
  e255 : n.es.length ≤ 124
  k255 : n.ks.length ≤ 4
  m255 : n.ms.length ≤ 24
theorem wr_of {n : RN} (o : OkN n) (hb : zcW n ≤ rmN n) : WrF n := by
  unfold zcW rmN at hb
  rcases o with ⟨hl, e2, e3, e4, oe⟩ | ⟨hl, e1, hk, hp, op, ol⟩
  · rw [hl, if_pos rfl, if_pos rfl] at hb
    have he : ∀ e ∈ n.es, e.ok := oe.good
    have h1 := flatE_len he
    have h2 := min_len eB 2 n.es fun e h => by
      have := eB_len (he e h)
      have := zf8 (e := e) ⟨by obtain ⟨m, hm, hn, -⟩ := zi4 (he e h).ok; omega, by obtain ⟨m, hm, hn, -⟩ := zi4 (he e h).ok; omega, by obtain ⟨m, hm, hn, -⟩ := ziC (he e h).ov; omega, by obtain ⟨m, hm, hn, -⟩ := ziC (he e h).ov; omega⟩
      omega
    have hB : bodyB n = n.es.flatMap eB := by unfold bodyB; rw [e2, e3, e4]; simp
    refine ⟨⟨he, by rw [e2]; simp, by rw [e3]; simp, by rw [e3]; simp, by rw [e2, e4]; simp; omega, by rw [e4]; simp, by rw [hB]; omega⟩, by rw [hB]; omega, by omega, by rw [e2]; simp, by rw [e4]; simp⟩
  · rw [hl, if_neg (by decide), if_neg (by decide)] at hb
    obtain ⟨k2, k4, kg⟩ := hk
    have hm : ∀ m ∈ n.ms, m.wf ∧ okM m = true := ol.good
    have hk : ∀ k ∈ n.ps, okB k = true := fun k h => (op.good k h).2
    have h1 := flatM_len hm
    have h2 := min_len mB 10 n.ms fun m h => by
      have := mB_len (hm m h).1 (hm m h).2
      have := bytM_bd (hm m h).2
      omega
    have h3 := flatI_len n.ks
    have h4 := flatK_len hk
    have hz : ∀ z ∈ n.ks, 0 ≤ z ∧ z < 4294967296 := fun z h => by have := kg.1 z h; omega
    have hB : (bodyB n).length = (n.ks.flatMap iB).length + ((n.ps.flatMap kB).length + (n.ms.flatMap mB).length) := by unfold bodyB; rw [e1]; simp
    refine ⟨⟨by rw [e1]; simp, hz, hk, fun k h => (op.good k h).1, by rw [e1]; simp; omega, hm, by omega⟩, by omega, by rw [e1]; simp, by omega, by omega⟩
end Go.Proofs.Ytmjjjdikpnhpiaa
/- What encodes a block, five: Encode. -/
namespace Go.Proofs.Ytmjjjdikpnhpiaa
set_option linter.unusedVariables false
set_option linter.unusedSimpArgs false
set_option maxRecDepth 100000
open Go.RowKit
theorem run_copy_keep {P : Program} {w : World} (dT sT ty : TypeId) {elem : TypeId} (hu : P.underlying dT = some (.slice elem)) (hsz : (P.info? elem).map (·.size) = some 1)
    {dp sp : Option Addr} {dLen dCap sLen sCap : Nat} (g off : Nat) {cur : List Value} {t : TypeId} (hg : Arr w g t cur.toArray) {cs : List Value} (hn : cs.length = min sLen dLen)
    (hdp : dp = some ⟨g, off, none⟩) {C : Nat} (hsp : Has w C sp cs) (hfit : off + cs.length ≤ cur.length) (h1 : ∀ v ∈ cs, v.oneCell' = true) :
    ∃ r w', (Builtin.copy_ #[dT, sT] ty #[.slice dp dLen dCap, .slice sp sLen sCap]).run P w = .ok r w' ∧ Arr w' g t (splice cur off cs).toArray ∧ KpG w g w' := by
  by_cases h0 : cs.length = 0
  · obtain rfl : cs = [] := List.eq_nil_of_length_eq_zero h0
    exact ⟨_, _, run_copy_none (P := P) w dT sT ty elem dp sp dLen dCap sLen sCap hu hsz (by simpa using hn.symm), by simpa [splice] using hg, KpG.refl _ _⟩
  · obtain ⟨b, o2, rfl, -, hsrc⟩ := hsp.form (by intro e; rw [e] at h0; exact h0 rfl)
    subst hdp
    exact ⟨_, _, run_copy_row (P := P) w dT sT ty elem g off dLen dCap ⟨b, o2, none⟩ sLen sCap cur.toArray t cs hu hsz hg hn (fun j v hv => by rw [Addr.add_lit]; exact hsrc j v hv) (by simpa using hfit) h1, by simpa [splice, Arr] using setRow_heap w g _ _ t _ hg, kpg_setRow _⟩
/-- 'copy' of bytes into a block of the call's own, as a step of a region that draws its order. -/
theorem step_copy_keep {w : World} {ops : Array Oper} {o : Oper} {a : Act} {K : Act → World → Prop} {Q : Exit → Act → World → Prop} {E : Prop} (hgd : o.guard = none) (d s : Operand)
    (hop : o.op = .call { callee := .builtin .copy, args := #[d, s], argTypes := #[22, 22] })
    {dp sp : Option Addr} {dLen dCap sLen sCap : Nat} (hd : a.eval d = .slice dp dLen dCap) (hs : a.eval s = .slice sp sLen sCap)
    (g off : Nat) {cur zs : List Int} (hg : Arr w g 5 (u8s cur).toArray) (hn : zs.length = min sLen dLen) (hdp : dp = some ⟨g, off, none⟩) {C : Nat} (hsp : Has w C sp (u8s zs)) (hfit : off + zs.length ≤ cur.length)
    (h : ∀ r w', Arr w' g 5 (u8s (splice cur off zs)).toArray → KpG w g w' → K (a.put o.dst r) w') : if Region.wanted o (yielded ops a.tmps) = true then Oper.wp Try.prog o a w K Q else E := by
  obtain ⟨r, w', hr, h1, h2⟩ := run_copy_keep (P := Try.prog) (w := w) 22 22 o.type (dLen := dLen) (dCap := dCap) (sLen := sLen) (sCap := sCap) Try.underlying22 zhx g off hg (cs := u8s zs) (by simpa using hn) hdp hsp (by simpa using hfit) (zgJ _)
  rw [u8s_splice] at h1
  exact zcx (by simp [Region.wanted, hgd]) d s _ _ hop _ _ hd hs hr (h r w' h1 h2)
theorem wpList_copy_u8 {w : World} {ops : Array Oper} {rest : List Oper} {o : Oper} {a : Act} {Q : Exit → Act → World → Prop} (hgd : o.guard = none) (d s : Operand)
    (hop : o.op = .call { callee := .builtin .copy, args := #[d, s], argTypes := #[22, 22] })
    {dp sp : Option Addr} {dLen dCap sLen sCap : Nat} (hd : a.eval d = .slice dp dLen dCap) (hs : a.eval s = .slice sp sLen sCap)
    (g off : Nat) {cur zs : List Int} (hg : Arr w g 5 (u8s cur).toArray) (hn : zs.length = min sLen dLen) (hdp : dp = some ⟨g, off, none⟩) {C : Nat} (hsp : Has w C sp (u8s zs)) (hfit : off + zs.length ≤ cur.length)
    (h : ∀ r w', Arr w' g 5 (u8s (splice cur off zs)).toArray → KpG w g w' → wpList Try.prog ops Q rest (a.put o.dst r) w') : wpList Try.prog ops Q (o :: rest) a w := by
  refine wpList_copy_keep hgd d s _ _ hop 5 Try.underlying22 zhx hd hs g off hg (cs := u8s zs) (by simpa using hn) hdp hsp (by simpa using hfit) (zgJ _) ?_
  intro w' r h1 h2
  rw [u8s_splice] at h1
  exact h r w' h1 h2
theorem u8s_zeros (n : Nat) : (u8s (List.replicate n 0)).toArray = Array.replicate n (Value.int .u8 0) := by
  rw [show u8s (List.replicate n 0) = List.replicate n (Value.int .u8 0) from List.map_replicate, List.toArray_replicate]
theorem cbool_eq {a b : Bool} (h : a = true ↔ b = true) : a = b := by
  cases a <;> cases b <;> simp_all
theorem q_fitb {W : World} {B : Nat} {v : NV} {n : RN} {b : Bool} (h : NH W B v n) (hb : b = true ↔ OkN n ∧ zcW n ≤ rmN n) : Calls Try.prog 23 #[nv v] W fun e w' => e = .returned (.bool b) ∧ Fr W w' :=
  (q_fits h).mono fun e w' h => by
    obtain ⟨⟨b', he, hb'⟩, f⟩ := h
    rw [he, cbool_eq (hb'.trans hb.symm)]
    exact ⟨rfl, f⟩
attribute [local go_sem ↓] zw zt zae zbh zaP
set_option maxHeartbeats 2000000 in
theorem encode_no {w : World} {v : NV} {n : RN} (h : NH w w.heap.size v n) (hno : ¬ (OkN n ∧ zcW n ≤ rmN n)) :
    Calls Try.prog 9 #[nv v] w fun e w' => e = .returned (.tuple #[.slice none 0 0, .int .i64 4]) ∧ Fr w w' := by
  obtain ⟨Y, hY, fY, -, -, -, -, -, -, lY⟩ := nod_boxed w v
  have lY := lY Y (ze _)
  have cF := q_fitb (b := false) (h.fr fY) ⟨fun e => (by cases e), fun e => absurd e hno⟩
  unfold nv at cF ⊢
  clear h hno
  go_enter Try.func9, Try.ntmps9
  go_wp2_with fail
  refine cF.mono ?_
  rintro e w1 ⟨rfl, f1⟩
  go_wp2_with fail
  go_ret2
  exact ⟨rfl, za fY f1⟩
theorem NH.grow_top {w W : World} {v : NV} {n : RN} (h : NH W w.heap.size v n) (f : Fr w W) : NH W W.heap.size v n :=
  { h with hB := Nat.le_refl _, h1 := h.h1.mono f.size, h2 := h.h2.mono f.size, h3 := h.h3.mono f.size, h4 := h.h4.mono f.size }
theorem bytes_flat {α : Type} {f : α → List Int} {l : List α} (h : ∀ x ∈ l, zdi (f x)) : zdi (l.flatMap f) := fun z hz => by
  obtain ⟨x, hx, hz⟩ := List.mem_flatMap.1 hz
  exact h x hx z hz
theorem bytes_tB {m : RM} (w : m.wf) (o : okM m = true) : zdi (tB m) := by
  unfold tB
  split
  · rename_i hk; exact bytes_vB w.val (okM_one o hk).2.2
  · split
    · exact znQ _ _
    · exact bytes_nil
theorem bytes_mB {m : RM} (w : m.wf) (o : okM m = true) : zdi (mB m) := fun z hz => by
  rcases List.mem_cons.1 hz with rfl | hz
  · have := okM_kind o; omega
  · exact bytes_app (znQ _ _) (bytes_app (bytes_kB w.key (okM_okB o)) (bytes_tB w o)) z hz
theorem bytes_headB {n : RN} (h : n.es.length ≤ 124 ∧ n.ks.length ≤ 4 ∧ n.ms.length ≤ 24) : zdi (headB n) := fun z hz => by
  unfold headB at hz
  split at hz
  · simp at hz; omega
  · simp at hz; omega
theorem bytes_bodyB {n : RN} (h : Wr n) : zdi (bodyB n) :=
  bytes_app (bytes_flat fun x hx => bytes_app (bytes_kB (h.es x hx).wk (h.es x hx).ok) (bytes_vB (h.es x hx).wv (h.es x hx).ov)) (bytes_app (bytes_flat fun x hx => znQ _ _) (bytes_app (bytes_flat fun x hx => bytes_kB (h.pw x hx) (h.ps x hx)) (bytes_flat fun x hx => bytes_mB (h.ms x hx).1 (h.ms x hx).2)))
theorem bytes_pdB {n : RN} (h : Wr n) : zdi (pdB n) := bytes_app (bytes_headB h.hd) (bytes_app bytes_z4 (bytes_app (bytes_bodyB h) (zeR _)))
theorem bytes_bkB {n : RN} (h : Wr n) : zdi (bkB n) := bytes_app (bytes_headB h.hd) (bytes_app (znQ _ _) (bytes_app (bytes_bodyB h) (zeR _)))
set_option maxHeartbeats 4000000 in
theorem encode_yes {w : World} {v : NV} {n : RN} (h : NH w w.heap.size v n) (ok : OkN n) (hb : zcW n ≤ rmN n) :
    Calls Try.prog 9 #[nv v] w fun e w' => ∃ g, e = .returned (.tuple #[.slice (some ⟨g, 0, none⟩) 256 256, .int .i64 0]) ∧ Hid (w.heap.size ≤ g ∧ Arr w' g 5 (u8s (bkB n)).toArray ∧ Fr w w') := by
  obtain ⟨Y, hY, fY, -, -, -, -, -, -, lY⟩ := nod_boxed w v
  have cF := q_fitb (b := true) (h.fr fY) ⟨fun _ => ⟨ok, hb⟩, fun _ => rfl⟩
  have wr := wr_of ok hb
  have rY := ze Y
  have hmk : ∀ W : World, (Instr.makeSlice 22 (.int .i64 256) (.int .i64 256)).run Try.prog W = .ok (.slice (some ⟨W.heap.size, 0, none⟩) 256 256) (W.alloc (.cells (Array.replicate 256 (.int .u8 0)) 5)) := fun W => zlZ 256 (by decide) W
  have cH := fun W (f : Fr Y W) => head_at ((h.fr fY).fr f) (by have := h.l1; have := wr.e255; omega) (by have := h.l2; have := wr.k255; omega) (by have := h.l4; have := wr.m255; omega)
  have h8 := wr.b248
  have hh4 := headB_len n
  have p0 := zb (pad_0 n h8)
  have p1 := zb (pad_1 n h8)
  have p256 := zb (pdB_len h8)
  have NH0 := zb h
  have Wr0 := zb wr.toWr
  have hn2 : NH w w.heap.size v n := h
  clear ok hb h hn2
  unfold nv at cF cH ⊢
  go_enter Try.func9, Try.ntmps9
  go_wp2_with fail
  refine cF.mono ?_
  rintro e w1 ⟨rfl, f1⟩
  have F1 := za fY f1
  obtain ⟨V, hV, fV, aV⟩ : ∃ V, w1.alloc (.cells (Array.replicate 256 (.int .u8 0)) 5) = V ∧ Fr w1 V ∧ Arr V w1.heap.size 5 (Array.replicate 256 (Value.int .u8 0)) := ⟨_, rfl, zf (ze _) _, Arr.new _ _ _⟩
  have aV : Arr V w1.heap.size 5 (u8s (List.replicate 256 0)).toArray := by rw [u8s_zeros]; exact aV
  have l1 := lY V (za f1 fV)
  clear cF
  go_wp2_with fail
  refine (cH _ (za f1 fV)).mono ?_
  rintro e w2 ⟨gh, rfl, hh⟩
  obtain ⟨zg, aH, f2⟩ := hh.out
  have a2 := aV.below f2 aV.lt
  have hH : Has w2 (gh + 1) (some ⟨gh, 0, none⟩) (u8s (headB n)) := zax _ aH
  have tok1 : Hid (0 < 1) := zb (by decide)
  have l256 : (List.replicate 256 (0 : Int)).length = 256 := List.length_replicate
  generalize List.replicate 256 (0 : Int) = Z at *
  have L256 := zb l256
  have H4 := zb hh4
  clear cH hh aV hV l1 l256 hh4
  go_upto_region 5 with (first
    | (clear tok1; refine wpList_copy_u8 rfl (.tmp 9) (.tmp 11) rfl rfl rfl w1.heap.size 0 a2 (by rw [H4.out]; rfl) rfl hH (by rw [H4.out, L256.out]; decide) ?_; intro v3 w3 a3 k3)
    | fail)
  try simp only [Act.put]
  have FV := za F1 fV
  have f3 : Fr w w3 := k3.below (za FV f2) (za FV f2).size F1.size
  have zY1 : Y.heap.size ≤ w1.heap.size := f1.size
  have fY3 : Fr Y w3 := k3.below (za (za f1 fV) f2) (za (za f1 fV) f2).size f1.size
  have lW : ∀ W, KpG w3 w1.heap.size W → (ldS 29 (.pointer (some ⟨w.heap.size, 0, none⟩))).run Try.prog W = .ok (.agg v.cells.toArray) W := fun W k => lY W (k.below fY3 fY3.size f1.size)
  have KD : KpG w3 w1.heap.size w3.drew := KpG.of_fr _ (zn (ze w3))
  have fD : Fr w3 w3.drew := zn (ze w3)
  have cB := fun W (f : Fr w3 W) => body_at (w := W) (v := v) (n := n) ((NH0.out.fr (za f3 f)).grow_top (za f3 f)) Wr0.out
  unfold nv at cB
  have s3 : ((splice Z 0 (headB n)).length) = 256 := by rw [length_splice _ _ _ (by rw [H4.out, L256.out]; decide)]; exact L256.out
  have S3 := zb s3
  clear a2 hH hmk lY fV fY3 f2 aH s3
  generalize hsp : splice Z 0 (headB n) = Z3 at *
  have Hsp := zb hsp
  clear hsp
  refine wp_region_noPanic ?_
  refine wp_region_held_drew (S := fun W => KpG w3 w1.heap.size W) (by kernel_rfl) KD (fun hHeld => ?_)
  change wpAnyH _ _ _ _ _ _ _ _ _
  generalize w3.drew = X0 at *
  have fX := fD
  refine wpAnyH_take (i := 0) (v := ?_) rfl (by kernel_rfl) (by kernel_rfl) (by kernel_rfl) (fun _ _ _ h => h) (Or.inl ⟨by rfl, ?_⟩) (by assumption) ?_
  rotate_left
  · intro w' hSw
    try dsimp only at hSw
    go_simp
    try with_reducible rfl
  try simp only [List.getElem_toArray, List.getElem_cons_zero, Act.put, List.setIfInBounds_toArray, List.set_cons_zero, List.set_cons_succ]
  refine wpAnyH_take (i := 1) (v := ?_) rfl (by kernel_rfl) (by kernel_rfl) (by kernel_rfl) (fun _ _ _ h => h) (Or.inl ⟨by rfl, ?_⟩) (by assumption) ?_
  rotate_left
  · intro w' hSw
    try dsimp only at hSw
    go_simp
    try with_reducible rfl
  try simp only [List.getElem_toArray, List.getElem_cons_succ, List.getElem_cons_zero, Act.put, List.setIfInBounds_toArray, List.set_cons_zero, List.set_cons_succ]
  refine wpAnyH_take (i := 2) (v := ?_) rfl (by kernel_rfl) (by kernel_rfl) (by kernel_rfl) (fun _ _ _ h => h) (Or.inl ⟨by rfl, ?_⟩) (by assumption) ?_
  rotate_left
  · intro w' hSw
    try dsimp only at hSw
    go_simp
    try with_reducible rfl
  try simp only [List.getElem_toArray, List.getElem_cons_succ, List.getElem_cons_zero, Act.put, List.setIfInBounds_toArray, List.set_cons_zero, List.set_cons_succ]
  refine wpAnyH_ready (rs := [3]) (by kernel_rfl) (by simp) ?_
  refine AllReadyH.cons rfl (fun K hK0 => ?_) AllReadyH.nil
  go_simp
  refine (cB _ fX).mono ?_
  rintro e w4 ⟨A4, N4, c4, rfl, h4⟩
  obtain ⟨n4, o4, f4⟩ := h4.out
  replace n4 := zb n4
  have k4 := (KpG.of_fr w1.heap.size fX).fr f4
  have a4 := a3.below (za fX f4) a3.lt
  go_simp
  refine hK0.out _ _ k4 (fun _ => ?_)
  clear hK0 K
  try simp only [List.getElem_toArray, List.getElem_cons_succ, List.getElem_cons_zero, Act.put, List.setIfInBounds_toArray, List.set_cons_zero, List.set_cons_succ]
  refine wpAnyH_ready (rs := [4]) (by kernel_rfl) (by simp) ?_
  refine AllReadyH.cons rfl (fun K hK0 => ?_) AllReadyH.nil
  refine step_copy_keep rfl (.tmp 14) (.tmp 16) rfl rfl rfl w1.heap.size 8 a4 (by rw [n4.out]; omega) rfl o4.has (by rw [S3.out]; omega) ?_
  intro v5 w5 a5 k5
  have K5 := k4.trans k5
  refine hK0.out _ _ K5 (fun _ => ?_)
  clear hK0 K
  try simp only [List.getElem_toArray, List.getElem_cons_succ, List.getElem_cons_zero, Act.put, List.setIfInBounds_toArray, List.set_cons_zero, List.set_cons_succ]
  refine wpAnyH_done (by kernel_rfl) ?_ _
  refine NoPanic.normal ?_
  rw [p0.out] at a5
  have f5 : Fr w w5 := K5.below f3 f3.size F1.size
  have by5 := zb (bytes_pdB Wr0.out)
  have pt := p256.out
  clear lW cB a3 a4 KD fD
  have hs5 : Has w5 (w1.heap.size + 1) (some ⟨w1.heap.size, 0, none⟩) (u8s (pdB n)) := zax _ a5
  have KD : KpG w5 w1.heap.size w5.drew := KpG.of_fr _ (zn (ze w5))
  have fD : Fr w5 w5.drew := zn (ze w5)
  have cS := fun W (f : Fr w5 W) => sum_at (w := W) (B := w1.heap.size + 1) (A := some ⟨w1.heap.size, 0, none⟩) (hs5.lift fun p hp => f.cell (by have := a5.lt; omega)) (Nat.le_trans a5.lt f.size) pt by5.out (c := 256) (Nat.le_refl _)
  have hlt := sumB_lt by5.out
  obtain ⟨sn, hsn⟩ : ∃ x, x = sumB (pdB n) := ⟨_, rfl⟩
  rw [← hsn] at cS hlt
  have Hsn := zb hsn
  have hw6 : IntKind.u64.wrap (sn : Int) = sn := by rw [zeB]; omega
  clear hs5 hsn
  go_wp2_with fail
  refine wp_region_noPanic ?_
  refine wp_region_held_drew (S := fun W => KpG w5 w1.heap.size W) (by kernel_rfl) KD (fun hHeld => ?_)
  change wpAnyH _ _ _ _ _ _ _ _ _
  generalize w5.drew = X0 at *
  have fX := fD
  refine wpAnyH_take (i := 0) (v := ?_) rfl (by kernel_rfl) (by kernel_rfl) (by kernel_rfl) (fun _ _ _ h => h) (Or.inl ⟨by rfl, ?_⟩) (by assumption) ?_
  rotate_left
  · intro w' hSw
    try dsimp only at hSw
    go_simp
    try with_reducible rfl
  try simp only [List.getElem_toArray, List.getElem_cons_zero, Act.put, List.setIfInBounds_toArray, List.set_cons_zero, List.set_cons_succ]
  refine wpAnyH_take (i := 1) (v := ?_) rfl (by kernel_rfl) (by kernel_rfl) (by kernel_rfl) (fun _ _ _ h => h) (Or.inl ⟨by rfl, ?_⟩) (by assumption) ?_
  rotate_left
  · intro w' hSw
    try dsimp only at hSw
    go_simp
    try with_reducible rfl
  try simp only [List.getElem_toArray, List.getElem_cons_succ, List.getElem_cons_zero, Act.put, List.setIfInBounds_toArray, List.set_cons_zero, List.set_cons_succ]
  refine wpAnyH_take (i := 2) (v := ?_) rfl (by kernel_rfl) (by kernel_rfl) (by kernel_rfl) (fun _ _ _ h => h) (Or.inl ⟨by rfl, ?_⟩) (by assumption) ?_
  rotate_left
  · intro w' hSw
    try dsimp only at hSw
    go_simp
    try with_reducible rfl
  try simp only [List.getElem_toArray, List.getElem_cons_succ, List.getElem_cons_zero, Act.put, List.setIfInBounds_toArray, List.set_cons_zero, List.set_cons_succ]
  refine wpAnyH_ready (rs := [3]) (by kernel_rfl) (by simp) ?_
  refine AllReadyH.cons rfl (fun K hK0 => ?_) AllReadyH.nil
  go_simp
  refine (cS _ fX).mono ?_
  rintro e w6 ⟨rfl, f6⟩
  have k6 := (KpG.of_fr w1.heap.size fX).fr f6
  have a6 := a5.below (za fX f6) a5.lt
  go_simp
  refine hK0.out _ _ k6 (fun _ => ?_)
  clear hK0 K
  try simp only [List.getElem_toArray, List.getElem_cons_succ, List.getElem_cons_zero, Act.put, List.setIfInBounds_toArray, List.set_cons_zero, List.set_cons_succ]
  refine wpAnyH_ready (rs := [4]) (by kernel_rfl) (by simp) ?_
  refine AllReadyH.cons rfl (fun K hK0 => ?_) AllReadyH.nil
  go_simp
  refine hK0.out _ _ k6 (fun _ => ?_)
  clear hK0 K
  try simp only [List.getElem_toArray, List.getElem_cons_succ, List.getElem_cons_zero, Act.put, List.setIfInBounds_toArray, List.set_cons_zero, List.set_cons_succ]
  refine wpAnyH_ready (rs := [5]) (by kernel_rfl) (by simp) ?_
  refine AllReadyH.cons rfl (fun K hK0 => ?_) AllReadyH.nil
  go_simp
  refine (cput_at (w := w6) (xs := []) (Own.nil w6 w6.heap.size _ _) (Nat.le_refl _) (by decide) (by omega) 4 (show (4 : Int) = ((4 : Nat) : Int) from rfl) (by decide) (by decide)).mono ?_
  rintro e w7 ⟨A7, c7, N7, rfl, h7⟩
  obtain ⟨n7, o7, g7⟩ := h7.out
  replace n7 := zb n7
  have f7 : Fr w6 w7 := g7.below (ze _) (Nat.le_refl _) (fun k e => by simp [blk] at e)
  have k7 := k6.fr f7
  have a7 := a6.below f7 a6.lt
  go_simp
  refine hK0.out _ _ k7 (fun _ => ?_)
  clear hK0 K
  try simp only [List.getElem_toArray, List.getElem_cons_succ, List.getElem_cons_zero, Act.put, List.setIfInBounds_toArray, List.set_cons_zero, List.set_cons_succ]
  refine wpAnyH_ready (rs := [6]) (by kernel_rfl) (by simp) ?_
  refine AllReadyH.cons rfl (fun K hK0 => ?_) AllReadyH.nil
  refine step_copy_keep rfl (.tmp 19) (.tmp 23) rfl rfl rfl w1.heap.size 4 a7 (by rw [n7.out]; rfl) rfl (zs := [] ++ leB sn 4) o7.has (by rw [List.nil_append, zcP, p256.out]; decide) ?_
  intro v8 w8 a8 k8
  have K8 := k7.trans k8
  refine hK0.out _ _ K8 (fun _ => ?_)
  clear hK0 K
  try simp only [List.getElem_toArray, List.getElem_cons_succ, List.getElem_cons_zero, Act.put, List.setIfInBounds_toArray, List.set_cons_zero, List.set_cons_succ]
  refine wpAnyH_done (by kernel_rfl) ?_ _
  refine NoPanic.normal ?_
  rw [List.nil_append, Hsn.out, p1.out] at a8
  go_wp2_with fail
  go_ret2
  exact ⟨w1.heap.size, rfl, zb ⟨F1.size, a8, K8.below f5 f5.size F1.size⟩⟩
end Go.Proofs.Ytmjjjdikpnhpiaa
