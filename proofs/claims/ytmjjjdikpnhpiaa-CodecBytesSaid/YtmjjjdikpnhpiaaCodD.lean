/- What decodes a block, four: the node. -/
import Derived.Test.YtmjjjdikpnhpiaaCodL
import Derived.Test.YtmjjjdikpnhpiaaCodF
import Derived.Test.YtmjjjdikpnhpiaaActA
namespace Go.Proofs.Ytmjjjdikpnhpiaa
set_option linter.unusedVariables false
set_option linter.unusedSimpArgs false
set_option maxRecDepth 100000
open Go.RowKit
theorem NP.kpg {w W : World} {ok : Nat → Prop} {v : NV} {n : RN} {g : Nat} (h : NP w ok v n) (k : KpG w g W) (hg : ¬ ok g) : NP W ok v n := by
  have m : ∀ p : Addr, ok p.block → p.block < w.heap.size → W.cell? p = w.cell? p := fun p hp hl => k.cell_far p hl (fun e => hg (by injection e with e; exact e ▸ hp))
  exact { h with h1 := h.h1.move m, h2 := h.h2.move m, h3 := h.h3.move m, h4 := h.h4.move m }
/-- What is read of a whole block's bytes. -/
def rsP (b : List Int) : List Int := ((((b.drop 1).drop 1).drop 1).drop 5)
def ndP (b : List Int) : RN :=
  if ctP b = 1 then ⟨true, (manyP enP (ctP (b.drop 1)) (rsP b)).1, [], [], []⟩
  else
    let k := manyP kdP (ctP (b.drop 1)) (rsP b)
    let p := manyP kyP (ctP (b.drop 1) - 1) k.2
    ⟨false, [], k.1, p.1, (manyP msP (ctP ((b.drop 1).drop 1)) p.2).1⟩
theorem rows_ic (l : List Int) : zm ic l = zS l := by
  unfold zm zS ic
  induction l with
  | nil => rfl
  | cons z l ih => rw [List.flatMap_cons, ih]; rfl
theorem zeroN_cells : zh.cells.toArray = #[.bool false, .slice none 0 0, .slice none 0 0, .slice none 0 0, .slice none 0 0] := rfl
attribute [local go_sem ↓] zw zt zae zbh zaP
section
variable {w : World} {B g k m s : Nat} {r0 r1 r2 r3 r4 : List Int}
set_option maxHeartbeats 4000000 in
theorem rnode_leaf (hB : B ≤ g) (hg : g < w.heap.size) (hk : k = 1) (hm : m ≤ 255)
    (c1 : ∀ W, Rd W B g r0 → Calls Try.prog 32 #[.pointer (some ⟨g, 0, none⟩)] W (PrR W B g (.int .i64 (k : Int)) r1))
    (c2 : ∀ W, Rd W B g r1 → Calls Try.prog 32 #[.pointer (some ⟨g, 0, none⟩)] W (PrR W B g (.int .i64 (m : Int)) r2))
    (c3 : ∀ W, Rd W B g r2 → Calls Try.prog 32 #[.pointer (some ⟨g, 0, none⟩)] W (PrR W B g (.int .i64 (s : Int)) r3))
    (c4 : ∀ W, Rd W B g r3 → Calls Try.prog 33 #[.pointer (some ⟨g, 0, none⟩), .int .i64 5] W fun e w' => (∃ v, e = .returned v) ∧ Hid (Rd w' B g r4 ∧ KpG W g w'))
    {l : List RE} {q : List Int} (hl : l.length = m) (wl : WfE l)
    (cE : ∀ W, Rd W B g r4 → Calls Try.prog 34 #[.int .i64 (m : Int), .func (.func 35) #[.pointer (some ⟨g, 0, none⟩)] #[]] W (LsR W B g 74 26 m (zm ec l) q))
    (h : Rd w B g r0) :
    Calls Try.prog 12 #[.pointer (some ⟨g, 0, none⟩)] w fun e w' => ∃ v, e = .returned (nv v) ∧ Hid (NP w' (fun b => w.heap.size < b) v ⟨true, l, [], [], []⟩ ∧ KpG w g w') := by
  obtain ⟨Y, hY, fY, aY⟩ : ∃ Y, w.alloc (.cells zh.cells.toArray 29) = Y ∧ Fr w Y ∧ Arr Y w.heap.size 29 zh.cells.toArray := ⟨_, rfl, zf (ze _) _, Arr.new _ _ _⟩
  rw [zeroN_cells] at hY
  have kY := KpG.of_fr g fY
  have hk1 : ((k : Int) == 1) = true := by rw [hk]; rfl
  have zY := aY.lt
  have Hl := zb hl
  clear hk hl
  go_enter Try.func12, Try.ntmps12
  go_wp2_with fail
  refine (c1 _ (h.fr fY)).mono ?_
  rintro e w1 ⟨rfl, p1⟩
  obtain ⟨q1, k1⟩ := p1.out
  go_wp2_with fail
  refine (c2 _ q1).mono ?_
  rintro e w2 ⟨rfl, p2⟩
  obtain ⟨q2, k2⟩ := p2.out
  go_wp2_with fail
  refine (c3 _ q2).mono ?_
  rintro e w3 ⟨rfl, p3⟩
  obtain ⟨q3, k3⟩ := p3.out
  go_wp2_with fail
  refine (c4 _ q3).mono ?_
  rintro e w4 ⟨⟨v4, rfl⟩, p4⟩
  obtain ⟨q4, k4⟩ := p4.out
  go_wp2_with fail
  refine (cE _ q4).mono ?_
  rintro e w5 ⟨A5, n5, c5, rfl, p5⟩
  obtain ⟨e5, o5, q5, k5⟩ := p5.out
  have K4 := (((kY.trans k1).trans k2).trans k3).trans k4
  have a4 := k4.arr (k3.arr (k2.arr (k1.arr aY (by omega)) (by omega)) (by omega)) (by omega)
  have a5 := k5.arr a4 (by omega)
  have K5 := zb (K4.trans k5)
  have z4 := a4.lt
  have E5 := zb e5
  have O5 := zb o5
  have tok1 : Hid (0 < 1) := zb (by decide)
  clear c1 c2 c3 c4 cE q1 q2 q3 q4 k1 k2 k3 k4 k5 p1 p2 p3 p4 p5 aY kY fY hY h K4 a4 e5 o5
  go_wp2_with (first
    | (clear tok1; refine wpList_put (ds := NV.cells ⟨true, A5, n5, c5, none, 0, 0, none, 0, 0, none, 0, 0⟩) zaw rfl (.tmp 2) (.tmp 20) rfl w.heap.size 0 rfl rfl rfl (za6 _) a5 (Nat.le_of_ble_eq_true rfl) (zk _ _ (Nat.le_of_eq rfl)) ?_; intro w6 a6 k6)
    | fail)
  refine bodyPost_ret (zq.result rfl _ w.heap.size rfl rfl a6) rfl ⟨⟨true, A5, n5, c5, none, 0, 0, none, 0, 0, none, 0, 0⟩, rfl, zb ⟨?_, K5.out.set k6 (Nat.le_refl _)⟩⟩
  have n6 : NP w5 (fun b => w.heap.size < b) ⟨true, A5, n5, c5, none, 0, 0, none, 0, 0, none, 0, 0⟩ ⟨true, l, [], [], []⟩ :=
    ⟨rfl, O5.out.hasP fun b hb => by omega, by rw [Hl.out]; exact E5.out.symm, O5.out.cap, by have := E5.out; show n5 ≤ 100000; omega, wl, zR.nil, rfl, Nat.le_refl _, Nat.zero_le _, zR.nil, rfl, Nat.le_refl _, Nat.zero_le _, (fun x hx => by simp at hx), zR.nil, rfl, Nat.le_refl _, Nat.zero_le _, (fun x hx => by simp at hx)⟩
  exact n6.kpg k6 (Nat.lt_irrefl _)
set_option maxHeartbeats 4000000 in
theorem rnode_inner (hB : B ≤ g) (hg : g < w.heap.size) (hk : k ≠ 1) (hm : m ≤ 255) (hs : s ≤ 255)
    (c1 : ∀ W, Rd W B g r0 → Calls Try.prog 32 #[.pointer (some ⟨g, 0, none⟩)] W (PrR W B g (.int .i64 (k : Int)) r1))
    (c2 : ∀ W, Rd W B g r1 → Calls Try.prog 32 #[.pointer (some ⟨g, 0, none⟩)] W (PrR W B g (.int .i64 (m : Int)) r2))
    (c3 : ∀ W, Rd W B g r2 → Calls Try.prog 32 #[.pointer (some ⟨g, 0, none⟩)] W (PrR W B g (.int .i64 (s : Int)) r3))
    (c4 : ∀ W, Rd W B g r3 → Calls Try.prog 33 #[.pointer (some ⟨g, 0, none⟩), .int .i64 5] W fun e w' => (∃ v, e = .returned v) ∧ Hid (Rd w' B g r4 ∧ KpG W g w'))
    {ks : List Int} {ps : List RK} {ms : List RM} {x1 x2 x3 : List Int} (h1 : ks.length = m) (h2 : ps.length = m - 1) (h3 : ms.length = s) (wp : WfK ps) (wm : WfM ms)
    (cI : ∀ W, Rd W B g r4 → Calls Try.prog 36 #[.int .i64 (m : Int), .func (.func 37) #[.pointer (some ⟨g, 0, none⟩)] #[]] W (LsR W B g 3 1 m (zm ic ks) x1))
    (cK : ∀ W, Rd W B g x1 → Calls Try.prog 38 #[.int .i64 ((m : Int) - 1), .func (.func 39) #[.pointer (some ⟨g, 0, none⟩)] #[]] W (LsR W B g 69 9 (m - 1) (zm kc ps) x2))
    (cM : ∀ W, Rd W B g x2 → Calls Try.prog 40 #[.int .i64 (s : Int), .func (.func 41) #[.pointer (some ⟨g, 0, none⟩)] #[]] W (LsR W B g 81 29 s (zm mc ms) x3))
    (h : Rd w B g r0) :
    Calls Try.prog 12 #[.pointer (some ⟨g, 0, none⟩)] w fun e w' => ∃ v, e = .returned (nv v) ∧ Hid (NP w' (fun b => w.heap.size < b) v ⟨false, [], ks, ps, ms⟩ ∧ KpG w g w') := by
  obtain ⟨Y, hY, fY, aY⟩ : ∃ Y, w.alloc (.cells zh.cells.toArray 29) = Y ∧ Fr w Y ∧ Arr Y w.heap.size 29 zh.cells.toArray := ⟨_, rfl, zf (ze _) _, Arr.new _ _ _⟩
  rw [zeroN_cells] at hY
  have kY := KpG.of_fr g fY
  have hk1 : ((k : Int) == 1) = false := by rw [beq_eq_false_iff_ne]; omega
  have zY := aY.lt
  have H1 := zb h1
  have H2 := zb h2
  have H3 := zb h3
  clear hk h1 h2 h3
  go_enter Try.func12, Try.ntmps12
  go_wp2_with fail
  refine (c1 _ (h.fr fY)).mono ?_
  rintro e w1 ⟨rfl, p1⟩
  obtain ⟨q1, k1⟩ := p1.out
  go_wp2_with fail
  refine (c2 _ q1).mono ?_
  rintro e w2 ⟨rfl, p2⟩
  obtain ⟨q2, k2⟩ := p2.out
  go_wp2_with fail
  refine (c3 _ q2).mono ?_
  rintro e w3 ⟨rfl, p3⟩
  obtain ⟨q3, k3⟩ := p3.out
  go_wp2_with fail
  refine (c4 _ q3).mono ?_
  rintro e w4 ⟨⟨v4, rfl⟩, p4⟩
  obtain ⟨q4, k4⟩ := p4.out
  have K4 := (((kY.trans k1).trans k2).trans k3).trans k4
  have a4 := k4.arr (k3.arr (k2.arr (k1.arr aY (by omega)) (by omega)) (by omega)) (by omega)
  have z4 := a4.lt
  clear c1 c2 c3 c4 q1 q2 q3 k1 k2 k3 k4 p1 p2 p3 p4 aY kY fY hY h
  go_wp2_with fail
  refine (cI _ q4).mono ?_
  rintro e w5 ⟨A5, n5, c5, rfl, p5⟩
  obtain ⟨e5, o5, q5, k5⟩ := p5.out
  have a5 := k5.arr a4 (by omega)
  have K5 := zb (K4.trans k5)
  have z5 := k5.size
  have E5 := zb e5
  clear cI K4 a4 e5 p5
  go_wp2_with fail
  refine (cK _ q5).mono ?_
  rintro e w6 ⟨A6, n6, c6, rfl, p6⟩
  obtain ⟨e6, o6, q6, k6⟩ := p6.out
  have a6 := k6.arr a5 (by omega)
  have K6 := zb (K5.out.trans k6)
  have z6 := k6.size
  have E6 := zb e6
  have o56 := o5.kept k6 (.inr fun e => by have := (o5.lt g e).1; omega)
  clear cK K5 a5 e6 p6 q5 o5
  go_wp2_with fail
  refine (cM _ q6).mono ?_
  rintro e w7 ⟨A7, n7, c7, rfl, p7⟩
  obtain ⟨e7, o7, q7, k7⟩ := p7.out
  have a7 := k7.arr a6 (by omega)
  have K7 := zb (K6.out.trans k7)
  have E7 := zb e7
  have O5 := zb (o56.kept k7 (.inr fun e => by have := (o56.lt g e).1; omega))
  have O6 := zb (o6.kept k7 (.inr fun e => by have := (o6.lt g e).1; omega))
  have O7 := zb o7
  have tok1 : Hid (0 < 1) := zb (by decide)
  clear cM K6 a6 e7 p7 q6 o56 o6 o7 k5 k6 k7
  go_wp2_with (first
    | (clear tok1; refine wpList_put (ds := NV.cells ⟨false, none, 0, 0, A5, n5, c5, A6, n6, c6, A7, n7, c7⟩) zaw rfl (.tmp 2) (.tmp 34) rfl w.heap.size 0 rfl rfl rfl (za6 _) a7 (Nat.le_of_ble_eq_true rfl) (zk _ _ (Nat.le_of_eq rfl)) ?_; intro w8 a8 k8)
    | fail)
  refine bodyPost_ret (zq.result rfl _ w.heap.size rfl rfl a8) rfl ⟨⟨false, none, 0, 0, A5, n5, c5, A6, n6, c6, A7, n7, c7⟩, rfl, zb ⟨?_, K7.out.set k8 (Nat.le_refl _)⟩⟩
  have n9 : NP w7 (fun b => w.heap.size < b) ⟨false, none, 0, 0, A5, n5, c5, A6, n6, c6, A7, n7, c7⟩ ⟨false, [], ks, ps, ms⟩ :=
    ⟨rfl, zR.nil, rfl, Nat.le_refl _, Nat.zero_le _, (fun x hx => by simp at hx), by rw [← rows_ic]; exact O5.out.hasP fun b hb => by omega, by rw [H1.out]; exact E5.out.symm, O5.out.cap, by have := E5.out; show n5 ≤ 100000; omega,
     O6.out.hasP fun b hb => by omega, by rw [H2.out]; exact E6.out.symm, O6.out.cap, by have := E6.out; show n6 ≤ 100000; omega, wp, O7.out.hasP fun b hb => by omega, by rw [H3.out]; exact E7.out.symm, O7.out.cap, by have := E7.out; show n7 ≤ 100000; omega, wm⟩
  exact n9.kpg k8 (Nat.lt_irrefl _)
end
theorem rnode_at {w : World} {B g : Nat} {b : List Int} (h : Rd w B g b) (hby : zdi b) :
    Calls Try.prog 12 #[.pointer (some ⟨g, 0, none⟩)] w fun e w' => ∃ v, e = .returned (nv v) ∧ Hid (NP w' (fun k => w.heap.size < k) v (ndP b) ∧ KpG w g w') := by
  have b1 := bytes_drop hby 1
  have b2 := bytes_drop b1 1
  have b3 := bytes_drop b2 1
  have b4 := bytes_drop b3 5
  have c4 : ∀ W, Rd W B g (((b.drop 1).drop 1).drop 1) → Calls Try.prog 33 #[.pointer (some ⟨g, 0, none⟩), .int .i64 5] W fun e w' => (∃ v, e = .returned v) ∧ Hid (Rd w' B g ((((b.drop 1).drop 1).drop 1).drop 5) ∧ KpG W g w') := fun W h =>
    (rbytes_at h 5 (by decide)).mono fun e w' h => by
      obtain ⟨A, n, c, he, h⟩ := h
      exact ⟨⟨_, he⟩, zb ⟨h.out.2.2.2.1, h.out.2.2.2.2⟩⟩
  have m255 := (ctP_eq b1).2
  have s255 := (ctP_eq b2).2
  by_cases hk : ctP b = 1
  · have e : ndP b = ⟨true, (manyP enP (ctP (b.drop 1)) (rsP b)).1, [], [], []⟩ := by unfold ndP; rw [if_pos hk]
    rw [e]
    exact rnode_leaf h.size.1 h.size.2 hk m255 (fun W h => rcount_at h hby) (fun W h => rcount_at h b1) (fun W h => rcount_at h b2) c4 (manyP_len _ _ _) (bytes_many (fun r h => bytes_enP h) b4 _).1 (fun W h => list_ents h b4 (by simp) (by omega) (by omega)) h
  · have e : ndP b = ⟨false, [], (manyP kdP (ctP (b.drop 1)) (rsP b)).1, (manyP kyP (ctP (b.drop 1) - 1) (manyP kdP (ctP (b.drop 1)) (rsP b)).2).1, (manyP msP (ctP ((b.drop 1).drop 1)) (manyP kyP (ctP (b.drop 1) - 1) (manyP kdP (ctP (b.drop 1)) (rsP b)).2).2).1⟩ := by unfold ndP; rw [if_neg hk]
    have x1 := (bytes_many (p := kdP) (ok := zal) (fun r h => bytes_kdP h) b4 (ctP (b.drop 1))).2
    have x2 := bytes_many (p := kyP) (ok := RK.wf) (fun r h => bytes_kyP h) x1 (ctP (b.drop 1) - 1)
    have x3 := bytes_many (p := msP) (ok := RM.wf) (fun r h => bytes_msP h) x2.2 (ctP ((b.drop 1).drop 1))
    rw [e]
    exact rnode_inner h.size.1 h.size.2 hk m255 s255 (fun W h => rcount_at h hby) (fun W h => rcount_at h b1) (fun W h => rcount_at h b2) c4 (manyP_len _ _ _) (manyP_len _ _ _) (manyP_len _ _ _) x2.1 x3.1
      (fun W h => list_kids h b4 (by simp) (by omega) (by omega)) (fun W h => list_keys h x1 (by omega) (by omega) (by omega)) (fun W h => list_msgs h x2.2 (by simp) (by omega) (by omega)) h
end Go.Proofs.Ytmjjjdikpnhpiaa
/- Blocks told again: what is written is read; no two nodes have one block. -/
namespace Go.Proofs.Ytmjjjdikpnhpiaa
set_option linter.unusedVariables false
set_option linter.unusedSimpArgs false
set_option maxRecDepth 100000
open Go.RowKit
def Fit (n : RN) : Prop := OkN n ∧ zcW n ≤ rmN n
theorem drop8 (b : List Int) : rsP b = b.drop 8 := by unfold rsP; rw [List.drop_drop, List.drop_drop, List.drop_drop]
theorem bk_split (n : RN) : bkB n = headB n ++ (leB (sumB (pdB n)) 4 ++ (bodyB n ++ List.replicate (248 - (bodyB n).length) 0)) := rfl
theorem bk_drop8 (n : RN) : (bkB n).drop 8 = bodyB n ++ List.replicate (248 - (bodyB n).length) 0 := by
  rw [bk_split, ← List.append_assoc, List.drop_left' (by rw [List.length_append, headB_len, zcP])]
theorem ctP_at {z : Int} (hz : 0 ≤ z) (r : List Int) : ctP (z :: r) = z.toNat := by
  have := ctP_cons hz r
  omega
theorem many_all {α : Type} {p : List Int → α × List Int} {f : α → List Int} (l : List α) (h : ∀ x ∈ l, ∀ r, p (f x ++ r) = (x, r)) (r : List Int) : manyP p l.length (l.flatMap f ++ r) = (l, r) := by
  rw [manyP_of l h r l.length (Nat.le_refl _), List.take_of_length_le (Nat.le_refl _), List.drop_of_length_le (Nat.le_refl _)]
  rfl
theorem ndP_bk {n : RN} (h : Fit n) : ndP (bkB n) = n := by
  have wr := wr_of h.1 h.2
  have e8 := bk_drop8 n
  rcases h.1 with ⟨hl, e2, e3, e4, oe⟩ | ⟨hl, e1, hk, hp, op, ol⟩
  · have hB : bodyB n = n.es.flatMap eB := by unfold bodyB; rw [e2, e3, e4]; simp
    have hh : headB n = [1, (n.es.length : Int), 0, 0] := by unfold headB; rw [hl, if_pos rfl]
    have hb : bkB n = 1 :: (n.es.length : Int) :: 0 :: 0 :: (leB (sumB (pdB n)) 4 ++ (bodyB n ++ List.replicate (248 - (bodyB n).length) 0)) := by rw [bk_split, hh]; rfl
    have c0 : ctP (bkB n) = 1 := by rw [hb, ctP_at (by decide)]; rfl
    have c1 : ctP ((bkB n).drop 1) = n.es.length := by rw [hb]; show ctP ((n.es.length : Int) :: _) = _; rw [ctP_at (by omega)]; omega
    unfold ndP
    rw [if_pos c0, c1, drop8, e8, hB, many_all n.es (fun x hx r => enP_of (oe.good x hx) r)]
    obtain ⟨lf, es, ks, ps, ms⟩ := n
    dsimp only at hl e2 e3 e4 ⊢
    rw [hl, e2, e3, e4]
  · have hB : bodyB n = n.ks.flatMap iB ++ (n.ps.flatMap kB ++ n.ms.flatMap mB) := by unfold bodyB; rw [e1]; simp
    have hh : headB n = [2, (n.ks.length : Int), (n.ms.length : Int), 0] := by unfold headB; rw [hl, if_neg (by decide)]
    have hb : bkB n = 2 :: (n.ks.length : Int) :: (n.ms.length : Int) :: 0 :: (leB (sumB (pdB n)) 4 ++ (bodyB n ++ List.replicate (248 - (bodyB n).length) 0)) := by rw [bk_split, hh]; rfl
    have c0 : ctP (bkB n) = 2 := by rw [hb, ctP_at (by decide)]; rfl
    have c1 : ctP ((bkB n).drop 1) = n.ks.length := by rw [hb]; show ctP ((n.ks.length : Int) :: _) = _; rw [ctP_at (by omega)]; omega
    have c2 : ctP (((bkB n).drop 1).drop 1) = n.ms.length := by rw [hb]; show ctP ((n.ms.length : Int) :: _) = _; rw [ctP_at (by omega)]; omega
    unfold ndP
    rw [if_neg (by omega), c1, c2, drop8, e8, hB, List.append_assoc, many_all n.ks (fun x hx r => kdP_of (wr.ks x hx).1 (wr.ks x hx).2 r), List.append_assoc]
    dsimp only
    rw [show n.ks.length - 1 = n.ps.length from by omega, many_all n.ps (fun x hx r => kyP_of (wr.ps x hx) r)]
    dsimp only
    rw [many_all n.ms (fun x hx r => msP_of (wr.ms x hx).1 (wr.ms x hx).2 r)]
    obtain ⟨lf, es, ks, ps, ms⟩ := n
    dsimp only at hl e1 ⊢
    rw [hl, e1]
theorem bk_inj {a b : RN} (ha : Fit a) (hb : Fit b) (h : bkB a = bkB b) : a = b := by rw [← ndP_bk ha, h, ndP_bk hb]
/-- What a block's sum is: that of the bytes, its own four as 0. -/
theorem bk_sum {n : RN} (h : Fit n) : (bkB n).length = 256 ∧ zdi (bkB n) ∧ sumB (bkB n) = sumB (pdB n) ∧ leN (((bkB n).drop 4).take 4) = (sumB (bkB n) : Int) := by
  have wr := wr_of h.1 h.2
  have e := headB_len n
  have es : sumB (bkB n) = sumB (pdB n) := by
    unfold sumB
    rw [bk_drop8, show (pdB n).drop 8 = bodyB n ++ List.replicate (248 - (bodyB n).length) 0 from by unfold pdB; rw [← List.append_assoc, List.drop_left' (by rw [List.length_append, e]; rfl)]]
    rw [bk_split, List.take_left' e, show (pdB n).take 4 = headB n from by unfold pdB; rw [List.take_left' e]]
  refine ⟨bkB_len wr.b248, bytes_bkB wr.toWr, es, ?_⟩
  rw [es, bk_split, List.drop_left' e, List.take_left' (zcP _ _), leN_leB 4 _ (by omega), show (256 : Int) ^ 4 = 4294967296 from by decide]
  have := sumB_lt (bytes_pdB wr.toWr)
  exact Int.emod_eq_of_lt (by omega) (by omega)
/-- What Decode tells of bytes. -/
def DecR (b : List Int) (r : RN) (z : Int) : Prop :=
  (b.length ≠ 256 ∧ r = zce ∧ z = 4) ∨ (b.length = 256 ∧ leN ((b.drop 4).take 4) ≠ (sumB b : Int) ∧ r = zce ∧ z = 5) ∨
  (b.length = 256 ∧ leN ((b.drop 4).take 4) = (sumB b : Int) ∧ (¬ ∃ n, Fit n ∧ bkB n = b) ∧ r = zce ∧ z = 4) ∨ (Fit r ∧ bkB r = b ∧ z = 0)
theorem decR_yes {n r : RN} {z : Int} (h : Fit n) (d : DecR (bkB n) r z) : r = n ∧ z = 0 := by
  obtain ⟨h1, h2, h3, h4⟩ := bk_sum h
  rcases d with ⟨d, _⟩ | ⟨_, d, _⟩ | ⟨_, _, d, _⟩ | ⟨d1, d2, d3⟩
  · exact absurd h1 d
  · exact absurd h4 d
  · exact absurd ⟨n, h, rfl⟩ d
  · exact ⟨bk_inj d1 h d2, d3⟩
theorem decR_one {b : List Int} {r r2 : RN} {z z2 : Int} (d : DecR b r z) (e : DecR b r2 z2) : r = r2 ∧ z = z2 := by
  rcases d with ⟨d1, rfl, rfl⟩ | ⟨d0, d1, rfl, rfl⟩ | ⟨d0, d1, d2, rfl, rfl⟩ | ⟨d1, rfl, rfl⟩
  · rcases e with ⟨_, rfl, rfl⟩ | ⟨e1, _⟩ | ⟨e1, _⟩ | ⟨e1, rfl, _⟩
    · exact ⟨rfl, rfl⟩
    · exact absurd e1 d1
    · exact absurd e1 d1
    · exact absurd (bk_sum e1).1 d1
  · rcases e with ⟨e1, _⟩ | ⟨_, _, rfl, rfl⟩ | ⟨_, e1, _⟩ | ⟨e1, rfl, _⟩
    · exact absurd d0 e1
    · exact ⟨rfl, rfl⟩
    · exact absurd e1 d1
    · exact absurd (bk_sum e1).2.2.2 d1
  · rcases e with ⟨e1, _⟩ | ⟨_, e1, _⟩ | ⟨_, _, _, rfl, rfl⟩ | ⟨e1, e2, _⟩
    · exact absurd d0 e1
    · exact absurd d1 e1
    · exact ⟨rfl, rfl⟩
    · exact absurd ⟨_, e1, e2⟩ d2
  · obtain ⟨h1, h2⟩ := decR_yes d1 e
    exact ⟨h1.symm, h2.symm⟩
end Go.Proofs.Ytmjjjdikpnhpiaa
/- What decodes a block, five: Decode. -/
namespace Go.Proofs.Ytmjjjdikpnhpiaa
set_option linter.unusedVariables false
set_option linter.unusedSimpArgs false
set_option maxRecDepth 100000
open Go.RowKit
theorem cstr_eq {s t : ByteArray} : (s.toList == t.toList) = decide (s = t) := by
  rw [Bool.eq_iff_iff, beq_iff_eq, decide_eq_true_iff]
  constructor
  · intro h
    rw [Lib.toList_data, Lib.toList_data] at h
    exact ByteArray.ext (Array.ext' h)
  · intro h; rw [h]
theorem strN_inj {xs ys : List Int} (hx : zdi xs) (hy : zdi ys) : strOfNums xs = strOfNums ys ↔ xs = ys := ⟨fun h => by rw [← zlx hx, h, zlx hy], fun h => by rw [h]⟩
theorem conv_str {w : World} {B : Nat} {A : Option Addr} {n c : Nat} {xs : List Int} (h : Has w B A (u8s xs)) (hn : xs.length = n) : (convert 22 9 (.slice A n c)).run Try.prog w = .ok (.string (strOfNums xs)) w := by
  cases A with
  | none =>
    have h0 := h.none_nil
    obtain rfl : xs = [] := by simpa using h0
    exact run_convert_bytes_nil w 22 5 Try.underlying22 Try.underlying5 n c 9 Try.underlying9
  | some a =>
    by_cases h0 : xs = []
    · subst h0
      obtain rfl : n = 0 := by simpa using hn.symm
      rw [run_convert_bytes_string w 22 9 5 _ 0 c Try.underlying22 Try.underlying5 Try.underlying9]
      simp [Conv.bytesToString, loadCells, loadCellsFrom]
      rfl
    · obtain ⟨b, o, e, -, hc⟩ := h.form (by simpa using h0)
      rw [e]
      exact run_convert_bytes_arg w 22 5 Try.underlying22 Try.underlying5 b o n c xs hn (fun i hi => by
        rw [hc i (.int .u8 (xs.getD i 0))]
        simp [List.getD, hn ▸ hi]) 9 Try.underlying9
set_option maxHeartbeats 1000000 in
theorem bequal_at {w : World} {B C : Nat} {A A2 : Option Addr} {n c m d : Nat} {xs ys : List Int} (h : Has w B A (u8s xs)) (hn : xs.length = n) (k : Has w C A2 (u8s ys)) (hm : ys.length = m) (bx : zdi xs) (bY : zdi ys) :
    Calls Try.prog 13 #[.slice A n c, .slice A2 m d] w fun e w' => e = .returned (.bool (decide (xs = ys))) ∧ w = w' := by
  have c1 := conv_str (c := c) h hn
  have c2 := conv_str (c := d) k hm
  have hi := strN_inj bx bY
  generalize strOfNums xs = s1 at *
  generalize strOfNums ys = s2 at *
  clear h k hn hm bx bY
  go_enter Try.func13, Try.ntmps13
  go_wp2_with fail
  go_ret
  exact ⟨zek (by rw [cstr_eq]; exact decide_eq_decide.2 hi), rfl⟩
attribute [local go_sem ↓] zw zt zae zbh zaP
/-- What Decode hands back. -/
def DcR (w : World) (b : List Int) (e : Ending) (w' : World) : Prop := ∃ v r z, e = .returned (.tuple #[nv v, .int .i64 z]) ∧ Hid (NP w' (fun k => w.heap.size < k) v r ∧ DecR b r z ∧ Fr w w')
theorem zero_np {W : World} {ok : Nat → Prop} : NP W ok zh zce := zbb
theorem rdr_info : (Try.prog.info? 46).map (·.size) = some 1 := by kernel_rfl
set_option maxHeartbeats 2000000 in
theorem decode_len {w : World} {A : Option Addr} {n c : Nat} {b : List Int} (hn : b.length = n) (hne : n ≠ 256) (hmx : n ≤ 100000) :
    Calls Try.prog 5 #[.slice A n c] w (DcR w b) := by
  obtain ⟨Y, hY, fY, aY⟩ : ∃ Y, w.alloc (.cells zh.cells.toArray 29) = Y ∧ Fr w Y ∧ Arr Y w.heap.size 29 zh.cells.toArray := ⟨_, rfl, zf (ze _) _, Arr.new _ _ _⟩
  rw [zeroN_cells] at hY
  have h1 : ((n : Int) != 256) = true := by rw [bne_iff_ne]; omega
  have Hn := zb hn
  have Hne := zb hne
  clear hn hne
  have tok1 : Hid (0 < 1) := zb (by decide)
  go_enter Try.func5, Try.ntmps5
  go_wp2_with (first
    | (clear tok1; refine wpList_put (ds := zh.cells) zaw rfl (.tmp 2) (.tmp 13) rfl w.heap.size 0 rfl rfl rfl (za6 _) aY (Nat.le_of_ble_eq_true rfl) (zk _ _ (Nat.le_of_eq rfl)) ?_; intro w1 a1 k1)
    | fail)
  exact bodyPost_ret (zq.result2 rfl _ w.heap.size rfl rfl a1) rfl ⟨zh, zce, 4, rfl, zb ⟨zero_np, .inl ⟨by rw [Hn.out]; exact Hne.out, rfl, rfl⟩, k1.below fY fY.size (Nat.le_refl _)⟩⟩
set_option maxHeartbeats 2000000 in
theorem decode_sum {w : World} {B c : Nat} {A : Option Addr} {b : List Int} (h : Has w B A (u8s b)) (hB : B ≤ w.heap.size) (hn : b.length = 256) (hc : 256 ≤ c) (hby : zdi b) (hs : leN ((b.drop 4).take 4) ≠ (sumB b : Int)) :
    Calls Try.prog 5 #[.slice A 256 c] w (DcR w b) := by
  obtain ⟨Y, hY, fY, aY⟩ : ∃ Y, w.alloc (.cells zh.cells.toArray 29) = Y ∧ Fr w Y ∧ Arr Y w.heap.size 29 zh.cells.toArray := ⟨_, rfl, zf (ze _) _, Arr.new _ _ _⟩
  rw [zeroN_cells] at hY
  have hY' := h.lift (w' := Y) fun p hp => fY.cell (by omega)
  have hBY : B ≤ Y.heap.size := Nat.le_trans hB fY.size
  have cN := num_ok A 256 c b hn (by decide) hc hby 4 4 (by decide) (by decide) (by decide) Y (hY'.mono hBY)
  rw [show ((4 : Nat) : Int) = 4 from rfl] at cN
  have cS := sum_at hY' hBY hn hby hc
  have hlt := sumB_lt hby
  have D : DecR b zce 5 := .inr (.inl ⟨hn, hs, rfl, rfl⟩)
  have hD := zb D
  generalize leN ((b.drop 4).take 4) = x at *
  generalize sumB b = S at *
  have hw6 : IntKind.u64.wrap (S : Int) = S := by rw [zeB]; omega
  have h1 : (x != (S : Int)) = true := by rw [bne_iff_ne]; exact hs
  clear h hY' hn hby hs D
  have tok1 : Hid (0 < 1) := zb (by decide)
  go_enter Try.func5, Try.ntmps5
  go_wp2_with fail
  refine cN.mono ?_
  rintro e w1 ⟨rfl, rfl⟩
  go_wp2_with fail
  refine cS.mono ?_
  rintro e w2 ⟨rfl, f2⟩
  have a2 := aY.below f2 aY.lt
  go_wp2_with (first
    | (clear tok1; refine wpList_put (ds := zh.cells) zaw rfl (.tmp 2) (.tmp 24) rfl w.heap.size 0 rfl rfl rfl (za6 _) a2 (Nat.le_of_ble_eq_true rfl) (zk _ _ (Nat.le_of_eq rfl)) ?_; intro w3 a3 k3)
    | fail)
  exact bodyPost_ret (zq.result2 rfl _ w.heap.size rfl rfl a3) rfl ⟨zh, zce, 5, rfl, zb ⟨zero_np, hD.out, k3.below (za fY f2) (za fY f2).size (Nat.le_refl _)⟩⟩
set_option maxHeartbeats 4000000 in
theorem decode_go {w : World} {B c blk0 off : Nat} {b : List Int} (h : Has w B (some ⟨blk0, off, none⟩) (u8s b)) (hb0 : blk0 < B) (hB : B ≤ w.heap.size) (hn : b.length = 256) (hc : 256 ≤ c) (hby : zdi b) (hs : leN ((b.drop 4).take 4) = (sumB b : Int)) :
    Calls Try.prog 5 #[.slice (some ⟨blk0, off, none⟩) 256 c] w (DcR w b) := by
  obtain ⟨Y, hY, fY, aY⟩ : ∃ Y, w.alloc (.cells zh.cells.toArray 29) = Y ∧ Fr w Y ∧ Arr Y w.heap.size 29 zh.cells.toArray := ⟨_, rfl, zf (ze _) _, Arr.new _ _ _⟩
  rw [zeroN_cells] at hY
  have hY' := h.lift (w' := Y) fun p hp => fY.cell (by omega)
  have hBY : B ≤ Y.heap.size := Nat.le_trans hB fY.size
  have cN := num_ok (some ⟨blk0, off, none⟩) 256 c b hn (by decide) hc hby 4 4 (by decide) (by decide) (by decide) Y (hY'.mono hBY)
  rw [show ((4 : Nat) : Int) = 4 from rfl] at cN
  have cS := sum_at hY' hBY hn hby hc
  have hlt := sumB_lt hby
  have Hs := zb hs
  rw [hs] at cN
  generalize hS : sumB b = S at *
  have HS := zb hS
  have hw6 : IntKind.u64.wrap (S : Int) = S := by rw [zeB]; omega
  have h1 : ((S : Int) != (S : Int)) = false := by simp
  have Hn := zb hn
  clear hs hS h hn
  go_enter Try.func5, Try.ntmps5
  go_wp2_with fail
  refine cN.mono ?_
  rintro e w1 ⟨rfl, rfl⟩
  go_wp2_with fail
  refine cS.mono ?_
  rintro e w2 ⟨rfl, f2⟩
  have a2 := aY.below f2 aY.lt
  have F2 := za fY f2
  obtain ⟨V, hV, fV, aV⟩ : ∃ V, w2.alloc (.cells #[.slice none 0 0] 46) = V ∧ Fr w2 V ∧ Arr V w2.heap.size 46 [.slice none 0 0].toArray := ⟨_, rfl, zf (ze _) _, Arr.new _ _ _⟩
  have zw2 : w.heap.size < w2.heap.size := a2.lt
  have tok1 : Hid (0 < 1) := zb (by decide)
  clear cN cS
  go_wp2_with (first
    | (clear tok1; refine wpList_put (ds := [.slice (some ⟨blk0, off, none⟩) 256 c]) rdr_info rfl (.tmp 6) (.tmp 26) rfl w2.heap.size 0 rfl rfl rfl (zdv _ rfl) aV (Nat.le_of_ble_eq_true rfl) (cs' := [.slice (some ⟨blk0, off, none⟩) 256 c]) rfl ?_; intro w3 a3 k3)
    | fail)
  have f3 : Fr w2 w3 := k3.below fV fV.size (Nat.le_refl _)
  have hBw : B ≤ w2.heap.size := Nat.le_trans hBY f2.size
  have R3 : Rd w3 B w2.heap.size b := ⟨blk0, off, 256, c, a3, hY'.lift fun p hp => (za f2 f3).cell (by omega), Hn.out, hc, (by decide), hb0, hBw⟩
  refine (rnode_at R3 hby).mono ?_
  rintro e w4 ⟨v, rfl, h4⟩
  obtain ⟨n4, k4⟩ := h4.out
  have f4 : Fr w2 w4 := k4.below f3 f3.size (Nat.le_refl _)
  have a4 := a2.below f4 a2.lt
  have F4 := za F2 f4
  obtain ⟨U, hU, fU, aU⟩ : ∃ U, w4.alloc (.cells zh.cells.toArray 29) = U ∧ Fr w4 U ∧ Arr U w4.heap.size 29 zh.cells.toArray := ⟨_, rfl, zf (ze _) _, Arr.new _ _ _⟩
  rw [zeroN_cells] at hU
  have zz : w.heap.size < w3.heap.size := by have := f3.size; omega
  have tok1 : Hid (0 < 1) := zb (by decide)
  clear R3 a3 k3 aV fV hV a2 hY aY h4
  go_upto_region 8 with (first
    | (clear tok1; refine wpList_put (ds := v.cells) zaw rfl (.tmp 7) (.tmp 27) rfl w4.heap.size 0 rfl rfl rfl (za6 _) aU (Nat.le_of_ble_eq_true rfl) (zk _ _ (Nat.le_of_eq rfl)) ?_; intro w5 a5 k5)
    | fail)
  try simp only [Act.put]
  have f5 : Fr w4 w5 := k5.below fU fU.size (Nat.le_refl _)
  have n5 := n4.fr f5
  have F5 := za F4 f5
  have a2 := a4.below f5 a4.lt
  have l5 : (ldS 29 (.pointer (some ⟨w4.heap.size, 0, none⟩))).run Try.prog w5 = .ok (.agg v.cells.toArray) w5 := zq.ld rfl a5
  have hb5 : Has w5 w5.heap.size (some ⟨blk0, off, none⟩) (u8s b) := (hY'.lift (w' := w5) fun p hp => (za (za f2 f4) f5).cell (by omega)).mono (by have := (za (za f2 f4) f5).size; omega)
  have N5 := zb n5
  have HB := zb hb5
  have BY := zb hby
  clear n4 k4 aU hU k5 fU a4 hby hb5
  by_cases hF : Fit (ndP b)
  · have cE := encode_yes n5.nh hF.1 hF.2
    have hF' := zb hF
    unfold nv at cE
    clear n5 hF
    go_wp2_with fail
    refine cE.mono ?_
    rintro e w6 ⟨g6, rfl, h6⟩
    obtain ⟨zg, a6, f6⟩ := h6.out
    have wr := zb (bk_sum hF'.out)
    have cQ := bequal_at (w := w6) (c := 256) (d := c) (zax _ a6) wr.out.1 (HB.out.lift (w' := w6) fun p hp => f6.cell hp) Hn.out wr.out.2.1 BY.out
    have a7 := a2.below f6 a2.lt
    have l7 : (ldS 29 (.pointer (some ⟨w4.heap.size, 0, none⟩))).run Try.prog w6 = .ok (.agg v.cells.toArray) w6 := zq.ld rfl (a5.below f6 a5.lt)
    have N7 := zb (N5.out.fr f6)
    have F7 := zb (za F5 f6)
    have tok1 : Hid (0 < 1) := zb (by decide)
    clear cE a6 a5 a2 f6 l5
    by_cases hq : bkB (ndP b) = b
    · rw [decide_eq_true hq] at cQ
      have D : Hid (DecR b (ndP b) 0) := zb (.inr (.inr (.inr ⟨hF'.out, hq, rfl⟩)))
      clear hq
      go_wp2_with fail
      refine cQ.mono ?_
      rintro e w8 ⟨rfl, rfl⟩
      go_wp2_with (first
        | (clear tok1; refine wpList_put (ds := v.cells) zaw rfl (.tmp 2) (.tmp 38) rfl w.heap.size 0 rfl rfl rfl (za6 _) a7 (Nat.le_of_ble_eq_true rfl) (zk _ _ (Nat.le_of_eq rfl)) ?_; intro w9 a9 k9)
        | fail)
      exact bodyPost_ret (zq.result2 rfl _ w.heap.size rfl rfl a9) rfl ⟨v, ndP b, 0, rfl, zb ⟨(N7.out.kpg k9 (by omega)).weak (fun k _ hk => Nat.lt_trans zz hk), D.out, k9.below F7.out F7.out.size (Nat.le_refl _)⟩⟩
    · rw [decide_eq_false hq] at cQ
      have D : Hid (DecR b zce 4) := zb (.inr (.inr (.inl ⟨Hn.out, by rw [HS.out]; exact Hs.out, fun ⟨n', h', e'⟩ => hq (by rw [← e', ndP_bk h']), rfl, rfl⟩)))
      clear hq
      go_wp2_with fail
      refine cQ.mono ?_
      rintro e w8 ⟨rfl, rfl⟩
      go_wp2_with (first
        | (clear tok1; refine wpList_put (ds := zh.cells) zaw rfl (.tmp 2) (.tmp 37) rfl w.heap.size 0 rfl rfl rfl (za6 _) a7 (Nat.le_of_ble_eq_true rfl) (zk _ _ (Nat.le_of_eq rfl)) ?_; intro w9 a9 k9)
        | fail)
      exact bodyPost_ret (zq.result2 rfl _ w.heap.size rfl rfl a9) rfl ⟨zh, zce, 4, rfl, zb ⟨zero_np, D.out, k9.below F7.out F7.out.size (Nat.le_refl _)⟩⟩
  · have cE := encode_no n5.nh hF
    have D : Hid (DecR b zce 4) := zb (.inr (.inr (.inl ⟨Hn.out, by rw [HS.out]; exact Hs.out, fun ⟨n', h', e'⟩ => hF (by rw [← e', ndP_bk h']; exact h'), rfl, rfl⟩)))
    unfold nv at cE
    clear n5 hF
    go_wp2_with fail
    refine cE.mono ?_
    rintro e w6 ⟨rfl, f6⟩
    have cQ := bequal_at (w := w6) (c := 0) (n := 0) (A := none) (B := 0) (xs := []) (d := c) Has.nil rfl (HB.out.lift (w' := w6) fun p hp => f6.cell hp) Hn.out bytes_nil BY.out
    rw [decide_eq_false (fun e => by have := Hn.out; rw [← e] at this; cases this)] at cQ
    have a7 := a2.below f6 a2.lt
    have F7 := zb (za F5 f6)
    have tok1 : Hid (0 < 1) := zb (by decide)
    clear cE a5 a2 f6 l5
    go_wp2_with fail
    refine cQ.mono ?_
    rintro e w8 ⟨rfl, rfl⟩
    go_wp2_with (first
      | (clear tok1; refine wpList_put (ds := zh.cells) zaw rfl (.tmp 2) (.tmp 37) rfl w.heap.size 0 rfl rfl rfl (za6 _) a7 (Nat.le_of_ble_eq_true rfl) (zk _ _ (Nat.le_of_eq rfl)) ?_; intro w9 a9 k9)
      | fail)
    exact bodyPost_ret (zq.result2 rfl _ w.heap.size rfl rfl a9) rfl ⟨zh, zce, 4, rfl, zb ⟨zero_np, D.out, k9.below F7.out F7.out.size (Nat.le_refl _)⟩⟩
/-- Decode, whatever it is handed. -/
theorem decode_at {w : World} {B n c : Nat} {A : Option Addr} {b : List Int} (h : Has w B A (u8s b)) (hB : B ≤ w.heap.size) (hn : b.length = n) (hc : n ≤ c) (hnm : n ≤ 100000) (hby : zdi b) :
    Calls Try.prog 5 #[.slice A n c] w (DcR w b) := by
  by_cases h256 : n = 256
  · subst h256
    by_cases hs : leN ((b.drop 4).take 4) = (sumB b : Int)
    · obtain ⟨b0, off, rfl, hb0, -⟩ := h.form (by intro e; have := congrArg List.length e; rw [List.length_map, hn] at this; cases this)
      exact decode_go h hb0 hB hn hc hby hs
    · exact decode_sum h hB hn hc hby hs
  · exact decode_len hn h256 (by omega)
end Go.Proofs.Ytmjjjdikpnhpiaa
