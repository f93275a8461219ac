/- The document's Encode. -/
import Derived.Test.YtmjjjdikpnhpiaaCodD
import Derived.Test.YtmjjjdikpnhpiaaRf
import Derived.Deep.CutBlock
namespace Go.Proofs.Ytmjjjdikpnhpiaa
set_option linter.unusedVariables false
set_option linter.unusedSimpArgs false
set_option maxRecDepth 100000
open Go.RowKit
theorem has_cells {w : World} {b off : Nat} {zs : List Value} (h : ∀ j u, zs[j]? = some u → w.cell? ⟨b, off + j, none⟩ = some u) : Has w (b + 1) (some ⟨b, off, none⟩) zs := fun j u hu => ⟨b, off, rfl, Nat.lt_succ_self _, h j u hu⟩
set_option maxHeartbeats 1000000 in
/-- text, of the document. -/
theorem rtx_at {w : World} {B n c : Nat} {A : Option Addr} {xs : List Int} (ho : Own w B 5 1 A n c (u8s xs)) (hB : B ≤ w.heap.size) (hn : n ≤ 5000)
    {b off m M : Nat} {zs : List Int} (hs : ∀ j u, (u8s zs)[j]? = some u → w.cell? ⟨b, off + j, none⟩ = some u) (hb : b < w.heap.size) (hne : blk A ≠ some b) (hm : zs.length = m) (hM : m ≤ M) (h255 : m ≤ 255) :
    Calls Try.prog 48 #[.slice A n c, .int .i64 (m : Int), .slice (some ⟨b, off, none⟩) M M] w (AddR w B A n xs ((m : Int) :: zs)) := by
  have g0 : ∀ o, Grw w A (w.alloc o) A := fun o => Grw.of_fr A (zf (ze w) o)
  have hw := byte_wrap h255
  have tok1 : Hid (0 < 1) := zb (by decide)
  have tok2 : Hid (0 < 1) := zb (by decide)
  go_enter Try.func48, Try.ntmps48
  go_wp2_with (first
    | (clear tok1; refine zfh rfl (.tmp 8) (.tmp 11) rfl B A n c xs rfl (ho.alloc _) _ _ 1 1 [(m : Int)] rfl rfl (zev _ _ _) (by omega) (Nat.le_trans hB (g0 _).size) ?_; intro A1 c1 w1 o1 g1 k1
       have G1 := Grw.step (g0 _) g1 k1
       have h1 : Has w1 (b + 1) (some ⟨b, off, none⟩) (u8s zs) := has_cells fun j u hu => (G1.1.cell_far ⟨b, off + j, none⟩ hb (fun e => hne e.symm)).trans (hs j u hu)
       have hB1 := Nat.le_trans hB G1.size)
    | (clear tok2; refine zfh rfl (.tmp 13) (.tmp 16) rfl B A1 (n + 1) c1 _ rfl o1 _ _ m M zs rfl hm h1 (by omega) hB1 ?_; intro A2 c3 w2 o2 g2 k2)
    | fail)
  go_ret
  exact ⟨A2, c3, _, rfl, zb ⟨by rw [List.length_cons, hm]; omega, by simpa using o2, G1.step g2 k2⟩⟩
theorem cown_store {w : World} {B e n c j : Nat} {A : Option Addr} {xs : List Value} (ho : Own w B e 1 A n c xs) (hj : j < n) :
    ∃ g x, A = some ⟨g, 0, none⟩ ∧ B ≤ g ∧ g < w.heap.size ∧ xs[j]? = some x ∧ w.cell? ⟨g, j, none⟩ = some x ∧ w.frozen? ⟨g, j, none⟩ = false ∧ ∀ v, Own (w.setCell ⟨g, j, none⟩ v) B e 1 (some ⟨g, 0, none⟩) n c (xs.set j v) := by
  have hl : xs.length = n := by simpa using ho.len
  obtain ⟨x, hx⟩ : ∃ x, xs[j]? = some x := ⟨xs[j]'(by omega), by simp⟩
  obtain ⟨b, off, e1, hb, hc⟩ := ho.has j x hx
  rcases ho.2 with ⟨_, h⟩ | ⟨g, cap, cur, hv, hbg, hh, _⟩
  · omega
  · injection hv with hA _ hc'
    subst hA hc'
    injection e1 with e1
    injection e1 with e2 e3
    subst e2 e3
    exact ⟨g, x, rfl, hbg, hb, hx, by simpa using hc, World.ownsRow.frozenAt ho j, fun v => by unfold Own; exact (World.ownsRow.stored ho j v).1⟩

theorem crput_at {w : World} {B n c : Nat} {A : Option Addr} {xs : List Int} (ho : Own w B 5 1 A n c (u8s xs)) (hB : B ≤ w.heap.size) (hn : n ≤ 5000) {x K : Int} (hx : 0 ≤ x) (hx2 : x < 18446744073709551616) (k : Nat) (hK : K = k) (h1 : 1 ≤ k) (h8 : k ≤ 8) :
    Calls Try.prog 22 #[.slice A n c, .int .u64 x, .int .i64 K] w (AddR w B A n xs (leB x k)) := by
  subst hK
  have hl : xs.length = n := by have := ho.len; simpa using this
  refine (zmD A n c xs hl (by omega) x k hx hx2 (by omega) (by omega) w ho.has).mono ?_
  rintro e w1 ⟨A1, c1, rfl, o1, f1⟩
  rw [Int.toNat_natCast] at o1 ⊢
  exact ⟨A1, c1, _, rfl, zb ⟨by rw [zcP], o1.mono hB, ⟨f1.os, f1.tape, f1.output, f1.size, fun j hj _ => f1.block j hj⟩, .inr fun j hj => (o1.lt j hj).1⟩⟩
theorem q_rfitb {W : World} {B : Nat} {v : NV} {n : RN} {b : Bool} (h : NH W B v n) (hb : b = true ↔ OkN n ∧ zcW n ≤ rmN n) : Calls Try.prog 47 #[nv v] W fun e w' => e = .returned (.bool b) ∧ Fr W w' :=
  (q_rfits h).mono fun e w' h => by
    obtain ⟨⟨b', he, hb'⟩, f⟩ := h
    rw [he, cbool_eq (hb'.trans hb.symm)]
    exact ⟨rfl, f⟩
theorem ec_kb (x : RE) (m j : Nat) (u : Value) (h : (u8s ((kbs x.key).take m))[j]? = some u) : (ec x)[1 + j]? = some u := by
  have h1 := kc_byte x.key m j u h
  have := (List.getElem?_eq_some_iff.1 h1).1
  unfold ec
  rw [List.getElem?_append_left this]; exact h1
theorem vc_byte {v : RV} {m j : Nat} {u : Value} (h : (u8s (v.bs.take m))[j]? = some u) : (vc v)[1 + j]? = some u := by
  have hj : j < m := by have := (List.getElem?_eq_some_iff.1 h).1; simp at this; omega
  rw [Nat.add_comm]
  show (u8s v.bs)[j]? = some u
  rw [← h, show u8s (v.bs.take m) = (u8s v.bs).take m from List.map_take, List.getElem?_take_of_lt hj]
theorem ec_vb (x : RE) (m j : Nat) (u : Value) (h : (u8s (x.val.bs.take m))[j]? = some u) : (ec x)[10 + j]? = some u := by
  have h1 := vc_byte h
  unfold ec
  rw [List.getElem?_append_right (by rw [zl]; omega), zl, show 10 + j - 9 = 1 + j from by omega]; exact h1
theorem mc_kb (x : RM) (m j : Nat) (u : Value) (h : (u8s ((kbs x.key).take m))[j]? = some u) : (mc x)[3 + j]? = some u := by
  have h1 := kc_byte x.key m j u h
  have := (List.getElem?_eq_some_iff.1 h1).1
  rw [show 3 + j = 1 + j + 1 + 1 from by omega]
  show (kc x.key ++ (vc x.val ++ [.int .u64 x.inc]))[1 + j]? = some u
  rw [List.getElem?_append_left this]; exact h1
theorem mc_vb (x : RM) (m j : Nat) (u : Value) (h : (u8s (x.val.bs.take m))[j]? = some u) : (mc x)[12 + j]? = some u := by
  have h1 := vc_byte h
  have := (List.getElem?_eq_some_iff.1 h1).1
  rw [show 12 + j = 10 + j + 1 + 1 from by omega]
  show (kc x.key ++ (vc x.val ++ [.int .u64 x.inc]))[10 + j]? = some u
  rw [List.getElem?_append_right (by rw [zl]; omega), zl, show 10 + j - 9 = 1 + j from by omega, List.getElem?_append_left this]; exact h1
theorem ec_n0 (x : RE) : (ec x)[0]? = some (.int .i64 x.key.n) := rfl
theorem kB_cons {k : RK} {m : Nat} (h : k.n = m) : (m : Int) :: (kbs k).take m = kB k := by unfold kB; rw [h, Int.toNat_natCast]
theorem vB_cons {v : RV} {m : Nat} (h : v.n = m) : (m : Int) :: v.bs.take m = vB v := by unfold vB; rw [h, Int.toNat_natCast]
theorem GrS.trans {w w1 w2 : World} {A A1 A2 : Option Addr} (h : Grw w A w1 A1) (k : Grw w1 A1 w2 A2) : GrS w A w2 := ⟨A2, h.trans k⟩
attribute [local go_sem ↓] zw zt zae zbh zaP
set_option maxHeartbeats 2000000 in
theorem rencode_no {w : World} {v : NV} {n : RN} (h : NH w w.heap.size v n) (hno : ¬ (OkN n ∧ zcW n ≤ rmN n)) :
    Calls Try.prog 17 #[nv v] w fun e w' => e = .returned (.tuple #[.slice none 0 0, .int .i64 4]) ∧ Fr w w' := by
  obtain ⟨Y, hY, fY, -, -, -, -, -, -, lY⟩ := nod_boxed w v
  have lY := lY Y (ze _)
  have cF := q_rfitb (b := false) (h.fr fY) ⟨fun e => (by cases e), fun e => absurd e hno⟩
  unfold nv at cF ⊢
  clear h hno
  go_enter Try.func17, Try.ntmps17
  go_wp2_with fail
  refine cF.mono ?_
  rintro e w1 ⟨rfl, f1⟩
  go_wp2_with fail
  go_ret2
  exact ⟨rfl, za fY f1⟩
/-- What stands ahead of the parts. -/
def preB (n : RN) : List Int := headB n ++ [0, 0, 0, 0]
theorem ref_sumN {A : Option Addr} {n c : Nat} {l : List Int} (hl : l.length = n) (h : zdi l) (hn : n ≤ 100000) {W0 w : World} (f : Fr W0 w) (hr : Has w w.heap.size A (u8s l)) :
    Calls Try.prog 15 #[.slice A n c] w fun e w' => e = .returned (.int .u32 ((moreS 0 (toN l) : Nat) : Int)) ∧ Fr W0 w' :=
  (ref_sum A n c (toN l) (by rw [toN_len]; exact hl) (octets_toN h) hn w (by rw [octs_toN h]; exact hr)).mono fun e w' h => ⟨h.1, by rw [← h.2]; exact f⟩
theorem pd_sum (n : RN) : sumB (pdB n) = moreS 0 (toN (pdB n)) := by
  have e := headB_len n
  unfold sumB
  have h1 : (pdB n).take 4 = headB n := by unfold pdB; rw [List.take_left' e]
  have h2 : (pdB n).drop 8 = bodyB n ++ List.replicate (248 - (bodyB n).length) 0 := by unfold pdB; rw [← List.append_assoc, List.drop_left' (by rw [List.length_append, e]; rfl)]
  rw [h1, h2]
  rfl
theorem splice_next {pd q : List Int} {j : Nat} {z : Int} (hl : 4 + j < pd.length) (hq : q[j]? = some z) : (u8s (splice pd 4 (q.take j))).set (4 + j) (.int .u8 z) = u8s (splice pd 4 (q.take (j + 1))) := by
  have hj := (List.getElem?_eq_some_iff.1 hq).1
  have e1 : (q.take j).length = j := by rw [List.length_take]; omega
  have e2 : (q.take (j + 1)).length = j + 1 := by rw [List.length_take]; omega
  rw [show (Value.int .u8 z) = (Value.int .u8) z from rfl, ← List.map_set]
  congr 1
  unfold splice
  rw [e1, e2, show q.take (j + 1) = q.take j ++ [z] from by rw [List.take_add_one, hq]; rfl]
  have e4 : (pd.take 4).length = 4 := by rw [List.length_take]; omega
  rw [List.set_append, if_neg (by rw [e4]; omega), e4, show 4 + j - 4 = j from by omega, List.set_append, if_neg (by rw [e1]; omega), e1, Nat.sub_self]
  rw [List.drop_eq_getElem_cons (by omega : 4 + j < pd.length), List.set_cons_zero]
  simp only [List.append_assoc]
  rfl
theorem preB_len (n : RN) : (preB n).length = 8 := by unfold preB; rw [List.length_append, headB_len]; rfl
set_option maxHeartbeats 16000000 in
theorem rencode_yes {w : World} {v : NV} {n : RN} (h : NH w w.heap.size v n) (ok : OkN n) (hb : zcW n ≤ rmN n) :
    Calls Try.prog 17 #[nv v] w fun e w' => ∃ A c, e = .returned (.tuple #[.slice A 256 c, .int .i64 0]) ∧ Hid (Own w' w.heap.size 5 1 A 256 c (u8s (bkB n)) ∧ Fr w w') := by
  obtain ⟨Y, hY, fY, aN, c0, c1, c2, c3, c4, lY⟩ := nod_boxed w v
  have zYY := aN.lt
  clear aN
  have cF := q_rfitb (b := true) (h.fr fY) ⟨fun _ => ⟨ok, hb⟩, fun _ => rfl⟩
  have wr := wr_of ok hb
  have lYY := lY Y (ze Y)
  have hlen := wr.b248
  unfold bodyB at hlen
  simp only [List.length_append] at hlen
  have hN := h.fr fY
  have hlf : v.lf = n.lf := hN.lf
  have H1 := zb hN.h1
  have H2 := zb hN.h2
  have H3 := zb hN.h3
  have H4 := zb hN.h4
  have L1 := zb hN.l1
  have L2 := zb hN.l2
  have L3 := zb hN.l3
  have L4 := zb hN.l4
  have q1 : v.n1 ≤ 124 := by have := hN.l1; have := wr.e255; omega
  have q2 : v.n2 ≤ 4 := by have := hN.l2; have := wr.k255; omega
  have q3 := hN.s3
  have q4 : v.n4 ≤ 24 := by have := hN.l4; have := wr.m255; omega
  have hwB := Nat.le_refl w.heap.size
  have zY := fY.size
  have Wes := zb wr.es
  have Wks := zb wr.ks
  have Wps := zb wr.ps
  have Wms := zb wr.ms
  have w5 := zb hN.w1
  have w6 := zb hN.w4
  have b248 := zb wr.b248
  have wrT := zb wr.toWr
  have m4 : v.lf = true → v.n4 = 0 := fun e => by
    rcases ok with ⟨_, _, _, e4, _⟩ | ⟨hl, _⟩
    · rw [← hN.l4, e4]; rfl
    · rw [← hlf, e] at hl; cases hl
  clear h ok hb wr hN
  unfold nv at cF ⊢
  obtain ⟨lf, A1, n1, k1, A2, n2, k2, A3, n3, k3, A4, n4, k4⟩ := v
  dsimp only at c0 c1 c2 c3 c4 H1 H2 H3 H4 L1 L2 L3 L4 q1 q2 q3 q4 hlf hY lYY lY m4 ⊢
  have hpre : Hid (preB n = if lf = true then [1, (n1 : Int), 0, 0, 0, 0, 0, 0] else [2, (n2 : Int), (n4 : Int), 0, 0, 0, 0, 0]) := zb (by
    unfold preB headB
    rw [← hlf, L1.out, L2.out, L4.out]
    cases lf <;> rfl)
  clear hlf
  have hbod : Hid (bodyB n = n.es.flatMap eB ++ (n.ks.flatMap iB ++ (n.ps.flatMap kB ++ n.ms.flatMap mB))) := zb rfl
  have hpl := zb (preB_len n)
  have hps := zb (pd_sum n)
  have hfin : Hid (∀ k, k = 248 - (bodyB n).length → preB n ++ (bodyB n ++ List.replicate k 0) = pdB n) := zb (fun k hk => by subst hk; unfold preB pdB; simp)
  have hp1 := zb (pad_1 n b248.out)
  have p256 := zb (pdB_len b248.out)
  have by5 := zb (bytes_pdB wrT.out)
  clear wrT
  generalize bkB n = bk at *
  generalize preB n = pre at *
  generalize pdB n = pd at *
  generalize bodyB n = bod at *
  generalize n.es = es at *
  generalize n.ks = ks at *
  generalize n.ps = ps at *
  generalize n.ms = ms at *
  have e1 := byte_wrap (n := n1) (by omega)
  have e2 := byte_wrap (n := n2) (by omega)
  have e4 := byte_wrap (n := n4) (by omega)
  go_enter Try.func17, Try.ntmps17
  go_wp2_with fail
  refine cF.mono ?_
  rintro e w1 ⟨rfl, f1⟩
  have f1D := za f1 (zn (ze w1))
  clear cF lYY
  go_wp2_with fail
  refine wp_region_noPanic ?_
  refine wp_region_held_drew (S := fun W => Fr Y W) (by kernel_rfl) f1D (fun hHeld => ?_)
  change wpAnyH _ _ _ _ _ _ _ _ _
  generalize w1.drew = X0 at *
  refine wpAnyH_take (i := 0) (v := ?_) rfl (by kernel_rfl) (by kernel_rfl) (by kernel_rfl) (fun _ _ _ h => h) (Or.inl ⟨by rfl, ?_⟩) (by assumption) ?_
  rotate_left
  · intro w' hSw
    try dsimp only at hSw
    go_simp
    try with_reducible rfl
  try simp only [List.getElem_toArray, List.getElem_cons_zero, Act.put, List.setIfInBounds_toArray, List.set_cons_zero, List.set_cons_succ]
  refine wpAnyH_take (i := 1) (v := ?_) rfl (by kernel_rfl) (by kernel_rfl) (by kernel_rfl) (fun _ _ _ h => h) (Or.inl ⟨by rfl, ?_⟩) (by assumption) ?_
  rotate_left
  · intro w' hSw
    try dsimp only at hSw
    go_simp
    try with_reducible rfl
  try simp only [List.getElem_toArray, List.getElem_cons_succ, List.getElem_cons_zero, Act.put, List.setIfInBounds_toArray, List.set_cons_zero, List.set_cons_succ]
  refine wpAnyH_take (i := 2) (v := ?_) rfl (by kernel_rfl) (by kernel_rfl) (by kernel_rfl) (fun _ _ _ h => h) (Or.inl ⟨by rfl, ?_⟩) (by assumption) ?_
  rotate_left
  · intro w' hSw
    try dsimp only at hSw
    go_simp
    try with_reducible rfl
  try simp only [List.getElem_toArray, List.getElem_cons_succ, List.getElem_cons_zero, Act.put, List.setIfInBounds_toArray, List.set_cons_zero, List.set_cons_succ]
  refine wpAnyH_take (i := 3) (v := ?_) rfl (by kernel_rfl) (by kernel_rfl) (by kernel_rfl) (fun _ _ _ h => h) (Or.inl ⟨by rfl, ?_⟩) (by assumption) ?_
  rotate_left
  · intro w' hSw
    try dsimp only at hSw
    go_simp
    try with_reducible rfl
  try simp only [List.getElem_toArray, List.getElem_cons_succ, List.getElem_cons_zero, Act.put, List.setIfInBounds_toArray, List.set_cons_zero, List.set_cons_succ]
  refine wpAnyH_take (i := 4) (v := ?_) rfl (by kernel_rfl) (by kernel_rfl) (by kernel_rfl) (fun _ _ _ h => h) (Or.inl ⟨by rfl, ?_⟩) (by assumption) ?_
  rotate_left
  · intro w' hSw
    try dsimp only at hSw
    go_simp
    try with_reducible rfl
  try simp only [List.getElem_toArray, List.getElem_cons_succ, List.getElem_cons_zero, Act.put, List.setIfInBounds_toArray, List.set_cons_zero, List.set_cons_succ]
  refine wpAnyH_done (by kernel_rfl) ?_ _
  refine NoPanic.normal ?_
  go_upto_if 23 with fail
  try simp only [Act.put]
  go_cut [4, 5] from 23 to 26 (fun s4 s5 wx => ∃ kd ct : Int, s4 = .int .u8 kd ∧ s5 = .int .i64 ct ∧ Hid (0 ≤ ct ∧ ct ≤ 255 ∧ pre = [kd, ct, (n4 : Int), 0, 0, 0, 0, 0]) ∧ Hid (Fr Y wx))
  case first =>
    have fXD := za f1D (zn (ze X0))
    cases lf
    · rw [if_neg (by decide)] at hpre
      go_wp2_with fail
      refine wp_region_noPanic ?_
      refine wp_region_held_drew (S := fun W => Fr Y W) (by kernel_rfl) fXD (fun hHeld => ?_)
      change wpAnyH _ _ _ _ _ _ _ _ _
      generalize X0.drew = X1 at *
      refine wpAnyH_take (i := 0) (v := ?_) rfl (by kernel_rfl) (by kernel_rfl) (by kernel_rfl) (fun _ _ _ h => h) (Or.inl ⟨by rfl, ?_⟩) (by assumption) ?_
      rotate_left
      · intro w' hSw
        try dsimp only at hSw
        go_simp
        try with_reducible rfl
      try simp only [List.getElem_toArray, List.getElem_cons_zero, Act.put, List.setIfInBounds_toArray, List.set_cons_zero, List.set_cons_succ]
      refine wpAnyH_take (i := 1) (v := ?_) rfl (by kernel_rfl) (by kernel_rfl) (by kernel_rfl) (fun _ _ _ h => h) (Or.inl ⟨by rfl, ?_⟩) (by assumption) ?_
      rotate_left
      · intro w' hSw
        try dsimp only at hSw
        go_simp
        try with_reducible rfl
      try simp only [List.getElem_toArray, List.getElem_cons_succ, List.getElem_cons_zero, Act.put, List.setIfInBounds_toArray, List.set_cons_zero, List.set_cons_succ]
      refine wpAnyH_take (i := 2) (v := ?_) rfl (by kernel_rfl) (by kernel_rfl) (by kernel_rfl) (fun _ _ _ h => h) (Or.inl ⟨by rfl, ?_⟩) (by assumption) ?_
      rotate_left
      · intro w' hSw
        try dsimp only at hSw
        go_simp
        try with_reducible rfl
      try simp only [List.getElem_toArray, List.getElem_cons_succ, List.getElem_cons_zero, Act.put, List.setIfInBounds_toArray, List.set_cons_zero, List.set_cons_succ]
      refine wpAnyH_take (i := 3) (v := ?_) rfl (by kernel_rfl) (by kernel_rfl) (by kernel_rfl) (fun _ _ _ h => h) (Or.inl ⟨by rfl, ?_⟩) (by assumption) ?_
      rotate_left
      · intro w' hSw
        try dsimp only at hSw
        go_simp
        try with_reducible rfl
      try simp only [List.getElem_toArray, List.getElem_cons_succ, List.getElem_cons_zero, Act.put, List.setIfInBounds_toArray, List.set_cons_zero, List.set_cons_succ]
      refine wpAnyH_take (i := 4) (v := ?_) rfl (by kernel_rfl) (by kernel_rfl) (by kernel_rfl) (fun _ _ _ h => h) (Or.inl ⟨by rfl, ?_⟩) (by assumption) ?_
      rotate_left
      · intro w' hSw
        try dsimp only at hSw
        go_simp
        try with_reducible rfl
      try simp only [List.getElem_toArray, List.getElem_cons_succ, List.getElem_cons_zero, Act.put, List.setIfInBounds_toArray, List.set_cons_zero, List.set_cons_succ]
      refine wpAnyH_done (by kernel_rfl) ?_ _
      refine NoPanic.normal ?_
      go_wp2_with fail
      go_meet
      exact ⟨2, n2, rfl, rfl, zb ⟨by omega, by omega, hpre.out⟩, zb fXD⟩
    · rw [if_pos rfl] at hpre
      have hm := m4 rfl
      subst hm
      go_wp2_with fail
      go_meet
      exact ⟨1, n1, rfl, rfl, zb ⟨by omega, by omega, hpre.out⟩, zb f1D⟩
  case rest =>
    obtain ⟨kd, ct, rfl, rfl, hct, fc⟩ := hcut
    obtain ⟨wz, rfl⟩ : ∃ W : World, W = wc := ⟨_, rfl⟩
    clear hpre m4 f1D f1
    have hwc : IntKind.u8.wrap ct = ct := by have := hct.out.1; have := hct.out.2.1; rw [IntKind.wrap_u8]; omega
    have c4z := c4 wz fc.out
    obtain ⟨U, hU, fU, aU⟩ : ∃ U, wz.alloc (.cells #[.int .u8 kd, .int .u8 ct, .int .u8 (n4 : Int), .int .u8 0, .int .u8 0, .int .u8 0, .int .u8 0, .int .u8 0] 5) = U ∧ Fr wz U ∧ Own U Y.heap.size 5 1 (some ⟨wz.heap.size, 0, none⟩) 8 8 (u8s [kd, ct, (n4 : Int), 0, 0, 0, 0, 0]) := ⟨_, rfl, zf (ze _) _, Own.lit wz Y.heap.size 5 _ 8 1 fc.out.size (by unfold maxLen; decide) rfl⟩
    have hI0 : Hid (BdI Y U (some ⟨wz.heap.size, 0, none⟩) 8 8 pre) := zb ⟨hpl.out.symm, by rw [hct.out.2.2]; exact aU, za fc.out fU⟩
    clear aU
    go_wp2_with fail
    go_loopg [6, 7] n1 (fun gg s6 si wr => ∃ (j : Nat) (A : Option Addr) (N c : Nat), j + gg = n1 ∧ si = .int .i64 j ∧ s6 = .slice A N c ∧ Hid (BdI Y wr A N c (pre ++ (es.take j).flatMap eB)))
    case atStart => exact ⟨0, _, _, _, by omega, rfl, rfl, zb (by rw [List.take_zero, List.flatMap_nil, List.append_nil]; exact hI0.out)⟩
    case round =>
      obtain ⟨j, A, N, c, hj, rfl, rfl, hI⟩ := hrel
      obtain ⟨wx, rfl⟩ : ∃ W : World, W = wr := ⟨_, rfl⟩
      have fw := hI.out.2.2
      have c1x := c1 wx fw
      by_cases hlt : j < n1
      · have hjz : (j : Int) < (n1 : Int) := by omega
        have hm : es[j]? = some (es[j]'(by have := L1.out; omega)) := List.getElem?_eq_getElem _
        generalize es[j]'(by have := L1.out; omega) = x at hm
        have hfl := flat_le eB es (j + 1)
        have hfj := flat_le eB es j
        rw [flat_snoc eB hm, List.length_append] at hfl
        have hsn := zb (flat_snoc eB hm)
        have hNl := hI.out.1
        try simp only [List.length_append, List.length_nil, hpl.out] at hNl
        have hN5 : N ≤ 1000 := by omega
        have Hj := zb (And.intro hj hlt)
        have ox := Wes.out x (List.mem_of_getElem? hm)
        obtain ⟨b, off, eA, hb1, hr⟩ := zJ H1.out (show Wid ec 26 es from fun x hx => zbT (w5.out x hx).val.hl) (by decide) (by intro e; rw [e] at hm; simp at hm)
        subst eA
        have lX := z9 zh4 hr (show Wid ec 26 es from fun x hx => zbT (w5.out x hx).val.hl) (by omega) hm
        have lx := lX wx fw
        have he26 := zb (zbT ox.wv.hl)
        have hz26 : Hid ((ec zea).length = 26) := zb rfl
        obtain ⟨mk, hmk, hkn, -⟩ := zi4 ox.ok
        obtain ⟨mv, hmv, hvn, -⟩ := ziC ox.ov
        have hvl := ox.wv.hl
        obtain ⟨V, hV, fV, aV⟩ : ∃ V, wx.alloc (.cells (ec zea).toArray 74) = V ∧ Fr wx V ∧ Arr V wx.heap.size 74 (ec zea).toArray := ⟨_, rfl, zf (ze _) _, Arr.new _ _ _⟩
        rw [zkV] at hV
        have tok1 : Hid (0 < 1) := zb (by decide)
        have ho := hI.out.2.1
        have hne := own_ne ho
        clear hj hlt lX hm hfl hfj hNl
        go_upto_region 11 with (first
          | (clear tok1; refine wpList_put (ds := ec x) zdA rfl (.tmp 8) (.tmp 46) rfl wx.heap.size 0 rfl rfl he26.out (zdw _) aV (Nat.le_of_eq hz26.out.symm) (zk _ _ (Nat.le_of_eq (hz26.out.trans he26.out.symm))) ?_; intro W1 a1 k1')
          | fail)
        try simp only [Act.put]
        have f1 : Fr wx W1 := k1'.below fV fV.size (Nat.le_refl _)
        have aW : ∀ W, GrS W1 A W → Arr W wx.heap.size 74 (ec x).toArray := fun W h => by
          obtain ⟨A', h⟩ := h
          exact h.arr a1 hne
        have oW := ho.below f1 (Nat.le_refl _)
        have bW : Y.heap.size ≤ W1.heap.size := Nat.le_trans fw.size f1.size
        have zW1 : wx.heap.size < W1.heap.size := a1.lt
        have GW : GrS W1 A W1 := ⟨A, Grw.refl _ _⟩
        have cKn : ∀ W, GrS W1 A W → W.cell? ⟨wx.heap.size, 0, none⟩ = some (.int .i64 (mk : Int)) := fun W h => by rw [(aW W h).cell, ← hkn]; rfl
        have cVn : ∀ W, GrS W1 A W → W.cell? ⟨wx.heap.size, 9, none⟩ = some (.int .i64 (mv : Int)) := fun W h => by rw [(aW W h).cell, ← hvn]; rfl
        have kc1 := zb (kB_cons hkn)
        have kc2 := zb (vB_cons hvn)
        have kl : ((kbs x.key).take mk).length = mk := by rw [List.length_take]; show min mk 8 = mk; omega
        have vl : (x.val.bs.take mv).length = mv := by rw [List.length_take]; omega
        clear fV aV hV lx k1' hkn hvn c1x c1
        have g2D : Grw W1 A W1.drew A := (Grw.refl W1 A).fr (zn (ze _))
        have G2D : GrS W1 A W1.drew := ⟨_, g2D⟩
        have o2D := (oW).below (zn (ze _)) (Nat.le_refl _)
        have b2D : Y.heap.size ≤ W1.drew.heap.size := Nat.le_trans bW g2D.size
        refine wp_region_noPanic ?_
        refine wp_region_held_drew (S := fun w' => GrS W1 A w') (by kernel_rfl) G2D (fun hHeld => ?_)
        change wpAnyH _ _ _ _ _ _ _ _ _
        generalize hX2 : W1.drew = X2 at *
        have gX2 := g2D
        have oX2 := o2D
        have bX2 := b2D
        refine wpAnyH_take (i := 0) (v := ?_) rfl (by kernel_rfl) (by kernel_rfl) (by kernel_rfl) (fun _ _ _ h => h) (Or.inl ⟨by rfl, ?_⟩) (by assumption) ?_
        rotate_left
        · intro w' hSw
          try dsimp only at hSw
          go_simp
          try with_reducible rfl
        try simp only [List.getElem_toArray, List.getElem_cons_zero, Act.put, List.setIfInBounds_toArray, List.set_cons_zero, List.set_cons_succ]
        refine wpAnyH_take (i := 1) (v := ?_) rfl (by kernel_rfl) (by kernel_rfl) (by kernel_rfl) (fun _ _ _ h => h) (Or.inl ⟨by rfl, ?_⟩) (by assumption) ?_
        rotate_left
        · intro w' hSw
          try dsimp only at hSw
          go_simp
          try with_reducible rfl
        try simp only [List.getElem_toArray, List.getElem_cons_succ, List.getElem_cons_zero, Act.put, List.setIfInBounds_toArray, List.set_cons_zero, List.set_cons_succ]
        refine wpAnyH_take (i := 2) (v := ?_) rfl (by kernel_rfl) (by kernel_rfl) (by kernel_rfl) (fun _ _ _ h => h) (Or.inl ⟨by rfl, ?_⟩) (by assumption) ?_
        rotate_left
        · intro w' hSw
          try dsimp only at hSw
          go_simp
          try with_reducible rfl
        try simp only [List.getElem_toArray, List.getElem_cons_succ, List.getElem_cons_zero, Act.put, List.setIfInBounds_toArray, List.set_cons_zero, List.set_cons_succ]
        refine wpAnyH_take (i := 3) (v := ?_) rfl (by kernel_rfl) (by kernel_rfl) (by kernel_rfl) (fun _ _ _ h => h) (Or.inl ⟨by rfl, ?_⟩) (by assumption) ?_
        rotate_left
        · intro w' hSw
          try dsimp only at hSw
          go_simp
          try with_reducible rfl
        try simp only [List.getElem_toArray, List.getElem_cons_succ, List.getElem_cons_zero, Act.put, List.setIfInBounds_toArray, List.set_cons_zero, List.set_cons_succ]
        refine wpAnyH_take (i := 4) (v := ?_) rfl (by kernel_rfl) (by kernel_rfl) (by kernel_rfl) (fun _ _ _ h => h) (Or.inl ⟨by rfl, ?_⟩) (by assumption) ?_
        rotate_left
        · intro w' hSw
          try dsimp only at hSw
          go_simp
          try with_reducible rfl
        try simp only [List.getElem_toArray, List.getElem_cons_succ, List.getElem_cons_zero, Act.put, List.setIfInBounds_toArray, List.set_cons_zero, List.set_cons_succ]
        refine wpAnyH_take (i := 5) (v := ?_) rfl (by kernel_rfl) (by kernel_rfl) (by kernel_rfl) (fun _ _ _ h => h) (Or.inl ⟨by rfl, ?_⟩) (by assumption) ?_
        rotate_left
        · intro w' hSw
          try dsimp only at hSw
          go_simp
          try with_reducible rfl
        try simp only [List.getElem_toArray, List.getElem_cons_succ, List.getElem_cons_zero, Act.put, List.setIfInBounds_toArray, List.set_cons_zero, List.set_cons_succ]
        refine wpAnyH_take (i := 6) (v := ?_) rfl (by kernel_rfl) (by kernel_rfl) (by kernel_rfl) (fun _ _ _ h => h) (Or.inl ⟨by rfl, ?_⟩) (by assumption) ?_
        rotate_left
        · intro w' hSw
          try dsimp only at hSw
          go_simp
          try with_reducible rfl
        try simp only [List.getElem_toArray, List.getElem_cons_succ, List.getElem_cons_zero, Act.put, List.setIfInBounds_toArray, List.set_cons_zero, List.set_cons_succ]
        refine wpAnyH_ready (rs := [7]) (by kernel_rfl) (by simp) ?_
        refine AllReadyH.cons rfl (fun K hK0 => ?_) AllReadyH.nil
        go_simp
        refine (rtx_at oX2 bX2 (by omega) (b := wx.heap.size) (off := 1) (M := 8) (zs := (kbs x.key).take mk) (fun j u hu => by rw [(aW X2 ⟨_, gX2⟩).cell]; have := ec_kb x _ j u hu; simpa using this) (Nat.lt_of_lt_of_le zW1 (gX2).size) hne kl (by omega) (by omega)).mono ?_
        rintro e w2 ⟨A2', c2', N2, rfl, h2⟩
        have G2 := (gX2).trans h2.out.2.2
        have S2 : GrS W1 A w2 := ⟨A2', G2⟩
        go_simp
        refine hK0.out _ _ S2 (fun _ => ?_)
        clear hK0 K
        try simp only [List.getElem_toArray, List.getElem_cons_succ, List.getElem_cons_zero, Act.put, List.setIfInBounds_toArray, List.set_cons_zero, List.set_cons_succ]
        refine wpAnyH_take (i := 8) (v := ?_) rfl (by kernel_rfl) (by kernel_rfl) (by kernel_rfl) (fun _ _ _ h => h) (Or.inl ⟨by rfl, ?_⟩) (by assumption) ?_
        rotate_left
        · intro w' hSw
          try dsimp only at hSw
          go_simp
          try with_reducible rfl
        try simp only [List.getElem_toArray, List.getElem_cons_succ, List.getElem_cons_zero, Act.put, List.setIfInBounds_toArray, List.set_cons_zero, List.set_cons_succ]
        refine wpAnyH_done (by kernel_rfl) ?_ _
        refine NoPanic.normal ?_
        have o2 := h2.out.2.1
        have hN2 : N2 ≤ N + 9 := by have := h2.out.1; rw [List.length_cons, kl] at this; omega
        have hne2 : blk A2' ≠ some wx.heap.size := G2.ne zW1 hne
        go_wp2_with fail
        have g3D : Grw W1 A w2.drew A2' := (G2).fr (zn (ze _))
        have G3D : GrS W1 A w2.drew := ⟨_, g3D⟩
        have o3D := (o2).below (zn (ze _)) (Nat.le_refl _)
        have b3D : Y.heap.size ≤ w2.drew.heap.size := Nat.le_trans bW g3D.size
        refine wp_region_noPanic ?_
        refine wp_region_held_drew (S := fun w' => GrS W1 A w') (by kernel_rfl) G3D (fun hHeld => ?_)
        change wpAnyH _ _ _ _ _ _ _ _ _
        generalize hX3 : w2.drew = X3 at *
        have gX3 := g3D
        have oX3 := o3D
        have bX3 := b3D
        refine wpAnyH_take (i := 0) (v := ?_) rfl (by kernel_rfl) (by kernel_rfl) (by kernel_rfl) (fun _ _ _ h => h) (Or.inl ⟨by rfl, ?_⟩) (by assumption) ?_
        rotate_left
        · intro w' hSw
          try dsimp only at hSw
          go_simp
          try with_reducible rfl
        try simp only [List.getElem_toArray, List.getElem_cons_zero, Act.put, List.setIfInBounds_toArray, List.set_cons_zero, List.set_cons_succ]
        refine wpAnyH_take (i := 1) (v := ?_) rfl (by kernel_rfl) (by kernel_rfl) (by kernel_rfl) (fun _ _ _ h => h) (Or.inl ⟨by rfl, ?_⟩) (by assumption) ?_
        rotate_left
        · intro w' hSw
          try dsimp only at hSw
          go_simp
          try with_reducible rfl
        try simp only [List.getElem_toArray, List.getElem_cons_succ, List.getElem_cons_zero, Act.put, List.setIfInBounds_toArray, List.set_cons_zero, List.set_cons_succ]
        refine wpAnyH_take (i := 2) (v := ?_) rfl (by kernel_rfl) (by kernel_rfl) (by kernel_rfl) (fun _ _ _ h => h) (Or.inl ⟨by rfl, ?_⟩) (by assumption) ?_
        rotate_left
        · intro w' hSw
          try dsimp only at hSw
          go_simp
          try with_reducible rfl
        try simp only [List.getElem_toArray, List.getElem_cons_succ, List.getElem_cons_zero, Act.put, List.setIfInBounds_toArray, List.set_cons_zero, List.set_cons_succ]
        refine wpAnyH_take (i := 3) (v := ?_) rfl (by kernel_rfl) (by kernel_rfl) (by kernel_rfl) (fun _ _ _ h => h) (Or.inl ⟨by rfl, ?_⟩) (by assumption) ?_
        rotate_left
        · intro w' hSw
          try dsimp only at hSw
          go_simp
          try with_reducible rfl
        try simp only [List.getElem_toArray, List.getElem_cons_succ, List.getElem_cons_zero, Act.put, List.setIfInBounds_toArray, List.set_cons_zero, List.set_cons_succ]
        refine wpAnyH_take (i := 4) (v := ?_) rfl (by kernel_rfl) (by kernel_rfl) (by kernel_rfl) (fun _ _ _ h => h) (Or.inl ⟨by rfl, ?_⟩) (by assumption) ?_
        rotate_left
        · intro w' hSw
          try dsimp only at hSw
          go_simp
          try with_reducible rfl
        try simp only [List.getElem_toArray, List.getElem_cons_succ, List.getElem_cons_zero, Act.put, List.setIfInBounds_toArray, List.set_cons_zero, List.set_cons_succ]
        refine wpAnyH_take (i := 5) (v := ?_) rfl (by kernel_rfl) (by kernel_rfl) (by kernel_rfl) (fun _ _ _ h => h) (Or.inl ⟨by rfl, ?_⟩) (by assumption) ?_
        rotate_left
        · intro w' hSw
          try dsimp only at hSw
          go_simp
          try with_reducible rfl
        try simp only [List.getElem_toArray, List.getElem_cons_succ, List.getElem_cons_zero, Act.put, List.setIfInBounds_toArray, List.set_cons_zero, List.set_cons_succ]
        refine wpAnyH_take (i := 6) (v := ?_) rfl (by kernel_rfl) (by kernel_rfl) (by kernel_rfl) (fun _ _ _ h => h) (Or.inl ⟨by rfl, ?_⟩) (by assumption) ?_
        rotate_left
        · intro w' hSw
          try dsimp only at hSw
          go_simp
          try with_reducible rfl
        try simp only [List.getElem_toArray, List.getElem_cons_succ, List.getElem_cons_zero, Act.put, List.setIfInBounds_toArray, List.set_cons_zero, List.set_cons_succ]
        refine wpAnyH_ready (rs := [7]) (by kernel_rfl) (by simp) ?_
        refine AllReadyH.cons rfl (fun K hK0 => ?_) AllReadyH.nil
        go_simp
        refine (rtx_at oX3 bX3 (by omega) (b := wx.heap.size) (off := 10) (M := 16) (zs := x.val.bs.take mv) (fun j u hu => by rw [(aW X3 ⟨_, gX3⟩).cell]; have := ec_vb x _ j u hu; simpa using this) (Nat.lt_of_lt_of_le zW1 (gX3).size) hne2 vl (by omega) (by omega)).mono ?_
        rintro e w3 ⟨A3', c3', N3, rfl, h3⟩
        have G3 := (gX3).trans h3.out.2.2
        have S3 : GrS W1 A w3 := ⟨A3', G3⟩
        go_simp
        refine hK0.out _ _ S3 (fun _ => ?_)
        clear hK0 K
        try simp only [List.getElem_toArray, List.getElem_cons_succ, List.getElem_cons_zero, Act.put, List.setIfInBounds_toArray, List.set_cons_zero, List.set_cons_succ]
        refine wpAnyH_take (i := 8) (v := ?_) rfl (by kernel_rfl) (by kernel_rfl) (by kernel_rfl) (fun _ _ _ h => h) (Or.inl ⟨by rfl, ?_⟩) (by assumption) ?_
        rotate_left
        · intro w' hSw
          try dsimp only at hSw
          go_simp
          try with_reducible rfl
        try simp only [List.getElem_toArray, List.getElem_cons_succ, List.getElem_cons_zero, Act.put, List.setIfInBounds_toArray, List.set_cons_zero, List.set_cons_succ]
        refine wpAnyH_done (by kernel_rfl) ?_ _
        refine NoPanic.normal ?_
        have hB3 := zb (BdI.step (zs := eB x) hI.out f1 (zb (p := N3 = N + (eB x).length ∧ _) ⟨by have e2 := h2.out.1; have e3 := h3.out.1; rw [kc1.out] at e2; rw [kc2.out] at e3; unfold eB; rw [List.length_append]; omega, (by have := h3.out.2.1; rw [List.append_assoc, kc1.out, kc2.out] at this; exact this), G3⟩))
        clear aW cKn cVn
        go_wp2_with fail
        go_roundg (gk - 1)
        case measure => have := Hj.out.1; have := Hj.out.2; omega
        case rel => exact ⟨j + 1, _, _, _, by have := Hj.out.1; omega, by go_num, rfl, zb (by rw [hsn.out, ← List.append_assoc]; exact hB3.out)⟩
      have hjz : ¬ (j : Int) < (n1 : Int) := by omega
      have ej : es.take j = es := List.take_of_length_le (by have := L1.out; omega)
      rw [ej] at hI
      have fw := zb hI.out.2.2
      clear hj hlt ej
      have hI1 := zb hI.out
      have c1z := c1x
      go_wp2_with fail
      go_loopg [6, 9] n2 (fun gg s6 si wr => ∃ (j : Nat) (A : Option Addr) (N c : Nat), j + gg = n2 ∧ si = .int .i64 j ∧ s6 = .slice A N c ∧ Hid (BdI Y wr A N c (pre ++ es.flatMap eB ++ (ks.take j).flatMap iB)))
      case atStart => exact ⟨0, _, _, _, by omega, rfl, rfl, zb (by rw [List.take_zero, List.flatMap_nil, List.append_nil]; exact hI1.out)⟩
      case round =>
        obtain ⟨j, A, N, c, hj, rfl, rfl, hI⟩ := hrel
        obtain ⟨wx, rfl⟩ : ∃ W : World, W = wr := ⟨_, rfl⟩
        have fw := hI.out.2.2
        have c2x := c2 wx fw
        by_cases hlt : j < n2
        · have hjz : (j : Int) < (n2 : Int) := by omega
          have hm : ks[j]? = some (ks[j]'(by have := L2.out; omega)) := List.getElem?_eq_getElem _
          generalize ks[j]'(by have := L2.out; omega) = x at hm
          have hfl := flat_le iB ks (j + 1)
          have hfj := flat_le iB ks j
          rw [flat_snoc iB hm, List.length_append] at hfl
          have hsn := zb (flat_snoc iB hm)
          have hNl := hI.out.1
          try simp only [List.length_append, List.length_nil, hpl.out] at hNl
          have hN5 : N ≤ 1000 := by omega
          have Hj := zb (And.intro hj hlt)
          have oz := Wks.out x (List.mem_of_getElem? hm)
          obtain ⟨b, off, eA, hb1, hc⟩ := H2.out.form (by intro e; unfold zS at e; rw [List.map_eq_nil_iff.1 e] at hm; simp at hm)
          subst eA
          have hcx : wx.cell? ⟨b, off + j, none⟩ = some (.int .i64 x) := (fw.cell (p := ⟨b, off + j, none⟩) (by show b < _; omega)).trans (hc j _ (by unfold zS; rw [List.getElem?_map, hm]; rfl))
          have hwz : IntKind.u64.wrap x = x := by rw [zeB]; omega
          have h0x := oz.1
          have h1x := oz.2
          have cP := crput_at hI.out.2.1 fw.size (by omega) oz.1 (by omega) 4 (show (4 : Int) = ((4 : Nat) : Int) from rfl) (by decide) (by decide)
          clear hj hlt hc hm hfl hfj hNl oz
          go_wp2_with fail
          refine cP.mono ?_
          rintro e w2 ⟨A2', c2', N2, rfl, h2⟩
          have hB3 := zb (BdI.step hI.out (ze _) h2)
          clear cP
          go_wp2_with fail
          go_roundg (gk - 1)
          case measure => have := Hj.out.1; have := Hj.out.2; omega
          case rel => exact ⟨j + 1, _, _, _, by have := Hj.out.1; omega, by go_num, rfl, zb (by rw [hsn.out, ← List.append_assoc]; exact hB3.out)⟩
        have hjz : ¬ (j : Int) < (n2 : Int) := by omega
        have ej : ks.take j = ks := List.take_of_length_le (by have := L2.out; omega)
        rw [ej] at hI
        have fw := zb hI.out.2.2
        clear hj hlt ej
        have hI2 := zb hI.out
        go_wp2_with fail
        go_loopg [6, 10] n3 (fun gg s6 si wr => ∃ (j : Nat) (A : Option Addr) (N c : Nat), j + gg = n3 ∧ si = .int .i64 j ∧ s6 = .slice A N c ∧ Hid (BdI Y wr A N c (pre ++ es.flatMap eB ++ ks.flatMap iB ++ (ps.take j).flatMap kB)))
        case atStart => exact ⟨0, _, _, _, by omega, rfl, rfl, zb (by rw [List.take_zero, List.flatMap_nil, List.append_nil]; exact hI2.out)⟩
        case round =>
          obtain ⟨j, A, N, c, hj, rfl, rfl, hI⟩ := hrel
          obtain ⟨wx, rfl⟩ : ∃ W : World, W = wr := ⟨_, rfl⟩
          have fw := hI.out.2.2
          have c3x := c3 wx fw
          by_cases hlt : j < n3
          · have hjz : (j : Int) < (n3 : Int) := by omega
            have hm : ps[j]? = some (ps[j]'(by have := L3.out; omega)) := List.getElem?_eq_getElem _
            generalize ps[j]'(by have := L3.out; omega) = x at hm
            have hfl := flat_le kB ps (j + 1)
            have hfj := flat_le kB ps j
            rw [flat_snoc kB hm, List.length_append] at hfl
            have hsn := zb (flat_snoc kB hm)
            have hNl := hI.out.1
            try simp only [List.length_append, List.length_nil, hpl.out] at hNl
            have hN5 : N ≤ 1000 := by omega
            have Hj := zb (And.intro hj hlt)
            have ox := Wps.out x (List.mem_of_getElem? hm)
            obtain ⟨b, off, eA, hb1, hr⟩ := zJ H3.out (show Wid kc 9 ps from fun x _ => zl x) (by decide) (by intro e; rw [e] at hm; simp at hm)
            subst eA
            have hrow := zf6 hr (show Wid kc 9 ps from fun x _ => zl x) hm
            obtain ⟨mk, hmk, hkn, -⟩ := zi4 ox
            have ho := hI.out.2.1
            have hAY := fun k e => (ho.lt k e).1
            have aC : ∀ W, GrS wx A W → ∀ p : Addr, p.block < Y.heap.size → W.cell? p = Y.cell? p := fun W h p hp => by
              obtain ⟨A', h⟩ := h
              exact (h.1.cell_far p (Nat.lt_of_lt_of_le hp fw.size) (fun e => by have := hAY p.block e.symm; omega)).trans (fw.cell hp)
            have c3w : ∀ W, GrS wx A W → W.cell? ⟨w.heap.size, 3, none⟩ = some (.slice (some ⟨b, off, none⟩) n3 k3) := fun W h => (aC W h _ (by show w.heap.size < _; omega)).trans (c3 Y (ze _))
            have cN : ∀ W, GrS wx A W → W.cell? ⟨b, off + j * 9, none⟩ = some (.int .i64 (mk : Int)) := fun W h => (aC W h _ (by show b < _; omega)).trans (by rw [← hkn]; exact hrow 0 _ rfl)
            have AC := zb aC
            clear aC
            have kc1 := zb (kB_cons hkn)
            have kl : ((kbs x).take mk).length = mk := by rw [List.length_take]; show min mk 8 = mk; omega
            have gD : Grw wx A wx.drew A := Grw.of_fr A (zn (ze wx))
            have GD : GrS wx A wx.drew := ⟨A, gD⟩
            have GW : GrS wx A wx := ⟨A, Grw.refl _ _⟩
            have oD := ho.below (zn (ze wx)) (Nat.le_refl _)
            have bD : Y.heap.size ≤ wx.drew.heap.size := Nat.le_trans fw.size gD.size
            have hneb : blk A ≠ some b := fun e => by have := hAY b e; omega
            have hbY : b < Y.heap.size := by omega
            have j3 : j ≤ 100000 := by omega
            have hrowk : Hid (∀ i u, (u8s ((kbs x).take mk))[i]? = some u → Y.cell? ⟨b, off + j * 9 + 1 + i, none⟩ = some u) := zb fun i u hu => by rw [Nat.add_assoc (off + j * 9)]; exact hrow (1 + i) u (kc_byte x mk i u hu)
            clear hj hlt hm hfl hfj hNl hr hrow hkn
            go_wp2_with fail
            refine wp_region_noPanic ?_
            refine wp_region_held_drew (S := fun w' => GrS wx A w') (by kernel_rfl) GD (fun hHeld => ?_)
            change wpAnyH _ _ _ _ _ _ _ _ _
            generalize hX0 : wx.drew = X0 at *
            have gX := gD
            have oX := oD
            have bX := bD
            refine wpAnyH_take (i := 0) (v := ?_) rfl (by kernel_rfl) (by kernel_rfl) (by kernel_rfl) (fun _ _ _ h => h) (Or.inl ⟨by rfl, ?_⟩) (by assumption) ?_
            rotate_left
            · intro w' hSw
              try dsimp only at hSw
              go_simp
              try with_reducible rfl
            try simp only [List.getElem_toArray, List.getElem_cons_zero, Act.put, List.setIfInBounds_toArray, List.set_cons_zero, List.set_cons_succ]
            refine wpAnyH_take (i := 1) (v := ?_) rfl (by kernel_rfl) (by kernel_rfl) (by kernel_rfl) (fun _ _ _ h => h) (Or.inl ⟨by rfl, ?_⟩) (by assumption) ?_
            rotate_left
            · intro w' hSw
              try dsimp only at hSw
              go_simp
              try with_reducible rfl
            try simp only [List.getElem_toArray, List.getElem_cons_succ, List.getElem_cons_zero, Act.put, List.setIfInBounds_toArray, List.set_cons_zero, List.set_cons_succ]
            refine wpAnyH_take (i := 2) (v := ?_) rfl (by kernel_rfl) (by kernel_rfl) (by kernel_rfl) (fun _ _ _ h => h) (Or.inl ⟨by rfl, ?_⟩) (by assumption) ?_
            rotate_left
            · intro w' hSw
              try dsimp only at hSw
              go_simp
              try with_reducible rfl
            try simp only [List.getElem_toArray, List.getElem_cons_succ, List.getElem_cons_zero, Act.put, List.setIfInBounds_toArray, List.set_cons_zero, List.set_cons_succ]
            refine wpAnyH_take (i := 3) (v := ?_) rfl (by kernel_rfl) (by kernel_rfl) (by kernel_rfl) (fun _ _ _ h => h) (Or.inl ⟨by rfl, ?_⟩) (by assumption) ?_
            rotate_left
            · intro w' hSw
              try dsimp only at hSw
              go_simp
              try with_reducible rfl
            try simp only [List.getElem_toArray, List.getElem_cons_succ, List.getElem_cons_zero, Act.put, List.setIfInBounds_toArray, List.set_cons_zero, List.set_cons_succ]
            refine wpAnyH_take (i := 4) (v := ?_) rfl (by kernel_rfl) (by kernel_rfl) (by kernel_rfl) (fun _ _ _ h => h) (Or.inl ⟨by rfl, ?_⟩) (by assumption) ?_
            rotate_left
            · intro w' hSw
              try dsimp only at hSw
              go_simp
              try with_reducible rfl
            try simp only [List.getElem_toArray, List.getElem_cons_succ, List.getElem_cons_zero, Act.put, List.setIfInBounds_toArray, List.set_cons_zero, List.set_cons_succ]
            refine wpAnyH_take (i := 5) (v := ?_) rfl (by kernel_rfl) (by kernel_rfl) (by kernel_rfl) (fun _ _ _ h => h) (Or.inl ⟨by rfl, ?_⟩) (by assumption) ?_
            rotate_left
            · intro w' hSw
              try dsimp only at hSw
              go_simp
              try with_reducible rfl
            try simp only [List.getElem_toArray, List.getElem_cons_succ, List.getElem_cons_zero, Act.put, List.setIfInBounds_toArray, List.set_cons_zero, List.set_cons_succ]
            refine wpAnyH_take (i := 6) (v := ?_) rfl (by kernel_rfl) (by kernel_rfl) (by kernel_rfl) (fun _ _ _ h => h) (Or.inl ⟨by rfl, ?_⟩) (by assumption) ?_
            rotate_left
            · intro w' hSw
              try dsimp only at hSw
              go_simp
              try with_reducible rfl
            try simp only [List.getElem_toArray, List.getElem_cons_succ, List.getElem_cons_zero, Act.put, List.setIfInBounds_toArray, List.set_cons_zero, List.set_cons_succ]
            refine wpAnyH_take (i := 7) (v := ?_) rfl (by kernel_rfl) (by kernel_rfl) (by kernel_rfl) (fun _ _ _ h => h) (Or.inl ⟨by rfl, ?_⟩) (by assumption) ?_
            rotate_left
            · intro w' hSw
              try dsimp only at hSw
              go_simp
              try with_reducible rfl
            try simp only [List.getElem_toArray, List.getElem_cons_succ, List.getElem_cons_zero, Act.put, List.setIfInBounds_toArray, List.set_cons_zero, List.set_cons_succ]
            refine wpAnyH_take (i := 8) (v := ?_) rfl (by kernel_rfl) (by kernel_rfl) (by kernel_rfl) (fun _ _ _ h => h) (Or.inl ⟨by rfl, ?_⟩) (by assumption) ?_
            rotate_left
            · intro w' hSw
              try dsimp only at hSw
              go_simp
              try with_reducible rfl
            try simp only [List.getElem_toArray, List.getElem_cons_succ, List.getElem_cons_zero, Act.put, List.setIfInBounds_toArray, List.set_cons_zero, List.set_cons_succ]
            refine wpAnyH_take (i := 9) (v := ?_) rfl (by kernel_rfl) (by kernel_rfl) (by kernel_rfl) (fun _ _ _ h => h) (Or.inl ⟨by rfl, ?_⟩) (by assumption) ?_
            rotate_left
            · intro w' hSw
              try dsimp only at hSw
              go_simp
              try with_reducible rfl
            try simp only [List.getElem_toArray, List.getElem_cons_succ, List.getElem_cons_zero, Act.put, List.setIfInBounds_toArray, List.set_cons_zero, List.set_cons_succ]
            refine wpAnyH_take (i := 10) (v := ?_) rfl (by kernel_rfl) (by kernel_rfl) (by kernel_rfl) (fun _ _ _ h => h) (Or.inl ⟨by rfl, ?_⟩) (by assumption) ?_
            rotate_left
            · intro w' hSw
              try dsimp only at hSw
              go_simp
              try with_reducible rfl
            try simp only [List.getElem_toArray, List.getElem_cons_succ, List.getElem_cons_zero, Act.put, List.setIfInBounds_toArray, List.set_cons_zero, List.set_cons_succ]
            refine wpAnyH_take (i := 11) (v := ?_) rfl (by kernel_rfl) (by kernel_rfl) (by kernel_rfl) (fun _ _ _ h => h) (Or.inl ⟨by rfl, ?_⟩) (by assumption) ?_
            rotate_left
            · intro w' hSw
              try dsimp only at hSw
              go_simp
              try with_reducible rfl
            try simp only [List.getElem_toArray, List.getElem_cons_succ, List.getElem_cons_zero, Act.put, List.setIfInBounds_toArray, List.set_cons_zero, List.set_cons_succ]
            refine wpAnyH_take (i := 12) (v := ?_) rfl (by kernel_rfl) (by kernel_rfl) (by kernel_rfl) (fun _ _ _ h => h) (Or.inl ⟨by rfl, ?_⟩) (by assumption) ?_
            rotate_left
            · intro w' hSw
              try dsimp only at hSw
              go_simp
              try with_reducible rfl
            try simp only [List.getElem_toArray, List.getElem_cons_succ, List.getElem_cons_zero, Act.put, List.setIfInBounds_toArray, List.set_cons_zero, List.set_cons_succ]
            refine wpAnyH_ready (rs := [13]) (by kernel_rfl) (by simp) ?_
            refine AllReadyH.cons rfl (fun K hK0 => ?_) AllReadyH.nil
            go_simp
            refine (rtx_at oX bX (by omega) (b := b) (off := off + j * 9 + 1) (M := 8) (zs := (kbs x).take mk) (fun i u hu => (AC.out X0 ⟨_, gX⟩ _ hbY).trans (hrowk.out i u hu)) (Nat.lt_of_lt_of_le hbY bX) hneb kl (by omega) (by omega)).mono ?_
            rintro e w2 ⟨A2', c2', N2, rfl, h2⟩
            have G2 := gX.trans h2.out.2.2
            have S2 : GrS wx A w2 := ⟨A2', G2⟩
            go_simp
            refine hK0.out _ _ S2 (fun _ => ?_)
            clear hK0 K
            try simp only [List.getElem_toArray, List.getElem_cons_succ, List.getElem_cons_zero, Act.put, List.setIfInBounds_toArray, List.set_cons_zero, List.set_cons_succ]
            refine wpAnyH_take (i := 14) (v := ?_) rfl (by kernel_rfl) (by kernel_rfl) (by kernel_rfl) (fun _ _ _ h => h) (Or.inl ⟨by rfl, ?_⟩) (by assumption) ?_
            rotate_left
            · intro w' hSw
              try dsimp only at hSw
              go_simp
              try with_reducible rfl
            try simp only [List.getElem_toArray, List.getElem_cons_succ, List.getElem_cons_zero, Act.put, List.setIfInBounds_toArray, List.set_cons_zero, List.set_cons_succ]
            refine wpAnyH_done (by kernel_rfl) ?_ _
            refine NoPanic.normal ?_
            have hB3 := zb (BdI.step (zs := kB x) hI.out (ze _) (zb (p := N2 = N + (kB x).length ∧ _) ⟨by have e2 := h2.out.1; rw [kc1.out] at e2; exact e2, (by have := h2.out.2.1; rw [kc1.out] at this; exact this), G2⟩))
            clear c3w cN
            go_wp2_with fail
            go_roundg (gk - 1)
            case measure => have := Hj.out.1; have := Hj.out.2; omega
            case rel => exact ⟨j + 1, _, _, _, by have := Hj.out.1; omega, by go_num, rfl, zb (by rw [hsn.out, ← List.append_assoc]; exact hB3.out)⟩
          have hjz : ¬ (j : Int) < (n3 : Int) := by omega
          have ej : ps.take j = ps := List.take_of_length_le (by have := L3.out; omega)
          rw [ej] at hI
          have fw := zb hI.out.2.2
          clear hj hlt ej
          have hI3 := zb hI.out
          go_wp2_with fail
          go_loopg [6, 11] n4 (fun gg s6 si wr => ∃ (j : Nat) (A : Option Addr) (N c : Nat), j + gg = n4 ∧ si = .int .i64 j ∧ s6 = .slice A N c ∧ Hid (BdI Y wr A N c (pre ++ es.flatMap eB ++ ks.flatMap iB ++ ps.flatMap kB ++ (ms.take j).flatMap mB)))
          case atStart => exact ⟨0, _, _, _, by omega, rfl, rfl, zb (by rw [List.take_zero, List.flatMap_nil, List.append_nil]; exact hI3.out)⟩
          case round =>
            obtain ⟨j, A, N, c, hj, rfl, rfl, hI⟩ := hrel
            obtain ⟨wx, rfl⟩ : ∃ W : World, W = wr := ⟨_, rfl⟩
            have fw := hI.out.2.2
            have c4x := c4 wx fw
            by_cases hlt : j < n4
            · have hjz : (j : Int) < (n4 : Int) := by omega
              have hm : ms[j]? = some (ms[j]'(by have := L4.out; omega)) := List.getElem?_eq_getElem _
              generalize ms[j]'(by have := L4.out; omega) = x at hm
              have hfl := flat_le mB ms (j + 1)
              have hfj := flat_le mB ms j
              rw [flat_snoc mB hm, List.length_append] at hfl
              have hsn := zb (flat_snoc mB hm)
              have hNl := hI.out.1
              try simp only [List.length_append, List.length_nil, hpl.out] at hNl
              have hN5 : N ≤ 1000 := by omega
              have Hj := zb (And.intro hj hlt)
              have ox := Wms.out x (List.mem_of_getElem? hm)
              obtain ⟨b, off, eA, hb1, hr⟩ := zJ H4.out (show Wid mc 29 ms from fun x hx => zP (w6.out x hx).val.hl) (by decide) (by intro e; rw [e] at hm; simp at hm)
              subst eA
              have lX := z9 za4 hr (show Wid mc 29 ms from fun x hx => zP (w6.out x hx).val.hl) (by omega) hm
              have lx := lX wx fw
              obtain ⟨wm, om⟩ := ox
              have he29 := zb (zP wm.val.hl)
              have hz29 : Hid ((mc za0).length = 29) := zb rfl
              obtain ⟨mk, hmk, hkn, -⟩ := zi4 (okM_okB om)
              have ws := wm.hs
              have wi := wm.hi
              unfold zeb at ws wi
              have hvl := wm.val.hl
              obtain ⟨V, hV, fV, aV⟩ : ∃ V, wx.alloc (.cells (mc za0).toArray 81) = V ∧ Fr wx V ∧ Arr V wx.heap.size 81 (mc za0).toArray := ⟨_, rfl, zf (ze _) _, Arr.new _ _ _⟩
              rw [zdM] at hV
              have tok1 : Hid (0 < 1) := zb (by decide)
              have ho := hI.out.2.1
              have hne := own_ne ho
              clear hj hlt lX hm hfl hfj hNl
              go_upto_region 25 with (first
                | (clear tok1; refine wpList_put (ds := mc x) zX rfl (.tmp 12) (.tmp 110) rfl wx.heap.size 0 rfl rfl he29.out (zay _) aV (Nat.le_of_eq hz29.out.symm) (zk _ _ (Nat.le_of_eq (hz29.out.trans he29.out.symm))) ?_; intro W1 a1 k1')
                | fail)
              try simp only [Act.put]
              have f1 : Fr wx W1 := k1'.below fV fV.size (Nat.le_refl _)
              have aW : ∀ W, GrS W1 A W → Arr W wx.heap.size 81 (mc x).toArray := fun W h => by
                obtain ⟨A', h⟩ := h
                exact h.arr a1 hne
              have oW := ho.below f1 (Nat.le_refl _)
              have bW : Y.heap.size ≤ W1.heap.size := Nat.le_trans fw.size f1.size
              have zW1 : wx.heap.size < W1.heap.size := a1.lt
              have GW : GrS W1 A W1 := ⟨A, Grw.refl _ _⟩
              have c1m : ∀ W, GrS W1 A W → W.cell? ⟨wx.heap.size, 1, none⟩ = some (.int .u64 x.seq) := fun W h => by rw [(aW W h).cell]; rfl
              have cKn : ∀ W, GrS W1 A W → W.cell? ⟨wx.heap.size, 2, none⟩ = some (.int .i64 (mk : Int)) := fun W h => by rw [(aW W h).cell, ← hkn]; rfl
              have kc1 := zb (kB_cons hkn)
              have kl : ((kbs x.key).take mk).length = mk := by rw [List.length_take]; show min mk 8 = mk; omega
              have AW := zb aW
              have WM := zb wm
              have hI' := zb hI.out
              clear fV aV hV lx k1' hkn c4x aW hr wm hI
              rcases okM_kind om with hk | hk | hk
              · have c0m : ∀ W, GrS W1 A W → W.cell? ⟨wx.heap.size, 0, none⟩ = some (.int .i64 1) := fun W h => by rw [(AW.out W h).cell, ← hk]; rfl
                have hwk : IntKind.u8.wrap 1 = 1 := by decide
                obtain ⟨-, -, okv⟩ := okM_one om hk
                obtain ⟨mv, hmv, hvn, -⟩ := ziC okv
                have cVn : ∀ W, GrS W1 A W → W.cell? ⟨wx.heap.size, 11, none⟩ = some (.int .i64 (mv : Int)) := fun W h => by rw [(AW.out W h).cell, ← hvn]; rfl
                have kc2 := zb (vB_cons hvn)
                have vl : (x.val.bs.take mv).length = mv := by rw [List.length_take]; omega
                have HZ : Hid (tB x = vB x.val) := zb (by unfold tB; rw [if_pos hk])
                clear hvn okv
                have Hk := zb hk
                clear hk om
                have tok1 : Hid (0 < 1) := zb (by decide)
                go_wp2_with (first
                  | (clear tok1; refine zfh rfl (.tmp 111) (.tmp 115) rfl Y.heap.size A N c _ rfl (oW.alloc _) _ _ 1 1 [1] rfl rfl (zev _ _ _) (by omega) (Nat.le_trans bW (zf (ze W1) _).size) ?_; intro A2' c2' w2 o2 g2 k2
                     have G2 : Grw W1 A w2 A2' := (Grw.of_fr A (zf (ze W1) _)).step g2 k2
                     have S2 : GrS W1 A w2 := ⟨A2', G2⟩)
                  | fail)
                refine (crput_at o2 (Nat.le_trans bW G2.size) (by omega) ws.1 ws.2 8 (show (8 : Int) = ((8 : Nat) : Int) from rfl) (by decide) (by decide)).mono ?_
                rintro e w3 ⟨A3', c3', N3, rfl, h3⟩
                have G3 := G2.trans h3.out.2.2
                have S3 : GrS W1 A w3 := ⟨A3', G3⟩
                have o3 := h3.out.2.1
                have hN3 : N3 ≤ N + 9 := by have := h3.out.1; rw [zcP] at this; omega
                have hne3 : blk A3' ≠ some wx.heap.size := G3.ne zW1 hne
                go_wp2_with fail
                have g4D : Grw W1 A w3.drew A3' := (G3).fr (zn (ze _))
                have G4D : GrS W1 A w3.drew := ⟨_, g4D⟩
                have o4D := (o3).below (zn (ze _)) (Nat.le_refl _)
                have b4D : Y.heap.size ≤ w3.drew.heap.size := Nat.le_trans bW g4D.size
                refine wp_region_noPanic ?_
                refine wp_region_held_drew (S := fun w' => GrS W1 A w') (by kernel_rfl) G4D (fun hHeld => ?_)
                change wpAnyH _ _ _ _ _ _ _ _ _
                generalize hX4 : w3.drew = X4 at *
                have gX4 := g4D
                have oX4 := o4D
                have bX4 := b4D
                refine wpAnyH_take (i := 0) (v := ?_) rfl (by kernel_rfl) (by kernel_rfl) (by kernel_rfl) (fun _ _ _ h => h) (Or.inl ⟨by rfl, ?_⟩) (by assumption) ?_
                rotate_left
                · intro w' hSw
                  try dsimp only at hSw
                  go_simp
                  try with_reducible rfl
                try simp only [List.getElem_toArray, List.getElem_cons_zero, Act.put, List.setIfInBounds_toArray, List.set_cons_zero, List.set_cons_succ]
                refine wpAnyH_take (i := 1) (v := ?_) rfl (by kernel_rfl) (by kernel_rfl) (by kernel_rfl) (fun _ _ _ h => h) (Or.inl ⟨by rfl, ?_⟩) (by assumption) ?_
                rotate_left
                · intro w' hSw
                  try dsimp only at hSw
                  go_simp
                  try with_reducible rfl
                try simp only [List.getElem_toArray, List.getElem_cons_succ, List.getElem_cons_zero, Act.put, List.setIfInBounds_toArray, List.set_cons_zero, List.set_cons_succ]
                refine wpAnyH_take (i := 2) (v := ?_) rfl (by kernel_rfl) (by kernel_rfl) (by kernel_rfl) (fun _ _ _ h => h) (Or.inl ⟨by rfl, ?_⟩) (by assumption) ?_
                rotate_left
                · intro w' hSw
                  try dsimp only at hSw
                  go_simp
                  try with_reducible rfl
                try simp only [List.getElem_toArray, List.getElem_cons_succ, List.getElem_cons_zero, Act.put, List.setIfInBounds_toArray, List.set_cons_zero, List.set_cons_succ]
                refine wpAnyH_take (i := 3) (v := ?_) rfl (by kernel_rfl) (by kernel_rfl) (by kernel_rfl) (fun _ _ _ h => h) (Or.inl ⟨by rfl, ?_⟩) (by assumption) ?_
                rotate_left
                · intro w' hSw
                  try dsimp only at hSw
                  go_simp
                  try with_reducible rfl
                try simp only [List.getElem_toArray, List.getElem_cons_succ, List.getElem_cons_zero, Act.put, List.setIfInBounds_toArray, List.set_cons_zero, List.set_cons_succ]
                refine wpAnyH_take (i := 4) (v := ?_) rfl (by kernel_rfl) (by kernel_rfl) (by kernel_rfl) (fun _ _ _ h => h) (Or.inl ⟨by rfl, ?_⟩) (by assumption) ?_
                rotate_left
                · intro w' hSw
                  try dsimp only at hSw
                  go_simp
                  try with_reducible rfl
                try simp only [List.getElem_toArray, List.getElem_cons_succ, List.getElem_cons_zero, Act.put, List.setIfInBounds_toArray, List.set_cons_zero, List.set_cons_succ]
                refine wpAnyH_take (i := 5) (v := ?_) rfl (by kernel_rfl) (by kernel_rfl) (by kernel_rfl) (fun _ _ _ h => h) (Or.inl ⟨by rfl, ?_⟩) (by assumption) ?_
                rotate_left
                · intro w' hSw
                  try dsimp only at hSw
                  go_simp
                  try with_reducible rfl
                try simp only [List.getElem_toArray, List.getElem_cons_succ, List.getElem_cons_zero, Act.put, List.setIfInBounds_toArray, List.set_cons_zero, List.set_cons_succ]
                refine wpAnyH_take (i := 6) (v := ?_) rfl (by kernel_rfl) (by kernel_rfl) (by kernel_rfl) (fun _ _ _ h => h) (Or.inl ⟨by rfl, ?_⟩) (by assumption) ?_
                rotate_left
                · intro w' hSw
                  try dsimp only at hSw
                  go_simp
                  try with_reducible rfl
                try simp only [List.getElem_toArray, List.getElem_cons_succ, List.getElem_cons_zero, Act.put, List.setIfInBounds_toArray, List.set_cons_zero, List.set_cons_succ]
                refine wpAnyH_ready (rs := [7]) (by kernel_rfl) (by simp) ?_
                refine AllReadyH.cons rfl (fun K hK0 => ?_) AllReadyH.nil
                go_simp
                refine (rtx_at oX4 bX4 (by omega) (b := wx.heap.size) (off := 3) (M := 8) (zs := (kbs x.key).take mk) (fun j u hu => by rw [(AW.out X4 ⟨_, gX4⟩).cell]; have := mc_kb x _ j u hu; simpa using this) (Nat.lt_of_lt_of_le zW1 (gX4).size) hne3 kl (by omega) (by omega)).mono ?_
                rintro e w4 ⟨A4', c4', N4, rfl, h4⟩
                have G4 := (gX4).trans h4.out.2.2
                have S4 : GrS W1 A w4 := ⟨A4', G4⟩
                go_simp
                refine hK0.out _ _ S4 (fun _ => ?_)
                clear hK0 K
                try simp only [List.getElem_toArray, List.getElem_cons_succ, List.getElem_cons_zero, Act.put, List.setIfInBounds_toArray, List.set_cons_zero, List.set_cons_succ]
                refine wpAnyH_take (i := 8) (v := ?_) rfl (by kernel_rfl) (by kernel_rfl) (by kernel_rfl) (fun _ _ _ h => h) (Or.inl ⟨by rfl, ?_⟩) (by assumption) ?_
                rotate_left
                · intro w' hSw
                  try dsimp only at hSw
                  go_simp
                  try with_reducible rfl
                try simp only [List.getElem_toArray, List.getElem_cons_succ, List.getElem_cons_zero, Act.put, List.setIfInBounds_toArray, List.set_cons_zero, List.set_cons_succ]
                refine wpAnyH_done (by kernel_rfl) ?_ _
                refine NoPanic.normal ?_
                have o4 := h4.out.2.1
                have hN4 : N4 ≤ N + 18 := by have := h4.out.1; rw [List.length_cons, kl] at this; omega
                have hne4 : blk A4' ≠ some wx.heap.size := G4.ne zW1 hne
                have n4q : N4 = N3 + (kB x.key).length := by have := h4.out.1; rw [kc1.out] at this; exact this
                rw [kc1.out] at o4
                have N4q := zb n4q
                clear n4q
                go_wp2_with fail
                have g5D : Grw W1 A w4.drew A4' := (G4).fr (zn (ze _))
                have G5D : GrS W1 A w4.drew := ⟨_, g5D⟩
                have o5D := (o4).below (zn (ze _)) (Nat.le_refl _)
                have b5D : Y.heap.size ≤ w4.drew.heap.size := Nat.le_trans bW g5D.size
                refine wp_region_noPanic ?_
                refine wp_region_held_drew (S := fun w' => GrS W1 A w') (by kernel_rfl) G5D (fun hHeld => ?_)
                change wpAnyH _ _ _ _ _ _ _ _ _
                generalize hX5 : w4.drew = X5 at *
                have gX5 := g5D
                have oX5 := o5D
                have bX5 := b5D
                refine wpAnyH_take (i := 0) (v := ?_) rfl (by kernel_rfl) (by kernel_rfl) (by kernel_rfl) (fun _ _ _ h => h) (Or.inl ⟨by rfl, ?_⟩) (by assumption) ?_
                rotate_left
                · intro w' hSw
                  try dsimp only at hSw
                  go_simp
                  try with_reducible rfl
                try simp only [List.getElem_toArray, List.getElem_cons_zero, Act.put, List.setIfInBounds_toArray, List.set_cons_zero, List.set_cons_succ]
                refine wpAnyH_take (i := 1) (v := ?_) rfl (by kernel_rfl) (by kernel_rfl) (by kernel_rfl) (fun _ _ _ h => h) (Or.inl ⟨by rfl, ?_⟩) (by assumption) ?_
                rotate_left
                · intro w' hSw
                  try dsimp only at hSw
                  go_simp
                  try with_reducible rfl
                try simp only [List.getElem_toArray, List.getElem_cons_succ, List.getElem_cons_zero, Act.put, List.setIfInBounds_toArray, List.set_cons_zero, List.set_cons_succ]
                refine wpAnyH_take (i := 2) (v := ?_) rfl (by kernel_rfl) (by kernel_rfl) (by kernel_rfl) (fun _ _ _ h => h) (Or.inl ⟨by rfl, ?_⟩) (by assumption) ?_
                rotate_left
                · intro w' hSw
                  try dsimp only at hSw
                  go_simp
                  try with_reducible rfl
                try simp only [List.getElem_toArray, List.getElem_cons_succ, List.getElem_cons_zero, Act.put, List.setIfInBounds_toArray, List.set_cons_zero, List.set_cons_succ]
                refine wpAnyH_take (i := 3) (v := ?_) rfl (by kernel_rfl) (by kernel_rfl) (by kernel_rfl) (fun _ _ _ h => h) (Or.inl ⟨by rfl, ?_⟩) (by assumption) ?_
                rotate_left
                · intro w' hSw
                  try dsimp only at hSw
                  go_simp
                  try with_reducible rfl
                try simp only [List.getElem_toArray, List.getElem_cons_succ, List.getElem_cons_zero, Act.put, List.setIfInBounds_toArray, List.set_cons_zero, List.set_cons_succ]
                refine wpAnyH_take (i := 4) (v := ?_) rfl (by kernel_rfl) (by kernel_rfl) (by kernel_rfl) (fun _ _ _ h => h) (Or.inl ⟨by rfl, ?_⟩) (by assumption) ?_
                rotate_left
                · intro w' hSw
                  try dsimp only at hSw
                  go_simp
                  try with_reducible rfl
                try simp only [List.getElem_toArray, List.getElem_cons_succ, List.getElem_cons_zero, Act.put, List.setIfInBounds_toArray, List.set_cons_zero, List.set_cons_succ]
                refine wpAnyH_take (i := 5) (v := ?_) rfl (by kernel_rfl) (by kernel_rfl) (by kernel_rfl) (fun _ _ _ h => h) (Or.inl ⟨by rfl, ?_⟩) (by assumption) ?_
                rotate_left
                · intro w' hSw
                  try dsimp only at hSw
                  go_simp
                  try with_reducible rfl
                try simp only [List.getElem_toArray, List.getElem_cons_succ, List.getElem_cons_zero, Act.put, List.setIfInBounds_toArray, List.set_cons_zero, List.set_cons_succ]
                refine wpAnyH_take (i := 6) (v := ?_) rfl (by kernel_rfl) (by kernel_rfl) (by kernel_rfl) (fun _ _ _ h => h) (Or.inl ⟨by rfl, ?_⟩) (by assumption) ?_
                rotate_left
                · intro w' hSw
                  try dsimp only at hSw
                  go_simp
                  try with_reducible rfl
                try simp only [List.getElem_toArray, List.getElem_cons_succ, List.getElem_cons_zero, Act.put, List.setIfInBounds_toArray, List.set_cons_zero, List.set_cons_succ]
                refine wpAnyH_ready (rs := [7]) (by kernel_rfl) (by simp) ?_
                refine AllReadyH.cons rfl (fun K hK0 => ?_) AllReadyH.nil
                go_simp
                refine (rtx_at oX5 bX5 (by omega) (b := wx.heap.size) (off := 12) (M := 16) (zs := x.val.bs.take mv) (fun j u hu => by rw [(AW.out X5 ⟨_, gX5⟩).cell]; have := mc_vb x _ j u hu; simpa using this) (Nat.lt_of_lt_of_le zW1 (gX5).size) hne4 vl (by omega) (by omega)).mono ?_
                rintro e w5 ⟨A5', c5', N5, rfl, h5⟩
                have G5 := (gX5).trans h5.out.2.2
                have S5 : GrS W1 A w5 := ⟨A5', G5⟩
                go_simp
                refine hK0.out _ _ S5 (fun _ => ?_)
                clear hK0 K
                try simp only [List.getElem_toArray, List.getElem_cons_succ, List.getElem_cons_zero, Act.put, List.setIfInBounds_toArray, List.set_cons_zero, List.set_cons_succ]
                refine wpAnyH_take (i := 8) (v := ?_) rfl (by kernel_rfl) (by kernel_rfl) (by kernel_rfl) (fun _ _ _ h => h) (Or.inl ⟨by rfl, ?_⟩) (by assumption) ?_
                rotate_left
                · intro w' hSw
                  try dsimp only at hSw
                  go_simp
                  try with_reducible rfl
                try simp only [List.getElem_toArray, List.getElem_cons_succ, List.getElem_cons_zero, Act.put, List.setIfInBounds_toArray, List.set_cons_zero, List.set_cons_succ]
                refine wpAnyH_done (by kernel_rfl) ?_ _
                refine NoPanic.normal ?_
                have o5 := h5.out.2.1
                rw [kc2.out] at o5
                have hB3 := zb (BdI.step (zs := mB x) hI'.out f1 (zb ⟨msg_sum HZ.out Hk.out h3.out.1 N4q.out (by have := h5.out.1; rw [kc2.out] at this; exact this), msg_own HZ.out Hk.out o5, G5⟩))
                go_wp2_with fail
                clear c0m c1m cKn cVn
                go_roundg (gk - 1)
                case measure => have := Hj.out.1; have := Hj.out.2; omega
                case rel => exact ⟨j + 1, _, _, _, by have := Hj.out.1; omega, by go_num, rfl, zb (by rw [hsn.out, ← List.append_assoc]; exact hB3.out)⟩
              · have c0m : ∀ W, GrS W1 A W → W.cell? ⟨wx.heap.size, 0, none⟩ = some (.int .i64 2) := fun W h => by rw [(AW.out W h).cell, ← hk]; rfl
                have hwk : IntKind.u8.wrap 2 = 2 := by decide
                have HZ : Hid (tB x = []) := zb (by unfold tB; rw [if_neg (by omega), if_neg (by omega)])
                have Hk := zb hk
                clear hk om
                have tok1 : Hid (0 < 1) := zb (by decide)
                go_wp2_with (first
                  | (clear tok1; refine zfh rfl (.tmp 111) (.tmp 115) rfl Y.heap.size A N c _ rfl (oW.alloc _) _ _ 1 1 [2] rfl rfl (zev _ _ _) (by omega) (Nat.le_trans bW (zf (ze W1) _).size) ?_; intro A2' c2' w2 o2 g2 k2
                     have G2 : Grw W1 A w2 A2' := (Grw.of_fr A (zf (ze W1) _)).step g2 k2
                     have S2 : GrS W1 A w2 := ⟨A2', G2⟩)
                  | fail)
                refine (crput_at o2 (Nat.le_trans bW G2.size) (by omega) ws.1 ws.2 8 (show (8 : Int) = ((8 : Nat) : Int) from rfl) (by decide) (by decide)).mono ?_
                rintro e w3 ⟨A3', c3', N3, rfl, h3⟩
                have G3 := G2.trans h3.out.2.2
                have S3 : GrS W1 A w3 := ⟨A3', G3⟩
                have o3 := h3.out.2.1
                have hN3 : N3 ≤ N + 9 := by have := h3.out.1; rw [zcP] at this; omega
                have hne3 : blk A3' ≠ some wx.heap.size := G3.ne zW1 hne
                go_wp2_with fail
                have g4D : Grw W1 A w3.drew A3' := (G3).fr (zn (ze _))
                have G4D : GrS W1 A w3.drew := ⟨_, g4D⟩
                have o4D := (o3).below (zn (ze _)) (Nat.le_refl _)
                have b4D : Y.heap.size ≤ w3.drew.heap.size := Nat.le_trans bW g4D.size
                refine wp_region_noPanic ?_
                refine wp_region_held_drew (S := fun w' => GrS W1 A w') (by kernel_rfl) G4D (fun hHeld => ?_)
                change wpAnyH _ _ _ _ _ _ _ _ _
                generalize hX4 : w3.drew = X4 at *
                have gX4 := g4D
                have oX4 := o4D
                have bX4 := b4D
                refine wpAnyH_take (i := 0) (v := ?_) rfl (by kernel_rfl) (by kernel_rfl) (by kernel_rfl) (fun _ _ _ h => h) (Or.inl ⟨by rfl, ?_⟩) (by assumption) ?_
                rotate_left
                · intro w' hSw
                  try dsimp only at hSw
                  go_simp
                  try with_reducible rfl
                try simp only [List.getElem_toArray, List.getElem_cons_zero, Act.put, List.setIfInBounds_toArray, List.set_cons_zero, List.set_cons_succ]
                refine wpAnyH_take (i := 1) (v := ?_) rfl (by kernel_rfl) (by kernel_rfl) (by kernel_rfl) (fun _ _ _ h => h) (Or.inl ⟨by rfl, ?_⟩) (by assumption) ?_
                rotate_left
                · intro w' hSw
                  try dsimp only at hSw
                  go_simp
                  try with_reducible rfl
                try simp only [List.getElem_toArray, List.getElem_cons_succ, List.getElem_cons_zero, Act.put, List.setIfInBounds_toArray, List.set_cons_zero, List.set_cons_succ]
                refine wpAnyH_take (i := 2) (v := ?_) rfl (by kernel_rfl) (by kernel_rfl) (by kernel_rfl) (fun _ _ _ h => h) (Or.inl ⟨by rfl, ?_⟩) (by assumption) ?_
                rotate_left
                · intro w' hSw
                  try dsimp only at hSw
                  go_simp
                  try with_reducible rfl
                try simp only [List.getElem_toArray, List.getElem_cons_succ, List.getElem_cons_zero, Act.put, List.setIfInBounds_toArray, List.set_cons_zero, List.set_cons_succ]
                refine wpAnyH_take (i := 3) (v := ?_) rfl (by kernel_rfl) (by kernel_rfl) (by kernel_rfl) (fun _ _ _ h => h) (Or.inl ⟨by rfl, ?_⟩) (by assumption) ?_
                rotate_left
                · intro w' hSw
                  try dsimp only at hSw
                  go_simp
                  try with_reducible rfl
                try simp only [List.getElem_toArray, List.getElem_cons_succ, List.getElem_cons_zero, Act.put, List.setIfInBounds_toArray, List.set_cons_zero, List.set_cons_succ]
                refine wpAnyH_take (i := 4) (v := ?_) rfl (by kernel_rfl) (by kernel_rfl) (by kernel_rfl) (fun _ _ _ h => h) (Or.inl ⟨by rfl, ?_⟩) (by assumption) ?_
                rotate_left
                · intro w' hSw
                  try dsimp only at hSw
                  go_simp
                  try with_reducible rfl
                try simp only [List.getElem_toArray, List.getElem_cons_succ, List.getElem_cons_zero, Act.put, List.setIfInBounds_toArray, List.set_cons_zero, List.set_cons_succ]
                refine wpAnyH_take (i := 5) (v := ?_) rfl (by kernel_rfl) (by kernel_rfl) (by kernel_rfl) (fun _ _ _ h => h) (Or.inl ⟨by rfl, ?_⟩) (by assumption) ?_
                rotate_left
                · intro w' hSw
                  try dsimp only at hSw
                  go_simp
                  try with_reducible rfl
                try simp only [List.getElem_toArray, List.getElem_cons_succ, List.getElem_cons_zero, Act.put, List.setIfInBounds_toArray, List.set_cons_zero, List.set_cons_succ]
                refine wpAnyH_take (i := 6) (v := ?_) rfl (by kernel_rfl) (by kernel_rfl) (by kernel_rfl) (fun _ _ _ h => h) (Or.inl ⟨by rfl, ?_⟩) (by assumption) ?_
                rotate_left
                · intro w' hSw
                  try dsimp only at hSw
                  go_simp
                  try with_reducible rfl
                try simp only [List.getElem_toArray, List.getElem_cons_succ, List.getElem_cons_zero, Act.put, List.setIfInBounds_toArray, List.set_cons_zero, List.set_cons_succ]
                refine wpAnyH_ready (rs := [7]) (by kernel_rfl) (by simp) ?_
                refine AllReadyH.cons rfl (fun K hK0 => ?_) AllReadyH.nil
                go_simp
                refine (rtx_at oX4 bX4 (by omega) (b := wx.heap.size) (off := 3) (M := 8) (zs := (kbs x.key).take mk) (fun j u hu => by rw [(AW.out X4 ⟨_, gX4⟩).cell]; have := mc_kb x _ j u hu; simpa using this) (Nat.lt_of_lt_of_le zW1 (gX4).size) hne3 kl (by omega) (by omega)).mono ?_
                rintro e w4 ⟨A4', c4', N4, rfl, h4⟩
                have G4 := (gX4).trans h4.out.2.2
                have S4 : GrS W1 A w4 := ⟨A4', G4⟩
                go_simp
                refine hK0.out _ _ S4 (fun _ => ?_)
                clear hK0 K
                try simp only [List.getElem_toArray, List.getElem_cons_succ, List.getElem_cons_zero, Act.put, List.setIfInBounds_toArray, List.set_cons_zero, List.set_cons_succ]
                refine wpAnyH_take (i := 8) (v := ?_) rfl (by kernel_rfl) (by kernel_rfl) (by kernel_rfl) (fun _ _ _ h => h) (Or.inl ⟨by rfl, ?_⟩) (by assumption) ?_
                rotate_left
                · intro w' hSw
                  try dsimp only at hSw
                  go_simp
                  try with_reducible rfl
                try simp only [List.getElem_toArray, List.getElem_cons_succ, List.getElem_cons_zero, Act.put, List.setIfInBounds_toArray, List.set_cons_zero, List.set_cons_succ]
                refine wpAnyH_done (by kernel_rfl) ?_ _
                refine NoPanic.normal ?_
                have o4 := h4.out.2.1
                have hN4 : N4 ≤ N + 18 := by have := h4.out.1; rw [List.length_cons, kl] at this; omega
                have hne4 : blk A4' ≠ some wx.heap.size := G4.ne zW1 hne
                have n4q : N4 = N3 + (kB x.key).length := by have := h4.out.1; rw [kc1.out] at this; exact this
                rw [kc1.out] at o4
                have N4q := zb n4q
                clear n4q
                go_wp2_with fail
                have hB3 := zb (BdI.step (zs := mB x) hI'.out f1 (zb ⟨msg_sum (zs := []) HZ.out Hk.out h3.out.1 N4q.out rfl, msg_own (zs := []) HZ.out Hk.out (by rw [List.append_nil]; exact o4), G4⟩))
                clear c0m c1m cKn
                go_roundg (gk - 1)
                case measure => have := Hj.out.1; have := Hj.out.2; omega
                case rel => exact ⟨j + 1, _, _, _, by have := Hj.out.1; omega, by go_num, rfl, zb (by rw [hsn.out, ← List.append_assoc]; exact hB3.out)⟩
              · have c0m : ∀ W, GrS W1 A W → W.cell? ⟨wx.heap.size, 0, none⟩ = some (.int .i64 3) := fun W h => by rw [(AW.out W h).cell, ← hk]; rfl
                have hwk : IntKind.u8.wrap 3 = 3 := by decide
                have c28 : ∀ W, GrS W1 A W → W.cell? ⟨wx.heap.size, 28, none⟩ = some (.int .u64 x.inc) := fun W h => (zbt (AW.out W h) 28 (zdT hvl)) W (ze _)
                have HZ : Hid (tB x = leB x.inc 8) := zb (by unfold tB; rw [if_neg (by omega), if_pos hk])
                have Hk := zb hk
                clear hk om
                have tok1 : Hid (0 < 1) := zb (by decide)
                go_wp2_with (first
                  | (clear tok1; refine zfh rfl (.tmp 111) (.tmp 115) rfl Y.heap.size A N c _ rfl (oW.alloc _) _ _ 1 1 [3] rfl rfl (zev _ _ _) (by omega) (Nat.le_trans bW (zf (ze W1) _).size) ?_; intro A2' c2' w2 o2 g2 k2
                     have G2 : Grw W1 A w2 A2' := (Grw.of_fr A (zf (ze W1) _)).step g2 k2
                     have S2 : GrS W1 A w2 := ⟨A2', G2⟩)
                  | fail)
                refine (crput_at o2 (Nat.le_trans bW G2.size) (by omega) ws.1 ws.2 8 (show (8 : Int) = ((8 : Nat) : Int) from rfl) (by decide) (by decide)).mono ?_
                rintro e w3 ⟨A3', c3', N3, rfl, h3⟩
                have G3 := G2.trans h3.out.2.2
                have S3 : GrS W1 A w3 := ⟨A3', G3⟩
                have o3 := h3.out.2.1
                have hN3 : N3 ≤ N + 9 := by have := h3.out.1; rw [zcP] at this; omega
                have hne3 : blk A3' ≠ some wx.heap.size := G3.ne zW1 hne
                go_wp2_with fail
                have g4D : Grw W1 A w3.drew A3' := (G3).fr (zn (ze _))
                have G4D : GrS W1 A w3.drew := ⟨_, g4D⟩
                have o4D := (o3).below (zn (ze _)) (Nat.le_refl _)
                have b4D : Y.heap.size ≤ w3.drew.heap.size := Nat.le_trans bW g4D.size
                refine wp_region_noPanic ?_
                refine wp_region_held_drew (S := fun w' => GrS W1 A w') (by kernel_rfl) G4D (fun hHeld => ?_)
                change wpAnyH _ _ _ _ _ _ _ _ _
                generalize hX4 : w3.drew = X4 at *
                have gX4 := g4D
                have oX4 := o4D
                have bX4 := b4D
                refine wpAnyH_take (i := 0) (v := ?_) rfl (by kernel_rfl) (by kernel_rfl) (by kernel_rfl) (fun _ _ _ h => h) (Or.inl ⟨by rfl, ?_⟩) (by assumption) ?_
                rotate_left
                · intro w' hSw
                  try dsimp only at hSw
                  go_simp
                  try with_reducible rfl
                try simp only [List.getElem_toArray, List.getElem_cons_zero, Act.put, List.setIfInBounds_toArray, List.set_cons_zero, List.set_cons_succ]
                refine wpAnyH_take (i := 1) (v := ?_) rfl (by kernel_rfl) (by kernel_rfl) (by kernel_rfl) (fun _ _ _ h => h) (Or.inl ⟨by rfl, ?_⟩) (by assumption) ?_
                rotate_left
                · intro w' hSw
                  try dsimp only at hSw
                  go_simp
                  try with_reducible rfl
                try simp only [List.getElem_toArray, List.getElem_cons_succ, List.getElem_cons_zero, Act.put, List.setIfInBounds_toArray, List.set_cons_zero, List.set_cons_succ]
                refine wpAnyH_take (i := 2) (v := ?_) rfl (by kernel_rfl) (by kernel_rfl) (by kernel_rfl) (fun _ _ _ h => h) (Or.inl ⟨by rfl, ?_⟩) (by assumption) ?_
                rotate_left
                · intro w' hSw
                  try dsimp only at hSw
                  go_simp
                  try with_reducible rfl
                try simp only [List.getElem_toArray, List.getElem_cons_succ, List.getElem_cons_zero, Act.put, List.setIfInBounds_toArray, List.set_cons_zero, List.set_cons_succ]
                refine wpAnyH_take (i := 3) (v := ?_) rfl (by kernel_rfl) (by kernel_rfl) (by kernel_rfl) (fun _ _ _ h => h) (Or.inl ⟨by rfl, ?_⟩) (by assumption) ?_
                rotate_left
                · intro w' hSw
                  try dsimp only at hSw
                  go_simp
                  try with_reducible rfl
                try simp only [List.getElem_toArray, List.getElem_cons_succ, List.getElem_cons_zero, Act.put, List.setIfInBounds_toArray, List.set_cons_zero, List.set_cons_succ]
                refine wpAnyH_take (i := 4) (v := ?_) rfl (by kernel_rfl) (by kernel_rfl) (by kernel_rfl) (fun _ _ _ h => h) (Or.inl ⟨by rfl, ?_⟩) (by assumption) ?_
                rotate_left
                · intro w' hSw
                  try dsimp only at hSw
                  go_simp
                  try with_reducible rfl
                try simp only [List.getElem_toArray, List.getElem_cons_succ, List.getElem_cons_zero, Act.put, List.setIfInBounds_toArray, List.set_cons_zero, List.set_cons_succ]
                refine wpAnyH_take (i := 5) (v := ?_) rfl (by kernel_rfl) (by kernel_rfl) (by kernel_rfl) (fun _ _ _ h => h) (Or.inl ⟨by rfl, ?_⟩) (by assumption) ?_
                rotate_left
                · intro w' hSw
                  try dsimp only at hSw
                  go_simp
                  try with_reducible rfl
                try simp only [List.getElem_toArray, List.getElem_cons_succ, List.getElem_cons_zero, Act.put, List.setIfInBounds_toArray, List.set_cons_zero, List.set_cons_succ]
                refine wpAnyH_take (i := 6) (v := ?_) rfl (by kernel_rfl) (by kernel_rfl) (by kernel_rfl) (fun _ _ _ h => h) (Or.inl ⟨by rfl, ?_⟩) (by assumption) ?_
                rotate_left
                · intro w' hSw
                  try dsimp only at hSw
                  go_simp
                  try with_reducible rfl
                try simp only [List.getElem_toArray, List.getElem_cons_succ, List.getElem_cons_zero, Act.put, List.setIfInBounds_toArray, List.set_cons_zero, List.set_cons_succ]
                refine wpAnyH_ready (rs := [7]) (by kernel_rfl) (by simp) ?_
                refine AllReadyH.cons rfl (fun K hK0 => ?_) AllReadyH.nil
                go_simp
                refine (rtx_at oX4 bX4 (by omega) (b := wx.heap.size) (off := 3) (M := 8) (zs := (kbs x.key).take mk) (fun j u hu => by rw [(AW.out X4 ⟨_, gX4⟩).cell]; have := mc_kb x _ j u hu; simpa using this) (Nat.lt_of_lt_of_le zW1 (gX4).size) hne3 kl (by omega) (by omega)).mono ?_
                rintro e w4 ⟨A4', c4', N4, rfl, h4⟩
                have G4 := (gX4).trans h4.out.2.2
                have S4 : GrS W1 A w4 := ⟨A4', G4⟩
                go_simp
                refine hK0.out _ _ S4 (fun _ => ?_)
                clear hK0 K
                try simp only [List.getElem_toArray, List.getElem_cons_succ, List.getElem_cons_zero, Act.put, List.setIfInBounds_toArray, List.set_cons_zero, List.set_cons_succ]
                refine wpAnyH_take (i := 8) (v := ?_) rfl (by kernel_rfl) (by kernel_rfl) (by kernel_rfl) (fun _ _ _ h => h) (Or.inl ⟨by rfl, ?_⟩) (by assumption) ?_
                rotate_left
                · intro w' hSw
                  try dsimp only at hSw
                  go_simp
                  try with_reducible rfl
                try simp only [List.getElem_toArray, List.getElem_cons_succ, List.getElem_cons_zero, Act.put, List.setIfInBounds_toArray, List.set_cons_zero, List.set_cons_succ]
                refine wpAnyH_done (by kernel_rfl) ?_ _
                refine NoPanic.normal ?_
                have o4 := h4.out.2.1
                have hN4 : N4 ≤ N + 18 := by have := h4.out.1; rw [List.length_cons, kl] at this; omega
                have hne4 : blk A4' ≠ some wx.heap.size := G4.ne zW1 hne
                have n4q : N4 = N3 + (kB x.key).length := by have := h4.out.1; rw [kc1.out] at this; exact this
                rw [kc1.out] at o4
                have N4q := zb n4q
                clear n4q
                go_wp2_with fail
                refine (crput_at o4 (Nat.le_trans bW G4.size) (by omega) wi.1 wi.2 8 (show (8 : Int) = ((8 : Nat) : Int) from rfl) (by decide) (by decide)).mono ?_
                rintro e w5' ⟨A5', c5', N5, rfl, h5⟩
                have G5 := G4.trans h5.out.2.2
                have hB3 := zb (BdI.step (zs := mB x) hI'.out f1 (zb ⟨msg_sum HZ.out Hk.out h3.out.1 N4q.out h5.out.1, msg_own HZ.out Hk.out h5.out.2.1, G5⟩))
                go_wp2_with fail
                clear c0m c1m cKn c28
                go_roundg (gk - 1)
                case measure => have := Hj.out.1; have := Hj.out.2; omega
                case rel => exact ⟨j + 1, _, _, _, by have := Hj.out.1; omega, by go_num, rfl, zb (by rw [hsn.out, ← List.append_assoc]; exact hB3.out)⟩
            have hjz : ¬ (j : Int) < (n4 : Int) := by omega
            have ej : ms.take j = ms := List.take_of_length_le (by have := L4.out; omega)
            rw [ej] at hI
            have fw := zb hI.out.2.2
            clear hj hlt ej
            obtain ⟨L, hL⟩ : ∃ L, L = 8 + bod.length := ⟨_, rfl⟩
            have hL256 : L ≤ 256 := by have := b248.out; omega
            have hB4 : Hid (N = L ∧ BdI Y wx A N c (pre ++ (bod ++ List.replicate 0 0))) := zb (by
              have h := hI.out
              have e : pre ++ es.flatMap eB ++ ks.flatMap iB ++ ps.flatMap kB ++ ms.flatMap mB = pre ++ (bod ++ List.replicate 0 0) := by rw [hbod.out]; simp
              rw [e] at h
              refine ⟨?_, h⟩
              rw [h.1]
              simp [hpl.out, hL])
            obtain rfl : N = L := hB4.out.1
            have HL := zb hL
            clear hL hI
            go_wp2_with fail
            go_loopg [6] (256 - N) (fun gg s6 wr => ∃ (M : Nat) (A : Option Addr) (c : Nat), M + gg = 256 ∧ N ≤ M ∧ s6 = .slice A M c ∧ Hid (BdI Y wr A M c (pre ++ (bod ++ List.replicate (M - N) 0))))
            case atStart => exact ⟨N, _, _, by omega, Nat.le_refl _, rfl, zb (by rw [Nat.sub_self]; exact hB4.out.2)⟩
            case round =>
              obtain ⟨M, A, c, hM, hNM, rfl, hI⟩ := hrel
              obtain ⟨wx, rfl⟩ : ∃ W : World, W = wr := ⟨_, rfl⟩
              have fw := hI.out.2.2
              by_cases hlt : M < 256
              · have hjz : (M : Int) < 256 := by omega
                have ho := hI.out.2.1
                have Hj := zb (And.intro hM (And.intro hNM hlt))
                have bM := Nat.le_trans fw.size (zf (ze wx) (.cells #[.int .u8 0] 5)).size
                have tok1 : Hid (0 < 1) := zb (by decide)
                clear hM hNM
                go_wp2_with (first
                  | (clear tok1; refine zfh rfl (.tmp 150) (.tmp 151) rfl Y.heap.size A M c _ rfl (ho.alloc _) _ _ 1 1 [0] rfl rfl (zev _ _ _) (by omega) bM ?_; intro A2' c2' w2 o2 g2 k2
                     have G2 : Grw wx A w2 A2' := (Grw.of_fr A (zf (ze wx) _)).step g2 k2)
                  | fail)
                go_roundg (gk - 1)
                case measure => have := Hj.out.1; have := Hj.out.2; omega
                case rel => exact ⟨M + 1, _, _, by have := Hj.out.1; have := Hj.out.2; omega, by have := Hj.out.2; omega, rfl, zb (by
                  have h := BdI.step (zs := [0]) hI.out (ze _) (zb ⟨rfl, o2, G2⟩)
                  have e : pre ++ (bod ++ List.replicate (M - N) 0) ++ [0] = pre ++ (bod ++ List.replicate (M + 1 - N) (0 : Int)) := by
                    rw [show M + 1 - N = M - N + 1 from by have := Hj.out.2; omega, List.replicate_succ']
                    simp only [List.append_assoc]
                  rw [e] at h
                  exact h)⟩
              have hjz : ¬ (M : Int) < 256 := by omega
              obtain rfl : M = 256 := by omega
              have hP : Hid (Own wx Y.heap.size 5 1 A 256 c (u8s pd)) := zb (by
                have h := hI.out.2.1
                rw [hfin.out (256 - N) (by have := HL.out; omega)] at h
                exact h)
              have FW := zb fw
              clear hM hNM hlt hI
              have cS := ref_sumN (A := A) (n := 256) (c := c) (w := wx) p256.out by5.out (by decide) (ze wx) hP.out.has
              have hlt := sumB_lt by5.out
              rw [← hps.out] at cS
              obtain ⟨sn, hsn⟩ : ∃ x, x = sumB pd := ⟨_, rfl⟩
              rw [← hsn] at cS hlt
              have Hsn := zb hsn
              have hw6 : IntKind.u64.wrap (sn : Int) = sn := by rw [zeB]; omega
              clear hsn
              go_wp2_with fail
              refine cS.mono ?_
              rintro e w2 ⟨rfl, f2⟩
              clear cS
              go_wp2_with fail
              refine (crput_at (w := w2) (xs := []) (Own.nil w2 w2.heap.size _ _) (Nat.le_refl _) (by decide) (by omega) (by omega) 4 (show (4 : Int) = ((4 : Nat) : Int) from rfl) (by decide) (by decide)).mono ?_
              rintro e w7 ⟨A7, c7, N7, rfl, h7⟩
              obtain ⟨n7, o7, g7⟩ := h7.out
              have f7 : Fr w2 w7 := g7.below (ze _) (Nat.le_refl _) (fun k e => by simp [blk] at e)
              obtain rfl : N7 = 4 := by rw [n7, zcP]
              rw [List.nil_append] at o7
              have ql := zb (zcP 4 (sn : Int))
              have hp2 : Hid (splice pd 4 (leB (sn : Int) 4) = bk) := zb (by rw [Hsn.out]; exact hp1.out)
              generalize leB (sn : Int) 4 = q at *
              have oP := (hP.out.below f2 (Nat.le_refl _)).below f7 (Nat.le_refl _)
              obtain ⟨g, -, rfl, hg1, hg2, -⟩ := cown_store hP.out (show 0 < 256 by decide)
              have F7 := zb (za FW.out (za f2 f7))
              have zg2 : g < w2.heap.size := Nat.lt_of_lt_of_le hg2 f2.size
              have S0 : Hid (Own w7 Y.heap.size 5 1 (some ⟨g, 0, none⟩) 256 c (u8s (splice pd 4 (q.take 0)))) := zb (by rw [show splice pd 4 (q.take 0) = pd from by unfold splice; simp]; exact oP)
              have O7 := zb o7
              clear n7 h7 g7 hp1 oP o7 f7 f2
              go_wp2_with fail
              go_loopg [14] 4 (fun gg si wr => ∃ j : Nat, j + gg = 4 ∧ si = .int .i64 j ∧ Hid (Own wr Y.heap.size 5 1 (some ⟨g, 0, none⟩) 256 c (u8s (splice pd 4 (q.take j)))) ∧ Hid (Own wr w2.heap.size 5 1 A7 4 c7 (u8s q)) ∧ Hid (Fr Y wr))
              case atStart => exact ⟨0, by omega, rfl, S0, O7, F7⟩
              case round =>
                obtain ⟨j, hj, rfl, hO, hQ, hF⟩ := hrel
                obtain ⟨wx, rfl⟩ : ∃ W : World, W = wr := ⟨_, rfl⟩
                by_cases hlt : j < 4
                · have hjz : (j : Int) < 4 := by omega
                  have hq : q[j]? = some (q[j]'(by have := ql.out; omega)) := List.getElem?_eq_getElem _
                  generalize q[j]'(by have := ql.out; omega) = z at hq
                  obtain ⟨bq, oq, eA, hbq, hcq⟩ := hQ.out.has.form (by intro e; have := congrArg List.length e; rw [List.length_map, ql.out] at this; cases this)
                  have hz : wx.cell? ⟨bq, oq + j, none⟩ = some (.int .u8 z) := hcq j _ (by rw [List.getElem?_map, hq]; rfl)
                  subst eA
                  obtain ⟨g', x0, eg, -, hgs, -, hc0, hfz, hset⟩ := cown_store hO.out (show 4 + j < 256 by omega)
                  obtain rfl : g' = g := by injection eg with eg; injection eg with e1 e2; exact e1.symm
                  have o1 := hset (.int .u8 z)
                  have hst : (u8s (splice pd 4 (q.take j))).set (4 + j) (.int .u8 z) = u8s (splice pd 4 (q.take (j + 1))) := splice_next (by rw [p256.out]; omega) hq
                  rw [hst] at o1
                  have O1 := zb o1
                  have k1 : KpG wx g' (wx.setCell ⟨g', 4 + j, none⟩ (.int .u8 z)) := ⟨rfl, rfl, rfl, by simp [World.setCell], fun k _ hk => Below.heap_setCell _ _ _ _ (fun e => hk (by simp [e]))⟩
                  have Q1 := zb (hQ.out.kept k1 (.inr fun e => by have := (hQ.out.lt g' e).1; omega))
                  have F1 := zb (k1.below hF.out hF.out.size hg1)
                  have Hj := zb (And.intro hj hlt)
                  clear hj hlt hq hcq eg hset hst k1 o1
                  go_wp2_with fail
                  go_roundg (gk - 1)
                  case measure => have := Hj.out.1; have := Hj.out.2; omega
                  case rel => exact ⟨j + 1, by have := Hj.out.1; omega, by go_num, O1, Q1, F1⟩
                have hjz : ¬ (j : Int) < 4 := by omega
                obtain rfl : j = 4 := by omega
                have hfn : Own wx Y.heap.size 5 1 (some ⟨g, 0, none⟩) 256 c (u8s bk) := by
                  have h := hO.out
                  rw [List.take_of_length_le (by rw [ql.out]; exact Nat.le_refl _), hp2.out] at h
                  exact h
                clear hj hlt hO hQ
                go_wp2_with fail
                go_ret2
                exact ⟨_, _, rfl, zb ⟨hfn.mono zY, za fY hF.out⟩⟩
end Go.Proofs.Ytmjjjdikpnhpiaa
