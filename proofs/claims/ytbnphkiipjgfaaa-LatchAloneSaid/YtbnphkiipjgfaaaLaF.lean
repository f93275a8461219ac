/- Package latch: letIn. -/
import Derived.Test.YtbnphkiipjgfaaaLaE
namespace Go.Proofs.Ytbnphkiipjgfaaa
set_option linter.unusedVariables false
set_option linter.unusedSimpArgs false
set_option maxRecDepth 100000
open Go.RowKit
attribute [local go_sem ↓] want_ld
/-- A row of numbers that a call has made. -/
def Res (w w' : World) (B : Option Addr) (k b : Nat) (l : List Int) : Prop := l.length = k ∧ Rw w' 3 1 B k b (rows ic l) ∧ ∀ i, At B i → w.heap.size ≤ i
/-- A latch that had the blocks Y has turned into t, and lies apart from the row at B. -/
def TurnB (w w' : World) (Y : Nat → Prop) (g : Nat) (t : Lat) (B : Option Addr) : Prop :=
  ∃ A n c Q m d, PB w' g A n c Q m d t ∧ Chg Y w w' ∧ (∀ k, LX g A Q k → Y k ∨ w.heap.size ≤ k) ∧ ∀ i, At B i → ¬ LX g A Q i
theorem TurnB.on {w W V : World} {Y : Nat → Prop} {g : Nat} {t : Lat} {B : Option Addr} (c : Chg Y w W) (h : TurnB W V Y g t B) : TurnB w V Y g t B := by
  obtain ⟨A, n, c', Q, m, d, h1, h2, h3, h4⟩ := h
  exact ⟨A, n, c', Q, m, d, h1, c.trans h2, fun k hk => (h3 k hk).imp id fun h => Nat.le_trans c.size h, h4⟩
theorem TurnB.next {w w1 W : World} {Y : Nat → Prop} {g : Nat} {A1 Q1 : Option Addr} {u : Lat} {B : Option Addr} (c : Chg Y w w1) (o : ∀ k, LX g A1 Q1 k → Y k ∨ w.heap.size ≤ k) (h : TurnB w1 W (LX g A1 Q1) g u B) : TurnB w W Y g u B := by
  obtain ⟨A, n, c', Q, m, d, h1, h2, h3, h4⟩ := h
  refine ⟨A, n, c', Q, m, d, h1, c.trans' h2 fun i hi hx => ?_, fun k hk => ?_, h4⟩
  · rcases o i hx with h | h
    · exact h
    · omega
  · rcases h3 k hk with h | h
    · exact o k h
    · exact .inr (Nat.le_trans c.size h)
theorem TurnB.same {w w' : World} {Y : Nat → Prop} {g n c m d : Nat} {A Q : Option Addr} {t : Lat} (h : PB w g A n c Q m d t) (f : Fr w w') (hy : ∀ k, LX g A Q k → Y k) : TurnB w w' Y g t none :=
  ⟨A, n, c, Q, m, d, h.fr f, .of_fr _ f, fun k hk => .inl (hy k hk), fun i hi => by cases hi⟩
/-- What holds at each round of letIn. -/
structure LIn (w wr : World) (Y : Nat → Prop) (g n c m d : Nat) (A Q B : Option Addr) (k b K : Nat) (t u : Lat) (acc : List Int) : Prop where
  pb : PB wr g A n c Q m d u
  ok : OkT u K
  chg : Chg Y w wr
  own : ∀ i, LX g A Q i → Y i ∨ w.heap.size ≤ i
  eq : letT t = ((letT u).1, acc ++ (letT u).2)
  row : Rw wr 3 1 B k b (rows ic acc)
  new : ∀ i, At B i → w.heap.size ≤ i ∧ ¬ LX g A Q i
  len : acc.length + u.q.length ≤ K
theorem LIn.done {w wr : World} {Y : Nat → Prop} {g n c m d : Nat} {A Q B : Option Addr} {k b K : Nat} {t u : Lat} {acc : List Int} (h : LIn w wr Y g n c m d A Q B k b K t u acc) (hu : letT u = (u, [])) : Res w wr B k b (letT t).2 ∧ TurnB w wr Y g (letT t).1 B := by
  have e := h.eq
  rw [hu] at e
  simp only [List.append_nil] at e
  rw [e]
  have hl := h.row.len
  rw [rows_len (ic_wid _)] at hl
  exact ⟨⟨by simpa using hl, h.row, fun i hi => (h.new i hi).1⟩, ⟨A, n, c, Q, m, d, h.pb, h.chg, h.own, fun i hi => (h.new i hi).2⟩⟩
theorem ints_info : (Try.prog.info? 33).map (·.size) = some 1 := by kernel_rfl
theorem wants_info : (Try.prog.info? 38).map (·.size) = some 1 := by kernel_rfl
theorem slice_one (A : Option Addr) (n c : Nat) : One [.slice A n c] := .cons rfl .nil
theorem LIn.not {w wr : World} {Y : Nat → Prop} {g n c m d : Nat} {A Q B : Option Addr} {k b K : Nat} {t u : Lat} {acc : List Int} (h : LIn w wr Y g n c m d A Q B k b K t u acc) : ¬ LX g A Q wr.heap.size := fun hi => by have := h.pb.lt _ hi; omega
theorem LIn.pop {w wr : World} {Y : Nat → Prop} {g n c m d : Nat} {A Q B : Option Addr} {k b K : Nat} {t u : Lat} {acc : List Int} (h : LIn w wr Y g n c m d A Q B k b K t u acc) {x : Wt} {q : List Wt} (hq : u.q = x :: q) {W5 W6 : World} (h5 : Fr wr W5) (ha : Arr W6 g 40 #[.int .i64 u.pn, .slice A n c, .int .i64 u.wr, .slice (lowA 2 Q d 1) (m - 1) (d - 1)]) (h6 : Chg (· = g) W5 W6) :
    PB W6 g A n c (lowA 2 Q d 1) (m - 1) (d - 1) { u with q := q } := by
  have hP := h.pb.fr h5
  have hm := h.pb.nlen.2
  rw [hq, List.length_cons] at hm
  have hs := hP.q.suf (i := 1) (by omega)
  rw [hq, rows_cons] at hs
  exact hP.rows_q hs (.refl _ _) ha h6 fun hk => hP.ng.2 (by unfold At at hk ⊢; rwa [lowA_blk] at hk)
theorem LIn.step {w wr : World} {Y : Nat → Prop} {g n c m d : Nat} {A Q B : Option Addr} {k b K : Nat} {t u : Lat} {acc : List Int} (h : LIn w wr Y g n c m d A Q B k b K t u acc) {x : Wt} {q : List Wt} (hq : u.q = x :: q) (hu : letT u = ((letT (giveT { u with q := q } x)).1, x.1 :: (letT (giveT { u with q := q } x)).2))
    {W5 W6 w7 w8 : World} {o : Obj} {A2 Q2 B2 : Option Addr} {n2 c2 m2 d2 b2 : Nat} (h5 : Fr wr W5) (h6 : Chg (· = g) W5 W6) (p7 : PB w7 g A2 n2 c2 Q2 m2 d2 (giveT { u with q := q } x)) (c7 : Chg (LX g A (lowA 2 Q d 1)) W6 w7) (o7 : ∀ i, LX g A2 Q2 i → LX g A (lowA 2 Q d 1) i ∨ W6.heap.size ≤ i)
    (h8 : Rw w8 3 1 B2 (k + 1) b2 (rows ic acc ++ ic x.1)) (p8 : Put (w7.alloc o) w8 B B2) : m2 = m - 1 ∧ LIn w w8 Y g n2 c2 m2 d2 A2 Q2 B2 (k + 1) b2 K t (giveT { u with q := q } x) (acc ++ [x.1]) := by
  have hL : ∀ i, LX g A (lowA 2 Q d 1) i ↔ LX g A Q i := fun i => by unfold LX At; rw [lowA_blk]
  have s5 := h5.size
  have s6 := h6.size
  have s7 := c7.size
  have s8 := p8.chg.size
  have s9 : (w7.alloc o).heap.size = w7.heap.size + 1 := by simp
  have sw := h.chg.size
  have hlt := h.pb.lt
  have hBlt := h.row.lt
  have hyl : ∀ i, i < w.heap.size → LX g A Q i → Y i := fun i hi hx => by
    rcases h.own i hx with h | h
    · exact h
    · omega
  have hnB : ∀ i, LX g A2 Q2 i → ¬ At B i := fun i hi hb => by
    rcases o7 i hi with h1 | h1
    · exact (h.new i hb).2 ((hL i).1 h1)
    · have := hBlt i hb; omega
  have hlen := h.pb.nlen.2
  have hl := h.len
  rw [hq, List.length_cons] at hlen hl
  have h2 := p7.nlen.2
  rw [give_q] at h2
  simp only at h2
  refine ⟨by omega, ⟨(p7.fr (fr_new (fr_refl _) o)).chg p8.chg hnB, h.ok.step hq, ?_, fun i hi => ?_, ?_, ?_, fun i hi => ?_, ?_⟩⟩
  · refine Chg.trans' (Chg.alloc (Chg.trans' (Chg.trans' (h.chg.fr h5) h6 (fun i hi e => ?_)) c7 (fun i hi e => ?_)) o) p8.chg (fun i hi e => ?_)
    · exact hyl i hi (.inl e)
    · exact hyl i hi ((hL i).1 e)
    · have := (h.new i e).1; omega
  · rcases o7 i hi with h1 | h1
    · exact h.own i ((hL i).1 h1)
    · exact .inr (by omega)
  · rw [h.eq, hu]
    simp
  · rw [rows_append, rows_single]
    exact h8
  · rcases p8.lies with e | ⟨e, -⟩
    · rw [e] at hi
      exact ⟨(h.new i hi).1, fun hx => hnB i hx hi⟩
    · unfold At at hi
      rw [e] at hi
      injection hi with hi
      refine ⟨by omega, fun hx => ?_⟩
      have := p7.lt i hx
      omega
  · rw [List.length_append, List.length_singleton, give_q]
    simp only
    omega
set_option maxHeartbeats 8000000 in
theorem letin_at {w : World} {g n c m d K : Nat} {A Q : Option Addr} {t : Lat} (h : PB w g A n c Q m d t) (ok : OkT t K) (hK : K ≤ 100000) :
    Calls Try.prog 44 #[.pointer (some ⟨g, 0, none⟩)] w fun e w' => ∃ B k b, e = .returned (.slice B k b) ∧ Hid (Res w w' B k b (letT t).2 ∧ TurnB w w' (LX g A Q) g (letT t).1 B) := by
  have I0 : Hid (LIn w w (LX g A Q) g n c m d A Q none 0 0 K t t []) := keep ⟨h, ok, .refl _ _, fun i hi => .inl hi, by simp, Rw.nil _ _ _, (fun i hi => by cases hi), by have := ok.len; simp only [List.length_nil]; omega⟩
  have hm := h.nlen.2
  clear h ok
  go_enter Try.func44, Try.ntmps44
  go_wp2_with fail
  go_loopg [3, 4] m (fun g' s3 s4 wr => ∃ (A' : Option Addr) (n' c' : Nat) (Q' : Option Addr) (d' : Nat) (B : Option Addr) (k b : Nat) (u : Lat) (acc : List Int), s3 = .slice B k b ∧ Hid (LIn w wr (LX g A Q) g n' c' g' d' A' Q' B k b K t u acc))
  case atStart => exact ⟨A, n, c, Q, d, none, 0, 0, t, [], rfl, I0⟩
  case round =>
    clear I0
    obtain ⟨A', n', c', Q', d', B, k, b, u, acc, rfl, hI⟩ := hrel
    have hP := hI.out.pb
    obtain ⟨-, k1, k2, k3⟩ := hP.cells
    obtain ⟨l1, l2⟩ := hP.nlen
    have hok := hI.out.ok
    cases hq : u.q with
    | nil =>
      have hgk : gk = 0 := by rw [hq] at l2; simpa using l2.symm
      subst hgk
      have hu := keep (let_nil hq)
      clear hP k1 k2 l1 l2 hq hok
      go_wp2_with fail
      go_ret
      exact ⟨B, k, b, rfl, keep (hI.out.done hu.out)⟩
    | cons x q =>
      have hgk : 0 < gk := by rw [hq] at l2; simp at l2; omega
      obtain ⟨qb, off, rfl⟩ := hP.q.addr hgk
      have hx : u.q[0]? = some x := by rw [hq]; rfl
      have hr : wr.rangeAt qb off (rows wc u.q) := fun t v ht => by
        obtain ⟨b, off, e, -, hc⟩ := hP.q.has t v ht
        injection e with e
        injection e with e1 e2
        subst e1 e2
        exact hc
      have hql : qb < wr.heap.size := hP.q.lt qb rfl
      have x1 := elem_cell (o := 1) hr (wc_wid _) hql hx (u := .bool x.2) rfl wr (fr_refl wr)
      have lX := elem_ld want_ty hr (wc_wid _) hql hx
      rw [Nat.zero_mul, Nat.add_zero] at x1 lX
      have hcA := allows_at x.2 hP
      have hgz : 0 < (gk : Int) := by omega
      cases hc : canT u x.2 with
      | false =>
        rw [hc] at hcA
        have hu := keep (let_no hq hc)
        clear hP k1 k2 l1 l2 hq hok hx hr hc lX
        go_wp2_with fail
        refine hcA.mono ?_
        rintro e w' ⟨rfl, rfl⟩
        go_wp2_with fail
        go_ret
        exact ⟨B, k, b, rfl, keep (hI.out.done hu.out)⟩
      | true =>
        rw [hc] at hcA
        have hu := keep (let_yes hq hc)
        have q1 : ∀ W, (Instr.slice 38 (.slice (some ⟨qb, off, none⟩) gk d') (some (.int .i64 1)) none none).run Try.prog W = .ok (.slice (lowA 2 (some ⟨qb, off, none⟩) d' 1) (gk - 1) (d' - 1)) W := fun W => w_slice_lo (some ⟨qb, off, none⟩) gk d' 1 (by omega) W
        have HP := keep hP
        have HQ := keep hq
        have hrr := fr_refl wr
        have gl := hP.box.lt
        have hk : k ≤ 100000 := by
          have h1 := hI.out.row.len
          rw [rows_len (ic_wid _)] at h1
          have := hI.out.len
          omega
        clear hP k2 l1 l2 hq hok hx hr hc
        go_wp2_with fail
        refine hcA.mono ?_
        rintro e w' ⟨rfl, rfl⟩
        go_wp2_with (first
          | (refine wpList_store_at (ds := wc x) want_info rfl (.tmp 4) (.tmp 27) rfl wr.heap.size 0 rfl rfl rfl (wc_one _) (Arr.new wr (wc (0, false)).toArray 51) (Nat.le_refl 2) (splice_all _ _ (Nat.le_refl 2)) ?_; intro W5 hM5 hk5; have hF5 := hk5.fr (fr_new hrr _) (Nat.le_refl _); clear hk5; have HP5 := keep (HP.out.fr hF5); obtain ⟨-, j1, j2, j3⟩ := HP5.out.cells)
          | (refine wpList_store_chg (cs' := [.int .i64 u.pn, .slice A' n' c', .int .i64 u.wr, .slice (lowA 2 (some ⟨qb, off, none⟩) d' 1) (gk - 1) (d' - 1)]) wants_info rfl (.tmp 35) (.tmp 33) rfl g 3 rfl rfl rfl (slice_one _ _ _) HP5.out.box (show 4 ≤ 4 by decide) rfl ?_; intro W6 hA6 hK6; have hM6 := hM5.chg hK6 (by omega); have lM := fun W (h : Fr W6 W) => want_ty.ld (cs := wc x) rfl (hM6.below h hM6.lt); have h66 := fr_refl W6)
          | fail)
        have HP6 := keep (hI.out.pop HQ.out hF5 hA6 hK6)
        have ok6 := (hI.out.ok.tail HQ.out).1
        refine (give_at x HP6.out ok6.sorted (by have := ok6.len; omega)).mono ?_
        rintro e w7 ⟨rfl, hT⟩
        obtain ⟨A2, n2, c2, Q2, m2, d2, p7, c7, o7⟩ := hT.out
        have d7 : w7.cell? ⟨wr.heap.size, 0, none⟩ = some (.int .i64 x.1) := by
          refine (c7.cell (p := ⟨wr.heap.size, 0, none⟩) hM6.lt (fun hx => ?_)).trans (by rw [hM6.cell]; rfl)
          refine hI.out.not ?_
          unfold LX At at hx ⊢
          rwa [lowA_blk] at hx
        have HR : Hid (Rw w7 3 1 B k b (rows ic acc)) := keep (((hI.out.row.fr hF5).chg hK6 (fun i hi e => (hI.out.new i hi).2 (.inl e))).chg c7 (fun i hi hx => (hI.out.new i hi).2 (by
          unfold LX At at hx ⊢
          rwa [lowA_blk] at hx)))
        have P7 := keep p7
        have C7 := keep c7
        have O7 := keep o7
        have K6 := keep hK6
        clear p7 c7 o7 hT hK6 hA6 hM6 lM h66 ok6 j1 j2 j3 hM5
        go_wp2_with (first
          | (refine wpList_append_rw int_elem ints_under (by decide) rfl (.tmp 39) (.tmp 42) rfl B k b (rows ic acc) rfl (HR.out.fr (fr_new (fr_refl _) _)) (w7.heap.size + 1) (some ⟨w7.heap.size, 0, none⟩) 1 1 (ic x.1) rfl rfl (has_one w7 _ _) (ic_one _) (by simp only [maxLen]; omega) (by omega) ?_; intro B2 b2 w8 h8 p8)
          | fail)
        obtain ⟨e9, L9⟩ := hI.out.step HQ.out hu.out hF5 K6.out P7.out C7.out O7.out h8 p8
        go_roundg (gk - 1)
        case measure => omega
        case rel => exact ⟨A2, n2, c2, Q2, d2, B2, k + 1, b2, _, acc ++ [x.1], rfl, keep (e9 ▸ L9)⟩
end Go.Proofs.Ytbnphkiipjgfaaa
