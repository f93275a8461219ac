/- The document's latch: those who are let in. -/
import Derived.Test.YtbnphkiipjgfaaaLaK
namespace Go.Proofs.Ytbnphkiipjgfaaa
set_option linter.unusedVariables false
set_option linter.unusedSimpArgs false
set_option maxRecDepth 100000
open Go.RowKit
attribute [local go_sem ↓] want_ld
/-- What holds at each round. -/
structure DIn (w wr : World) (Y : Nat → Prop) (g n c m d : Nat) (A Q B : Option Addr) (k b K : Nat) (t u : Lat) (acc : List Int) : Prop where
  pb : DB wr g A n c Q m d u
  ok : OkT u K
  chg : Chg Y w wr
  own : ∀ i, LX g A Q i → Y i ∨ w.heap.size ≤ i
  eq : letT t = ((letT u).1, acc ++ (letT u).2)
  row : Rw wr 3 1 B k b (rows ic acc)
  new : ∀ i, At B i → w.heap.size ≤ i ∧ ¬ LX g A Q i
  len : acc.length + u.q.length ≤ K
theorem DIn.done {w wr : World} {Y : Nat → Prop} {g n c m d : Nat} {A Q B : Option Addr} {k b K : Nat} {t u : Lat} {acc : List Int} (h : DIn w wr Y g n c m d A Q B k b K t u acc) (hu : letT u = (u, [])) : Res w wr B k b (letT t).2 ∧ DTurn w wr Y g (letT t).1 := by
  have e := h.eq
  rw [hu] at e
  simp only [List.append_nil] at e
  rw [e]
  have hl := h.row.len
  rw [rows_len (ic_wid _)] at hl
  exact ⟨⟨by simpa using hl, h.row, fun i hi => (h.new i hi).1⟩, ⟨A, n, c, Q, m, d, h.pb, h.chg, h.own⟩⟩
theorem DIn.step {w wr : World} {Y : Nat → Prop} {g n c m d : Nat} {A Q B : Option Addr} {k b K : Nat} {t u : Lat} {acc : List Int} (h : DIn w wr Y g n c m d A Q B k b K t u acc) {x : Wt} {q : List Wt} (hq : u.q = x :: q) (hu : letT u = ((letT (giveT { u with q := q } x)).1, x.1 :: (letT (giveT { u with q := q } x)).2))
    {W5 W6 w7 w8 : World} {o : Obj} {A2 L Q2 B2 : Option Addr} {n2 c2 m2 d2 b2 : Nat} (h5 : Fr wr W5) (h6 : Chg (· = g) W5 W6) (hL : ∀ i, LX g A L i → LX g A Q i ∨ wr.heap.size ≤ i) (p7 : DB w7 g A2 n2 c2 Q2 m2 d2 (giveT { u with q := q } x)) (c7 : Chg (LX g A L) W6 w7) (o7 : ∀ i, LX g A2 Q2 i → LX g A L i ∨ W6.heap.size ≤ i)
    (h8 : Rw w8 3 1 B2 (k + 1) b2 (rows ic acc ++ ic x.1)) (p8 : Put (w7.alloc o) w8 B B2) : m2 = m - 1 ∧ DIn w w8 Y g n2 c2 m2 d2 A2 Q2 B2 (k + 1) b2 K t (giveT { u with q := q } x) (acc ++ [x.1]) := by
  have s5 := h5.size
  have s6 := h6.size
  have s7 := c7.size
  have s8 := p8.chg.size
  have s9 : (w7.alloc o).heap.size = w7.heap.size + 1 := by simp
  have sw := h.chg.size
  have hlt := h.pb.lt
  have hBlt := h.row.lt
  have hyl : ∀ i, i < w.heap.size → LX g A Q i → Y i := fun i hi hx => by
    rcases h.own i hx with h | h
    · exact h
    · omega
  have hnB : ∀ i, LX g A2 Q2 i → ¬ At B i := fun i hi hb => by
    have hl := hBlt i hb
    rcases o7 i hi with h1 | h1
    · rcases hL i h1 with h2 | h2
      · exact (h.new i hb).2 h2
      · omega
    · omega
  have hlen := h.pb.nlen.2
  have hl := h.len
  rw [hq, List.length_cons] at hlen hl
  have h2 := p7.nlen.2
  rw [give_q] at h2
  simp only at h2
  refine ⟨by omega, ⟨(p7.fr (fr_new (fr_refl _) o)).chg p8.chg hnB, h.ok.step hq, ?_, fun i hi => ?_, ?_, ?_, fun i hi => ?_, ?_⟩⟩
  · refine Chg.trans' (Chg.alloc (Chg.trans' (Chg.trans' (h.chg.fr h5) h6 (fun i hi e => ?_)) c7 (fun i hi e => ?_)) o) p8.chg (fun i hi e => ?_)
    · exact hyl i hi (.inl e)
    · rcases hL i e with h2 | h2
      · exact hyl i hi h2
      · omega
    · have := (h.new i e).1; omega
  · rcases o7 i hi with h1 | h1
    · rcases hL i h1 with h2 | h2
      · exact h.own i h2
      · exact .inr (by omega)
    · exact .inr (by omega)
  · rw [h.eq, hu]
    simp
  · rw [rows_append, rows_single]
    exact h8
  · rcases p8.lies with e | ⟨e, -⟩
    · rw [e] at hi
      exact ⟨(h.new i hi).1, fun hx => hnB i hx hi⟩
    · unfold At at hi
      rw [e] at hi
      injection hi with hi
      refine ⟨by omega, fun hx => ?_⟩
      have := p7.lt i hx
      omega
  · rw [List.length_append, List.length_singleton, give_q]
    simp only
    omega
theorem empty_rw (W : World) : Rw (W.alloc (.cells #[] 51)) 51 2 (some ⟨W.heap.size, 0, none⟩) 0 0 [] := ⟨by simp, .inr ⟨W.heap.size, [], [], rfl, Arr.new W _ _, Nat.le_refl _, Nat.zero_le _, by simp⟩⟩
theorem wpList_append_none {P : Program} {w : World} {ops : Array Oper} {rest : List Oper} {o : Oper} {a : Act} {Q : Exit → Act → World → Prop} {e size bytes t : Nat} (E : Elem P e size bytes) (ht : P.underlying t = some (.slice e)) (hsz : 0 < size) (hgd : o.guard = none) (s x : Operand)
    (hop : o.op = .call { callee := .builtin .append, args := #[s, x], argTypes := #[t, t] }) (A : Option Addr) (c1 : Nat) (hs : a.eval s = .slice A 0 c1) (ho : Rw w e size A 0 c1 [])
    (C : Nat) (A2 : Option Addr) (m c2 : Nat) (news : List Value) (hx : a.eval x = .slice A2 m c2) (hl : news.length = m * size) (hn : Has w C A2 news) (h1 : One news) (h63 : m ≤ maxLen) (hbytes : m * bytes ≤ 140737488355328)
    (h : ∀ A' c' w', Rw w' e size A' m c' news → Put w w' A A' → wpList P ops Q rest (a.put o.dst (.slice A' m c')) w') : wpList P ops Q (o :: rest) a w :=
  wpList_append_rw E ht hsz hgd s x hop A 0 c1 [] hs ho C A2 m c2 news hx hl hn h1 (by omega) (by rw [Nat.zero_add]; exact hbytes) fun A' c' w' h2 h3 => by
    rw [Nat.zero_add] at h2 ⊢
    exact h A' c' w' h2 h3
/-- The queue laid anew in a new block. -/
theorem DB.new_q {wr W5 W6 : World} {g n c m d m' d' : Nat} {A Q Q' : Option Addr} {u : Lat} {q : List Wt} (h : DB wr g A n c Q m d u) (h5 : Fr wr W5) (hr : Rw W5 51 2 Q' m' d' (rows wc q)) (hn : ∀ i, At Q' i → wr.heap.size ≤ i) (ha : Arr W6 g 45 #[.slice A n c, .int .i64 u.wr, .slice Q' m' d', .int .i64 u.pn]) (k : Chg (· = g) W5 W6) : DB W6 g A n c Q' m' d' { u with q := q } := by
  have hP := h.fr h5
  have hg := h.box.lt
  exact ⟨ha, hP.rs.chg k fun b hb e => hP.ng.1 (e ▸ hb), hr.chg k fun b hb e => by have := hn b hb; omega⟩
set_option maxHeartbeats 8000000 in
theorem rin_at {w : World} {g n c m d K : Nat} {A Q : Option Addr} {t : Lat} (h : DB w g A n c Q m d t) (ok : OkT t K) (hK : K ≤ 100000) :
    Calls Try.prog 45 #[.pointer (some ⟨g, 0, none⟩)] w fun e w' => ∃ B k b, e = .returned (.slice B k b) ∧ Hid (Res w w' B k b (letT t).2 ∧ DTurn w w' (LX g A Q) g (letT t).1) := by
  have I0 : Hid (DIn w w (LX g A Q) g n c m d A Q none 0 0 K t t []) := keep ⟨h, ok, .refl _ _, fun i hi => .inl hi, by simp, Rw.nil _ _ _, (fun i hi => by cases hi), by have := ok.len; simp only [List.length_nil]; omega⟩
  have hm := h.nlen.2
  have hmk : m ≤ 100000 := by have := ok.len; omega
  clear h ok
  go_enter Try.func45, Try.ntmps45
  go_wp2_with fail
  go_loopg [3, 4] m (fun g' s3 s4 wr => ∃ (A' : Option Addr) (n' c' : Nat) (Q' : Option Addr) (d' : Nat) (B : Option Addr) (k b : Nat) (u : Lat) (acc : List Int), s3 = .slice B k b ∧ g' ≤ m ∧ Hid (DIn w wr (LX g A Q) g n' c' g' d' A' Q' B k b K t u acc))
  case atStart => exact ⟨A, n, c, Q, d, none, 0, 0, t, [], rfl, Nat.le_refl _, I0⟩
  case round =>
    clear I0
    obtain ⟨A', n', c', Q', d', B, k, b, u, acc, rfl, hgm, hI⟩ := hrel
    have hP := hI.out.pb
    obtain ⟨k0, k1, k2, -⟩ := hP.cells
    obtain ⟨l1, l2⟩ := hP.nlen
    have hok := hI.out.ok
    cases hq : u.q with
    | nil =>
      have hgk : gk = 0 := by rw [hq] at l2; simpa using l2.symm
      subst hgk
      have hu := keep (let_nil hq)
      clear hP k0 k1 l1 l2 hq hok
      go_wp2_with fail
      go_ret
      exact ⟨B, k, b, rfl, keep (hI.out.done hu.out)⟩
    | cons x q =>
      have hgk : 0 < gk := by rw [hq] at l2; simp at l2; omega
      obtain ⟨qb, off, rfl⟩ := hP.q.addr hgk
      have hx : u.q[0]? = some x := by rw [hq]; rfl
      have hr : wr.rangeAt qb off (rows wc u.q) := fun t v ht => by
        obtain ⟨b, off, e, -, hc⟩ := hP.q.has t v ht
        injection e with e
        injection e with e1 e2
        subst e1 e2
        exact hc
      have hql : qb < wr.heap.size := hP.q.lt qb rfl
      have x1 := elem_cell (o := 1) hr (wc_wid _) hql hx (u := .bool x.2) rfl wr (fr_refl wr)
      have lX := elem_ld want_ty hr (wc_wid _) hql hx
      rw [Nat.zero_mul, Nat.add_zero] at x1 lX
      have hcA := rcan_at x.2 hP hok.wr.1
      have hgz : 0 < (gk : Int) := by omega
      cases hc : canT u x.2 with
      | false =>
        rw [hc] at hcA
        have hu := keep (let_no hq hc)
        clear hP k0 k1 l1 l2 hq hok hx hr hc lX
        go_wp2_with fail
        refine hcA.mono ?_
        rintro e w' ⟨rfl, rfl⟩
        go_wp2_with fail
        go_ret
        exact ⟨B, k, b, rfl, keep (hI.out.done hu.out)⟩
      | true =>
        rw [hc] at hcA
        have hu := keep (let_yes hq hc)
        have q1 : ∀ W, (Instr.slice 38 (.slice (some ⟨qb, off, none⟩) gk d') (some (.int .i64 1)) none none).run Try.prog W = .ok (.slice (lowA 2 (some ⟨qb, off, none⟩) d' 1) (gk - 1) (d' - 1)) W := fun W => w_slice_lo (some ⟨qb, off, none⟩) gk d' 1 (by omega) W
        have hsf : Rw wr 51 2 (lowA 2 (some ⟨qb, off, none⟩) d' 1) (gk - 1) (d' - 1) (rows wc q) := by
          have := hP.q.suf (i := 1) (by omega)
          rw [hq, rows_cons] at this
          exact this
        have HSF := keep hsf
        have HO := keep (rows_one wc_one q)
        have HL := keep hsf.len
        have HP := keep hP
        have HQ := keep hq
        have hrr := fr_refl wr
        have gl := hP.box.lt
        have hk : k ≤ 100000 := by
          have h1 := hI.out.row.len
          rw [rows_len (ic_wid _)] at h1
          have := hI.out.len
          omega
        clear hP k0 l1 l2 hq hok hx hr hc hsf
        go_wp2_with fail
        refine hcA.mono ?_
        rintro e w' ⟨rfl, rfl⟩
        go_wp2_with (first
          | (refine wpList_store_at (ds := wc x) want_info rfl (.tmp 4) (.tmp 27) rfl wr.heap.size 0 rfl rfl rfl (wc_one _) (Arr.new wr (wc (0, false)).toArray 51) (Nat.le_refl 2) (splice_all _ _ (Nat.le_refl 2)) ?_; intro W5 hM5 hk5; have hF5 := hk5.fr (fr_new hrr _) (Nat.le_refl _); clear hk5; have HP5 := keep (HP.out.fr hF5); have hF5a := fun o => fr_new (fr_refl W5) o; have gl5 := HP5.out.box.lt; have j2 : ∀ W, Fr W5 W → W.cell? ⟨g, 2, none⟩ = some (.slice (some ⟨qb, off, none⟩) gk d') := fun W f => (f.cell gl5).trans HP5.out.cells.2.2.1)
          | (refine wpList_append_none want_elem wants_under (by decide) rfl (.tmp 29) (.tmp 34) rfl (some ⟨W5.heap.size, 0, none⟩) 0 rfl (empty_rw W5) wr.heap.size (lowA 2 (some ⟨qb, off, none⟩) d' 1) (gk - 1) (d' - 1) (rows wc q) rfl HL.out (HSF.out.has.below (fr_new hF5 _)) HO.out (by simp only [maxLen]; omega) (by omega) ?_; intro Q6 d6 W5b hQ6 hp6; have n6 : ∀ i, At Q6 i → W5.heap.size ≤ i := (fun i hi => (hp6.blk i hi).elim (fun e => by (injection e with e; simp only at e; omega)) (fun h => Nat.le_trans (fr_new (fr_refl W5) _).size h)); have f5b : Fr W5 W5b := (fr_new (fr_refl W5) _).trans (hp6.chg.below (B := W5.heap.size) (fr_new (fr_refl W5) _).size (fun i e => by (injection e with e; simp only at e; omega))); have hB5 := HP5.out.box.below f5b gl5; have hM5b := hM5.below f5b hM5.lt)
          | (refine wpList_store_chg (cs' := [.slice A' n' c', .int .i64 u.wr, .slice Q6 (gk - 1) d6, .int .i64 u.pn]) wants_info rfl (.tmp 37) (.tmp 35) rfl g 2 rfl rfl rfl (slice_one _ _ _) hB5 (show 3 ≤ 4 by decide) rfl ?_; intro W6 hA6 hK6; have hM6 := hM5b.chg hK6 (by omega); have e0 : W6.cell? ⟨wr.heap.size, 0, none⟩ = some (.int .i64 x.1) := (by rw [hM6.cell]; rfl); have e1 : W6.cell? ⟨wr.heap.size, 1, none⟩ = some (.bool x.2) := (by rw [hM6.cell]; rfl))
          | fail)
        have s5 : wr.heap.size < W5.heap.size := hM5.lt
        have HP6 := keep (HP.out.new_q (fr_step hF5 f5b) hQ6 (fun i hi => by have := n6 i hi; omega) hA6 hK6)
        have ok6 := (hI.out.ok.tail HQ.out).1
        refine (rgive_at x HP6.out ok6.sorted (by have := ok6.len; omega)).mono ?_
        rintro e w7 ⟨rfl, hT⟩
        obtain ⟨A2, n2, c2, Q2, m2, d2, p7, c7, o7⟩ := hT.out
        have hL : ∀ i, LX g A' Q6 i → LX g A' (some ⟨qb, off, none⟩) i ∨ W5.heap.size ≤ i := fun i hi => by
          rcases hi with h | h | h
          · exact .inl (.inl h)
          · exact .inl (.inr (.inl h))
          · exact .inr (n6 i h)
        have d7 : w7.cell? ⟨wr.heap.size, 0, none⟩ = some (.int .i64 x.1) := by
          refine (c7.cell (p := ⟨wr.heap.size, 0, none⟩) hM6.lt (fun hx => ?_)).trans e0
          rcases hL _ hx with h | h
          · have := HP.out.lt _ h
            simp only at this
            omega
          · simp only at h
            omega
        have HR : Hid (Rw w7 3 1 B k b (rows ic acc)) := keep (((hI.out.row.fr (fr_step hF5 f5b)).chg hK6 (fun i hi e => (hI.out.new i hi).2 (.inl e))).chg c7 (fun i hi hx => by
          rcases hL i hx with h | h
          · exact (hI.out.new i hi).2 h
          · have := hI.out.row.lt i hi
            omega))
        have HL2 : Hid (∀ i, LX g A' Q6 i → LX g A' (some ⟨qb, off, none⟩) i ∨ wr.heap.size ≤ i) := keep fun i hi => (hL i hi).imp id (fun h => by omega)
        have P7 := keep p7
        have C7 := keep c7
        have O7 := keep o7
        have K6 := keep hK6
        have F5 := keep (fr_step hF5 f5b)
        clear p7 c7 o7 hT hK6 hA6 hM6 e0 e1 ok6 hM5 hM5b hB5 j2 hL n6 hp6 hQ6 f5b
        go_wp2_with (first
          | (refine wpList_append_rw int_elem ints_under (by decide) rfl (.tmp 44) (.tmp 47) rfl B k b (rows ic acc) rfl (HR.out.fr (fr_new (fr_refl _) _)) (w7.heap.size + 1) (some ⟨w7.heap.size, 0, none⟩) 1 1 (ic x.1) rfl rfl (has_one w7 _ _) (ic_one _) (by simp only [maxLen]; omega) (by omega) ?_; intro B2 b2 w8 h8 p8)
          | fail)
        obtain ⟨e9, L9⟩ := hI.out.step HQ.out hu.out F5.out K6.out HL2.out P7.out C7.out O7.out h8 p8
        go_roundg (gk - 1)
        case measure => omega
        case rel => exact ⟨A2, n2, c2, Q2, d2, B2, k + 1, b2, _, acc ++ [x.1], rfl, by omega, keep (e9 ▸ L9)⟩
end Go.Proofs.Ytbnphkiipjgfaaa
