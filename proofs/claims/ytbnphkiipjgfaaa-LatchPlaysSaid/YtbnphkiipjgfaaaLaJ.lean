/- The document's latch in memory; New, has, Queued, can. -/
import Derived.Test.YtbnphkiipjgfaaaLaI
namespace Go.Proofs.Ytbnphkiipjgfaaa
set_option linter.unusedVariables false
set_option linter.unusedSimpArgs false
set_option maxRecDepth 100000
open Go.RowKit
/-- A latch of the document's in memory: its box g, its rows' slices. -/
structure DB (w : World) (g : Nat) (A : Option Addr) (n c : Nat) (Q : Option Addr) (m d : Nat) (t : Lat) : Prop where
  box : Arr w g 45 #[.slice A n c, .int .i64 t.wr, .slice Q m d, .int .i64 t.pn]
  rs : Rw w 3 1 A n c (rows ic t.rs)
  q : Rw w 51 2 Q m d (rows wc t.q)
section
variable {w W : World} {g n c m d : Nat} {A Q A' Q' : Option Addr} {t : Lat} {X : Nat → Prop}
theorem DB.ng (h : DB w g A n c Q m d t) : ¬ At A g ∧ ¬ At Q g := by
  refine ⟨fun hk => ?_, fun hk => ?_⟩
  · obtain ⟨cs, h1⟩ := h.rs.arr hk
    exact absurd (h1.ty h.box) (by decide)
  · obtain ⟨cs, h1⟩ := h.q.arr hk
    exact absurd (h1.ty h.box) (by decide)
theorem DB.nq (h : DB w g A n c Q m d t) {k : Nat} (hk : At A k) : ¬ At Q k := h.rs.apart h.q (by decide) hk
theorem DB.lt (h : DB w g A n c Q m d t) : ∀ k, LX g A Q k → k < w.heap.size := by
  rintro k (rfl | hk | hk)
  · exact h.box.lt
  · exact h.rs.lt k hk
  · exact h.q.lt k hk
theorem DB.chg (h : DB w g A n c Q m d t) (k : Chg X w W) (hx : ∀ i, LX g A Q i → ¬ X i) : DB W g A n c Q m d t :=
  ⟨h.box.chg k (hx _ (.inl rfl)), h.rs.chg k fun b hb => hx b (.inr (.inl hb)), h.q.chg k fun b hb => hx b (.inr (.inr hb))⟩
theorem DB.fr (h : DB w g A n c Q m d t) (k : Fr w W) : DB W g A n c Q m d t := h.chg (.of_fr (fun _ => False) k) fun _ _ => id
theorem DB.nlen (h : DB w g A n c Q m d t) : t.rs.length = n ∧ t.q.length = m := by
  have h1 := h.rs.len
  have h2 := h.q.len
  rw [rows_len (ic_wid _)] at h1
  rw [rows_len (wc_wid _)] at h2
  omega
theorem DB.cells (h : DB w g A n c Q m d t) : w.cell? ⟨g, 0, none⟩ = some (.slice A n c) ∧ w.cell? ⟨g, 1, none⟩ = some (.int .i64 t.wr) ∧ w.cell? ⟨g, 2, none⟩ = some (.slice Q m d) ∧ w.cell? ⟨g, 3, none⟩ = some (.int .i64 t.pn) := by
  have c1 := h.box.cell 0
  have c2 := h.box.cell 1
  have c3 := h.box.cell 2
  have c4 := h.box.cell 3
  exact ⟨by simpa using c1, by simpa using c2, by simpa using c3, by simpa using c4⟩
/-- Its own fields laid anew. -/
theorem DB.put (h : DB w g A n c Q m d t) {p z : Int} (ha : Arr W g 45 #[.slice A n c, .int .i64 z, .slice Q m d, .int .i64 p]) (k : Chg (· = g) w W) : DB W g A n c Q m d { t with pn := p, wr := z } :=
  ⟨ha, h.rs.chg k fun b hb e => h.ng.1 (e ▸ hb), h.q.chg k fun b hb e => h.ng.2 (e ▸ hb)⟩
/-- Its readers laid anew. -/
theorem DB.rows_rs (h : DB w g A n c Q m d t) {V : World} {n' c' : Nat} {rs : List Int} (hr : Rw V 3 1 A' n' c' (rows ic rs)) (k : Chg (At A) w V) (ha : Arr W g 45 #[.slice A' n' c', .int .i64 t.wr, .slice Q m d, .int .i64 t.pn]) (k2 : Chg (· = g) V W) (hg : ¬ At A' g) : DB W g A' n' c' Q m d { t with rs := rs } :=
  ⟨ha, hr.chg k2 fun b hb e => hg (e ▸ hb), (h.q.chg k fun b hb ha => h.nq ha hb).chg k2 fun b hb e => h.ng.2 (e ▸ hb)⟩
/-- Its queue laid anew. -/
theorem DB.rows_q (h : DB w g A n c Q m d t) {V : World} {m' d' : Nat} {q : List Wt} (hr : Rw V 51 2 Q' m' d' (rows wc q)) (k : Chg (At Q) w V) (ha : Arr W g 45 #[.slice A n c, .int .i64 t.wr, .slice Q' m' d', .int .i64 t.pn]) (k2 : Chg (· = g) V W) (hg : ¬ At Q' g) : DB W g A n c Q' m' d' { t with q := q } :=
  ⟨ha, (h.rs.chg k fun b hb ha => h.nq hb ha).chg k2 fun b hb e => h.ng.1 (e ▸ hb), hr.chg k2 fun b hb e => hg (e ▸ hb)⟩
end
/-- A latch that had the blocks Y has turned into t. -/
def DTurn (w w' : World) (Y : Nat → Prop) (g : Nat) (t : Lat) : Prop :=
  ∃ A n c Q m d, DB w' g A n c Q m d t ∧ Chg Y w w' ∧ ∀ k, LX g A Q k → Y k ∨ w.heap.size ≤ k
theorem DTurn.trans {a b c : World} {Y : Nat → Prop} {g : Nat} {t u : Lat} (h : DTurn a b Y g t) (k : ∀ A n c' Q m d, DB b g A n c' Q m d t → DTurn b c (LX g A Q) g u) : DTurn a c Y g u := by
  obtain ⟨A, n, c', Q, m, d, h1, h2, h3⟩ := h
  obtain ⟨A2, n2, c2, Q2, m2, d2, k1, k2, k3⟩ := k A n c' Q m d h1
  refine ⟨A2, n2, c2, Q2, m2, d2, k1, h2.trans' k2 fun i hi hx => ?_, fun i hi => ?_⟩
  · rcases h3 i hx with h | h
    · exact h
    · omega
  · rcases k3 i hi with h | h
    · exact h3 i h
    · exact .inr (Nat.le_trans h2.size h)
theorem DTurn.same {w w' : World} {Y : Nat → Prop} {g n c m d : Nat} {A Q : Option Addr} {t : Lat} (h : DB w g A n c Q m d t) (f : Fr w w') (hy : ∀ k, LX g A Q k → Y k) : DTurn w w' Y g t :=
  ⟨A, n, c, Q, m, d, h.fr f, .of_fr _ f, fun k hk => .inl (hy k hk)⟩
section
variable {w V U w3 W : World} {g n c m d n' c' : Nat} {A Q A' : Option Addr} {t : Lat}
/-- The readers laid anew, and the field that tells where. -/
theorem dturn_rs {rs : List Int} (hP : DB V g A n c Q m d t) (hF : Fr w V) (hU : Fr V U) (hr : Rw w3 3 1 A' n' c' (rows ic rs)) (hp : Put U w3 A A') (ha : Arr W g 45 #[.slice A' n' c', .int .i64 t.wr, .slice Q m d, .int .i64 t.pn]) (k2 : Chg (· = g) w3 W) : DTurn w W (LX g A Q) g { t with rs := rs } := by
  have hPU := hP.fr hU
  have hwU := fr_step hF hU
  refine ⟨A', n', c', Q, m, d, hPU.rows_rs hr hp.chg ha k2 fun hk => ?_, ?_, fun k hk => ?_⟩
  · rcases hp.blk g hk with h | h
    · exact hPU.ng.1 h
    · have := hPU.box.lt; omega
  · exact ((Chg.of_fr _ hwU).trans' hp.chg fun i _ hi => .inr (.inl hi)).trans' k2 fun i _ hi => .inl hi
  · rcases hk with hk | hk | hk
    · exact .inl (.inl hk)
    · rcases hp.blk k hk with h | h
      · exact .inl (.inr (.inl h))
      · exact .inr (Nat.le_trans hwU.size h)
    · exact .inl (.inr (.inr hk))
/-- The queue laid anew, and the field that tells where. -/
theorem dturn_q {q : List Wt} (hP : DB V g A n c Q m d t) (hF : Fr w V) (hU : Fr V U) (hr : Rw w3 51 2 A' n' c' (rows wc q)) (hp : Put U w3 Q A') (ha : Arr W g 45 #[.slice A n c, .int .i64 t.wr, .slice A' n' c', .int .i64 t.pn]) (k2 : Chg (· = g) w3 W) : DTurn w W (LX g A Q) g { t with q := q } := by
  have hPU := hP.fr hU
  have hwU := fr_step hF hU
  refine ⟨A, n, c, A', n', c', hPU.rows_q hr hp.chg ha k2 fun hk => ?_, ?_, fun k hk => ?_⟩
  · rcases hp.blk g hk with h | h
    · exact hPU.ng.2 h
    · have := hPU.box.lt; omega
  · exact ((Chg.of_fr _ hwU).trans' hp.chg fun i _ hi => .inr (.inr hi)).trans' k2 fun i _ hi => .inl hi
  · rcases hk with hk | hk | hk
    · exact .inl (.inl hk)
    · exact .inl (.inr (.inl hk))
    · rcases hp.blk k hk with h | h
      · exact .inl (.inr (.inr h))
      · exact .inr (Nat.le_trans hwU.size h)
end
theorem DTurn.on {w W V : World} {Y : Nat → Prop} {g : Nat} {t : Lat} (c : Chg Y w W) (h : DTurn W V Y g t) : DTurn w V Y g t := by
  obtain ⟨A, n, c', Q, m, d, h1, h2, h3⟩ := h
  exact ⟨A, n, c', Q, m, d, h1, c.trans h2, fun k hk => (h3 k hk).imp id fun h => Nat.le_trans c.size h⟩
theorem DTurn.next {w w1 W : World} {Y : Nat → Prop} {g : Nat} {A1 Q1 : Option Addr} {u : Lat} (c : Chg Y w w1) (o : ∀ k, LX g A1 Q1 k → Y k ∨ w.heap.size ≤ k) (h : DTurn w1 W (LX g A1 Q1) g u) : DTurn w W Y g u := by
  obtain ⟨A, n, c', Q, m, d, h1, h2, h3⟩ := h
  refine ⟨A, n, c', Q, m, d, h1, c.trans' h2 fun i hi hx => ?_, fun k hk => ?_⟩
  · rcases o i hx with h | h
    · exact h
    · omega
  · rcases h3 k hk with h | h
    · exact o k h
    · exact .inr (Nat.le_trans c.size h)
section
variable {w V U w3 W : World} {g n c m d n' c' : Nat} {A Q : Option Addr} {t : Lat}
/-- The readers laid anew where they lay. -/
theorem DB.re_rs {rs : List Int} (h : DB U g A n c Q m d t) (hr : Rw w3 3 1 A n' c (rows ic rs)) (hp : Put U w3 A A) (ha : Arr W g 45 #[.slice A n' c, .int .i64 t.wr, .slice Q m d, .int .i64 t.pn]) (k2 : Chg (· = g) w3 W) : DB W g A n' c Q m d { t with rs := rs } ∧ Chg (LX g A Q) U W :=
  ⟨h.rows_rs hr hp.chg ha k2 h.ng.1, (hp.chg.weak fun i _ hi => .inr (.inl hi)).trans' k2 fun i _ hi => .inl hi⟩
theorem DB.re_q {q : List Wt} (h : DB U g A n c Q m d t) (hr : Rw w3 51 2 Q n' d (rows wc q)) (hp : Put U w3 Q Q) (ha : Arr W g 45 #[.slice A n c, .int .i64 t.wr, .slice Q n' d, .int .i64 t.pn]) (k2 : Chg (· = g) w3 W) : DB W g A n c Q n' d { t with q := q } ∧ Chg (LX g A Q) U W :=
  ⟨h.rows_q hr hp.chg ha k2 h.ng.2, (hp.chg.weak fun i _ hi => .inr (.inr hi)).trans' k2 fun i _ hi => .inl hi⟩
end
section
variable {w : World} {g n c m d K : Nat} {A Q : Option Addr} {t : Lat}
/-- Its own fields laid anew, told as a turn. -/
theorem dturn_put {W : World} {p z : Int} (h : DB w g A n c Q m d t) (ha : Arr W g 45 #[.slice A n c, .int .i64 z, .slice Q m d, .int .i64 p]) (k : Chg (· = g) w W) : DTurn w W (LX g A Q) g { t with pn := p, wr := z } :=
  ⟨A, n, c, Q, m, d, h.put ha k, k.weak fun i _ e => .inl e, fun k hk => .inl hk⟩
end
set_option maxHeartbeats 1000000 in
theorem rnew_at (w : World) : Calls Try.prog 11 #[] w fun e w' => e = .returned (.pointer (some ⟨w.heap.size, 0, none⟩)) ∧ Hid (DB w' w.heap.size none 0 0 none 0 0 newT ∧ Fr w w') := by
  go_enter Try.func11, Try.ntmps11
  go_wp2_with fail
  go_ret
  exact ⟨rfl, keep ⟨⟨Arr.new w _ _, Rw.nil _ _ _, Rw.nil _ _ _⟩, fr_new (fr_refl w) _⟩⟩
set_option maxHeartbeats 2000000 in
theorem rhas_at {w : World} {g n c m d : Nat} {A Q : Option Addr} {t : Lat} {x : Int} (h : DB w g A n c Q m d t) (hl : t.rs.length ≤ 100000) :
    Calls Try.prog 34 #[.pointer (some ⟨g, 0, none⟩), .int .i64 x] w fun e w' => e = .returned (.bool (t.rs.contains x || decide (t.wr = x))) ∧ w = w' := by
  obtain ⟨k0, k1, k2, -⟩ := h.cells
  have hn := h.nlen.1
  have Hn := keep hn
  have HR := keep h.rs
  clear h
  obtain ⟨q, hq⟩ : ∃ q, (t.rs.contains x || decide (t.wr = x)) = q := ⟨_, rfl⟩
  rw [hq]
  have Hq := keep hq
  clear hq
  go_enter Try.func34, Try.ntmps34
  go_wp2_with fail
  go_loopg [5] n (fun gg s5 wr => ∃ j : Nat, j + gg = n ∧ s5 = .int .i64 j ∧ w = wr ∧ Hid (∀ i z, i < j → t.rs[i]? = some z → z ≠ x))
  case atStart => exact ⟨0, by omega, rfl, rfl, keep (fun i z h => by omega)⟩
  case round =>
    obtain ⟨j, hj, rfl, rfl, hno⟩ := hrel
    by_cases hlt : j < n
    · have hm : t.rs[j]? = some (t.rs[j]'(by rw [Hn.out]; exact hlt)) := List.getElem?_eq_getElem _
      generalize t.rs[j]'(by rw [Hn.out]; exact hlt) = m' at hm
      obtain ⟨b, off, rfl, hb1, hr⟩ := has_rows HR.out.has (ic_wid _) (by decide) (by intro e; rw [e] at hm; simp at hm)
      have lX := elem_cell0 hr (ic_wid _) (by omega) hm (u := .int .i64 m') rfl w (fr_refl w)
      rw [Nat.mul_one] at lX
      have Hm := keep hm
      have hjz : (j : Int) < (n : Int) := by omega
      clear hm hr hlt
      by_cases hz : m' = x
      · subst hz
        go_wp2_with fail
        go_ret
        refine ⟨?_, rfl⟩
        rw [← Hq.out, show t.rs.contains m' = true by simpa using List.mem_of_getElem? Hm.out]
        rfl
      · have hz2 : (m' == x) = false := by simpa using hz
        have Hz := keep hz
        clear hz
        go_wp2_with fail
        go_roundg (gk - 1)
        case measure => omega
        case rel => exact ⟨j + 1, by omega, rfl, rfl, keep (fun i z ht hx => by
          by_cases e : i = j
          · subst e
            rw [Hm.out] at hx
            injection hx with hx
            rw [← hx]; exact Hz.out
          · exact hno.out i z (by omega) hx)⟩
    · have hjn : j = n := by omega
      have hjz : ¬ (j : Int) < (n : Int) := by omega
      have hm : ¬ x ∈ t.rs := by
        intro hm
        obtain ⟨i, ht, e⟩ := List.mem_iff_getElem.1 hm
        exact hno.out i x (by rw [hjn, ← Hn.out]; exact ht) (by rw [List.getElem?_eq_getElem ht, e]) rfl
      have hq := Hq.out
      rw [show t.rs.contains x = false by simpa using hm, Bool.false_or] at hq
      have Hq2 := keep hq
      clear hlt hm hq
      by_cases hw : t.wr = x
      · have hw2 : (t.wr == x) = true := by simpa using hw
        go_wp2_with fail
        go_ret
        exact ⟨by rw [← Hq2.out, decide_eq_true hw]; rfl, rfl⟩
      · have hw2 : (t.wr == x) = false := by simpa using hw
        go_wp2_with fail
        go_ret
        exact ⟨by rw [← Hq2.out, decide_eq_false hw]; rfl, rfl⟩
set_option maxHeartbeats 2000000 in
theorem rqueued_at {w : World} {g n c m d : Nat} {A Q : Option Addr} {t : Lat} {x : Int} (h : DB w g A n c Q m d t) (hl : t.q.length ≤ 100000) :
    Calls Try.prog 35 #[.pointer (some ⟨g, 0, none⟩), .int .i64 x] w fun e w' => e = .returned (.bool (t.q.any fun y => decide (y.1 = x))) ∧ w = w' := by
  obtain ⟨k0, k1, k2, -⟩ := h.cells
  have hn := h.nlen.2
  have Hn := keep hn
  have HR := keep h.q
  clear h
  obtain ⟨q, hq⟩ : ∃ q, (t.q.any fun y => decide (y.1 = x)) = q := ⟨_, rfl⟩
  rw [hq]
  have Hq := keep hq
  clear hq
  go_enter Try.func35, Try.ntmps35
  go_wp2_with fail
  go_loopg [5] m (fun gg s5 wr => ∃ j : Nat, j + gg = m ∧ s5 = .int .i64 j ∧ w = wr ∧ Hid (∀ i z, i < j → t.q[i]? = some z → z.1 ≠ x))
  case atStart => exact ⟨0, by omega, rfl, rfl, keep (fun i z h => by omega)⟩
  case round =>
    obtain ⟨j, hj, rfl, rfl, hno⟩ := hrel
    by_cases hlt : j < m
    · have hm : t.q[j]? = some (t.q[j]'(by rw [Hn.out]; exact hlt)) := List.getElem?_eq_getElem _
      generalize t.q[j]'(by rw [Hn.out]; exact hlt) = m' at hm
      obtain ⟨b, off, rfl, hb1, hr⟩ := has_rows HR.out.has (wc_wid _) (by decide) (by intro e; rw [e] at hm; simp at hm)
      have lX := elem_cell0 hr (wc_wid _) (by omega) hm (u := .int .i64 m'.1) rfl w (fr_refl w)
      have Hm := keep hm
      have hjz : (j : Int) < (m : Int) := by omega
      clear hm hr hlt
      by_cases hz : m'.1 = x
      · have hz2 : (m'.1 == x) = true := by simpa using hz
        go_wp2_with fail
        go_ret
        refine ⟨?_, rfl⟩
        rw [← Hq.out, List.any_eq_true.2 ⟨m', List.mem_of_getElem? Hm.out, decide_eq_true hz⟩]
        rfl
      · have hz2 : (m'.1 == x) = false := by simpa using hz
        have Hz := keep hz
        clear hz
        go_wp2_with fail
        go_roundg (gk - 1)
        case measure => omega
        case rel => exact ⟨j + 1, by omega, rfl, rfl, keep (fun i z ht hx => by
          by_cases e : i = j
          · subst e
            rw [Hm.out] at hx
            injection hx with hx
            rw [← hx]; exact Hz.out
          · exact hno.out i z (by omega) hx)⟩
    · have hjn : j = m := by omega
      have hjz : ¬ (j : Int) < (m : Int) := by omega
      have hq : q = false := by
        rw [← Hq.out, List.any_eq_false]
        intro y hy
        obtain ⟨i, ht, e⟩ := List.mem_iff_getElem.1 hy
        simpa using hno.out i y (by rw [hjn, ← Hn.out]; exact ht) (by rw [List.getElem?_eq_getElem ht, e])
      have Hq2 := keep hq
      clear hlt hq
      go_wp2_with fail
      go_ret
      exact ⟨by rw [Hq2.out]; rfl, rfl⟩
set_option maxHeartbeats 1000000 in
theorem rcan_at {w : World} {g n c m d : Nat} {A Q : Option Addr} {t : Lat} (b : Bool) (h : DB w g A n c Q m d t) (hwr : -1 ≤ t.wr) :
    Calls Try.prog 38 #[.pointer (some ⟨g, 0, none⟩), .bool b] w fun e w' => e = .returned (.bool (canT t b)) ∧ w = w' := by
  obtain ⟨l1, l2⟩ := h.nlen
  obtain ⟨k1, k2, k3, -⟩ := h.cells
  have hT : canT t b = (decide (t.wr = -1) && !(b && decide (0 < n))) := by rw [canT, l1]
  rw [hT]
  clear hT l1 l2 h
  generalize t.wr = wr at *
  by_cases hw : wr = -1
  · subst hw
    cases b
    · go_enter Try.func38, Try.ntmps38
      go_wp2_with fail
      go_ret
      exact ⟨by simp, rfl⟩
    · by_cases hn : n = 0
      · subst hn
        go_enter Try.func38, Try.ntmps38
        go_wp2_with fail
        go_ret
        exact ⟨by simp, rfl⟩
      · have hnz : ((n : Int) == 0) = false := by simpa using hn
        have hn0 : 0 < n := by omega
        go_enter Try.func38, Try.ntmps38
        go_wp2_with fail
        go_ret
        exact ⟨by simp [hn0, hn], rfl⟩
  · have hw2 : ¬ wr < 0 := by omega
    go_enter Try.func38, Try.ntmps38
    go_wp2_with fail
    go_ret
    exact ⟨by simp [hw], rfl⟩
end Go.Proofs.Ytbnphkiipjgfaaa
