/- What the functions of layer 3 come to, ten: 'Order', of the program. -/
import Derived.Test.YtignnjflodkihaaKeyJ0
namespace Go.Proofs.Ytignnjflodkihaa
open Go.RowKit Go.Maps
set_option linter.unusedVariables false
/-- 'os' are the right ones of ks, each once, rising. -/
def IsOrd (ks os : List RK) : Prop := os.Pairwise (fun a b => code a < code b) ∧ ∀ k, k ∈ os ↔ k ∈ ks ∧ okB k = true
theorem isOrd_one {ks ls os ps : List RK} (h : IsOrd ks os) (h2 : IsOrd ls ps) (he : ∀ k, k ∈ ks ↔ k ∈ ls) : os = ps := by
  have hm : ∀ k, k ∈ os ↔ k ∈ ps := fun k => by rw [h.2, h2.2, he]
  obtain ⟨p1, g1⟩ := h
  obtain ⟨p2, g2⟩ := h2
  clear he g1 g2
  induction os generalizing ps with
  | nil =>
    cases ps with
    | nil => rfl
    | cons y ps => exact absurd ((hm y).2 (by simp)) (by simp)
  | cons x os ih =>
    cases ps with
    | nil => exact absurd ((hm x).1 (by simp)) (by simp)
    | cons y ps =>
      obtain ⟨a1, a2⟩ := List.pairwise_cons.1 p1
      obtain ⟨b1, b2⟩ := List.pairwise_cons.1 p2
      have e : x = y := by
        rcases List.mem_cons.1 ((hm x).1 (by simp)) with e | e
        · exact e
        · rcases List.mem_cons.1 ((hm y).2 (by simp)) with e2 | e2
          · exact e2.symm
          · have := a1 y e2; have := b1 x e; omega
      subst e
      have : os = ps := ih (fun k => by
        have := hm k
        simp only [List.mem_cons] at this
        constructor
        · intro hk
          rcases this.1 (.inr hk) with e | e
          · subst e; have := a1 k hk; omega
          · exact e
        · intro hk
          rcases this.2 (.inr hk) with e | e
          · subst e; have := b1 k hk; omega
          · exact e) a2 b2
      rw [this]
/-- What has been taken so far. -/
def Part (ks : List RK) (left : Lit → Bool) (os : List VK) : Prop := os.Nodup ∧ ∀ k : VK, k ∈ os ↔ k.1 ∈ ks ∧ left (klit k.1) = false
theorem part_ord {ks : List RK} {left : Lit → Bool} {os : List VK} (hw : WfAll ks) (h : Part ks left os) (hl : ∀ kl, left kl = false) : IsOrd ks (vals (sortV os)) := by
  have hp : (sortV os).Perm os := List.mergeSort_perm os _
  have hs : (sortV os).Pairwise (fun x y => (!(Go.Proofs.ltOf cfV) y x) = true) := List.pairwise_mergeSort (fun a b c h1 h2 => by rw [lt_V] at *; simp at *; omega) (fun a b => by rw [lt_V, lt_V]; simp; omega) os
  have hn : (sortV os).Nodup := hp.nodup_iff.2 h.1
  have hs2 : (sortV os).Pairwise (fun x y => code x.1 < code y.1) := (hs.and hn).imp fun {x y} hxy => by
    obtain ⟨h1, h2⟩ := hxy
    rw [lt_V] at h1
    simp at h1
    rcases Int.lt_or_eq_of_le h1 with h3 | h3
    · exact h3
    · exact absurd (code_injV h3) h2
  refine ⟨List.pairwise_map.2 hs2, fun k => ?_⟩
  unfold vals
  rw [List.mem_map]
  constructor
  · rintro ⟨x, hx, rfl⟩
    exact ⟨((h.2 x).1 (hp.mem_iff.1 hx)).1, x.2.2⟩
  · rintro ⟨hk, ok⟩
    exact ⟨⟨k, hw k hk, ok⟩, hp.mem_iff.2 ((h.2 _).2 ⟨hk, hl _⟩), rfl⟩
theorem left_gone {left : Lit → Bool} {k k2 : RK} (h1 : k.wf) (h2 : k2.wf) : (left (klit k2) && !(klit k2).sameKey (klit k)) = false ↔ left (klit k2) = false ∨ k2 = k := by
  rw [Bool.and_eq_false_iff, Bool.not_eq_false']
  constructor
  · rintro (h | h)
    · exact .inl h
    · exact .inr (klit_inj h2 h1 (WideAt.sameKey_eq h))
  · rintro (h | rfl)
    · exact .inl h
    · exact .inr (WideAt.sameKey_self (klit_is _))
theorem part_take {ks : List RK} {left : Lit → Bool} {os : List VK} (h : Part ks left os) (k : RK) (wk : k.wf) (ok : okB k = true) (hk : k ∈ ks) (hl : left (klit k) = true) : Part ks (fun z => left z && !z.sameKey (klit k)) (os ++ [⟨k, wk, ok⟩]) := by
  refine ⟨List.nodup_append.2 ⟨h.1, by simp, fun a ha b hb e => ?_⟩, fun x => ?_⟩
  · simp at hb
    subst e hb
    have := ((h.2 _).1 ha).2
    simp [hl] at this
  · rw [List.mem_append, h.2 x, left_gone wk x.2.1]
    simp only [List.mem_singleton]
    constructor
    · rintro (⟨a, b⟩ | rfl)
      · exact ⟨a, .inl b⟩
      · exact ⟨hk, .inr rfl⟩
    · rintro ⟨a, b | b⟩
      · exact .inl ⟨a, b⟩
      · exact .inr (Subtype.ext b)
theorem part_skip {ks : List RK} {left : Lit → Bool} {os : List VK} (h : Part ks left os) (k : RK) (wk : k.wf) (ok : okB k = false) : Part ks (fun z => left z && !z.sameKey (klit k)) os := by
  refine ⟨h.1, fun x => ?_⟩
  rw [h.2 x, left_gone wk x.2.1]
  constructor
  · rintro ⟨a, b⟩; exact ⟨a, .inl b⟩
  · rintro ⟨a, b | b⟩
    · exact ⟨a, b⟩
    · have := x.2.2; rw [b, ok] at this; cases this
theorem part_start {ks : List RK} (hw : WfAll ks) : Part ks (has (setD ks)) [] := by
  refine ⟨by simp, fun k => ?_⟩
  rw [has_set hw k.2.1]
  simp
theorem part_len {ks : List RK} {left : Lit → Bool} {os : List VK} (h : Part ks left os) : os.length ≤ ks.length := by
  have h1 : (vals os).Nodup := List.pairwise_map.2 (h.1.imp fun {a b} hne e => hne (Subtype.ext e))
  have h2 : (vals os) ⊆ ks := fun k hk => by
    obtain ⟨x, hx, rfl⟩ := List.mem_map.1 hk
    exact ((h.2 x).1 hx).1
  have := h1.length_le_of_subset h2
  simpa [vals] using this
theorem own_ne {w : World} {B size n c g e : Nat} {A : Option Addr} {xs : List Value} {o : Obj} (h : Own w B e size A n c xs) (hg : w.heap[g]? = some o) (ho : ∀ cs t fr, o ≠ .cells cs t fr) : blk A ≠ some g := by
  rcases h.2 with ⟨hv, _⟩ | ⟨g', cap, cur, hv, hb, hh, _⟩
  · injection hv with hv; subst hv; simp [blk]
  · injection hv with hv
    subst hv
    intro e
    simp [blk] at e
    subst e
    rw [hh] at hg
    injection hg with hg
    exact ho _ _ _ hg.symm
theorem ranges_map {w : World} {b r n : Nat} {D : DataW Unit} {left : Lit → Bool} {cnt : Nat} (h : w.ranges Try.prog 30 unitElem b r n D left cnt) : (∃ o, w.heap[b]? = some o ∧ ∀ cs t fr, o ≠ .cells cs t fr) ∧ (∃ o, w.heap[r]? = some o ∧ ∀ cs t fr, o ≠ .cells cs t fr) := by
  obtain ⟨es, clock, since, seen, c0, hb, _, _, _, hr, _⟩ := h
  exact ⟨⟨_, hb, by intros; simp⟩, ⟨_, hr, by intros; simp⟩⟩
theorem info_key : (Try.prog.info? 30).map (fun i => (i.zero, i.size, i.bytes)) = some (some (kv zeroK), 9, 16) := by kernel_rfl
theorem ranges_below {w w' : World} {b r n C : Nat} {D : DataW Unit} {left : Lit → Bool} {cnt : Nat} (h : w.ranges Try.prog 30 unitElem b r n D left cnt) (hb : Below C w w') (hC : w.heap.size ≤ C) : w'.ranges Try.prog 30 unitElem b r n D left cnt :=
  h.kept (row := none) ⟨hb.os, hb.tape, hb.output, hb.size, fun k hk _ => hb.block k (by omega)⟩ (by simp) (by simp)
theorem has_key_new (w : World) (k : RK) (t : TypeId) : Has (w.alloc (.cells (kc k).toArray t)) (w.heap.size + 1) (some ⟨w.heap.size, 0, none⟩) (kc k) := by
  intro j u hu
  exact ⟨_, _, rfl, by omega, by rw [Nat.zero_add]; exact ((Arr.new w (kc k).toArray t).cell j).trans (by simpa using hu)⟩
/-- What 'Order' hands back. -/
def OrdOut (w : World) (ks : List RK) (e : Ending) (w' : World) : Prop := ∃ A c os, e = .returned (.slice A os.length c) ∧ IsOrd ks os ∧ Has w' w'.heap.size A (flat os) ∧ Fr w w'
set_option maxRecDepth 100000 in
set_option maxHeartbeats 4000000 in
theorem key_order (A : Option Addr) (n c : Nat) (ks : List RK) (w : World) (hl : ks.length = n) (hn : n ≤ 1000000) (hw : WfAll ks) (hr : Has w w.heap.size A (flat ks)) :
    Calls Try.prog 29 #[.slice A n c] w (OrdOut w ks) := by
  have hs := key_set A n c ks w hl hn hw hr
  have hlen := kinds_le ks
  have Hz := keep (size_set hw)
  have Hl := keep hl
  clear hl
  go_enter Try.func29, Try.ntmps29
  go_wp2_with (first
    | (go_at_call 30; refine hs.mono ?_; rintro e w' ⟨b, m, rfl, hb, hm, hown, hF⟩)
    | (at_range; refine wpList_range_own _ rfl _ 64 rfl 30 74 key_keyed Try.underlying64 unitElem b m _ rfl hown ?_; intro w0 hrg0 hg0 hs0)
    | fail)
  go_frame
  have hF0 : Fr w w0 := hF.trans ⟨hg0.os, hg0.tape, hg0.output, hg0.size, fun k hk => hg0.block k (Nat.lt_of_lt_of_le hk hF.size) (by simp)⟩
  obtain ⟨r, hr'⟩ : ∃ r, r = w'.heap.size := ⟨_, rfl⟩
  have hrb : w.heap.size ≤ r := by rw [hr']; exact hF.size
  rw [← hr'] at hrg0 ⊢
  clear hr' hs0 hg0 hown
  have hps := part_start hw
  go_loopg [3] (Maps.size (setD ks)) (fun g v wr => ∃ (left : Lit → Bool) (D : Option Addr) (d : Nat) (os : List VK), wr.ranges Try.prog 30 unitElem b r m (setD ks) left g ∧ v = .slice D os.length d ∧ Own wr w.heap.size 30 9 D os.length d (flat (vals os)) ∧ Part ks left os ∧ Fr w wr)
  case atStart => exact ⟨_, none, 0, [], hrg0, rfl, Own.nil _ _ _ _, hps, hF0⟩
  case round =>
    clear hrg0 hF0 hps
    obtain ⟨left, D, d, os, hrg, rfl, hown, hp, hF⟩ := hrel
    go_wp2_with (first
      | (at_next; refine wpList_next_ranges _ rfl (.tmp 7) rfl 30 key_keyed unitElem (fun v => v) (fun _ : Unit => .agg #[]) (fun key kl h => ⟨key, rfl⟩) (fun v y hv => ⟨(), (unitElem_inv hv).1⟩) b r m _ left gk rfl hrg ?_ ?_)
      | fail)
    · intro hc0 hl0
      have hord := keep (part_ord hw hp hl0)
      clear hc0 hl0
      by_cases h0 : os.length = 0
      · obtain rfl : os = [] := List.eq_nil_of_length_eq_zero h0
        clear h0
        go_wp2_with (first
          | (go_at_call 39; refine (key_sort_none _ _ _ _).mono ?_; rintro e w2 ⟨rfl, hw2⟩; have hw2 := hw2.symm; subst hw2)
          | fail)
        go_ret
        exact ⟨D, d, [], rfl, by have h := hord.out; simpa [sortV, vals] using h, by intro j u hu; simp [flat] at hu, hF⟩
      · obtain ⟨g, rfl⟩ : ∃ g, D = some ⟨g, 0, none⟩ := by
          rcases hown.2 with ⟨_, h⟩ | ⟨g, cap, cur, hv, _⟩
          · exact absurd h h0
          · injection hv with hv; exact ⟨g, hv⟩
        have hso := key_sort wr w.heap.size g os.length d os rfl (by have := part_len hp; have := Hl.out; omega) hown
        have hsl := keep (show (vals (sortV os)).length = os.length from by unfold vals; rw [List.length_map, sort_len])
        clear h0
        go_wp2_with (first
          | (go_at_call 39; refine hso.mono ?_; rintro e w2 ⟨rfl, hh2, hb2⟩)
          | fail)
        go_ret
        exact ⟨some ⟨g, 0, none⟩, d, vals (sortV os), by rw [hsl.out]; rfl, hord.out, hh2, hF.trans hb2⟩
    · intro x kl y1 y2 w1 cnt1 hkey hlk hv hat hrg1 hlt hg1 hs1 hen
      obtain ⟨k, hk, rfl⟩ := has_set_inv (has_true_of_atKey hat)
      have wk := hw k hk
      obtain rfl : x = kv k := key_keyed.inj hkey (key_of k wk)
      have hF1 : Fr w w1 := hF.grown hg1 hF.size (fun q hq => by cases hq; exact hrb)
      obtain ⟨⟨o1, ho1, hn1⟩, ⟨o2, ho2, hn2⟩⟩ := ranges_map hrg
      have hown1 := hown.kept hg1 (.inr (own_ne hown ho2 hn2))
      have Hk := keep hk
      have Hlk := keep hlk
      have hpl := part_len hp
      have hol : os.length ≤ 1000000 := by have := Hl.out; omega
      have Hp := keep hp
      clear hat hv hkey hg1 hs1 hown hrg hF ho1 hn1 ho2 hn2 hk hlk hp
      by_cases ok : okB k = true
      · obtain ⟨i0, hi0, hz0, hz1, hz2⟩ := info_parts info_key
        have Hq := keep (part_take Hp.out k wk ok Hk.out Hlk.out)
        have Hf : Hid (flat (vals (os ++ [⟨k, wk, ok⟩])) = flat (vals os) ++ kc k) := keep (by unfold vals; rw [List.map_append, flat_append]; simp [flat])
        have HL : Hid ((os ++ [(⟨k, wk, ok⟩ : VK)]).length = os.length + 1) := keep (by simp)
        go_wp2_with (first
          | (go_at_call 28; refine (key_check k wk _).mono ?_; rw [ok]; rintro e w2 ⟨rfl, hb2⟩
             have hown3 := (hown1.alloc (.cells (kc k).toArray 30)).below hb2 (Nat.le_refl _)
             have hrg3 := ranges_below (hrg1.alloc (.cells (kc k).toArray 30)) hb2 (Nat.le_refl _)
             have hF3 := fr_step (fr_new hF1 (.cells (kc k).toArray 30)) hb2
             have hA3 := (Arr.new w1 (kc k).toArray 30).below hb2 (by simp)
             clear hb2)
          | (refine wpList_load_row rfl 30 (.tmp 4) rfl w1.heap.size rfl 30 (kc k).toArray (0, 0) _ hA3 Try.underlying30 rfl key_info ?_)
          | (at_builtin; refine wpList_append_has _ rfl (.tmp 14) (.tmp 16) 27 rfl w.heap.size 30 i0 _ 9 16 Try.underlying27 hi0 hz0 hz1 hz2 rfl (by omega) D os.length d (flat (vals os)) rfl (hown3.alloc _) _ _ 1 1 (kc k) rfl rfl (has_key_new _ _ _) (kc_one k) (by unfold maxLen; omega) (by omega) (by have := hF3.size; simp; omega) ?_; intro D2 d2 w4 hown4 hgr4 hb4)
          | fail)
        obtain ⟨⟨o1, ho1, hn1⟩, ⟨o2, ho2, hn2⟩⟩ := ranges_map (hrg3.alloc (.cells (kc k).toArray 30))
        have hne1 := own_ne (hown3.alloc _) ho1 hn1
        have hne2 := own_ne (hown3.alloc _) ho2 hn2

        go_roundg cnt1
        case measure => exact hlt
        case rel => exact ⟨_, D2, d2, os ++ [⟨k, wk, ok⟩], (hrg3.alloc _).kept hgr4 (Ne.symm hne1) (Ne.symm hne2), by rw [HL.out], by rw [HL.out, Hf.out]; exact hown4, Hq.out, below_grown (fr_new hF3 _) (hown3.alloc _) hgr4 (by have := hF3.size; simp; omega) (Nat.le_refl _)⟩
      · have ok' : okB k = false := by simpa using ok
        have Hq := keep (part_skip Hp.out k wk ok')
        clear ok
        go_wp2_with (first
          | (go_at_call 28; refine (key_check k wk _).mono ?_; rw [ok']; rintro e w2 ⟨rfl, hb2⟩
             have hown3 := (hown1.alloc (.cells (kc k).toArray 30)).below hb2 (Nat.le_refl _)
             have hrg3 := ranges_below (hrg1.alloc (.cells (kc k).toArray 30)) hb2 (Nat.le_refl _)
             have hF3 := fr_step (fr_new hF1 (.cells (kc k).toArray 30)) hb2
             clear hb2)
          | fail)
        go_roundg cnt1
        case measure => exact hlt
        case rel => exact ⟨_, D, d, os, hrg3, rfl, hown3, Hq.out, hF3⟩
end Go.Proofs.Ytignnjflodkihaa
