/- The document's table: New, set, Block, Wake, End, Picks, Wait. -/
import Derived.Test.YtmfnekobepdhkaaScC
namespace Go.Proofs.Ytmfnekobepdhkaa
set_option linter.unusedVariables false
set_option linter.unusedSimpArgs false
set_option maxRecDepth 100000
open Go.RowKit
/-- The document's table in memory: its box r, the blocks of its states, waits, picks. -/
structure DB (w : World) (r gs gw gp n : Nat) (st wa pk : List Int) (mo : Int) : Prop where
  box : Arr w r 42 #[.slice (some ⟨gs, 0, none⟩) n n, .slice (some ⟨gw, 0, none⟩) n n, .slice (some ⟨gp, 0, none⟩) n n, .int .i64 mo]
  st : Arr w gs 3 (ints st).toArray
  wa : Arr w gw 3 (ints wa).toArray
  pk : Arr w gp 3 (ints pk).toArray
  ne : r ≠ gs ∧ r ≠ gw ∧ r ≠ gp ∧ gs ≠ gw ∧ gs ≠ gp ∧ gw ≠ gp
def DX (r gs gw gp : Nat) (i : Nat) : Prop := i = r ∨ i = gs ∨ i = gw ∨ i = gp
section
variable {w W : World} {r gs gw gp n : Nat} {st wa pk : List Int} {mo : Int} {X : Nat → Prop}
theorem DB.chg (h : DB w r gs gw gp n st wa pk mo) (k : Chg X w W) (hx : ∀ i, DX r gs gw gp i → ¬ X i) : DB W r gs gw gp n st wa pk mo :=
  ⟨h.box.chg k (hx _ (.inl rfl)), h.st.chg k (hx _ (.inr (.inl rfl))), h.wa.chg k (hx _ (.inr (.inr (.inl rfl)))), h.pk.chg k (hx _ (.inr (.inr (.inr rfl)))), h.ne⟩
theorem DB.fr (h : DB w r gs gw gp n st wa pk mo) (k : Fr w W) : DB W r gs gw gp n st wa pk mo := h.chg (.of_fr (fun _ => False) k) fun _ _ => id
theorem DB.st_put (h : DB w r gs gw gp n st wa pk mo) {l : List Int} (ha : Arr W gs 3 (ints l).toArray) (k : Chg (· = gs) w W) : DB W r gs gw gp n l wa pk mo := by
  obtain ⟨n1, n2, n3, n4, n5, n6⟩ := h.ne
  exact ⟨h.box.chg k (by omega), ha, h.wa.chg k (by omega), h.pk.chg k (by omega), h.ne⟩
theorem DB.wa_put (h : DB w r gs gw gp n st wa pk mo) {l : List Int} (ha : Arr W gw 3 (ints l).toArray) (k : Chg (· = gw) w W) : DB W r gs gw gp n st l pk mo := by
  obtain ⟨n1, n2, n3, n4, n5, n6⟩ := h.ne
  exact ⟨h.box.chg k (by omega), h.st.chg k (by omega), ha, h.pk.chg k (by omega), h.ne⟩
theorem DB.pk_put (h : DB w r gs gw gp n st wa pk mo) {l : List Int} (ha : Arr W gp 3 (ints l).toArray) (k : Chg (· = gp) w W) : DB W r gs gw gp n st wa l mo := by
  obtain ⟨n1, n2, n3, n4, n5, n6⟩ := h.ne
  exact ⟨h.box.chg k (by omega), h.st.chg k (by omega), h.wa.chg k (by omega), ha, h.ne⟩
theorem DB.mo_put (h : DB w r gs gw gp n st wa pk mo) {m : Int} (ha : Arr W r 42 #[.slice (some ⟨gs, 0, none⟩) n n, .slice (some ⟨gw, 0, none⟩) n n, .slice (some ⟨gp, 0, none⟩) n n, .int .i64 m]) (k : Chg (· = r) w W) : DB W r gs gw gp n st wa pk m := by
  obtain ⟨n1, n2, n3, n4, n5, n6⟩ := h.ne
  exact ⟨ha, h.st.chg k (by omega), h.wa.chg k (by omega), h.pk.chg k (by omega), h.ne⟩
theorem DB.cells (h : DB w r gs gw gp n st wa pk mo) : w.cell? ⟨r, 0, none⟩ = some (.slice (some ⟨gs, 0, none⟩) n n) ∧ w.cell? ⟨r, 1, none⟩ = some (.slice (some ⟨gw, 0, none⟩) n n) ∧ w.cell? ⟨r, 2, none⟩ = some (.slice (some ⟨gp, 0, none⟩) n n) ∧ w.cell? ⟨r, 3, none⟩ = some (.int .i64 mo) := by
  have c1 := h.box.cell 0
  have c2 := h.box.cell 1
  have c3 := h.box.cell 2
  have c4 := h.box.cell 3
  exact ⟨by simpa using c1, by simpa using c2, by simpa using c3, by simpa using c4⟩
end
/-- .. of the state t, all of it in blocks of which ok holds. -/
structure DT (w : World) (ok : Nat → Prop) (r gs gw gp : Nat) (t : Tab) (K : Nat) : Prop where
  db : DB w r gs gw gp t.st.length t.st t.wa t.pk t.mo
  oks : ok r ∧ ok gs ∧ ok gw ∧ ok gp
  ok : OkT t K
section
variable {w W : World} {ok ok' X : Nat → Prop} {r gs gw gp K : Nat} {t : Tab}
theorem DT.dx (h : DT w ok r gs gw gp t K) : ∀ i, DX r gs gw gp i → ok i := fun i hi => by
  obtain ⟨o1, o2, o3, o4⟩ := h.oks
  rcases hi with rfl | rfl | rfl | rfl <;> assumption
theorem DT.chg (h : DT w ok r gs gw gp t K) (k : Chg X w W) (hx : ∀ i, ok i → ¬ X i) : DT W ok r gs gw gp t K := ⟨h.db.chg k fun i hi => hx i (h.dx i hi), h.oks, h.ok⟩
theorem DT.fr (h : DT w ok r gs gw gp t K) (k : Fr w W) : DT W ok r gs gw gp t K := h.chg (.of_fr (fun _ => False) k) fun _ _ => id
theorem DT.mono (h : DT w ok r gs gw gp t K) {L : Nat} (hl : K ≤ L) : DT w ok r gs gw gp t L := ⟨h.db, h.oks, h.ok.mono hl⟩
theorem DT.lt (h : DT w ok r gs gw gp t K) : r < w.heap.size ∧ gs < w.heap.size ∧ gw < w.heap.size ∧ gp < w.heap.size := ⟨h.db.box.lt, h.db.st.lt, h.db.wa.lt, h.db.pk.lt⟩
theorem DT.weak (h : DT w ok r gs gw gp t K) (hk : ∀ i, i < w.heap.size → ok i → ok' i) : DT w ok' r gs gw gp t K := by
  obtain ⟨o1, o2, o3, o4⟩ := h.oks
  obtain ⟨l1, l2, l3, l4⟩ := h.lt
  exact ⟨h.db, ⟨hk _ l1 o1, hk _ l2 o2, hk _ l3 o3, hk _ l4 o4⟩, h.ok⟩
end
theorem ints_make (n : Nat) (hn : n ≤ 8) (w : World) : (Instr.makeSlice 38 (.int .i64 (n : Int)) (.int .i64 (n : Int))).run Try.prog w = .ok (.slice (some ⟨w.heap.size, 0, none⟩) n n) (w.alloc (.cells (ints (List.replicate n 0)).toArray 3)) := by
  rw [ints, List.map_replicate]
  exact make_one (b := 8) Try.underlying38 (by kernel_rfl) (by kernel_rfl) (by kernel_rfl) rfl n (by omega) w
set_option maxHeartbeats 1000000 in
theorem rnew_no (w : World) (n : Int) (hn : n < 1 ∨ 8 < n) :
    Calls Try.prog 9 #[.int .i64 n] w fun e w' => e = .returned (.tuple #[.pointer none, .int .i64 1]) ∧ w = w' := by
  rcases hn with h | h
  · go_enter Try.func9, Try.ntmps9
    go_wp2
    go_ret2
    exact ⟨rfl, rfl⟩
  · have h1 : ¬ n < 1 := by omega
    go_enter Try.func9, Try.ntmps9
    go_wp2
    go_ret2
    exact ⟨rfl, rfl⟩
/-- Four blocks made one behind the other. -/
theorem alloc4 (w : World) (x y z u : Array Value) (a b c d : Nat) :
    Arr ((((w.alloc (.cells x a)).alloc (.cells y b)).alloc (.cells z c)).alloc (.cells u d)) w.heap.size a x ∧ Arr ((((w.alloc (.cells x a)).alloc (.cells y b)).alloc (.cells z c)).alloc (.cells u d)) (w.heap.size + 1) b y ∧
    Arr ((((w.alloc (.cells x a)).alloc (.cells y b)).alloc (.cells z c)).alloc (.cells u d)) (w.heap.size + 1 + 1) c z ∧ Arr ((((w.alloc (.cells x a)).alloc (.cells y b)).alloc (.cells z c)).alloc (.cells u d)) (w.heap.size + 1 + 1 + 1) d u ∧
    Fr w ((((w.alloc (.cells x a)).alloc (.cells y b)).alloc (.cells z c)).alloc (.cells u d)) := by
  obtain ⟨h1, h2, h3, h4⟩ := alloc3 w x y z a b c
  refine ⟨h1.alloc _, h2.alloc _, h3.alloc _, ?_, fr_new h4 _⟩
  have := Arr.new (((w.alloc (.cells x a)).alloc (.cells y b)).alloc (.cells z c)) u d
  simpa using this
theorem rmade (w : World) {n a b c : Nat} {zs : List Value} (h1 : 1 ≤ n) (h2 : n ≤ 8) (hz : ints (List.replicate n 0) = zs) (ha : a = w.heap.size ∨ a = w.heap.size + 1 ∨ a = w.heap.size + 1 + 1) (hb : b = w.heap.size ∨ b = w.heap.size + 1 ∨ b = w.heap.size + 1 + 1) (hc : c = w.heap.size ∨ c = w.heap.size + 1 ∨ c = w.heap.size + 1 + 1) (hn : a ≠ b ∧ a ≠ c ∧ b ≠ c) :
    DT ((((w.alloc (.cells zs.toArray 3)).alloc (.cells zs.toArray 3)).alloc (.cells zs.toArray 3)).alloc (.cells #[.slice (some ⟨a, 0, none⟩) n n, .slice (some ⟨b, 0, none⟩) n n, .slice (some ⟨c, 0, none⟩) n n, .int .i64 0] 42)).drew (fun i => w.heap.size ≤ i) (w.heap.size + 1 + 1 + 1) a b c (newT n) 0 ∧
    Fr w ((((w.alloc (.cells zs.toArray 3)).alloc (.cells zs.toArray 3)).alloc (.cells zs.toArray 3)).alloc (.cells #[.slice (some ⟨a, 0, none⟩) n n, .slice (some ⟨b, 0, none⟩) n n, .slice (some ⟨c, 0, none⟩) n n, .int .i64 0] 42)).drew := by
  obtain ⟨b1, b2, b3, b4, f⟩ := alloc4 w zs.toArray zs.toArray zs.toArray #[.slice (some ⟨a, 0, none⟩) n n, .slice (some ⟨b, 0, none⟩) n n, .slice (some ⟨c, 0, none⟩) n n, .int .i64 0] 3 3 3 42
  generalize (((w.alloc (.cells zs.toArray 3)).alloc (.cells zs.toArray 3)).alloc (.cells zs.toArray 3)).alloc (.cells #[.slice (some ⟨a, 0, none⟩) n n, .slice (some ⟨b, 0, none⟩) n n, .slice (some ⟨c, 0, none⟩) n n, .int .i64 0] 42) = V at *
  have hA : ∀ x, (x = w.heap.size ∨ x = w.heap.size + 1 ∨ x = w.heap.size + 1 + 1) → Arr V.drew x 3 (ints (List.replicate n 0)).toArray := fun x hx => by
    rw [hz]
    rcases hx with rfl | rfl | rfl
    · exact b1
    · exact b2
    · exact b3
  refine ⟨⟨?_, by omega, newT_ok h1 h2 0⟩, fr_drew f⟩
  rw [show (newT n).st.length = n by simp [newT]]
  exact ⟨b4, hA a ha, hA b hb, hA c hc, by omega⟩
set_option maxHeartbeats 2000000 in
theorem rnew_yes (w : World) (n : Nat) (h1 : 1 ≤ n) (h2 : n ≤ 8) :
    Calls Try.prog 9 #[.int .i64 (n : Int)] w fun e w' => ∃ r gs gw gp, e = .returned (.tuple #[.pointer (some ⟨r, 0, none⟩), .int .i64 0]) ∧ Hid (DT w' (fun i => w.heap.size ≤ i) r gs gw gp (newT n) 0 ∧ Fr w w') := by
  have m1 := ints_make n h2
  generalize hz : ints (List.replicate n 0) = zs at *
  have HZ := keep hz
  clear hz
  go_enter Try.func9, Try.ntmps9
  go_wp2
  go_region
  all_goals
    go_wp2_with fail
    go_ret2
    exact ⟨_, _, _, _, rfl, keep (rmade w h1 h2 HZ.out (by omega) (by omega) (by omega) (by omega))⟩
set_option maxHeartbeats 4000000 in
theorem rset_at {w : World} {ok : Nat → Prop} {r gs gw gp K : Nat} {t : Tab} (h : DT w ok r gs gw gp t K) {i z : Int} (hi : -9223372036854775808 ≤ i ∧ i ≤ 9223372036854775807) :
    Calls Try.prog 31 #[.pointer (some ⟨r, 0, none⟩), .int .i64 i, .int .i64 z] w fun e w' => e = .returned (.tuple #[]) ∧ Hid (DT w' ok r gs gw gp (turnT t i z) K ∧ Chg (DX r gs gw gp) w w') := by
  obtain ⟨c0, c1, -, -⟩ := h.db.cells
  have hn := h.ok.n
  have H := keep h
  cases hb : mayT t i with
  | false =>
    have HB := keep hb
    rcases mayT_no hb with hl | hl | ⟨k, rfl, hl, hk⟩
    · have hnn : ¬ 0 ≤ i := by omega
      clear hb h
      go_enter Try.func31, Try.ntmps31
      go_wp2_with fail
      go_returns
      exact ⟨rfl, keep ⟨by rw [turnT, HB.out, if_neg (by decide)]; exact H.out, .refl _ _⟩⟩
    · have hnn : ¬ i < 0 := by omega
      generalize t.st.length = n at *
      clear hb h
      go_enter Try.func31, Try.ntmps31
      go_wp2_with fail
      go_returns
      exact ⟨rfl, keep ⟨by rw [turnT, HB.out, if_neg (by decide)]; exact H.out, .refl _ _⟩⟩
    · have c2 := arr_int_cell h.db.st hk
      generalize t.st.length = n at *
      clear hb h
      go_enter Try.func31, Try.ntmps31
      go_wp2_with fail
      go_returns
      exact ⟨rfl, keep ⟨by rw [turnT, HB.out, if_neg (by decide)]; exact H.out, .refl _ _⟩⟩
  | true =>
    have HB := keep hb
    obtain ⟨k, s, rfl, hl, hk, hs⟩ := mayT_yes hb
    have c2 := arr_int_cell h.db.st hk
    have hs2 : (s == 2) = false := by simpa using hs
    have hll : k < (ints t.st).length := by rw [ints_len]; exact hl
    have hlw : k < (ints t.wa).length := by rw [ints_len, h.ok.wl]; exact hl
    have p1 := keep (ints_patch hl z)
    have p2 := keep (ints_patch (l := t.wa) (k := k) (by rw [h.ok.wl]; exact hl) 0)
    by_cases hz : z = 0
    · subst hz
      generalize hnn : t.st.length = n at *
      have HN := keep hnn
      clear hb h hk hs hnn
      go_enter Try.func31, Try.ntmps31
      go_wp2_with (first
        | (refine wpList_store_chg (ds := [.int .i64 0]) int_info rfl (.tmp 33) (.tmp 32) rfl gs k rfl rfl rfl (one_of _ rfl) H.out.db.st (by omega) p1.out ?_; intro W hA hK)
        | fail)
      go_returns
      have ho := turnT_ok H.out.ok (k : Int) 0
      have he : turnT t (k : Int) 0 = { t with st := t.st.set k 0 } := by rw [turnT, HB.out, if_pos rfl]; simp
      rw [he] at ho
      have hd := H.out.db.st_put hA hK
      exact ⟨rfl, keep ⟨by rw [he]; exact ⟨by show DB W r gs gw gp (t.st.set k 0).length _ _ _ _; rw [List.length_set]; exact hd, H.out.oks, ho⟩, hK.weak fun i _ hx => .inr (.inl hx)⟩⟩
    · have hz2 : (z != 0) = true := by simpa using hz
      have HZ := keep hz
      generalize hnn : t.st.length = n at *
      have HN := keep hnn
      clear hb h hk hs hnn hz
      go_enter Try.func31, Try.ntmps31
      go_wp2_with (first
        | (refine wpList_store_chg (ds := [.int .i64 z]) int_info rfl (.tmp 33) (.tmp 32) rfl gs k rfl rfl rfl (one_of _ rfl) H.out.db.st (by omega) p1.out ?_; intro W hA hK
           have hD := H.out.db.st_put hA hK
           obtain ⟨-, d1, -, -⟩ := hD.cells
           rw [HN.out] at d1)
        | (refine wpList_store_chg (ds := [.int .i64 0]) int_info rfl (.tmp 41) (.const (.int .i64 0)) rfl gw k rfl rfl rfl (one_of _ rfl) hD.wa (by omega) p2.out ?_; intro W2 hA2 hK2)
        | fail)
      go_returns
      have ho := turnT_ok H.out.ok (k : Int) z
      have he : turnT t (k : Int) z = { t with st := t.st.set k z, wa := t.wa.set k 0 } := by rw [turnT, HB.out, if_pos rfl, if_neg HZ.out]; simp
      rw [he] at ho
      have hd := hD.wa_put hA2 hK2
      exact ⟨rfl, keep ⟨by rw [he]; exact ⟨by show DB W2 r gs gw gp (t.st.set k z).length _ _ _ _; rw [List.length_set]; exact hd, H.out.oks, ho⟩, (hK.weak fun i _ hx => .inr (.inl hx)).trans (hK2.weak fun i _ hx => .inr (.inr (.inl hx)))⟩⟩
theorem rblock_at {w : World} {ok : Nat → Prop} {r gs gw gp K : Nat} {t : Tab} (h : DT w ok r gs gw gp t K) {i : Int} (hi : -9223372036854775808 ≤ i ∧ i ≤ 9223372036854775807) :
    Calls Try.prog 13 #[.pointer (some ⟨r, 0, none⟩), .int .i64 i] w fun e w' => e = .returned (.tuple #[]) ∧ Hid (DT w' ok r gs gw gp (turnT t i 1) K ∧ Chg (DX r gs gw gp) w w') := by
  have c := rset_at h (z := 1) hi
  clear h
  go_enter Try.func13, Try.ntmps13
  go_wp2_with fail
  refine c.mono ?_
  rintro e w' ⟨rfl, h⟩
  go_wp2_with fail
  go_returns
  exact ⟨rfl, h⟩
theorem rwake_at {w : World} {ok : Nat → Prop} {r gs gw gp K : Nat} {t : Tab} (h : DT w ok r gs gw gp t K) {i : Int} (hi : -9223372036854775808 ≤ i ∧ i ≤ 9223372036854775807) :
    Calls Try.prog 15 #[.pointer (some ⟨r, 0, none⟩), .int .i64 i] w fun e w' => e = .returned (.tuple #[]) ∧ Hid (DT w' ok r gs gw gp (turnT t i 0) K ∧ Chg (DX r gs gw gp) w w') := by
  have c := rset_at h (z := 0) hi
  clear h
  go_enter Try.func15, Try.ntmps15
  go_wp2_with fail
  refine c.mono ?_
  rintro e w' ⟨rfl, h⟩
  go_wp2_with fail
  go_returns
  exact ⟨rfl, h⟩
theorem rend_at {w : World} {ok : Nat → Prop} {r gs gw gp K : Nat} {t : Tab} (h : DT w ok r gs gw gp t K) {i : Int} (hi : -9223372036854775808 ≤ i ∧ i ≤ 9223372036854775807) :
    Calls Try.prog 17 #[.pointer (some ⟨r, 0, none⟩), .int .i64 i] w fun e w' => e = .returned (.tuple #[]) ∧ Hid (DT w' ok r gs gw gp (turnT t i 2) K ∧ Chg (DX r gs gw gp) w w') := by
  have c := rset_at h (z := 2) hi
  clear h
  go_enter Try.func17, Try.ntmps17
  go_wp2_with fail
  refine c.mono ?_
  rintro e w' ⟨rfl, h⟩
  go_wp2_with fail
  go_returns
  exact ⟨rfl, h⟩
set_option maxHeartbeats 1000000 in
theorem rpicks_at {w : World} {ok : Nat → Prop} {r gs gw gp K : Nat} {t : Tab} (h : DT w ok r gs gw gp t K) {i : Int} (hi : -9223372036854775808 ≤ i ∧ i ≤ 9223372036854775807) :
    Calls Try.prog 27 #[.pointer (some ⟨r, 0, none⟩), .int .i64 i] w fun e w' => e = .returned (.int .i64 (atI t.pk i)) ∧ w = w' := by
  obtain ⟨-, -, c2, -⟩ := h.db.cells
  have hn := h.ok.n
  have hl := h.ok.pl
  rcases (show i < 0 ∨ (t.st.length : Int) ≤ i ∨ (0 ≤ i ∧ i < t.st.length) by omega) with h0 | h0 | ⟨h0, h1⟩
  · rw [atI_no (.inl h0)]
    clear h hl
    go_enter Try.func27, Try.ntmps27
    go_wp2
    go_ret
    exact ⟨rfl, rfl⟩
  · rw [atI_no (.inr (by omega))]
    have h00 : ¬ i < 0 := by omega
    generalize t.st.length = n at *
    clear h hl
    go_enter Try.func27, Try.ntmps27
    go_wp2
    go_ret
    exact ⟨rfl, rfl⟩
  · obtain ⟨k, rfl⟩ := Int.eq_ofNat_of_zero_le h0
    have hx : t.pk[k]? = some (t.pk[k]'(by omega)) := List.getElem?_eq_getElem _
    generalize t.pk[k]'(by omega) = x at hx
    have c3 := arr_int_cell h.db.pk hx
    rw [atI_nat hx]
    generalize t.st.length = n at *
    clear h hx hl
    go_enter Try.func27, Try.ntmps27
    go_wp2
    go_ret
    exact ⟨rfl, rfl⟩
set_option maxHeartbeats 1000000 in
theorem rwait_at {w : World} {ok : Nat → Prop} {r gs gw gp K : Nat} {t : Tab} (h : DT w ok r gs gw gp t K) {i : Int} (hi : -9223372036854775808 ≤ i ∧ i ≤ 9223372036854775807) :
    Calls Try.prog 29 #[.pointer (some ⟨r, 0, none⟩), .int .i64 i] w fun e w' => e = .returned (.int .i64 (atI t.wa i)) ∧ w = w' := by
  obtain ⟨-, c2, -, -⟩ := h.db.cells
  have hn := h.ok.n
  have hl := h.ok.wl
  rcases (show i < 0 ∨ (t.st.length : Int) ≤ i ∨ (0 ≤ i ∧ i < t.st.length) by omega) with h0 | h0 | ⟨h0, h1⟩
  · rw [atI_no (.inl h0)]
    clear h hl
    go_enter Try.func29, Try.ntmps29
    go_wp2
    go_ret
    exact ⟨rfl, rfl⟩
  · rw [atI_no (.inr (by omega))]
    have h00 : ¬ i < 0 := by omega
    generalize t.st.length = n at *
    clear h hl
    go_enter Try.func29, Try.ntmps29
    go_wp2
    go_ret
    exact ⟨rfl, rfl⟩
  · obtain ⟨k, rfl⟩ := Int.eq_ofNat_of_zero_le h0
    have hx : t.wa[k]? = some (t.wa[k]'(by omega)) := List.getElem?_eq_getElem _
    generalize t.wa[k]'(by omega) = x at hx
    have c3 := arr_int_cell h.db.wa hx
    rw [atI_nat hx]
    generalize t.st.length = n at *
    clear h hx hl
    go_enter Try.func29, Try.ntmps29
    go_wp2
    go_ret
    exact ⟨rfl, rfl⟩
end Go.Proofs.Ytmfnekobepdhkaa
