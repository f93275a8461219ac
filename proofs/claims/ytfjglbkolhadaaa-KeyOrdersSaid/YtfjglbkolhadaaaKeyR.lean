/- KeyOrders, walked: the keys of texts; the order rises. -/
import Derived.Test.YtfjglbkolhadaaaKeyQ
import Derived.Test.YtfjglbkolhadaaaKeyOpen
namespace Go.Proofs.Ytfjglbkolhadaaa
open Go.RowKit Go.Maps
set_option linter.unusedVariables false
/-- The keys of those texts that are not too long. -/
def keysOf (l : List ByteArray) : List RK := l.filterMap fun s => if s.size ≤ 8 then some (ofS s) else none
theorem keysOf_snoc (l : List ByteArray) (s : ByteArray) : keysOf (l ++ [s]) = keysOf l ++ (if s.size ≤ 8 then [ofS s] else []) := by
  unfold keysOf
  rw [List.filterMap_append]
  by_cases h : s.size ≤ 8 <;> simp [h]
theorem keysOf_len (l : List ByteArray) : (keysOf l).length ≤ l.length := List.length_filterMap_le _ _
theorem keysOf_ok (l : List ByteArray) : ∀ k ∈ keysOf l, k.wf ∧ okB k = true := by
  intro k hk
  obtain ⟨s, _, h⟩ := List.mem_filterMap.1 hk
  by_cases h8 : s.size ≤ 8
  · simp [h8] at h; rw [← h]; exact ⟨ofS_wf s h8, ofS_ok s h8⟩
  · simp [h8] at h
theorem keysOf_wf (l : List ByteArray) : WfAll (keysOf l) := fun k hk => (keysOf_ok l k hk).1
theorem kinds_nodup (ks : List RK) : (kinds ks).Nodup := by
  have h : ∀ (ks acc : List RK), acc.Nodup → (ks.foldl addK acc).Nodup := by
    intro ks
    induction ks with
    | nil => intro acc h; exact h
    | cons x ks ih =>
      intro acc h
      refine ih _ ?_
      unfold addK
      split
      · exact h
      · exact List.nodup_append.2 ⟨h, by simp, fun a ha b hb e => by simp at hb; subst e hb; contradiction⟩
  exact h ks [] (by simp)
theorem ord_kinds {ks os : List RK} (h : IsOrd ks os) (hok : ∀ k ∈ ks, okB k = true) : os.length = (kinds ks).length := by
  have h1 : os.Nodup := h.1.imp fun {a b} hl e => by rw [e] at hl; omega
  have a1 := h1.length_le_of_subset (l₂ := kinds ks) fun k hk => (mem_kinds k ks).2 ((h.2 k).1 hk).1
  have a2 := (kinds_nodup ks).length_le_of_subset (l₂ := os) fun k hk => (h.2 k).2 ⟨(mem_kinds k ks).1 hk, hok k ((mem_kinds k ks).1 hk)⟩
  omega
theorem ord_next {ks os : List RK} (h : IsOrd ks os) {j : Nat} {x y : RK} (hx : os[j]? = some x) (hy : os[j + 1]? = some y) : code x < code y := by
  obtain ⟨h1, rfl⟩ := List.getElem?_eq_some_iff.1 hx
  obtain ⟨h2, rfl⟩ := List.getElem?_eq_some_iff.1 hy
  exact List.pairwise_iff_getElem.1 h.1 j (j + 1) h1 h2 (by omega)
/-- A text of a slice that came in. -/
theorem text_at {w w' : World} {B : Nat} {A : Option Addr} {ss : List ByteArray} (h : Has w w.heap.size A (ss.map Value.string)) {j : Nat} {s : ByteArray} (hs : ss[j]? = some s) (hb : Fr w w') : ∃ b off, A = some ⟨b, off, none⟩ ∧ w'.cell? ⟨b, off + j, none⟩ = some (.string s) := by
  obtain ⟨b, off, e, hlt, hc⟩ := h j (.string s) (by rw [List.getElem?_map, hs]; rfl)
  exact ⟨b, off, e, (hb.cell hlt).trans hc⟩
section
variable {P : Program} {w : World}
theorem wpList_append_hasG {a : Act} {ops : Array Oper} {rest : List Oper} {o : Oper} {Q : Exit → Act → World → Prop} (hgd : Region.wanted o (yielded ops a.tmps) = true) (s x : Operand) (t : TypeId)
    (hop : o.op = .call { callee := .builtin .append, args := #[s, x], argTypes := #[t, t] })
    (B : Nat) (e : TypeId) (i : TypeInfo) (z : Value) (size bytes : Nat) (ht : P.underlying t = some (.slice e)) (hi : P.info? e = some i) (hz : i.zero = some z)
    (hsize : i.size = size) (hby : i.bytes = bytes) (hzs : z.cells.size = size) (hsz : 0 < size)
    (A : Option Addr) (n c : Nat) (xs : List Value) (hs : a.eval s = .slice A n c) (ho : Own w B e size A n c xs)
    (C : Nat) (A2 : Option Addr) (m c2 : Nat) (news : List Value) (hx : a.eval x = .slice A2 m c2) (hl : news.length = m * size) (hn : Has w C A2 news)
    (h1 : ∀ u ∈ news, u.oneCell' = true) (h63 : n + m ≤ maxLen) (hbytes : (n + m) * bytes ≤ 140737488355328) (hB : B ≤ w.heap.size)
    (h : ∀ A' c' w', Own w' B e size A' (n + m) c' (xs ++ news) → w.grownBy w' (blk A) → wpList P ops Q rest (a.put o.dst (.slice A' (n + m) c')) w') :
    wpList P ops Q (o :: rest) a w := by
  refine wpList_step fun K hK => ?_
  rw [if_pos hgd]
  obtain ⟨A', c', w', hr, h2, h3, h4⟩ := run_append_has (P := P) w B t o.type e i z size bytes ht hi hz hsize hby hzs hsz A n c xs ho C A2 m c2 news hl hn h1 h63 hbytes hB
  unfold Oper.wp execOp
  simp only [hop, resolve, invoke, builtin, Sem.run_bind, Sem.run_pure, Result.andThen_ok, List.map_toArray, List.map_cons, List.map_nil, hs, hx, hr]
  exact hK _ _ (h A' c' w' h2 h3)
end
theorem own_empty (W : World) {B : Nat} (t : TypeId) (h : B ≤ W.heap.size) : Own (W.alloc (.cells #[] t)) B t 9 (some ⟨W.heap.size, 0, none⟩) 0 0 (flat []) := Own.lit W B t #[] 0 9 h (by unfold maxLen; omega) rfl
theorem own_empty_drew (W : World) {B : Nat} (t : TypeId) (h : B ≤ W.heap.size) : Own (W.alloc (.cells #[] t)).drew B t 9 (some ⟨W.heap.size, 0, none⟩) 0 0 (flat []) := (own_empty W t h).below (fr_drew (fr_refl _)) (Nat.le_refl _)
theorem has_key_new_at (w : World) (k : RK) (t : TypeId) {g : Nat} (hg : g = w.heap.size) : Has (w.alloc (.cells (kc k).toArray t)) (g + 1) (some ⟨g, 0, none⟩) (kc k) := by
  subst hg; exact has_key_new w k t
set_option maxRecDepth 100000 in
set_option maxHeartbeats 8000000 in
theorem keyOrders_core (A : Option Addr) (n c : Nat) (ss : List ByteArray) (z : Int) (w : World) (hl : ss.length = n) (hnm : n ≤ maxLen) (hsz : ∀ s ∈ ss, s.size ≤ maxLen) (hr : Has w w.heap.size A (ss.map Value.string)) (hz : (Lit.int .i64 z).wf = true) :
    Calls Try.prog 8 #[.slice A n c, .int .i64 z] w fun e w' => e = .returned (.bool true) ∧ Below w.heap.size w w' := by
  have hzb := i64_of hz
  unfold maxLen at hnm hsz
  have Hl := keep hl
  clear hl hz
  by_cases hn : n ≤ 30
  · have d1 : decide ((30 : Int) < (n : Int)) = false := by simp; omega
    by_cases h0 : n = 0
    · subst h0
      go_enter Try.func8, Try.ntmps8
      go_wp2_with fail
      refine (awake _).mono ?_
      rintro e w1 ⟨rfl, hf1⟩
      go_wp2_with fail
      go_ret
      exact ⟨rfl, hf1⟩
    · have d2 : ((n : Int) == 0) = false := by simp; omega
      clear h0
      go_enter Try.func8, Try.ntmps8
      go_wp2_with fail
      go_loopg [5, 6] n (fun g v i wr => ∃ (j : Nat) (D : Option Addr) (d m : Nat), j + g = n ∧ i = .int .i64 j ∧ v = .slice D m d ∧ Hid (m = (keysOf (ss.take j)).length) ∧ Own wr w.heap.size 24 9 D m d (flat (keysOf (ss.take j))) ∧ Fr w wr)
      case atStart => exact ⟨0, none, 0, 0, by omega, rfl, rfl, keep (by simp [keysOf]), Own.nil _ _ _ _, fr_refl w⟩
      case round =>
        obtain ⟨i, D, d, m, hj, rfl, rfl, Hm, hown, hF⟩ := hrel
        have Hj := keep hj
        by_cases hlt : i < n
        · obtain ⟨s, hs⟩ : ∃ s, ss[i]? = some s := ⟨ss[i]'(by have := Hl.out; omega), List.getElem?_eq_getElem _⟩
          obtain ⟨b, off, rfl, hc⟩ := text_at (B := 0) hr hs hF
          have hs8 := hsz s (List.mem_of_getElem? hs)
          have Ht := keep (take_snoc hs)
          have Hk := keep (keysOf_snoc (ss.take i) s)
          have hml : m ≤ 30 := by have h1 := Hm.out; have h2 := keysOf_len (ss.take i); have h3 := List.length_take_le i ss; omega
          clear hj hs
          by_cases h8 : s.size ≤ 8
          · have cO := fun (W : World) => key_of_fits s h8 W
            have Hf : Hid (flat (keysOf (ss.take i) ++ [ofS s]) = flat (keysOf (ss.take i)) ++ kc (ofS s)) := keep (by rw [flat_append]; simp [flat])
            have H8 := keep h8
            obtain ⟨i0, hi0, hz0, hz1, hz2⟩ := info_parts info_key
            generalize ofS s = k at cO Hk Hf
            clear h8
            go_wp2_with (first
              | (go_at_call 11; refine (cO _).mono ?_; rintro e w2 ⟨rfl, hb2⟩
                 have hown3 := hown.below hb2 (Nat.le_refl _)
                 have hF3 := fr_step hF hb2
                 clear hb2)
              | (at_builtin; refine wpList_append_has _ rfl (.tmp 38) (.tmp 40) 25 rfl w.heap.size 24 i0 _ 9 16 Try.underlying25 hi0 hz0 hz1 hz2 rfl (by omega) D m d (flat (keysOf (ss.take i))) rfl ((hown3.alloc _).alloc _) _ _ 1 1 (kc k) rfl rfl (has_key_new_at _ _ _ (by simp)) (kc_one k) (by unfold maxLen; omega) (by omega) (by have := hF3.size; simp; omega) ?_; intro D2 d2 w4 hown4 hgr4 hb4)
              | fail)
            go_roundg (gk - 1)
            case measure => have := Hj.out; omega
            case rel => exact ⟨i + 1, D2, d2, m + 1, by have := Hj.out; omega, by go_num, rfl, keep (by rw [Ht.out, Hk.out, if_pos H8.out, Hm.out]; simp), by rw [Ht.out, Hk.out, if_pos H8.out, Hf.out]; exact hown4, below_grown (fr_new (fr_new hF3 _) _) ((hown3.alloc _).alloc _) hgr4 (by have := hF3.size; simp; omega) (Nat.le_refl _)⟩
          · have cO := fun (W : World) => key_of_big s (by omega) hs8 W
            have H8 := keep h8
            clear h8
            go_wp2_with (first
              | (go_at_call 11; refine (cO _).mono ?_; rintro e w2 ⟨rfl, hb2⟩
                 have hown3 := hown.below hb2 (Nat.le_refl _)
                 have hF3 := fr_step hF hb2
                 clear hb2)
              | fail)
            go_roundg (gk - 1)
            case measure => have := Hj.out; omega
            case rel => exact ⟨i + 1, D, d, m, by have := Hj.out; omega, by go_num, rfl, keep (by rw [Ht.out, Hk.out, if_neg H8.out, Hm.out]; simp), by rw [Ht.out, Hk.out, if_neg H8.out, List.append_nil]; exact hown3.alloc _, fr_new hF3 _⟩
        · obtain rfl : i = n := by omega
          have Hx : Hid (ss.take i = ss) := keep (by rw [← Hl.out, List.take_length])
          rw [Hx.out] at hown Hm
          have hml : m ≤ 30 := by have h1 := Hm.out; have h2 := keysOf_len ss; have h3 := Hl.out; omega
          have hok := keysOf_ok ss
          generalize keysOf ss = ks at hown Hm hok
          clear hj
          go_wp2_with fail
          refine (key_order D m d ks _ Hm.out.symm (by omega) (fun k hk => (hok k hk).1) hown.has).mono ?_
          rintro e w1 ⟨A1, c1, os, rfl, ho1, hh1, hf1⟩
          have hown1 := hown.below hf1 (Nat.le_refl _)
          have hF1 := fr_step hF hf1
          clear hf1 hown hF
          go_wp2_with fail
          have Hok := keep (fun x (hx : x ∈ os) => (ho1.2 x).1 hx)
          have hol : os.length ≤ 30 := by have := ord_len ho1; have := Hm.out; omega
          have Ho := keep ho1
          clear ho1
          obtain ⟨gq, rfl⟩ : ∃ gq : Nat, gq = gk := ⟨_, rfl⟩
          go_loopg [10] os.length (fun g v wr => ∃ j p : Nat, j + g = os.length ∧ Hid (p = j + 1) ∧ v = .int .i64 (p : Int) ∧ Fr w1 wr)
          case atStart => exact ⟨0, 1, by omega, keep rfl, rfl, fr_refl w1⟩
          case round =>
            obtain ⟨j, p, hj, Hp, rfl, hF⟩ := hrel
            have HJ := keep hj
            by_cases hlt2 : p < os.length
            · have hd : decide ((p : Int) < (os.length : Int)) = true := by simp; omega
              have hjl : j < os.length := by have := Hp.out; omega
              clear hj
              obtain ⟨x, hx⟩ : ∃ x, os[j]? = some x := ⟨os[j], List.getElem?_eq_getElem _⟩
              obtain ⟨y, hy⟩ : ∃ y, os[p]? = some y := ⟨os[p], List.getElem?_eq_getElem _⟩
              have hxm := Hok.out x (List.mem_of_getElem? hx)
              have hym := Hok.out y (List.mem_of_getElem? hy)
              have hcc : ∀ W, Fr w1 W → Calls Try.prog 24 #[kv x, kv y] W fun e w' => e = .returned (.int .i64 (-1)) ∧ Fr w1 w' := by
                intro W hW
                have h := key_compare_at x y (hok x hxm.1).1 (hok y hym.1).1 hxm.2 hym.2 hW
                rwa [show cmpK x y = -1 from cmpI_lt (ord_next Ho.out hx (by rw [← Hp.out]; exact hy))] at h
              obtain ⟨b, off, rfl, hgb, hxa⟩ := hask_at hh1 hx
              obtain ⟨b', off', e, -, hya⟩ := hask_at hh1 hy
              obtain ⟨rfl, rfl⟩ : b = b' ∧ off = off' := by simpa using e
              have cz : ∀ W, Fr w1 W → W.cell? ⟨b, off + j * 9, none⟩ = some (.int .i64 x.n) ∧ W.cell? ⟨b, off + j * 9 + 1, none⟩ = some (.int .u8 x.b0) ∧ W.cell? ⟨b, off + j * 9 + 2, none⟩ = some (.int .u8 x.b1) ∧ W.cell? ⟨b, off + j * 9 + 3, none⟩ = some (.int .u8 x.b2) ∧ W.cell? ⟨b, off + j * 9 + 4, none⟩ = some (.int .u8 x.b3) ∧ W.cell? ⟨b, off + j * 9 + 5, none⟩ = some (.int .u8 x.b4) ∧ W.cell? ⟨b, off + j * 9 + 6, none⟩ = some (.int .u8 x.b5) ∧ W.cell? ⟨b, off + j * 9 + 7, none⟩ = some (.int .u8 x.b6) ∧ W.cell? ⟨b, off + j * 9 + 8, none⟩ = some (.int .u8 x.b7) ∧ W.cell? ⟨b, off + p * 9, none⟩ = some (.int .i64 y.n) ∧ W.cell? ⟨b, off + p * 9 + 1, none⟩ = some (.int .u8 y.b0) ∧ W.cell? ⟨b, off + p * 9 + 2, none⟩ = some (.int .u8 y.b1) ∧ W.cell? ⟨b, off + p * 9 + 3, none⟩ = some (.int .u8 y.b2) ∧ W.cell? ⟨b, off + p * 9 + 4, none⟩ = some (.int .u8 y.b3) ∧ W.cell? ⟨b, off + p * 9 + 5, none⟩ = some (.int .u8 y.b4) ∧ W.cell? ⟨b, off + p * 9 + 6, none⟩ = some (.int .u8 y.b5) ∧ W.cell? ⟨b, off + p * 9 + 7, none⟩ = some (.int .u8 y.b6) ∧ W.cell? ⟨b, off + p * 9 + 8, none⟩ = some (.int .u8 y.b7) ∧ Fr w1 W := fun W h => by
                obtain ⟨x0, x1, x2, x3, x4, x5, x6, x7, x8⟩ := (hxa.below h hgb).cells
                obtain ⟨y0, y1, y2, y3, y4, y5, y6, y7, y8⟩ := (hya.below h hgb).cells
                exact ⟨x0, x1, x2, x3, x4, x5, x6, x7, x8, y0, y1, y2, y3, y4, y5, y6, y7, y8, h⟩
              have hfz := fr_drew hF
              have hs : (p : Int) - 1 = (j : Int) := by have := Hp.out; omega
              have hb5 : IntKind.i64.wrap (j : Int) = j := by rw [IntWalk.i64_left]; exact IntWalk.wrap64_in _ (by omega)
              clear hx hy hxm hym e hxa hya hgb hF
              go_wp2_with fail
              go_region_held3 (fun w' => w'.cell? ⟨b, off + j * 9, none⟩ = some (.int .i64 x.n) ∧ w'.cell? ⟨b, off + j * 9 + 1, none⟩ = some (.int .u8 x.b0) ∧ w'.cell? ⟨b, off + j * 9 + 2, none⟩ = some (.int .u8 x.b1) ∧ w'.cell? ⟨b, off + j * 9 + 3, none⟩ = some (.int .u8 x.b2) ∧ w'.cell? ⟨b, off + j * 9 + 4, none⟩ = some (.int .u8 x.b3) ∧ w'.cell? ⟨b, off + j * 9 + 5, none⟩ = some (.int .u8 x.b4) ∧ w'.cell? ⟨b, off + j * 9 + 6, none⟩ = some (.int .u8 x.b5) ∧ w'.cell? ⟨b, off + j * 9 + 7, none⟩ = some (.int .u8 x.b6) ∧ w'.cell? ⟨b, off + j * 9 + 8, none⟩ = some (.int .u8 x.b7) ∧ w'.cell? ⟨b, off + p * 9, none⟩ = some (.int .i64 y.n) ∧ w'.cell? ⟨b, off + p * 9 + 1, none⟩ = some (.int .u8 y.b0) ∧ w'.cell? ⟨b, off + p * 9 + 2, none⟩ = some (.int .u8 y.b1) ∧ w'.cell? ⟨b, off + p * 9 + 3, none⟩ = some (.int .u8 y.b2) ∧ w'.cell? ⟨b, off + p * 9 + 4, none⟩ = some (.int .u8 y.b3) ∧ w'.cell? ⟨b, off + p * 9 + 5, none⟩ = some (.int .u8 y.b4) ∧ w'.cell? ⟨b, off + p * 9 + 6, none⟩ = some (.int .u8 y.b5) ∧ w'.cell? ⟨b, off + p * 9 + 7, none⟩ = some (.int .u8 y.b6) ∧ w'.cell? ⟨b, off + p * 9 + 8, none⟩ = some (.int .u8 y.b7) ∧ Fr w1 w')
                (first
                  | exact cz _ hfz
                  | exact cz _ hz)
                (first | (go_at_call 24; refine (hcc _ ?_).mono ?_; (go_split_ands; first | assumption | exact hfz); rintro e w9 ⟨rfl, hz⟩))
              rename_i hH
              have hF := hH.2.2.2.2.2.2.2.2.2.2.2.2.2.2.2.2.2.2
              clear hH
              go_wp2_with fail
              go_roundg (gk - 1)
              case measure => have := HJ.out; omega
              case rel => exact ⟨j + 1, p + 1, by have := HJ.out; omega, keep (by rw [Hp.out]), by go_num, hF⟩
            · have hd : decide ((p : Int) < (os.length : Int)) = false := by simp; omega
              clear hj
              have hwf : WfAll ks := fun k hk => (hok k hk).1
              have hownr := hown1.below hF (Nat.le_refl _)
              have hFr := fr_step hF1 hF
              have hhr : Has wr wr.heap.size A1 (flat os) := (hh1.below hF).mono hF.size
              have hkr := hownr.has
              clear hown1 hF1 hh1 hF
              by_cases hm0 : 0 < m
              · rcases tmod_cases z m (by omega) with ⟨k, hk, hk0, hkm⟩ | ⟨k, hk, hkm⟩
                · have hkn : -(k : Int) < 0 := by omega
                  have hkw : wrap64 (k : Int) = k := IntWalk.wrap64_in _ (by omega)
                  have hkm : k ≤ m := by omega
                  go_wp2_with fail
                  have hcap := hownr.cap
                  have hs1 := key_sliceAt_lo D m d k hkm hcap
                  have hs2 := key_sliceAt_hi D m d k hkm hcap
                  have hml2 := Hm.out
                  have hlo := has_low (c := d) hkr (show k ≤ ks.length by omega) (show ks.length ≤ d by omega)
                  have hhi := has_hi hkr k
                  have Hl1 : Hid ((ks.take k).length = k) := keep (by simp; omega)
                  have Hl2 : Hid ((ks.drop k).length = m - k) := keep (by simp; omega)
                  clear hml2
                  go_region_law (first
                    | (refine step_append_key (w0 := wr) rfl (.tmp 72) (.tmp 75) rfl ?_ (some ⟨wr.heap.size, 0, none⟩) 0 0 [] ?_ ?_ wr.heap.size (lowA D d k) (m - k) (d - k) (ks.drop k) ?_ Hl2.out ?_ (by omega) ?_
                       · with_reducible first | exact fr_drew (fr_new (fr_refl wr) _) | exact fr_new (fr_drew (fr_refl wr)) _
                       · go_simp
                       · first | exact own_empty_drew wr _ (Nat.le_refl _) | exact own_empty wr.drew _ (Nat.le_refl _)
                       · go_simp
                       · first | exact hlo.below (fr_drew (fr_new (fr_refl wr) _)) | exact hlo.below (fr_new (fr_drew (fr_refl wr)) _)
                       intro A2 c2 w5 ho5 hf5 hg5
                       rw [Nat.zero_add] at ho5)
                    | (refine step_append_key (w0 := wr) rfl (.tmp 76) (.tmp 79) rfl hf5 A2 (m - k) c2 ([] ++ ks.drop k) ?_ ho5 wr.heap.size D k d (ks.take k) ?_ Hl1.out ?_ (by omega) ?_
                       · go_simp
                       · go_simp
                       · exact hhi.below hf5
                       intro A3 c3 w6 ho6 hf6 hg6)
                    | fail)
                  all_goals
                    rw [Nat.sub_add_cancel hkm] at ho6
                    have hkr6 := (hkr.below hf6).mono hf6.size
                    have hlen : ([] ++ ks.drop k ++ ks.take k).length = m := by have h1 := Hl1.out; have h2 := Hl2.out; rw [List.nil_append, List.length_append, h1, h2]; omega
                    have hmem : ∀ x, x ∈ [] ++ ks.drop k ++ ks.take k ↔ x ∈ ks := fun x => by rw [List.nil_append, List.mem_append, Or.comm, ← List.mem_append, List.take_append_drop]
                    generalize [] ++ ks.drop k ++ ks.take k = ls at ho6 hlen hmem
                    have Hls := keep hlen
                    have hwl : WfAll ls := fun x hx => hwf x ((hmem x).1 hx)
                    have hwo : WfAll os := fun x hx => hwf x (Hok.out x hx).1
                    have hwlo : WfAll (ls ++ os) := fun x hx => by
                      rcases List.mem_append.1 hx with h | h
                      · exact hwl x h
                      · exact hwo x h
                    have hmem2 : ∀ x, x ∈ ls ++ os ↔ x ∈ ks := fun x => by
                      rw [List.mem_append, hmem x]
                      exact ⟨fun h => h.elim id fun h => (Hok.out x h).1, .inl⟩
                    have Hmm := keep hmem
                    have Hmm2 := keep hmem2
                    have cK := fun (W : World) (hW : Fr wr W) => kinds_at hkr hW m d Hm.out.symm (by omega) hwf
                    rw [← ord_kinds Ho.out (fun k hk => (hok k hk).2)] at cK
                    have Hcl := keep hok
                    obtain ⟨i0, hi0, hz0, hz1, hz2⟩ := info_parts info_key
                    clear hlen hmem hmem2 hs1 hs2 hlo hhi hf5 ho5 hg5 hg6 hkr6 hownr hok
                    go_wp2_with fail
                    refine (cK _ hf6).mono ?_
                    rintro e w7 ⟨rfl, hf7⟩
                    have hF7 := fr_step hf6 hf7
                    have ho7 := ho6.below hf7 (Nat.le_refl _)
                    clear hf7 ho6
                    go_wp2_with fail
                    refine (key_order A3 m c3 ls _ Hls.out (by omega) hwl ho7.has).mono ?_
                    rintro e w8 ⟨A4, c4, o4, rfl, ho4, hh4, hf8⟩
                    have hF8 := fr_step hF7 hf8
                    have ho8 := ho7.below hf8 (Nat.le_refl _)
                    have Ho4 := keep ho4
                    have hh8 := (hhr.below hF8).mono hF8.size
                    clear ho7 hf8 ho4
                    go_wp2_with fail
                    refine (same_ord hwl hwf Ho4.out Ho.out Hmm.out (by rw [Hls.out]; omega) (by rw [← Hm.out]; omega) c4 c1 hh4 hh8).mono ?_
                    rintro e w9 ⟨rfl, hf9⟩
                    have hF9 := fr_step hF8 hf9
                    have ho9 := ho8.below hf9 (Nat.le_refl _)
                    have hh9 := (hhr.below hF9).mono hF9.size
                    clear ho8 hf9 hh4 hh8
                    go_wp2_with (first
                      | (at_builtin; refine wpList_append_hasG ?_ (.tmp 93) (.tmp 94) 25 rfl wr.heap.size 24 i0 _ 9 16 Try.underlying25 hi0 hz0 hz1 hz2 rfl (by omega) A3 m c3 (flat ls) rfl ho9 _ A1 os.length c1 (flat os) rfl (flat_len os) hh9 (flat_one _) (by unfold maxLen; omega) (by omega) hF9.size ?_
                         · go_simp
                         intro D2 d2 w10 ho10 hg10)
                      | fail)
                    have hF10 := below_grown hF9 ho9 hg10 hF9.size (Nat.le_refl _)
                    rw [← flat_append] at ho10
                    clear ho9 hg10 hh9
                    refine (key_order D2 (m + os.length) d2 (ls ++ os) _ (by rw [List.length_append, Hls.out]) (by omega) hwlo ho10.has).mono ?_
                    rintro e w11 ⟨A5, c5, o5, rfl, ho5, hh5, hf11⟩
                    have hF11 := fr_step hF10 hf11
                    have Ho5 := keep ho5
                    have hh11 := (hhr.below hF11).mono hF11.size
                    clear hf11 ho5
                    go_wp2_with fail
                    refine (same_ord hwlo hwf Ho5.out Ho.out Hmm2.out (by rw [List.length_append, Hls.out]; omega) (by rw [← Hm.out]; omega) c5 c1 hh5 hh11).mono ?_
                    rintro e w12 ⟨rfl, hf12⟩
                    have hF12 := fr_step hF11 hf12
                    clear hf12 hh5 hh11
                    go_wp2_with fail
                    refine (awake _).mono ?_
                    rintro e w13 ⟨rfl, hf13⟩
                    have hF13 := fr_step hFr (fr_step hF12 hf13)
                    clear hf13
                    go_wp2_with fail
                    go_ret
                    exact ⟨rfl, hF13⟩
                · have hkm : k ≤ m := by omega
                  have hkn : ¬ (k : Int) < 0 := by omega
                  go_wp2_with fail
                  have hcap := hownr.cap
                  have hs1 := key_sliceAt_lo D m d k hkm hcap
                  have hs2 := key_sliceAt_hi D m d k hkm hcap
                  have hml2 := Hm.out
                  have hlo := has_low (c := d) hkr (show k ≤ ks.length by omega) (show ks.length ≤ d by omega)
                  have hhi := has_hi hkr k
                  have Hl1 : Hid ((ks.take k).length = k) := keep (by simp; omega)
                  have Hl2 : Hid ((ks.drop k).length = m - k) := keep (by simp; omega)
                  clear hml2
                  go_region_law (first
                    | (refine step_append_key (w0 := wr) rfl (.tmp 72) (.tmp 75) rfl ?_ (some ⟨wr.heap.size, 0, none⟩) 0 0 [] ?_ ?_ wr.heap.size (lowA D d k) (m - k) (d - k) (ks.drop k) ?_ Hl2.out ?_ (by omega) ?_
                       · with_reducible first | exact fr_drew (fr_new (fr_refl wr) _) | exact fr_new (fr_drew (fr_refl wr)) _
                       · go_simp
                       · first | exact own_empty_drew wr _ (Nat.le_refl _) | exact own_empty wr.drew _ (Nat.le_refl _)
                       · go_simp
                       · first | exact hlo.below (fr_drew (fr_new (fr_refl wr) _)) | exact hlo.below (fr_new (fr_drew (fr_refl wr)) _)
                       intro A2 c2 w5 ho5 hf5 hg5
                       rw [Nat.zero_add] at ho5)
                    | (refine step_append_key (w0 := wr) rfl (.tmp 76) (.tmp 79) rfl hf5 A2 (m - k) c2 ([] ++ ks.drop k) ?_ ho5 wr.heap.size D k d (ks.take k) ?_ Hl1.out ?_ (by omega) ?_
                       · go_simp
                       · go_simp
                       · exact hhi.below hf5
                       intro A3 c3 w6 ho6 hf6 hg6)
                    | fail)
                  all_goals
                    rw [Nat.sub_add_cancel hkm] at ho6
                    have hkr6 := (hkr.below hf6).mono hf6.size
                    have hlen : ([] ++ ks.drop k ++ ks.take k).length = m := by have h1 := Hl1.out; have h2 := Hl2.out; rw [List.nil_append, List.length_append, h1, h2]; omega
                    have hmem : ∀ x, x ∈ [] ++ ks.drop k ++ ks.take k ↔ x ∈ ks := fun x => by rw [List.nil_append, List.mem_append, Or.comm, ← List.mem_append, List.take_append_drop]
                    generalize [] ++ ks.drop k ++ ks.take k = ls at ho6 hlen hmem
                    have Hls := keep hlen
                    have hwl : WfAll ls := fun x hx => hwf x ((hmem x).1 hx)
                    have hwo : WfAll os := fun x hx => hwf x (Hok.out x hx).1
                    have hwlo : WfAll (ls ++ os) := fun x hx => by
                      rcases List.mem_append.1 hx with h | h
                      · exact hwl x h
                      · exact hwo x h
                    have hmem2 : ∀ x, x ∈ ls ++ os ↔ x ∈ ks := fun x => by
                      rw [List.mem_append, hmem x]
                      exact ⟨fun h => h.elim id fun h => (Hok.out x h).1, .inl⟩
                    have Hmm := keep hmem
                    have Hmm2 := keep hmem2
                    have cK := fun (W : World) (hW : Fr wr W) => kinds_at hkr hW m d Hm.out.symm (by omega) hwf
                    rw [← ord_kinds Ho.out (fun k hk => (hok k hk).2)] at cK
                    have Hcl := keep hok
                    obtain ⟨i0, hi0, hz0, hz1, hz2⟩ := info_parts info_key
                    clear hlen hmem hmem2 hs1 hs2 hlo hhi hf5 ho5 hg5 hg6 hkr6 hownr hok
                    go_wp2_with fail
                    refine (cK _ hf6).mono ?_
                    rintro e w7 ⟨rfl, hf7⟩
                    have hF7 := fr_step hf6 hf7
                    have ho7 := ho6.below hf7 (Nat.le_refl _)
                    clear hf7 ho6
                    go_wp2_with fail
                    refine (key_order A3 m c3 ls _ Hls.out (by omega) hwl ho7.has).mono ?_
                    rintro e w8 ⟨A4, c4, o4, rfl, ho4, hh4, hf8⟩
                    have hF8 := fr_step hF7 hf8
                    have ho8 := ho7.below hf8 (Nat.le_refl _)
                    have Ho4 := keep ho4
                    have hh8 := (hhr.below hF8).mono hF8.size
                    clear ho7 hf8 ho4
                    go_wp2_with fail
                    refine (same_ord hwl hwf Ho4.out Ho.out Hmm.out (by rw [Hls.out]; omega) (by rw [← Hm.out]; omega) c4 c1 hh4 hh8).mono ?_
                    rintro e w9 ⟨rfl, hf9⟩
                    have hF9 := fr_step hF8 hf9
                    have ho9 := ho8.below hf9 (Nat.le_refl _)
                    have hh9 := (hhr.below hF9).mono hF9.size
                    clear ho8 hf9 hh4 hh8
                    go_wp2_with (first
                      | (at_builtin; refine wpList_append_hasG ?_ (.tmp 93) (.tmp 94) 25 rfl wr.heap.size 24 i0 _ 9 16 Try.underlying25 hi0 hz0 hz1 hz2 rfl (by omega) A3 m c3 (flat ls) rfl ho9 _ A1 os.length c1 (flat os) rfl (flat_len os) hh9 (flat_one _) (by unfold maxLen; omega) (by omega) hF9.size ?_
                         · go_simp
                         intro D2 d2 w10 ho10 hg10)
                      | fail)
                    have hF10 := below_grown hF9 ho9 hg10 hF9.size (Nat.le_refl _)
                    rw [← flat_append] at ho10
                    clear ho9 hg10 hh9
                    refine (key_order D2 (m + os.length) d2 (ls ++ os) _ (by rw [List.length_append, Hls.out]) (by omega) hwlo ho10.has).mono ?_
                    rintro e w11 ⟨A5, c5, o5, rfl, ho5, hh5, hf11⟩
                    have hF11 := fr_step hF10 hf11
                    have Ho5 := keep ho5
                    have hh11 := (hhr.below hF11).mono hF11.size
                    clear hf11 ho5
                    go_wp2_with fail
                    refine (same_ord hwlo hwf Ho5.out Ho.out Hmm2.out (by rw [List.length_append, Hls.out]; omega) (by rw [← Hm.out]; omega) c5 c1 hh5 hh11).mono ?_
                    rintro e w12 ⟨rfl, hf12⟩
                    have hF12 := fr_step hF11 hf12
                    clear hf12 hh5 hh11
                    go_wp2_with fail
                    refine (awake _).mono ?_
                    rintro e w13 ⟨rfl, hf13⟩
                    have hF13 := fr_step hFr (fr_step hF12 hf13)
                    clear hf13
                    go_wp2_with fail
                    go_ret
                    exact ⟨rfl, hF13⟩
              · have hkm : 0 ≤ m := Nat.zero_le _
                go_wp2_with fail
                have hcap := hownr.cap
                have hs1 := key_sliceAt_lo D m d 0 hkm hcap
                rw [Int.natCast_zero] at hs1
                have hs2 := key_sliceAt_hi D m d 0 hkm hcap
                rw [Int.natCast_zero] at hs2
                have hml2 := Hm.out
                have hlo := has_low (c := d) hkr (show 0 ≤ ks.length by omega) (show ks.length ≤ d by omega)
                have hhi := has_hi hkr 0
                have Hl1 : Hid ((ks.take 0).length = 0) := keep (by simp)
                have Hl2 : Hid ((ks.drop 0).length = m - 0) := keep (by simp; omega)
                clear hml2
                go_region_law (first
                  | (refine step_append_key (w0 := wr) rfl (.tmp 72) (.tmp 75) rfl ?_ (some ⟨wr.heap.size, 0, none⟩) 0 0 [] ?_ ?_ wr.heap.size (lowA D d 0) (m - 0) (d - 0) (ks.drop 0) ?_ Hl2.out ?_ (by omega) ?_
                     · with_reducible first | exact fr_drew (fr_new (fr_refl wr) _) | exact fr_new (fr_drew (fr_refl wr)) _
                     · go_simp
                     · first | exact own_empty_drew wr _ (Nat.le_refl _) | exact own_empty wr.drew _ (Nat.le_refl _)
                     · go_simp
                     · first | exact hlo.below (fr_drew (fr_new (fr_refl wr) _)) | exact hlo.below (fr_new (fr_drew (fr_refl wr)) _)
                     intro A2 c2 w5 ho5 hf5 hg5
                     rw [Nat.zero_add] at ho5)
                  | (refine step_append_key (w0 := wr) rfl (.tmp 76) (.tmp 79) rfl hf5 A2 (m - 0) c2 ([] ++ ks.drop 0) ?_ ho5 wr.heap.size D 0 d (ks.take 0) ?_ Hl1.out ?_ (by omega) ?_
                     · go_simp
                     · go_simp
                     · exact hhi.below hf5
                     intro A3 c3 w6 ho6 hf6 hg6)
                  | fail)
                all_goals
                  rw [Nat.sub_add_cancel hkm] at ho6
                  have hkr6 := (hkr.below hf6).mono hf6.size
                  have hlen : ([] ++ ks.drop 0 ++ ks.take 0).length = m := by have h1 := Hl1.out; have h2 := Hl2.out; rw [List.nil_append, List.length_append, h1, h2]; omega
                  have hmem : ∀ x, x ∈ [] ++ ks.drop 0 ++ ks.take 0 ↔ x ∈ ks := fun x => by rw [List.nil_append, List.mem_append, Or.comm, ← List.mem_append, List.take_append_drop]
                  generalize [] ++ ks.drop 0 ++ ks.take 0 = ls at ho6 hlen hmem
                  have Hls := keep hlen
                  have hwl : WfAll ls := fun x hx => hwf x ((hmem x).1 hx)
                  have hwo : WfAll os := fun x hx => hwf x (Hok.out x hx).1
                  have hwlo : WfAll (ls ++ os) := fun x hx => by
                    rcases List.mem_append.1 hx with h | h
                    · exact hwl x h
                    · exact hwo x h
                  have hmem2 : ∀ x, x ∈ ls ++ os ↔ x ∈ ks := fun x => by
                    rw [List.mem_append, hmem x]
                    exact ⟨fun h => h.elim id fun h => (Hok.out x h).1, .inl⟩
                  have Hmm := keep hmem
                  have Hmm2 := keep hmem2
                  have cK := fun (W : World) (hW : Fr wr W) => kinds_at hkr hW m d Hm.out.symm (by omega) hwf
                  rw [← ord_kinds Ho.out (fun k hk => (hok k hk).2)] at cK
                  have Hcl := keep hok
                  obtain ⟨i0, hi0, hz0, hz1, hz2⟩ := info_parts info_key
                  clear hlen hmem hmem2 hs1 hs2 hlo hhi hf5 ho5 hg5 hg6 hkr6 hownr hok
                  go_wp2_with fail
                  refine (cK _ hf6).mono ?_
                  rintro e w7 ⟨rfl, hf7⟩
                  have hF7 := fr_step hf6 hf7
                  have ho7 := ho6.below hf7 (Nat.le_refl _)
                  clear hf7 ho6
                  go_wp2_with fail
                  refine (key_order A3 m c3 ls _ Hls.out (by omega) hwl ho7.has).mono ?_
                  rintro e w8 ⟨A4, c4, o4, rfl, ho4, hh4, hf8⟩
                  have hF8 := fr_step hF7 hf8
                  have ho8 := ho7.below hf8 (Nat.le_refl _)
                  have Ho4 := keep ho4
                  have hh8 := (hhr.below hF8).mono hF8.size
                  clear ho7 hf8 ho4
                  go_wp2_with fail
                  refine (same_ord hwl hwf Ho4.out Ho.out Hmm.out (by rw [Hls.out]; omega) (by rw [← Hm.out]; omega) c4 c1 hh4 hh8).mono ?_
                  rintro e w9 ⟨rfl, hf9⟩
                  have hF9 := fr_step hF8 hf9
                  have ho9 := ho8.below hf9 (Nat.le_refl _)
                  have hh9 := (hhr.below hF9).mono hF9.size
                  clear ho8 hf9 hh4 hh8
                  go_wp2_with (first
                    | (at_builtin; refine wpList_append_hasG ?_ (.tmp 93) (.tmp 94) 25 rfl wr.heap.size 24 i0 _ 9 16 Try.underlying25 hi0 hz0 hz1 hz2 rfl (by omega) A3 m c3 (flat ls) rfl ho9 _ A1 os.length c1 (flat os) rfl (flat_len os) hh9 (flat_one _) (by unfold maxLen; omega) (by omega) hF9.size ?_
                       · go_simp
                       intro D2 d2 w10 ho10 hg10)
                    | fail)
                  have hF10 := below_grown hF9 ho9 hg10 hF9.size (Nat.le_refl _)
                  rw [← flat_append] at ho10
                  clear ho9 hg10 hh9
                  refine (key_order D2 (m + os.length) d2 (ls ++ os) _ (by rw [List.length_append, Hls.out]) (by omega) hwlo ho10.has).mono ?_
                  rintro e w11 ⟨A5, c5, o5, rfl, ho5, hh5, hf11⟩
                  have hF11 := fr_step hF10 hf11
                  have Ho5 := keep ho5
                  have hh11 := (hhr.below hF11).mono hF11.size
                  clear hf11 ho5
                  go_wp2_with fail
                  refine (same_ord hwlo hwf Ho5.out Ho.out Hmm2.out (by rw [List.length_append, Hls.out]; omega) (by rw [← Hm.out]; omega) c5 c1 hh5 hh11).mono ?_
                  rintro e w12 ⟨rfl, hf12⟩
                  have hF12 := fr_step hF11 hf12
                  clear hf12 hh5 hh11
                  go_wp2_with fail
                  refine (awake _).mono ?_
                  rintro e w13 ⟨rfl, hf13⟩
                  have hF13 := fr_step hFr (fr_step hF12 hf13)
                  clear hf13
                  go_wp2_with fail
                  go_ret
                  exact ⟨rfl, hF13⟩
  · have d1 : decide ((30 : Int) < (n : Int)) = true := by simp; omega
    go_enter Try.func8, Try.ntmps8
    go_wp2_with fail
    refine (awake _).mono ?_
    rintro e w1 ⟨rfl, hf1⟩
    go_wp2_with fail
    go_ret
    exact ⟨rfl, hf1⟩
end Go.Proofs.Ytfjglbkolhadaaa
