/- Inner nodes by numbers (package 00's Inner); kids and pivots of one. -/
import Derived.Test.YtcdcaanmmbopbaaFnE
import Derived.Test.YtcdcaanmmbopbaaOrP
namespace Go.Proofs.Ytcdcaanmmbopbaa
set_option maxRecDepth 100000
open Go.RowKit
set_option linter.unusedVariables false
theorem node_info : (Try.prog.info? 27).map (·.size) = some 5 := by kernel_rfl
theorem nodeS : Sty Try.prog 27 5 := ⟨node_info, _, Try.underlying27, rfl⟩
theorem node_ld (p : Value) : Instr.loadAt 27 p = ldS 27 p := rfl
attribute [local go_sem ↓] key_ld msg_ld node_ld
/-- The five cells of an inner node. -/
def nodeC (K P M : Value) : List Value := [.bool false, .slice none 0 0, K, P, M]
theorem nodeC_len (K P M : Value) : (nodeC K P M).length = 5 := rfl
theorem nodeC_one (A A2 A3 : Option Addr) (n c n2 c2 n3 c3 : Nat) : One (nodeC (.slice A n c) (.slice A2 n2 c2) (.slice A3 n3 c3)) := fun v hv => by
  simp only [nodeC, List.mem_cons, List.not_mem_nil, or_false] at hv
  rcases hv with rfl | rfl | rfl | rfl | rfl <;> rfl
def kidsL (np : Nat) (f : Int) : List Int := (List.range (np + 1)).map fun i : Nat => 1 + f % 200 + 7 * (i : Int)
theorem kidsL_len (np : Nat) (f : Int) : (kidsL np f).length = np + 1 := by simp [kidsL]
theorem kidsL_get {np : Nat} {f : Int} {j : Nat} (h : j ≤ np) : (kidsL np f)[j]? = some (1 + f % 200 + 7 * (j : Int)) := by
  rw [kidsL, List.getElem?_map, List.getElem?_range (by omega)]
  rfl
theorem kidsL_step {np : Nat} {f : Int} {j : Nat} (h : j ≤ np) : (kidsL np f).take (j + 1) = (kidsL np f).take j ++ [1 + f % 200 + 7 * (j : Int)] := take_one (kidsL_get h)
/-- 'append(s, x...)' beside a block that stays. -/
theorem wpList_append_beside {P : Program} {w0 w : World} {t e size bytes : Nat} {g T : Nat} {cs : Array Value} {ops : Array Oper} {rest : List Oper} {o : Oper} {a : Act} {Q : Exit → Act → World → Prop} (E : Elem P e size bytes) (ht : P.underlying t = some (.slice e)) (hsz : 0 < size) (hgd : o.guard = none) (s x : Operand)
    (hop : o.op = .call { callee := .builtin .append, args := #[s, x], argTypes := #[t, t] }) (h0 : Fr w0 w) (hg0 : w0.heap.size = g) (ha : Arr w g T cs)
    (A : Option Addr) (n c1 : Nat) (xs : List Value) (hs : a.eval s = .slice A n c1) (ho : Own w (g + 1) e size A n c1 xs)
    (C : Nat) (A2 : Option Addr) (m c2 : Nat) (news : List Value) (hx : a.eval x = .slice A2 m c2) (hl : news.length = m * size) (hn : Has w C A2 news) (h1 : One news)
    (h63 : n + m ≤ maxLen) (hbytes : (n + m) * bytes ≤ 140737488355328)
    (h : ∀ A' c' w', Own w' (g + 1) e size A' (n + m) c' (xs ++ news) → Fr w0 w' → Arr w' g T cs → wpList P ops Q rest (a.put o.dst (.slice A' (n + m) c')) w') :
    wpList P ops Q (o :: rest) a w := by
  obtain ⟨i, z, hi, hz, hsize, hby, hzs⟩ := E.row
  have hlt := ha.lt
  refine wpList_append_has w hgd s x t hop (g + 1) e i z size bytes ht hi hz hsize hby hzs hsz A n c1 xs hs ho C A2 m c2 news hx hl hn h1 h63 hbytes hlt ?_
  intro A' c' w' h1 h2 h3
  refine h A' c' w' h1 (below_grown h0 ho h2 h0.size (by omega)) ?_
  refine (h2.block g hlt fun e' => ?_).trans ha
  have := (ho.lt g e'.symm).1
  omega
theorem own_kept {w W : World} {B e size n c g : Nat} {A : Option Addr} {xs : List Value} (h : Own w B e size A n c xs) (k : Kept w W g) (hg : g < B) : Own W B e size A n c xs := by
  refine ⟨h.1, ?_⟩
  rcases h.2 with hn | ⟨b, cap, cur, hv, hb, hA, h1, h2, h3, h4⟩
  · exact .inl hn
  · exact .inr ⟨b, cap, cur, hv, hb, k.other hA (by omega), h1, h2, h3, h4⟩
theorem own_setCell {w : World} {B e size n c : Nat} {A : Option Addr} {xs : List Value} (h : Own w B e size A n c xs) (p : Addr) (hg : p.block < B) (v : Value) : Own (w.setCell p v) B e size A n c xs := by
  refine ⟨h.1, ?_⟩
  rcases h.2 with hn | ⟨b, cap, cur, hv, hb, hA, h1, h2, h3, h4⟩
  · exact .inl hn
  · exact .inr ⟨b, cap, cur, hv, hb, Arr.other hA p (by omega) v, h1, h2, h3, h4⟩
def InnerOut (W0 : World) (ks : List Int) (ps : List RK) (q : List RM) (e : Ending) (w' : World) : Prop := ∃ A c A2 c2 A3 c3, e = .returned (.agg (nodeC (.slice A ks.length c) (.slice A2 ps.length c2) (.slice A3 q.length c3)).toArray) ∧ Hid (OwnI w' 0 A c ks) ∧ Hid (OwnK w' 0 A2 c2 ps) ∧ Hid (OwnM w' 0 A3 c3 q) ∧ Fr W0 w'
set_option maxHeartbeats 4000000 in
theorem law_inner {w : World} {A A2 : Option Addr} {n c B n2 c2 B2 : Nat} {ns ms : List Int} {f : Int} (hl : Has w B A (ns.map (Value.int .i64))) (hB : B ≤ w.heap.size) (hn : ns.length = n) (hns : ∀ z ∈ ns, Is64 z) (hnm : n < maxLen) (hf : Is64 f)
    (hl2 : Has w B2 A2 (ms.map (Value.int .i64))) (hB2 : B2 ≤ w.heap.size) (hn2 : ms.length = n2) (hms : ∀ z ∈ ms, Is64 z) (hnm2 : n2 ≤ maxLen) (hby : (1 + n) * 8 ≤ 140737488355328) :
    Calls Try.prog 10 #[.slice A n c, .int .i64 f, .slice A2 n2 c2] w (InnerOut w (kidsL (pivsL (16 :: ns) 3).length f) (pivsL (16 :: ns) 3) (msgsL ms 205)) := by
  have hlen := pivsJ_len (16 :: ns) 3 (by omega) (min (16 :: ns).length 20)
  change ((pivsL (16 :: ns) 3).length : Int) ≤ 3 at hlen
  have h16 : ∀ z ∈ (16 :: ns), Is64 z := fun z hz => by
    rcases List.mem_cons.1 hz with rfl | hz
    · unfold Is64; omega
    · exact hns z hz
  obtain ⟨Z, hZ, hF, hZZ, hG⟩ : ∃ Z, w.alloc (.cells #[.bool false, .slice none 0 0, .slice none 0 0, .slice none 0 0, .slice none 0 0] 27) = Z ∧ Fr w Z ∧ Fr Z Z ∧ Arr Z w.heap.size 27 #[.bool false, .slice none 0 0, .slice none 0 0, .slice none 0 0, .slice none 0 0] := ⟨_, rfl, fr_new (fr_refl w) _, fr_refl _, Arr.new _ _ _⟩
  have cPv := fun W A' c' (hW : Fr Z W) (ho : Own W Z.heap.size 3 1 A' (1 + n) c' (ints [16] ++ ints ns)) => law_pivs (w := W) (A := A') (n := 1 + n) (c := c') (ns := 16 :: ns) (most := 3) (by simpa [ints] using ho.has) (Nat.le_refl _) (by simp; omega) h16 (by omega) (by omega)
  have cMs := fun W (hW : Fr w W) => law_msgs (w := W) (c := c2) (most := 205) (hl2.fr hB2 hW) (Nat.le_trans hB2 hW.size) hn2 hms (by omega) hnm2
  have cPl := fun W => law_place f 200 hf (by omega) (by omega) W
  have hql := msgsL_len ms 205
  generalize hps : pivsL (16 :: ns) 3 = ps at *
  generalize hqs : msgsL ms 205 = qs at *
  generalize hnp : ps.length = np at *
  obtain ⟨q, hq⟩ : ∃ q, f % 200 = q := ⟨_, rfl⟩
  have hq0 : 0 ≤ q ∧ q < 200 := by omega
  have hq1 := hq0.1
  have hq2 := hq0.2
  have cPl2 : ∀ W, Calls Try.prog 28 #[.int .i64 f, .int .i64 200] W fun e w' => e = .returned (.int .i64 q) ∧ Fr W w' := fun W => by
    have := cPl W
    rw [show f % ((200 : Nat) : Int) = q from hq] at this
    exact this
  have hst : Hid (∀ j, j ≤ np → (kidsL np f).take (j + 1) = (kidsL np f).take j ++ [1 + q + 7 * (j : Int)]) := keep (fun j hj => by rw [kidsL_step hj, hq])
  have hkl : Hid ((kidsL np f).length = np + 1) := keep (kidsL_len np f)
  have HG := keep hG
  have hlZ := keep (hl.fr hB hF)
  have Hn := keep hn
  have hB3 := Nat.le_trans hB hF.size
  have hF1 := keep hF
  have Hnp := keep hnp
  clear hps hqs hnp hq hq0 cPl hn hn2 hns hms h16 hl hl2 hf hG hF
  generalize kidsL np f = kl at *
  go_enter Try.func10, Try.ntmps10
  have tok : Hid (0 < 1) := keep (by decide)
  go_wp2_with (first
    | (clear tok; refine wpList_append_vals (w0 := Z) int_elem ints_und (by decide) rfl (.tmp 10) (.tmp 11) rfl (fr_new hZZ _) (some ⟨Z.heap.size, 0, none⟩) 1 1 (ints [16]) rfl (Own.lit Z Z.heap.size 3 #[.int .i64 16] 1 1 (Nat.le_refl _) (by decide) rfl) B A n c (ints ns) rfl (by rw [ints_len, Hn.out, Nat.mul_one]) (hlZ.out.fr hB3 (fr_new hZZ _)) (ints_one _) (by omega) hby ?_; intro A5 c5 w1 o1 f1)
    | fail)
  refine (cPv _ _ _ f1 o1).mono ?_
  rintro e w2 ⟨A6, c6, rfl, o2, f2⟩
  have o2h := keep o2
  clear o1 cPv o2
  go_wp2_with fail
  refine (cMs _ (fr_step hF1.out (fr_step f1 f2))).mono ?_
  rintro e v ⟨A7, c7, rfl, o3, f3⟩
  have o3h := keep (o3.mono (Nat.le_trans f1.size f2.size))
  replace o2h := keep ((Own.below o2h.out f3 (Nat.le_refl _)).mono f1.size)
  have f4 : Fr Z v := fr_step (fr_step f1 f2) f3
  have HF4 := keep (fr_step hF1.out f4)
  have vv := fr_refl v
  clear cMs o3 f1 f2 f3
  have tok2 : Hid (0 < 1) := keep (by decide)
  go_wp2_with (first
    | (clear tok2; refine wpList_store_at (ds := nodeC (.slice none 0 0) (.slice A6 np c6) (.slice A7 qs.length c7)) node_info rfl (.tmp 7) (.tmp 16) rfl v.heap.size 0 rfl rfl rfl (nodeC_one _ _ _ _ _ _ _ _ _) (Arr.new v #[.bool false, .slice none 0 0, .slice none 0 0, .slice none 0 0, .slice none 0 0] 27) (by decide) (splice_all _ _ (Nat.le_of_eq rfl)) ?_; intro W5 hM5 hk5; have hF5 := hk5.fr (fr_new vv _) (Nat.le_refl _); clear hk5)
    | fail)
  refine (cPl2 _).mono ?_
  rintro e W6 ⟨rfl, f6⟩
  replace hM5 := hM5.below f6 hM5.lt
  replace hF5 := fr_step hF5 f6
  clear cPl2 f6
  go_wp2_with fail
  go_loopg [9] (np + 1) (fun g s9 wr => ∃ (j : Nat) (D : Option Addr) (d : Nat), j + g = np + 1 ∧ s9 = .int .i64 j ∧ Hid (Arr wr v.heap.size 27 (nodeC (.slice D j d) (.slice A6 np c6) (.slice A7 qs.length c7)).toArray) ∧ Hid (Own wr (v.heap.size + 1) 3 1 D j d (ints (kl.take j))) ∧ Hid (Fr v wr))
  case atStart => exact ⟨0, none, 0, by omega, rfl, keep hM5, keep (by rw [List.take_zero]; exact Own.nil _ _ _ _), keep hF5⟩
  case round =>
    obtain ⟨j, D, d, hj, rfl, hM, hO, hW⟩ := hrel
    have hWW := hW.out
    have cl2 : wr.cell? ⟨v.heap.size, 2, none⟩ = some (.slice D j d) := hM.out.cell 2
    have cl3 : wr.cell? ⟨v.heap.size, 3, none⟩ = some (.slice A6 np c6) := hM.out.cell 3
    by_cases hlt : j ≤ np
    · have hjz : (j : Int) ≤ (np : Int) := by omega
      have hs := keep (hst.out j hlt)
      have tok3 : Hid (0 < 1) := keep (by decide)
      go_wp2_with (first
        | (clear tok3; refine wpList_append_beside (w0 := v) int_elem ints_und (by decide) rfl (.tmp 28) (.tmp 33) rfl (fr_new hWW _) rfl (hM.out.alloc _) D j d (ints (kl.take j)) rfl (hO.out.alloc _) (wr.heap.size + 1) (some ⟨wr.heap.size, 0, none⟩) 1 1 (ints [1 + q + 7 * (j : Int)]) rfl rfl (has_one wr _ _) (ints_one _) (by unfold maxLen; omega) (by omega) ?_; intro D2 d2 w7 o7 f7 m7; have z2 : w7.cell? ⟨v.heap.size, 2, none⟩ = some (.slice D j d) := m7.cell 2; have z3 := m7.free 2)
        | fail)
      go_roundg (gk - 1)
      case measure => omega
      case rel => exact ⟨j + 1, D2, d2, by omega, rfl, keep (m7.set 2 _), by rw [hs.out, ints_app]; exact keep (own_setCell o7 _ (Nat.lt_succ_self _) _), keep (f7.setCell (Nat.le_refl _) _)⟩
    · have hjn : j = np + 1 := by omega
      subst hjn
      have hjz : ¬ ((np : Int) + 1 ≤ (np : Int)) := by omega
      have hall : kl.take (np + 1) = kl := List.take_of_length_le (by rw [hkl.out]; omega)
      rw [hall] at hO
      have lN : (ldS 27 (.pointer (some ⟨v.heap.size, 0, none⟩))).run Try.prog wr = .ok (.agg (nodeC (.slice D (np + 1) d) (.slice A6 np c6) (.slice A7 qs.length c7)).toArray) wr := nodeS.ld rfl hM.out
      have hG2 := HG.out.below (fr_step f4 hWW) HG.out.lt
      clear hlt hj hall
      have tok4 : Hid (0 < 1) := keep (by decide)
      go_wp2_with (first
        | (clear tok4; refine wpList_store_at (ds := nodeC (.slice D (np + 1) d) (.slice A6 np c6) (.slice A7 qs.length c7)) node_info rfl (.tmp 6) (.tmp 36) rfl w.heap.size 0 rfl rfl rfl (nodeC_one _ _ _ _ _ _ _ _ _) hG2 (by decide) (splice_all _ _ (Nat.le_of_eq rfl)) ?_; intro W8 hM8 hk8)
        | fail)
      have hz : w.heap.size < Z.heap.size := HG.out.lt
      have hv : Z.heap.size ≤ v.heap.size := f4.size
      refine bodyPost_ret (nodeS.result rfl _ w.heap.size rfl rfl hM8) rfl ?_
      exact ⟨D, d, A6, c6, A7, c7, by rw [hkl.out, Hnp.out], by unfold OwnI; rw [hkl.out]; exact keep ((own_kept hO.out hk8 (by omega)).mono (Nat.zero_le _)), keep ((own_kept (Own.below o2h.out hWW (Nat.le_refl _)) hk8 hz).mono (Nat.zero_le _)), keep ((own_kept (Own.below o3h.out hWW (Nat.le_refl _)) hk8 hz).mono (Nat.zero_le _)), hk8.fr (fr_step HF4.out hWW) (Nat.le_refl _)⟩
end Go.Proofs.Ytcdcaanmmbopbaa
/- Kids and pivots by numbers; the chapter's examples (awake). -/
namespace Go.Proofs.Ytcdcaanmmbopbaa
set_option maxRecDepth 100000
open Go.RowKit
set_option linter.unusedVariables false
attribute [local go_sem ↓] key_ld msg_ld node_ld
def TwoOut (W0 : World) (ks : List Int) (ps : List RK) (e : Ending) (w' : World) : Prop := ∃ A c A2 c2, e = .returned (.tuple #[.slice A ks.length c, .slice A2 ps.length c2]) ∧ Hid (OwnI w' 0 A c ks) ∧ Hid (OwnK w' 0 A2 c2 ps) ∧ Fr W0 w'
theorem node_store {w : World} {K P M : Value} : ∃ Z, w.alloc (.cells #[.bool false, .slice none 0 0, .slice none 0 0, .slice none 0 0, .slice none 0 0] 27) = Z ∧ Fr w Z := ⟨_, rfl, fr_new (fr_refl w) _⟩
theorem own_int_at {W : World} {A : Option Addr} {n c : Nat} {l : List Int} (ho : Own W 0 3 1 A n c (ints l)) {j : Nat} {v : Int} (hv : l[j]? = some v) : ∃ b off, A = some ⟨b, off, none⟩ ∧ ∀ w', Fr W w' → w'.cell? ⟨b, off + j, none⟩ = some (.int .i64 v) := by
  obtain ⟨b, off, e, hb, hx⟩ := ho.has j _ (ints_get hv)
  exact ⟨b, off, e, fun w' h => (h.cell (by show b < W.heap.size; exact hb)).trans hx⟩
theorem awake_math : ∃ a b c d e : RK, lawK 0 = a ∧ lawK 8 = b ∧ lawK 24 = c ∧ lawK 32 = d ∧ lawK 40 = e ∧ code a < code b ∧ code b < code c ∧ code c < code d ∧ code d < code e := ⟨_, _, _, _, _, rfl, rfl, rfl, rfl, rfl, by decide +kernel, by decide +kernel, by decide +kernel, by decide +kernel⟩
end Go.Proofs.Ytcdcaanmmbopbaa
/- A kid more, both halves: to which kid a key goes then. No program text. -/
namespace Go.Proofs.Ytcdcaanmmbopbaa
set_option maxRecDepth 100000
open Go.RowKit
set_option linter.unusedVariables false
theorem kidN_uniq {ps : List RK} {c : Int} {k : Nat} (op : OkP ps) (hk : k ≤ ps.length) (h1 : ∀ j p, j < k → ps[j]? = some p → code p ≤ c) (h2 : ∀ j p, k ≤ j → ps[j]? = some p → c < code p) : kidN ps c = k := by
  have hle := kidN_le ps c
  have hg : ∀ {j : Nat} (h : j < ps.length), (ps.map code).getD j 0 = code ps[j] := fun {j} h => by rw [List.getD_eq_getElem?_getD, List.getElem?_map, List.getElem?_eq_getElem h]; rfl
  rcases Nat.lt_trichotomy (kidN ps c) k with h | h | h
  · have := kidN_hi (c := c) op (Nat.le_refl _) (show kidN ps c < ps.length by omega)
    rw [hg (by omega)] at this
    have := h1 (kidN ps c) _ h (List.getElem?_eq_getElem (by omega))
    omega
  · exact h
  · have := kidN_lo (ps := ps) (c := c) h
    rw [hg (by omega)] at this
    have := h2 k _ (Nat.le_refl _) (List.getElem?_eq_getElem (by omega))
    omega
theorem kidN_below {ps : List RK} {c : Int} {j : Nat} {p : RK} (h : j < kidN ps c) (hp : ps[j]? = some p) : code p ≤ c := by
  have := kidN_lo h
  rwa [List.getD_eq_getElem?_getD, List.getElem?_map, hp] at this
theorem kidN_above {ps : List RK} {c : Int} {j : Nat} {p : RK} (op : OkP ps) (h : kidN ps c ≤ j) (hp : ps[j]? = some p) : c < code p := by
  have := kidN_hi (c := c) op h (List.getElem?_eq_some_iff.1 hp).1
  rwa [List.getD_eq_getElem?_getD, List.getElem?_map, hp] at this
/-- The pivots with one more at its place. -/
theorem ins_get {ps : List RK} {x : RK} {i j : Nat} {p : RK} (hi : i ≤ ps.length) (h : (ps.take i ++ x :: ps.drop i)[j]? = some p) : (j < i ∧ ps[j]? = some p) ∨ (j = i ∧ p = x) ∨ (i < j ∧ ps[j - 1]? = some p) := by
  have hl : (ps.take i).length = i := by rw [List.length_take]; omega
  rcases Nat.lt_trichotomy j i with h1 | h1 | h1
  · rw [List.getElem?_append_left (by omega), List.getElem?_take, if_pos h1] at h
    exact .inl ⟨h1, h⟩
  · rw [List.getElem?_append_right (by omega), hl, h1, Nat.sub_self] at h
    simp at h
    exact .inr (.inl ⟨h1, h.symm⟩)
  · rw [List.getElem?_append_right (by omega), hl] at h
    obtain ⟨t, ht⟩ : ∃ t, j - i = t + 1 := ⟨j - i - 1, by omega⟩
    rw [ht, List.getElem?_cons_succ, List.getElem?_drop] at h
    refine .inr (.inr ⟨h1, ?_⟩)
    rw [← h]
    congr 1
    omega
theorem ins_okP {ps : List RK} {x : RK} (op : OkP ps) (wx : x.wf) (ox : okB x = true) (hn : ∀ p, 0 < kidN ps (code x) → ps[kidN ps (code x) - 1]? = some p → p ≠ x) : OkP (ps.take (kidN ps (code x)) ++ x :: ps.drop (kidN ps (code x))) := by
  have hle := kidN_le ps (code x)
  generalize hi : kidN ps (code x) = i at *
  refine ⟨fun k hk => ?_, ?_⟩
  · rcases List.mem_append.1 hk with h | h
    · exact op.good k (List.mem_of_mem_take h)
    · rcases List.mem_cons.1 h with rfl | h
      · exact ⟨wx, ox⟩
      · exact op.good k (List.mem_of_mem_drop h)
  · have hasc : (ps.take i ++ ps.drop i).Pairwise (fun a b => code a < code b) := by rw [List.take_append_drop]; exact op.asc
    obtain ⟨p1, p2, p3⟩ := List.pairwise_append.1 hasc
    have hup : ∀ y ∈ ps.drop i, code x < code y := fun y hy => by
      obtain ⟨t, ht⟩ := List.mem_iff_getElem?.1 hy
      rw [List.getElem?_drop] at ht
      exact kidN_above op (by omega) ht
    have hlo : ∀ y ∈ ps.take i, code y < code x := fun y hy => by
      obtain ⟨t, ht⟩ := List.mem_iff_getElem?.1 hy
      have hti : t < i := by have := (List.getElem?_eq_some_iff.1 ht).1; rw [List.length_take] at this; omega
      rw [List.getElem?_take, if_pos hti] at ht
      have hle2 : code y ≤ code x := kidN_below (by omega) ht
      have gy := op.good y (List.mem_of_getElem? ht)
      rcases Int.lt_or_eq_of_le hle2 with h | h
      · exact h
      · exfalso
        have e := code_inj gy.1 wx (okB_len' gy.2) (okB_len' ox) h
        subst e
        rcases Nat.eq_or_lt_of_le (show t ≤ i - 1 by omega) with h2 | h2
        · subst h2
          exact hn y (by omega) ht rfl
        · have hp : ps[i - 1]? = some (ps[i - 1]'(by omega)) := List.getElem?_eq_getElem _
          have h3 := kidN_below (c := code y) (ps := ps) (j := i - 1) (by omega) hp
          have h4 := List.pairwise_iff_getElem.1 op.asc t (i - 1) (by omega) (by omega) h2
          obtain ⟨_, e1⟩ := List.getElem?_eq_some_iff.1 ht
          rw [e1] at h4
          omega
    refine List.pairwise_append.2 ⟨p1, List.pairwise_cons.2 ⟨hup, p2⟩, fun a ha b hb => ?_⟩
    rcases List.mem_cons.1 hb with rfl | hb
    · exact hlo a ha
    · exact p3 a ha b hb
theorem ins_kid {ps : List RK} {x : RK} {c : Int} (op : OkP ps) (op' : OkP (ps.take (kidN ps (code x)) ++ x :: ps.drop (kidN ps (code x)))) :
    (c < code x → kidN ps c ≤ kidN ps (code x) ∧ kidN (ps.take (kidN ps (code x)) ++ x :: ps.drop (kidN ps (code x))) c = kidN ps c) ∧
    (code x ≤ c → kidN ps (code x) ≤ kidN ps c ∧ kidN (ps.take (kidN ps (code x)) ++ x :: ps.drop (kidN ps (code x))) c = kidN ps c + 1) := by
  have hle := kidN_le ps (code x)
  have hle2 := kidN_le ps c
  have hlen : (ps.take (kidN ps (code x)) ++ x :: ps.drop (kidN ps (code x))).length = ps.length + 1 := by simp; omega
  constructor
  · intro hc
    have hji : kidN ps c ≤ kidN ps (code x) := by
      rcases Nat.lt_or_ge (kidN ps (code x)) (kidN ps c) with h | h
      · have hp : ps[kidN ps (code x)]? = some (ps[kidN ps (code x)]'(by omega)) := List.getElem?_eq_getElem _
        have := kidN_below h hp
        have := kidN_above op (Nat.le_refl _) hp
        omega
      · exact h
    refine ⟨hji, kidN_uniq op' (by omega) (fun j p hj hp => ?_) (fun j p hj hp => ?_)⟩
    · rcases ins_get hle hp with ⟨_, h⟩ | ⟨h, _⟩ | ⟨h, _⟩
      · exact kidN_below hj h
      · omega
      · omega
    · rcases ins_get hle hp with ⟨_, h⟩ | ⟨_, rfl⟩ | ⟨h1, h⟩
      · exact kidN_above op hj h
      · exact hc
      · exact kidN_above op (by omega) h
  · intro hc
    have hji : kidN ps (code x) ≤ kidN ps c := by
      rcases Nat.lt_or_ge (kidN ps c) (kidN ps (code x)) with h | h
      · have hp : ps[kidN ps c]? = some (ps[kidN ps c]'(by omega)) := List.getElem?_eq_getElem _
        have := kidN_below h hp
        have := kidN_above op (Nat.le_refl _) hp
        omega
      · exact h
    refine ⟨hji, kidN_uniq op' (by omega) (fun j p hj hp => ?_) (fun j p hj hp => ?_)⟩
    · rcases ins_get hle hp with ⟨h1, h⟩ | ⟨_, rfl⟩ | ⟨h1, h⟩
      · exact kidN_below (by omega) h
      · exact hc
      · exact kidN_below (by omega) h
    · rcases ins_get hle hp with ⟨h1, h⟩ | ⟨h1, _⟩ | ⟨h1, h⟩
      · omega
      · omega
      · exact kidN_above op (by omega) h
theorem insI_get {ks : List Int} {i j : Nat} {id : Int} (hi : i < ks.length) : (insI ks i id)[j]? = if j ≤ i then ks[j]? else if j = i + 1 then some id else ks[j - 1]? := by
  rw [insI_yes hi]
  have hl : (ks.take (i + 1)).length = i + 1 := by rw [List.length_take]; omega
  split
  · rw [List.getElem?_append_left (by omega), List.getElem?_take, if_pos (by omega)]
  · split
    · rename_i h1 h2
      rw [List.getElem?_append_right (by omega), hl, h2, Nat.sub_self]
      rfl
    · rw [List.getElem?_append_right (by omega), hl]
      obtain ⟨t, ht⟩ : ∃ t, j - (i + 1) = t + 1 := ⟨j - (i + 1) - 1, by omega⟩
      rw [ht, List.getElem?_cons_succ, List.getElem?_drop]
      congr 1
      omega
theorem insI_length {ks : List Int} {i : Nat} {id : Int} (hi : i < ks.length) : (insI ks i id).length = ks.length + 1 := by
  rw [insI_yes hi]; simp; omega
theorem kids_rng {np : Nat} {f : Int} {v : Int} (h : v ∈ kidsL np f) (hnp : np ≤ 3) : 1 ≤ v ∧ v ≤ 221 := by
  obtain ⟨j, hj⟩ := List.mem_iff_getElem?.1 h
  have hl := (List.getElem?_eq_some_iff.1 hj).1
  rw [kidsL_len] at hl
  rw [kidsL_get (by omega)] at hj
  injection hj with hj
  omega
theorem kids_inj {np : Nat} {f : Int} {a b : Nat} {v : Int} (ha : (kidsL np f)[a]? = some v) (hb : (kidsL np f)[b]? = some v) : a = b := by
  have h1 := (List.getElem?_eq_some_iff.1 ha).1
  have h2 := (List.getElem?_eq_some_iff.1 hb).1
  rw [kidsL_len] at h1 h2
  rw [kidsL_get (by omega)] at ha hb
  injection ha with ha
  injection hb with hb
  omega
theorem kids_nodup (np : Nat) (f : Int) : (kidsL np f).Nodup :=
  List.pairwise_iff_getElem.2 fun i j hi hj hij e => by
    have h1 := List.getElem?_eq_getElem hi
    have h2 := List.getElem?_eq_getElem hj
    rw [← e] at h2
    have := kids_inj h1 h2
    omega
theorem kids_ok {np : Nat} {f : Int} (h1 : 1 ≤ np) (h2 : np ≤ 3) : KidsOk (kidsL np f) :=
  ⟨by rw [kidsL_len]; omega, by rw [kidsL_len]; omega, fun x hx => by have := kids_rng hx h2; omega, kids_nodup np f⟩
theorem ins_kidsOk {np : Nat} {f : Int} {i : Nat} {id : Int} (h2 : np ≤ 2) (hi : i ≤ np) (hid : 230 ≤ id ∧ id < 256) : KidsOk (insI (kidsL np f) i id) := by
  have hl := kidsL_len np f
  have hlen := insI_length (id := id) (show i < (kidsL np f).length by omega)
  refine ⟨by omega, by omega, fun x hx => ?_, ?_⟩
  · rw [insI_yes (by omega)] at hx
    rcases List.mem_append.1 hx with h | h
    · have := kids_rng (List.mem_of_mem_take h) (by omega); omega
    · rcases List.mem_cons.1 h with rfl | h
      · omega
      · have := kids_rng (List.mem_of_mem_drop h) (by omega); omega
  · rw [insI_yes (by omega)]
    have hnd : ((kidsL np f).take (i + 1) ++ (kidsL np f).drop (i + 1)).Nodup := by rw [List.take_append_drop]; exact kids_nodup np f
    obtain ⟨d1, d2, d3⟩ := List.nodup_append.1 hnd
    refine List.nodup_append.2 ⟨d1, List.nodup_cons.2 ⟨fun h => ?_, d2⟩, fun a ha b hb => ?_⟩
    · have := kids_rng (List.mem_of_mem_drop h) (by omega); omega
    · rcases List.mem_cons.1 hb with rfl | hb
      · have := kids_rng (List.mem_of_mem_take ha) (by omega); omega
      · exact d3 a ha b hb
/-- Where the key of place c goes, ahead of and behind a kid more. -/
theorem ins_math {np : Nat} {f : Int} {ps : List RK} {x : RK} {c id : Int} (hnp : ps.length = np) (op : OkP ps) (op' : OkP (insV (np + 1) ps (kidN ps (code x)) x)) (hid : 230 ≤ id) (h3 : np ≤ 3) :
    ∃ was is ki, (kidsL np f)[kidN ps c]? = some was ∧ (insI (kidsL np f) (kidN ps (code x)) id)[kidN (insV (np + 1) ps (kidN ps (code x)) x) c]? = some is ∧ (kidsL np f)[kidN ps (code x)]? = some ki ∧ kidN (insV (np + 1) ps (kidN ps (code x)) x) c ≤ np + 1 ∧
      ((was = ki ∧ ((is = id ∧ code x ≤ c) ∨ (is = was ∧ is ≠ id ∧ c < code x))) ∨ (was ≠ ki ∧ is = was)) := by
  have hle := kidN_le ps (code x)
  have hle2 := kidN_le ps c
  rw [insV_yes (by omega)] at op' ⊢
  obtain ⟨k1, k2⟩ := ins_kid (c := c) op op'
  have hl := kidsL_len np f
  have hw : (kidsL np f)[kidN ps c]? = some ((kidsL np f)[kidN ps c]'(by omega)) := List.getElem?_eq_getElem _
  have hk : (kidsL np f)[kidN ps (code x)]? = some ((kidsL np f)[kidN ps (code x)]'(by omega)) := List.getElem?_eq_getElem _
  generalize (kidsL np f)[kidN ps c]'(by omega) = was at hw
  generalize (kidsL np f)[kidN ps (code x)]'(by omega) = ki at hk
  have hwr := kids_rng (List.mem_of_getElem? hw) h3
  rcases Int.lt_or_le c (code x) with hc | hc
  · obtain ⟨h1, h2⟩ := k1 hc
    refine ⟨was, was, ki, hw, by rw [h2, insI_get (by omega), if_pos h1]; exact hw, hk, by omega, ?_⟩
    by_cases e : was = ki
    · exact .inl ⟨e, .inr ⟨rfl, by omega, hc⟩⟩
    · exact .inr ⟨e, rfl⟩
  · obtain ⟨h1, h2⟩ := k2 hc
    rcases Nat.eq_or_lt_of_le h1 with h4 | h4
    · refine ⟨was, id, ki, hw, by rw [h2, insI_get (by omega), if_neg (by omega), if_pos (by omega)], hk, by omega, .inl ⟨?_, .inl ⟨rfl, hc⟩⟩⟩
      rw [h4, hw] at hk
      injection hk
    · refine ⟨was, was, ki, hw, by rw [h2, insI_get (by omega), if_neg (by omega), if_neg (by omega), Nat.add_sub_cancel]; exact hw, hk, by omega, .inr ⟨fun e => ?_, rfl⟩⟩
      subst e
      have := kids_inj hw hk
      omega
/-- A key goes to one of both halves, and there where it went. -/
theorem half_math {ps : List RK} {p0 p1 p2 : RK} {c : Int} (op : OkP ps) (hps : ps = [p0, p1, p2]) : (c < code p1 → kidN ps c = kidN [p0] c ∧ kidN [p0] c ≤ 1) ∧ (code p1 ≤ c → kidN ps c = 2 + kidN [p2] c ∧ kidN [p2] c ≤ 1) := by
  subst hps
  have h := List.pairwise_cons.1 op.asc
  have h01 := h.1 p1 (by simp)
  have h12 := (List.pairwise_cons.1 h.2).1 p2 (by simp)
  simp only [kidN]
  constructor
  · intro hc
    by_cases h0 : code p0 ≤ c
    · rw [if_pos h0, if_neg (by omega), if_pos h0]; omega
    · rw [if_neg h0, if_neg h0]; omega
  · intro hc
    rw [if_pos (by omega), if_pos hc]
    by_cases h2 : code p2 ≤ c
    · rw [if_pos h2]; omega
    · rw [if_neg h2]; omega
theorem insP_length : ∀ {l : List RK} {k : RK}, l.length ≤ (insP l k).length
  | [], k => by simp [insP]
  | x :: l, k => by
    unfold insP
    split
    · simp only [List.length_cons]; exact Nat.succ_le_succ insP_length
    · split <;> simp
theorem pivs_one (ns : List Int) : 1 ≤ (pivsL (16 :: ns) 3).length := by
  have hm : ∀ j, 1 ≤ (pivsJ (16 :: ns) 3 (j + 1)).length := by
    intro j
    induction j with
    | zero => simp [pivsJ, insP]
    | succ j ih =>
      rw [pivsJ]
      split
      · exact Nat.le_trans ih insP_length
      · exact ih
  have : ∃ j, min (16 :: ns).length 20 = j + 1 := ⟨min (16 :: ns).length 20 - 1, by simp; omega⟩
  obtain ⟨j, hj⟩ := this
  unfold pivsL
  rw [hj]
  exact hm j
theorem pivs_three (ns : List Int) : (pivsL (16 :: ns) 3).length ≤ 3 := by
  have := pivsJ_len (16 :: ns) 3 (by omega) (min (16 :: ns).length 20)
  change ((pivsL (16 :: ns) 3).length : Int) ≤ 3 at this
  omega
end Go.Proofs.Ytcdcaanmmbopbaa
