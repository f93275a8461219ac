/- NodeFull, walked. -/
import Derived.Test.YtcdcaanmmbopbaaNodF
import Derived.Deep.CutBlock
namespace Go.Proofs.Ytcdcaanmmbopbaa
set_option maxRecDepth 100000
open Go.RowKit
set_option linter.unusedVariables false
theorem min_two {P : Program} {n m k : Int} (h : min n m = k) : ∀ (ts : Array TypeId) (t : TypeId) (w : World), (Builtin.min_ ts t #[.int .i64 n, .int .i64 m]).run P w = .ok (.int .i64 k) w := fun ts t w => by
  simp only [Builtin.min_, Builtin.min2, List.foldlM, Sem.run_bind, Sem.run_pure, Result.andThen_ok]
  congr 2
  split <;> omega
/-- The j-th key of two bytes. -/
def keyJ (a : Int) (j : Nat) : RK := ⟨2, 97 + (j : Int), a, 0, 0, 0, 0, 0, 0⟩
def entJ (a v : Int) (j : Nat) : RE := ⟨keyJ a j, ⟨v, [0, 0, 0, 0, 0, 0, 0, 0, 0, 0, 0, 0, 0, 0, 0, 0]⟩⟩
def msgJ (a v : Int) (j : Nat) : RM := ⟨1, 1, keyJ a j, ⟨v, [0, 0, 0, 0, 0, 0, 0, 0, 0, 0, 0, 0, 0, 0, 0, 0]⟩, 0⟩
def eL (a : Int) (vs : Nat → Int) (j : Nat) : List RE := (List.range j).map fun i => entJ a (vs i) i
def mL (a : Int) (vs : Nat → Int) (j : Nat) : List RM := (List.range j).map fun i => msgJ a (vs i) i
theorem eL_one (a : Int) (vs : Nat → Int) (j : Nat) : eL a vs (j + 1) = eL a vs j ++ [entJ a (vs j) j] := by simp [eL, List.range_succ]
theorem mL_one (a : Int) (vs : Nat → Int) (j : Nat) : mL a vs (j + 1) = mL a vs j ++ [msgJ a (vs j) j] := by simp [mL, List.range_succ]
theorem eL_len (a : Int) (vs : Nat → Int) (j : Nat) : (eL a vs j).length = j := by simp [eL]
theorem mL_len (a : Int) (vs : Nat → Int) (j : Nat) : (mL a vs j).length = j := by simp [mL]
theorem keyJ_wf {a : Int} (ha : 0 ≤ a ∧ a ≤ 255) {j : Nat} (hj : j ≤ 100) : (keyJ a j).wf := by
  unfold keyJ
  constructor <;> simp only [Byt] <;> omega
theorem keyJ_ok (a : Int) (j : Nat) : okB (keyJ a j) = true := by
  unfold okB keyJ firstK
  simp
theorem keyJ_lt {a : Int} {i j : Nat} (h : i < j) : code (keyJ a i) < code (keyJ a j) := by
  unfold code keyJ val8
  simp only
  omega
theorem valJ_wf {v : Int} (hv : 0 ≤ v ∧ v ≤ 16) : (⟨v, [0, 0, 0, 0, 0, 0, 0, 0, 0, 0, 0, 0, 0, 0, 0, 0]⟩ : RV).wf := ⟨by simp only; omega, rfl, fun z hz => by simp at hz; rw [hz]; omega⟩
theorem valJ_ok {v : Int} (hv : 0 ≤ v ∧ v ≤ 16) : okV ⟨v, [0, 0, 0, 0, 0, 0, 0, 0, 0, 0, 0, 0, 0, 0, 0, 0]⟩ = true := by
  obtain ⟨m, rfl⟩ : ∃ m : Nat, v = m := ⟨v.toNat, by omega⟩
  have hm : m ≤ 16 := by omega
  rw [okV_in hm rfl, decide_eq_true_iff]
  have h : ∀ m : Nat, m ≤ 16 → (⟨(m : Int), [0, 0, 0, 0, 0, 0, 0, 0, 0, 0, 0, 0, 0, 0, 0, 0]⟩ : RV) = mkV (([0, 0, 0, 0, 0, 0, 0, 0, 0, 0, 0, 0, 0, 0, 0, 0] : List Int).take m) := by decide +kernel
  exact h m hm
theorem entJ_ok {a v : Int} (ha : 0 ≤ a ∧ a ≤ 255) (hv : 0 ≤ v ∧ v ≤ 16) {j : Nat} (hj : j ≤ 100) : (entJ a v j).ok := ⟨keyJ_wf ha hj, keyJ_ok a j, valJ_wf hv, valJ_ok hv⟩
theorem msgJ_wf {a v : Int} (ha : 0 ≤ a ∧ a ≤ 255) (hv : 0 ≤ v ∧ v ≤ 16) {j : Nat} (hj : j ≤ 100) : (msgJ a v j).wf := ⟨by simp [msgJ, Is64], by simp [msgJ, Us64], keyJ_wf ha hj, valJ_wf hv, by simp [msgJ, Us64]⟩
theorem msgJ_ok {a v : Int} (hv : 0 ≤ v ∧ v ≤ 16) (j : Nat) : okM (msgJ a v j) = true := by
  unfold okM
  simp only [msgJ, if_true, Bool.and_eq_true, decide_eq_true_iff]
  exact ⟨trivial, keyJ_ok a j, valJ_ok hv⟩
theorem pw_range {α : Type} {R : α → α → Prop} (f : Nat → α) (h : ∀ i j, i < j → R (f i) (f j)) : ∀ n, ((List.range n).map f).Pairwise R
  | 0 => List.Pairwise.nil
  | n + 1 => by
    rw [List.range_succ, List.map_append, List.pairwise_append]
    refine ⟨pw_range f h n, by simp, fun x hx y hy => ?_⟩
    obtain ⟨i, hi, rfl⟩ := List.mem_map.1 hx
    obtain ⟨k, hk, rfl⟩ := List.mem_map.1 hy
    rw [List.mem_range] at hi
    simp at hk
    exact h i k (by omega)
theorem eL_ok {a : Int} {vs : Nat → Int} (ha : 0 ≤ a ∧ a ≤ 255) (hv : ∀ i, 0 ≤ vs i ∧ vs i ≤ 16) {n : Nat} (hn : n ≤ 100) : OkE (eL a vs n) := by
  refine ⟨fun e he => ?_, pw_range (R := fun a b => ce a < ce b) (fun i => entJ a (vs i) i) (fun i j h => keyJ_lt h) n⟩
  obtain ⟨i, hi, rfl⟩ := List.mem_map.1 he
  rw [List.mem_range] at hi
  exact entJ_ok ha (hv i) (by omega)
theorem mL_ok {a : Int} {vs : Nat → Int} (ha : 0 ≤ a ∧ a ≤ 255) (hv : ∀ i, 0 ≤ vs i ∧ vs i ≤ 16) {n : Nat} (hn : n ≤ 100) : OkL (mL a vs n) := by
  refine ⟨fun e he => ?_, pw_range (R := fun a b => cd a < cd b) (fun i => msgJ a (vs i) i) (fun i j h => keyJ_lt h) n⟩
  obtain ⟨i, hi, rfl⟩ := List.mem_map.1 he
  rw [List.mem_range] at hi
  exact ⟨msgJ_wf ha (hv i) (by omega), msgJ_ok (hv i) i⟩
/-- The sizes of the values. -/
def vsE (lf : Int) (i : Nat) : Int := if i < 12 then 16 else lf - 244
def vsM (lf : Int) (i : Nat) : Int := if i < 6 then 16 else if i = 6 then lf - 200 else 0
theorem vsE_rng {lf : Int} (h : 248 ≤ lf ∧ lf ≤ 249) (i : Nat) : 0 ≤ vsE lf i ∧ vsE lf i ≤ 16 := by
  unfold vsE
  split <;> omega
theorem vsM_rng {lf : Int} (h : 205 ≤ lf ∧ lf ≤ 206) (i : Nat) : 0 ≤ vsM lf i ∧ vsM lf i ≤ 16 := by
  unfold vsM
  split
  · omega
  · split <;> omega
theorem eL_byt (a lf : Int) : bytsE (eL a (vsE lf) 13) = lf := by
  simp [bytsE, eL, List.range_succ, bytE, entJ, keyJ, vsE]
  omega
theorem mL_byt {a lf : Int} (h : 205 ≤ lf ∧ lf ≤ 206) : bytL (mL a (vsM lf) 8) = lf := by
  have e : (mL a (vsM lf) 8).map bytM = (List.range 8).map fun i => 13 + vsM lf i := by
    unfold mL
    rw [List.map_map]
    apply List.map_congr_left
    intro i hi
    show bytM (msgJ a (vsM lf i) i) = _
    rw [bytM_of (msgJ_ok (vsM_rng h i) i)]
    simp [msgJ, keyJ]
  unfold bytL
  rw [e]
  simp [List.range_succ, vsM]
  omega
/-- 'append(s, x...)' beside two blocks that stay. -/
theorem wpList_append_besides {P : Program} {w0 w : World} {t e size bytes : Nat} {g T g2 T2 : Nat} {cs cs2 : Array Value} {ops : Array Oper} {rest : List Oper} {o : Oper} {a : Act} {Q : Exit → Act → World → Prop} (E : Elem P e size bytes) (ht : P.underlying t = some (.slice e)) (hsz : 0 < size) (hgd : o.guard = none) (s x : Operand)
    (hop : o.op = .call { callee := .builtin .append, args := #[s, x], argTypes := #[t, t] }) (h0 : Fr w0 w) (hg0 : w0.heap.size = g) (ha : Arr w g T cs) (ha2 : Arr w g2 T2 cs2)
    (A : Option Addr) (n c1 : Nat) (xs : List Value) (hs : a.eval s = .slice A n c1) (ho : Own w (g + 1) e size A n c1 xs) (hne : blk A ≠ some g2)
    (C : Nat) (A2 : Option Addr) (m c2 : Nat) (news : List Value) (hx : a.eval x = .slice A2 m c2) (hl : news.length = m * size) (hn : Has w C A2 news) (h1 : One news)
    (h63 : n + m ≤ maxLen) (hbytes : (n + m) * bytes ≤ 140737488355328)
    (h : ∀ A' c' w', Own w' (g + 1) e size A' (n + m) c' (xs ++ news) → Fr w0 w' → Arr w' g T cs → Arr w' g2 T2 cs2 → wpList P ops Q rest (a.put o.dst (.slice A' (n + m) c')) w') :
    wpList P ops Q (o :: rest) a w := by
  obtain ⟨i, z, hi, hz, hsize, hby, hzs⟩ := E.row
  have hlt := ha.lt
  refine wpList_append_has w hgd s x t hop (g + 1) e i z size bytes ht hi hz hsize hby hzs hsz A n c1 xs hs ho C A2 m c2 news hx hl hn h1 h63 hbytes hlt ?_
  intro A' c' w' h1 h2 h3
  refine h A' c' w' h1 (below_grown h0 ho h2 h0.size (by omega)) ?_ ((h2.block g2 ha2.lt fun e' => hne e'.symm).trans ha2)
  refine (h2.block g hlt fun e' => ?_).trans ha
  have := (ho.lt g e'.symm).1
  omega
theorem own_keptAway {w W : World} {B e size n c g : Nat} {A : Option Addr} {xs : List Value} (h : Own w B e size A n c xs) (k : Kept w W g) (hg : blk A ≠ some g) : Own W B e size A n c xs := by
  refine ⟨h.1, ?_⟩
  rcases h.2 with hn | ⟨b, cap, cur, hv, hb, hA, h1, h2, h3, h4⟩
  · exact .inl hn
  · refine .inr ⟨b, cap, cur, hv, hb, k.other hA (fun e' => hg ?_), h1, h2, h3, h4⟩
    injection hv with hv1
    rw [hv1, e']
    rfl
/-- What package 00's Inner gives without messages. -/
def InnerNil (W0 : World) (ks : List Int) (ps : List RK) (e : Ending) (w' : World) : Prop := ∃ A c A2 c2, e = .returned (.agg (nodeC (.slice A ks.length c) (.slice A2 ps.length c2) (.slice none 0 0)).toArray) ∧ Hid (OwnI w' 0 A c ks) ∧ Hid (OwnK w' 0 A2 c2 ps) ∧ Fr W0 w'
theorem law_msgs_nil {w : World} {most : Int} : Calls Try.prog 35 #[.slice none 0 0, .int .i64 most] w fun e w' => e = .returned (.slice none 0 0) ∧ Fr w w' := by
  have ww := fr_refl w
  go_enter Try.func35, Try.ntmps35
  go_wp2_with fail
  go_loopg [5, 6] 1 (fun g s5 s6 wr => s5 = .slice none 0 0 ∧ s6 = .int .i64 0 ∧ Hid (Fr w wr))
  case atStart => exact ⟨rfl, rfl, keep ww⟩
  case round =>
    obtain ⟨rfl, rfl, hW⟩ := hrel
    have hWW := hW.out
    go_wp2_with fail
    go_ret
    exact ⟨rfl, hWW⟩
section
attribute [local go_sem ↓] key_ld msg_ld node_ld
set_option maxHeartbeats 4000000 in
theorem law_inner_nil {w : World} {A : Option Addr} {n c B : Nat} {ns : List Int} {f : Int} (hl : Has w B A (ns.map (Value.int .i64))) (hB : B ≤ w.heap.size) (hn : ns.length = n) (hns : ∀ z ∈ ns, Is64 z) (hnm : n < maxLen) (hf : Is64 f) (hby : (1 + n) * 8 ≤ 140737488355328) :
    Calls Try.prog 10 #[.slice A n c, .int .i64 f, .slice none 0 0] w (InnerNil w (kidsL (pivsL (16 :: ns) 3).length f) (pivsL (16 :: ns) 3)) := by
  have hlen := pivsJ_len (16 :: ns) 3 (by omega) (min (16 :: ns).length 20)
  change ((pivsL (16 :: ns) 3).length : Int) ≤ 3 at hlen
  have h16 : ∀ z ∈ (16 :: ns), Is64 z := fun z hz => by
    rcases List.mem_cons.1 hz with rfl | hz
    · unfold Is64; omega
    · exact hns z hz
  obtain ⟨Z, hZ, hF, hZZ, hG⟩ : ∃ Z, w.alloc (.cells #[.bool false, .slice none 0 0, .slice none 0 0, .slice none 0 0, .slice none 0 0] 27) = Z ∧ Fr w Z ∧ Fr Z Z ∧ Arr Z w.heap.size 27 #[.bool false, .slice none 0 0, .slice none 0 0, .slice none 0 0, .slice none 0 0] := ⟨_, rfl, fr_new (fr_refl w) _, fr_refl _, Arr.new _ _ _⟩
  have cPv := fun W A' c' (hW : Fr Z W) (ho : Own W Z.heap.size 3 1 A' (1 + n) c' (ints [16] ++ ints ns)) => law_pivs (w := W) (A := A') (n := 1 + n) (c := c') (ns := 16 :: ns) (most := 3) (by simpa [ints] using ho.has) (Nat.le_refl _) (by simp; omega) h16 (by omega) (by omega)
  have cMs := fun W (hW : Fr w W) => law_msgs_nil (w := W) (most := 205)
  have cPl := fun W => law_place f 200 hf (by omega) (by omega) W
  generalize hps : pivsL (16 :: ns) 3 = ps at *
  generalize hnp : ps.length = np at *
  obtain ⟨q, hq⟩ : ∃ q, f % 200 = q := ⟨_, rfl⟩
  have hq0 : 0 ≤ q ∧ q < 200 := by omega
  have hq1 := hq0.1
  have hq2 := hq0.2
  have cPl2 : ∀ W, Calls Try.prog 28 #[.int .i64 f, .int .i64 200] W fun e w' => e = .returned (.int .i64 q) ∧ Fr W w' := fun W => by
    have := cPl W
    rw [show f % ((200 : Nat) : Int) = q from hq] at this
    exact this
  have hst : Hid (∀ j, j ≤ np → (kidsL np f).take (j + 1) = (kidsL np f).take j ++ [1 + q + 7 * (j : Int)]) := keep (fun j hj => by rw [kidsL_step hj, hq])
  have hkl : Hid ((kidsL np f).length = np + 1) := keep (kidsL_len np f)
  have HG := keep hG
  have hlZ := keep (hl.fr hB hF)
  have Hn := keep hn
  have hB3 := Nat.le_trans hB hF.size
  have hF1 := keep hF
  have Hnp := keep hnp
  clear hps hnp hq hq0 cPl hn hns h16 hl hf hG hF
  generalize kidsL np f = kl at *
  go_enter Try.func10, Try.ntmps10
  have tok : Hid (0 < 1) := keep (by decide)
  go_wp2_with (first
    | (clear tok; refine wpList_append_vals (w0 := Z) int_elem ints_und (by decide) rfl (.tmp 10) (.tmp 11) rfl (fr_new hZZ _) (some ⟨Z.heap.size, 0, none⟩) 1 1 (ints [16]) rfl (Own.lit Z Z.heap.size 3 #[.int .i64 16] 1 1 (Nat.le_refl _) (by decide) rfl) B A n c (ints ns) rfl (by rw [ints_len, Hn.out, Nat.mul_one]) (hlZ.out.fr hB3 (fr_new hZZ _)) (ints_one _) (by omega) hby ?_; intro A5 c5 w1 o1 f1)
    | fail)
  refine (cPv _ _ _ f1 o1).mono ?_
  rintro e w2 ⟨A6, c6, rfl, o2, f2⟩
  have o2h := keep o2
  clear o1 cPv o2
  go_wp2_with fail
  refine (cMs _ (fr_step hF1.out (fr_step f1 f2))).mono ?_
  rintro e v ⟨rfl, f3⟩
  replace o2h := keep ((Own.below o2h.out f3 (Nat.le_refl _)).mono f1.size)
  have f4 : Fr Z v := fr_step (fr_step f1 f2) f3
  have HF4 := keep (fr_step hF1.out f4)
  have vv := fr_refl v
  clear cMs f1 f2 f3
  have tok2 : Hid (0 < 1) := keep (by decide)
  go_wp2_with (first
    | (clear tok2; refine wpList_store_at (ds := nodeC (.slice none 0 0) (.slice A6 np c6) (.slice none 0 0)) node_info rfl (.tmp 7) (.tmp 16) rfl v.heap.size 0 rfl rfl rfl (nodeC_one _ _ _ _ _ _ _ _ _) (Arr.new v #[.bool false, .slice none 0 0, .slice none 0 0, .slice none 0 0, .slice none 0 0] 27) (by decide) (splice_all _ _ (Nat.le_of_eq rfl)) ?_; intro W5 hM5 hk5; have hF5 := hk5.fr (fr_new vv _) (Nat.le_refl _); clear hk5)
    | fail)
  refine (cPl2 _).mono ?_
  rintro e W6 ⟨rfl, f6⟩
  replace hM5 := hM5.below f6 hM5.lt
  replace hF5 := fr_step hF5 f6
  clear cPl2 f6
  go_wp2_with fail
  go_loopg [9] (np + 1) (fun g s9 wr => ∃ (j : Nat) (D : Option Addr) (d : Nat), j + g = np + 1 ∧ s9 = .int .i64 j ∧ Hid (Arr wr v.heap.size 27 (nodeC (.slice D j d) (.slice A6 np c6) (.slice none 0 0)).toArray) ∧ Hid (Own wr (v.heap.size + 1) 3 1 D j d (ints (kl.take j))) ∧ Hid (Fr v wr))
  case atStart => exact ⟨0, none, 0, by omega, rfl, keep hM5, keep (by rw [List.take_zero]; exact Own.nil _ _ _ _), keep hF5⟩
  case round =>
    obtain ⟨j, D, d, hj, rfl, hM, hO, hW⟩ := hrel
    have hWW := hW.out
    have cl2 : wr.cell? ⟨v.heap.size, 2, none⟩ = some (.slice D j d) := hM.out.cell 2
    have cl3 : wr.cell? ⟨v.heap.size, 3, none⟩ = some (.slice A6 np c6) := hM.out.cell 3
    by_cases hlt : j ≤ np
    · have hjz : (j : Int) ≤ (np : Int) := by omega
      have hs := keep (hst.out j hlt)
      have tok3 : Hid (0 < 1) := keep (by decide)
      go_wp2_with (first
        | (clear tok3; refine wpList_append_beside (w0 := v) int_elem ints_und (by decide) rfl (.tmp 28) (.tmp 33) rfl (fr_new hWW _) rfl (hM.out.alloc _) D j d (ints (kl.take j)) rfl (hO.out.alloc _) (wr.heap.size + 1) (some ⟨wr.heap.size, 0, none⟩) 1 1 (ints [1 + q + 7 * (j : Int)]) rfl rfl (has_one wr _ _) (ints_one _) (by unfold maxLen; omega) (by omega) ?_; intro D2 d2 w7 o7 f7 m7; have z2 : w7.cell? ⟨v.heap.size, 2, none⟩ = some (.slice D j d) := m7.cell 2; have z3 := m7.free 2)
        | fail)
      go_roundg (gk - 1)
      case measure => omega
      case rel => exact ⟨j + 1, D2, d2, by omega, rfl, keep (m7.set 2 _), by rw [hs.out, ints_app]; exact keep (own_setCell o7 _ (Nat.lt_succ_self _) _), keep (f7.setCell (Nat.le_refl _) _)⟩
    · have hjn : j = np + 1 := by omega
      subst hjn
      have hjz : ¬ ((np : Int) + 1 ≤ (np : Int)) := by omega
      have hall : kl.take (np + 1) = kl := List.take_of_length_le (by rw [hkl.out]; omega)
      rw [hall] at hO
      have lN : (ldS 27 (.pointer (some ⟨v.heap.size, 0, none⟩))).run Try.prog wr = .ok (.agg (nodeC (.slice D (np + 1) d) (.slice A6 np c6) (.slice none 0 0)).toArray) wr := nodeS.ld rfl hM.out
      have hG2 := HG.out.below (fr_step f4 hWW) HG.out.lt
      clear hlt hj hall
      have tok4 : Hid (0 < 1) := keep (by decide)
      go_wp2_with (first
        | (clear tok4; refine wpList_store_at (ds := nodeC (.slice D (np + 1) d) (.slice A6 np c6) (.slice none 0 0)) node_info rfl (.tmp 6) (.tmp 36) rfl w.heap.size 0 rfl rfl rfl (nodeC_one _ _ _ _ _ _ _ _ _) hG2 (by decide) (splice_all _ _ (Nat.le_of_eq rfl)) ?_; intro W8 hM8 hk8)
        | fail)
      have hz : w.heap.size < Z.heap.size := HG.out.lt
      have hv : Z.heap.size ≤ v.heap.size := f4.size
      refine bodyPost_ret (nodeS.result rfl _ w.heap.size rfl rfl hM8) rfl ?_
      exact ⟨D, d, A6, c6, by rw [hkl.out, Hnp.out], by unfold OwnI; rw [hkl.out]; exact keep ((own_kept hO.out hk8 (by omega)).mono (Nat.zero_le _)), keep ((own_kept (Own.below o2h.out hWW (Nat.le_refl _)) hk8 hz).mono (Nat.zero_le _)), hk8.fr (fr_step HF4.out hWW) (Nat.le_refl _)⟩
end
theorem inner_nil {a : Int} (ha : 0 ≤ a ∧ a ≤ 255) : ∃ (ks : List Int) (ps : List RK), KidsOk ks ∧ ps.length + 1 = ks.length ∧ OkP ps ∧ ∀ W : World, Calls Try.prog 10 #[.slice none 0 0, .int .i64 a, .slice none 0 0] W fun e w' => ∃ D1 d1 D2 d2, e = .returned (.agg (nodeC (.slice D1 ks.length d1) (.slice D2 ps.length d2) (.slice none 0 0)).toArray) ∧ Hid (OwnI w' 0 D1 d1 ks) ∧ Hid (OwnK w' 0 D2 d2 ps) ∧ Fr W w' :=
  ⟨kidsL (pivsL (16 :: []) 3).length a, pivsL (16 :: []) 3, kids_ok (pivs_one []) (pivs_three []), (kidsL_len _ _).symm, pivsL_ok _ _, fun W => law_inner_nil (w := W) (A := none) (n := 0) (c := 0) (B := 0) (ns := []) (f := a) Has.nil (Nat.zero_le _) rfl (fun z hz => by simp at hz) (by decide) (by unfold Is64; omega) (by decide)⟩
end Go.Proofs.Ytcdcaanmmbopbaa
