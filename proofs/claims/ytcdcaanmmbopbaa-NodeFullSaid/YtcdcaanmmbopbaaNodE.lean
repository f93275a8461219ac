/- Nodes by numbers (package 00's Leaf and Inner): what they hold; the greatest weight. -/
import Derived.Test.YtcdcaanmmbopbaaNodD
import Derived.Test.YtcdcaanmmbopbaaFanOpen
namespace Go.Proofs.Ytcdcaanmmbopbaa
set_option maxRecDepth 100000
open Go.RowKit
set_option linter.unusedVariables false
theorem msgsJ_byt (ns : List Int) {most : Int} (h : 0 ≤ most) : ∀ j, bytL (msgsJ ns most j) ≤ most
  | 0 => by simpa [msgsJ, bytL] using h
  | j + 1 => by
    unfold msgsJ
    split
    · assumption
    · exact msgsJ_byt ns h j
theorem msgsL_byt (ns : List Int) {most : Int} (h : 0 ≤ most) : bytL (msgsL ns most) ≤ most := msgsJ_byt ns h _
theorem entsJ_byt (ns : List Int) {most : Int} (h : 0 ≤ most) : ∀ j, bytsE (entsJ ns most j) ≤ most
  | 0 => by simpa [entsJ, bytsE] using h
  | j + 1 => by
    unfold entsJ
    split
    · assumption
    · exact entsJ_byt ns h j
theorem entsL_byt (ns : List Int) {most : Int} (h : 0 ≤ most) : bytsE (entsL ns most) ≤ most := entsJ_byt ns h _
/-- The leaf, the inner node by numbers. -/
def leafN (ns : List Int) : RN := ⟨true, entsL ns 248, [], [], []⟩
def innN (ns : List Int) (f : Int) (ms : List Int) : RN := ⟨false, [], kidsL (pivsL (16 :: ns) 3).length f, pivsL (16 :: ns) 3, msgsL ms 205⟩
theorem leafN_ok (ns : List Int) : OkN (leafN ns) := .inl ⟨rfl, rfl, rfl, rfl, entsL_ok ns 248⟩
theorem innN_ok (ns : List Int) (f : Int) (ms : List Int) : OkN (innN ns f ms) :=
  .inr ⟨rfl, rfl, kids_ok (pivs_one ns) (pivs_three ns), (kidsL_len _ _).symm, pivsL_ok _ _, msgsL_ok _ _⟩
theorem leafN_byt (ns : List Int) : bytN (leafN ns) ≤ rmN (leafN ns) := entsL_byt ns (by omega)
theorem innN_byt (ns : List Int) (f : Int) (ms : List Int) : bytN (innN ns f ms) ≤ rmN (innN ns f ms) := msgsL_byt ms (by omega)
theorem nv_len (v : NV) : v.cells.length = 5 := rfl
theorem nv_one (v : NV) : One v.cells := fun x hx => by
  simp only [NV.cells, List.mem_cons, List.not_mem_nil, or_false] at hx
  rcases hx with rfl | rfl | rfl | rfl | rfl <;> rfl
/-- The cells of no node. -/
def zeroNV : NV := ⟨false, none, 0, 0, none, 0, 0, none, 0, 0, none, 0, 0⟩
theorem zeroNV_cells : zeroNV.cells.toArray = #[.bool false, .slice none 0 0, .slice none 0 0, .slice none 0 0, .slice none 0 0] := rfl
def zeroN : RN := ⟨false, [], [], [], []⟩
theorem zeroN_nh (W : World) : NH W W.heap.size zeroNV zeroN := ⟨rfl, Nat.le_refl _, Has.nil, rfl, by decide, by intro m hm; simp [zeroN] at hm, Has.nil, rfl, Nat.le_refl _, by decide, Has.nil, rfl, by decide, by intro m hm; simp [zeroN] at hm, Has.nil, rfl, Nat.le_refl _, by decide, by intro m hm; simp [zeroN] at hm⟩
theorem zeroN_no : ¬ OkN zeroN := fun h => by
  obtain ⟨_, ⟨⟨h, _⟩, _⟩, _⟩ := (okN_inner rfl).1 h
  simp [zeroN] at h
attribute [local go_sem ↓] key_ld msg_ld nod_ld
/-- package 00's Inner. -/
theorem q_inner {w : World} {A A2 : Option Addr} {n c B n2 c2 B2 : Nat} {ns ms : List Int} {f : Int} (hl : Has w B A (ns.map (Value.int .i64))) (hB : B ≤ w.heap.size) (hn : ns.length = n) (hns : ∀ z ∈ ns, Is64 z) (hf : Is64 f)
    (hl2 : Has w B2 A2 (ms.map (Value.int .i64))) (hB2 : B2 ≤ w.heap.size) (hn2 : ms.length = n2) (hms : ∀ z ∈ ms, Is64 z) (hnm2 : n2 ≤ maxLen) (hby : n * 8 ≤ 140737488351232) :
    Calls Try.prog 10 #[.slice A n c, .int .i64 f, .slice A2 n2 c2] w fun e w' => ∃ v, e = .returned (nv v) ∧ Hid (NH w' w'.heap.size v (innN ns f ms)) ∧ Fr w w' :=
  (law_inner (c := c) (c2 := c2) hl hB hn hns (by unfold maxLen; omega) hf hl2 hB2 hn2 hms hnm2 (by omega)).mono fun e w' h => by
    obtain ⟨A1, d1, A3, d3, A4, d4, e1, h1, h2, h3, hF⟩ := h
    have hp := pivs_three ns
    have hk := kidsL_len (pivsL (16 :: ns) 3).length f
    have hm := msgsL_len ms 205
    refine ⟨⟨false, none, 0, 0, A1, _, d1, A3, _, d3, A4, _, d4⟩, e1, keep ?_, hF⟩
    exact ⟨rfl, Nat.le_refl _, Has.nil, rfl, Nat.zero_le _, by intro m hm; simp [innN] at hm, h1.out.has, rfl, h1.out.cap, by simp only; omega, h2.out.has, rfl, by simp only; omega, (pivsL_ok _ _).wfk, h3.out.has, rfl, h3.out.cap, by simp only; omega, (fun m hm => ((msgsL_ok ms 205).good m hm).1)⟩
/-- package 00's Leaf. -/
theorem q_leaf {w : World} {A : Option Addr} {n c B : Nat} {ns : List Int} (hl : Has w B A (ns.map (Value.int .i64))) (hB : B ≤ w.heap.size) (hn : ns.length = n) (hns : ∀ z ∈ ns, Is64 z) (hnm : n ≤ maxLen) :
    Calls Try.prog 9 #[.slice A n c] w fun e w' => ∃ v, e = .returned (nv v) ∧ Hid (NH w' w'.heap.size v (leafN ns)) ∧ Fr w w' := by
  obtain ⟨Z, hZ, hF, hZZ, hG⟩ : ∃ Z, w.alloc (.cells #[.bool false, .slice none 0 0, .slice none 0 0, .slice none 0 0, .slice none 0 0] 27) = Z ∧ Fr w Z ∧ Fr Z Z ∧ Arr Z w.heap.size 27 zeroNV.cells.toArray := ⟨_, rfl, fr_new (fr_refl w) _, fr_refl _, Arr.new _ _ _⟩
  have cE := law_ents (w := Z) (c := c) (most := 248) (hl.fr hB hF) (Nat.le_trans hB hF.size) hn hns (by omega) hnm
  have hlen := entsL_len ns 248
  have ho := entsL_ok ns 248
  unfold leafN
  generalize entsL ns 248 = l at *
  clear hl hns hn
  go_enter Try.func9, Try.ntmps9
  go_wp2_with fail
  refine cE.mono ?_
  rintro e v1 ⟨A1, d1, rfl, hO, f1⟩
  have hG1 := hG.below f1 hG.lt
  have hz := hF.size
  have hlt := hG.lt
  have tok : Hid (0 < 1) := keep (by decide)
  go_wp2_with (first
    | (clear tok; refine wpList_store_at (ds := NV.cells ⟨true, A1, l.length, d1, none, 0, 0, none, 0, 0, none, 0, 0⟩) nod_info rfl (.tmp 2) (.tmp 5) rfl w.heap.size 0 rfl rfl rfl (nv_one _) hG1 (by decide) (splice_all _ _ (Nat.le_of_eq rfl)) ?_; intro W8 hM8 hk8)
    | fail)
  refine bodyPost_ret (nodS.result rfl _ w.heap.size rfl rfl hM8) rfl ?_
  have hO8 := own_kept hO hk8 (by omega)
  refine ⟨⟨true, A1, l.length, d1, none, 0, 0, none, 0, 0, none, 0, 0⟩, rfl, keep ?_, hk8.fr (fr_step hF f1) (Nat.le_refl _)⟩
  exact ⟨rfl, Nat.le_refl _, hO8.has, rfl, by simp only; omega, ho.wfe, Has.nil, rfl, Nat.le_refl _, by simp, Has.nil, rfl, by simp, by intro m hm; simp at hm, Has.nil, rfl, Nat.le_refl _, by simp, by intro m hm; simp at hm⟩
/-- There is a first place of the greatest number. -/
theorem topI_ex (l : List Int) : ∀ j, j ≤ l.length → ∃ f x, TopI l j f x
  | 0, _ => ⟨-1, 0, topI_zero l⟩
  | j + 1, h => by
    obtain ⟨f, x, hT⟩ := topI_ex l j (by omega)
    have hy : l[j]? = some (l[j]'(by omega)) := List.getElem?_eq_getElem _
    by_cases hlt : x < l[j]'(by omega)
    · exact ⟨_, _, topI_up hT hy hlt⟩
    · exact ⟨_, _, topI_stay hT hy hlt⟩
theorem q_heaviest_is {W : World} {B : Nat} {v : NV} {n : RN} {f x : Int} (h : NH W B v n) (ok : OkN n) (hT : TopI (wtsN n) (wtsN n).length f x) : Calls Try.prog 17 #[nv v] W fun e w' => e = .returned (.int .i64 f) ∧ Fr W w' :=
  (q_heaviest h ok).mono fun e w' ⟨⟨f2, x2, h1, h2⟩, h3⟩ => ⟨by rw [h1, topI_one h2 hT], h3⟩
theorem q_rheaviest_is {W : World} {B : Nat} {v : NV} {n : RN} {f x : Int} (h : NH W B v n) (ok : OkN n) (hT : TopI (wtsN n) (wtsN n).length f x) : Calls Try.prog 18 #[nv v] W fun e w' => e = .returned (.int .i64 f) ∧ Fr W w' :=
  (q_rheaviest h ok).mono fun e w' ⟨⟨f2, x2, h1, h2⟩, h3⟩ => ⟨by rw [h1, topI_one h2 hT], h3⟩
/-- None is heaviest just if there is no message. -/
theorem top_none {n : RN} {f x : Int} (ok : OkN n) (hl : n.lf = false) (hT : TopI (wtsN n) (wtsN n).length f x) : f = -1 ↔ n.ms = [] := by
  have hs := sum_wts ok hl
  obtain ⟨_, _, ol⟩ := (okN_inner hl).1 ok
  constructor
  · intro hf
    rcases hT with ⟨_, _, h⟩ | ⟨a, h, _⟩
    · have h0 : ∀ l : List Int, (∀ i x, i < l.length → l[i]? = some x → x ≤ 0) → l.sum ≤ 0 := by
        intro l
        induction l with
        | nil => intro _; simp
        | cons y l ih =>
          intro hy
          have h1 := hy 0 y (by simp) rfl
          have h2 := ih (fun i x hi hx => hy (i + 1) x (by simp; omega) (by simpa using hx))
          rw [List.sum_cons]
          omega
      have h1 := h0 _ h
      rw [hs] at h1
      cases hm : n.ms with
      | nil => rfl
      | cons m l =>
        rw [hm, bytL_cons] at h1
        have h2 := (bytM_bd ((ol.good m (by rw [hm]; exact List.mem_cons_self)).2)).1
        have h3 := (bytL_rng l).1
        omega
    · omega
  · intro hm
    rcases hT with ⟨h, _⟩ | ⟨a, h, h2, h3, h4, h5⟩
    · exact h
    · exfalso
      unfold wtsN at h3
      rw [if_neg (by rw [hl]; exact Bool.false_ne_true), List.getElem?_map] at h3
      obtain ⟨i, hi, e⟩ := Option.map_eq_some_iff.1 h3
      unfold wtN at e
      rw [hm] at e
      unfold partL at e
      simp [bytL] at e
      omega
end Go.Proofs.Ytcdcaanmmbopbaa
