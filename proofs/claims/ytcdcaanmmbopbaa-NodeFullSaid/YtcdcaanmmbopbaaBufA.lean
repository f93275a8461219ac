/- Buffers in memory, one: what comparing comes to from a base world; 'sort.Search' with a closure; 'place'. -/
import Derived.Test.YtcdcaanmmbopbaaBuf0
import Derived.Test.YtcdcaanmmbopbaaKeyE
import Derived.Test.YtcdcaanmmbopbaaOwn
import Derived.Deep.LoopGhost
import Derived.Deep.RegionWith
import Derived.Deep.RegionHeld3
import Derived.Deep.Cut
import Derived.BigQuiet
import Derived.Deep.QuietTactic
import Derived.Laws.Externs
import Derived.Lib.LazyBuf
import Derived.Deep.RegionLaw
import Derived.Lib.SlBuf
import Derived.Test.YtcdcaanmmbopbaaMsgF
namespace Go.Proofs.Ytcdcaanmmbopbaa
set_option maxRecDepth 100000
open Go.RowKit
set_option linter.unusedVariables false
attribute [local go_sem ↓] key_ld msg_ld
section
variable {W0 W : World} {a b : RK}
theorem kcomp_at (wa : a.wf) (wb : b.wf) (oa : okB a = true) (ob : okB b = true) (hb : Fr W0 W) : Calls Try.prog 69 #[kv a, kv b] W fun e w' => e = .returned (.int .i64 (cmpK a b)) ∧ Fr W0 w' := (key_compare a b wa wb (okB_len' oa) (okB_len' ob) W).mono fun _ _ ⟨he, hw⟩ => ⟨he, fr_step hb (hw.fr)⟩
theorem rkcomp_at (wa : a.wf) (wb : b.wf) (oa : okB a = true) (ob : okB b = true) (hb : Fr W0 W) : Calls Try.prog 60 #[kv a, kv b] W fun e w' => e = .returned (.int .i64 (cmpK a b)) ∧ Fr W0 w' := (ref_compare a b wa wb oa ob W).mono fun _ _ ⟨he, hw⟩ => ⟨he, fr_step hb hw⟩
theorem cmpK_ge : 0 ≤ cmpK a b ↔ code b ≤ code a := by
  unfold cmpK
  rcases cmpI_cases (code a) (code b) with ⟨h, h2⟩ | ⟨h, h2⟩ | ⟨h, h2⟩ <;> omega
theorem cmpK_gt : 0 < cmpK a b ↔ code b < code a := by
  unfold cmpK
  rcases cmpI_cases (code a) (code b) with ⟨h, h2⟩ | ⟨h, h2⟩ | ⟨h, h2⟩ <;> omega
theorem cmpK_lt : cmpK a b < 0 ↔ code a < code b := by
  unfold cmpK
  rcases cmpI_cases (code a) (code b) with ⟨h, h2⟩ | ⟨h, h2⟩ | ⟨h, h2⟩ <;> omega
theorem cmpK_eq (wa : a.wf) (wb : b.wf) (oa : okB a = true) (ob : okB b = true) : cmpK a b = 0 ↔ a = b := by
  unfold cmpK
  rcases cmpI_cases (code a) (code b) with ⟨h, h2⟩ | ⟨h, h2⟩ | ⟨h, h2⟩
  · exact ⟨fun e => by omega, fun e => by rw [e] at h; omega⟩
  · exact ⟨fun e => by omega, fun e => by rw [e] at h; omega⟩
  · exact ⟨fun _ => code_inj wa wb (okB_len' oa) (okB_len' ob) h, fun e => h2⟩
end
/-- Whatever messages, valid or not. -/
def WfM (l : List RM) : Prop := ∀ m ∈ l, m.wf
theorem Good.wfm {l : List RM} (h : Good l) : WfM l := fun m hm => (h m hm).1
theorem WfM.wid {l : List RM} (h : WfM l) : Wid mc 29 l := fun a ha => mc_len (h a ha).val.hl
theorem mem_at {l : List RM} {j : Nat} {m : RM} (h : l[j]? = some m) : m ∈ l := by
  obtain ⟨_, e⟩ := List.getElem?_eq_some_iff.1 h
  rw [← e]; exact List.getElem_mem _
theorem rows_mc_one (l : List RM) : One (rows mc l) := rows_one mc_one l
set_option maxHeartbeats 4000000 in
theorem search_fn (n : Nat) (p : Nat → Bool) (cb : Array Value) (w0 w : World) (hb : Fr w0 w) (hsz : n < 4611686018427387904)
    (hf : ∀ (W : World) (i : Nat), Fr w0 W → i < n → Calls Try.prog 82 (#[.int .i64 i] ++ cb) W fun e w' => e = .returned (.bool (p i)) ∧ Fr w0 w')
    (hmono : ∀ a b, a ≤ b → b < n → p a = true → p b = true) :
    Calls Try.prog 81 #[.int .i64 n, .func (.func 82) #[] cb] w fun e w' => ∃ lo : Nat, e = .returned (.int .i64 lo) ∧ lo ≤ n ∧ (∀ t, t < lo → p t = false) ∧ (∀ t, lo ≤ t → t < n → p t = true) ∧ Fr w0 w' := by
  have HF := keep hf
  have M := keep hmono
  have HB := keep hb
  clear hf hmono hb
  go_enter Try.func81, Try.ntmps81
  go_wp2
  go_loopg [5, 6] n (fun kx s5 s6 wr => ∃ lo hi : Nat, s5 = .int .i64 lo ∧ s6 = .int .i64 hi ∧ lo ≤ hi ∧ hi ≤ n ∧ hi - lo ≤ kx ∧ Hid (Fr w0 wr) ∧ Hid ((∀ t, t < lo → p t = false) ∧ (∀ t, hi ≤ t → t < n → p t = true)))
  case atStart => exact ⟨0, n, rfl, rfl, Nat.zero_le _, Nat.le_refl _, by omega, HB, keep ⟨fun t ht => absurd ht (Nat.not_lt_zero _), fun t h1 h2 => by omega⟩⟩
  case round =>
    obtain ⟨lo, hi, rfl, rfl, hlh, hin, hg, hF, I⟩ := hrel
    by_cases hlt : lo < hi
    · have hc := HF.out wr ((lo + hi) / 2) hF.out (by omega)
      rw [show (((lo + hi) / 2 : Nat) : Int) = ((lo : Int) + (hi : Int)) / 2 by omega] at hc
      cases hp : p ((lo + hi) / 2) <;> rw [hp] at hc
      · have HP := keep hp
        clear hp
        go_wp2_with fail
        refine hc.mono ?_
        rintro e w' ⟨rfl, hF2⟩
        go_wp2_with fail
        go_roundg (hi - ((lo + hi) / 2 + 1))
        case measure => omega
        case rel =>
          exact ⟨(lo + hi) / 2 + 1, hi, by rw [show ((lo : Int) + (hi : Int)) / 2 + 1 = (((lo + hi) / 2 + 1 : Nat) : Int) by omega], rfl, by omega, hin, Nat.le_refl _, keep hF2, keep ⟨fun t ht => (by
            cases h : p t with
            | false => rfl
            | true => have := M.out t ((lo + hi) / 2) (by omega) (by omega) h; rw [HP.out] at this; cases this), I.out.2⟩⟩
      · have HP := keep hp
        clear hp
        go_wp2_with fail
        refine hc.mono ?_
        rintro e w' ⟨rfl, hF2⟩
        go_wp2_with fail
        go_roundg ((lo + hi) / 2 - lo)
        case measure => omega
        case rel =>
          exact ⟨lo, (lo + hi) / 2, rfl, by rw [show ((lo : Int) + (hi : Int)) / 2 = (((lo + hi) / 2 : Nat) : Int) by omega], by omega, by omega, Nat.le_refl _, keep hF2, keep ⟨I.out.1, fun t ht htn => M.out ((lo + hi) / 2) t ht htn HP.out⟩⟩
    · obtain rfl : hi = lo := by omega
      go_wp2
      go_ret
      exact ⟨hi, rfl, hin, I.out.1, fun t h1 h2 => I.out.2 t h1 h2, hF.out⟩

set_option maxHeartbeats 4000000 in
/-- The closure of 'place'. -/
theorem place_fn {w0 W : World} {A : Option Addr} {n c B ba kb : Nat} {l : List RM} {k : RK} (hba : w0.cell? ⟨ba, 0, none⟩ = some (.slice A n c)) (hbl : ba < w0.heap.size) (hk : Arr w0 kb 40 (kc k).toArray) (wk : k.wf) (ok : okB k = true)
    (hl : Has w0 B A (rows mc l)) (hB : B ≤ w0.heap.size) (hn : l.length = n) (gl : ∀ m ∈ l, m.wf ∧ okM m = true) {j : Nat} {m : RM} (hm : l[j]? = some m) (hb : Fr w0 W) :
    Calls Try.prog 82 #[.int .i64 j, .pointer (some ⟨ba, 0, none⟩), .pointer (some ⟨kb, 0, none⟩)] W fun e w' => e = .returned (.bool (decide (0 ≤ cmpK m.key k))) ∧ Fr w0 w' := by
  have hw : Wid mc 29 l := fun a ha => mc_len (gl a ha).1.val.hl
  have hjn : j < n := by rw [← hn]; exact (List.getElem?_eq_some_iff.1 hm).1
  obtain ⟨b, off, rfl, hb1, hr⟩ := has_rows hl hw (by decide) (by intro e; rw [e] at hm; simp at hm)
  have hbs : b < w0.heap.size := by omega
  have gm := gl m (mem_at hm)
  have lK := elem_part keyS hr hw hbs hm (mc_key m) (kc_len _)
  have lk : ∀ W, Fr w0 W → (ldS 40 (.pointer (some ⟨kb, 0, none⟩))).run Try.prog W = .ok (.agg (kc k).toArray) W := fun W h => keyS.ld (kc_len k) (hk.below h hk.lt)
  have lb : ∀ W, Fr w0 W → W.cell? ⟨ba, 0, none⟩ = some (.slice (some ⟨b, off, none⟩) n c) := fun W h => (h.cell hbl).trans hba
  have cC := fun W h => kcomp_at (W0 := w0) (W := W) gm.1.key wk (okM_key gm.2) ok h
  have hbd := fr_drew hb
  have hjz : (j : Int) < (n : Int) := by omega
  generalize cmpK m.key k = r at *
  clear gm gl hl hm hw hr hk hn hjn
  go_enter Try.func82, Try.ntmps82
  go_wp2_with fail
  go_region_held3 (fun w' => Fr w0 w') (first | exact hbd | assumption)
    (first | (go_at_call 69; (with_reducible refine (cC _ (by assumption)).mono ?_); rintro e w9 ⟨rfl, hz⟩))
  rename_i hH
  go_wp2
  go_ret
  exact ⟨rfl, hH⟩
end Go.Proofs.Ytcdcaanmmbopbaa
/- Buffers in memory, two: 'place'. -/
namespace Go.Proofs.Ytcdcaanmmbopbaa
set_option maxRecDepth 100000
open Go.RowKit
set_option linter.unusedVariables false
attribute [local go_sem ↓] key_ld msg_ld
theorem place_boxed (w : World) (A : Option Addr) (n c : Nat) (k : RK) : ∃ Z, (w.alloc (.cells #[.slice A n c] 25)).alloc (.cells (kc k).toArray 40) = Z ∧ Fr w Z ∧ Fr Z Z ∧ Arr Z w.heap.size 25 #[.slice A n c] ∧ Arr Z (w.heap.size + 1) 40 (kc k).toArray ∧ Z.heap.size = w.heap.size + 1 + 1 := by
  refine ⟨_, rfl, fr_new (fr_new (fr_refl w) _) _, fr_refl _, Arr.alloc (Arr.new w _ _) _, arr_at _ _ _ _ (by simp), by simp⟩
set_option maxHeartbeats 4000000 in
theorem place_at {w : World} {A : Option Addr} {n c B : Nat} {l : List RM} {k : RK} (hl : Has w B A (rows mc l)) (hB : B ≤ w.heap.size) (hn : l.length = n) (hsm : n ≤ 1000000) (ol : OkL l) (wk : k.wf) (ok : okB k = true) :
    Calls Try.prog 65 #[.slice A n c, kv k] w fun e w' => e = .returned (.tuple #[.int .i64 (posL l (code k) : Nat), .bool (findL l k).isSome]) ∧ Fr w w' := by
  obtain ⟨Z, hZ, hF, hZZ, hA, hK, hS⟩ := place_boxed w A n c k
  have hlZ := hl.below (hF.mono hB)
  have hBZ : B ≤ Z.heap.size := by omega
  have gl := ol.good
  have hw := gl.wfm.wid
  have cS := search_fn n (fun i => match l[i]? with | some m => decide (0 ≤ cmpK m.key k) | none => true) #[.pointer (some ⟨w.heap.size, 0, none⟩), .pointer (some ⟨w.heap.size + 1, 0, none⟩)] Z Z hZZ (by omega)
    (fun W i hb hi => by
      have hm : l[i]? = some (l[i]'(by omega)) := List.getElem?_eq_getElem _
      rw [hm]
      exact place_fn (hA.cell 0) hA.lt hK wk ok hlZ hBZ hn gl hm hb)
    (fun a b hab hb hp => by
      have ha' : l[a]? = some (l[a]'(by omega)) := List.getElem?_eq_getElem _
      have hb' : l[b]? = some (l[b]'(by omega)) := List.getElem?_eq_getElem _
      simp only [ha', hb', decide_eq_true_eq, cmpK_ge] at hp ⊢
      rcases Nat.lt_or_ge a b with h | h
      · have := List.pairwise_iff_getElem.1 ol.asc a b (by omega) (by omega) h
        unfold cd at this
        omega
      · have : a = b := by omega
        subst this
        exact hp)
  have lk : ∀ W, Fr Z W → (ldS 40 (.pointer (some ⟨w.heap.size + 1, 0, none⟩))).run Try.prog W = .ok (.agg (kc k).toArray) W := fun W h => keyS.ld (kc_len k) (hK.below h hK.lt)
  have lb : ∀ W, Fr Z W → W.cell? ⟨w.heap.size, 0, none⟩ = some (.slice A n c) := fun W h => (h.cell hA.lt).trans (hA.cell 0)
  have Hn := keep hn
  have Hol := keep ol
  have Hw := keep hw
  have Hl := keep hlZ
  have Hwk := keep wk
  have Hok := keep ok
  have Hgl := keep gl
  clear hn ol hw hl hlZ gl hA hK wk ok
  go_enter Try.func65, Try.ntmps65
  go_wp2_with fail
  refine cS.mono ?_
  rintro e W ⟨lo, rfl, hlo, h1, h2, hW⟩
  have elo : lo = posL l (code k) := by
    refine posL_uniq Hol.out (by rw [Hn.out]; exact hlo) ?_ ?_
    · intro t m ht hm
      have h := h1 t ht
      simp only [hm, decide_eq_false_iff_not, cmpK_ge] at h
      unfold cd
      omega
    · intro t m ht hm
      have h := h2 t ht (by rw [← Hn.out]; exact (List.getElem?_eq_some_iff.1 hm).1)
      simp only [hm, decide_eq_true_eq, cmpK_ge] at h
      exact h
  have hf := find_pos Hol.out Hwk.out Hok.out
  rw [← elo] at hf
  have Elo := keep elo
  clear h1 h2 elo cS
  have hWD := fr_drew hW
  by_cases hlt : lo < n
  · have hm : l[lo]? = some (l[lo]'(by rw [Hn.out]; exact hlt)) := List.getElem?_eq_getElem _
    generalize l[lo]'(by rw [Hn.out]; exact hlt) = m at hm
    rw [hm] at hf
    obtain ⟨b, off, rfl, hb1, hr⟩ := has_rows Hl.out Hw.out (by decide) (by intro e; rw [e] at hm; simp at hm)
    have hbs : b < Z.heap.size := by omega
    have gm := Hgl.out m (mem_at hm)
    have lK := elem_part keyS hr Hw.out hbs hm (mc_key m) (kc_len _)
    have qE := fun W => key_eql gm.1.key Hwk.out W
    have ef : (findL l k).isSome = decide (m.key = k) := by rw [hf]; by_cases e : m.key = k <;> simp [e]
    have Ef := keep ef
    have hjz : (lo : Int) < (n : Int) := by omega
    clear hf hm ef gm hr hlt hlo
    generalize decide (m.key = k) = q at *
    go_wp2_with fail
    go_region_held3 (fun w' => Fr Z w') (first | exact hWD | assumption) (first | fail)
    rename_i hH

    go_wp2
    go_ret2
    exact ⟨by rw [← Elo.out, Ef.out]; rfl, fr_step hF hH⟩
  · have hnone : l[lo]? = none := List.getElem?_eq_none (by rw [Hn.out]; omega)
    rw [hnone] at hf
    have ef : (findL l k).isSome = false := by rw [hf]; rfl
    have Ef := keep ef
    have hjz : ¬ (lo : Int) < (n : Int) := by omega
    have hjd : decide (lo < n) = false := by simpa using hlt
    clear hf hnone ef hlo
    go_wp2_with fail
    go_region
    all_goals go_wp2
    all_goals go_ret2
    all_goals exact ⟨by rw [← Elo.out, Ef.out]; rfl, fr_step hF (fr_drew hW)⟩
end Go.Proofs.Ytcdcaanmmbopbaa
/- Buffers in memory, three: 'slices.Clone', 'slices.Insert' of messages. -/
namespace Go.Proofs.Ytcdcaanmmbopbaa
set_option maxRecDepth 100000
open Go.RowKit
set_option linter.unusedVariables false
attribute [local go_sem ↓] key_ld msg_ld
theorem msg_elem : Elem Try.prog 48 29 64 := Elem.of (z := mm zeroM) (by kernel_rfl) (by kernel_rfl) (by kernel_rfl) rfl
theorem msgs_under : Try.prog.underlying 25 = some (.slice 48) := Try.underlying25
theorem msgs_nil (A : Option Addr) (n c : Nat) (w : World) : (binOp .eql 25 (.slice A n c) (.slice none 0 0)).run Try.prog w = .ok (.bool A.isNone) w := by
  exact run_eql_slice_nil w _ _ A n c msgs_under
/-- Messages in a row of the call's own. -/
abbrev OwnM (w : World) (B : Nat) (A : Option Addr) (c : Nat) (l : List RM) : Prop := Own w B 48 29 A l.length c (rows mc l)
theorem msgs_sz (w : World) : (sizeOf (Try.prog.elem 25)).run Try.prog w = .ok 29 w := by kernel_rfl
theorem msgs_el : Try.prog.underlying 25 = some (.slice (Try.prog.elem 25)) := by kernel_rfl
/-- Where 's[t:]' begins. -/
def lowM (A : Option Addr) (m t : Nat) : Option Addr := if m = t then A else A.map (·.add (t * 29))
theorem lowM_some {g o m t : Nat} (h : t < m) : lowM (some ⟨g, o, none⟩) m t = some ⟨g, o + t * 29, none⟩ := by
  unfold lowM
  rw [if_neg (by omega)]
  simp [Addr.add_lit]
theorem msgs_slice_hi (A : Option Addr) (n c t : Nat) (ht : t ≤ c) (W : World) : (Instr.slice 25 (.slice A n c) none (some (.int .i64 (t : Int))) none).run Try.prog W = .ok (.slice A t c) W := by
  rw [run_slice_h (P := Try.prog) (w := W) (t := 25) (ht := msgs_el) A n c .i64 (t : Int) (by omega) (by omega), msgs_sz]
  have h0 : A.map (·.add 0) = A := by cases A <;> simp [Addr.add]
  simp only [Result.andThen, sliced, Int.toNat_natCast, Nat.zero_mul, h0, Nat.sub_zero, ite_self]
theorem msgs_slice_lo (A : Option Addr) (n c t : Nat) (ht : t ≤ n) (W : World) : (Instr.slice 25 (.slice A n c) (some (.int .i64 (t : Int))) none none).run Try.prog W = .ok (.slice (lowM A c t) (n - t) (c - t)) W := by
  rw [run_slice_l (P := Try.prog) (w := W) (t := 25) (ht := msgs_el) A n c .i64 (t : Int) (by omega) (by omega), msgs_sz]
  simp only [Result.andThen, sliced, Int.toNat_natCast, lowM]
theorem msgs_slice_lhm (A : Option Addr) (n c l h m : Nat) (h1 : l ≤ h) (h2 : h ≤ m) (h3 : m ≤ c) (W : World) : (Instr.slice 25 (.slice A n c) (some (.int .i64 (l : Int))) (some (.int .i64 (h : Int))) (some (.int .i64 (m : Int)))).run Try.prog W = .ok (.slice (lowM A m l) (h - l) (m - l)) W := by
  rw [run_slice_lhm (P := Try.prog) (w := W) (t := 25) (ht := msgs_el) A n c .i64 .i64 .i64 (l : Int) (h : Int) (m : Int) (by omega) (by omega) (by omega) (by omega), msgs_sz]
  simp only [Result.andThen, sliced, Int.toNat_natCast, lowM]
theorem msgs_slice_hm (A : Option Addr) (n c h m : Nat) (h2 : h ≤ m) (h3 : m ≤ c) (W : World) : (Instr.slice 25 (.slice A n c) none (some (.int .i64 (h : Int))) (some (.int .i64 (m : Int)))).run Try.prog W = .ok (.slice A h m) W := by
  rw [run_slice_hm (P := Try.prog) (w := W) (t := 25) (ht := msgs_el) A n c .i64 .i64 (h : Int) (m : Int) (by omega) (by omega) (by omega), msgs_sz]
  have h0 : A.map (·.add 0) = A := by cases A <;> simp [Addr.add]
  simp only [Result.andThen, sliced, Int.toNat_natCast, Nat.zero_mul, h0, Nat.sub_zero, ite_self]
theorem msgs_sliceAt (x : Value) (lo hi mx : Option Value) (W : World) : (Instr.sliceAt 25 x lo hi mx).run Try.prog W = (Instr.slice 25 x lo hi mx).run Try.prog W := run_sliceAt_slice (P := Try.prog) (w := W) (h := msgs_el) _ _ _ _ _
end Go.Proofs.Ytcdcaanmmbopbaa
/- Buffers in memory, four: 'slices.Insert' of a message in the midst, where there is room. -/
namespace Go.Proofs.Ytcdcaanmmbopbaa
set_option maxRecDepth 100000
open Go.RowKit
set_option linter.unusedVariables false
attribute [local go_sem ↓] key_ld msg_ld
theorem own_drew {w : World} {B e size n c : Nat} {A : Option Addr} {xs : List Value} (h : Own w B e size A n c xs) : Own w.drew B e size A n c xs := h
theorem msg_info' : ∃ i z, Try.prog.info? 48 = some i ∧ i.size = 29 ∧ i.zero = some z ∧ z.cells.size = 29 ∧ i.bytes = 64 := by
  obtain ⟨i, z, h1, h2, h3, h4, h5⟩ := msg_elem.row
  exact ⟨i, z, h1, h3, h2, h5, h4⟩
theorem mid_len {n i : Nat} (h : i < n) : (i + 1 + (n - i)) = n + 1 := by omega
theorem insert_math {l : List RM} {m : RM} {i n : Nat} (hi : i < n) (hn : l.length = n) (wl : WfM l) (wm : m.wf) (ys : List Value) (hys : ys.length = 29) :
    (((rows mc l ++ ys).take ((i + 1) * 29) ++ rows mc (l.drop i) ++ (rows mc l ++ ys).drop ((i + 1 + (n - i)) * 29)).take (i * 29) ++ mc m ++ ((rows mc l ++ ys).take ((i + 1) * 29) ++ rows mc (l.drop i) ++ (rows mc l ++ ys).drop ((i + 1 + (n - i)) * 29)).drop ((i + 1) * 29)) = rows mc (l.take i ++ m :: l.drop i) := by
  have hlen : (rows mc l).length = n * 29 := by rw [rows_len wl.wid, hn]
  have e1 : (rows mc l ++ ys).drop ((i + 1 + (n - i)) * 29) = [] := List.drop_eq_nil_of_le (by rw [List.length_append, hlen, hys, mid_len hi]; omega)
  have e2 : ((rows mc l ++ ys).take ((i + 1) * 29)).length = (i + 1) * 29 := by rw [List.length_take, List.length_append, hlen, hys]; omega
  rw [e1, List.append_nil, List.drop_left' e2, List.take_append_of_le_length (by rw [e2]; omega), List.take_take, Nat.min_eq_left (by omega), List.take_append_of_le_length (by rw [hlen]; omega), ← rows_take wl.wid, rows_append, rows_cons, List.append_assoc]
end Go.Proofs.Ytcdcaanmmbopbaa
/- Buffers in memory, five: 'slices.Insert' of a message in the midst, where there is no room; and wherever. -/
namespace Go.Proofs.Ytcdcaanmmbopbaa
set_option maxRecDepth 100000
open Go.RowKit
set_option linter.unusedVariables false
attribute [local go_sem ↓] key_ld msg_ld
theorem wpList_append_run {P : Program} (w : World) {ops : Array Oper} {rest : List Oper} {o : Oper} {a : Act} {Q : Exit → Act → World → Prop} (hgd : o.guard = none) (d s : Operand) (t t' : TypeId)
    (ho : o.op = .call { callee := .builtin .append, args := #[d, s], argTypes := #[t, t'] }) (v u : Value) (hd : a.eval d = v) (hs : a.eval s = u) {v' : Value} {w' : World}
    (hr : (Builtin.append_ #[t, t'] o.type #[v, u]).run P w = .ok v' w') (h : wpList P ops Q rest (a.put o.dst v') w') : wpList P ops Q (o :: rest) a w :=
  wpList_plain hgd fun _ hK => by
    unfold Oper.wp execOp
    simp only [ho, resolve, invoke, builtin, Sem.run_bind, Sem.run_pure, Result.andThen_ok, List.map_toArray, List.map_cons, List.map_nil, hd, hs, hr]
    exact hK _ _ h
theorem grow_math {l : List RM} {m : RM} {i n : Nat} (hi : i < n) (hn : l.length = n) (wl : WfM l) (wm : m.wf) (zs : List Value) (hzs : zs.length = (n + 1 - i) * 29) :
    (((rows mc l).take (i * 29) ++ zs).take (i * 29) ++ mc m ++ ((rows mc l).take (i * 29) ++ zs).drop ((i + 1) * 29)).take ((i + 1) * 29) ++ rows mc (l.drop i) ++ (((rows mc l).take (i * 29) ++ zs).take (i * 29) ++ mc m ++ ((rows mc l).take (i * 29) ++ zs).drop ((i + 1) * 29)).drop ((i + 1 + (n - i)) * 29) = rows mc (l.take i ++ m :: l.drop i) := by
  have hlen : (rows mc l).length = n * 29 := by rw [rows_len wl.wid, hn]
  have h1 : ((rows mc l).take (i * 29)).length = i * 29 := by rw [List.length_take, hlen]; omega
  have hm := mc_len wm.val.hl
  have e0 : ((rows mc l).take (i * 29) ++ zs).take (i * 29) = rows mc (l.take i) := by rw [List.take_left' h1, ← rows_take wl.wid]
  have hlt : (rows mc (l.take i)).length = i * 29 := by rw [rows_take wl.wid, h1]
  rw [e0]
  have e1 : (rows mc (l.take i) ++ mc m ++ ((rows mc l).take (i * 29) ++ zs).drop ((i + 1) * 29)).take ((i + 1) * 29) = rows mc (l.take i) ++ mc m := List.take_left' (by rw [List.length_append, hlt, hm]; omega)
  have e2 : (rows mc (l.take i) ++ mc m ++ ((rows mc l).take (i * 29) ++ zs).drop ((i + 1) * 29)).drop ((i + 1 + (n - i)) * 29) = [] := List.drop_eq_nil_of_le (by rw [List.length_append, List.length_append, List.length_drop, List.length_append, hlt, hm, h1, hzs]; omega)
  rw [e1, e2, List.append_nil, rows_append, rows_cons, List.append_assoc]
theorem grownBy_none {w w' : World} {B : Nat} (h : w.grownBy w' none) (hB : B ≤ w.heap.size) : Below B w w' := (Below.refl B w).grown h hB (fun k hk => by cases hk)
theorem grownBy_arr' {T V : Nat} {cs : Array Value} {w w' : World} (h : w.grownBy w' none) (ha : Arr w V T cs) : Arr w' V T cs := (h.block V ha.lt (by simp)).trans ha
end Go.Proofs.Ytcdcaanmmbopbaa
/- Buffers in memory, six: 'enter'. -/
namespace Go.Proofs.Ytcdcaanmmbopbaa
set_option maxRecDepth 100000
open Go.RowKit
set_option linter.unusedVariables false
attribute [local go_sem ↓] key_ld msg_ld msg_st
theorem msg_box1 (w : World) (m : RM) : ∃ Z, w.alloc (.cells (mc m).toArray 48) = Z ∧ Fr w Z ∧ Fr Z Z ∧ Arr Z w.heap.size 48 (mc m).toArray ∧ Z.heap.size = w.heap.size + 1 := ⟨_, rfl, fr_new (fr_refl w) _, fr_refl _, Arr.new w _ _, by simp⟩
theorem build_fold : ∀ (cs : List Value) (k : Nat) (z : Array Value), k + cs.length = z.size → List.foldl (fun (cs : Array Value) (x : Value × Nat) => cs.setIfInBounds x.snd x.fst) z (cs.zipIdx k) = (z.toList.take k ++ cs).toArray
  | [], k, z, h => by
    simp at h
    subst h
    simp [List.take_of_length_le]
  | v :: cs, k, z, h => by
    simp only [List.length_cons] at h
    rw [List.zipIdx_cons, List.foldl_cons, build_fold cs (k + 1) _ (by simp; omega)]
    congr 1
    simp only [Array.toList_setIfInBounds]
    rw [show v :: cs = [v] ++ cs from rfl, ← List.append_assoc]
    congr 1
    apply List.ext_getElem?
    intro j
    simp only [List.getElem?_take, List.getElem?_set, List.getElem?_append, List.length_take, Array.length_toList]
    by_cases h1 : j < k
    · have : min k z.size = k := by omega
      simp [h1, this, show j < k + 1 by omega, Nat.ne_of_gt h1]
    · by_cases h2 : j = k
      · subst h2
        have : min j z.size = j := by omega
        have : j < z.size := by omega
        simp [*]
      · have : min k z.size = k := by omega
        simp [h1, this, show ¬ j < k + 1 by omega]
        omega
theorem msg_fold {m : RM} (hl : (mc m).length = 29) : List.foldl (fun (cs : Array Value) (x : Value × Nat) => cs.setIfInBounds x.snd x.fst) (mc zeroM).toArray (mc m).zipIdx = (mc m).toArray := by
  have := build_fold (mc m) 0 (mc zeroM).toArray (by rw [hl]; rfl)
  simpa using this
end Go.Proofs.Ytcdcaanmmbopbaa
