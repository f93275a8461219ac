/- Package clock: the document's Order. -/
import Derived.Test.YtmoaddbpfekdbaaM17
import Derived.Test.YtmoaddbpfekdbaaM18
import Derived.Test.YtmoaddbpfekdbaaM19
import Derived.Laws.Externs
import Derived.Deep.Cut
namespace Go.Proofs.Ytmoaddbpfekdbaa
set_option linter.unusedVariables false
set_option linter.unusedSimpArgs false
set_option maxRecDepth 100000
open Go.RowKit
/-- The world on the way: who can go, the marks, who went. -/
structure DI (w W : World) (S : Option Addr) (n sc : Nat) (R : Option Addr) (m : Nat) (O : Option Addr) (oc : Nat) (c l : List Bool) (o : List Nat) : Prop where
  fr : Fr w W
  can : ResB w W S n sc c
  ref : HasP W (fun b => ¬ At S b ∧ ¬ At O b) R (rows bc l)
  rlen : l.length = m
  out : ResI w W O o.length oc (oi o)
set_option maxHeartbeats 8000000 in
theorem rorder_at {w : World} {C R : Option Addr} {n cc m rc : Nat} {z : Int} {c r : List Bool} (hc : Has w w.heap.size C (rows bc c)) (hcn : c.length = n) (hr : Has w w.heap.size R (rows bc r)) (hrn : r.length = m) (hs : n ≤ 100000) :
    Calls Try.prog 26 #[.slice C n cc, .slice R m rc, .int .i64 z] w fun e w' => ∃ O k oc, e = .returned (.slice O k oc) ∧ Hid (ResI w w' O k oc (oi (ordL c r z)) ∧ Fr w w') := by
  have ho : Own (w.alloc (.cells #[] 4)) w.heap.size 4 1 (some ⟨w.heap.size, 0, none⟩) 0 0 (rows bc []) := Own.lit w w.heap.size 4 #[] 0 1 (Nat.le_refl _) (Nat.zero_le _) rfl
  have hl2 := hc.below (fr_new (fr_refl w) (.cells #[] 4))
  have h1 := rows_one bc_one c
  have hlen := rows_len (bc_wid c)
  rw [hcn] at hlen
  have H1 := keep h1
  have HO := keep ho
  have H2 := keep hl2
  have HL := keep hlen
  have HR := keep hr
  have Hcn := keep hcn
  have Hrn := keep hrn
  have hq : ordD (n + 1) c r z = ordL c r z := by rw [← hcn]; exact ord_same c r z
  have Hq := keep hq
  clear hc hr hcn hrn ho hl2 h1 hlen hq
  go_enter Try.func26, Try.ntmps26
  go_wp2_with (first
    | (refine wpList_append_vals (w0 := w) bool_elem bools_under (by decide) rfl (.tmp 13) (.tmp 14) rfl (fr_new (fr_refl w) _) (some ⟨w.heap.size, 0, none⟩) 0 0 (rows bc []) rfl HO.out w.heap.size C n cc (rows bc c) rfl HL.out H2.out H1.out (by simp only [maxLen]; omega) (by omega) ?_; intro S sc w1 h1 h2)
    | fail)
  have R1 : Rw w1 4 1 S n sc (rows bc c) := by rw [← Nat.zero_add n]; exact h1.rw'
  have hSn : ∀ k, At S k → w.heap.size ≤ k := fun k hk => (h1.lt k hk).1
  have HI1 : Hid (∃ c1 l1 o1, DI w w1 S n sc R m none 0 c1 l1 o1 ∧ 0 = o1.length ∧ o1.length ≤ 0 ∧ ordL c r z = o1 ++ ordD (n + 1 - 0) c1 l1 z) :=
    keep ⟨c, r, [], ⟨h2, ⟨R1, Hcn.out, hSn⟩, (HR.out.fr (Nat.le_refl _) h2).hasP fun b hb => ⟨fun e => by have := hSn b e; omega, fun e => by cases e⟩, Hrn.out, ⟨Rw.nil _ _ _, rfl, fun k hk => by cases hk⟩⟩, rfl, Nat.le_refl _, by rw [Nat.sub_zero, Hq.out]; rfl⟩
  clear h1 h2 R1 hSn
  go_loopg [7, 1, 2, 9] (n + 1) (fun gg s7 s1 s2 s9 wr => ∃ (j k7 oc m' rc' : Nat) (O R' : Option Addr) (z' : Int), j + gg = n + 1 ∧ s7 = .slice O k7 oc ∧ s1 = .slice R' m' rc' ∧ s2 = .int .i64 z' ∧ s9 = .int .i64 j ∧
    Hid (∃ c1 l1 o1, DI w wr S n sc R' m' O oc c1 l1 o1 ∧ k7 = o1.length ∧ o1.length ≤ j ∧ ordL c r z = o1 ++ ordD (n + 1 - j) c1 l1 z'))
  case atStart => exact ⟨0, 0, 0, m, rc, none, R, z, by omega, rfl, rfl, rfl, rfl, HI1⟩
  case round =>
    obtain ⟨j, k7, oc, m', rc', O, R', z', hj, rfl, rfl, rfl, rfl, HI⟩ := hrel
    obtain ⟨c1, l1, o1, hD, hk7, hoj, hord⟩ := HI.out
    have HDI := keep hD
    have Hk7 := keep hk7
    have Hord := keep hord
    clear hD hk7 hord HI HI1
    by_cases hlt : j < n + 1
    · have hlz : (j : Int) ≤ (n : Int) := by omega
      have wj : IntKind.i64.wrap ((j : Int) + 1) = (j : Int) + 1 := by rw [IntKind.wrap_i64]; omega
      have hsw := rsweep_at (w := wr) (n := n) (cc := sc) (m := m') (rc := rc') (z := z') HDI.out.can.row.has HDI.out.can.len HDI.out.ref.has HDI.out.rlen hs
      obtain ⟨f, hf⟩ : ∃ f, n + 1 - j = f + 1 := ⟨n - j, by omega⟩
      have hf2 : n + 1 - (j + 1) = f := by omega
      have Hf := keep hf
      have Hf2 := keep hf2
      clear hf hf2
      rcases swp_cases c1 l1 z' with hp | ⟨k, hp, hkn, hck⟩
      · rw [hp] at hsw
        have hnone : ordD (f + 1) c1 l1 z' = [] := by rw [ordD_succ, if_pos (by rw [hp]; decide)]
        have Hno := keep hnone
        have Hsw := keep hsw
        clear hnone hp hsw
        go_wp2_with (first
          | (go_at_call 44; with_reducible refine Hsw.out.mono ?_; rintro e w2 ⟨L, kl, lc, rfl, hz2⟩)
          | fail)
        go_ret
        refine ⟨O, k7, oc, rfl, keep ⟨?_, fr_step HDI.out.fr hz2.out.2⟩⟩
        rw [Hord.out, Hf.out, Hno.out, List.append_nil, Hk7.out]
        exact ⟨HDI.out.out.row.fr hz2.out.2, HDI.out.out.len, HDI.out.out.new⟩
      · rw [hp] at hsw
        rw [HDI.out.can.len] at hkn
        have hsome : ordD (f + 1) c1 l1 z' = k :: ordD f (c1.set k false) (swpL c1 l1 z').2.2 (swpL c1 l1 z').2.1 := ordD_some f (by rw [← hp])
        obtain ⟨q, hqq⟩ : ∃ q, q = (swpL c1 l1 z').2.1 := ⟨_, rfl⟩
        obtain ⟨l2, hl2⟩ : ∃ l2, l2 = (swpL c1 l1 z').2.2 := ⟨_, rfl⟩
        rw [← hqq, ← hl2] at hsw hsome
        have Hsome := keep hsome
        have Hsw := keep hsw
        clear hsome hp hsw hqq hl2 hck
        obtain ⟨g, o, rfl⟩ := HDI.out.can.row.addr (by omega)
        have hkz : (k : Int) < (n : Int) := by omega
        have hkp : ¬ ((k : Int) < 0) := by omega
        have hOA : ∀ i, At O i → ¬ i = g := fun i hi e => HDI.out.can.row.apart HDI.out.out.row (by decide) i (by rw [e]; rfl) hi
        have HOA := keep hOA
        have hcl := HDI.out.can.len
        have Hcl := keep hcl
        have hk7b : k7 ≤ 200000 := by have : o1.length ≤ j := hoj; have := Hk7.out; omega
        clear hOA hcl
        go_wp2_with (first
          | (go_at_call 44; with_reducible refine Hsw.out.mono ?_; rintro e w2 ⟨L, kl, lc, rfl, hz2⟩; have HO2 := keep ((HDI.out.out.row.fr hz2.out.2).fr (fr_new (fr_refl w2) (.cells #[.int .i64 (k : Int)] 3))); rw [← Hk7.out] at HO2; have HS2 := keep ((HDI.out.can.row.fr hz2.out.2).fr (fr_new (fr_refl w2) (.cells #[.int .i64 (k : Int)] 3))))
          | (refine wpList_append_rw int_elem ints_und (by decide) rfl (.tmp 33) (.tmp 35) rfl O k7 oc (rows ic (oi o1)) rfl HO2.out (w2.heap.size + 1) (some ⟨w2.heap.size, 0, none⟩) 1 1 (ic k) rfl rfl (has_new w2 (ic k) 3) (ic_one _) (by simp only [maxLen]; omega) (by omega) ?_; intro O' oc' w3 h3 p3; have H3 := keep (show Rw w3 _ _ _ _ _ _ ∧ Put _ w3 _ _ from ⟨h3, p3⟩); have HS3 := keep (HS2.out.chg p3.chg fun i hi ho => HOA.out i ho (by injection hi with hi; exact hi.symm)); clear h3 p3)
          | (refine wpList_store_rw (cf := bc) (x := false) (j := k) bool_info rfl (.tmp 39) (.const (.bool false)) rfl (by rw [Nat.mul_one]; rfl) rfl rfl (bc_one _) HS3.out (bc_wid _) Hcl.out (by omega) ?_; intro w4 h4 k4; have H4 := keep (show Rw w4 _ _ _ _ _ _ ∧ Chg _ w3 w4 from ⟨h4, k4⟩); clear h4 k4)
          | fail)
        go_roundg (gk - 1)
        case measure => omega
        case rel =>
          have hD := HDI.out
          obtain ⟨hres, hF2⟩ := hz2.out
          obtain ⟨h3, p3⟩ := H3.out
          obtain ⟨h4, k4⟩ := H4.out
          have hg : g < wr.heap.size := hD.can.row.lt g rfl
          have gw : w.heap.size ≤ g := hD.can.new g rfl
          have y2 := hF2.size
          have rL : Rw w4 4 1 L kl lc (rows bc l2) :=
            ((hres.row.fr (fr_new (fr_refl w2) (.cells #[.int .i64 (k : Int)] 3))).chg p3.chg fun i hi ho => (hres.row.fr (fr_new (fr_refl w2) (.cells #[.int .i64 (k : Int)] 3))).apart HO2.out (by decide) i hi ho).chg k4 fun i hi e => by have := hres.new i hi; omega
          have rO : Rw w4 3 1 O' (k7 + 1) oc' (rows ic (oi o1) ++ ic (k : Int)) := h3.chg k4 fun i hi e => HS3.out.apart h3 (by decide) i (by rw [e]; rfl) hi
          have e1 : rows ic (oi (o1 ++ [k])) = rows ic (oi o1) ++ ic (k : Int) := by
            unfold oi
            rw [List.map_append, rows_append]
            rfl
          have e2 : (o1 ++ [k]).length = k7 + 1 := by rw [List.length_append, Hk7.out]; rfl
          refine ⟨j + 1, k7 + 1, oc', kl, lc, O', L, q, by omega, rfl, rfl, rfl, rfl, keep ⟨c1.set k false, l2, o1 ++ [k], ⟨?_, ⟨h4, by rw [List.length_set]; exact hD.can.len, hD.can.new⟩, ?_, hres.len, ?_⟩, e2.symm, by rw [e2]; have := Hk7.out; omega, ?_⟩⟩
          · exact ((fr_new (fr_step hD.fr hF2) _).step_chg p3.chg hD.out.new).step_chg k4 fun i e => by rw [e]; exact gw
          · refine rL.hasP.weak fun b _ hb => ⟨fun e => ?_, fun e => rL.apart rO (by decide) b hb e⟩
            have := hres.new b hb
            have e : g = b := Option.some.inj e
            omega
          · rw [e2]
            refine ⟨by rw [e1]; exact rO, by rw [oi_len, e2], fun i hi => ?_⟩
            rcases p3.blk i hi with e | e
            · exact hD.out.new i e
            · have := hD.fr.size
              simp at e
              omega
          · rw [Hord.out, Hf.out, Hsome.out, Hf2.out, List.append_assoc]
            rfl
    · obtain rfl : j = n + 1 := by omega
      have hlz : ¬ (((n : Int) + 1) ≤ (n : Int)) := by omega
      go_wp2_with fail
      go_ret
      refine ⟨O, k7, oc, rfl, keep ⟨?_, HDI.out.fr⟩⟩
      rw [Hord.out, Nat.sub_self, Hk7.out]
      simp only [ordD, List.append_nil]
      exact HDI.out.out
end Go.Proofs.Ytmoaddbpfekdbaa
/- The program's cache: the types of its lists; 'slices.IndexFunc', 'Index', 'Contains'; the closures. -/
namespace Go.Proofs.Ytmoaddbpfekdbaa
set_option linter.unusedVariables false
set_option linter.unusedSimpArgs false
set_option maxRecDepth 100000
open Go.RowKit
def sv (x : Int × Int) : Value := .agg (sc x).toArray
theorem want_elem : Elem Try.prog 77 2 16 := Elem.of (z := sv (0, 0)) (by kernel_rfl) (by kernel_rfl) (by kernel_rfl) rfl
theorem wants_und : Try.prog.underlying 70 = some (.slice 77) := Try.underlying70
theorem want_ty : Sty Try.prog 77 2 := ⟨by kernel_rfl, ⟨_, Try.underlying77, rfl⟩⟩
theorem want_info : (Try.prog.info? 77).map (·.size) = some 2 := by kernel_rfl
theorem want_ld (p : Value) : Instr.loadAt 77 p = ldS 77 p := rfl
theorem pfr_ty : Sty Try.prog 67 14 := ⟨by kernel_rfl, ⟨_, Try.underlying67, rfl⟩⟩
theorem pfr_info : (Try.prog.info? 67).map (·.size) = some 14 := by kernel_rfl
theorem pfr_ld (p : Value) : Instr.loadAt 67 p = ldS 67 p := rfl
theorem pfrs_und : Try.prog.underlying 64 = some (.slice 67) := Try.underlying64
def NoneOf {α : Type} (p : α → Bool) (l : List α) : Prop := ∀ m ∈ l, p m = false
section
variable {V : Type} [NVal V]
/-- The task that has claimed it, as the program tells it. -/
def tk (f : Fra V) : Int := if f.st = 3 then f.own else -1
def pc (f : Fra V) : List Value := .int .i64 (f.st : Int) :: .int .i64 f.blk :: .int .i64 f.pins :: .bool f.ref :: .bool f.dirty :: (NVal.nc f.node ++ [.slice none 0 0, .int .i64 (-1), .slice none 0 0, .int .i64 (tk f)])
def pv (f : Fra V) : Value := .agg (pc f).toArray
theorem pc_len (f : Fra V) : (pc f).length = 14 := by simp [pc, NVal.len]
theorem pc_wid (l : List (Fra V)) : Wid pc 14 l := fun f _ => pc_len f
theorem pc_one (f : Fra V) : One (pc f) := .cons rfl (.cons rfl (.cons rfl (.cons rfl (.cons rfl (.app (NVal.one _) (.cons rfl (.cons rfl (.cons rfl (.cons rfl .nil)))))))))
theorem pc_0 (f : Fra V) : (pc f)[0]? = some (.int .i64 (f.st : Int)) := rfl
theorem pc_1 (f : Fra V) : (pc f)[1]? = some (.int .i64 f.blk) := rfl
theorem pc_2 (f : Fra V) : (pc f)[2]? = some (.int .i64 f.pins) := rfl
theorem pc_3 (f : Fra V) : (pc f)[3]? = some (.bool f.ref) := rfl
theorem pc_4 (f : Fra V) : (pc f)[4]? = some (.bool f.dirty) := rfl
theorem pc_13 (f : Fra V) : (pc f)[13]? = some (.int .i64 (tk f)) := by
  show (NVal.nc f.node ++ [Value.slice none 0 0, .int .i64 (-1), .slice none 0 0, .int .i64 (tk f)])[8]? = _
  rw [List.getElem?_append_right (by rw [NVal.len]; decide), NVal.len]
  rfl
theorem pc_node (f : Fra V) : ((pc f).drop 5).take 5 = NVal.nc f.node := by
  show (NVal.nc f.node ++ [Value.slice none 0 0, .int .i64 (-1), .slice none 0 0, .int .i64 (tk f)]).take 5 = _
  rw [← NVal.len f.node, List.take_left]
end
theorem w_sz (w : World) : (sizeOf (Try.prog.elem 70)).run Try.prog w = .ok 2 w := by kernel_rfl
theorem w_el : Try.prog.underlying 70 = some (.slice (Try.prog.elem 70)) := by kernel_rfl
theorem w_slice_hi (A : Option Addr) (n c t : Nat) (ht : t ≤ c) (W : World) : (Instr.slice 70 (.slice A n c) none (some (.int .i64 (t : Int))) none).run Try.prog W = .ok (.slice A t c) W := by
  rw [run_slice_h (P := Try.prog) (w := W) (t := 70) (ht := w_el) A n c .i64 (t : Int) (by omega) (by omega), w_sz]
  have h0 : A.map (·.add 0) = A := by cases A <;> simp [Addr.add]
  simp only [Result.andThen, sliced, Int.toNat_natCast, Nat.zero_mul, h0, Nat.sub_zero, ite_self]
theorem w_slice_lo (A : Option Addr) (n c t : Nat) (ht : t ≤ n) (W : World) : (Instr.slice 70 (.slice A n c) (some (.int .i64 (t : Int))) none none).run Try.prog W = .ok (.slice (lowB 2 A c t) (n - t) (c - t)) W := by
  rw [run_slice_l (P := Try.prog) (w := W) (t := 70) (ht := w_el) A n c .i64 (t : Int) (by omega) (by omega), w_sz]
  simp only [Result.andThen, sliced, Int.toNat_natCast, lowB]
attribute [local go_sem ↓] want_ld pfr_ld
set_option maxHeartbeats 2000000 in
theorem w_index {w : World} {A : Option Addr} {n c B : Nat} {l : List (Int × Int)} (p : (Int × Int) → Bool) (g : Nat) (cb : Array Value) (eg : ∀ args w, (callFunc g args).run Try.prog w = .ok (.enter g args) w)
    (hl : Has w B A (rows sc l)) (hB : B ≤ w.heap.size) (hn : l.length = n) (hsm : n ≤ 100000)
    (hp : ∀ W m, Fr w W → Calls Try.prog g (#[sv m] ++ cb) W fun e w' => e = .returned (.bool (p m)) ∧ Fr W w') :
    Calls Try.prog 56 #[.slice A n c, .func (.func g) #[] cb] w fun e w' => Fr w w' ∧ ((e = .returned (.int .i64 (-1)) ∧ Hid (NoneOf p l)) ∨ ∃ k : Nat, e = .returned (.int .i64 k) ∧ Hid (∃ m, l[k]? = some m ∧ p m = true ∧ ∀ t x, t < k → l[t]? = some x → p x = false)) := by
  have Hl := keep hl
  have Hn := keep hn
  have Hp := keep hp
  clear hl hn hp
  go_enter Try.func56, Try.ntmps56
  go_wp2_with fail
  go_loopg [5, 8] n (fun gg _ s8 wr => ∃ j : Nat, j + gg = n ∧ s8 = .int .i64 j ∧ Hid (Fr w wr) ∧ Hid (∀ t x, t < j → l[t]? = some x → p x = false))
  case atStart => exact ⟨0, by omega, rfl, keep (fr_refl w), keep (fun t x h => by omega)⟩
  case round =>
    obtain ⟨j, hj, rfl, hF, hno⟩ := hrel
    by_cases hlt : j < n
    · have hm : l[j]? = some (l[j]'(by rw [Hn.out]; exact hlt)) := List.getElem?_eq_getElem _
      generalize l[j]'(by rw [Hn.out]; exact hlt) = m at hm
      obtain ⟨b, off, rfl, hb1, hr⟩ := has_rows Hl.out (sc_wid l) (by decide) (by intro e; rw [e] at hm; simp at hm)
      have lX := elem_ld want_ty hr (sc_wid l) (by omega) hm
      have hc := Hp.out wr m hF.out
      have Hm := keep hm
      have hF1 := hF.out
      have hjz : (j : Int) < (n : Int) := by omega
      clear hm hr hlt
      cases hq : p m with
      | true =>
        rw [hq] at hc
        go_wp2_with (first | (go_at_fn g; refine hc.mono ?_; rintro e w' ⟨rfl, hz⟩) | fail)
        go_ret
        exact ⟨fr_step hF1 hz, .inr ⟨j, rfl, keep ⟨m, Hm.out, hq, hno.out⟩⟩⟩
      | false =>
        rw [hq] at hc
        have Hq := keep hq
        clear hq
        go_wp2_with (first | (go_at_fn g; refine hc.mono ?_; rintro e w' ⟨rfl, hz⟩) | fail)
        go_roundg (gk - 1)
        case measure => omega
        case rel => exact ⟨j + 1, by omega, rfl, keep (fr_step hF1 hz), keep (fun t x ht hx => by
          by_cases e : t = j
          · subst e
            rw [Hm.out] at hx
            injection hx with hx
            rw [← hx]; exact Hq.out
          · exact hno.out t x (by omega) hx)⟩
    · have hjn : j = n := by omega
      have hjz : ¬ (j : Int) < (n : Int) := by omega
      clear hlt
      go_wp2_with fail
      go_ret
      refine ⟨hF.out, .inl ⟨rfl, keep fun m hm => ?_⟩⟩
      obtain ⟨t, ht, e⟩ := List.mem_iff_getElem.1 hm
      exact hno.out t m (by rw [hjn, ← Hn.out]; exact ht) (by rw [List.getElem?_eq_getElem ht, e])
section
variable {V : Type} [NVal V]
set_option maxHeartbeats 2000000 in
theorem f_index {w : World} {A : Option Addr} {n c B : Nat} {l : List (Fra V)} (p : Fra V → Bool) (g : Nat) (cb : Array Value) (eg : ∀ args w, (callFunc g args).run Try.prog w = .ok (.enter g args) w)
    (hl : Has w B A (rows pc l)) (hB : B ≤ w.heap.size) (hn : l.length = n) (hsm : n ≤ 100000)
    (hp : ∀ W m, Fr w W → Calls Try.prog g (#[pv m] ++ cb) W fun e w' => e = .returned (.bool (p m)) ∧ Fr W w') :
    Calls Try.prog 53 #[.slice A n c, .func (.func g) #[] cb] w fun e w' => Fr w w' ∧ ((e = .returned (.int .i64 (-1)) ∧ Hid (NoneOf p l)) ∨ ∃ k : Nat, e = .returned (.int .i64 k) ∧ Hid (∃ m, l[k]? = some m ∧ p m = true ∧ ∀ t x, t < k → l[t]? = some x → p x = false)) := by
  have Hl := keep hl
  have Hn := keep hn
  have Hp := keep hp
  clear hl hn hp
  go_enter Try.func53, Try.ntmps53
  go_wp2_with fail
  go_loopg [5, 8] n (fun gg _ s8 wr => ∃ j : Nat, j + gg = n ∧ s8 = .int .i64 j ∧ Hid (Fr w wr) ∧ Hid (∀ t x, t < j → l[t]? = some x → p x = false))
  case atStart => exact ⟨0, by omega, rfl, keep (fr_refl w), keep (fun t x h => by omega)⟩
  case round =>
    obtain ⟨j, hj, rfl, hF, hno⟩ := hrel
    by_cases hlt : j < n
    · have hm : l[j]? = some (l[j]'(by rw [Hn.out]; exact hlt)) := List.getElem?_eq_getElem _
      generalize l[j]'(by rw [Hn.out]; exact hlt) = m at hm
      obtain ⟨b, off, rfl, hb1, hr⟩ := has_rows Hl.out (pc_wid l) (by decide) (by intro e; rw [e] at hm; simp at hm)
      have lX := elem_ld pfr_ty hr (pc_wid l) (by omega) hm
      have hc := Hp.out wr m hF.out
      have Hm := keep hm
      have hF1 := hF.out
      have hjz : (j : Int) < (n : Int) := by omega
      clear hm hr hlt
      cases hq : p m with
      | true =>
        rw [hq] at hc
        go_wp2_with (first | (go_at_fn g; refine hc.mono ?_; rintro e w' ⟨rfl, hz⟩) | fail)
        go_ret
        exact ⟨fr_step hF1 hz, .inr ⟨j, rfl, keep ⟨m, Hm.out, hq, hno.out⟩⟩⟩
      | false =>
        rw [hq] at hc
        have Hq := keep hq
        clear hq
        go_wp2_with (first | (go_at_fn g; refine hc.mono ?_; rintro e w' ⟨rfl, hz⟩) | fail)
        go_roundg (gk - 1)
        case measure => omega
        case rel => exact ⟨j + 1, by omega, rfl, keep (fr_step hF1 hz), keep (fun t x ht hx => by
          by_cases e : t = j
          · subst e
            rw [Hm.out] at hx
            injection hx with hx
            rw [← hx]; exact Hq.out
          · exact hno.out t x (by omega) hx)⟩
    · have hjn : j = n := by omega
      have hjz : ¬ (j : Int) < (n : Int) := by omega
      clear hlt
      go_wp2_with fail
      go_ret
      refine ⟨hF.out, .inl ⟨rfl, keep fun m hm => ?_⟩⟩
      obtain ⟨t, ht, e⟩ := List.mem_iff_getElem.1 hm
      exact hno.out t m (by rw [hjn, ← Hn.out]; exact ht) (by rw [List.getElem?_eq_getElem ht, e])
end
set_option maxHeartbeats 1000000 in
theorem cl_place {W : World} {tb : Nat} {t : Int} (hT : Arr W tb 3 #[.int .i64 t]) (x : (Int × Int)) :
    Calls Try.prog 57 #[sv x, .pointer (some ⟨tb, 0, none⟩)] W fun e w' => e = .returned (.bool (decide (x.1 = t))) ∧ Fr W w' := by
  obtain ⟨Z, hZ, hF, hX, hS⟩ : ∃ Z, W.alloc (.cells (sc x).toArray 77) = Z ∧ Fr W Z ∧ Arr Z W.heap.size 77 (sc x).toArray ∧ Z.heap.size = W.heap.size + 1 := ⟨_, rfl, fr_new (fr_refl W) _, Arr.new W _ _, by simp⟩
  have d0 := hX.cell 0
  have d1 := (hT.below hF hT.lt).cell 0
  simp only [List.getElem?_toArray, List.getElem?_cons_zero, sc] at d0 d1
  clear hX hT
  unfold sv
  by_cases h : x.1 = t
  · subst h
    go_enter Try.func57, Try.ntmps57
    go_wp2_with fail
    go_ret
    exact ⟨by simp, hF⟩
  · have h2 : (x.1 == t) = false := by simpa using h
    go_enter Try.func57, Try.ntmps57
    go_wp2_with fail
    go_ret
    exact ⟨by simp [h], hF⟩
set_option maxHeartbeats 1000000 in
theorem cl_leave {W : World} {tb : Nat} {t : Int} (hT : Arr W tb 3 #[.int .i64 t]) (x : (Int × Int)) :
    Calls Try.prog 65 #[sv x, .pointer (some ⟨tb, 0, none⟩)] W fun e w' => e = .returned (.bool (decide (x.1 = t))) ∧ Fr W w' := by
  obtain ⟨Z, hZ, hF, hX, hS⟩ : ∃ Z, W.alloc (.cells (sc x).toArray 77) = Z ∧ Fr W Z ∧ Arr Z W.heap.size 77 (sc x).toArray ∧ Z.heap.size = W.heap.size + 1 := ⟨_, rfl, fr_new (fr_refl W) _, Arr.new W _ _, by simp⟩
  have d0 := hX.cell 0
  have d1 := (hT.below hF hT.lt).cell 0
  simp only [List.getElem?_toArray, List.getElem?_cons_zero, sc] at d0 d1
  clear hX hT
  unfold sv
  by_cases h : x.1 = t
  · subst h
    go_enter Try.func65, Try.ntmps65
    go_wp2_with fail
    go_ret
    exact ⟨by simp, hF⟩
  · have h2 : (x.1 == t) = false := by simpa using h
    go_enter Try.func65, Try.ntmps65
    go_wp2_with fail
    go_ret
    exact ⟨by simp [h], hF⟩
end Go.Proofs.Ytmoaddbpfekdbaa
