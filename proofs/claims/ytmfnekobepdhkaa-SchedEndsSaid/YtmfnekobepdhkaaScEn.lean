/- SchedEnds, walked. -/
import Derived.Test.YtmfnekobepdhkaaScG
namespace Go.Proofs.Ytmfnekobepdhkaa
set_option linter.unusedVariables false
set_option linter.unusedSimpArgs false
set_option maxRecDepth 100000
open Go.RowKit
theorem turn_gone {t : Tab} {j : Nat} (h : t.st[j]? = some 2) (z : Int) : turnT t (j : Int) z = t := by
  rw [turnT, if_neg]
  simp [mayT, h]
theorem turn_end {t : Tab} {j : Nat} {s : Int} (h : t.st[j]? = some s) (hs : s ≠ 2) : turnT t (j : Int) 2 = { t with st := t.st.set j 2, wa := t.wa.set j 0 } := by
  rw [turnT, if_pos (by simp [mayT, h, hs])]
  simp
theorem runN_end {t : Tab} {j : Nat} (h : t.st[j]? = some 0) {W : List Int} : (runN { t with st := t.st.set j 2, wa := W }).length + 1 = (runN t).length := by
  have hl := (List.getElem?_eq_some_iff.1 h).1
  have e : runN { t with st := t.st.set j 2, wa := W } = (runN t).erase j := by
    rw [(runN_nodup t).erase_eq_filter]
    simp only [runN, runJ, List.length_set, List.filter_filter]
    apply List.filter_congr
    intro i hi
    rw [List.getElem?_set]
    by_cases e : j = i
    · subst e; simp [hl]
    · have e' : ¬ i = j := fun x => e x.symm
      simp [e, e', bne]
  have hm : j ∈ runN t := runN_mem.2 h
  rw [e, List.length_erase_of_mem hm]
  have := List.length_pos_of_mem hm
  omega
/-- Each is runnable or has ended. -/
def TwoS (t : Tab) : Prop := ∀ s ∈ t.st, s = 0 ∨ s = 2
theorem TwoS.set {t : Tab} (h : TwoS t) (j : Nat) (W : List Int) : TwoS { t with st := t.st.set j 2, wa := W } := fun s hs => by
  rcases mem_set hs with hs | rfl
  · exact h s hs
  · exact .inr rfl
theorem TwoS.ended {t : Tab} (h : TwoS t) : endT t = decide ((runN t).length = 0) := by
  by_cases h0 : (runN t).length = 0
  · rw [decide_eq_true h0]
    refine endT_yes fun j hj => ?_
    rw [List.getElem?_eq_getElem hj]
    rcases h _ (List.getElem_mem hj) with e | e
    · have : j ∈ runN t := runN_mem.2 (by rw [List.getElem?_eq_getElem hj, e])
      rw [List.eq_nil_of_length_eq_zero h0] at this
      simp at this
    · rw [e]
  · rw [decide_eq_false h0]
    obtain ⟨i, hi⟩ := List.exists_mem_of_length_pos (Nat.pos_of_ne_zero h0)
    exact endT_no (runN_mem.1 hi) (by decide)
/-- Who has ended, as cells. -/
def gone (t : Tab) : List Value := t.st.map fun s => Value.bool (s == 2)
theorem gone_len (t : Tab) : (gone t).length = t.st.length := by simp [gone]
theorem gone_get {t : Tab} {j : Nat} {s : Int} (h : t.st[j]? = some s) : (gone t)[j]? = some (.bool (s == 2)) := by simp [gone, h]
theorem gone_new (n : Nat) : gone (newT n) = List.replicate n (.bool false) := by simp [gone, newT]
theorem splice_one {l : List Value} {k : Nat} (hk : k < l.length) (v : Value) : splice l k [v] = l.set k v := by
  simp only [splice, List.set_eq_take_append_cons_drop, if_pos hk, List.length_cons, List.length_nil, List.cons_append, List.nil_append]
structure EIn (w V : World) (g gb k K : Nat) (t : Tab) : Prop where
  pt : PT V g t K
  gn : Arr V gb 4 (gone t).toArray
  fr : Fr w V
  lo : w.heap.size ≤ g ∧ w.heap.size ≤ gb ∧ g ≠ gb
  n : t.st.length = k
  two : TwoS t
section
variable {w V W : World} {g gb k K : Nat} {t : Tab}
theorem EIn.turn (h : EIn w V g gb k K t) {L : Nat} (hp : PT W g t L) (c : Chg (· = g) V W) : EIn w W g gb k L t :=
  ⟨hp, h.gn.chg c (fun e => h.lo.2.2 e.symm), fr_chg h.fr c h.lo.1, h.lo, h.n, h.two⟩
end
theorem bools_make (n : Nat) (hn : n ≤ 256) (w : World) : (Instr.makeSlice 49 (.int .i64 (n : Int)) (.int .i64 (n : Int))).run Try.prog w = .ok (.slice (some ⟨w.heap.size, 0, none⟩) n n) (w.alloc (.cells (List.replicate n (.bool false)).toArray 4)) :=
  make_one (b := 1) Try.underlying49 (by kernel_rfl) (by kernel_rfl) (by kernel_rfl) rfl n (by omega) w
theorem bool_info : (Try.prog.info? 4).map (·.size) = some 1 := by kernel_rfl
set_option maxHeartbeats 8000000 in
theorem ends_core {w : World} {n : Int} (hn : Is64 n) {A : Option Addr} {m c : Nat} {l : List Int} (hl : Has w w.heap.size A (u8s l)) (hm : l.length = m) (hmx : m ≤ maxLen) (hw : Bytes l) :
    Calls Try.prog 6 #[.int .i64 n, .slice A m c] w fun e w' => e = .returned (.bool true) ∧ Below w.heap.size w w' := by
  unfold maxLen at hmx
  have cP : ∀ W, Calls Try.prog 11 #[.int .i64 n, .int .i64 8] W fun e w' => e = .returned (.int .i64 (n % 8)) ∧ Fr W w' := fun W => law_place n 8 hn (by omega) (by omega) W
  obtain ⟨k0, hk, hk8⟩ : ∃ k : Nat, n % 8 = k ∧ k < 8 := ⟨(n % 8).toNat, by omega, by omega⟩
  rw [hk] at cP
  have cN := fun W => new_yes W (1 + k0) (by omega) (by omega)
  rw [show ((1 + k0 : Nat) : Int) = 1 + (k0 : Int) by omega] at cN
  clear hk hn
  by_cases h60 : 60 < m
  · clear hl hm hw
    go_enter Try.func6, Try.ntmps6
    go_wp2_with fail
    refine (cP w).mono ?_
    rintro e w1 ⟨rfl, f1⟩
    go_wp2_with fail
    refine (cN w1).mono ?_
    rintro e w2 ⟨g, rfl, h⟩
    go_wp2_with fail
    refine (awake13 w2).mono ?_
    rintro e wa ⟨rfl, fa⟩
    go_wp2_with fail
    go_ret
    exact ⟨rfl, fr_step f1 (fr_step h.out.2.1 fa)⟩
  · have HL := keep hl
    have HM := keep hm
    have HW := keep hw
    obtain ⟨k, hk⟩ : ∃ k, 1 + k0 = k := ⟨_, rfl⟩
    have hkz : 1 + (k0 : Int) = (k : Int) := by omega
    rw [hk, hkz] at cN
    have hmk := bools_make k (by omega)
    have hg := gone_new k
    generalize hzs : List.replicate k (Value.bool false) = zs at *
    clear hl hm hw hzs
    go_enter Try.func6, Try.ntmps6
    go_wp2_with fail
    refine (cP w).mono ?_
    rintro e w1 ⟨rfl, f1⟩
    go_wp2_with fail
    refine (cN w1).mono ?_
    rintro e w2 ⟨g, rfl, h⟩
    go_wp2_with fail
    have E0 : Hid (EIn w (w2.alloc (.cells zs.toArray 4)) g w2.heap.size k 0 (newT k)) := keep (by
      have hlt := h.out.1.box.lt
      have hs := h.out.2.1.size
      have hs1 := f1.size
      exact ⟨⟨h.out.1.box.alloc _, h.out.1.ok⟩, by rw [hg]; exact Arr.new w2 zs.toArray 4, fr_new (fr_step f1 h.out.2.1) _, by have := h.out.2.2; omega, by simp [newT], fun s hs => .inl (List.eq_of_mem_replicate hs)⟩)
    have hr0 : Hid ((runN (newT k)).length = k) := keep (by
      have e : runN (newT k) = List.range k := by
        simp only [runN, runJ, newT, List.length_replicate]
        rw [List.filter_eq_self]
        intro i hi
        simp at hi
        simp [hi]
      rw [e, List.length_range])
    have gbE : Hid (∃ gb, gb = w2.heap.size) := keep ⟨_, rfl⟩
    clear h cP cN hmk hg
    go_loopg [9, 10] m (fun g' s9 s10 wr => ∃ (i : Nat) (t : Tab), i + g' = m ∧ s10 = .int .i64 i ∧ s9 = .int .i64 ((runN t).length : Int) ∧ Hid (EIn w wr g w2.heap.size k i t))
    case atStart => exact ⟨0, newT k, by omega, rfl, by rw [hr0.out], E0⟩
    case round =>
      clear E0 hr0 gbE
      obtain ⟨i, t, hi, rfl, rfl, hE⟩ := hrel
      generalize w2.heap.size = gb at *
      by_cases hlt : i < m
      · have hiz : (i : Int) < (m : Int) := by omega
        have hx : l[i]? = some (l[i]'(by rw [HM.out]; exact hlt)) := List.getElem?_eq_getElem _
        generalize l[i]'(by rw [HM.out]; exact hlt) = x at hx
        have hxb := HW.out x (List.mem_of_getElem? hx)
        obtain ⟨b, off, rfl, hb, hrr⟩ := HL.out i _ (u8s_get hx)
        have hcx : wr.cell? ⟨b, off + i, none⟩ = some (.int .u8 x) := (hE.out.fr.cell hb).trans hrr
        obtain ⟨j, hj, hjk⟩ : ∃ j : Nat, Int.tmod x (k : Int) = j ∧ j < k := ⟨(x % (k : Int)).toNat, by
          rw [Int.tmod_eq_emod_of_nonneg hxb.1]
          have := Int.emod_nonneg x (b := (k : Int)) (by omega)
          omega, by
          have := Int.emod_nonneg x (b := (k : Int)) (by omega)
          have := Int.emod_lt_of_pos x (b := (k : Int)) (by omega)
          omega⟩
        have hk0 : ((k : Int) == 0) = false := by simp; omega
        have hs : t.st[j]? = some (t.st[j]'(by rw [hE.out.n]; exact hjk)) := List.getElem?_eq_getElem _
        generalize t.st[j]'(by rw [hE.out.n]; exact hjk) = s at hs
        have hs2 := hE.out.two s (List.mem_of_getElem? hs)
        obtain ⟨t1, ht1⟩ : ∃ t1, turnT t (j : Int) 2 = t1 := ⟨_, rfl⟩
        have F1 : Hid (t1.st[j]? = some 2 ∧ gone t1 = (gone t).set j (.bool true) ∧ t1.st.length = k ∧ TwoS t1 ∧ (runN t1).length + (if s = 0 then 1 else 0) = (runN t).length) := keep (by
          rcases hs2 with rfl | rfl
          · rw [turn_end hs (by decide)] at ht1
            subst ht1
            refine ⟨by simp [(List.getElem?_eq_some_iff.1 hs).1], by simp [gone, List.map_set], by simpa using hE.out.n, hE.out.two.set j _, ?_⟩
            rw [if_pos rfl]
            exact runN_end hs
          · rw [turn_gone hs] at ht1
            subst ht1
            refine ⟨hs, ?_, hE.out.n, hE.out.two, by simp⟩
            apply List.ext_getElem?
            intro y
            rw [List.getElem?_set]
            split
            · rename_i e
              subst e
              rw [gone_get hs]
              simp [gone_len, (List.getElem?_eq_some_iff.1 hs).1]
            · rfl)
        have hjb : -9223372036854775808 ≤ (j : Int) ∧ (j : Int) ≤ 9223372036854775807 := by omega
        have c1 := end_at (i := (j : Int)) hE.out.pt hjb
        rw [ht1] at c1
        have hcg := hE.out.gn.cell j
        rw [List.getElem?_toArray, gone_get hs] at hcg
        have Hs := keep hs
        clear hx hrr ht1 hs
        go_wp2_with fail
        refine c1.mono ?_
        rintro e w3 ⟨rfl, h⟩
        have c2 := wake_at (i := (j : Int)) h.out.1 hjb
        rw [turn_gone F1.out.1] at c2
        have k3 := keep h.out.2
        clear c1 h
        go_wp2_with fail
        refine c2.mono ?_
        rintro e w4 ⟨rfl, h⟩
        have c3 := block_at (i := (j : Int)) h.out.1 hjb
        rw [turn_gone F1.out.1] at c3
        replace k3 := keep (k3.out.trans h.out.2)
        clear c2 h
        go_wp2_with fail
        refine c3.mono ?_
        rintro e w5 ⟨rfl, h⟩
        have c4 := wake_at (i := (j : Int)) h.out.1 hjb
        rw [turn_gone F1.out.1] at c4
        replace k3 := keep (k3.out.trans h.out.2)
        clear c3 h
        go_wp2_with fail
        refine c4.mono ?_
        rintro e w6 ⟨rfl, h⟩
        replace k3 := keep (k3.out.trans h.out.2)
        have P6 := keep h.out.1
        have hgb : ¬ gb = g := fun e => hE.out.lo.2.2 e.symm
        have G6 := keep (hE.out.gn.chg k3.out hgb)
        have hcg6 : w6.cell? ⟨gb, j, none⟩ = some (.bool (s == 2)) := (k3.out.cell (p := ⟨gb, j, none⟩) hE.out.gn.lt hgb).trans hcg
        clear c4 h hcg hcx
        have hL8 : (runN t).length ≤ 8 := by have := runJ_len t.st t.st.length; have := hE.out.pt.ok.n; rw [runN]; omega
        have hp : Hid (splice (gone t) j [.bool true] = gone t1) := keep (by rw [splice_one (by rw [gone_len, hE.out.n]; exact hjk), F1.out.2.1])
        have hgl : j + 1 ≤ (gone t).length := by rw [gone_len, hE.out.n]; exact hjk
        go_upto_if 74 with fail
        go_cut [9] from 70 to 76 (fun s9 W => s9 = .int .i64 ((runN t1).length : Int) ∧ W = w6)
        case first =>
          have hF := F1.out.2.2.2.2
          rcases hs2 with rfl | rfl
          · rw [if_pos rfl] at hF
            generalize (runN t).length = L at *
            generalize (runN t1).length = L1 at *
            have e1 : (L : Int) - 1 = (L1 : Int) := by omega
            clear hF
            go_wp2_with fail
            go_meet
            exact ⟨by first | rfl | (congr 1), rfl⟩
          · rw [if_neg (by decide), Nat.add_zero] at hF
            rw [← hF]
            clear hF
            go_wp2_with fail
            go_meet
            exact ⟨rfl, rfl⟩
        case rest =>
          obtain ⟨rfl, rfl⟩ := hcut
          clear hcg6
          have hL1 : (runN t1).length ≤ 8 := by have := F1.out.2.2.2.2; omega
          go_wp2_with (first
            | (refine wpList_store_chg (ds := [.bool true]) bool_info rfl (.tmp 79) (.const (.bool true)) rfl gb j rfl rfl rfl (one_of _ rfl) G6.out hgl hp.out ?_; intro W hA hK
               have P7 := P6.out.chg hK (fun e => hgb e.symm)
               have c5 := pick_at (p := (i : Int)) P7 (by omega) (by omega))
            | fail)
          refine c5.mono ?_
          rintro e w8 ⟨rfl, h⟩
          have E8 : Hid (EIn w w8 g gb k (i + 1) (pickT t1 i)) := keep (by
            have f := fr_chg (fr_chg hE.out.fr k3.out hE.out.lo.1) hK hE.out.lo.2.1
            have hst := pickT_n t1 (i : Int)
            refine ⟨h.out.1, ?_, fr_chg f h.out.2 hE.out.lo.1, hE.out.lo, by rw [hst]; exact F1.out.2.2.1, by unfold TwoS; rw [hst]; exact F1.out.2.2.2.1⟩
            rw [gone, hst]
            exact hA.chg h.out.2 hgb)
          clear hA hK P7 c5 h hp hgl
          have hrn : runN (pickT t1 i) = runN t1 := by rw [runN, pickT_n, ← runN]
          have cr := runnable_at E8.out.pt
          have ce := fun W f => ended_at (E8.out.pt.fr (W := W) f)
          rw [E8.out.two.ended, hrn] at ce
          have cr2 : Calls Try.prog 21 #[.pointer (some ⟨g, 0, none⟩)] w8 fun e w' => ∃ A c, e = .returned (.slice A (runN t1).length c) ∧ Fr w8 w' := cr.mono fun e w' ⟨A, n', c, he, hh⟩ => ⟨A, c, by rw [he, ← hh.out.1, runL, natI_len, hrn], hh.out.2.2⟩
          clear cr
          by_cases h0 : (runN t1).length = 0
          · obtain ⟨e1, e2, e3⟩ := pickB_no h0 (i : Int)
            rw [e1, e2, h0]
            rw [h0] at ce cr2
            rw [decide_eq_true rfl] at ce
            have HR := keep (hrn.trans (List.eq_nil_of_length_eq_zero h0))
            clear e1 e2 e3 h0 hrn
            go_wp2_with (first
              | (go_at_call 21; refine cr2.mono ?_; rintro e w9 ⟨A9, c9, rfl, f9⟩)
              | (go_at_call 23; refine (ce w9 f9).mono ?_; rintro e w10 ⟨rfl, f10⟩)
              | fail)
            go_roundg (gk - 1)
            case measure => omega
            case rel => exact ⟨i + 1, _, by omega, by congr 1, by rw [HR.out]; rfl, keep ⟨E8.out.pt.fr (fr_step f9 f10), E8.out.gn.chg (.of_fr (fun _ => False) (fr_step f9 f10)) id, fr_step E8.out.fr (fr_step f9 f10), E8.out.lo, E8.out.n, E8.out.two⟩⟩
          · have hpA := pickA_lt (t := t1) (i : Int) h0
            have hi0 : (runN t1)[pickA t1 i]? = some ((runN t1)[pickA t1 i]'hpA) := List.getElem?_eq_getElem _
            generalize (runN t1)[pickA t1 i]'hpA = z at hi0
            obtain ⟨e1, e2, e3⟩ := pickB_yes (t := t1) (p := (i : Int)) hi0
            have hz := runN_lt (List.mem_of_getElem? hi0)
            rw [F1.out.2.2.1] at hz
            have hz0 := gone_get (runN_mem.1 (List.mem_of_getElem? hi0))
            rw [e1, e2]
            have hcz := E8.out.gn.cell z
            rw [List.getElem?_toArray, gone, pickT_n, ← gone, hz0, show ((0 : Int) == 2) = false from rfl] at hcz
            have hczF : ∀ W, Fr w8 W → W.cell? ⟨gb, z, none⟩ = some (.bool false) := fun W f => (f.cell (p := ⟨gb, z, none⟩) E8.out.gn.lt).trans hcz
            rw [decide_eq_false h0] at ce
            have HR := keep hrn
            obtain ⟨L, hL⟩ : ∃ L, (runN t1).length = L := ⟨_, rfl⟩
            have HLL := keep hL
            rw [hL] at cr2 h0 hL1
            rw [hL]
            have hLz : (0 : Int) < (L : Int) := by omega
            have hL0 : ((L : Int) == 0) = false := by simp; omega
            clear e1 e2 e3 hrn hcz hz0 hi0 hpA hL
            go_wp2_with (first
              | (go_at_call 21; refine cr2.mono ?_; rintro e w9 ⟨A9, c9, rfl, f9⟩)
              | (go_at_call 23; refine (ce w9 f9).mono ?_; rintro e w10 ⟨rfl, f10⟩; have hc10 := hczF w10 (fr_step f9 f10))
              | fail)
            go_roundg (gk - 1)
            case measure => omega
            case rel => exact ⟨i + 1, _, by omega, by congr 1, by rw [HR.out, HLL.out], keep ⟨E8.out.pt.fr (fr_step f9 f10), E8.out.gn.chg (.of_fr (fun _ => False) (fr_step f9 f10)) id, fr_step E8.out.fr (fr_step f9 f10), E8.out.lo, E8.out.n, E8.out.two⟩⟩
      · have him : i = m := by omega
        have hiz : ¬ (i : Int) < (m : Int) := by omega
        have ca := awake13 wr
        clear hlt him
        go_wp2_with (first | (refine ca.mono ?_; rintro e wa ⟨rfl, fa⟩) | fail)
        go_ret
        exact ⟨rfl, fr_step hE.out.fr fa⟩
end Go.Proofs.Ytmfnekobepdhkaa
