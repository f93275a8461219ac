/- LeafGone, walked. -/
import Derived.Test.YtbdioipjgjbgmaaLfQ
namespace Go.Proofs.Ytbdioipjgjbgmaa
set_option maxRecDepth 100000
open Go.RowKit
set_option linter.unusedVariables false
attribute [local go_sem ↓] key_ld ent_ld val_ld msg_ld
theorem msg_built2 (k : RK) (s : Int) {v : RV} (hl : v.bs.length = 16) : List.foldl (fun (cs : Array Value) (x : Value × Nat) => cs.setIfInBounds (11 + x.snd) x.fst) #[.int .i64 1, .int .u64 s, .int .i64 k.n, .int .u8 k.b0, .int .u8 k.b1, .int .u8 k.b2, .int .u8 k.b3, .int .u8 k.b4, .int .u8 k.b5, .int .u8 k.b6, .int .u8 k.b7, .int .i64 0, .int .u8 0, .int .u8 0, .int .u8 0, .int .u8 0, .int .u8 0, .int .u8 0, .int .u8 0, .int .u8 0, .int .u8 0, .int .u8 0, .int .u8 0, .int .u8 0, .int .u8 0, .int .u8 0, .int .u8 0, .int .u8 0, .int .u64 0] (vc v).zipIdx = (mc ⟨1, s, k, v, 0⟩).toArray := by
  rw [fold_off 11 (vc v) 0, build_fold_in (vc v) (11 + 0) _ (by rw [vc_len hl]; exact (by decide : (28 : Nat) ≤ 29)), vc_len hl]
  rfl
def delM (k : RK) (s : Int) : RM := ⟨2, s, k, zeroV, 0⟩
theorem gone_del {x : RE} {l : List RE} (s : Int) : putE (x :: l) (delM x.key s) = l := by
  unfold putE appO appB delM
  simp only [ne_eq, not_true_eq_false, decide_false, Bool.false_eq_true, if_false]
  rw [setE_eq (Int.lt_irrefl _) rfl]
  rfl
theorem gone_put {x : RE} {l : List RE} (h : OkE (x :: l)) (s : Int) : putE l ⟨1, s, x.key, x.val, 0⟩ = x :: l := by
  have e : appO ⟨1, s, x.key, x.val, 0⟩ (findE l x.key) = some x.val := by
    unfold appO appB appV
    simp
  show setE l x.key (appO ⟨1, s, x.key, x.val, 0⟩ (findE l x.key)) = x :: l
  rw [e]
  cases l with
  | nil => rfl
  | cons y l =>
    have hlt := h.lt y (by simp)
    unfold ce at hlt
    rw [setE_gt (by omega) (fun e => by rw [e] at hlt; omega)]
    rfl
set_option maxHeartbeats 4000000 in
theorem leafGone_core {w : World} {A0 : Option Addr} {n0 c0 : Nat} {ns : List Int} (hl0 : Has w w.heap.size A0 (ns.map (Value.int .i64))) (hn0 : ns.length = n0) (hns : ∀ z ∈ ns, Is64 z) (hnm0 : n0 ≤ maxLen) :
    Calls Try.prog 12 #[.slice A0 n0 c0] w fun e w' => e = .returned (.bool true) ∧ Below w.heap.size w w' := by
  have cE := qents (c := c0) (most := 3000) hl0 (Nat.le_refl _) hn0 hns (by omega) hnm0
  have ol := entsL_ok ns 3000
  have hlen := entsL_len ns 3000
  generalize entsL ns 3000 = l at *
  clear hl0 hn0 hns
  have Hol := keep ol
  obtain ⟨n, hn⟩ : ∃ n, l.length = n := ⟨_, rfl⟩
  rw [hn] at cE hlen
  have Hn := keep hn
  clear ol hn
  go_enter Try.func12, Try.ntmps12
  go_wp2_with fail
  refine cE.mono ?_
  rintro e X ⟨A, c, rfl, ho, top⟩
  have rr := fr_refl X
  clear cE
  go_wp2_with fail
  have hr0 : ∀ {x : RE} {j : Nat}, l[j]? = some x → ∃ g, A = some ⟨g, 0, none⟩ ∧ (∀ W, Fr X W → (ldS 27 (.pointer (some ⟨g, j * 26, none⟩))).run Try.prog W = .ok (.agg (kc x.key).toArray) W) ∧ (∀ W, Fr X W → (ldS 34 (.pointer (some ⟨g, j * 26 + 9, none⟩))).run Try.prog W = .ok (.agg (vc x.val).toArray) W) := fun {x j} hx => by
    have hj := (List.getElem?_eq_some_iff.1 hx).1
    obtain ⟨g, rfl⟩ := ho.out.addr (by omega)
    have hr : X.rangeAt g 0 (rows ec l) := fun t v ht => by
      obtain ⟨b, off, e, -, hc⟩ := ho.out.has t v ht
      injection e with e
      injection e with e1 e2
      subst e1 e2
      exact hc
    have k1 := elem_part (o := 0) keyS hr Hol.out.wfe.wid (ho.out.lt g rfl).2 hx (ec_key x) (kc_len _)
    have k2 := elem_part (o := 9) valS hr Hol.out.wfe.wid (ho.out.lt g rfl).2 hx (ec_val (Hol.out.good x (emem_at hx)).wv.hl) (vc_len (Hol.out.good x (emem_at hx)).wv.hl)
    simp only [Nat.zero_add, Nat.add_zero] at k1 k2
    exact ⟨g, rfl, k1, k2⟩
  go_loopg [4, 5] n (fun gk s4 s5 wr => ∃ (j r : Nat) (A' : Option Addr) (c' : Nat), j + r = n ∧ r ≤ gk ∧ s5 = .int .i64 j ∧ s4 = .slice A' r c' ∧ Hid (OwnE wr 0 A' c' (l.drop j)) ∧ Hid (Fr X wr))
  case atStart => exact ⟨0, n, A, c, by omega, by omega, rfl, rfl, ho, keep rr⟩
  case round =>
    obtain ⟨j, r, A', c', hjr, hrg, rfl, rfl, hO, hF⟩ := hrel
    have hF1 := hF.out
    by_cases hlt : j < n
    · obtain ⟨r, rfl⟩ : ∃ r', r = r' + 1 := ⟨r - 1, by omega⟩
      have hx : l[j]? = some (l[j]'(by rw [Hn.out]; exact hlt)) := List.getElem?_eq_getElem _
      generalize l[j]'(by rw [Hn.out]; exact hlt) = x at hx
      obtain ⟨g, rfl, lK, -⟩ := hr0 hx
      have gx := Hol.out.good x (emem_at hx)
      have hold := Hol.out.sub (List.drop_sublist j l)
      have hdl : (l.drop j).length = r + 1 := by rw [List.length_drop, Hn.out]; omega
      have hdl2 : (l.drop (j + 1)).length = r := by rw [List.length_drop, Hn.out]; omega
      have cP := qput (m := delM x.key 1) hO (by omega) hold (del_wf gx.wk (by simp [Us64])) (del_ok gx.ok)
      have hpd : putE (l.drop j) (delM x.key 1) = l.drop (j + 1) := by rw [drop_one hx]; exact gone_del 1
      rw [hpd, hdl, hdl2] at cP
      have hjz : (j : Int) < (n : Int) := by omega
      have ht : (r : Int) = (n : Int) - 1 - (j : Int) := by omega
      clear hx gx hold hdl hdl2 hlt hpd
      go_wp2_with fail
      refine cP.mono ?_
      rintro e X2 ⟨A2, c2, rfl, hO2, f2⟩
      go_wp2_with fail
      go_roundg (gk - 1)
      case measure => omega
      case rel => exact ⟨j + 1, r, A2, c2, by omega, by omega, rfl, rfl, hO2, keep (fr_step hF1 f2)⟩
    · have hjn : j = n := by omega
      have hr00 : r = 0 := by omega
      subst hr00
      have hjz : ¬ (j : Int) < (n : Int) := by omega
      have hO2 : Hid (OwnE wr 0 A' c' (l.drop n)) := by rw [← hjn]; exact hO
      clear hO hlt
      go_wp2_with fail
      rename_i gk0
      clear hrg
      go_loopg [4, 6] (n + 1) (fun gk s4 s6 wr => ∃ (j r : Nat) (A' : Option Addr) (c' : Nat) (i : Int), j + r = n ∧ j ≤ gk ∧ i = (j : Int) - 1 ∧ s6 = .int .i64 i ∧ s4 = .slice A' r c' ∧ Hid (OwnE wr 0 A' c' (l.drop j)) ∧ Hid (Fr X wr))
      case atStart => exact ⟨n, 0, A', c', _, by omega, by omega, rfl, rfl, rfl, hO2, hF⟩
      case round =>
        clear hO2 hF hF1 hjr hjz hjn
        obtain ⟨j, r, A', c', i, hjr, hrg, hi, rfl, rfl, hO, hF⟩ := hrel
        have hF1 := hF.out
        cases j with
        | succ j =>
          obtain rfl : i = (j : Int) := by omega
          clear hi
          have hlt : j < n := by omega
          have hx : l[j]? = some (l[j]'(by rw [Hn.out]; exact hlt)) := List.getElem?_eq_getElem _
          generalize l[j]'(by rw [Hn.out]; exact hlt) = x at hx
          obtain ⟨g, rfl, lK, lV⟩ := hr0 hx
          have gx := Hol.out.good x (emem_at hx)
          have hold := Hol.out.sub (List.drop_sublist (j + 1) l)
          have holj := Hol.out.sub (List.drop_sublist j l)
          rw [drop_one hx] at holj
          have hdl : (l.drop (j + 1)).length = r := by rw [List.length_drop, Hn.out]; omega
          have hdl2 : (l.drop j).length = r + 1 := by rw [List.length_drop, Hn.out]; omega
          have hpp : putE (l.drop (j + 1)) ⟨1, 2, x.key, x.val, 0⟩ = l.drop j := by rw [drop_one hx]; exact gone_put holj 2
          have wp := putM_wf gx.wk gx.wv (s := 2) (by simp [Us64])
          have op := putM_ok gx.ok gx.ov (s := 2)
          have cP : ∀ W, Fr wr W → Calls Try.prog 48 #[.slice A' r c', mm ⟨1, 2, x.key, x.val, 0⟩] W fun e w' => ∃ A2 c2, e = .returned (.slice A2 (r + 1) c2) ∧ Hid (OwnE w' 0 A2 c2 (l.drop j)) ∧ Fr wr w' := fun W h => by
            have q := qput (m := ⟨1, 2, x.key, x.val, 0⟩) (keep (Own.below hO.out h (Nat.le_refl _))) (by omega) hold wp op
            rw [hpp, hdl, hdl2] at q
            exact q.mono fun e w' hh => by
              obtain ⟨A2, c2, e1, h1, h2⟩ := hh
              exact ⟨A2, c2, e1, h1, fr_step h h2⟩
          have hfm := msg_built2 x.key 2 gx.wv.hl
          have hlv : (vc x.val).length = 17 := vc_len gx.wv.hl
          have hjz : (j : Int) < (n : Int) := by omega
          have hj0 : (0 : Int) ≤ (j : Int) := by omega
          have hXD := fr_drew hF1
          have hrD := fr_drew (fr_refl wr)
          clear hx gx hold holj hdl hdl2 hlt hpp wp op
          go_wp2_with fail
          go_region_held3 (fun w' => Fr X w' ∧ Fr wr w') (first | (go_split_ands; exact ⟨hXD, hrD⟩) | (go_split_ands; exact ⟨by assumption, by assumption⟩))
            (first
              | (go_at_call 48; (with_reducible refine (cP _ (by assumption)).mono ?_); rintro e w9 ⟨A2, c2, rfl, hO2, hz9⟩; have hx9 := fr_step hF1 hz9))
          all_goals
            go_wp2_with fail
            go_roundg (gk - 1)
            case measure => omega
            case rel => exact ⟨j, r + 1, A2, c2, _, by omega, by omega, rfl, rfl, rfl, hO2, keep (by assumption)⟩
        | zero =>
          obtain rfl : i = -1 := by omega
          clear hi
          obtain rfl : r = n := by omega
          have hOl : Hid (OwnE wr 0 A' c' l) := hO
          have hol2 := keep (Own.below ho.out hF1 (Nat.le_refl _))
          have cS := qsame hOl (by rw [Hn.out]; omega) Hol.out.wfe hol2 (by rw [Hn.out]; omega) Hol.out.wfe
          rw [Hn.out, decide_eq_true rfl] at cS
          clear hO hOl hol2
          go_wp2_with fail
          refine cS.mono ?_
          rintro e X3 ⟨rfl, f3⟩
          go_wp2_with fail
          refine (law_key_at (v := 5) (by simp [Is64]) (fr_refl X3)).mono ?_
          rintro e X4 ⟨rfl, f4⟩
          have w5 := lawK_wf 5
          have o5 := lawK_ok 5
          generalize lawK 5 = k5 at *
          go_wp2_with fail
          have e0 : putE [] (delM k5 0) = [] := by
            unfold putE appO appB delM
            simp [setE]
          have cP := eput_at (A := none) (B := 0) (l := []) (c := 0) (w := X4) (m := delM k5 0) Has.nil (Nat.zero_le _) rfl (by simp) OkE.nil (del_wf w5 (by simp [Us64])) (del_ok o5)
          rw [e0] at cP
          refine cP.mono ?_
          rintro e X5 ⟨A5, c5, rfl, -, f5⟩
          go_wp2_with fail
          refine (awake7_at (fr_refl X5)).mono ?_
          rintro e X6 ⟨rfl, f6⟩
          go_wp2_with fail
          go_ret
          exact ⟨rfl, fr_step (fr_step (fr_step (fr_step (fr_step top hF1) f3) f4) f5) f6⟩
end Go.Proofs.Ytbdioipjgjbgmaa
