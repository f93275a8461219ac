/- The document's 'Put' of an entry. -/
import Derived.Test.YtcdcaanmmbopbaaLfH
import Derived.Test.YtcdcaanmmbopbaaLfF
import Derived.Test.YtcdcaanmmbopbaaLfKK
import Derived.Test.YtcdcaanmmbopbaaBufT
namespace Go.Proofs.Ytcdcaanmmbopbaa
set_option maxRecDepth 100000
open Go.RowKit
set_option linter.unusedVariables false
attribute [local go_sem ↓] key_ld ent_ld val_ld msg_ld
theorem ref_eput {w : World} {A : Option Addr} {n c B : Nat} {l : List RE} {m : RM} (hl : Has w B A (rows ec l)) (hB : B ≤ w.heap.size) (hn : l.length = n) (hsm : n ≤ 100000) (ol : OkE l) (wm : m.wf) (om : okM m = true) :
    Calls Try.prog 30 #[.slice A n c, mm m] w fun e w' => ∃ A' c', e = .returned (.slice A' (putE l m).length c') ∧ OwnE w' w.heap.size A' c' (putE l m) ∧ Fr w w' := by
  cases hb : appB m with
  | true => exact ref_eput_is hl hB hn hsm ol wm om hb
  | false => exact ref_eput_no hl hB hn hsm ol wm om hb
end Go.Proofs.Ytcdcaanmmbopbaa
/- Entries in memory: the document's 'All'; where a leaf is split. -/
namespace Go.Proofs.Ytcdcaanmmbopbaa
set_option maxRecDepth 100000
open Go.RowKit
set_option linter.unusedVariables false
attribute [local go_sem ↓] key_ld ent_ld val_ld msg_ld
theorem byts_mono {l : List RE} (h : SmE l) {i j : Nat} (hij : i ≤ j) : bytsE (l.take i) ≤ bytsE (l.take j) := by
  have e : l.take j = l.take i ++ (l.drop i).take (j - i) := by
    rw [← List.take_add]
    congr 1
    omega
  rw [e, bytsE_app]
  have := bytsE_rng (h.sub ((List.take_sublist (j - i) (l.drop i)).trans (List.drop_sublist i l)))
  omega
theorem splE_uniq {l : List RE} (h : SmE l) {j : Nat} (h1 : 1 ≤ j) (h2 : j < l.length) (hh : bytsE l ≤ 2 * bytsE (l.take j) ∨ l.length - j = 1) (hf : ∀ i, 1 ≤ i → i < j → 2 * bytsE (l.take i) < bytsE l) : j = splE l := by
  have hb := splE_bd (l := l) (by omega)
  have sh := splE_half (l := l) (by omega)
  have sf := splE_few (l := l) (by omega)
  rcases Nat.lt_trichotomy (splE l) j with hl | hl | hl
  · have := hf _ hb.1 hl
    omega
  · exact hl.symm
  · have := byts_mono h (i := j) (j := splE l - 1) (by omega)
    omega
end Go.Proofs.Ytcdcaanmmbopbaa
/- Entries in memory: 'Split' of the program. -/
namespace Go.Proofs.Ytcdcaanmmbopbaa
set_option maxRecDepth 100000
open Go.RowKit
set_option linter.unusedVariables false
attribute [local go_sem ↓] key_ld ent_ld val_ld msg_ld key_st
theorem Sty.result4 {P : Program} {T n : Nat} {w : World} (S : Sty P T n) {fn : Func} {a b p t : Tmp} (h : fn.results = #[.tmp a, .tmp b, .cell p T, .tmp t]) (tmps : Array Value) (g : Nat) (hp : tmps.getD p undef = .pointer (some ⟨g, 0, none⟩)) {T' : Nat} {cs : List Value} (hl : cs.length = n) (ha : Arr w g T' cs.toArray) :
    (results fn tmps).run P w = .ok (.tuple #[tmps.getD a undef, tmps.getD b undef, .agg cs.toArray, tmps.getD t undef]) w := by
  have hp' : tmps[p]?.getD undef = .pointer (some ⟨g, 0, none⟩) := by simpa using hp
  simp [results, h, hp', asAddr, S.load hl ha]
theorem own_setRow {w : World} {B e size n c k : Nat} {A : Option Addr} {xs : List Value} (h : Own w B e size A n c xs) (hk : k < B) (ds : Array Value) : Own (w.setRow k ds) B e size A n c xs :=
  h.kept (row := some k) ⟨rfl, rfl, rfl, by simp [World.setRow], fun j _ hj => setRow_other w k j _ (fun e => hj (by rw [e]))⟩ (by
    cases hA : blk A with
    | none => exact .inl rfl
    | some b =>
      have := (h.lt b hA).1
      exact .inr (fun e => by injection e with e; omega))
theorem zeroK_box (w : World) : ∃ Z, w.alloc (.cells (kc zeroK).toArray 40) = Z ∧ Fr w Z ∧ Fr Z Z ∧ Arr Z w.heap.size 40 (kc zeroK).toArray ∧ Z.heap.size = w.heap.size + 1 := ⟨_, rfl, fr_new (fr_refl w) _, fr_refl _, Arr.new w _ _, by simp⟩
end Go.Proofs.Ytcdcaanmmbopbaa
/- Entries in memory: 'Split' of the document. -/
namespace Go.Proofs.Ytcdcaanmmbopbaa
set_option maxRecDepth 100000
open Go.RowKit
set_option linter.unusedVariables false
attribute [local go_sem ↓] key_ld ent_ld val_ld msg_ld key_st
end Go.Proofs.Ytcdcaanmmbopbaa
/- Package 00's 'Entries'. -/
namespace Go.Proofs.Ytcdcaanmmbopbaa
set_option maxRecDepth 100000
open Go.RowKit
set_option linter.unusedVariables false
attribute [local go_sem ↓] key_ld ent_ld val_ld msg_ld msg_st
theorem build_fold_in : ∀ (cs : List Value) (k : Nat) (z : Array Value), k + cs.length ≤ z.size → List.foldl (fun (cs : Array Value) (x : Value × Nat) => cs.setIfInBounds x.snd x.fst) z (cs.zipIdx k) = (z.toList.take k ++ cs ++ z.toList.drop (k + cs.length)).toArray
  | [], k, z, h => by
    simp [List.take_append_drop]
  | v :: cs, k, z, h => by
    simp only [List.length_cons] at h
    have h0 : k < z.toList.length := by simp; omega
    rw [List.zipIdx_cons, List.foldl_cons, build_fold_in cs (k + 1) _ (by simp; omega)]
    congr 1
    simp only [Array.toList_setIfInBounds, List.length_cons]
    rw [List.drop_set_of_lt (by omega), show k + 1 + cs.length = k + (cs.length + 1) by omega]
    congr 1
    rw [List.take_add_one, List.take_set_of_le (by omega), List.getElem?_set_self (by simpa using h0)]
    simp
theorem msg_built (k : RK) {v : RV} (hl : v.bs.length = 16) : List.foldl (fun (cs : Array Value) (x : Value × Nat) => cs.setIfInBounds (11 + x.snd) x.fst) #[.int .i64 1, .int .u64 0, .int .i64 k.n, .int .u8 k.b0, .int .u8 k.b1, .int .u8 k.b2, .int .u8 k.b3, .int .u8 k.b4, .int .u8 k.b5, .int .u8 k.b6, .int .u8 k.b7, .int .i64 0, .int .u8 0, .int .u8 0, .int .u8 0, .int .u8 0, .int .u8 0, .int .u8 0, .int .u8 0, .int .u8 0, .int .u8 0, .int .u8 0, .int .u8 0, .int .u8 0, .int .u8 0, .int .u8 0, .int .u8 0, .int .u8 0, .int .u64 0] (vc v).zipIdx = (mc ⟨1, 0, k, v, 0⟩).toArray := by
  rw [fold_off 11 (vc v) 0, build_fold_in (vc v) (11 + 0) _ (by rw [vc_len hl]; exact (by decide : (28 : Nat) ≤ 29)), vc_len hl]
  rfl
set_option maxHeartbeats 2000000 in
theorem law_ents {w : World} {A : Option Addr} {n c B : Nat} {ns : List Int} {most : Int} (hl : Has w B A (ns.map (Value.int .i64))) (hB : B ≤ w.heap.size) (hn : ns.length = n) (hns : ∀ z ∈ ns, Is64 z) (hmost : 0 ≤ most ∧ most ≤ 1000000) (hnm : n ≤ maxLen) :
    Calls Try.prog 33 #[.slice A n c, .int .i64 most] w fun e w' => ∃ A' c', e = .returned (.slice A' (entsL ns most).length c') ∧ OwnE w' w.heap.size A' c' (entsL ns most) ∧ Fr w w' := by
  have Hl := keep hl
  have Hn := keep hn
  have Hns := keep hns
  have hnm2 : (n : Int) ≤ 9223372036854775807 := by simp only [maxLen] at hnm; omega
  clear hl hn hns
  go_enter Try.func33, Try.ntmps33
  go_wp2_with fail
  go_loopg [5, 6] 80 (fun g s5 s6 wr => ∃ (j : Nat) (A' : Option Addr) (n' c' : Nat), j ≤ 80 ∧ 80 - j ≤ g ∧ j ≤ n ∧ s6 = .int .i64 j ∧ s5 = .slice A' n' c' ∧ Hid ((entsJ ns most j).length = n') ∧ Hid (OwnE wr w.heap.size A' c' (entsJ ns most j)) ∧ Hid (Fr w wr))
  case atStart => exact ⟨0, none, 0, 0, by omega, by omega, by omega, rfl, rfl, keep rfl, keep (Own.nil _ _ _ _), keep (fr_refl w)⟩
  case round =>
    obtain ⟨j, A', n', c', hj60, hjg, hjn, rfl, rfl, Hn', hO, hF⟩ := hrel
    have hlen := entsJ_len ns most j
    rw [Hn'.out] at hlen
    by_cases hlt : j < n
    · have hjz : (j : Int) < (n : Int) := by omega
      by_cases h60 : j < 80
      · have h60z : (j : Int) < 80 := by omega
        have hv : ns[j]? = some (ns[j]'(by rw [Hn.out]; exact hlt)) := List.getElem?_eq_getElem _
        generalize ns[j]'(by rw [Hn.out]; exact hlt) = v at hv
        obtain ⟨b, off, rfl, hb1, hx⟩ := int_at Hl.out hv
        have iv : Is64 v := Hns.out v (List.mem_of_getElem? hv)
        have hF1 := hF.out
        have hrr := fr_refl wr
        have cell : wr.cell? ⟨b, off + j, none⟩ = some (.int .i64 v) := (hF1.cell (by show b < w.heap.size; omega)).trans hx
        have cP := fun W h => law_pl (W0 := wr) (W := W) iv h
        have hplt := pl_lt v
        have cK := fun W h => law_key_at (W0 := wr) (W := W) (v := ((pl v : Nat) : Int)) (by unfold Is64; omega) h
        have hdiv : ((pl v : Nat) : Int).tdiv 16 = ((pl v / 16 : Nat) : Int) := rfl
        have cV := fun W h => law_value_at (W0 := wr) (W := W) (v := ((pl v / 16 : Nat) : Int)) (by unfold Is64; omega) h
        have hdlt : pl v / 16 < 1099511627776 := by omega
        have wm := lawP_wf v
        have om := lawP_ok v
        have wk := lawK_wf ((pl v : Nat) : Int)
        have wv := lawV_wf ((pl v / 16 : Nat) : Int)
        have hfm := msg_built (lawK ((pl v : Nat) : Int)) wv.hl
        have hlv : (vc (lawV ((pl v / 16 : Nat) : Int))).length = 17 := vc_len wv.hl
        have hstep : entsJ ns most (j + 1) = if bytsE (putE (entsJ ns most j) (lawP v)) ≤ most then putE (entsJ ns most j) (lawP v) else entsJ ns most j := by
          have e : ns.getD j 0 = v := by simp [List.getD, hv]
          rw [entsJ, e]
        have Hstep := keep hstep
        have ol := entsJ_ok ns most j
        have ol2 := putE_ok ol wm om
        have hpm : (mc ⟨1, 0, lawK ((pl v : Nat) : Int), lawV ((pl v / 16 : Nat) : Int), 0⟩).toArray = (mc (lawP v)).toArray := rfl
        rw [hpm] at hfm
        generalize lawP v = m at *
        generalize entsJ ns most j = q at *
        generalize lawK ((pl v : Nat) : Int) = k at *
        generalize lawV ((pl v / 16 : Nat) : Int) = y at *
        generalize pl v / 16 = d at *
        generalize pl v = p at *
        have hle := putE_le q m
        rw [Hn'.out] at hle
        have hby := bytsE_rng ol2.sm
        have cA : ∀ W, Fr wr W → Calls Try.prog 30 #[.slice A' n' c', mm m] W fun e w' => ∃ A2 c2, e = .returned (.slice A2 (putE q m).length c2) ∧ Hid (OwnE w' w.heap.size A2 c2 (putE q m)) ∧ Fr wr w' := fun W hW =>
          (ref_eput (c := c') (hO.out.fr hW).has (Nat.le_refl _) Hn'.out (by omega) ol wm om).mono fun e w' h => by
            obtain ⟨A2, c2, e1, h1, h2⟩ := h
            exact ⟨A2, c2, e1, keep (h1.mono (Nat.le_trans hF1.size hW.size)), fr_step hW h2⟩
        have cB : ∀ W A2 c2, Hid (OwnE W w.heap.size A2 c2 (putE q m)) → Calls Try.prog 41 #[.slice A2 (putE q m).length c2] W fun e w' => e = .returned (.int .i64 (bytsE (putE q m))) ∧ Fr W w' := fun W A2 c2 ho =>
          ref_ebytes ho.out.has (Nat.le_refl _) rfl (by omega) ol2.wfe ol2.sm
        generalize hq2 : putE q m = q2 at *
        clear hv hx hlt wm om ol ol2 hstep hq2 h60 wk wv hpm
        by_cases hfit : bytsE q2 ≤ most
        · have Hs : Hid (entsJ ns most (j + 1) = q2) := keep (by rw [Hstep.out, if_pos hfit])
          generalize bytsE q2 = t at *
          generalize hk2 : q2.length = k2 at *
          have Hk2 := keep hk2
          clear hk2
          go_wp2_with (first
            | (go_at_call 28; (with_reducible refine (cP _ hrr).mono ?_); rintro e w1 ⟨rfl, hz1⟩)
            | (go_at_call 29; (with_reducible refine (cK _ hz1).mono ?_); rintro e w2 ⟨rfl, hz2⟩)
            | (go_at_call 61; (with_reducible refine (cV _ hz2).mono ?_); rintro e w3 ⟨rfl, hz3⟩)
            | (go_at_call 30; (with_reducible refine (cA _ hz3).mono ?_); rintro e w4 ⟨A2, c2, rfl, ho2, hz4⟩)
            | (go_at_call 41; (with_reducible refine (cB _ _ _ ho2).mono ?_); rintro e w5 ⟨rfl, hz5⟩)
            | fail)
          go_roundg (gk - 1)
          case measure => omega
          case rel => exact ⟨j + 1, A2, k2, c2, by omega, by omega, by omega, rfl, rfl, by rw [Hs.out]; exact Hk2, by rw [Hs.out]; exact keep (ho2.out.fr hz5), keep (fr_step hF1 (fr_step hz4 hz5))⟩
        · have Hs : Hid (entsJ ns most (j + 1) = q) := keep (by rw [Hstep.out, if_neg hfit])
          generalize bytsE q2 = t at *
          generalize hk2 : q2.length = k2 at *
          clear hk2
          go_wp2_with (first
            | (go_at_call 28; (with_reducible refine (cP _ hrr).mono ?_); rintro e w1 ⟨rfl, hz1⟩)
            | (go_at_call 29; (with_reducible refine (cK _ hz1).mono ?_); rintro e w2 ⟨rfl, hz2⟩)
            | (go_at_call 61; (with_reducible refine (cV _ hz2).mono ?_); rintro e w3 ⟨rfl, hz3⟩)
            | (go_at_call 30; (with_reducible refine (cA _ hz3).mono ?_); rintro e w4 ⟨A2, c2, rfl, ho2, hz4⟩)
            | (go_at_call 41; (with_reducible refine (cB _ _ _ ho2).mono ?_); rintro e w5 ⟨rfl, hz5⟩)
            | fail)
          go_roundg (gk - 1)
          case measure => omega
          case rel => exact ⟨j + 1, A', n', c', by omega, by omega, by omega, rfl, rfl, by rw [Hs.out]; exact Hn', by rw [Hs.out]; exact keep (hO.out.fr (fr_step hz4 hz5)), keep (fr_step hF1 (fr_step hz4 hz5))⟩
      · have h60z : ¬ (j : Int) < 80 := by omega
        have He : Hid (entsL ns most = entsJ ns most j) := keep (by unfold entsL; rw [Hn.out, show min n 80 = j by omega])
        clear hlt h60
        go_wp2_with fail
        go_ret
        rw [He.out, Hn'.out]
        exact ⟨A', c', rfl, hO.out, hF.out⟩
    · have hjz : ¬ (j : Int) < (n : Int) := by omega
      have He : Hid (entsL ns most = entsJ ns most j) := keep (by unfold entsL; rw [Hn.out, show min n 80 = j by omega])
      clear hlt
      go_wp2_with fail
      go_ret
      rw [He.out, Hn'.out]
      exact ⟨A', c', rfl, hO.out, hF.out⟩
end Go.Proofs.Ytcdcaanmmbopbaa
