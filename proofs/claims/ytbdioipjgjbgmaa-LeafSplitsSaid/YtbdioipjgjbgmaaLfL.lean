/- The document's 'Put' of an entry. -/
import Derived.Test.YtbdioipjgjbgmaaLfI
import Derived.Test.YtbdioipjgjbgmaaLfJ
import Derived.Test.YtbdioipjgjbgmaaLfF
namespace Go.Proofs.Ytbdioipjgjbgmaa
set_option maxRecDepth 100000
open Go.RowKit
set_option linter.unusedVariables false
attribute [local go_sem ↓] key_ld ent_ld val_ld msg_ld
theorem ref_eput {w : World} {A : Option Addr} {n c B : Nat} {l : List RE} {m : RM} (hl : Has w B A (rows ec l)) (hB : B ≤ w.heap.size) (hn : l.length = n) (hsm : n ≤ 100000) (ol : OkE l) (wm : m.wf) (om : okM m = true) :
    Calls Try.prog 49 #[.slice A n c, mm m] w fun e w' => ∃ A' c', e = .returned (.slice A' (putE l m).length c') ∧ OwnE w' w.heap.size A' c' (putE l m) ∧ Fr w w' := by
  cases hb : appB m with
  | true => exact ref_eput_is hl hB hn hsm ol wm om hb
  | false => exact ref_eput_no hl hB hn hsm ol wm om hb
end Go.Proofs.Ytbdioipjgjbgmaa
/- Entries in memory: the document's 'All'; where a leaf is split. -/
namespace Go.Proofs.Ytbdioipjgjbgmaa
set_option maxRecDepth 100000
open Go.RowKit
set_option linter.unusedVariables false
attribute [local go_sem ↓] key_ld ent_ld val_ld msg_ld
theorem byts_mono {l : List RE} (h : SmE l) {i j : Nat} (hij : i ≤ j) : bytsE (l.take i) ≤ bytsE (l.take j) := by
  have e : l.take j = l.take i ++ (l.drop i).take (j - i) := by
    rw [← List.take_add]
    congr 1
    omega
  rw [e, bytsE_app]
  have := bytsE_rng (h.sub ((List.take_sublist (j - i) (l.drop i)).trans (List.drop_sublist i l)))
  omega
theorem splE_uniq {l : List RE} (h : SmE l) {j : Nat} (h1 : 1 ≤ j) (h2 : j < l.length) (hh : bytsE l ≤ 2 * bytsE (l.take j) ∨ l.length - j = 1) (hf : ∀ i, 1 ≤ i → i < j → 2 * bytsE (l.take i) < bytsE l) : j = splE l := by
  have hb := splE_bd (l := l) (by omega)
  have sh := splE_half (l := l) (by omega)
  have sf := splE_few (l := l) (by omega)
  rcases Nat.lt_trichotomy (splE l) j with hl | hl | hl
  · have := hf _ hb.1 hl
    omega
  · exact hl.symm
  · have := byts_mono h (i := j) (j := splE l - 1) (by omega)
    omega
set_option maxHeartbeats 2000000 in
theorem ref_eall {w : World} {A A2 : Option Addr} {n c B n2 c2 B2 : Nat} {l : List RE} {more : List RM} (hl : Has w B A (rows ec l)) (hB : B ≤ w.heap.size) (hn : l.length = n) (hsm : n ≤ 10000) (ol : OkE l) (hl2 : Has w B2 A2 (rows mc more)) (hB2 : B2 ≤ w.heap.size) (hn2 : more.length = n2) (hsm2 : n2 ≤ 10000) (gm : Good more) :
    Calls Try.prog 38 #[.slice A n c, .slice A2 n2 c2] w fun e w' => ∃ A' c', e = .returned (.slice A' (allE l more).length c') ∧ OwnE w' w.heap.size A' c' (allE l more) ∧ Fr w w' := by
  have ho : Own (w.alloc (.cells #[] 69)) w.heap.size 69 26 (some ⟨w.heap.size, 0, none⟩) 0 0 (rows ec ([] : List RE)) := Own.lit w w.heap.size 69 #[] 0 26 (Nat.le_refl _) (Nat.zero_le _) rfl
  have hlA := hl.below ((fr_new (fr_refl w) (.cells #[] 69)).mono hB)
  have hlen : (rows ec l).length = n * 26 := by rw [rows_len ol.wfe.wid, hn]
  have Hl := keep hl2
  have Hn := keep hn2
  have Hn1 := keep hn
  have Hg := keep gm
  have Ho := keep ol
  clear hl2 hn2 gm ol hl hn
  go_enter Try.func38, Try.ntmps38
  go_wp2_with (first
    | (refine wpList_append_rows ent_elem ents_under (by decide) rfl (.tmp 7) (.tmp 8) rfl (some ⟨w.heap.size, 0, none⟩) 0 0 [] rfl ho B A n c l rfl hlen hlA (rows_ec_one l) (by simp only [maxLen]; omega) (by omega) (by simp) ?_; intro A1 c1 w1 h1 h2 h3
       have hF1 : Fr w w1 := below_grown (fr_new (fr_refl w) _) ho h2 (by simp) (Nat.le_refl _)
       have ho1 : OwnE w1 w.heap.size A1 c1 l := by
         unfold OwnE
         rw [Hn1.out]
         rw [List.nil_append, Nat.zero_add] at h1
         exact h1
       have Ho1 := keep ho1
       clear h1 h2 h3 ho hlA hlen ho1)
    | fail)
  go_loopg [5, 6] n2 (fun g s5 s12 wr => ∃ j : Nat, j + g = n2 ∧ s12 = .int .i64 j ∧ (∃ A' c', s5 = .slice A' (allE l (more.take j)).length c' ∧ Hid (OwnE wr w.heap.size A' c' (allE l (more.take j)))) ∧ Hid (Fr w wr))
  case atStart => exact ⟨0, by omega, rfl, ⟨A1, c1, by rw [← Hn1.out]; first | rfl | simp [allE], Ho1⟩, keep hF1⟩
  case round =>
    obtain ⟨j, hj, rfl, ⟨A', c', rfl, hO⟩, hF⟩ := hrel
    by_cases hlt : j < n2
    · have hm : more[j]? = some (more[j]'(by rw [Hn.out]; exact hlt)) := List.getElem?_eq_getElem _
      generalize more[j]'(by rw [Hn.out]; exact hlt) = m at hm
      obtain ⟨b, off, rfl, hb1, hr⟩ := has_rows Hl.out Hg.out.wfm.wid (by decide) (by intro e; rw [e] at hm; simp at hm)
      have lX := elem_ld msgS hr Hg.out.wfm.wid (by omega) hm
      have wm := Hg.out m (mem_at hm)
      have hle := allE_le (more.take j) l
      have hgt : Good (more.take j) := Hg.out.sub (List.take_sublist _ _)
      have hok := allE_ok Ho.out hgt
      rw [List.length_take, Hn.out, Hn1.out] at hle
      have Hs := keep (allE_take (l := l) hm)
      generalize allE l (more.take j) = q at *
      have cE : Calls Try.prog 49 #[.slice A' q.length c', mm m] wr fun e w' => ∃ A2 c2, e = .returned (.slice A2 (putE q m).length c2) ∧ OwnE w' w.heap.size A2 c2 (putE q m) ∧ Fr w w' :=
        (ref_eput hO.out.has (Nat.le_refl _) rfl (by omega) hok wm.1 wm.2).mono fun e w' h => by
          obtain ⟨A2, c2, e1, h1, h2⟩ := h
          exact ⟨A2, c2, e1, h1.mono hF.out.size, fr_step hF.out h2⟩
      have Hm := keep (mc_len wm.1.val.hl)
      have hF1' := hF.out
      have hjz : (j : Int) < (n2 : Int) := by omega
      generalize q.length = ql at *
      clear hm hr hlt hok hgt hle
      go_wp2_with (first
        | (go_at_call 49; (with_reducible refine cE.mono ?_); rintro e w9 ⟨A9, c9, rfl, ho9, hz⟩)
        | fail)
      go_roundg (gk - 1)
      case measure => omega
      case rel => exact ⟨j + 1, by omega, rfl, ⟨A9, c9, by rw [Hs.out], by rw [Hs.out]; exact keep ho9⟩, keep hz⟩
    · have : j = n2 := by omega
      subst this
      have e : more.take j = more := List.take_of_length_le (by rw [Hn.out]; exact Nat.le_refl _)
      rw [e] at hO ⊢
      go_wp2_with fail
      go_ret
      exact ⟨A', c', rfl, hO.out, hF.out⟩
end Go.Proofs.Ytbdioipjgjbgmaa
/- Entries in memory: 'Split' of the program. -/
namespace Go.Proofs.Ytbdioipjgjbgmaa
set_option maxRecDepth 100000
open Go.RowKit
set_option linter.unusedVariables false
attribute [local go_sem ↓] key_ld ent_ld val_ld msg_ld key_st
theorem Sty.result4 {P : Program} {T n : Nat} {w : World} (S : Sty P T n) {fn : Func} {a b p t : Tmp} (h : fn.results = #[.tmp a, .tmp b, .cell p T, .tmp t]) (tmps : Array Value) (g : Nat) (hp : tmps.getD p undef = .pointer (some ⟨g, 0, none⟩)) {T' : Nat} {cs : List Value} (hl : cs.length = n) (ha : Arr w g T' cs.toArray) :
    (results fn tmps).run P w = .ok (.tuple #[tmps.getD a undef, tmps.getD b undef, .agg cs.toArray, tmps.getD t undef]) w := by
  have hp' : tmps[p]?.getD undef = .pointer (some ⟨g, 0, none⟩) := by simpa using hp
  simp [results, h, hp', asAddr, S.load hl ha]
theorem own_setRow {w : World} {B e size n c k : Nat} {A : Option Addr} {xs : List Value} (h : Own w B e size A n c xs) (hk : k < B) (ds : Array Value) : Own (w.setRow k ds) B e size A n c xs :=
  h.kept (row := some k) ⟨rfl, rfl, rfl, by simp [World.setRow], fun j _ hj => setRow_other w k j _ (fun e => hj (by rw [e]))⟩ (by
    cases hA : blk A with
    | none => exact .inl rfl
    | some b =>
      have := (h.lt b hA).1
      exact .inr (fun e => by injection e with e; omega))
theorem zeroK_box (w : World) : ∃ Z, w.alloc (.cells (kc zeroK).toArray 27) = Z ∧ Fr w Z ∧ Fr Z Z ∧ Arr Z w.heap.size 27 (kc zeroK).toArray ∧ Z.heap.size = w.heap.size + 1 := ⟨_, rfl, fr_new (fr_refl w) _, fr_refl _, Arr.new w _ _, by simp⟩
set_option maxHeartbeats 2000000 in
theorem esplit_no {w : World} {A : Option Addr} {n c : Nat} (h2 : n < 2) :
    Calls Try.prog 42 #[.slice A n c] w fun e w' => e = .returned (.tuple #[.slice none 0 0, .slice none 0 0, kv zeroK, .bool false]) ∧ Fr w w' := by
  obtain ⟨Z, hZ, hF, hZZ, hK, hS⟩ := zeroK_box w
  rw [zeroK_cells] at hZ
  have h2z : (n : Int) < 2 := by omega
  go_enter Try.func42, Try.ntmps42
  go_wp2_with (first
    | (refine wpList_store_at (ds := kc zeroK) key_info rfl (.tmp 4) (.tmp 12) rfl w.heap.size 0 rfl rfl (kc_len _) (kc_one _) hK (by decide) (splice_all _ _ (by decide)) ?_; intro W5 hM5 hk5; have hF5 := hk5.fr hF (Nat.le_refl _); clear hk5)
    | fail)
  exact bodyPost_ret (keyS.result4 rfl _ w.heap.size rfl (kc_len _) hM5) rfl ⟨rfl, hF5⟩
set_option maxHeartbeats 4000000 in
theorem esplit_at {w : World} {A : Option Addr} {n c B : Nat} {l : List RE} {p : RE} (hl : Has w B A (rows ec l)) (hB : B ≤ w.heap.size) (hn : l.length = n) (hnc : n ≤ c) (hsm : n ≤ 100000) (wl : WfE l) (hs : SmE l) (h2 : 2 ≤ n) (hp : l[splE l]? = some p) :
    Calls Try.prog 42 #[.slice A n c] w fun e w' => ∃ A1 c1 A2 c2, e = .returned (.tuple #[.slice A1 (splE l) c1, .slice A2 (n - splE l) c2, kv p.key, .bool true]) ∧ OwnE w' w.heap.size A1 c1 (l.take (splE l)) ∧ OwnE w' w.heap.size A2 c2 (l.drop (splE l)) ∧ Fr w w' := by
  obtain ⟨Z, hZ, hF, hZZ, hK, hS⟩ := zeroK_box w
  rw [zeroK_cells] at hZ
  have hlZ := hl.fr hB hF
  have hBZ : B ≤ Z.heap.size := Nat.le_trans hB hF.size
  have h0 : l[0]? = some (l[0]'(by omega)) := List.getElem?_eq_getElem _
  generalize l[0]'(by omega) = x0 at h0
  obtain ⟨b, off, rfl, hb1, hr⟩ := has_rows hlZ wl.wid (by decide) (by intro e; rw [e] at h0; simp at h0)
  have l0 := elem_ld entS hr wl.wid (by omega) h0
  simp only [Nat.zero_mul, Nat.add_zero] at l0
  have s0 := hs x0 (emem_at h0)
  have hR0 := bytE_rng s0
  have cB := fun W h => (ebytes_at (c := c) (hlZ.fr hBZ h) (Nat.le_trans hBZ h.size) hn hsm wl hs).mono (fun e w' (hh : _ ∧ Fr W w') => (⟨hh.1, fr_step h hh.2⟩ : _ ∧ Fr Z w'))
  have c0 := fun W h => esize_at (W0 := Z) (W := W) s0 h
  have hAll := bytsE_rng hs
  rw [hn] at hAll
  have e1 : bytsE (l.take 1) = bytE x0 := by rw [bytsE_take h0, List.take_zero]; simp [bytsE]
  have E1 := keep e1
  have Hl := keep hlZ
  have Hlw := keep hl
  have Hn := keep hn
  have Hwl := keep wl
  have Hs := keep hs
  obtain ⟨sp, hsp⟩ : ∃ sp, splE l = sp := ⟨_, rfl⟩
  rw [hsp] at hp ⊢
  have Hsp := keep hsp
  have Hp := keep hp
  have HK := keep hK
  have Hr := keep hr
  have Hall : Hid (bytsE l = bytsE l) := keep rfl
  have h2z : ¬ (n : Int) < 2 := by omega
  have hZD := fr_drew hZZ
  obtain ⟨all, hall⟩ : ∃ all, bytsE l = all := ⟨_, rfl⟩
  rw [hall] at cB hAll
  have HA := keep hall
  have hnz : (0 : Int) < (n : Int) := by omega
  have hn0 : 0 < n := by omega
  generalize bytE x0 = t0 at *
  clear hl hlZ hn wl hs hsp hp hK hr h0 s0 e1 hall Hall
  go_enter Try.func42, Try.ntmps42
  go_wp2_with fail
  go_region_held3 (fun w' => Fr Z w') (first | exact hZD | assumption)
    (first
      | (go_at_call 46; (with_reducible refine (cB _ (by assumption)).mono ?_); rintro e w7 ⟨rfl, hz7⟩)
      | (go_at_call 74; (with_reducible refine (c0 _ (by assumption)).mono ?_); rintro e w8 ⟨rfl, hz8⟩))
  all_goals
    go_wp2_with fail
    go_loopg [7, 8] n (fun g s7 s8 wr => ∃ j : Nat, 1 ≤ j ∧ j < n ∧ n - j ≤ g ∧ s8 = .int .i64 j ∧ s7 = .int .i64 (bytsE (l.take j)) ∧ Hid (Fr Z wr) ∧ Hid (∀ i, 1 ≤ i → i < j → 2 * bytsE (l.take i) < all))
    case atStart => exact ⟨1, by omega, by omega, by omega, rfl, by rw [E1.out], keep (show Fr Z _ by assumption), keep (fun i h1 h2 => by omega)⟩
    case round =>
      obtain ⟨j, hj1, hjn, hjg, rfl, rfl, hF8, Hfew⟩ := hrel
      have hR := bytsE_rng (Hs.out.sub (List.take_sublist j l))
      have hlen : (l.take j).length = j := by rw [List.length_take, Hn.out]; omega
      rw [hlen] at hR
      have hZ8 := hF8.out
      have hwi : IntKind.i64.wrap ((n : Int) - 1) = (n : Int) - 1 := by rw [IntKind.wrap_i64]; omega
      have hm : l[j]? = some (l[j]'(by rw [Hn.out]; exact hjn)) := List.getElem?_eq_getElem _
      generalize l[j]'(by rw [Hn.out]; exact hjn) = m at hm
      have hjz : (j : Int) < (n : Int) := by omega
      by_cases hgo : j + 1 < n ∧ 2 * bytsE (l.take j) < all
      · have lX := elem_ld entS Hr.out Hwl.out.wid (by omega) hm
        have sm := Hs.out m (emem_at hm)
        have cS := fun W0 W h => esize_at (W0 := W0) (W := W) sm h
        have hR2 := bytE_rng sm
        have Hst := keep (bytsE_take hm)
        have Hfew2 : Hid (∀ i, 1 ≤ i → i < j + 1 → 2 * bytsE (l.take i) < all) := keep (fun i h1 h2 => by
          by_cases e : i = j
          · rw [e]; exact hgo.2
          · exact Hfew.out i h1 (by omega))
        obtain ⟨g1, g2⟩ := hgo
        have g1z : (j : Int) < (n : Int) - 1 := by omega
        generalize bytsE (l.take j) = s at *
        generalize bytE m = t at *
        clear hm sm hlen Hfew
        go_wp2_with (first
          | (go_at_call 74; (with_reducible refine (cS wr _ (fr_refl wr)).mono ?_); rintro e w9 ⟨rfl, hz9⟩)
          | fail)
        go_roundg (gk - 1)
        case measure => omega
        case rel => exact ⟨j + 1, by omega, by omega, by omega, rfl, by rw [Hst.out], keep (fr_step hZ8 hz9), Hfew2⟩
      · have hj : j = splE l := splE_uniq Hs.out hj1 (by rw [Hn.out]; exact hjn) (by
          rw [HA.out, Hn.out]
          by_cases h9 : j + 1 < n
          · exact .inl (by
              rcases Int.lt_or_le (2 * bytsE (l.take j)) all with h | h
              · exact absurd ⟨h9, h⟩ hgo
              · exact h)
          · exact .inr (by omega)) (by rw [HA.out]; exact Hfew.out)
        have hjs : j = sp := hj.trans Hsp.out
        clear hj
        subst hjs
        have hmp : m = p := by
          have := Hp.out
          rw [hm] at this
          injection this
        subst hmp
        have hrw : w.rangeAt b off (rows ec l) := by
          obtain ⟨b', off', e, -, hr⟩ := has_rows Hlw.out Hwl.out.wid (by decide) (by intro e; rw [e] at hm; simp at hm)
          injection e with e
          injection e with e1 e2
          subst e1 e2
          exact hr
        have lP := elem_part (o := 0) keyS hrw Hwl.out.wid (by omega) hm (ec_key m) (kc_len _)
        simp only [Nat.add_zero] at lP
        have hgz : (j : Int) < (n : Int) - 1 → ¬ (2 * bytsE (l.take j) < all) := fun h h' => hgo ⟨by omega, h'⟩
        have q1 := ents_slice_hi (some ⟨b, off, none⟩) n c j (by omega)
        have q2 := ents_slice_lo (some ⟨b, off, none⟩) n c j (by omega)
        rw [lowE_some (by omega)] at q2
        have hwt := has_rows_take Hlw.out Hwl.out.wid j
        have hwd := has_rows_drop Hlw.out Hwl.out.wid j
        have hlt : (l.take j).length = j := hlen
        have hld : (l.drop j).length = n - j := by rw [List.length_drop, Hn.out]
        have cH1 : ∀ W, Fr w W → Z.heap.size ≤ W.heap.size → Calls Try.prog 75 #[.slice (some ⟨b, off, none⟩) j c] W fun e w' => ∃ A' c', e = .returned (.slice A' j c') ∧ OwnE w' Z.heap.size A' c' (l.take j) ∧ Fr W w' := fun W hW hz =>
          (ehalf_at (hwt.fr hB hW) (Nat.le_trans hB hW.size) hlt (by omega) (by omega) (fun x hx => Hwl.out x (List.mem_of_mem_take hx))).mono fun e w' h => by
            obtain ⟨A', c', e1, h1, h2⟩ := h
            exact ⟨A', c', e1, h1.mono hz, h2⟩
        have cH2 : ∀ W, Fr w W → Z.heap.size ≤ W.heap.size → Calls Try.prog 75 #[.slice (some ⟨b, off + j * 26, none⟩) (n - j) (c - j)] W fun e w' => ∃ A' c', e = .returned (.slice A' (n - j) c') ∧ OwnE w' Z.heap.size A' c' (l.drop j) ∧ Fr W w' := fun W hW hz =>
          (ehalf_at (hwd.fr hB hW) (Nat.le_trans hB hW.size) hld (by omega) (by omega) (fun x hx => Hwl.out x (List.mem_of_mem_drop hx))).mono fun e w' h => by
            obtain ⟨A', c', e1, h1, h2⟩ := h
            exact ⟨A', c', e1, h1.mono hz, h2⟩
        have HlT := keep hlt
        have HlD := keep hld
        generalize bytsE (l.take j) = s at *
        have st : ∀ W, OwnB W w.heap.size 27 9 → (stS 27 (.pointer (some ⟨w.heap.size, 0, none⟩)) (.agg (kc m.key).toArray)).run Try.prog W = .ok () (W.setRow w.heap.size (kc m.key).toArray) := fun W h => st_run key_info h (kc_len _) (kc_one _)
        have hob0 : OwnB wr w.heap.size 27 9 := OwnB.of (HK.out.below hZ8 HK.out.lt) (kc_len _)
        have hobD := OwnB.drew hob0
        have hwD : Fr w wr.drew := fr_step hF (fr_drew hZ8)
        have hszD : Z.heap.size ≤ wr.drew.heap.size := hZ8.size
        by_cases h9 : j + 1 < n
        · have h9z : (j : Int) < (n : Int) - 1 := by omega
          have h8z := hgz h9z
          clear hm hlen hlt hld Hfew hgz hgo Hp hwt hwd h9
          go_wp2_with fail
          go_region_held3 (fun w' => Fr w w' ∧ Z.heap.size ≤ w'.heap.size ∧ OwnB w' w.heap.size 27 9)
            (first
              | (go_split_ands; exact ⟨hwD, hszD, hobD⟩)
              | (go_split_ands; exact ⟨by assumption, by assumption, by assumption⟩)
              | (go_split_ands; exact ⟨fr_setRow (by assumption) (Nat.le_refl _) _, by rw [size_setRow]; assumption, OwnB.setRow (by assumption) (kc_len _)⟩))
            (first
              | (go_at_call 75; (with_reducible refine (cH1 _ (by assumption) (by assumption)).mono ?_); rintro e w9 ⟨A1, c1, rfl, ho1, hz9⟩
                 have hw9 : Fr w w9 := fr_step (by assumption) hz9
                 have hs9 : Z.heap.size ≤ w9.heap.size := Nat.le_trans (by assumption) hz9.size
                 have hb9 : OwnB w9 w.heap.size 27 9 := OwnB.below (by assumption) hz9
                 try have ho2b := OwnE.fr ho2 hz9)
              | (go_at_call 75; (with_reducible refine (cH2 _ (by assumption) (by assumption)).mono ?_); rintro e w10 ⟨A2, c2, rfl, ho2, hz10⟩
                 have hw10 : Fr w w10 := fr_step (by assumption) hz10
                 have hs10 : Z.heap.size ≤ w10.heap.size := Nat.le_trans (by assumption) hz10.size
                 have hb10 : OwnB w10 w.heap.size 27 9 := OwnB.below (by assumption) hz10
                 try have ho1b := OwnE.fr ho1 hz10))
          all_goals
            go_wp2_with fail
            refine bodyPost_ret (keyS.result4 (cs := kc m.key) rfl _ w.heap.size rfl (kc_len _) (OwnB.put (by assumption) _)) rfl ?_
            refine ⟨A1, c1, A2, c2, rfl, ?_, ?_, fr_setRow (by assumption) (Nat.le_refl _) _⟩
            · first
                | exact (own_setRow ho1b (by omega) _).mono hF.size
                | exact (own_setRow ho1 (by omega) _).mono hF.size
            · first
                | exact (own_setRow ho2b (by omega) _).mono hF.size
                | exact (own_setRow ho2 (by omega) _).mono hF.size
        · have h9z : ¬ (j : Int) < (n : Int) - 1 := by omega
          clear hm hlen hlt hld Hfew hgz hgo Hp hwt hwd h9
          go_wp2_with fail
          go_region_held3 (fun w' => Fr w w' ∧ Z.heap.size ≤ w'.heap.size ∧ OwnB w' w.heap.size 27 9)
            (first
              | (go_split_ands; exact ⟨hwD, hszD, hobD⟩)
              | (go_split_ands; exact ⟨by assumption, by assumption, by assumption⟩)
              | (go_split_ands; exact ⟨fr_setRow (by assumption) (Nat.le_refl _) _, by rw [size_setRow]; assumption, OwnB.setRow (by assumption) (kc_len _)⟩))
            (first
              | (go_at_call 75; (with_reducible refine (cH1 _ (by assumption) (by assumption)).mono ?_); rintro e w9 ⟨A1, c1, rfl, ho1, hz9⟩
                 have hw9 : Fr w w9 := fr_step (by assumption) hz9
                 have hs9 : Z.heap.size ≤ w9.heap.size := Nat.le_trans (by assumption) hz9.size
                 have hb9 : OwnB w9 w.heap.size 27 9 := OwnB.below (by assumption) hz9
                 try have ho2b := OwnE.fr ho2 hz9)
              | (go_at_call 75; (with_reducible refine (cH2 _ (by assumption) (by assumption)).mono ?_); rintro e w10 ⟨A2, c2, rfl, ho2, hz10⟩
                 have hw10 : Fr w w10 := fr_step (by assumption) hz10
                 have hs10 : Z.heap.size ≤ w10.heap.size := Nat.le_trans (by assumption) hz10.size
                 have hb10 : OwnB w10 w.heap.size 27 9 := OwnB.below (by assumption) hz10
                 try have ho1b := OwnE.fr ho1 hz10))
          all_goals
            go_wp2_with fail
            refine bodyPost_ret (keyS.result4 (cs := kc m.key) rfl _ w.heap.size rfl (kc_len _) (OwnB.put (by assumption) _)) rfl ?_
            refine ⟨A1, c1, A2, c2, rfl, ?_, ?_, fr_setRow (by assumption) (Nat.le_refl _) _⟩
            · first
                | exact (own_setRow ho1b (by omega) _).mono hF.size
                | exact (own_setRow ho1 (by omega) _).mono hF.size
            · first
                | exact (own_setRow ho2b (by omega) _).mono hF.size
                | exact (own_setRow ho2 (by omega) _).mono hF.size
end Go.Proofs.Ytbdioipjgjbgmaa
/- Entries in memory: 'Split' of the document. -/
namespace Go.Proofs.Ytbdioipjgjbgmaa
set_option maxRecDepth 100000
open Go.RowKit
set_option linter.unusedVariables false
attribute [local go_sem ↓] key_ld ent_ld val_ld msg_ld key_st
set_option maxHeartbeats 2000000 in
theorem ref_esplit_no {w : World} {A : Option Addr} {n c : Nat} (h2 : n < 2) :
    Calls Try.prog 43 #[.slice A n c] w fun e w' => e = .returned (.tuple #[.slice none 0 0, .slice none 0 0, kv zeroK, .bool false]) ∧ Fr w w' := by
  obtain ⟨Z, hZ, hF, hZZ, hK, hS⟩ := zeroK_box w
  rw [zeroK_cells] at hZ
  have h2z : (n : Int) < 2 := by omega
  go_enter Try.func43, Try.ntmps43
  go_wp2_with (first
    | (refine wpList_store_at (ds := kc zeroK) key_info rfl (.tmp 4) (.tmp 13) rfl w.heap.size 0 rfl rfl (kc_len _) (kc_one _) hK (by decide) (splice_all _ _ (by decide)) ?_; intro W5 hM5 hk5; have hF5 := hk5.fr hF (Nat.le_refl _); clear hk5)
    | fail)
  exact bodyPost_ret (keyS.result4 rfl _ w.heap.size rfl (kc_len _) hM5) rfl ⟨rfl, hF5⟩
set_option maxHeartbeats 4000000 in
theorem ref_esplit {w : World} {A : Option Addr} {n c B : Nat} {l : List RE} {p : RE} (hl : Has w B A (rows ec l)) (hB : B ≤ w.heap.size) (hn : l.length = n) (hnc : n ≤ c) (hsm : n ≤ 100000) (wl : WfE l) (hs : SmE l) (h2 : 2 ≤ n) (hp : l[splE l]? = some p) :
    Calls Try.prog 43 #[.slice A n c] w fun e w' => ∃ A1 c1 A2 c2, e = .returned (.tuple #[.slice A1 (splE l) c1, .slice A2 (n - splE l) c2, kv p.key, .bool true]) ∧ OwnE w' w.heap.size A1 c1 (l.take (splE l)) ∧ OwnE w' w.heap.size A2 c2 (l.drop (splE l)) ∧ Fr w w' := by
  obtain ⟨Z, hZ, hF, hZZ, hK, hS⟩ := zeroK_box w
  rw [zeroK_cells] at hZ
  have hlZ := hl.fr hB hF
  have hBZ : B ≤ Z.heap.size := Nat.le_trans hB hF.size
  have h0 : l[0]? = some (l[0]'(by omega)) := List.getElem?_eq_getElem _
  generalize l[0]'(by omega) = x0 at h0
  obtain ⟨b, off, rfl, hb1, hr⟩ := has_rows hlZ wl.wid (by decide) (by intro e; rw [e] at h0; simp at h0)
  have cB := fun W h => (ref_ebytes (c := c) (hlZ.fr hBZ h) (Nat.le_trans hBZ h.size) hn hsm wl hs).mono (fun e w' (hh : _ ∧ Fr W w') => (⟨hh.1, fr_step h hh.2⟩ : _ ∧ Fr Z w'))
  have hAll := bytsE_rng hs
  rw [hn] at hAll
  have Hl := keep hlZ
  have Hn := keep hn
  have Hwl := keep wl
  have Hs := keep hs
  obtain ⟨sp, hsp⟩ : ∃ sp, splE l = sp := ⟨_, rfl⟩
  rw [hsp] at hp ⊢
  have Hsp := keep hsp
  have Hp := keep hp
  have HK := keep hK
  have h2z : ¬ (n : Int) < 2 := by omega
  obtain ⟨all, hall⟩ : ∃ all, bytsE l = all := ⟨_, rfl⟩
  rw [hall] at cB hAll
  have HA := keep hall
  have hnz : (0 : Int) < (n : Int) := by omega
  have hn0 : 0 < n := by omega
  clear hl hlZ hn wl hs hsp hp hK hr h0 hall x0
  go_enter Try.func43, Try.ntmps43
  go_wp2_with (first
    | (go_at_call 47; (with_reducible refine (cB Z hZZ).mono ?_); rintro e w7 ⟨rfl, hz7⟩)
    | fail)
  go_loopg [7] n (fun g s7 wr => ∃ j : Nat, 1 ≤ j ∧ j < n ∧ n - j ≤ g ∧ s7 = .int .i64 j ∧ Hid (Fr Z wr) ∧ Hid (∀ i, 1 ≤ i → i < j → 2 * bytsE (l.take i) < all))
  case atStart => exact ⟨1, by omega, by omega, by omega, rfl, keep (show Fr Z _ by assumption), keep (fun i h1 h2 => by omega)⟩
  case round =>
    obtain ⟨j, hj1, hjn, hjg, rfl, hF8, Hfew⟩ := hrel
    have hR := bytsE_rng (Hs.out.sub (List.take_sublist j l))
    have hlen : (l.take j).length = j := by rw [List.length_take, Hn.out]; omega
    rw [hlen] at hR
    have hZ8 := hF8.out
    have hwi : IntKind.i64.wrap ((n : Int) - 1) = (n : Int) - 1 := by rw [IntKind.wrap_i64]; omega
    have hm : l[j]? = some (l[j]'(by rw [Hn.out]; exact hjn)) := List.getElem?_eq_getElem _
    generalize l[j]'(by rw [Hn.out]; exact hjn) = m at hm
    have hjz : (j : Int) < (n : Int) := by omega
    have q1 := ents_slice_hi (some ⟨b, off, none⟩) n c j (by omega)
    have hwt := has_rows_take Hl.out Hwl.out.wid j
    have cT := (ref_ebytes (c := c) (hwt.fr hBZ hZ8) (Nat.le_trans hBZ hZ8.size) hlen (by omega) (fun x hx => Hwl.out x (List.mem_of_mem_take hx)) (Hs.out.sub (List.take_sublist j l))).mono (fun e w' (hh : _ ∧ Fr wr w') => (⟨hh.1, fr_step hZ8 hh.2⟩ : _ ∧ Fr Z w'))
    by_cases hgo : j + 1 < n ∧ 2 * bytsE (l.take j) < all
    · have Hfew2 : Hid (∀ i, 1 ≤ i → i < j + 1 → 2 * bytsE (l.take i) < all) := keep (fun i h1 h2 => by
        by_cases e : i = j
        · rw [e]; exact hgo.2
        · exact Hfew.out i h1 (by omega))
      obtain ⟨g1, g2⟩ := hgo
      have g1z : (j : Int) < (n : Int) - 1 := by omega
      generalize bytsE (l.take j) = s at *
      clear hm hlen Hfew hwt
      go_wp2_with (first
        | (go_at_call 47; (with_reducible refine cT.mono ?_); rintro e w9 ⟨rfl, hz9⟩)
        | fail)
      go_roundg (gk - 1)
      case measure => omega
      case rel => exact ⟨j + 1, by omega, by omega, by omega, rfl, keep hz9, Hfew2⟩
    · have hj : j = splE l := splE_uniq Hs.out hj1 (by rw [Hn.out]; exact hjn) (by
        rw [HA.out, Hn.out]
        by_cases h9 : j + 1 < n
        · exact .inl (by
            rcases Int.lt_or_le (2 * bytsE (l.take j)) all with h | h
            · exact absurd ⟨h9, h⟩ hgo
            · exact h)
        · exact .inr (by omega)) (by rw [HA.out]; exact Hfew.out)
      have hjs : j = sp := hj.trans Hsp.out
      clear hj
      subst hjs
      have hmp : m = p := by
        have := Hp.out
        rw [hm] at this
        injection this
      subst hmp
      have hgz : (j : Int) < (n : Int) - 1 → ¬ (2 * bytsE (l.take j) < all) := fun h h' => hgo ⟨by omega, h'⟩
      have q2 := ents_slice_lo (some ⟨b, off, none⟩) n c j (by omega)
      rw [lowE_some (by omega)] at q2
      have hwd := has_rows_drop Hl.out Hwl.out.wid j
      have hld : (l.drop j).length = n - j := by rw [List.length_drop, Hn.out]
      have lt1 : (rows ec (l.take j)).length = j * 26 := by rw [rows_len (Hwl.out.wid.take j), hlen]
      have lt2 : (rows ec (l.drop j)).length = (n - j) * 26 := by rw [rows_len (Hwl.out.wid.drop j), hld]
      have hm0 : (l.drop j)[0]? = some m := by rw [List.getElem?_drop]; exact hm
      have end2 : ∀ W, Fr Z W → ∀ (A1 : Option Addr) (c1 : Nat), Hid (OwnE W Z.heap.size A1 c1 (l.take j)) → ∀ (A2 : Option Addr) (c2 : Nat), Hid (OwnE W Z.heap.size A2 c2 (l.drop j)) → ∃ g2, A2 = some ⟨g2, 0, none⟩ ∧ (∀ W', Fr W W' → (ldS 27 (.pointer (some ⟨g2, 0, none⟩))).run Try.prog W' = .ok (.agg (kc m.key).toArray) W') := fun W hW A1 c1 h1 A2 c2 h2 => by
        obtain ⟨g2, rfl⟩ := h2.out.addr (by rw [hld]; omega)
        have hr2 : W.rangeAt g2 0 (rows ec (l.drop j)) := fun t v ht => by
          obtain ⟨b', off', e, -, hc⟩ := h2.out.has t v ht
          injection e with e
          injection e with e1 e2
          subst e1 e2
          exact hc
        have hwd' : Wid ec 26 (l.drop j) := Hwl.out.wid.drop j
        have lB := elem_part (o := 0) keyS hr2 hwd' (h2.out.lt g2 rfl).2 hm0 (ec_key m) (kc_len _)
        simp only [Nat.zero_mul, Nat.add_zero] at lB
        exact ⟨g2, rfl, lB⟩
      have HlT := keep hlen
      have HlD := keep hld
      generalize bytsE (l.take j) = s at *
      have hoL : ∀ W, Fr Z W → Own (W.alloc (.cells #[] 69)) Z.heap.size 69 26 (some ⟨W.heap.size, 0, none⟩) 0 0 (rows ec ([] : List RE)) := fun W h => Own.lit W Z.heap.size 69 #[] 0 26 h.size (Nat.zero_le _) rfl
      have hTA : ∀ W, Fr Z W → Has (W.alloc (.cells #[] 69)) B (some ⟨b, off, none⟩) (rows ec (l.take j)) := fun W h => hwt.fr hBZ (fr_new h _)
      have hDA : ∀ W, Fr Z W → Has (W.alloc (.cells #[] 69)) B (some ⟨b, off + j * 26, none⟩) (rows ec (l.drop j)) := fun W h => hwd.fr hBZ (fr_new h _)
      have hsL : ∀ W, Fr Z W → Z.heap.size ≤ (W.alloc (.cells #[] 69)).heap.size := fun W h => by have := h.size; simp; omega
      have st : ∀ W, OwnB W w.heap.size 27 9 → (stS 27 (.pointer (some ⟨w.heap.size, 0, none⟩)) (.agg (kc m.key).toArray)).run Try.prog W = .ok () (W.setRow w.heap.size (kc m.key).toArray) := fun W h => st_run key_info h (kc_len _) (kc_one _)
      have hjn0 : 0 < n - j := by omega
      have hjnz : (0 : Int) < ((n - j : Nat) : Int) := by omega
      by_cases h9 : j + 1 < n
      · have h9z : (j : Int) < (n : Int) - 1 := by omega
        have h8z := hgz h9z
        clear hm hlen hld Hfew hgz hgo Hp hwt hwd h9 hm0
        go_wp2_with (first
          | (go_at_call 47; (with_reducible refine cT.mono ?_); rintro e w9 ⟨rfl, hz9⟩)
          | (refine wpList_append_rows ent_elem ents_under (by decide) rfl (.tmp 32) (.tmp 35) rfl (some ⟨w9.heap.size, 0, none⟩) 0 0 [] rfl (hoL w9 hz9) B (some ⟨b, off, none⟩) j c (l.take j) rfl lt1 (hTA w9 hz9) (rows_ec_one _) (by simp only [maxLen]; omega) (by omega) (hsL w9 hz9) ?_; intro A1 c1 w1 h1 h2 h3
             have hz1 : Fr Z w1 := below_grown (fr_new hz9 _) (hoL w9 hz9) h2 (hsL w9 hz9) (Nat.le_refl _)
             have ho1 : Hid (OwnE w1 Z.heap.size A1 c1 (l.take j)) := keep (by
               unfold OwnE
               rw [HlT.out]
               rw [List.nil_append, Nat.zero_add] at h1
               exact h1)
             clear h1 h2 h3)
          | (refine wpList_append_rows ent_elem ents_under (by decide) rfl (.tmp 37) (.tmp 40) rfl (some ⟨w1.heap.size, 0, none⟩) 0 0 [] rfl (hoL w1 hz1) B (some ⟨b, off + j * 26, none⟩) (n - j) (c - j) (l.drop j) rfl lt2 (hDA w1 hz1) (rows_ec_one _) (by simp only [maxLen]; omega) (by omega) (hsL w1 hz1) ?_; intro A2 c2 w2 h1 h2 h3
             have hz2 : Fr Z w2 := below_grown (fr_new hz1 _) (hoL w1 hz1) h2 (hsL w1 hz1) (Nat.le_refl _)
             have ho2 : Hid (OwnE w2 Z.heap.size A2 c2 (l.drop j)) := keep (by
               unfold OwnE
               rw [HlD.out]
               rw [List.nil_append, Nat.zero_add] at h1
               exact h1)
             have ho1b : Hid (OwnE w2 Z.heap.size A1 c1 (l.take j)) := keep ((ho1.out.alloc _).kept h2 (by
               cases hA : blk A1 with
               | none => exact .inl rfl
               | some k =>
                 have hk := (ho1.out.lt k hA).2
                 exact .inr (fun e => by injection e with e; simp only at e; omega)))
             obtain ⟨g2, rfl, lB⟩ := end2 w2 hz2 A1 c1 ho1b A2 c2 ho2
             have hob := OwnB.of (HK.out.below hz2 HK.out.lt) (kc_len _)
             have hobD := OwnB.drew hob
             have hw2 := fr_step hF hz2
             have h22 := fr_refl w2
             have h2D := fr_drew h22
             clear h1 h2 h3)
          | fail)
        go_region
        all_goals
          go_wp2_with fail
          refine bodyPost_ret (keyS.result4 (cs := kc m.key) rfl _ w.heap.size rfl (kc_len _) (OwnB.put (by assumption) _)) rfl ?_
          refine ⟨A1, c1, some ⟨g2, 0, none⟩, c2, rfl, ?_, ?_, fr_setRow (fr_drew hw2) (Nat.le_refl _) _⟩
          · exact (own_setRow (own_drew ho1b.out) (by omega) _).mono hF.size
          · exact (own_setRow (own_drew ho2.out) (by omega) _).mono hF.size
      · have h9z : ¬ (j : Int) < (n : Int) - 1 := by omega
        clear hm hlen hld Hfew hgz hgo Hp hwt hwd h9 hm0 cT
        go_wp2_with (first
          | (refine wpList_append_rows ent_elem ents_under (by decide) rfl (.tmp 32) (.tmp 35) rfl (some ⟨wr.heap.size, 0, none⟩) 0 0 [] rfl (hoL wr hZ8) B (some ⟨b, off, none⟩) j c (l.take j) rfl lt1 (hTA wr hZ8) (rows_ec_one _) (by simp only [maxLen]; omega) (by omega) (hsL wr hZ8) ?_; intro A1 c1 w1 h1 h2 h3
             have hz1 : Fr Z w1 := below_grown (fr_new hZ8 _) (hoL wr hZ8) h2 (hsL wr hZ8) (Nat.le_refl _)
             have ho1 : Hid (OwnE w1 Z.heap.size A1 c1 (l.take j)) := keep (by
               unfold OwnE
               rw [HlT.out]
               rw [List.nil_append, Nat.zero_add] at h1
               exact h1)
             clear h1 h2 h3)
          | (refine wpList_append_rows ent_elem ents_under (by decide) rfl (.tmp 37) (.tmp 40) rfl (some ⟨w1.heap.size, 0, none⟩) 0 0 [] rfl (hoL w1 hz1) B (some ⟨b, off + j * 26, none⟩) (n - j) (c - j) (l.drop j) rfl lt2 (hDA w1 hz1) (rows_ec_one _) (by simp only [maxLen]; omega) (by omega) (hsL w1 hz1) ?_; intro A2 c2 w2 h1 h2 h3
             have hz2 : Fr Z w2 := below_grown (fr_new hz1 _) (hoL w1 hz1) h2 (hsL w1 hz1) (Nat.le_refl _)
             have ho2 : Hid (OwnE w2 Z.heap.size A2 c2 (l.drop j)) := keep (by
               unfold OwnE
               rw [HlD.out]
               rw [List.nil_append, Nat.zero_add] at h1
               exact h1)
             have ho1b : Hid (OwnE w2 Z.heap.size A1 c1 (l.take j)) := keep ((ho1.out.alloc _).kept h2 (by
               cases hA : blk A1 with
               | none => exact .inl rfl
               | some k =>
                 have hk := (ho1.out.lt k hA).2
                 exact .inr (fun e => by injection e with e; simp only at e; omega)))
             obtain ⟨g2, rfl, lB⟩ := end2 w2 hz2 A1 c1 ho1b A2 c2 ho2
             have hob := OwnB.of (HK.out.below hz2 HK.out.lt) (kc_len _)
             have hobD := OwnB.drew hob
             have hw2 := fr_step hF hz2
             have h22 := fr_refl w2
             have h2D := fr_drew h22
             clear h1 h2 h3)
          | fail)
        go_region
        all_goals
          go_wp2_with fail
          refine bodyPost_ret (keyS.result4 (cs := kc m.key) rfl _ w.heap.size rfl (kc_len _) (OwnB.put (by assumption) _)) rfl ?_
          refine ⟨A1, c1, some ⟨g2, 0, none⟩, c2, rfl, ?_, ?_, fr_setRow (fr_drew hw2) (Nat.le_refl _) _⟩
          · exact (own_setRow (own_drew ho1b.out) (by omega) _).mono hF.size
          · exact (own_setRow (own_drew ho2.out) (by omega) _).mono hF.size
end Go.Proofs.Ytbdioipjgjbgmaa
