/- The document's table: Pick. -/
import Derived.Test.YtmfnekobepdhkaaScE
namespace Go.Proofs.Ytmfnekobepdhkaa
set_option linter.unusedVariables false
set_option linter.unusedSimpArgs false
set_option maxRecDepth 100000
open Go.RowKit
/-- What holds while the document goes over the runnable ones: those of s are done. -/
structure RPk (w V : World) (r gs gw gp p : Nat) (t : Tab) (s : List Nat) (M : Int) : Prop where
  db : DB V r gs gw gp t.st.length t.st (dnW t.wa s p) (if p ∈ s then moreL t.pk p else t.pk) M
  chg : Chg (DX r gs gw gp) w V
  gm : GM M t.mo (dnW t.wa s p) s
theorem dnW_other {wa : List Int} {s : List Nat} {p i j : Nat} (h : j ≠ i) : (dnW wa (s ++ [i]) p)[j]? = (dnW wa s p)[j]? := by
  cases e : wa[j]? with
  | none => simp [dnW, e]
  | some x => rw [dnW_get e, dnW_get e]; simp [h]
theorem gm_step {wa : List Int} {s : List Nat} {p i : Nat} {M mo x v : Int} (h : GM M mo (dnW wa s p) s) (hi : i ∉ s) (hx : wa[i]? = some x) (hv : (if i = p then 0 else x + 1) = v) : GM (max M v) mo (dnW wa (s ++ [i]) p) (s ++ [i]) := by
  have hn := dnW_get (s := s ++ [i]) (p := p) hx
  rw [if_pos (by simp), hv] at hn
  have hne : ∀ j, j ∈ s → j ≠ i := fun j hj e => hi (e ▸ hj)
  refine ⟨by have := h.le; omega, fun j hj y hy => ?_, ?_⟩
  · rcases List.mem_append.1 hj with hj | hj
    · rw [dnW_other (hne j hj)] at hy
      have := h.all j hj y hy
      omega
    · simp at hj
      subst hj
      rw [hn] at hy
      injection hy with hy
      omega
  · rcases Int.le_total M v with hc | hc
    · exact .inr ⟨i, by simp, by rw [hn]; congr 1; omega⟩
    · rcases h.one with e | ⟨j, hj, e⟩
      · exact .inl (by omega)
      · exact .inr ⟨j, by simp [hj], by rw [dnW_other (hne j hj), e]; congr 1; omega⟩
section
variable {w V W : World} {r gs gw gp p i n : Nat} {t : Tab} {s : List Nat} {M x v : Int}
theorem RPk.done {K : Nat} {ok : Nat → Prop} (h : RPk w V r gs gw gp p t (runN t) M) (hp : p ∈ runN t) (ho : OkT t K) (hk : ok r ∧ ok gs ∧ ok gw ∧ ok gp) : DT V ok r gs gw gp (pickW t p) (K + 1) ∧ Chg (DX r gs gw gp) w V := by
  have hd := h.db
  rw [if_pos hp, GM.run ho h.gm] at hd
  exact ⟨⟨hd, hk, pickW_ok ho p⟩, h.chg⟩
end
theorem box_put {w : World} {g T : Nat} {a b c : Value} {mo v m : Int} (h : Arr w g T #[a, b, c, .int .i64 mo]) (hv : v = m) : Arr (w.setCell ⟨g, 3, none⟩ (.int .i64 v)).drew g T #[a, b, c, .int .i64 m] := by
  rw [← hv]; exact h.set 3 (.int .i64 v)
set_option maxHeartbeats 8000000 in
theorem rpick_at {w : World} {ok : Nat → Prop} {r gs gw gp K : Nat} {t : Tab} {p : Int} (h : DT w ok r gs gw gp t K) (hK : K < 4611686018427387000) (hp : -9223372036854775808 ≤ p ∧ p ≤ 9223372036854775807) :
    Calls Try.prog 19 #[.pointer (some ⟨r, 0, none⟩), .int .i64 p] w fun e w' => e = .returned (.tuple #[.int .i64 (pickI t p), .bool (pickB t)]) ∧ Hid (DT w' ok r gs gw gp (pickT t p) (K + 1) ∧ Chg (DX r gs gw gp) w w') := by
  have H := keep h
  have hm : (runL t).length = (runN t).length := natI_len _
  have hm8 : (runN t).length ≤ 8 := by have := runJ_len t.st t.st.length; have := h.ok.n; rw [runN]; omega
  obtain ⟨n, hnl⟩ : ∃ n, (runN t).length = n := ⟨_, rfl⟩
  have cr : Calls Try.prog 22 #[.pointer (some ⟨r, 0, none⟩)] w fun e w' => ∃ A c, e = .returned (.slice A n c) ∧ Hid (Own w' w.heap.size 3 1 A n c (ints (runL t)) ∧ Fr w w') := (rrunnable_at h).mono fun e w' ⟨A, n', c, he, hh⟩ => ⟨A, c, by rw [he, ← hnl, ← hm, hh.out.1], keep (by
    have := hh.out
    rw [hm, hnl] at this
    obtain ⟨rfl, h2⟩ := this
    exact h2)⟩
  rw [hnl] at hm8
  by_cases h0 : n = 0
  · subst h0
    obtain ⟨q1, q2, q3⟩ := pickB_no hnl p
    rw [q1, q2, q3]
    clear h hm hm8 hnl q1 q2 q3
    go_enter Try.func19, Try.ntmps19
    go_wp2_with fail
    refine cr.mono ?_
    rintro e w1 ⟨A, c, rfl, hr⟩
    go_wp2_with fail
    go_ret2
    exact ⟨rfl, keep ⟨(H.out.fr hr.out.2).mono (Nat.le_succ K), .of_fr _ hr.out.2⟩⟩
  · have hpos : 0 < n := by omega
    have hlt : pickA t p < n := by have := pickA_lt (t := t) p (by omega); omega
    have hA : pickA t p = (p % (n : Int)).toNat := by rw [pickA, hnl]
    obtain ⟨k, hk⟩ : ∃ k, pickA t p = k := ⟨_, rfl⟩
    rw [hk] at hlt hA
    have hi : (runN t)[k]? = some ((runN t)[k]'(by omega)) := List.getElem?_eq_getElem _
    generalize (runN t)[k]'(by omega) = pk at hi
    obtain ⟨q1, q2, q3⟩ := pickB_yes (t := t) (p := p) (i := pk) (by rw [hk]; exact hi)
    rw [q1, q2, q3]
    have hit := runN_lt (List.mem_of_getElem? hi)
    have hi8 : pk < 8 := by have := h.ok.n; omega
    have Hi := keep hi
    have HN := keep hnl
    have hmo := h.ok.mo
    clear h hm hnl hi hit q1 q2 q3
    have key : ∀ v : Int, p.tmod n = v → Hid ((v < 0 → v + n = (k : Int)) ∧ (0 ≤ v → v = (k : Int)) ∧ -(n : Int) < v ∧ v < n) := fun v ev => keep (by
      rcases tmod_cases p n (by omega) with ⟨u, eu, hu1, hu2⟩ | ⟨u, eu, hu2⟩
      · rw [tmod_emod_lo ⟨hu1, hu2⟩ eu] at hA; omega
      · rw [tmod_emod_hi hu2 eu] at hA; omega)
    clear hA hk
    obtain ⟨v, hv⟩ : ∃ v, p.tmod n = v := ⟨_, rfl⟩
    obtain ⟨k1, k2, k3, k4⟩ := (key v hv).out
    clear key
    have hn0 : ((n : Int) == 0) = false := by simp; omega
    go_enter Try.func19, Try.ntmps19
    go_wp2_with fail
    refine cr.mono ?_
    rintro e w1 ⟨A, c, rfl, hr⟩
    obtain ⟨b, off, rfl, hb, hrr⟩ := hr.out.1.has k _ (ints_get (natI_get Hi.out))
    have HL : Hid (HasP w1 (fun b => ¬ DX r gs gw gp b) (some ⟨b, off, none⟩) (ints (runL t))) := keep (hr.out.1.hasP (fun b hb hx => by
      have := H.out.lt
      rcases hx with rfl | rfl | rfl | rfl <;> omega))
    clear hrr
    go_upto_if 20 with fail
    go_cut [7] from 19 to 24 (fun s7 W => s7 = .int .i64 (k : Int) ∧ W = w1)
    case first =>
      by_cases hneg : v < 0
      · have hk2 := k1 hneg
        clear k1 k2
        go_wp2_with fail
        go_meet
        exact ⟨rfl, rfl⟩
      · obtain rfl : v = (k : Int) := k2 (by omega)
        clear k1 k2
        go_wp2_with fail
        go_meet
        exact ⟨rfl, rfl⟩
    case rest =>
      obtain ⟨rfl, rfl⟩ := hcut
      clear k1 k2 k3 k4 hv
      have hkz : (k : Int) < (n : Int) := by omega
      go_wp2_with fail
      go_loopg [8] n (fun g' s8 wr => ∃ (j : Nat) (M : Int), j + g' = n ∧ s8 = .int .i64 j ∧ Hid (RPk wc wr r gs gw gp pk t ((runN t).take j) M))
      case atStart => exact ⟨0, t.mo, by omega, rfl, keep ⟨by rw [List.take_zero, dnW_nil, if_neg (by simp)]; exact H.out.db.fr hr.out.2, .refl _ _, ⟨Int.le_refl _, fun j hj => by simp at hj, .inl rfl⟩⟩⟩
      case round =>
        obtain ⟨j, M, hj, rfl, hW⟩ := hrel
        by_cases hltj : j < n
        · have hjz : (j : Int) < (n : Int) := by omega
          have hi : (runN t)[j]? = some ((runN t)[j]'(by rw [HN.out]; exact hltj)) := List.getElem?_eq_getElem _
          generalize (runN t)[j]'(by rw [HN.out]; exact hltj) = i at hi
          have hit := runN_lt (List.mem_of_getElem? hi)
          have hin := take_fresh (runN_nodup t) hi
          have hS := H.out.ok.toShT
          have hi8' : i < t.st.length := hit
          have hx : t.wa[i]? = some (t.wa[i]'(by rw [hS.wl]; exact hit)) := List.getElem?_eq_getElem _
          generalize t.wa[i]'(by rw [hS.wl]; exact hit) = x at hx
          have hxb := H.out.ok.wa x (List.mem_of_getElem? hx)
          have hx2 := dnW_get (s := (runN t).take j) (p := pk) hx
          rw [if_neg hin] at hx2
          obtain ⟨-, d1, -, -⟩ := hW.out.db.cells
          have c1 := arr_int_cell hW.out.db.wa hx2
          have f1 := hW.out.db.wa.free i
          obtain ⟨b', off', e', hb', hr'⟩ := HL.out j _ (ints_get (natI_get hi))
          obtain ⟨rfl, rfl⟩ : b' = b ∧ off' = off := by injection e' with e'; injection e' with e1 e2; exact ⟨e1.symm, e2.symm⟩
          have c2 : wr.cell? ⟨b', off' + j, none⟩ = some (.int .i64 (i : Int)) := (hW.out.chg.cell (World.block_lt_of_cell? _ _ hr') hb').trans hr'
          have HIi := keep hi
          have HX := keep hx
          generalize hns : t.st.length = N at *
          have HNS := keep hns
          have HIN := keep hin
          have HX2 := keep hx2
          clear e' hr' hi hx hx2 hS hit hns hin
          go_wp2_with fail
          go_region
          have hV : Hid (∀ V, V = (wr.setCell ⟨gw, i, none⟩ (.int .i64 (x + 1))).drew → DB V r gs gw gp N t.st ((dnW t.wa ((runN t).take j) pk).set i (x + 1)) (if pk ∈ (runN t).take j then moreL t.pk pk else t.pk) M ∧ Chg (DX r gs gw gp) wc V) := keep (by
            rintro V rfl
            have hb := hW.out.db
            rw [HNS.out] at hb
            exact ⟨hb.wa_put (arr_int_set (w := wr) hb.wa (x + 1)) (((Chg.refl (fun b => b = gw) wr).set (.inr rfl) _).drew), ((hW.out.chg).set (.inr (.inr (.inr (.inl rfl)))) _).drew⟩)
          generalize (wr.setCell ⟨gw, i, none⟩ (.int .i64 (x + 1))).drew = V1 at *
          replace hV := keep (hV.out V1 rfl)
          clear d1 c1 f1 c2
          have tok : Hid True := keep trivial
          go_upto_if 51 with fail
          go_cut [9] from 49 to 71 (fun s9 W => s9 = .int .i64 (i : Int) ∧ Hid (DB W r gs gw gp N t.st (dnW t.wa ((runN t).take j ++ [i]) pk) (if pk ∈ (runN t).take j ++ [i] then moreL t.pk pk else t.pk) M ∧ Chg (DX r gs gw gp) wc W))
          case first =>
            obtain ⟨-, d1, d2, -⟩ := hV.out.1.cells
            by_cases hjk : j = k
            · subst hjk
              obtain rfl : i = pk := by have := HIi.out; rw [Hi.out] at this; injection this with this; exact this.symm
              have hpl : t.pk[i]? = some (t.pk[i]'(by rw [H.out.ok.pl, HNS.out]; exact hi8')) := List.getElem?_eq_getElem _
              generalize t.pk[i]'(by rw [H.out.ok.pl, HNS.out]; exact hi8') = y at hpl
              have hyb := H.out.ok.pk y (List.mem_of_getElem? hpl)
              have hyw : IntKind.i64.wrap (y + 1) = y + 1 := by rw [IntKind.wrap_i64]; omega
              have hV1 := hV.out.1
              rw [if_neg HIN.out] at hV1
              have p1 : Hid (splice (ints ((dnW t.wa ((runN t).take j) i).set i (x + 1))) i [.int .i64 0] = ints (dnW t.wa ((runN t).take j ++ [i]) i)) := keep (by
                rw [ints_patch (by rw [List.length_set, dnW_len, H.out.ok.wl, HNS.out]; exact hi8'), List.set_set]
                have := dnW_step (p := i) HIN.out HX.out
                rw [if_pos rfl] at this
                rw [this])
              have hl1 : i + 1 ≤ (ints ((dnW t.wa ((runN t).take j) i).set i (x + 1))).length := by rw [ints_len, List.length_set, dnW_len, H.out.ok.wl, HNS.out]; exact hi8'
              have c3 := arr_int_cell hV1.pk hpl
              have f3 := hV1.pk.free i
              have HV1 := keep hV1
              have HPL := keep hpl
              clear hV1 hpl
              go_wp2_with (first
                | (refine wpList_store_chg (ds := [.int .i64 0]) int_info rfl (.tmp 57) (.const (.int .i64 0)) rfl gw i rfl rfl rfl (one_of _ rfl) HV1.out.wa hl1 p1.out ?_; intro V2 hA2 hK2
                   have hD2 := HV1.out.wa_put hA2 hK2
                   have HD2 := keep hD2
                   obtain ⟨-, -, e2, -⟩ := hD2.cells
                   have c4 := arr_int_cell hD2.pk HPL.out
                   have f4 := hD2.pk.free i
                   clear hD2)
                | fail)
              go_region
              all_goals
                go_wp2_with fail
                go_meet
                refine ⟨rfl, keep ⟨?_, ?_⟩⟩
                · rw [if_pos (by simp)]
                  have h := HD2.out.pk_put (W := (V2.setCell ⟨gp, i, none⟩ (.int .i64 (y + 1))).drew) (arr_int_set (w := V2) HD2.out.pk (y + 1)) (((Chg.refl (fun b => b = gp) V2).set (.inr rfl) _).drew)
                  rw [moreL, HPL.out]
                  exact h
                · exact ((hV.out.2.trans (hK2.weak fun b _ hx => .inr (.inr (.inl hx)))).set (.inr (.inr (.inr (.inr rfl)))) _).drew
            · have hjkz : ((j : Int) == (k : Int)) = false := by rw [beq_eq_false_iff_ne]; omega
              have hip : i ≠ pk := fun e => by
                subst e
                have h1 := HIi.out
                have h2 := Hi.out
                exact hjk ((List.getElem?_inj (by rw [HN.out]; exact hltj) (runN_nodup t)).1 (h1.trans h2.symm))
              have Hip := keep hip
              have Hjk := keep hjk
              clear hip hjk
              go_wp2_with fail
              go_meet
              refine ⟨rfl, keep ⟨?_, hV.out.2⟩⟩
              have hb := hV.out.1
              have := dnW_step (p := pk) HIN.out HX.out
              rw [if_neg Hip.out] at this
              rw [this] at hb
              simpa [Hip.out.symm] using hb
          case rest =>
            obtain ⟨rfl, hC⟩ := hcut
            obtain ⟨-, d1, -, d3⟩ := hC.out.1.cells
            have hx4 := dnW_get (s := (runN t).take j ++ [i]) (p := pk) HX.out
            rw [if_pos (by simp)] at hx4
            obtain ⟨v4, hv4⟩ : ∃ v4, (if i = pk then (0 : Int) else x + 1) = v4 := ⟨_, rfl⟩
            rw [hv4] at hx4
            have c5 := arr_int_cell hC.out.1.wa hx4
            have f5 := hC.out.1.box.free 3
            have HG := keep (gm_step hW.out.gm HIN.out HX.out hv4)
            have HT := keep (take_next HIi.out)
            clear hV hv4 hx4
            go_wp2_with fail
            go_region
            all_goals go_wp2_with fail
            all_goals
              go_roundg (gk - 1)
              case measure => omega
              case rel => exact ⟨j + 1, max M v4, by omega, rfl, keep ⟨by
                rw [HT.out, HNS.out]
                exact hC.out.1.mo_put (W := (wc.setCell ⟨r, 3, none⟩ (.int .i64 _)).drew) (box_put hC.out.1.box (by omega)) (((Chg.refl (fun b => b = r) wc).set (.inr rfl) _).drew), (hC.out.2.set (.inr (.inl rfl)) _).drew, by rw [HT.out]; exact HG.out⟩⟩
        · have hjn : j = n := by omega
          have hjz : ¬ (j : Int) < (n : Int) := by omega
          have ht : (runN t).take j = runN t := List.take_of_length_le (by rw [HN.out]; omega)
          rw [ht] at hW
          obtain ⟨b', off', e', hb', hr'⟩ := HL.out k _ (ints_get (natI_get Hi.out))
          obtain ⟨rfl, rfl⟩ : b' = b ∧ off' = off := by injection e' with e'; injection e' with e1 e2; exact ⟨e1.symm, e2.symm⟩
          have c2 : wr.cell? ⟨b', off' + k, none⟩ = some (.int .i64 (pk : Int)) := (hW.out.chg.cell (World.block_lt_of_cell? _ _ hr') hb').trans hr'
          clear e' hr' ht hjn hltj
          go_wp2_with fail
          go_ret2
          have hd := hW.out.done (List.mem_of_getElem? Hi.out) H.out.ok H.out.oks
          exact ⟨rfl, keep ⟨hd.1, (Chg.of_fr _ hr.out.2).trans hd.2⟩⟩
end Go.Proofs.Ytmfnekobepdhkaa
