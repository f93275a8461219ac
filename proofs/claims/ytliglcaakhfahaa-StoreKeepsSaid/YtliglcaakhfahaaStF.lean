/- The document's store: Alloc, Free, Read, Write, Used, Left. -/
import Derived.Test.YtliglcaakhfahaaStE
namespace Go.Proofs.Ytliglcaakhfahaa
set_option linter.unusedVariables false
set_option linter.unusedSimpArgs false
set_option maxRecDepth 100000
open Go.RowKit
section
variable {w W : World} {ok : Nat → Prop} {r gi gb j : Nat} {l : List Slot} {sl : List Value}
/-- What a store of the document's turns: its two blocks. -/
abbrev RX (gi gb : Nat) : Nat → Prop := fun i => i = gi ∨ i = gb
theorem map_set_same {l : List Slot} {k : Nat} {b : List Int} (h : l[k]? = some (true, b)) : l.map (fun x => Value.bool x.1) = (l.map fun x => Value.bool x.1).set k (.bool true) := by
  obtain ⟨hk, e⟩ := List.getElem?_eq_some_iff.1 h
  have : (l.map fun x => Value.bool x.1)[k]'(by simpa using hk) = .bool true := by simp [e]
  rw [← this, List.set_getElem_self]
theorem RS.put (h : RS w ok r gi gb l) (s2 : sl.length = l.length) (s3 : ∀ (k : Nat) (b : List Int), l[k]? = some (true, b) → ∃ (A : Option Addr) (c : Nat), sl[k]? = some (Value.slice A 256 c) ∧ HasP w (fun i => ok i ∧ i ≠ gi ∧ i ≠ gb) A (u8s b))
    (hj : j < l.length) {bs : List Int} (hb : bs.length = 256 ∧ Bytes bs) (k : Chg (RX gi gb) w W) (a1 : Arr W gi 4 ((l.map fun x => Value.bool x.1).set j (.bool true)).toArray) {A : Option Addr} {c : Nat} (a2 : Arr W gb 40 (sl.set j (.slice A 256 c)).toArray)
    (hA : HasP W (fun i => ok i ∧ i ≠ gi ∧ i ≠ gb) A (u8s bs)) : RS W ok r gi gb (l.set j (true, bs)) := by
  refine ⟨by rw [List.length_set]; exact h.box.chg k (fun e => by rcases e with e | e; exact h.ne.1 e; exact h.ne.2.1 e), by simpa [List.map_set] using a1, ⟨_, a2, by simpa using s2, fun t b ht => ?_⟩, h.ne, h.oks, by simpa using h.len, h.good.set j hb⟩
  by_cases e : j = t
  · subst e
    rw [List.getElem?_set_self hj] at ht
    injection ht with ht
    injection ht with _ ht
    exact ⟨A, c, List.getElem?_set_self (by omega), ht ▸ hA⟩
  · rw [List.getElem?_set_ne e] at ht
    obtain ⟨A', c', h1, h2⟩ := s3 t b ht
    exact ⟨A', c', by rw [List.getElem?_set_ne e]; exact h1, h2.chg k fun i hi x => by rcases x with x | x; exact hi.2.1 x; exact hi.2.2 x⟩
theorem RS.unput (h : RS w ok r gi gb l) {b : List Int} (hj : l[j]? = some (true, b)) (k : Chg (fun i => i = gi) w W) (a1 : Arr W gi 4 ((l.map fun x => Value.bool x.1).set j (.bool false)).toArray) : RS W ok r gi gb (l.set j (false, b)) := by
  obtain ⟨sl, s1, s2, s3⟩ := h.bs
  have hl := (List.getElem?_eq_some_iff.1 hj).1
  refine ⟨by rw [List.length_set]; exact h.box.chg k h.ne.1, by simpa [List.map_set] using a1, ⟨sl, s1.chg k (fun e => h.ne.2.2 e.symm), by simpa using s2, fun t b' ht => ?_⟩, h.ne, h.oks, by simpa using h.len, h.good.set j (h.good (true, b) (List.mem_of_getElem? hj))⟩
  by_cases e : j = t
  · subst e
    rw [List.getElem?_set_self hl] at ht
    injection ht with ht
    injection ht with ht _
    cases ht
  · rw [List.getElem?_set_ne e] at ht
    obtain ⟨A', c', h1, h2⟩ := s3 t b' ht
    exact ⟨A', c', h1, h2.chg k fun i hi x => hi.2.1 x⟩
end
set_option maxHeartbeats 2000000 in
theorem rfree_at {w : World} {ok : Nat → Prop} {r gi gb : Nat} {l : List Slot} {id : Int} (h : RS w ok r gi gb l) (hid : -9223372036854775808 ≤ id ∧ id ≤ 9223372036854775807) :
    Calls Try.prog 14 #[.pointer (some ⟨r, 0, none⟩), .int .i64 id] w fun e w' => e = .returned (.int .i64 (frE l id)) ∧ Hid (RS w' ok r gi gb (frL l id) ∧ Chg (RX gi gb) w w') := by
  have c := there_at h hid
  cases hb : atS l id with
  | none =>
    rw [hb, Option.isSome_none] at c
    have H := keep h
    have HB := keep hb
    clear h hb
    go_enter Try.func14, Try.ntmps14
    go_wp2_with fail
    refine c.mono ?_
    rintro e w' ⟨rfl, rfl⟩
    go_wp2_with fail
    go_ret
    exact ⟨by rw [frE, HB.out]; rfl, keep ⟨by rw [frL, HB.out]; exact H.out, .refl _ _⟩⟩
  | some b =>
    rw [hb, Option.isSome_some] at c
    obtain ⟨k, rfl, hl, hk⟩ := atS_some hb
    obtain ⟨c1, -⟩ := h.cells
    have h2 := h.len.2
    have hs : splice (l.map fun x => Value.bool x.1) k [.bool false] = (l.map fun x => Value.bool x.1).set k (.bool false) := splice_cell _ _ _ (by simpa using hl)
    have hf : k + 1 ≤ (l.map fun x => Value.bool x.1).length := by rw [List.length_map]; omega
    have HX := keep hk
    have HF := keep hs
    have H := keep h
    have HB := keep hb
    obtain ⟨n, hn⟩ : ∃ n, l.length = n := ⟨_, rfl⟩
    rw [hn] at c1 hl h2
    clear h hb hk hs hn
    go_enter Try.func14, Try.ntmps14
    go_wp2_with fail
    refine c.mono ?_
    rintro e w' ⟨rfl, rfl⟩
    go_wp2_with (first
      | (refine wpList_store_chg (ds := [.bool false]) bool_info rfl (.tmp 14) (.const (.bool false)) rfl gi k rfl rfl rfl (one_of _ rfl) H.out.is hf HF.out ?_; intro W hA hK)
      | fail)
    go_ret
    exact ⟨by rw [frE, HB.out]; rfl, keep ⟨by rw [frL, HB.out]; exact H.out.unput HX.out hK hA, hK.weak fun i hi x => .inl x⟩⟩
theorem u8_zero_make (w : World) : (Instr.makeSlice 40 (.int .i64 256) (.int .i64 256)).run Try.prog w = .ok (.slice (some ⟨w.heap.size, 0, none⟩) 256 256) (w.alloc (.cells (u8s z256).toArray 5)) := u8_make 256 (by decide) w
set_option maxHeartbeats 4000000 in
theorem ralloc_at {w : World} {ok : Nat → Prop} {r gi gb : Nat} {l : List Slot} (h : RS w ok r gi gb l) (hok : ∀ i, w.heap.size ≤ i → ok i) :
    Calls Try.prog 12 #[.pointer (some ⟨r, 0, none⟩)] w fun e w' => e = .returned (.tuple #[.int .i64 (alI l), .int .i64 (alE l)]) ∧ Hid (RS w' ok r gi gb (alL l) ∧ Chg (RX gi gb) w w') := by
  have H := keep h
  obtain ⟨c1, c1b⟩ := h.cells
  obtain ⟨h1, h2⟩ := h.len
  obtain ⟨lr, li, lb⟩ := h.lt
  obtain ⟨sl, s1, s2, s3⟩ := h.bs
  obtain ⟨n, hn⟩ : ∃ n, l.length = n := ⟨_, rfl⟩
  have HN := keep hn
  have S1 := keep s1
  have S2 := keep s2
  have S3 := keep s3
  have NE := keep h.ne
  rw [hn] at c1 c1b h1 h2
  clear h hn s1 s2 s3
  go_enter Try.func12, Try.ntmps12
  go_wp2_with fail
  go_loopg [4] n (fun g' s4 wr => ∃ j : Nat, j + g' = n ∧ s4 = .int .i64 j ∧ Hid (wr = w) ∧ Hid (∀ t, t < j → ∀ x, l[t]? = some x → x.1 = true))
  case atStart => exact ⟨0, by omega, rfl, keep rfl, keep (fun t h => by omega)⟩
  case round =>
    obtain ⟨j, hj, rfl, hW, hno⟩ := hrel
    obtain rfl : w = wr := hW.out.symm
    by_cases hlt : j < n
    · have hjz : (j : Int) < (n : Int) := by omega
      have hx : l[j]? = some (l[j]'(by rw [HN.out]; exact hlt)) := List.getElem?_eq_getElem _
      generalize l[j]'(by rw [HN.out]; exact hlt) = x at hx
      have c2 := H.out.used hx
      obtain ⟨u, b⟩ := x
      cases u
      · have HX := keep hx
        have hlj : j < l.length := by rw [HN.out]; exact hlt
        have hf : j + 1 ≤ (l.map fun x => Value.bool x.1).length := by rw [List.length_map]; omega
        have hs : splice (l.map fun x => Value.bool x.1) j [.bool true] = (l.map fun x => Value.bool x.1).set j (.bool true) := splice_cell _ _ _ (by simpa using hlj)
        have HF := keep hs
        have tok := keep hlj
        clear hx hs hlj
        go_wp2_with (first
          | (clear tok; refine wpList_store_chg (ds := [.bool true]) bool_info rfl (.tmp 27) (.const (.bool true)) rfl gi j rfl rfl rfl (one_of _ rfl) H.out.is hf HF.out ?_; intro W hA hK
             have z1 : W.cell? ⟨r, 1, none⟩ = some (.slice (some ⟨gb, 0, none⟩) n n) := (hK.cell lr NE.out.1).trans c1b)
          | fail)
        have aB := S1.out.chg hK (fun e => NE.out.2.2 e.symm)
        have hz := u8_zero_make
        have hzh : ∀ W : World, HasP (W.alloc (.cells (u8s z256).toArray 5)) (fun i => W.heap.size ≤ i) (some ⟨W.heap.size, 0, none⟩) (u8s z256) := fun W j u hu => ⟨_, 0, rfl, Nat.le_refl _, by rw [(Arr.new W _ _).cell]; simpa using hu⟩
        generalize hzc : u8s z256 = zc at *
        have Hzc := keep hzc
        have Hzh := keep hzh
        clear hzc hzh
        have hlb : gb < W.heap.size := aB.lt
        have hsj : j < sl.length := by rw [S2.out, HN.out]; exact hlt
        have z2 : W.cell? ⟨gb, j, none⟩ = some (sl[j]'hsj) := by rw [aB.cell]; simp
        generalize sl[j]'hsj = old at z2
        have z3 := aB.free j
        have lrW : r < W.heap.size := Nat.lt_of_lt_of_le lr hK.size
        have z4 : ∀ o, (W.alloc o).cell? ⟨r, 1, none⟩ = some (.slice (some ⟨gb, 0, none⟩) n n) := fun o => ((fr_new (fr_refl W) o).cell lrW).trans z1
        have z5 : ∀ o, (W.alloc o).cell? ⟨gb, j, none⟩ = some old := fun o => ((fr_new (fr_refl W) o).cell hlb).trans z2
        have z6 : ∀ o, (W.alloc o).frozen? ⟨gb, j, none⟩ = false := fun o => ((fr_new (fr_refl W) o).frozen (p := ⟨gb, j, none⟩) hlb).trans z3
        have HsJ := keep hsj
        clear hsj
        go_region
        all_goals
          go_wp2_with fail
        all_goals
          go_ret2
          have hf : frS l = j := frS_at (fun t ht => hno.out t ht) HX.out
          have hlj : j < l.length := by rw [HN.out]; exact hlt
          refine ⟨by simp [alI, alE, hf, HN.out, hlt], ?_⟩
          rw [alL, hf]
          obtain ⟨V, hV⟩ : ∃ V, V = W.setCell ⟨gb, j, none⟩ (Value.slice (some ⟨W.heap.size, 0, none⟩) 256 256) := ⟨_, rfl⟩
          have k1 : Chg (RX gi gb) w V := by rw [hV]; exact (hK.weak fun i hi x => .inl x).set (.inr (.inr rfl)) _
          have a1 : Arr V gi 4 ((l.map fun x => Value.bool x.1).set j (.bool true)).toArray := by rw [hV]; exact hA.other _ (fun e => NE.out.2.2 e.symm) _
          have a2 : Arr V gb 40 (sl.set j (.slice (some ⟨W.heap.size, 0, none⟩) 256 256)).toArray := by rw [hV]; simpa using aB.set j _
          have hs : W.heap.size = V.heap.size := by rw [hV]; simp
          rw [← hV]
          rw [hs] at a2
          have hq := (Hzh.out V).weak (ok' := fun i => ok i ∧ i ≠ gi ∧ i ≠ gb) fun i _ hi => ⟨hok i (Nat.le_trans k1.size hi), fun e => by have := a1.lt; omega, fun e => by have := a2.lt; omega⟩
          rw [← Hzc.out] at hq
          have k2 : Chg (RX gi gb) w ((V.alloc (.cells zc.toArray 5)).drew) := (k1.alloc _).drew
          rw [← Hzc.out] at k2 ⊢
          exact keep ⟨H.out.put S2.out S3.out hlj z256_ok k2 (a1.alloc _) (a2.alloc _) hq, k2⟩
      · have HX := keep hx
        clear hx
        go_wp2_with fail
        go_roundg (gk - 1)
        case measure => omega
        case rel => exact ⟨j + 1, by omega, rfl, keep rfl, keep (fun t ht y hy => by
          rcases Nat.lt_or_ge t j with h | h
          · exact hno.out t h y hy
          · obtain rfl : t = j := by omega
            rw [HX.out] at hy; injection hy with hy; rw [← hy])⟩
    · have hjn : j = n := by omega
      have hjz : ¬ (j : Int) < (n : Int) := by omega
      have Hj := keep hjn
      clear hjn hlt
      go_wp2_with fail
      go_ret2
      have hf : frS l = l.length := frS_end fun t ht => hno.out t (by rw [Hj.out, ← HN.out]; exact ht)
      refine ⟨by simp [alI, alE, hf], keep ⟨?_, .refl _ _⟩⟩
      rw [alL, hf, List.set_eq_of_length_le (Nat.le_refl _)]
      exact H.out
set_option maxHeartbeats 2000000 in
theorem rread_at {w : World} {ok : Nat → Prop} {r gi gb : Nat} {l : List Slot} {id : Int} (h : RS w ok r gi gb l) (hid : -9223372036854775808 ≤ id ∧ id ≤ 9223372036854775807) :
    Calls Try.prog 19 #[.pointer (some ⟨r, 0, none⟩), .int .i64 id] w fun e w' => ∃ A n c, e = .returned (.tuple #[.slice A n c, .int .i64 (rdE l id)]) ∧ Hid ((rdB l id).length = n ∧ HasP w' (fun b => w.heap.size ≤ b) A (u8s (rdB l id)) ∧ Fr w w') := by
  have c := there_at h hid
  cases hb : atS l id with
  | none =>
    rw [hb, Option.isSome_none] at c
    have HB := keep hb
    clear h hb
    go_enter Try.func19, Try.ntmps19
    go_wp2_with fail
    refine c.mono ?_
    rintro e w' ⟨rfl, rfl⟩
    go_wp2_with fail
    go_ret2
    exact ⟨none, 0, 0, by rw [rdE, HB.out]; rfl, keep ⟨by rw [rdB, HB.out]; rfl, by rw [rdB, HB.out]; exact HasP.nil, fr_refl _⟩⟩
  | some b =>
    rw [hb, Option.isSome_some] at c
    obtain ⟨k, rfl, hl, hk⟩ := atS_some hb
    obtain ⟨-, c1⟩ := h.cells
    obtain ⟨sl, s1, s2, s3⟩ := h.bs
    obtain ⟨A, cap, e1, hA⟩ := s3 k b hk
    obtain ⟨lr, -, lb⟩ := h.lt
    have h2 := h.len.2
    have hbl : b.length = 256 := (h.good _ (List.mem_of_getElem? hk)).1
    have z2 : ∀ o, (w.alloc o).cell? ⟨gb, k, none⟩ = some (.slice A 256 cap) := fun o => by
      rw [((fr_new (fr_refl w) o).cell (p := ⟨gb, k, none⟩) lb), s1.cell]; simpa using e1
    have z1 : ∀ o, (w.alloc o).cell? ⟨r, 1, none⟩ = some (.slice (some ⟨gb, 0, none⟩) l.length l.length) := fun o => ((fr_new (fr_refl w) o).cell lr).trans c1
    obtain ⟨n, hn⟩ : ∃ n, l.length = n := ⟨_, rfl⟩
    rw [hn] at z1 hl h2
    have HA := keep hA
    have HB := keep hb
    have HL := keep hbl
    have ww := fr_refl w
    clear h hb hk hn s1 s2 s3 e1 hA c1 hbl
    go_enter Try.func19, Try.ntmps19
    go_wp2_with fail
    refine c.mono ?_
    rintro e w' ⟨rfl, rfl⟩
    go_wp2_with (first
      | (refine wpList_append_vals (w0 := w) u8_elem Try.underlying40 (by decide) rfl (.tmp 10) (.tmp 17) rfl (fr_new ww _) (some ⟨w.heap.size, 0, none⟩) 0 0 [] rfl (Own.lit w w.heap.size 5 #[] 0 1 (Nat.le_refl _) (Nat.zero_le _) rfl) w.heap.size A 256 cap (u8s b) rfl (by rw [u8s_len, HL.out]) (HA.out.has.fr (Nat.le_refl _) (fr_new ww _)) (u8s_one b) (by decide) (by decide) ?_; intro A2 c2 w2 o2 f2)
      | fail)
    go_ret2
    exact ⟨A2, 256, c2, by rw [rdE, HB.out]; rfl, keep ⟨by rw [rdB, HB.out]; exact HL.out, by rw [rdB, HB.out]; exact o2.hasP fun _ h => h, f2⟩⟩
set_option maxHeartbeats 2000000 in
theorem rwrite_at {w : World} {ok : Nat → Prop} {r gi gb n c B : Nat} {l : List Slot} {id : Int} {A : Option Addr} {bs : List Int} (h : RS w ok r gi gb l) (hok : ∀ i, w.heap.size ≤ i → ok i) (hid : -9223372036854775808 ≤ id ∧ id ≤ 9223372036854775807) (hA : Has w B A (u8s bs)) (hB : B ≤ w.heap.size) (hn : bs.length = n) (hm : n ≤ 1000000) (hby : Bytes bs) :
    Calls Try.prog 17 #[.pointer (some ⟨r, 0, none⟩), .int .i64 id, .slice A n c] w fun e w' => e = .returned (.int .i64 (wrE l id n)) ∧ Hid (RS w' ok r gi gb (wrL l id bs) ∧ Chg (RX gi gb) w w') := by
  have cc := there_at h hid
  cases hb : atS l id with
  | none =>
    rw [hb, Option.isSome_none] at cc
    have H := keep h
    have HB := keep hb
    clear h hb hn
    go_enter Try.func17, Try.ntmps17
    go_wp2_with fail
    refine cc.mono ?_
    rintro e w' ⟨rfl, rfl⟩
    go_wp2_with fail
    go_ret
    exact ⟨by rw [wrE, HB.out]; rfl, keep ⟨by rw [wrL, HB.out, if_neg (fun h => by cases h.1)]; exact H.out, .refl _ _⟩⟩
  | some b =>
    rw [hb, Option.isSome_some] at cc
    by_cases h256 : n = 256
    · subst h256
      obtain ⟨k, rfl, hl, hk⟩ := atS_some hb
      obtain ⟨-, c1⟩ := h.cells
      obtain ⟨sl, s1, s2, s3⟩ := h.bs
      obtain ⟨Ao, cap, e1, -⟩ := s3 k b hk
      obtain ⟨lr, li, lb⟩ := h.lt
      have h2 := h.len.2
      have z1 : ∀ W, Fr w W → W.cell? ⟨r, 1, none⟩ = some (.slice (some ⟨gb, 0, none⟩) l.length l.length) := fun W f => (f.cell lr).trans c1
      have z2 : ∀ W, Fr w W → W.cell? ⟨gb, k, none⟩ = some (.slice Ao 256 cap) := fun W f => by
        rw [f.cell (p := ⟨gb, k, none⟩) lb, s1.cell]; simpa using e1
      have z3 : ∀ W, Fr w W → W.frozen? ⟨gb, k, none⟩ = false := fun W f => by
        rw [f.frozen (p := ⟨gb, k, none⟩) lb]; exact s1.free k
      have HL := keep hl
      obtain ⟨m, hm'⟩ : ∃ m, l.length = m := ⟨_, rfl⟩
      rw [hm'] at z1 hl h2
      have ww := fr_refl w
      have wd := fr_drew ww
      have wn := fun o => fr_new ww o
      have HA := keep hA
      have HN := keep hn
      have H := keep h
      have HB := keep hb
      have S1 := keep s1
      have S2 := keep s2
      have S3 := keep s3
      clear h hb hk hm' s1 s2 s3 e1 hA c1 hn
      go_enter Try.func17, Try.ntmps17
      go_wp2_with fail
      refine cc.mono ?_
      rintro e w' ⟨rfl, rfl⟩
      go_wp2_with fail
      go_region_law (first | (refine step_append_vals (w0 := w) u8_elem Try.underlying40 (by decide) (wanted_plain rfl _) (.tmp 19) (.tmp 20) rfl (by first | exact fr_drew (fr_new ww _) | exact fr_new ww _) (some ⟨w.heap.size, 0, none⟩) 0 0 [] rfl (by exact Own.lit w w.heap.size 5 #[] 0 1 (Nat.le_refl _) (Nat.zero_le _) rfl) B A 256 c (u8s bs) rfl (by rw [u8s_len, HN.out]) (by first | exact HA.out.fr hB (fr_drew (fr_new ww _)) | exact HA.out.fr hB (fr_new ww _)) (u8s_one bs) (by decide) (by decide) ?_; intro A2 c2 w2 o2 f2))
      all_goals
        go_wp2_with fail
        go_ret
        refine ⟨by rw [wrE, HB.out]; rfl, ?_⟩
        rw [wrL, HB.out, if_pos ⟨rfl, HN.out⟩, Int.toNat_natCast]
        have b2 := S1.out.below f2 S1.out.lt
        obtain ⟨V, hV⟩ : ∃ V, V = w2.setCell ⟨gb, k, none⟩ (Value.slice A2 256 c2) := ⟨_, rfl⟩
        have k0 : Chg (fun i => i = gb) w2 V := by rw [hV]; exact (Chg.refl (fun i => i = gb) w2).set (.inr rfl) _
        have k1 : Chg (RX gi gb) w V := (Chg.of_fr (RX gi gb) f2).trans (k0.weak fun i hi x => .inr x)
        have a1 : Arr V gi 4 ((l.map fun x => Value.bool x.1).set k (.bool true)).toArray := by
          have e : (l.map fun x => Value.bool x.1).set k (.bool true) = l.map fun x => Value.bool x.1 := by
            obtain ⟨k', e1, -, e2⟩ := atS_some HB.out
            obtain rfl : k' = k := by omega
            rw [← map_set_same e2]
          rw [e]
          exact (H.out.is.below f2 li).chg k0 H.out.ne.2.2
        have a2 : Arr V gb 40 (sl.set k (.slice A2 256 c2)).toArray := by rw [hV]; simpa using b2.set k _
        have hq : HasP V (fun i => ok i ∧ i ≠ gi ∧ i ≠ gb) A2 (u8s bs) := ((o2.hasP (ok := fun i => w.heap.size ≤ i) fun _ h => h).chg k0 fun i hi x => by omega).weak fun i _ hi => ⟨hok i hi, by omega, by omega⟩
        rw [← hV]
        exact keep ⟨H.out.put S2.out S3.out HL.out ⟨HN.out, hby⟩ k1 a1 a2 hq, k1⟩
    · have hne : ((n : Int) != 256) = true := by rw [bne_iff_ne]; omega
      have H := keep h
      have HB := keep hb
      have HN := keep hn
      have H2 := keep h256
      clear h hb hn h256
      go_enter Try.func17, Try.ntmps17
      go_wp2_with fail
      refine cc.mono ?_
      rintro e w' ⟨rfl, rfl⟩
      go_wp2_with fail
      go_ret
      exact ⟨ret_int (by simp [wrE, HB.out, H2.out]), keep ⟨by rw [wrL, HB.out, if_neg (fun h => H2.out (HN.out ▸ h.2))]; exact H.out, .refl _ _⟩⟩
end Go.Proofs.Ytliglcaakhfahaa
