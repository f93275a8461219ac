/- The program's cache with nodes in it: Fill. -/
import Derived.Test.YtmoaddbpfekdbaaGreatM33
import Derived.Test.YtmoaddbpfekdbaaGreatM16
import Derived.Test.YtmoaddbpfekdbaaGreatM34
import Derived.Test.YtmoaddbpfekdbaaGreatM25
namespace Go.Proofs.YtmoaddbpfekdbaaGreat
set_option linter.unusedVariables false
set_option linter.unusedSimpArgs false
set_option linter.unusedSectionVars false
set_option maxRecDepth 100000
open Go.RowKit
attribute [local go_sem ↓] want_ld pfr_ld node16_ld
theorem fill_one (f : Fra NX) (h : f.st = 1) : splice (pc f) 0 [.int .i64 2] = pc { f with st := 2 } := by
  have e : tk f = tk { f with st := 2 } := by unfold tk; rw [h]; rfl
  unfold splice pc
  rw [e]
  rfl
theorem fill_find {l : List (Fra NX)} {i : Nat} {f : Fra NX} {v : NX} (hf : l[i]? = some f) (h : f.st = 1) (c : Int) : findB (l.set i { f with st := 2, node := v }) c = findB l c := find_set_other hf (by unfold isB; rw [h]; rfl)
theorem fill_two {w W1 W2 : World} {g K a off i : Nat} {h : PH} {t : Ca NX} {f f1 : Fra NX} {v : NX} (k : PC w g h K t) (hA : h.A = some ⟨a, off, none⟩) (hf : t.fs[i]? = some f) (h1 : Chg (· = a) w W1) (h2 : Chg (· = a) W1 W2) (hr : Rw W2 52 14 (some ⟨a, off, none⟩) h.n h.c (rows pc ((t.fs.set i f1).set i { f with st := 2, node := v }))) (hst : f.st = 1) :
    PC W2 g h K { t with fs := t.fs.modify i fun f => { f with st := 2, node := v } } ∧ Chg (At h.A) w W2 := by
  rw [List.set_set] at hr
  have hch : Chg (At h.A) w W2 := (h1.trans h2).weak fun j _ hj => by rw [hA]; exact congrArg some hj.symm
  rw [modify_set hf]
  exact ⟨k.frames (by rw [hA]; exact hr) hch fun c => fill_find hf hst c, hch⟩
def waitL (l : List (Int × Int)) (x : Int) : List Int := (l.filter fun p => p.2 == x).map (·.1)
def restL (l : List (Int × Int)) (x : Int) : List (Int × Int) := l.filter fun p => !(p.2 == x)
theorem wait_in {l : List (Int × Int)} {x : Int} {j : Nat} {m : Int × Int} (hm : l[j]? = some m) (hq : m.2 = x) : waitL (l.take (j + 1)) x = waitL (l.take j) x ++ [m.1] ∧ restL (l.take (j + 1)) x = restL (l.take j) x := by
  obtain ⟨hj, e⟩ := List.getElem?_eq_some_iff.1 hm
  rw [List.take_succ_eq_append_getElem hj, e]
  unfold waitL restL
  rw [List.filter_append, List.filter_append, List.map_append]
  simp [hq]
theorem wait_out {l : List (Int × Int)} {x : Int} {j : Nat} {m : Int × Int} (hm : l[j]? = some m) (hq : ¬ m.2 = x) : waitL (l.take (j + 1)) x = waitL (l.take j) x ∧ restL (l.take (j + 1)) x = restL (l.take j) x ++ [m] := by
  obtain ⟨hj, e⟩ := List.getElem?_eq_some_iff.1 hm
  rw [List.take_succ_eq_append_getElem hj, e]
  unfold waitL restL
  rw [List.filter_append, List.filter_append, List.map_append]
  simp [hq]
/-- A row of those who want that a call made. -/
structure ResW (w W : World) (O : Option Addr) (n c : Nat) (l : List (Int × Int)) : Prop where
  row : Rw W 93 2 O n c (rows sc l)
  len : l.length = n
  new : ∀ k, At O k → w.heap.size ≤ k
theorem pfill_no {w : World} {g K : Nat} {h : PH} {t : Ca NX} (x : Int) (v : NX) (hx : W64 x) (k : PC w g h K t) (p : PI t) (hr : loadI t x = none) :
    Calls Tryz.prog 17 #[.pointer (some ⟨g, 0, none⟩), .int .i64 x, nv v.v] w fun e w' => e = .returned (.tuple #[.slice none 0 0, .bool false]) ∧ Fr w w' := by
  obtain ⟨Z, hZ, hF, hZZ, hX, hS⟩ := node16_box w v
  change w.alloc (.cells v.v.cells.toArray 41) = Z at hZ
  have CR := keep (pfind_load_no x hx (k.fr hF) p hr)
  have HF0 := keep hF
  clear k hr hF hX
  unfold nv
  go_enter Tryz.func17, Tryz.ntmps17
  go_wp2_with (first
    | (go_at_call 43; (with_reducible refine CR.out.mono ?_); rintro e w2 ⟨rfl, rfl⟩)
    | fail)
  go_ret2
  exact ⟨rfl, HF0.out⟩
set_option maxHeartbeats 16000000 in
theorem pfill_yes {w : World} {g K i : Nat} {h : PH} {t : Ca NX} {ok : Nat → Prop} (x : Int) (v : NX) (hx : W64 x) (k : PC w g h K t) (p : PI t) (hl2 : t.loads.length ≤ 100000) (hv : NP w ok v.v v.n) (hr : loadI t x = some i) :
    Calls Tryz.prog 17 #[.pointer (some ⟨g, 0, none⟩), .int .i64 x, nv v.v] w fun e w' => ∃ (v' : NX) (O : Option Addr) (n c : Nat), v'.n = v.n ∧ e = .returned (.tuple #[.slice O n c, .bool true]) ∧ Hid (ResI w w' O n c (waitL t.loads x) ∧ PTurnV w w' (PHX g h) g K { t with fs := t.fs.modify i fun f => { f with st := 2, node := v' }, loads := restL t.loads x } true v') := by
  obtain ⟨A, n, c, mm, B, bn, bc, L, ln, lc⟩ := h
  obtain ⟨Z, hZ, hF, hZZ, hX, hS⟩ := node16_box w v
  change w.alloc (.cells v.v.cells.toArray 41) = Z at hZ
  have kZ := k.fr hF
  have HK := keep kZ
  have HF0 := keep hF
  obtain ⟨hfb, f, hfi, hst, -⟩ := load_find p hr
  obtain ⟨b, off, hA, hb1, hc, -⟩ := pframe_cells kZ.fs.has (Nat.le_refl _) hfi
  have CR := keep (pfind_yes x 1 hx kZ hfb hfi (by omega) hA)
  have lN := node16_ty.ld (w := Z) (NVal.len v) hX
  change (ldS 41 _).run Tryz.prog Z = .ok (.agg v.v.cells.toArray) Z at lN
  have HV := keep (hv.fr hF)
  have hR := kZ.fs
  rw [hA] at hR
  have HR := keep hR
  have HF := keep hfi
  have HA := keep hA
  have HST := keep hst
  have HW := keep k.lt
  have Hn := keep (show t.loads.length = ln from k.nlen.2.2)
  have hln : ln ≤ 100000 := by have := k.nlen.2.2; simp only at this; omega
  clear k hr hR hA hfi hc hb1 hst hX hF kZ hv hfb p hl2
  unfold nv
  go_enter Tryz.func17, Tryz.ntmps17
  go_wp2_with (first
    | (go_at_call 43; (with_reducible refine CR.out.mono ?_); rintro e w2 ⟨rfl, rfl⟩)
    | (go_at_call 44; (with_reducible refine (own_agg HV.out).mono ?_); rintro e W1 ⟨v1, rfl, H1, f1⟩; have HF1 := keep f1; have HO1 := keep (HR.out.fr f1); clear f1)
    | (refine wpList_store_frp (cf := pc) (l := t.fs) (j := i) (x := f) (y := { f with st := 2 }) (tt := 0) (ds := [.int .i64 2]) int_info16 rfl (.tmp 28) (.const (.int .i64 2)) rfl rfl rfl rfl (.cons rfl .nil) HO1.out (pc_wid _) HF.out (by simp) (fill_one f HST.out) ?_; intro W2 h1 h2; have H2 := keep (show Rw W2 _ _ _ _ _ _ ∧ Chg _ W1 W2 from ⟨h1, h2⟩); clear h1 h2)
    | (refine wpList_store_frp (cf := pc) (l := t.fs.set i { f with st := 2 }) (j := i) (x := { f with st := 2 }) (y := { f with st := 2, node := (⟨v1, v.n⟩ : NX) }) (tt := 5) (ds := v1.cells) node16_info rfl (.tmp 31) (.tmp 25) rfl rfl rfl rfl (nv_onex v1) H2.out.1 (pc_wid _) (List.getElem?_set_self (List.getElem?_eq_some_iff.1 HF.out).1) (by show 5 + 5 ≤ 14; decide) (pc_put_node { f with st := 2 } (⟨v1, v.n⟩ : NX)) ?_; intro W3 h1 h2; have H3 := keep (show Rw W3 _ _ _ _ _ _ ∧ Chg _ W2 W3 from ⟨h1, h2⟩); have K3 := keep (fill_two (HK.out.fr HF1.out) HA.out HF.out H2.out.2 h2 h1 HST.out); have c3 : W3.cell? ⟨g, 3, none⟩ = some (.slice L ln lc) := K3.out.1.cells.2.2.2.1; clear h1 h2)
    | fail)
  go_loopg [10, 11, 37] ln (fun gg s1 s2 s3 wr => ∃ (j ja jb ba bb : Nat) (O P : Option Addr), j + gg = ln ∧ s1 = .slice O ja ba ∧ s2 = .slice P jb bb ∧ s3 = .int .i64 j ∧ ja ≤ j ∧ jb ≤ j ∧ Hid (ResI W3 wr O ja ba (waitL (t.loads.take j) x) ∧ ResW W3 wr P jb bb (restL (t.loads.take j) x) ∧ Fr W3 wr))
  case atStart => exact ⟨0, 0, 0, 0, 0, none, none, by omega, rfl, rfl, rfl, Nat.le_refl _, Nat.le_refl _, keep ⟨⟨Rw.nil _ _ _, rfl, fun k hk => by cases hk⟩, ⟨Rw.nil _ _ _, rfl, fun k hk => by cases hk⟩, fr_refl _⟩⟩
  case round =>
    obtain ⟨j, ja, jb, ba, bb, O, P, hj, rfl, rfl, rfl, hja, hjb, HI⟩ := hrel
    by_cases hlt : j < ln
    · have hm : t.loads[j]? = some (t.loads[j]'(by rw [Hn.out]; exact hlt)) := List.getElem?_eq_getElem _
      generalize t.loads[j]'(by rw [Hn.out]; exact hlt) = m at hm
      have hRL := K3.out.1.ld.fr HI.out.2.2
      obtain ⟨g', off', rfl, hb1, hr⟩ := has_rows hRL.has (sc_wid _) (by decide) (by show t.loads ≠ []; intro e; rw [e] at hm; simp at hm)
      have lX := elem_ld want_ty hr (sc_wid _) hb1 (show t.loads[j]? = some m from hm)
      have Hm := keep hm
      have hjz : (j : Int) < (ln : Int) := by omega
      have wj : IntKind.i64.wrap ((j : Int) + 1) = (j : Int) + 1 := by rw [IntKind.wrap_i64]; omega
      have hrr := fr_refl wr
      clear hm hlt hr hb1 hRL
      by_cases hq : m.2 = x
      · have hqz : (m.2 == x) = true := by simpa using hq
        have HL := keep (wait_in Hm.out hq)
        clear hq
        go_wp2_with (first
          | (refine wpList_store_at (ds := sc m) want_info rfl (.tmp 13) (.tmp 40) rfl wr.heap.size 0 rfl rfl rfl (sc_one _) (zsc_new wr) (Nat.le_refl 2) (splice_all _ _ (Nat.le_refl 2)) ?_; intro W5 hM5 hk5; have hF5 := keep (hk5.fr (fr_new hrr _) (Nat.le_refl _)); clear hk5; have d0 := hM5.cell 0; have d1 := hM5.cell 1; simp only [List.getElem?_toArray, sc, List.getElem?_cons_zero, List.getElem?_cons_succ] at d0 d1; have lB := want_ty.ld (w := W5) (cs := sc m) rfl hM5; unfold sc at lB; have HO := keep (HI.out.1.row.fr (fr_new hF5.out (.cells #[.int .i64 m.1] 3))); have HP := keep (HI.out.2.1.row.fr (fr_new hF5.out (.cells (sc m).toArray 93))); clear hM5)
          | (refine wpList_append_rw int_elem ints_under (by decide) rfl (.tmp 45) (.tmp 48) rfl O ja ba _ rfl HO.out (W5.heap.size + 1) (some ⟨W5.heap.size, 0, none⟩) 1 1 [.int .i64 m.1] rfl rfl (has_new W5 [.int .i64 m.1] 3) (.cons rfl .nil) (by simp only [maxLen]; omega) (by omega) ?_; intro O' b' w3 h3 p3; have H3x := keep (show Rw w3 _ _ _ _ _ _ ∧ Put _ w3 _ _ from ⟨h3, p3⟩); clear h3 p3)
          | fail)
        go_roundg (gk - 1)
        case measure => omega
        case rel =>
          obtain ⟨h3, p3⟩ := H3x.out
          have hq := fr_new hF5.out (.cells #[.int .i64 m.1] 3)
          have hsz := HI.out.2.2.size
          have hs5 := hF5.out.size
          refine ⟨j + 1, ja + 1, jb, b', bb, O', P, by omega, rfl, rfl, rfl, by omega, by omega, keep ⟨⟨?_, ?_, fun i hi => ?_⟩, ⟨?_, ?_, HI.out.2.1.new⟩, ?_⟩⟩
          · rw [HL.out.1, rows_append, rows_single]; exact h3
          · rw [HL.out.1, List.length_append, HI.out.1.len]; rfl
          · rcases p3.blk i hi with e | e
            · exact HI.out.1.new i e
            · simp at e
              omega
          · rw [HL.out.2]
            exact (HI.out.2.1.row.fr hq).chg p3.chg fun c hc ho => by
              obtain ⟨cs, h8⟩ := HI.out.1.row.arrT ho
              obtain ⟨cs2, h9⟩ := HI.out.2.1.row.arrT hc
              exact absurd (h8.ty h9) (by decide)
          · rw [HL.out.2]; exact HI.out.2.1.len
          · exact (fr_step HI.out.2.2 hq).step_chg p3.chg HI.out.1.new
      · have hqz : (m.2 == x) = false := by simpa using hq
        have HL := keep (wait_out Hm.out hq)
        clear hq
        go_wp2_with (first
          | (refine wpList_store_at (ds := sc m) want_info rfl (.tmp 13) (.tmp 40) rfl wr.heap.size 0 rfl rfl rfl (sc_one _) (zsc_new wr) (Nat.le_refl 2) (splice_all _ _ (Nat.le_refl 2)) ?_; intro W5 hM5 hk5; have hF5 := keep (hk5.fr (fr_new hrr _) (Nat.le_refl _)); clear hk5; have d0 := hM5.cell 0; have d1 := hM5.cell 1; simp only [List.getElem?_toArray, sc, List.getElem?_cons_zero, List.getElem?_cons_succ] at d0 d1; have lB := want_ty.ld (w := W5) (cs := sc m) rfl hM5; unfold sc at lB; have HO := keep (HI.out.1.row.fr (fr_new hF5.out (.cells #[.int .i64 m.1] 3))); have HP := keep (HI.out.2.1.row.fr (fr_new hF5.out (.cells (sc m).toArray 93))); clear hM5)
          | (refine wpList_append_rw want_elem wants_und (by decide) rfl (.tmp 50) (.tmp 52) rfl P jb bb _ rfl HP.out (W5.heap.size + 1) (some ⟨W5.heap.size, 0, none⟩) 1 1 (sc m) rfl rfl (has_new W5 (sc m) 93) (sc_one _) (by simp only [maxLen]; omega) (by omega) ?_; intro O' b' w3 h3 p3; have H3x := keep (show Rw w3 _ _ _ _ _ _ ∧ Put _ w3 _ _ from ⟨h3, p3⟩); clear h3 p3)
          | fail)
        go_roundg (gk - 1)
        case measure => omega
        case rel =>
          obtain ⟨h3, p3⟩ := H3x.out
          have hq := fr_new hF5.out (.cells (sc m).toArray 93)
          have hsz := HI.out.2.2.size
          have hs5 := hF5.out.size
          refine ⟨j + 1, ja, jb + 1, ba, b', O, O', by omega, rfl, rfl, rfl, by omega, by omega, keep ⟨⟨?_, ?_, HI.out.1.new⟩, ⟨?_, ?_, fun i hi => ?_⟩, ?_⟩⟩
          · rw [HL.out.1]
            exact (HI.out.1.row.fr hq).chg p3.chg fun c hc ho => by
              obtain ⟨cs, h8⟩ := HI.out.2.1.row.arrT ho
              obtain ⟨cs2, h9⟩ := HI.out.1.row.arrT hc
              exact absurd (h8.ty h9) (by decide)
          · rw [HL.out.1]; exact HI.out.1.len
          · rw [HL.out.2, rows_append, rows_single]; exact h3
          · rw [HL.out.2, List.length_append, HI.out.2.1.len]; rfl
          · rcases p3.blk i hi with e | e
            · exact HI.out.2.1.new i e
            · simp at e
              omega
          · exact (fr_step HI.out.2.2 hq).step_chg p3.chg HI.out.2.1.new
    · have hjn : j = ln := by omega
      have hjz : ¬ (j : Int) < (ln : Int) := by omega
      subst hjn
      have E9 := keep (show t.loads.take j = t.loads by rw [← Hn.out, List.take_length])
      have HBX := keep (K3.out.1.fr HI.out.2.2).box
      clear hlt
      go_wp2_with (first
        | (refine wpList_store_chg wants_info rfl (.tmp 58) (.tmp 56) rfl g 3 rfl (ds := [.slice P jb bb]) rfl rfl (.cons rfl .nil) HBX.out (by simp [PH.cells]) (cs' := PH.cells ⟨A, n, c, mm, B, bn, bc, P, jb, bb⟩ t.hand) rfl ?_; intro W6 h1 h2; have H6 := keep (And.intro h1 h2); clear h1 h2)
        | fail)
      go_ret2
      refine ⟨⟨v1, v.n⟩, rfl, O, ja, ba, rfl, keep ?_⟩
      have hI := HI.out
      rw [E9.out] at hI
      obtain ⟨hO, hP, hFr⟩ := hI
      obtain ⟨h6, c6⟩ := H6.out
      have hs0 := HF0.out.size
      have hs1 := HF1.out.size
      have hs3 := K3.out.2.size
      have hg := HW.out g (.inl rfl)
      refine ⟨⟨hO.row.chg c6 fun c hc e => by have := hO.new c hc; omega, hO.len, fun c hc => by have := hO.new c hc; omega⟩, ?_⟩
      obtain ⟨hh, a1, a2, a3⟩ := K3.out.1.loads hP.row (.of_fr _ hFr) (fun i hi => .inr (hP.new i hi)) h6 c6
      have hlt := HW.out
      refine ⟨hh, a1, ((Chg.of_fr _ (fr_step HF0.out HF1.out)).trans (K3.out.2.weak fun c _ hc => .inr (.inl hc))).trans a2, fun c hc => ?_, fun _ => ?_⟩
      · rcases a3 c hc with e | e
        · exact .inl e
        · exact .inr (by omega)
      · have n3 := H1.out.chg K3.out.2 fun c hc ha => by have := hlt c (.inr (.inl ha)); omega
        have n4 := n3.weak (ok' := fun c => Z.heap.size + 2 ≤ c ∧ ¬ PHX g hh c) fun c hc1 hc2 => ⟨hc2, fun e => by
          rcases a3 c e with e | e
          · have := hlt c e; omega
          · omega⟩
        exact (n4.chg a2 fun c hc e => by have := hlt c e; omega).weak fun c _ hc => ⟨by have := HF0.out.size; have := hc.1; omega, hc.2⟩
end Go.Proofs.YtmoaddbpfekdbaaGreat
/- The plain cache under a change of what its nodes are told by. No program text. -/
namespace Go.Proofs.YtmoaddbpfekdbaaGreat
set_option linter.unusedVariables false
set_option linter.unusedSimpArgs false
set_option linter.unusedSectionVars false
section
variable {V U : Type} [Inhabited V] [Inhabited U]
def mF (q : V → U) (f : Fra V) : Fra U := ⟨f.st, f.blk, f.pins, f.ref, f.dirty, q f.node, f.own⟩
def mC (q : V → U) (c : Ca V) : Ca U := ⟨c.fs.map (mF q), c.line, c.loads, c.hand⟩
variable {q : V → U}
theorem mf_free (hq : q default = default) : mF q (freeF : Fra V) = freeF := by simp [mF, freeF, hq]
theorem mf_find (l : List (Fra V)) (b : Int) : findB (l.map (mF q)) b = findB l b := by
  unfold findB
  rw [List.findIdx?_map]
  rfl
theorem mf_freeI (l : List (Fra V)) : freeI (l.map (mF q)) = freeI l := by
  unfold freeI
  rw [List.findIdx?_map]
  rfl
theorem mf_freeN (l : List (Fra V)) : freeN (l.map (mF q)) = freeN l := by
  unfold freeN
  rw [List.countP_map]
  rfl
theorem mf_fr (hq : q default = default) (l : List (Fra V)) (i : Nat) : fr (l.map (mF q)) i = mF q (fr l i) := by
  unfold fr
  simp only [List.getD_eq_getElem?_getD, List.getElem?_map]
  cases l[i]? with
  | none => exact (mf_free hq).symm
  | some f => rfl
theorem mf_modify (l : List (Fra V)) (i : Nat) (p : Fra V → Fra V) (p' : Fra U → Fra U) (hp : ∀ f, mF q (p f) = p' (mF q f)) : (l.modify i p).map (mF q) = (l.map (mF q)).modify i p' := by
  refine List.ext_getElem? fun j => ?_
  rw [List.getElem?_map, List.getElem?_modify, List.getElem?_modify, List.getElem?_map]
  by_cases e : i = j
  · subst e
    cases hl : l[i]? with
    | none => simp
    | some f => simp [hp f]
  · simp [e]
variable (hq : q default = default)
include hq
theorem mf_frst (l : List (Fra V)) (i : Nat) : (fr (l.map (mF q)) i).st = (fr l i).st := by rw [mf_fr hq]; rfl
theorem mc_ready (c : Ca V) (b : Int) : readyI (mC q c) b = readyI c b := by
  unfold readyI mC
  simp only [mf_find, mf_frst hq]
theorem mc_load (c : Ca V) (b : Int) : loadI (mC q c) b = loadI c b := by
  unfold loadI mC
  simp only [mf_find, mf_frst hq]
theorem mc_take (c : Ca V) (t : Int) : takeI (mC q c) t = takeI c t := by
  unfold takeI mC
  simp only [mf_freeI]
theorem mc_node (c : Ca V) (b : Int) : nodC (mC q c) b = (q (nodC c b).1, (nodC c b).2) := by
  unfold nodC
  rw [mc_ready hq]
  cases readyI c b with
  | none => simp [hq]
  | some i =>
    simp only [mC, mf_fr hq]
    rfl
theorem mc_line (c : Ca V) : lineC (mC q c) = lineC c := rfl
theorem mc_may (c : Ca V) (t : Int) : mayC (mC q c) t = mayC c t := by
  unfold mayC mC
  simp only [mf_find, mf_freeI]
theorem mc_set (c : Ca V) (b : Int) (v : V) : setC (mC q c) b (q v) = ((setC c b v).1, mC q (setC c b v).2) := by
  unfold setC
  rw [mc_ready hq]
  cases readyI c b with
  | none => rfl
  | some i =>
    simp only [mC]
    refine congrArg _ ?_
    exact congrArg (fun x => Ca.mk x c.line c.loads c.hand) (mf_modify (q := q) c.fs i (fun f => { f with node := v, dirty := true }) (fun f => { f with node := q v, dirty := true }) fun f => rfl).symm
theorem mc_unpin (c : Ca V) (b : Int) : unpinC (mC q c) b = ((unpinC c b).1, mC q (unpinC c b).2) := by
  unfold unpinC
  rw [mc_ready hq]
  cases readyI c b with
  | none => rfl
  | some i =>
    have h9 : (fr (mC q c).fs i).pins = (fr c.fs i).pins := by show (fr (c.fs.map (mF q)) i).pins = _; rw [mf_fr hq]; rfl
    simp only [h9]
    split
    · rfl
    · simp only [mC]
      refine congrArg _ ?_
      exact congrArg (fun x => Ca.mk x c.line c.loads c.hand) (mf_modify (q := q) c.fs i (fun f => { f with pins := f.pins - 1 }) (fun f => { f with pins := f.pins - 1 }) fun f => rfl).symm
theorem mc_fill (c : Ca V) (b : Int) (v : V) : fillC (mC q c) b (q v) = ((fillC c b v).1, (fillC c b v).2.1, mC q (fillC c b v).2.2) := by
  unfold fillC
  rw [mc_load hq]
  cases hl : loadI c b with
  | none => rfl
  | some i =>
    simp only [mC]
    exact congrArg (fun x => (((c.loads.filter fun p => p.2 == b).map (·.1), true, Ca.mk x c.line (c.loads.filter fun p => !(p.2 == b)) c.hand) : List Int × Bool × Ca U)) (mf_modify (q := q) c.fs i (fun f => { f with st := 2, node := v }) (fun f => { f with st := 2, node := q v }) fun f => rfl).symm
theorem mc_claim (c : Ca V) (t : Int) : claimC (mC q c) t = ((claimC c t).1, mC q (claimC c t).2) := by
  unfold claimC
  have hu : unasked (mC q c) t = unasked c t := rfl
  rw [hu, mc_take hq]
  split
  · cases takeI c t with
    | none => rfl
    | some i => simp [mC, List.map_set, mF, hq]
  · rfl
theorem mc_give (c : Ca V) (t : Int) : giveC (mC q c) t = ((giveC c t).1, mC q (giveC c t).2) := by
  unfold giveC
  split
  · have h1 : (mC q c).fs.countP (isC t) = c.fs.countP (isC t) := by
      show (c.fs.map (mF q)).countP (isC t) = _
      rw [List.countP_map]
      rfl
    rw [h1]
    simp only [mC, List.map_map]
    congr 2
    refine List.map_congr_left fun f _ => ?_
    simp only [Function.comp]
    have h9 : isC t (mF q f) = isC t f := rfl
    rw [h9]
    split
    · exact (mf_free hq).symm
    · rfl
  · rfl
theorem mc_name (c : Ca V) (t b : Int) (v : V) : nameC (mC q c) t b (q v) = ((nameC c t b v).1, mC q (nameC c t b v).2) := by
  unfold nameC
  have h1 : (mC q c).fs.findIdx? (isC t) = c.fs.findIdx? (isC t) := by
    show (c.fs.map (mF q)).findIdx? (isC t) = _
    rw [List.findIdx?_map]
    rfl
  have h2 : findB (mC q c).fs b = findB c.fs b := mf_find c.fs b
  rw [h1, h2]
  split
  · cases c.fs.findIdx? (isC t) with
    | none => rfl
    | some i => simp [mC, List.map_set, mF]
  · rfl
theorem mc_pin (c : Ca V) (t b : Int) : pinC (mC q c) t b = ((pinC c t b).1, mC q (pinC c t b).2) := by
  unfold pinC
  have h1 : busy (mC q c) t b = busy c t b := rfl
  have h2 : findB (mC q c).fs b = findB c.fs b := mf_find c.fs b
  have hm : ∀ i, (c.fs.modify i pinned).map (mF q) = (c.fs.map (mF q)).modify i pinned := fun i => mf_modify _ _ _ _ fun f => rfl
  rw [h1, h2, mc_take hq]
  split
  · cases findB c.fs b with
    | none =>
      cases takeI c t with
      | none => rfl
      | some i => simp [mC, List.map_set, mF, hq]
    | some i =>
      have h3 : (fr (mC q c).fs i).st = (fr c.fs i).st := mf_frst hq c.fs i
      simp only [h3]
      split
      · simp only [mC, hm]
      · simp only [mC, hm]
  · rfl
theorem mc_sweep (c : Ca V) : sweepC (mC q c) = sweepC c := by
  unfold sweepC mC canL refL
  simp only [List.map_map]
  rfl
theorem mc_evict (c : Ca V) : evictC (mC q c) = ((evictC c).1.map (mF q), mC q (evictC c).2) := by
  unfold evictC
  rw [mc_sweep hq]
  split
  · rfl
  · have h1 : ∀ (l : List (Fra V)) (m : List Bool), (reref l m).map (mF q) = reref (l.map (mF q)) m := fun l m => by
      unfold reref
      rw [List.map_zipWith, List.zipWith_map_left]
      rfl
    simp only [mC, List.map_set, h1, mf_free hq, Option.map_some, mf_fr hq]
theorem mc_new (n : Nat) : mC q (newC (V := V) n) = newC n := by
  unfold mC newC
  simp only [List.map_replicate, mf_free hq]
end
end Go.Proofs.YtmoaddbpfekdbaaGreat
/- The program's cache with nodes in it: Frames. -/
namespace Go.Proofs.YtmoaddbpfekdbaaGreat
set_option linter.unusedVariables false
set_option linter.unusedSimpArgs false
set_option linter.unusedSectionVars false
set_option maxRecDepth 100000
open Go.RowKit
theorem afr_ld (p : Value) : Instr.loadAt 50 p = ldS 50 p := rfl
theorem afr_ty : Sty Tryz.prog 50 13 := ⟨by kernel_rfl, ⟨_, Tryz.underlying50, rfl⟩⟩
attribute [local go_sem ↓] want_ld pfr_ld node16_ld afr_ld
theorem pc_fac (f : Fra NX) : ((pc f).drop 0).take 13 = fac f := rfl
/-- Frames told anew: their nodes hold the same. -/
structure TellF (w W : World) (O : Option Addr) (n c : Nat) (l' l : List (Fra NX)) : Prop where
  res : ResA w W O n c l'
  same : l'.map (mF NX.n) = l.map (mF NX.n)
  nod : ∀ f ∈ l', NP W (fun b => ¬ At O b) f.node.v f.node.n
set_option maxHeartbeats 8000000 in
theorem pframes_at {w : World} {g K : Nat} {h : PH} {t : Ca NX} (k : PC w g h K t) (hs : t.fs.length ≤ 100000) (hN : ∀ f ∈ t.fs, NP w (fun b => ¬ PHX g h b) f.node.v f.node.n) :
    Calls Tryz.prog 20 #[.pointer (some ⟨g, 0, none⟩)] w fun e w' => ∃ (O : Option Addr) (c : Nat) (l' : List (Fra NX)), e = .returned (.slice O t.fs.length c) ∧ Hid (TellF w w' O t.fs.length c l' t.fs ∧ Fr w w') := by
  obtain ⟨hn, -, -⟩ := k.nlen
  obtain ⟨c0, -, -, -, -⟩ := k.cells
  have Hn := keep hn
  have HR := keep k.fs
  have HN := keep hN
  rw [hn] at hs ⊢
  generalize t.fs = l at *
  obtain ⟨A, n, c, mm, B, bn, bc, L, ln, lc⟩ := h
  simp only at *
  clear hn k hN
  go_enter Tryz.func20, Tryz.ntmps20
  go_wp2_with fail
  go_loopg [3, 11] n (fun gg s3 s4 wr => ∃ (j b : Nat) (O : Option Addr) (l' : List (Fra NX)), j + gg = n ∧ s3 = .slice O j b ∧ s4 = .int .i64 j ∧ Hid (TellF w wr O j b l' (l.take j) ∧ Fr w wr))
  case atStart => exact ⟨0, 0, none, [], by omega, rfl, rfl, keep ⟨⟨⟨Rw.nil _ _ _, rfl, fun k hk => by cases hk⟩, by simp, fun f hf => by cases hf⟩, fr_refl w⟩⟩
  case round =>
    obtain ⟨j, b, O, l', hj, rfl, rfl, HI⟩ := hrel
    by_cases hlt : j < n
    · have hm : l[j]? = some (l[j]'(by rw [Hn.out]; exact hlt)) := List.getElem?_eq_getElem _
      generalize l[j]'(by rw [Hn.out]; exact hlt) = m at hm
      obtain ⟨g', off, rfl, hb1, hr⟩ := has_rows (HR.out.fr HI.out.2).has (pc_wid l) (by decide) (by intro e; rw [e] at hm; simp at hm)
      have lX := elem_ld pfr_ty hr (pc_wid l) hb1 hm
      have Hm := keep (show l.take (j + 1) = l.take j ++ [m] by rw [List.take_add_one, hm]; simp)
      have HNM := keep ((HN.out m (List.mem_of_getElem? hm)).fr HI.out.2)
      have hjz : (j : Int) < (n : Int) := by omega
      have wj : IntKind.i64.wrap ((j : Int) + 1) = (j : Int) + 1 := by rw [IntKind.wrap_i64]; omega
      have hrr := fr_refl wr
      clear hm hr hlt hb1
      go_wp2_with (first
        | (refine wpList_store_at (ds := pc m) pfr_info rfl (.tmp 5) (.tmp 14) rfl wr.heap.size 0 rfl rfl (pc_len m) (pc_one m) (Arr.new wr zpc.toArray 52) (Nat.le_refl 14) (splice_all _ _ (Nat.le_of_eq (pc_len m).symm)) ?_; intro W5 hM5 hk5; have hF5 := keep (hk5.fr (fr_new hrr _) (Nat.le_refl _)); clear hk5; have HM5 := keep hM5; have HZ5 := keep hM5.lt; have lN : (ldS 41 (.pointer (some ⟨wr.heap.size, 5, none⟩))).run Tryz.prog W5 = .ok (.agg m.node.v.cells.toArray) W5 := node16_ty.ldMid rfl (range_of_arr hM5 (pc_node m)); clear hM5)
        | (go_at_call 44; (with_reducible refine (own_agg (HNM.out.fr hF5.out)).mono ?_); rintro e W1 ⟨v1, rfl, H1, f1⟩; have HF1 := keep f1; have HM1 := keep (HM5.out.below f1 HM5.out.lt); clear f1)
        | (refine wpList_store_chg node16_info rfl (.tmp 20) (.tmp 18) rfl wr.heap.size 5 rfl (ds := v1.cells) rfl rfl (nv_onex v1) HM1.out (show 5 + 5 ≤ 14 by decide) (cs' := pc { m with node := (⟨v1, m.node.n⟩ : NX) }) (pc_put_node m (⟨v1, m.node.n⟩ : NX)) ?_; intro W2 h1 h2; have H2 := keep (And.intro h1 h2); have lF : (ldS 50 (.pointer (some ⟨wr.heap.size, 0, none⟩))).run Tryz.prog W2 = .ok (.agg #[.int .i64 (m.st : Int), .int .i64 m.blk, .int .i64 m.pins, .bool m.ref, .bool m.dirty, .bool v1.lf, .slice v1.A1 v1.n1 v1.c1, .slice v1.A2 v1.n2 v1.c2, .slice v1.A3 v1.n3 v1.c3, .slice v1.A4 v1.n4 v1.c4, .slice none 0 0, .int .i64 (-1), .slice none 0 0]) W2 := afr_ty.ldMid rfl (range_of_arr h1 (pc_fac _)); have hF2 : Fr wr W2 := (fr_step hF5.out HF1.out).step_chg h2 (fun i e => Nat.le_of_eq e.symm); have HF2 := keep hF2; have HO2 := keep (HI.out.1.res.row.fr (fr_new hF2 (.cells #[.int .i64 (m.st : Int), .int .i64 m.blk, .int .i64 m.pins, .bool m.ref, .bool m.dirty, .bool v1.lf, .slice v1.A1 v1.n1 v1.c1, .slice v1.A2 v1.n2 v1.c2, .slice v1.A3 v1.n3 v1.c3, .slice v1.A4 v1.n4 v1.c4, .slice none 0 0, .int .i64 (-1), .slice none 0 0] 50))); clear h1 h2 hF2 lN)
        | (refine wpList_append_rw aframe_elem aframes_und (by decide) rfl (.tmp 21) (.tmp 24) rfl O j b (rows fac l') rfl HO2.out (W2.heap.size + 1) (some ⟨W2.heap.size, 0, none⟩) 1 1 (fac { m with node := (⟨v1, m.node.n⟩ : NX) }) rfl rfl (has_new W2 [.int .i64 (m.st : Int), .int .i64 m.blk, .int .i64 m.pins, .bool m.ref, .bool m.dirty, .bool v1.lf, .slice v1.A1 v1.n1 v1.c1, .slice v1.A2 v1.n2 v1.c2, .slice v1.A3 v1.n3 v1.c3, .slice v1.A4 v1.n4 v1.c4, .slice none 0 0, .int .i64 (-1), .slice none 0 0] 50) (fac_one _) (by simp only [maxLen]; omega) (by omega) ?_; intro O' b' w3 h3 p3; have H3 := keep (show Rw w3 _ _ _ _ _ _ ∧ Put _ w3 _ _ from ⟨h3, p3⟩); clear h3 p3)
        | fail)
      go_roundg (gk - 1)
      case measure => omega
      case rel =>
        obtain ⟨h3, p3⟩ := H3.out
        have hq := fr_new HF2.out (.cells (fac { m with node := (⟨v1, m.node.n⟩ : NX) }).toArray 50)
        have hs1 := HI.out.2.size
        have hs2 := HF2.out.size
        have hs5 := hF5.out.size
        have hsW := HF1.out.size
        have hz5 := HZ5.out
        have hOl := HI.out.1.res.row.lt
        have hN2 : NP W2 (fun c => wr.heap.size < c) v1 m.node.n := (H1.out.chg H2.out.2 fun c hc e => by omega).weak fun c _ hc => by omega
        refine ⟨j + 1, b', O', l' ++ [{ m with node := (⟨v1, m.node.n⟩ : NX) }], by omega, rfl, rfl, keep ⟨⟨⟨?_, ?_, fun i hi => ?_⟩, ?_, fun f hf => ?_⟩, ?_⟩⟩
        · rw [rows_append, rows_single]; exact h3
        · rw [List.length_append, HI.out.1.res.len]; rfl
        · rcases p3.blk i hi with e | e
          · exact HI.out.1.res.new i e
          · simp at e
            omega
        · rw [Hm.out, List.map_append, List.map_append, HI.out.1.same]; rfl
        · have hgo : ∀ {v : NV} {nn : RN}, NP W2 (fun c => ¬ At O c) v nn → NP w3 (fun c => ¬ At O' c) v nn := fun hx => by
            have h8 := (hx.fr (fr_new (fr_refl W2) (.cells (fac { m with node := (⟨v1, m.node.n⟩ : NX) }).toArray 50))).weak (ok' := fun c => ¬ At O c ∧ ¬ At O' c) fun c hc1 hc2 => ⟨hc2, fun e => by
              rcases p3.blk c e with e | e
              · exact hc2 e
              · simp at hc1 e
                omega⟩
            exact (h8.chg p3.chg fun c hc => hc.1).weak fun c _ hc => hc.2
          rcases List.mem_append.1 hf with hf | hf
          · exact hgo ((HI.out.1.nod f hf).fr HF2.out)
          · rw [List.mem_singleton.1 hf]
            exact hgo (hN2.weak fun c _ hc e => by have := hOl c e; omega)
        · exact (fr_step HI.out.2 hq).step_chg p3.chg HI.out.1.res.new
    · have hjn : j = n := by omega
      have hjz : ¬ (j : Int) < (n : Int) := by omega
      subst hjn
      have E9 := keep (show l.take j = l by rw [← Hn.out, List.take_length])
      clear hlt
      go_wp2_with fail
      go_ret
      refine ⟨O, b, rfl, l', keep ?_⟩
      have := HI.out
      rw [E9.out] at this
      exact this
end Go.Proofs.YtmoaddbpfekdbaaGreat
