/- The program's cache in memory: the box, the frames, the places by blocks, the line, the loads. -/
import Derived.Test.YtmoaddbpfekdbaaGreatM30
import Derived.Test.YtmoaddbpfekdbaaGreatM19
namespace Go.Proofs.YtmoaddbpfekdbaaGreat
set_option linter.unusedVariables false
set_option linter.unusedSimpArgs false
set_option linter.unusedSectionVars false
set_option maxRecDepth 100000
open Go.RowKit
/-- Where the lists of a cache lie: frames A, the map m, line B, loads L. -/
structure PH where
  A : Option Addr
  n : Nat
  c : Nat
  m : Nat
  B : Option Addr
  bn : Nat
  bc : Nat
  L : Option Addr
  ln : Nat
  lc : Nat
def PHX (g : Nat) (h : PH) (k : Nat) : Prop := k = g ∨ At h.A k ∨ k = h.m ∨ At h.B k ∨ At h.L k
def PH.cells (h : PH) (q : Int) : List Value := [.slice h.A h.n h.c, .map (some h.m), .slice h.B h.bn h.bc, .slice h.L h.ln h.lc, .int .i64 q]
section
variable {V : Type} [NVal V]
/-- A cache of the program's in memory. -/
structure PC (w : World) (g : Nat) (h : PH) (K : Nat) (t : Ca V) : Prop where
  box : Arr w g 57 (h.cells t.hand).toArray
  fs : Rw w 52 14 h.A h.n h.c (rows pc t.fs)
  mp : PMap Tryz.prog 3 3 w h.m K (findB t.fs)
  ln : Rw w 93 2 h.B h.bn h.bc (rows sc t.line)
  ld : Rw w 93 2 h.L h.ln h.lc (rows sc t.loads)
  ap : ∀ k, At h.B k → ¬ At h.L k
section
variable {w W : World} {g K : Nat} {h : PH} {t u : Ca V} {X Y : Nat → Prop}
theorem PC.ng (k : PC w g h K t) : ¬ At h.A g ∧ ¬ At h.B g ∧ ¬ At h.L g ∧ g ≠ h.m := by
  refine ⟨fun hk => ?_, fun hk => ?_, fun hk => ?_, k.mp.ty k.box⟩
  · obtain ⟨cs, h1⟩ := k.fs.arrT hk
    exact absurd (h1.ty k.box) (by decide)
  · obtain ⟨cs, h1⟩ := k.ln.arrT hk
    exact absurd (h1.ty k.box) (by decide)
  · obtain ⟨cs, h1⟩ := k.ld.arrT hk
    exact absurd (h1.ty k.box) (by decide)
theorem PC.nA (k : PC w g h K t) {i : Nat} (hi : At h.A i) : ¬ At h.B i ∧ ¬ At h.L i ∧ i ≠ h.m := by
  obtain ⟨cs, h1⟩ := k.fs.arrT hi
  refine ⟨fun hk => ?_, fun hk => ?_, k.mp.ty h1⟩
  · obtain ⟨cs, h2⟩ := k.ln.arrT hk
    exact absurd (h1.ty h2) (by decide)
  · obtain ⟨cs, h2⟩ := k.ld.arrT hk
    exact absurd (h1.ty h2) (by decide)
theorem PC.nm (k : PC w g h K t) : ¬ At h.B h.m ∧ ¬ At h.L h.m := by
  refine ⟨fun hk => ?_, fun hk => ?_⟩
  · obtain ⟨cs, h1⟩ := k.ln.arrT hk
    exact k.mp.ty h1 rfl
  · obtain ⟨cs, h1⟩ := k.ld.arrT hk
    exact k.mp.ty h1 rfl
theorem PC.lt (k : PC w g h K t) : ∀ i, PHX g h i → i < w.heap.size := by
  rintro i (rfl | hi | rfl | hi | hi)
  · exact k.box.lt
  · exact k.fs.lt i hi
  · exact k.mp.lt
  · exact k.ln.lt i hi
  · exact k.ld.lt i hi
theorem PC.chg (k : PC w g h K t) (f : Chg X w W) (hx : ∀ i, PHX g h i → ¬ X i) : PC W g h K t :=
  ⟨k.box.chg f (hx _ (.inl rfl)), k.fs.chg f fun b hb => hx b (.inr (.inl hb)), k.mp.chg f (hx _ (.inr (.inr (.inl rfl)))), k.ln.chg f fun b hb => hx b (.inr (.inr (.inr (.inl hb)))), k.ld.chg f fun b hb => hx b (.inr (.inr (.inr (.inr hb)))), k.ap⟩
theorem PC.fr (k : PC w g h K t) (f : Fr w W) : PC W g h K t := k.chg (.of_fr (fun _ => False) f) fun _ _ => id
theorem PC.more (k : PC w g h K t) {K' : Nat} (hk : K ≤ K') : PC w g h K' t := { k with mp := k.mp.mono hk }
theorem PC.nlen (k : PC w g h K t) : t.fs.length = h.n ∧ t.line.length = h.bn ∧ t.loads.length = h.ln := by
  have h1 := k.fs.len
  have h2 := k.ln.len
  have h3 := k.ld.len
  rw [rows_len (pc_wid _)] at h1
  rw [rows_len (sc_wid _)] at h2 h3
  omega
theorem PC.cells (k : PC w g h K t) : w.cell? ⟨g, 0, none⟩ = some (.slice h.A h.n h.c) ∧ w.cell? ⟨g, 1, none⟩ = some (.map (some h.m)) ∧ w.cell? ⟨g, 2, none⟩ = some (.slice h.B h.bn h.bc) ∧ w.cell? ⟨g, 3, none⟩ = some (.slice h.L h.ln h.lc) ∧ w.cell? ⟨g, 4, none⟩ = some (.int .i64 t.hand) := by
  have c1 := k.box.cell 0
  have c2 := k.box.cell 1
  have c3 := k.box.cell 2
  have c4 := k.box.cell 3
  have c5 := k.box.cell 4
  exact ⟨by simpa [PH.cells] using c1, by simpa [PH.cells] using c2, by simpa [PH.cells] using c3, by simpa [PH.cells] using c4, by simpa [PH.cells] using c5⟩
/-- A cache that had the blocks Y has turned into t. -/
def PTurn (w w' : World) (Y : Nat → Prop) (g K : Nat) (t : Ca V) : Prop :=
  ∃ h, PC w' g h K t ∧ Chg Y w w' ∧ ∀ k, PHX g h k → Y k ∨ w.heap.size ≤ k
theorem PTurn.trans {a b c : World} {K' : Nat} (k : PTurn a b Y g K t) (f : ∀ h, PC b g h K t → PTurn b c (PHX g h) g K' u) : PTurn a c Y g K' u := by
  obtain ⟨h1, k1, k2, k3⟩ := k
  obtain ⟨h2, l1, l2, l3⟩ := f h1 k1
  refine ⟨h2, l1, k2.trans' l2 fun i hi hx => ?_, fun i hi => ?_⟩
  · rcases k3 i hx with e | e
    · exact e
    · omega
  · rcases l3 i hi with e | e
    · exact k3 i e
    · exact .inr (Nat.le_trans k2.size e)
/-- A turn behind what has turned. -/
theorem PTurn.step {w2 : World} {h2 : PH} {K' : Nat} (d1 : PC w2 g h2 K t) (d2 : Chg Y w w2) (d3 : ∀ k, PHX g h2 k → Y k ∨ w.heap.size ≤ k) (f : PTurn w2 W (PHX g h2) g K' u) : PTurn w W Y g K' u := by
  obtain ⟨h4, l1, l2, l3⟩ := f
  refine ⟨h4, l1, d2.trans' l2 fun i hi hx => ?_, fun i hi => ?_⟩
  · rcases d3 i hx with e | e
    · exact e
    · omega
  · rcases l3 i hi with e | e
    · exact d3 i e
    · exact .inr (Nat.le_trans d2.size e)
theorem PTurn.same (k : PC w g h K t) (f : Fr w W) (hy : ∀ i, PHX g h i → Y i) : PTurn w W Y g K t := ⟨h, k.fr f, .of_fr _ f, fun i hi => .inl (hy i hi)⟩
theorem PTurn.of (k : PC W g h K t) (f : Chg (PHX g h) w W) : PTurn w W (PHX g h) g K t := ⟨h, k, f, fun _ hk => .inl hk⟩
/-- Ahead of it nothing of the cache turned. -/
theorem PTurn.fr {a : World} (k : PTurn w W Y g K t) (f : Fr a w) : PTurn a W Y g K t := by
  obtain ⟨h1, k1, k2, k3⟩ := k
  refine ⟨h1, k1, ⟨k2.os.trans f.os, k2.tape.trans f.tape, k2.output.trans f.output, Nat.le_trans f.size k2.size, fun i hi hx => (k2.block i (Nat.lt_of_lt_of_le hi f.size) hx).trans (f.block i hi)⟩, fun i hi => ?_⟩
  rcases k3 i hi with e | e
  · exact .inl e
  · exact .inr (Nat.le_trans f.size e)
/-- Frames laid anew where they lay. -/
theorem PC.frames {fs' : List (Fra V)} (k : PC w g h K t) (hr : Rw W 52 14 h.A h.n h.c (rows pc fs')) (f : Chg (At h.A) w W) (hf : ∀ b, findB fs' b = findB t.fs b) : PC W g h K { t with fs := fs' } :=
  ⟨k.box.chg f k.ng.1, hr, (k.mp.chg f fun ha => (k.nA ha).2.2 rfl).eq fun b _ => hf b, k.ln.chg f fun b hb ha => (k.nA ha).1 hb, k.ld.chg f fun b hb ha => (k.nA ha).2.1 hb, k.ap⟩
theorem PC.framesT {fs' : List (Fra V)} (k : PC w g h K t) (hr : Rw W 52 14 h.A h.n h.c (rows pc fs')) (f : Chg (At h.A) w W) (hf : ∀ b, findB fs' b = findB t.fs b) : PTurn w W (PHX g h) g K { t with fs := fs' } :=
  .of (k.frames hr f hf) (f.weak fun i _ hi => .inr (.inl hi))
/-- A frame and its block's place laid anew. -/
theorem PC.placed {fs' : List (Fra V)} {W2 : World} {K' : Nat} {F : Int → Option Nat} (k : PC w g h K t) (hr : Rw W 52 14 h.A h.n h.c (rows pc fs')) (f : Chg (At h.A) w W) (hm : PMap Tryz.prog 3 3 W2 h.m K' F) (f2 : Chg (· = h.m) W W2) (hf : ∀ b, findB fs' b = F b) : PC W2 g h K' { t with fs := fs' } :=
  ⟨(k.box.chg f k.ng.1).chg f2 k.ng.2.2.2, hr.chg f2 fun b hb => (k.nA hb).2.2, hm.eq fun b _ => hf b, (k.ln.chg f fun b hb ha => (k.nA ha).1 hb).chg f2 fun b hb e => k.nm.1 (e ▸ hb), (k.ld.chg f fun b hb ha => (k.nA ha).2.1 hb).chg f2 fun b hb e => k.nm.2 (e ▸ hb), k.ap⟩
theorem PC.hand {q : Int} (k : PC w g h K t) (ha : Arr W g 57 (h.cells q).toArray) (f : Chg (· = g) w W) : PC W g h K { t with hand := q } :=
  ⟨ha, k.fs.chg f fun b hb e => k.ng.1 (e ▸ hb), k.mp.chg f fun e => k.ng.2.2.2 e.symm, k.ln.chg f fun b hb e => k.ng.2.1 (e ▸ hb), k.ld.chg f fun b hb e => k.ng.2.2.1 (e ▸ hb), k.ap⟩
theorem PC.lineP {w3 : World} {B' : Option Addr} {m' d' : Nat} {l' : List (Int × Int)} (k : PC w g h K t) (hr : Rw w3 93 2 B' m' d' (rows sc l')) (f : Chg (At h.B) w w3) (hb : ∀ i, At B' i → At h.B i ∨ w.heap.size ≤ i)
    (ha : Arr W g 57 (PH.cells { h with B := B', bn := m', bc := d' } t.hand).toArray) (k2 : Chg (· = g) w3 W) : PC W g { h with B := B', bn := m', bc := d' } K { t with line := l' } ∧ Chg (fun i => i = g ∨ At h.B i) w W ∧ ∀ i, PHX g { h with B := B', bn := m', bc := d' } i → PHX g h i ∨ w.heap.size ≤ i := by
  have ng : ¬ At B' g := fun e => by
    rcases hb g e with e | e
    · exact k.ng.2.1 e
    · have := k.box.lt; omega
  refine ⟨⟨ha, (k.fs.chg f fun b hb => (k.nA hb).1).chg k2 fun b hb e => k.ng.1 (e ▸ hb), (k.mp.chg f k.nm.1).chg k2 fun e => k.ng.2.2.2 e.symm, hr.chg k2 fun b hb e => ng (e ▸ hb), (k.ld.chg f fun b hb e => k.ap b e hb).chg k2 fun b hb e => k.ng.2.2.1 (e ▸ hb), fun i hi hl => ?_⟩, (f.weak fun i _ hi => .inr hi).trans (k2.weak fun i _ hi => .inl hi), fun i hi => ?_⟩
  · rcases hb i hi with e | e
    · exact k.ap i e hl
    · have := k.ld.lt i hl; omega
  · rcases hi with hi | hi | hi | hi | hi
    · exact .inl (.inl hi)
    · exact .inl (.inr (.inl hi))
    · exact .inl (.inr (.inr (.inl hi)))
    · rcases hb i hi with e | e
      · exact .inl (.inr (.inr (.inr (.inl e))))
      · exact .inr e
    · exact .inl (.inr (.inr (.inr (.inr hi))))
theorem PC.line {w3 : World} {B' : Option Addr} {m' d' : Nat} {l' : List (Int × Int)} (k : PC w g h K t) (hr : Rw w3 93 2 B' m' d' (rows sc l')) (f : Chg (At h.B) w w3) (hb : ∀ i, At B' i → At h.B i ∨ w.heap.size ≤ i)
    (ha : Arr W g 57 (PH.cells { h with B := B', bn := m', bc := d' } t.hand).toArray) (k2 : Chg (· = g) w3 W) : PTurn w W (PHX g h) g K { t with line := l' } := by
  obtain ⟨h1, h2, h3⟩ := k.lineP hr f hb ha k2
  exact ⟨_, h1, h2.weak fun i _ hi => by rcases hi with hi | hi; exact .inl hi; exact .inr (.inr (.inr (.inl hi))), h3⟩
theorem PC.loads {w3 : World} {B' : Option Addr} {m' d' : Nat} {l' : List (Int × Int)} (k : PC w g h K t) (hr : Rw w3 93 2 B' m' d' (rows sc l')) (f : Chg (At h.L) w w3) (hb : ∀ i, At B' i → At h.L i ∨ w.heap.size ≤ i)
    (ha : Arr W g 57 (PH.cells { h with L := B', ln := m', lc := d' } t.hand).toArray) (k2 : Chg (· = g) w3 W) : PTurn w W (PHX g h) g K { t with loads := l' } := by
  have ng : ¬ At B' g := fun e => by
    rcases hb g e with e | e
    · exact k.ng.2.2.1 e
    · have := k.box.lt; omega
  refine ⟨{ h with L := B', ln := m', lc := d' }, ⟨ha, (k.fs.chg f fun b hb => (k.nA hb).2.1).chg k2 fun b hb e => k.ng.1 (e ▸ hb), (k.mp.chg f k.nm.2).chg k2 fun e => k.ng.2.2.2 e.symm, (k.ln.chg f fun b hb e => k.ap b hb e).chg k2 fun b hb e => k.ng.2.1 (e ▸ hb), hr.chg k2 fun b hb e => ng (e ▸ hb), fun i hi hl => ?_⟩, (f.weak fun i _ hi => .inr (.inr (.inr (.inr hi)))).trans (k2.weak fun i _ hi => .inl hi), fun i hi => ?_⟩
  · rcases hb i hl with e | e
    · exact k.ap i hi e
    · have := k.ln.lt i hi; omega
  · rcases hi with hi | hi | hi | hi | hi
    · exact .inl (.inl hi)
    · exact .inl (.inr (.inl hi))
    · exact .inl (.inr (.inr (.inl hi)))
    · exact .inl (.inr (.inr (.inr (.inl hi))))
    · rcases hb i hi with e | e
      · exact .inl (.inr (.inr (.inr (.inr e))))
      · exact .inr e
end
/-- The cells of one frame, where it lies. -/
theorem pframe_cells {w : World} {B : Nat} {A : Option Addr} {l : List (Fra V)} {i : Nat} {f : Fra V} (hl : Has w B A (rows pc l)) (hB : B ≤ w.heap.size) (hf : l[i]? = some f) :
    ∃ b off, A = some ⟨b, off, none⟩ ∧ b < B ∧ (∀ W, Fr w W → W.cell? ⟨b, off + i * 14, none⟩ = some (.int .i64 (f.st : Int)) ∧ W.cell? ⟨b, off + i * 14 + 1, none⟩ = some (.int .i64 f.blk) ∧ W.cell? ⟨b, off + i * 14 + 2, none⟩ = some (.int .i64 f.pins) ∧ W.cell? ⟨b, off + i * 14 + 3, none⟩ = some (.bool f.ref) ∧ W.cell? ⟨b, off + i * 14 + 4, none⟩ = some (.bool f.dirty) ∧ W.cell? ⟨b, off + i * 14 + 13, none⟩ = some (.int .i64 (tk f))) ∧ w.rangeAt b off (rows pc l) := by
  obtain ⟨b, off, rfl, hb1, hr⟩ := has_rows hl (pc_wid l) (by decide) (by intro e; rw [e] at hf; simp at hf)
  have hb : b < w.heap.size := by omega
  exact ⟨b, off, rfl, hb1, fun W hW => ⟨elem_cell0 hr (pc_wid l) hb hf (pc_0 f) W hW, elem_cell hr (pc_wid l) hb hf (pc_1 f) W hW, elem_cell hr (pc_wid l) hb hf (pc_2 f) W hW, elem_cell hr (pc_wid l) hb hf (pc_3 f) W hW, elem_cell hr (pc_wid l) hb hf (pc_4 f) W hW, elem_cell hr (pc_wid l) hb hf (pc_13 f) W hW⟩, hr⟩
end
end Go.Proofs.YtmoaddbpfekdbaaGreat
/- The program's cache: find, first, leave. -/
namespace Go.Proofs.YtmoaddbpfekdbaaGreat
set_option linter.unusedVariables false
set_option linter.unusedSimpArgs false
set_option linter.unusedSectionVars false
set_option maxRecDepth 100000
open Go.RowKit
theorem int_k : Tryz.prog.underlying 3 = some (.int .i64) := Tryz.underlying3
theorem map_k : Tryz.prog.underlying 54 = some (.map 3 3) := Tryz.underlying54
theorem int_z (w : World) : (zeroValue 3).run Tryz.prog w = .ok (.int .i64 0) w := by kernel_rfl
theorem wants_info : (Tryz.prog.info? 55).map (·.size) = some 1 := by kernel_rfl
attribute [local go_sem ↓] want_ld pfr_ld
section
variable {V : Type} [NVal V]
set_option maxHeartbeats 4000000 in
theorem pfind_none {w : World} {g K : Nat} {h : PH} {t : Ca V} (x s : Int) (hx : W64 x) (k : PC w g h K t) (hf : findB t.fs x = none) :
    Calls Tryz.prog 43 #[.pointer (some ⟨g, 0, none⟩), .int .i64 x, .int .i64 s] w fun e w' => e = .returned (.tuple #[.pointer none, .bool false]) ∧ w = w' := by
  obtain ⟨c0, c1, -, -, -⟩ := k.cells
  have HM := keep k.mp
  have HF := keep hf
  have Hx := keep hx
  clear k hf hx
  go_enter Tryz.func43, Tryz.ntmps43
  go_wp2_with (first
    | (refine wpList_look_no rfl (.tmp 14) (.tmp 15) 54 rfl int_k map_k int_k int_z rfl HM.out x Hx.out rfl HF.out ?_)
    | fail)
  go_ret2
  exact ⟨rfl, rfl⟩
set_option maxHeartbeats 4000000 in
theorem pfind_not {w : World} {g K i : Nat} {h : PH} {t : Ca V} {f : Fra V} (x s : Int) (hx : W64 x) (k : PC w g h K t) (hf : findB t.fs x = some i) (hi : t.fs[i]? = some f) (hs : ¬ (f.st : Int) = s) :
    Calls Tryz.prog 43 #[.pointer (some ⟨g, 0, none⟩), .int .i64 x, .int .i64 s] w fun e w' => e = .returned (.tuple #[.pointer none, .bool false]) ∧ w = w' := by
  obtain ⟨c0, c1, -, -, -⟩ := k.cells
  obtain ⟨hn, -, -⟩ := k.nlen
  obtain ⟨b, off, hA, hb1, hc, -⟩ := pframe_cells k.fs.has (Nat.le_refl _) hi
  obtain ⟨lX, -⟩ := hc w (fr_refl w)
  have hil : (i : Int) < (h.n : Int) := by have := (List.getElem?_eq_some_iff.1 hi).1; omega
  have hz : ((f.st : Int) != s) = true := by simpa using hs
  rw [hA] at c0
  have HM := keep k.mp
  have HF := keep hf
  have Hx := keep hx
  clear k hf hx hc hA hi hs hb1 hn
  go_enter Tryz.func43, Tryz.ntmps43
  go_wp2_with (first
    | (refine wpList_look_yes rfl (.tmp 14) (.tmp 15) 54 rfl int_k map_k int_k int_z rfl HM.out x Hx.out rfl HF.out ?_)
    | fail)
  go_ret2
  exact ⟨rfl, rfl⟩
set_option maxHeartbeats 4000000 in
theorem pfind_yes {w : World} {g K i b off : Nat} {h : PH} {t : Ca V} {f : Fra V} (x s : Int) (hx : W64 x) (k : PC w g h K t) (hf : findB t.fs x = some i) (hi : t.fs[i]? = some f) (hs : (f.st : Int) = s) (hA : h.A = some ⟨b, off, none⟩) :
    Calls Tryz.prog 43 #[.pointer (some ⟨g, 0, none⟩), .int .i64 x, .int .i64 s] w fun e w' => e = .returned (.tuple #[.pointer (some ⟨b, off + i * 14, none⟩), .bool true]) ∧ w = w' := by
  obtain ⟨c0, c1, -, -, -⟩ := k.cells
  obtain ⟨hn, -, -⟩ := k.nlen
  obtain ⟨b', off', hA', hb1, hc, -⟩ := pframe_cells k.fs.has (Nat.le_refl _) hi
  rw [hA] at hA'
  injection hA' with hA'
  injection hA' with e1 e2
  subst e1 e2
  obtain ⟨lX, -⟩ := hc w (fr_refl w)
  have hil : (i : Int) < (h.n : Int) := by have := (List.getElem?_eq_some_iff.1 hi).1; omega
  subst hs
  have hz : ((f.st : Int) != (f.st : Int)) = false := by simp
  rw [hA] at c0
  have HM := keep k.mp
  have HF := keep hf
  have Hx := keep hx
  clear k hf hx hc hA hi hb1 hn
  go_enter Tryz.func43, Tryz.ntmps43
  go_wp2_with (first
    | (refine wpList_look_yes rfl (.tmp 14) (.tmp 15) 54 rfl int_k map_k int_k int_z rfl HM.out x Hx.out rfl HF.out ?_)
    | fail)
  go_ret2
  exact ⟨rfl, rfl⟩
theorem pc_box (w : World) (f : Fra V) : ∃ Z, w.alloc (.cells (pc f).toArray 52) = Z ∧ Fr w Z ∧ Arr Z w.heap.size 52 (pc f).toArray ∧ Z.heap.size = w.heap.size + 1 := ⟨_, rfl, fr_new (fr_refl w) _, Arr.new w _ _, by simp⟩
set_option maxHeartbeats 2000000 in
theorem cl_first {W : World} {ta tb : Nat} {s t : Int} (hS : Arr W ta 3 #[.int .i64 s]) (hT : Arr W tb 3 #[.int .i64 t]) (f : Fra V) :
    Calls Tryz.prog 86 #[pv f, .pointer (some ⟨ta, 0, none⟩), .pointer (some ⟨tb, 0, none⟩)] W fun e w' => e = .returned (.bool ((f.st : Int) == s && tk f == t)) ∧ Fr W w' := by
  obtain ⟨Z, hZ, hF, hX, hL⟩ := pc_box W f
  have d0 := hX.cell 0
  have d13 := hX.cell 13
  have s0 := (hS.below hF hS.lt).cell 0
  have t0 := (hT.below hF hT.lt).cell 0
  simp only [List.getElem?_toArray, pc_0, pc_13, List.getElem?_cons_zero] at d0 d13 s0 t0
  clear hX hS hT
  unfold pv
  by_cases h1 : (f.st : Int) = s
  · subst h1
    by_cases h2 : tk f = t
    · subst h2
      go_enter Tryz.func86, Tryz.ntmps86
      go_wp2_with fail
      go_ret
      exact ⟨by simp, hF⟩
    · have h9 : (tk f == t) = false := by simpa using h2
      go_enter Tryz.func86, Tryz.ntmps86
      go_wp2_with fail
      go_ret
      exact ⟨by simp [h9], hF⟩
  · have h9 : ((f.st : Int) == s) = false := by simpa using h1
    go_enter Tryz.func86, Tryz.ntmps86
    go_wp2_with fail
    go_ret
    exact ⟨by simp [h9], hF⟩
theorem int_box2 (w : World) (s t : Int) : ∃ Z, (w.alloc (.cells #[.int .i64 s] 3)).alloc (.cells #[.int .i64 t] 3) = Z ∧ Fr w Z ∧ Arr Z w.heap.size 3 #[.int .i64 s] ∧ Arr Z (w.heap.size + 1) 3 #[.int .i64 t] := by
  have h1 := Arr.new w #[.int .i64 s] 3
  have h2 := fr_new (fr_refl (w.alloc (.cells #[.int .i64 s] 3))) (.cells #[.int .i64 t] 3)
  refine ⟨_, rfl, fr_new (fr_new (fr_refl w) _) _, h1.below h2 h1.lt, ?_⟩
  have h3 := Arr.new (w.alloc (.cells #[.int .i64 s] 3)) #[.int .i64 t] 3
  simpa using h3
set_option maxHeartbeats 4000000 in
theorem pfirst_at {w : World} {g K : Nat} {h : PH} {t : Ca V} (s x : Int) (k : PC w g h K t) (hs : t.fs.length ≤ 100000) :
    Calls Tryz.prog 66 #[.pointer (some ⟨g, 0, none⟩), .int .i64 s, .int .i64 x] w fun e w' => e = .returned (.int .i64 (pos (t.fs.findIdx? fun f => (f.st : Int) == s && tk f == x))) ∧ Fr w w' := by
  obtain ⟨Z, hZ, hF, hS, hT⟩ := int_box2 w s x
  have kZ := k.fr hF
  obtain ⟨hn, -, -⟩ := k.nlen
  obtain ⟨c0, -, -, -, -⟩ := kZ.cells
  have cI := f_index (c := h.c) (fun f => (f.st : Int) == s && tk f == x) 86 #[.pointer (some ⟨w.heap.size, 0, none⟩), .pointer (some ⟨w.heap.size + 1, 0, none⟩)] (fun _ _ => rfl) kZ.fs.has (Nat.le_refl _) hn (by omega) fun W m hW => cl_first (hS.below hW hS.lt) (hT.below hW hT.lt) m
  have HF := keep hF
  clear k kZ hF hS hT hn
  go_enter Tryz.func66, Tryz.ntmps66
  go_wp2_with (first
    | (go_at_call 85; (with_reducible refine cI.mono ?_); rintro e w2 ⟨hf2, he⟩; obtain rfl := pos_of he; clear he)
    | fail)
  go_ret
  exact ⟨rfl, fr_step HF.out hf2⟩
set_option maxHeartbeats 4000000 in
theorem pleave_raw {w : World} {g K : Nat} {h : PH} {t : Ca V} (x : Int) (k : PC w g h K t) (hl : t.line.length ≤ 100000) :
    Calls Tryz.prog 76 #[.pointer (some ⟨g, 0, none⟩), .int .i64 x] w fun e w' => e = .returned (.tuple #[]) ∧ Hid (∃ n', PC w' g { h with bn := n' } K { t with line := leave t.line x } ∧ Chg (fun i => i = g ∨ At h.B i) w w') := by
  obtain ⟨Z, hZ, hF, hX, hS⟩ := int_box16 w x
  have kZ := k.fr hF
  obtain ⟨-, hm, -⟩ := k.nlen
  obtain ⟨-, -, c2, -, -⟩ := kZ.cells
  have hXB : ∀ b, At h.B b → b ≠ w.heap.size := fun b hb e => by have := k.ln.lt b hb; omega
  have cD := w_delete (f := 88) (fun p => decide (p.1 = x)) #[.pointer (some ⟨w.heap.size, 0, none⟩)] (fun _ _ => rfl) kZ.ln hm (by omega) fun W m hW => cl_leave (hX.chg hW fun hb => hXB _ hb rfl) m
  have HK := keep kZ
  have HF := keep hF
  have HG := keep k.box.lt
  clear k kZ hF hX hm hXB
  go_enter Tryz.func76, Tryz.ntmps76
  go_wp2_with (first
    | (go_at_call 87; (with_reducible refine cD.mono ?_); rintro e w2 ⟨n', rfl, H2⟩; have HB2 := keep (HK.out.box.chg H2.out.2.2 HK.out.ng.2.1))
    | (refine wpList_store_chg wants_info rfl (.tmp 12) (.tmp 10) rfl g 2 rfl (ds := [.slice h.B n' h.bc]) rfl rfl (.cons rfl .nil) HB2.out (by simp [PH.cells]) (cs' := PH.cells { h with bn := n' } t.hand) rfl ?_; intro W1 h1 h2; have H1 := keep (show Arr W1 _ _ _ ∧ Chg _ w2 W1 from ⟨h1, h2⟩); clear h1 h2)
    | fail)
  go_returns
  refine ⟨rfl, keep ?_⟩
  obtain ⟨h1, h2⟩ := H1.out
  obtain ⟨e1, e2, e3⟩ := H2.out
  have e4 : (t.line.filter fun m => !decide (m.1 = x)) = leave t.line x := by
    unfold leave
    congr 1
  rw [e4] at e2
  obtain ⟨a1, a2, -⟩ := HK.out.lineP e2 e3 (fun i hi => .inl hi) h1 h2
  exact ⟨⟨n', a1⟩, ⟨a2.os.trans HF.out.os, a2.tape.trans HF.out.tape, a2.output.trans HF.out.output, Nat.le_trans HF.out.size a2.size, fun i hi hx => (a2.block i (Nat.lt_of_lt_of_le hi HF.out.size) hx).trans (HF.out.block i hi)⟩⟩
theorem pleave_at {w : World} {g K : Nat} {h : PH} {t : Ca V} (x : Int) (k : PC w g h K t) (hl : t.line.length ≤ 100000) :
    Calls Tryz.prog 76 #[.pointer (some ⟨g, 0, none⟩), .int .i64 x] w fun e w' => e = .returned (.tuple #[]) ∧ Hid (PTurn w w' (PHX g h) g K { t with line := leave t.line x }) := by
  refine (pleave_raw x k hl).mono ?_
  rintro e w' ⟨rfl, H⟩
  obtain ⟨n', h1, h2⟩ := H.out
  exact ⟨rfl, keep ⟨_, h1, h2.weak fun i _ hi => by rcases hi with hi | hi; exact .inl hi; exact .inr (.inr (.inr (.inl hi))), fun i hi => .inl hi⟩⟩
end
end Go.Proofs.YtmoaddbpfekdbaaGreat
