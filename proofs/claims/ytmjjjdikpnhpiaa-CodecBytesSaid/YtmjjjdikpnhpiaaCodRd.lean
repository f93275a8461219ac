/- Stores into the call's own boxes; the slices' sizes. -/
import Derived.Test.YtmjjjdikpnhpiaaActA
import Derived.Test.YtmjjjdikpnhpiaaNodA
import Derived.Test.YtmjjjdikpnhpiaaNodD
import Derived.Test.YtmjjjdikpnhpiaaCodU
import Derived.Deep.CutBlock
import Derived.Test.YtmjjjdikpnhpiaaOpn
namespace Go.Proofs.Ytmjjjdikpnhpiaa
set_option linter.unusedVariables false
set_option linter.unusedSimpArgs false
set_option maxRecDepth 100000
open Go.RowKit
theorem zg7 {w : World} {g : Nat} (ds : Array Value) : zic w (w.setRow g ds) g :=
 { other := fun hk hne => hk.setRowOther _ hne, fr := fun hf hg => zaM hf hg _, size := by simp [World.setRow], cell := fun p hp => World.cell?_of_block (setRow_other w g p.block _ hp) }
theorem zp {P : Program} {w : World} {ops : Array Oper} {rest : List Oper} {o : Oper} {a : Act} {Q : Exit → Act → World → Prop} {T n : Nat} (hs : (P.info? T).map (·.size) = some n) (hgd : o.guard = none) (x y : Operand) (ho : o.op = .store T x y)
 (g off : Nat) (hx : a.eval x = .pointer (some ⟨g, off, none⟩)) {ds : List Value} (hv : (a.eval y).cells.toList = ds) (hl : ds.length = n) (h1 : One ds)
 {T' : Nat} {cs : List Value} (ha : Arr w g T' cs.toArray) (hf : off + n ≤ cs.length) {cs' : List Value} (hc : splice cs off ds = cs')
 (h : ∀ W, Arr W g T' cs'.toArray → zic w W g → wpList P ops Q rest (a.put o.dst undef) W) : wpList P ops Q (o :: rest) a w :=
 wpList_plain hgd fun K hK => by
  unfold Oper.wp execOp;simp only [ho, hx, Instr.storeAt, Instr.sureAddr, Sem.run_bind, Sem.run_pure, Result.andThen_ok, zcm hs hv hl h1 ha hf, hc];exact hK _ _ (h _ (ha.setRow _) (zg7 _))
theorem zy {P : Program} {w : World} {ops : Array Oper} {o : Oper} {a : Act} {K : Act → World → Prop} {Q : Exit → Act → World → Prop} {E : Prop} {T n : Nat} (hs : (P.info? T).map (·.size) = some n) (hw : Region.wanted o (yielded ops a.tmps) = true) (x y : Operand) (ho : o.op = .store T x y)
 (g off : Nat) (hx : a.eval x = .pointer (some ⟨g, off, none⟩)) {ds : List Value} (hv : (a.eval y).cells.toList = ds) (hl : ds.length = n) (h1 : One ds)
 {T' : Nat} {cs : List Value} (ha : Arr w g T' cs.toArray) (hf : off + n ≤ cs.length) {cs' : List Value} (hc : splice cs off ds = cs')
 (hK : ∀ W, Arr W g T' cs'.toArray → zic w W g → K (a.put o.dst undef) W) : if Region.wanted o (yielded ops a.tmps) = true then Oper.wp P o a w K Q else E := by
 rw [if_pos hw];unfold Oper.wp execOp;simp only [ho, hx, Instr.storeAt, Instr.sureAddr, Sem.run_bind, Sem.run_pure, Result.andThen_ok, zcm hs hv hl h1 ha hf, hc];exact hK _ (ha.setRow _) (zg7 _)
theorem zbi (v : NV) : 0 + 5 ≤ v.cells.length := Nat.le_refl 5
theorem zaD (v : NV) {j : Nat} (h : j + 1 ≤ 5) : j + 1 ≤ v.cells.length := h
theorem sl_e : (Try.prog.info? 24).map (·.size) = some 1 := by kernel_rfl
theorem sl_i : (Try.prog.info? 25).map (·.size) = some 1 := by kernel_rfl
theorem sl_k : (Try.prog.info? 26).map (·.size) = some 1 := by kernel_rfl
theorem sl_m : (Try.prog.info? 27).map (·.size) = some 1 := by kernel_rfl
theorem zaV (A : Option Addr) (n c : Nat) : One [Value.slice A n c] := zdv _ rfl
end Go.Proofs.Ytmjjjdikpnhpiaa
/- The document's reader: what a whole block's zm are; appends beside what stays. -/
namespace Go.Proofs.Ytmjjjdikpnhpiaa
set_option linter.unusedVariables false
set_option linter.unusedSimpArgs false
set_option maxRecDepth 100000
open Go.RowKit
theorem step_app_el {P : Program} {w : World} {ops : Array Oper} {o : Oper} {a : Act} {K : Act → World → Prop} {Q : Exit → Act → World → Prop} {E : Prop} {t e size bytes : Nat} (L : zgM P e size bytes) (ht : P.underlying t = some (.slice e)) (hsz : 0 < size) (hgd : o.guard = none) (s x : Operand)
    (hop : o.op = .call { callee := .builtin .append, args := #[s, x], argTypes := #[t, t] }) {B : Nat} {A : Option Addr} {n c1 : Nat} {xs : List Value} (hs : a.eval s = .slice A n c1) (ho : Own w B e size A n c1 xs)
    {C : Nat} {A2 : Option Addr} {m c2 : Nat} {news : List Value} (hx : a.eval x = .slice A2 m c2) (hl : news.length = m * size) (hn : Has w C A2 news) (h1 : One news)
    (h63 : n + m ≤ maxLen) (hbytes : (n + m) * bytes ≤ 140737488355328) (hB : B ≤ w.heap.size)
    (h : ∀ A' c' w', Own w' B e size A' (n + m) c' (xs ++ news) → w.grownBy w' (blk A) → K (a.put o.dst (.slice A' (n + m) c')) w') :
    if Region.wanted o (yielded ops a.tmps) = true then Oper.wp P o a w K Q else E := by
  obtain ⟨i, z, hi, hz, hsize, hby, hzs⟩ := L.row
  obtain ⟨A', c', w', hr, h2, h3, h4⟩ := zcM (P := P) w B t o.type e i z size bytes ht hi hz hsize hby hzs hsz A n c1 xs ho C A2 m c2 news hl hn h1 h63 hbytes hB
  exact step_app_run (by simp [Region.wanted, hgd]) s x _ _ hop _ _ hs hx hr (h A' c' w' h2 h3)
section
variable {w W : World} {ok ok' : Nat → Prop} {v : NV} {n : RN} {row : Option Nat} {B g at_ : Nat} {bs : List Int} {bad : Bool}
theorem NP.grow (h : NP w ok v n) (k : w.grownBy W row) (hr : ∀ b, row = some b → ¬ ok b) : NP W ok v n := by
  have m : ∀ p : Addr, ok p.block → p.block < w.heap.size → W.cell? p = w.cell? p := fun p hp hl => World.cell?_of_block (k.block p.block hl (fun e => hr _ e.symm hp))
  exact { h with h1 := h.h1.move m, h2 := h.h2.move m, h3 := h.h3.move m, h4 := h.h4.move m }
theorem Qd.grow (h : Qd w B g bs at_ bad) (k : w.grownBy W row) (hr : ∀ b, row = some b → g < b) : Qd W B g bs at_ bad := by
  obtain ⟨A, c, ha, hh, h1, h2, h3, h4⟩ := h
  have hl := ha.lt
  exact ⟨A, c, (k.block g hl (fun e => by have := hr g e.symm; omega)).trans ha, hh.lift fun p hp => World.cell?_of_block (k.block p.block (by omega) (fun e => by have := hr _ e.symm; omega)), h1, h2, h3, h4⟩
theorem Qd.kept {k : Nat} (h : Qd w B g bs at_ bad) (q : zic w W k) (hne : g ≠ k) (hB : B ≤ k) : Qd W B g bs at_ bad := by
  obtain ⟨A, c, ha, hh, h1, h2, h3, h4⟩ := h
  exact ⟨A, c, q.other ha hne, hh.lift fun p hp => q.cell p (by omega), h1, h2, h3, h4⟩
theorem Qd.bad' (h : Qd w B g bs at_ bad) : w.cell? ⟨g, 2, none⟩ = some (.bool bad) := by
  obtain ⟨A, c, ha, -⟩ := h
  rw [ha.cell]; rfl
theorem own_stay {e size n c : Nat} {A : Option Addr} {xs : List Value} (h : Own w B e size A n c xs) (k : zic w W g) (hg : g < B) : Own W B e size A n c xs := by
  refine ⟨h.1, ?_⟩
  rcases h.2 with hn | ⟨b, cap, cur, hv, hb, hA, h1, h2, h3, h4⟩
  · exact .inl hn
  · exact .inr ⟨b, cap, cur, hv, hb, k.other hA (by omega), h1, h2, h3, h4⟩
variable {Bz j c : Nat} {A : Option Addr}
theorem NP.put1 {l : List RE} (h : NP W ok v n) (o : Own W Bz 74 26 A j c (zm ec l)) (hj : l.length = j) (hk : ∀ b, ok b → ok' b) (hb : ∀ b, b < W.heap.size → Bz ≤ b → ok' b) (hs : j ≤ 100000) (wl : WfE l) : NP W ok' (v.set1 A j c) { n with es := l } := by
  have h' := h.weak (ok' := ok') (fun b _ k => hk b k)
  exact { h' with h1 := (o.hasP (ok := fun b => Bz ≤ b) fun _ h => h).weak hb, l1 := hj, k1 := o.cap, s1 := hs, w1 := wl }
theorem NP.put2 {l : List Int} (h : NP W ok v n) (o : Own W Bz 3 1 A j c (zm ic l)) (hj : l.length = j) (hk : ∀ b, ok b → ok' b) (hb : ∀ b, b < W.heap.size → Bz ≤ b → ok' b) (hs : j ≤ 100000) : NP W ok' (v.set2 A j c) { n with ks := l } := by
  have h' := h.weak (ok' := ok') (fun b _ k => hk b k)
  rw [rows_ic] at o
  exact { h' with h2 := (o.hasP (ok := fun b => Bz ≤ b) fun _ h => h).weak hb, l2 := hj, k2 := o.cap, s2 := hs }
theorem NP.put3 {l : List RK} (h : NP W ok v n) (o : Own W Bz 69 9 A j c (zm kc l)) (hj : l.length = j) (hk : ∀ b, ok b → ok' b) (hb : ∀ b, b < W.heap.size → Bz ≤ b → ok' b) (hs : j ≤ 100000) (wl : WfK l) : NP W ok' (v.set3 A j c) { n with ps := l } := by
  have h' := h.weak (ok' := ok') (fun b _ k => hk b k)
  exact { h' with h3 := (o.hasP (ok := fun b => Bz ≤ b) fun _ h => h).weak hb, l3 := hj, k3 := o.cap, s3 := hs, w3 := wl }
theorem NP.put4 {l : List RM} (h : NP W ok v n) (o : Own W Bz 81 29 A j c (zm mc l)) (hj : l.length = j) (hk : ∀ b, ok b → ok' b) (hb : ∀ b, b < W.heap.size → Bz ≤ b → ok' b) (hs : j ≤ 100000) (wl : WfM l) : NP W ok' (v.set4 A j c) { n with ms := l } := by
  have h' := h.weak (ok' := ok') (fun b _ k => hk b k)
  exact { h' with h4 := (o.hasP (ok := fun b => Bz ≤ b) fun _ h => h).weak hb, l4 := hj, k4 := o.cap, s4 := hs, w4 := wl }
end
/-- The reader's world: its two zaz (the reader, the node as it is so far), the result's, the finished zm. -/
structure RdS (w W : World) (Bz : Nat) (bs : List Int) (at_ : Nat) (bad : Bool) (vb v : NV) (n : RN) : Prop where
  f : Fr w W
  a : Arr W (w.heap.size + 2) 29 vb.cells.toArray
  m : Arr W w.heap.size 29 zh.cells.toArray
  q : Qd W w.heap.size (w.heap.size + 1) bs at_ bad
  p : NP W (fun b => w.heap.size + 3 ≤ b ∧ b < Bz) v n
  z : w.heap.size + 3 ≤ Bz ∧ Bz ≤ W.heap.size
section
variable {w W W' : World} {Bz : Nat} {bs : List Int} {at_ at2 : Nat} {bad bad2 : Bool} {vb vb' v : NV} {n : RN} {e size j c : Nat} {A : Option Addr} {xs : List Value}
theorem RdS.fr (s : RdS w W Bz bs at_ bad vb v n) (k : Fr W W') : RdS w W' Bz bs at_ bad vb v n :=
  ⟨za s.f k, s.a.below k s.a.lt, s.m.below k s.m.lt, s.q.fr k, s.p.fr k, s.z.1, Nat.le_trans s.z.2 k.size⟩
theorem RdS.kpg (s : RdS w W Bz bs at_ bad vb v n) (k : KpG W (w.heap.size + 1) W') (q : Qd W' w.heap.size (w.heap.size + 1) bs at2 bad2) : RdS w W' Bz bs at2 bad2 vb v n :=
  ⟨k.below s.f s.f.size (Nat.le_succ _), k.arr s.a (by omega), k.arr s.m (by omega), q, s.p.kpg k (fun h => by have := h.1; omega), s.z.1, Nat.le_trans s.z.2 k.size⟩
theorem RdS.row (s : RdS w W Bz bs at_ bad vb v n) (k : KpG W (w.heap.size + 1) W') (o : Own W Bz e size A j c xs) : Own W' Bz e size A j c xs :=
  Own.kept o k (.inr fun e => by have := (o.lt _ e).1; have := s.z.1; omega)
theorem RdS.grow (s : RdS w W Bz bs at_ bad vb v n) (o : Own W Bz e size A j c xs) (k : W.grownBy W' (blk A)) : RdS w W' Bz bs at_ bad vb v n := by
  have z := s.z
  have ne : ∀ g, g < Bz → some g ≠ blk A := fun g hg e => by have := (o.lt g e.symm).1; omega
  exact ⟨zat s.f o k s.f.size (by omega), (k.block _ s.a.lt (ne _ (by omega))).trans s.a, (k.block _ s.m.lt (ne _ (by omega))).trans s.m, s.q.grow k (fun b e => by have := (o.lt b e).1; omega), s.p.grow k (fun b e h => by have := (o.lt b e).1; have := h.2; omega), z.1, Nat.le_trans z.2 k.size⟩
theorem RdS.put (s : RdS w W Bz bs at_ bad vb v n) (k : zic W W' (w.heap.size + 2)) (a : Arr W' (w.heap.size + 2) 29 vb'.cells.toArray) : RdS w W' Bz bs at_ bad vb' v n := by
  have z := s.z
  have F := k.fr s.f (Nat.le_add_right _ _)
  have zs := a.lt
  exact ⟨F, a, k.other s.m (by omega), s.q.kept k (by omega) (by omega), s.p.kept k (fun h => by have := h.1; omega), z.1, by rw [k.size]; exact z.2⟩
theorem RdS.rowp (s : RdS w W Bz bs at_ bad vb v n) (k : zic W W' (w.heap.size + 2)) (o : Own W Bz e size A j c xs) : Own W' Bz e size A j c xs := own_stay o k (by have := s.z.1; omega)
theorem RdS.cell (s : RdS w W Bz bs at_ bad vb v n) : ∀ j, W.cell? ⟨w.heap.size + 2, j, none⟩ = vb.cells.toArray[j]? := fun j => by rw [s.a.cell]
end
section
variable {w W : World} {Bz : Nat} {bs : List Int} {at_ : Nat} {bad : Bool} {vb v : NV} {n : RN} {j c : Nat} {A : Option Addr}
theorem RdS.done1 {l : List RE} (s : RdS w W Bz bs at_ bad (v.set1 A j c) v n) (o : Own W Bz 74 26 A j c (zm ec l)) (hj : l.length = j) (wl : WfE l) (hs : j ≤ 255) : RdS w W W.heap.size bs at_ bad (v.set1 A j c) (v.set1 A j c) { n with es := l } :=
  ⟨s.f, s.a, s.m, s.q, s.p.put1 o hj (fun b h => ⟨h.1, Nat.lt_of_lt_of_le h.2 s.z.2⟩) (fun b h1 h2 => ⟨Nat.le_trans s.z.1 h2, h1⟩) (by omega) wl, Nat.le_trans s.z.1 s.z.2, Nat.le_refl _⟩
theorem RdS.done2 {l : List Int} (s : RdS w W Bz bs at_ bad (v.set2 A j c) v n) (o : Own W Bz 3 1 A j c (zm ic l)) (hj : l.length = j) (hs : j ≤ 255) : RdS w W W.heap.size bs at_ bad (v.set2 A j c) (v.set2 A j c) { n with ks := l } :=
  ⟨s.f, s.a, s.m, s.q, s.p.put2 o hj (fun b h => ⟨h.1, Nat.lt_of_lt_of_le h.2 s.z.2⟩) (fun b h1 h2 => ⟨Nat.le_trans s.z.1 h2, h1⟩) (by omega), Nat.le_trans s.z.1 s.z.2, Nat.le_refl _⟩
theorem RdS.done3 {l : List RK} (s : RdS w W Bz bs at_ bad (v.set3 A j c) v n) (o : Own W Bz 69 9 A j c (zm kc l)) (hj : l.length = j) (wl : WfK l) (hs : j ≤ 255) : RdS w W W.heap.size bs at_ bad (v.set3 A j c) (v.set3 A j c) { n with ps := l } :=
  ⟨s.f, s.a, s.m, s.q, s.p.put3 o hj (fun b h => ⟨h.1, Nat.lt_of_lt_of_le h.2 s.z.2⟩) (fun b h1 h2 => ⟨Nat.le_trans s.z.1 h2, h1⟩) (by omega) wl, Nat.le_trans s.z.1 s.z.2, Nat.le_refl _⟩
theorem RdS.done4 {l : List RM} (s : RdS w W Bz bs at_ bad (v.set4 A j c) v n) (o : Own W Bz 81 29 A j c (zm mc l)) (hj : l.length = j) (wl : WfM l) (hs : j ≤ 255) : RdS w W W.heap.size bs at_ bad (v.set4 A j c) (v.set4 A j c) { n with ms := l } :=
  ⟨s.f, s.a, s.m, s.q, s.p.put4 o hj (fun b h => ⟨h.1, Nat.lt_of_lt_of_le h.2 s.z.2⟩) (fun b h1 h2 => ⟨Nat.le_trans s.z.1 h2, h1⟩) (by omega) wl, Nat.le_trans s.z.1 s.z.2, Nat.le_refl _⟩
end
/-- A node of nothing yet. -/
def lfV (b : Bool) : NV := ⟨b, none, 0, 0, none, 0, 0, none, 0, 0, none, 0, 0⟩
def lfN (b : Bool) : RN := ⟨b, [], [], [], []⟩
theorem lf_np {w : World} {ok : Nat → Prop} (b : Bool) : NP w ok (lfV b) (lfN b) := ⟨rfl, zR.nil, rfl, Nat.le_refl _, (by show 0 ≤ 100000; decide), fun m hm => by simp [lfN] at hm, zR.nil, rfl, Nat.le_refl _, (by show 0 ≤ 100000; decide), zR.nil, rfl, Nat.le_refl _, (by show 0 ≤ 100000; decide), fun m hm => by simp [lfN] at hm, zR.nil, rfl, Nat.le_refl _, (by show 0 ≤ 100000; decide), fun m hm => by simp [lfN] at hm⟩
theorem all_snoc {α : Type} {P : α → Prop} {l : List α} {x : α} (h : ∀ m ∈ l, P m) (hx : P x) : ∀ m ∈ l ++ [x], P m := fun m hm => by
  rcases List.mem_append.1 hm with hm | hm
  · exact h m hm
  · rw [List.mem_singleton.1 hm]; exact hx
/-! What a round reads, if the bytes are a node's. -/
section
variable {G : Prop} {bs R : List Int} {j at_ at1 at2 : Nat} {bad bad1 bad2 : Bool}
/-- l: what is read so far of L, each as f has it; R behind. -/
def GI {α : Type} (G : Prop) (L : List α) (f : α → List Int) (R bs : List Int) (j : Nat) (l : List α) (at_ : Nat) (bad : Bool) : Prop := G → bad = false ∧ l = L.take j ∧ bs.drop at_ = (L.drop j).flatMap f ++ R
theorem gi_next {α : Type} {L l : List α} {f : α → List Int} (h : GI G L f R bs j l at_ bad) (hj : G → j < L.length) : G → ∃ x, L[j]? = some x ∧ bad = false ∧ bs.drop at_ = f x ++ ((L.drop (j + 1)).flatMap f ++ R) ∧ l ++ [x] = L.take (j + 1) := fun q => by
  obtain ⟨h1, h2, h3⟩ := h q
  have hl := hj q
  refine ⟨L[j], List.getElem?_eq_getElem hl, h1, ?_, ?_⟩
  · rw [h3, List.drop_eq_getElem_cons hl, List.flatMap_cons, List.append_assoc]
  · rw [h2, List.take_succ_eq_append_getElem hl]
theorem gi_end {α : Type} {L l : List α} {f : α → List Int} {cnt : Nat} (h : GI G L f R bs j l at_ bad) (hc : G → cnt = L.length) (he : ¬ (j < cnt) ∨ bad = true) : G → bad = false ∧ l = L ∧ bs.drop at_ = R := fun q => by
  obtain ⟨h1, h2, h3⟩ := h q
  have hl := hc q
  have hj : L.length ≤ j := by
    rcases he with he | he
    · omega
    · rw [h1] at he; cases he
  exact ⟨h1, by rw [h2, List.take_of_length_le hj], by rw [h3, List.drop_of_length_le hj]; rfl⟩
/-- Entries. -/
theorem ge_pre {L l : List RE} (hL : G → ∀ e ∈ L, e.ok) (h : GI G L eB R bs j l at_ bad) (hj : G → j < L.length) : G → bad = false ∧ 1 + ctP (bs.drop at_) ≤ (bs.drop at_).length ∧ ctP (bs.drop at_) ≤ 8 := fun q => by
  obtain ⟨x, hx, h1, h2, -⟩ := gi_next h hj q
  have o := hL q x (List.mem_of_getElem? hx)
  rw [h2, eB, List.append_assoc]
  exact ⟨h1, tOk_key o.ok _⟩
theorem ge_mid {L l : List RE} (hL : G → ∀ e ∈ L, e.ok) (h : GI G L eB R bs j l at_ bad) (hj : G → j < L.length) {x : RK} (h1 : G → x = (kyP (bs.drop at_)).1 ∧ bs.drop at1 = (kyP (bs.drop at_)).2 ∧ bad1 = false) :
    G → bad1 = false ∧ 1 + ctP (bs.drop at1) ≤ (bs.drop at1).length ∧ ctP (bs.drop at1) ≤ 16 := fun q => by
  obtain ⟨e, he, -, h2, -⟩ := gi_next h hj q
  obtain ⟨-, g2, g3⟩ := h1 q
  have o := hL q e (List.mem_of_getElem? he)
  rw [g2, h2, eB, List.append_assoc, kyP_of o.ok]
  exact ⟨g3, tOk_val o.wv o.ov _⟩
theorem ge_step {L l : List RE} (hL : G → ∀ e ∈ L, e.ok) (h : GI G L eB R bs j l at_ bad) (hj : G → j < L.length) {x : RK} {y : RV} (h1 : G → x = (kyP (bs.drop at_)).1 ∧ bs.drop at1 = (kyP (bs.drop at_)).2 ∧ bad1 = false)
    (h2 : G → y = (vlP (bs.drop at1)).1 ∧ bs.drop at2 = (vlP (bs.drop at1)).2 ∧ bad2 = false) : GI G L eB R bs (j + 1) (l ++ [⟨x, y⟩]) at2 bad2 := fun q => by
  obtain ⟨e, he, -, e2, e3⟩ := gi_next h hj q
  obtain ⟨a1, a2, -⟩ := h1 q
  obtain ⟨b1, b2, b3⟩ := h2 q
  have o := hL q e (List.mem_of_getElem? he)
  rw [e2, eB, List.append_assoc, kyP_of o.ok] at a1 a2
  dsimp only at a1 a2
  rw [a2, vlP_of o.wv o.ov] at b1 b2
  dsimp only at b1 b2
  rw [a1, b1]
  exact ⟨b3, e3, b2⟩
/-- Numbers of kids. -/
theorem gk_pre {L l : List Int} (h : GI G L iB R bs j l at_ bad) (hj : G → j < L.length) : G → bad = false ∧ 4 ≤ (bs.drop at_).length := fun q => by
  obtain ⟨x, hx, h1, h2, -⟩ := gi_next h hj q
  rw [h2, List.length_append, iB, zcP]
  exact ⟨h1, by omega⟩
theorem gk_step {L l : List Int} (hL : G → ∀ z ∈ L, 0 ≤ z ∧ z < 4294967296) (h : GI G L iB R bs j l at_ bad) (hj : G → j < L.length) {x : Int} (h1 : G → x = nmP 4 (bs.drop at_) ∧ bs.drop at1 = (bs.drop at_).drop 4 ∧ bad1 = false) :
    GI G L iB R bs (j + 1) (l ++ [x]) at1 bad1 := fun q => by
  obtain ⟨e, he, -, e2, e3⟩ := gi_next h hj q
  obtain ⟨a1, a2, a3⟩ := h1 q
  have o := hL q e (List.mem_of_getElem? he)
  have ek := kdP_of o.1 o.2 ((L.drop (j + 1)).flatMap iB ++ R)
  rw [← e2] at ek
  obtain ⟨k1, k2⟩ := Prod.mk.inj ek
  rw [k1] at a1
  rw [k2] at a2
  rw [a1]
  exact ⟨a3, e3, a2⟩
theorem qkid_at {w : World} {B g : Nat} (h : Qd w B g bs at_ bad) (hby : zdi bs) {x0 : Int} {r0 : List Int} (hG : Hid (G → bad = false ∧ 4 ≤ (bs.drop at_).length)) (hk : Hid (nmP 4 (bs.drop at_) = x0)) (hr : Hid ((bs.drop at_).drop 4 = r0)) :
    Calls Try.prog 45 #[.pointer (some ⟨g, 0, none⟩), .int .i64 4] w (QR w B g bs (fun z => .int .u64 z) (fun z => 0 ≤ z ∧ z < 4294967296) G x0 r0) :=
  (qnum_at h hby 4 (by decide) (by decide)).mono fun e w' ⟨x, a, b, e1, h1⟩ => ⟨x, a, b, e1, zb ⟨h1.out.1, h1.out.2.1, h1.out.2.2.1, fun q => by rw [← hk.out, ← hr.out]; exact h1.out.2.2.2 (hG.out q)⟩⟩
/-- Pivots. -/
theorem gp_pre {L l : List RK} (hL : G → ∀ k ∈ L, okB k = true) (h : GI G L kB R bs j l at_ bad) (hj : G → j < L.length) : G → bad = false ∧ 1 + ctP (bs.drop at_) ≤ (bs.drop at_).length ∧ ctP (bs.drop at_) ≤ 8 := fun q => by
  obtain ⟨x, hx, h1, h2, -⟩ := gi_next h hj q
  rw [h2]
  exact ⟨h1, tOk_key (hL q x (List.mem_of_getElem? hx)) _⟩
theorem gp_step {L l : List RK} (hL : G → ∀ k ∈ L, okB k = true) (h : GI G L kB R bs j l at_ bad) (hj : G → j < L.length) {x : RK} (h1 : G → x = (kyP (bs.drop at_)).1 ∧ bs.drop at1 = (kyP (bs.drop at_)).2 ∧ bad1 = false) :
    GI G L kB R bs (j + 1) (l ++ [x]) at1 bad1 := fun q => by
  obtain ⟨e, he, -, e2, e3⟩ := gi_next h hj q
  obtain ⟨a1, a2, a3⟩ := h1 q
  rw [e2, kyP_of (hL q e (List.mem_of_getElem? he))] at a1 a2
  dsimp only at a1 a2
  rw [a1]
  exact ⟨a3, e3, a2⟩
/-- Messages. -/
theorem gm_pre {L l : List RM} (hL : G → ∀ m ∈ L, m.wf ∧ okM m = true) (h : GI G L mB R bs j l at_ bad) (hj : G → j < L.length) : G → bad = false ∧ mOk (bs.drop at_) := fun q => by
  obtain ⟨x, hx, h1, h2, -⟩ := gi_next h hj q
  have o := hL q x (List.mem_of_getElem? hx)
  rw [h2]
  exact ⟨h1, mOk_of o.1 o.2 _⟩
theorem gm_step {L l : List RM} (hL : G → ∀ m ∈ L, m.wf ∧ okM m = true) (h : GI G L mB R bs j l at_ bad) (hj : G → j < L.length) {x : RM} (h1 : G → x = (msP (bs.drop at_)).1 ∧ bs.drop at1 = (msP (bs.drop at_)).2 ∧ bad1 = false) :
    GI G L mB R bs (j + 1) (l ++ [x]) at1 bad1 := fun q => by
  obtain ⟨e, he, -, e2, e3⟩ := gi_next h hj q
  obtain ⟨a1, a2, a3⟩ := h1 q
  have o := hL q e (List.mem_of_getElem? he)
  rw [e2, msP_of o.1 o.2] at a1 a2
  dsimp only at a1 a2
  rw [a1]
  exact ⟨a3, e3, a2⟩
end
/-- A block's first bytes, and what stands behind the sum. -/
theorem bk_front {n : RN} (h : Fit n) : (bkB n)[0]? = some (if n.lf = true then 1 else 2) ∧ (bkB n)[1]? = some (if n.lf = true then (n.es.length : Int) else (n.ks.length : Int)) ∧ (bkB n)[2]? = some (n.ms.length : Int) ∧
    (bkB n).drop 8 = n.es.flatMap eB ++ (n.ks.flatMap iB ++ (n.ps.flatMap kB ++ (n.ms.flatMap mB ++ List.replicate (248 - (bodyB n).length) 0))) ∧ n.ps.length = n.ks.length - 1 ∧ (n.lf = true → n.ks = []) ∧ (n.lf = false → n.es = []) := by
  have e8 := bk_drop8 n
  have e9 : bodyB n ++ List.replicate (248 - (bodyB n).length) 0 = n.es.flatMap eB ++ (n.ks.flatMap iB ++ (n.ps.flatMap kB ++ (n.ms.flatMap mB ++ List.replicate (248 - (bodyB n).length) 0))) := by
    generalize List.replicate (248 - (bodyB n).length) 0 = r
    unfold bodyB
    simp only [List.append_assoc]
  rw [e9] at e8
  rcases h.1 with ⟨hl, e2, e3, e4, oe⟩ | ⟨hl, e1, hk, hp, op, ol⟩
  · have hb : bkB n = 1 :: (n.es.length : Int) :: 0 :: 0 :: (leB (sumB (pdB n)) 4 ++ (bodyB n ++ List.replicate (248 - (bodyB n).length) 0)) := by rw [bk_split, show headB n = [1, (n.es.length : Int), 0, 0] from by unfold headB; rw [hl, if_pos rfl]]; rfl
    refine ⟨by rw [hb, hl]; rfl, by rw [hb, hl]; rfl, by rw [hb, e4]; rfl, e8, by rw [e2, e3]; rfl, fun _ => e2, fun q => by rw [hl] at q; cases q⟩
  · have hb : bkB n = 2 :: (n.ks.length : Int) :: (n.ms.length : Int) :: 0 :: (leB (sumB (pdB n)) 4 ++ (bodyB n ++ List.replicate (248 - (bodyB n).length) 0)) := by rw [bk_split, show headB n = [2, (n.ks.length : Int), (n.ms.length : Int), 0] from by unfold headB; rw [hl, if_neg (by decide)]]; rfl
    refine ⟨by rw [hb, hl]; rfl, by rw [hb, hl]; rfl, by rw [hb]; rfl, e8, by omega, fun q => (by rw [hl] at q; cases q), fun _ => e1⟩
end Go.Proofs.Ytmjjjdikpnhpiaa
/- The document's reader: the node. -/
namespace Go.Proofs.Ytmjjjdikpnhpiaa
set_option linter.unusedVariables false
set_option linter.unusedSimpArgs false
set_option maxRecDepth 100000
open Go.RowKit
attribute [local go_sem ↓] zw zt zae zbh zaP
theorem byte_at {w : World} {B blk0 off : Nat} {bs : List Int} (hh : Has w B (some ⟨blk0, off, none⟩) (u8s bs)) (hB : B ≤ w.heap.size) {i : Nat} {z : Int} (hz : bs[i]? = some z) : ∀ W, Fr w W → W.cell? ⟨blk0, off + i, none⟩ = some (.int .u8 z) := fun W k => by
  obtain ⟨b, o, e, hb, hx⟩ := hh i (.int .u8 z) (by simp [hz])
  injection e with e
  injection e with e1 e2
  subst e1 e2
  rw [k.cell (by show blk0 < w.heap.size; omega), hx]
set_option maxHeartbeats 4000000 in
theorem qread_at {w : World} {B blk0 off c : Nat} {bs : List Int} (hh : Has w B (some ⟨blk0, off, none⟩) (u8s bs)) (hb0 : blk0 < B) (hB : B ≤ w.heap.size) (hl : bs.length = 256) (hc : 256 ≤ c) (hby : zdi bs) {G : Prop} {N : RN} (hG : G → Fit N ∧ bkB N = bs) :
    Calls Try.prog 16 #[.slice (some ⟨blk0, off, none⟩) 256 c] w fun e w' => ∃ v r, e = .returned (nv v) ∧ Hid (NP w' (fun b => w.heap.size ≤ b) v r ∧ Fr w w' ∧ (G → r = N)) := by
  obtain ⟨z0, e0⟩ : ∃ z, bs[0]? = some z := ⟨_, List.getElem?_eq_getElem (by omega)⟩
  obtain ⟨z1, e1⟩ : ∃ z, bs[1]? = some z := ⟨_, List.getElem?_eq_getElem (by omega)⟩
  obtain ⟨z2, e2⟩ : ∃ z, bs[2]? = some z := ⟨_, List.getElem?_eq_getElem (by omega)⟩
  have b1 := hby z1 (List.mem_of_getElem? e1)
  have b2 := hby z2 (List.mem_of_getElem? e2)
  obtain ⟨cnt, rfl⟩ := Int.eq_ofNat_of_zero_le b1.1
  obtain ⟨mct, rfl⟩ := Int.eq_ofNat_of_zero_le b2.1
  have c0 := byte_at hh hB e0
  have c1 := byte_at hh hB e1
  have c2 := byte_at hh hB e2
  obtain ⟨lf, hlf⟩ : ∃ b, (z0 == 1) = b := ⟨_, rfl⟩
  have hw1 : IntKind.i64.wrap (cnt : Int) = (cnt : Int) := by rw [IntKind.wrap_i64]; omega
  have hw2 : IntKind.i64.wrap (mct : Int) = (mct : Int) := by rw [IntKind.wrap_i64]; omega
  obtain ⟨R4, hR4⟩ : ∃ R, R = List.replicate (248 - (bodyB N).length) (0 : Int) := ⟨_, rfl⟩
  have GF : Hid (G → lf = N.lf ∧ (N.lf = true → cnt = N.es.length) ∧ (N.lf = false → cnt = N.ks.length) ∧ mct = N.ms.length ∧ bs.drop 8 = N.es.flatMap eB ++ (N.ks.flatMap iB ++ (N.ps.flatMap kB ++ (N.ms.flatMap mB ++ R4))) ∧ N.ps.length = N.ks.length - 1 ∧ (N.lf = true → N.ks = []) ∧ (N.lf = false → N.es = []) ∧ Wr N) := zb fun q => by
    obtain ⟨f1, f2⟩ := hG q
    obtain ⟨g0, g1, g2, g3, g4, g5, g6⟩ := bk_front f1
    rw [f2] at g0 g1 g2 g3
    rw [e0] at g0
    rw [e1] at g1
    rw [e2] at g2
    injection g0 with g0
    injection g1 with g1
    injection g2 with g2
    refine ⟨?_, fun q => by rw [if_pos q] at g1; omega, fun q => by rw [if_neg (by rw [q]; decide)] at g1; omega, by omega, by rw [g3, hR4], g4, g5, g6, (wr_of f1.1 f1.2).toWr⟩
    rw [← hlf, g0]
    cases N.lf <;> rfl
  have hb1 : cnt ≤ 255 := by omega
  have hb2 : mct ≤ 255 := by omega
  have fr0 := ze w
  obtain ⟨Y, hY, fY, aM, aQ⟩ : ∃ Y, (w.alloc (.cells zh.cells.toArray 29)).alloc (.cells #[.slice (some ⟨blk0, off, none⟩) 256 c, .int .i64 8, .bool false] 86) = Y ∧ Fr w Y ∧ Arr Y w.heap.size 29 zh.cells.toArray ∧ Arr Y (w.heap.size + 1) 86 #[.slice (some ⟨blk0, off, none⟩) 256 c, .int .i64 8, .bool false] :=
    ⟨_, rfl, zf (zf (ze _) _) _, (Arr.new _ _ _).alloc _, zbr _ _ _ _ (by simp)⟩
  rw [zeroN_cells] at hY
  have zY : Hid (Y.heap.size = w.heap.size + 2) := zb (by rw [← hY]; simp)
  clear hG e0 e1 e2 b1 b2 hR4
  go_enter Try.func16, Try.ntmps16
  go_upto_region 2 with fail
  obtain ⟨V, hV, fV, aV⟩ : ∃ V, Y.alloc (.cells zh.cells.toArray 29) = V ∧ Fr Y V ∧ Arr V Y.heap.size 29 zh.cells.toArray := ⟨_, rfl, zf (ze _) _, Arr.new _ _ _⟩
  rw [zeroN_cells] at hV
  have eY := zY.out
  rw [eY] at aV
  have FV := za fY fV
  have hc0 : Y.cell? ⟨blk0, off, none⟩ = some (.int .u8 z0) := c0 Y fY
  have tok1 : Hid (0 < 1) := zb (by decide)
  go_upto_region 3 with (first
    | (clear tok1; refine zp (ds := NV.cells (lfV lf)) zaw rfl (.tmp 4) (.tmp 15) rfl (w.heap.size + 2) 0 rfl rfl rfl (za6 _) aV (zbi _) (zk _ _ (Nat.le_of_eq rfl)) ?_; intro Z aZ uZ)
    | fail)
  try simp only [Act.put]
  have FZ := uZ.fr FV (Nat.le_add_right _ _)
  have zZ : w.heap.size + 3 ≤ Z.heap.size := aZ.lt
  have SZ : Hid (RdS w Z (w.heap.size + 3) bs 8 false (lfV lf) (lfV lf) (lfN lf)) := zb ⟨FZ, aZ, uZ.other (aM.below fV aM.lt) (by omega), ⟨_, c, uZ.other (aQ.below fV aQ.lt) (by omega), (hh.mono hB).lift fun p hp => (FZ.cell hp), hl, hc, by decide, Nat.le_succ _⟩, lf_np lf, Nat.le_refl _, zZ⟩
  clear hc0 eY zY aV uZ aZ aM aQ fV fY hV hY FV zZ hh hb0 hB hl hc c0 hlf
  go_upto_block 0 with fail
  try simp only [Act.put]
  have hlt0 : ∀ b, lf = b → lf = b := fun _ h => h
  go_cut [5] from 16 to 50 (fun s5 wx => ∃ (A1 A2 : Option Addr) (n1 c1 n2 c2 at_ : Nat) (bad : Bool) (es : List RE) (ks : List Int), Hid (RdS w wx wx.heap.size bs at_ bad ⟨lf, A1, n1, c1, A2, n2, c2, none, 0, 0, none, 0, 0⟩ ⟨lf, A1, n1, c1, A2, n2, c2, none, 0, 0, none, 0, 0⟩ ⟨lf, es, ks, [], []⟩) ∧ Hid (n2 ≤ 255 ∧ ks.length = n2) ∧ Hid (G → es = N.es ∧ ks = N.ks) ∧ Hid (GI G N.ps kB (N.ms.flatMap mB ++ R4) bs 0 [] at_ bad))
  case first =>
    rcases Bool.eq_false_or_eq_true lf with hb | hb
    · have hE := zb hb
      clear hb
      have GC : Hid (G → cnt = N.es.length) := zb fun q => by
        obtain ⟨g1, g2, g3, -⟩ := GF.out q
        exact g2 (g1.symm.trans hE.out)
      go_wp2_with fail
      go_loopg [5] cnt (fun gg s5 wr => ∃ (j : Nat) (A : Option Addr) (c : Nat) (l : List RE) (at_ : Nat) (bad : Bool), Hid (j + gg = cnt) ∧ s5 = .int .i64 j ∧ Hid (RdS w wr (w.heap.size + 3) bs at_ bad (NV.set1 (lfV lf) A j c) (lfV lf) (lfN lf)) ∧ Hid (Own wr (w.heap.size + 3) 74 26 A j c (zm ec l)) ∧ Hid (l.length = j ∧ WfE l) ∧ Hid (GI G N.es eB (N.ks.flatMap iB ++ (N.ps.flatMap kB ++ (N.ms.flatMap mB ++ R4))) bs j l at_ bad))
      case atStart =>
        refine ⟨0, none, 0, [], 8, false, zb (by omega), rfl, SZ, zb (Own.nil _ _ _ _), zb ⟨rfl, (fun m hm => by simp at hm)⟩, zb fun q => ⟨rfl, rfl, ?_⟩⟩
        obtain ⟨g1, g2, g3, g4, g5, g6, g7, g8, -⟩ := GF.out q
        rw [g5]
        rfl
      case round =>
        obtain ⟨j, A, c, l, at_, bad, Hj, rfl, hS, hO, hW, hI⟩ := hrel
        have hjb : j ≤ 255 := by have := Hj.out; omega
        have d1 := c1 wr hS.out.f
        have d2 := hS.out.q.bad'
        have d3 : wr.cell? ⟨w.heap.size + 2, 0, none⟩ = some (.bool true) := by rw [← hE.out]; exact hS.out.cell 0
        have hF := hS.out.f
        by_cases hlt : j < cnt
        · have hjz : (j : Int) < (cnt : Int) := by omega
          cases bad
          · have hG1 : Hid (G → j < N.es.length) := zb fun q => by have := GC.out q; omega
            obtain ⟨x0, hx0⟩ : ∃ x, (kyP (bs.drop at_)).1 = x := ⟨_, rfl⟩
            obtain ⟨r0, hr0⟩ : ∃ x, (kyP (bs.drop at_)).2 = x := ⟨_, rfl⟩
            have HX := zb hx0
            have HR := zb hr0
            have gE : Hid (G → ∀ e ∈ N.es, e.ok) := zb fun q => (GF.out q).2.2.2.2.2.2.2.2.es
            have pre := zb (ge_pre gE.out hI.out hG1.out)
            clear hx0 hr0 hlt
            have hrD : Fr wr wr.drew := zn (ze wr)
            have S0 := hS.out.fr hrD
            have o0 := Own.below hO.out hrD (Nat.le_refl _)
            have FD := S0.f
            clear hS hO
            have cK := qkey_at S0.q hby (G := G) (k0 := x0) (r0 := r0) pre HX HR
            go_wp2_with fail
            refine wp_region_noPanic ?_
            refine wp_region_held_drew (S := fun W => Fr w W) (by kernel_rfl) FD (fun hHeld => ?_)
            change wpAnyH _ _ _ _ _ _ _ _ _
            generalize wr.drew = X0 at *
            have l0 : X0.cell? ⟨w.heap.size + 2, 1, none⟩ = some (.slice A j c) := S0.cell 1
            refine wpAnyH_take (i := 0) (v := ?_) rfl (by kernel_rfl) (by kernel_rfl) (by kernel_rfl) (fun _ _ _ h => h) (Or.inl ⟨by rfl, ?_⟩) (by assumption) ?_
            rotate_left
            · intro w' hSw
              try dsimp only at hSw
              go_simp
              try with_reducible rfl
            try simp only [List.getElem_toArray, List.getElem_cons_zero, Act.put, List.setIfInBounds_toArray, List.set_cons_zero, List.set_cons_succ]
            refine wpAnyH_take (i := 2) (v := ?_) rfl (by kernel_rfl) (by kernel_rfl) (by kernel_rfl) (fun _ _ _ h => h) (Or.inl ⟨by rfl, ?_⟩) (by assumption) ?_
            rotate_left
            · intro w' hSw
              try dsimp only at hSw
              go_simp
              try with_reducible rfl
            try simp only [List.getElem_toArray, List.getElem_cons_succ, List.getElem_cons_zero, Act.put, List.setIfInBounds_toArray, List.set_cons_zero, List.set_cons_succ]
            refine wpAnyH_take (i := 4) (v := ?_) rfl (by kernel_rfl) (by kernel_rfl) (by kernel_rfl) (fun _ _ _ h => h) (Or.inl ⟨by rfl, ?_⟩) (by assumption) ?_
            rotate_left
            · intro w' hSw
              try dsimp only at hSw
              go_simp
              try with_reducible rfl
            try simp only [List.getElem_toArray, List.getElem_cons_succ, List.getElem_cons_zero, Act.put, List.setIfInBounds_toArray, List.set_cons_zero, List.set_cons_succ]
            refine wpAnyH_ready (rs := [1, 3]) (by kernel_rfl) (by simp) ?_
            refine AllReadyH.cons rfl (fun K hK0 => ?_) (AllReadyH.cons rfl (fun K hK0 => ?_) (AllReadyH.nil))
            · go_simp
              refine hK0.out _ _ S0.f (fun _ => ?_)
              clear hK0 K
              try simp only [List.getElem_toArray, List.getElem_cons_succ, List.getElem_cons_zero, Act.put, List.setIfInBounds_toArray, List.set_cons_zero, List.set_cons_succ]
              refine wpAnyH_ready (rs := [3]) (by kernel_rfl) (by simp) ?_
              refine AllReadyH.cons rfl (fun K hK0 => ?_) AllReadyH.nil
              go_simp
              refine cK.mono ?_
              rintro e X1 ⟨x, at1, bad1, rfl, h1⟩
              obtain ⟨wx, q1, k1, g1⟩ := h1.out
              have S1 := S0.kpg k1 q1
              have o1 := S0.row k1 o0
              have hg1 : Hid (G → x = (kyP (bs.drop at_)).1 ∧ bs.drop at1 = (kyP (bs.drop at_)).2 ∧ bad1 = false) := zb (by rw [HX.out, HR.out]; exact g1)
              obtain ⟨x1, hx1⟩ : ∃ x, (vlP (bs.drop at1)).1 = x := ⟨_, rfl⟩
              obtain ⟨r1, hr1⟩ : ∃ x, (vlP (bs.drop at1)).2 = x := ⟨_, rfl⟩
              have HX1 := zb hx1
              have HR1 := zb hr1
              clear hx1 hr1
              have cV := qvalue_at q1 hby (G := G) (k0 := x1) (r0 := r1) (zb (ge_mid gE.out hI.out hG1.out hg1.out)) HX1 HR1
              clear g1 h1 cK
              go_simp
              refine hK0.out _ _ S1.f (fun _ => ?_)
              clear hK0 K
              try simp only [List.getElem_toArray, List.getElem_cons_succ, List.getElem_cons_zero, Act.put, List.setIfInBounds_toArray, List.set_cons_zero, List.set_cons_succ]
              refine wpAnyH_ready (rs := [5]) (by kernel_rfl) (by simp) ?_
              refine AllReadyH.cons rfl (fun K hK0 => ?_) AllReadyH.nil
              go_simp
              refine cV.mono ?_
              rintro e X2 ⟨y, at2, bad2, rfl, h2⟩
              obtain ⟨wy, q2, k2, g2⟩ := h2.out
              have S2 := S1.kpg k2 q2
              have o2 := S1.row k2 o1
              have hg2 : Hid (G → y = (vlP (bs.drop at1)).1 ∧ bs.drop at2 = (vlP (bs.drop at1)).2 ∧ bad2 = false) := zb (by rw [HX1.out, HR1.out]; exact g2)
              have hb := ziK x wy.hl
              have hv17 : (vc y).length = 17 := zD wy.hl
              have hfo := zge (e := ⟨x, y⟩) wy.hl
              have he26 : (ec (⟨x, y⟩ : RE)).length = 26 := zbT (e := ⟨x, y⟩) wy.hl
              clear g2 h2 cV
              go_simp
              refine hK0.out _ _ S2.f (fun _ => ?_)
              clear hK0 K
              try simp only [List.getElem_toArray, List.getElem_cons_succ, List.getElem_cons_zero, Act.put, List.setIfInBounds_toArray, List.set_cons_zero, List.set_cons_succ]
              refine wpAnyH_take (i := 6) (v := ?_) rfl (by kernel_rfl) (by kernel_rfl) (by kernel_rfl) (fun _ _ _ h => h) (Or.inl ⟨by rfl, ?_⟩) (by assumption) ?_
              rotate_left
              · intro w' hSw
                try dsimp only at hSw
                go_simp
                try with_reducible rfl
              try simp only [List.getElem_toArray, List.getElem_cons_succ, List.getElem_cons_zero, Act.put, List.setIfInBounds_toArray, List.set_cons_zero, List.set_cons_succ]
              refine wpAnyH_ready (rs := [7]) (by kernel_rfl) (by simp) ?_
              refine AllReadyH.cons rfl (fun K hK0 => ?_) AllReadyH.nil
              go_simp
              try simp only [hfo]
              refine hK0.out _ _ (S2.fr (zf (ze _) _)).f (fun _ => ?_)
              clear hK0 K
              try simp only [List.getElem_toArray, List.getElem_cons_succ, List.getElem_cons_zero, Act.put, List.setIfInBounds_toArray, List.set_cons_zero, List.set_cons_succ]
              refine wpAnyH_ready (rs := [8]) (by kernel_rfl) (by simp) ?_
              refine AllReadyH.cons rfl (fun K hK0 => ?_) AllReadyH.nil
              refine step_app_el zcN zaA (by decide) rfl (.tmp 34) (.tmp 40) rfl rfl (o2.alloc _) (m := 1) (news := ec ⟨x, y⟩) rfl he26 (zax _ (Arr.new _ _ _)) (zdw _) (by unfold maxLen; omega) (by omega) (Nat.le_trans S2.z.2 (zf (ze X2) _).size) ?_
              intro A2 c2 X3 o3 g3
              have S3 := (S2.fr (zf (ze _) _)).grow (o2.alloc _) g3
              refine hK0.out _ _ S3.f (fun _ => ?_)
              clear hK0 K
              try simp only [List.getElem_toArray, List.getElem_cons_succ, List.getElem_cons_zero, Act.put, List.setIfInBounds_toArray, List.set_cons_zero, List.set_cons_succ]
              refine wpAnyH_take (i := 9) (v := ?_) rfl (by kernel_rfl) (by kernel_rfl) (by kernel_rfl) (fun _ _ _ h => h) (Or.inl ⟨by rfl, ?_⟩) (by assumption) ?_
              rotate_left
              · intro w' hSw
                try dsimp only at hSw
                go_simp
                try with_reducible rfl
              try simp only [List.getElem_toArray, List.getElem_cons_succ, List.getElem_cons_zero, Act.put, List.setIfInBounds_toArray, List.set_cons_zero, List.set_cons_succ]
              refine wpAnyH_ready (rs := [10]) (by kernel_rfl) (by simp) ?_
              refine AllReadyH.cons rfl (fun K hK0 => ?_) AllReadyH.nil
              refine zy (ds := [.slice A2 (j + 1) c2]) sl_e (by rfl) (.tmp 42) (.tmp 41) rfl (w.heap.size + 2) 1 rfl rfl rfl (zaV _ _ _) S3.a (zaD _ (by decide)) (cs' := (NV.set1 (lfV lf) A2 (j + 1) c2).cells) rfl ?_
              intro X4 b4 k4
              have S4 := S3.put k4 b4
              have o4 := S3.rowp k4 o3
              refine hK0.out _ _ S4.f (fun _ => ?_)
              clear hK0 K
              try simp only [List.getElem_toArray, List.getElem_cons_succ, List.getElem_cons_zero, Act.put, List.setIfInBounds_toArray, List.set_cons_zero, List.set_cons_succ]
              refine wpAnyH_done (by kernel_rfl) ?_ _
              refine NoPanic.normal ?_
              clear hHeld
              go_wp2_with fail
              go_roundg (gk - 1)
              case measure => have := Hj.out; omega
              case rel => exact ⟨j + 1, A2, c2, l ++ [⟨x, y⟩], at2, bad2, zb (by have := Hj.out; omega), (by first | rfl | go_num), zb S4, zb (by rw [zas, zbj]; exact o4), zb ⟨by rw [List.length_append, hW.out.1]; rfl, all_snoc hW.out.2 ⟨wx, wy⟩⟩, zb (ge_step gE.out hI.out hG1.out hg1.out hg2.out)⟩
            · go_simp
              refine cK.mono ?_
              rintro e X1 ⟨x, at1, bad1, rfl, h1⟩
              obtain ⟨wx, q1, k1, g1⟩ := h1.out
              have S1 := S0.kpg k1 q1
              have o1 := S0.row k1 o0
              have l1 : X1.cell? ⟨w.heap.size + 2, 1, none⟩ = some (.slice A j c) := S1.cell 1
              have hg1 : Hid (G → x = (kyP (bs.drop at_)).1 ∧ bs.drop at1 = (kyP (bs.drop at_)).2 ∧ bad1 = false) := zb (by rw [HX.out, HR.out]; exact g1)
              obtain ⟨x1, hx1⟩ : ∃ x, (vlP (bs.drop at1)).1 = x := ⟨_, rfl⟩
              obtain ⟨r1, hr1⟩ : ∃ x, (vlP (bs.drop at1)).2 = x := ⟨_, rfl⟩
              have HX1 := zb hx1
              have HR1 := zb hr1
              clear hx1 hr1
              have cV := qvalue_at q1 hby (G := G) (k0 := x1) (r0 := r1) (zb (ge_mid gE.out hI.out hG1.out hg1.out)) HX1 HR1
              clear g1 h1 cK
              go_simp
              refine hK0.out _ _ S1.f (fun _ => ?_)
              clear hK0 K
              try simp only [List.getElem_toArray, List.getElem_cons_succ, List.getElem_cons_zero, Act.put, List.setIfInBounds_toArray, List.set_cons_zero, List.set_cons_succ]
              refine wpAnyH_ready (rs := [1, 5]) (by kernel_rfl) (by simp) ?_
              refine AllReadyH.cons rfl (fun K hK0 => ?_) (AllReadyH.cons rfl (fun K hK0 => ?_) (AllReadyH.nil))
              · go_simp
                refine hK0.out _ _ S1.f (fun _ => ?_)
                clear hK0 K
                try simp only [List.getElem_toArray, List.getElem_cons_succ, List.getElem_cons_zero, Act.put, List.setIfInBounds_toArray, List.set_cons_zero, List.set_cons_succ]
                refine wpAnyH_ready (rs := [5]) (by kernel_rfl) (by simp) ?_
                refine AllReadyH.cons rfl (fun K hK0 => ?_) AllReadyH.nil
                go_simp
                refine cV.mono ?_
                rintro e X2 ⟨y, at2, bad2, rfl, h2⟩
                obtain ⟨wy, q2, k2, g2⟩ := h2.out
                have S2 := S1.kpg k2 q2
                have o2 := S1.row k2 o1
                have hg2 : Hid (G → y = (vlP (bs.drop at1)).1 ∧ bs.drop at2 = (vlP (bs.drop at1)).2 ∧ bad2 = false) := zb (by rw [HX1.out, HR1.out]; exact g2)
                have hb := ziK x wy.hl
                have hv17 : (vc y).length = 17 := zD wy.hl
                have hfo := zge (e := ⟨x, y⟩) wy.hl
                have he26 : (ec (⟨x, y⟩ : RE)).length = 26 := zbT (e := ⟨x, y⟩) wy.hl
                clear g2 h2 cV
                go_simp
                refine hK0.out _ _ S2.f (fun _ => ?_)
                clear hK0 K
                try simp only [List.getElem_toArray, List.getElem_cons_succ, List.getElem_cons_zero, Act.put, List.setIfInBounds_toArray, List.set_cons_zero, List.set_cons_succ]
                refine wpAnyH_take (i := 6) (v := ?_) rfl (by kernel_rfl) (by kernel_rfl) (by kernel_rfl) (fun _ _ _ h => h) (Or.inl ⟨by rfl, ?_⟩) (by assumption) ?_
                rotate_left
                · intro w' hSw
                  try dsimp only at hSw
                  go_simp
                  try with_reducible rfl
                try simp only [List.getElem_toArray, List.getElem_cons_succ, List.getElem_cons_zero, Act.put, List.setIfInBounds_toArray, List.set_cons_zero, List.set_cons_succ]
                refine wpAnyH_ready (rs := [7]) (by kernel_rfl) (by simp) ?_
                refine AllReadyH.cons rfl (fun K hK0 => ?_) AllReadyH.nil
                go_simp
                try simp only [hfo]
                refine hK0.out _ _ (S2.fr (zf (ze _) _)).f (fun _ => ?_)
                clear hK0 K
                try simp only [List.getElem_toArray, List.getElem_cons_succ, List.getElem_cons_zero, Act.put, List.setIfInBounds_toArray, List.set_cons_zero, List.set_cons_succ]
                refine wpAnyH_ready (rs := [8]) (by kernel_rfl) (by simp) ?_
                refine AllReadyH.cons rfl (fun K hK0 => ?_) AllReadyH.nil
                refine step_app_el zcN zaA (by decide) rfl (.tmp 34) (.tmp 40) rfl rfl (o2.alloc _) (m := 1) (news := ec ⟨x, y⟩) rfl he26 (zax _ (Arr.new _ _ _)) (zdw _) (by unfold maxLen; omega) (by omega) (Nat.le_trans S2.z.2 (zf (ze X2) _).size) ?_
                intro A2 c2 X3 o3 g3
                have S3 := (S2.fr (zf (ze _) _)).grow (o2.alloc _) g3
                refine hK0.out _ _ S3.f (fun _ => ?_)
                clear hK0 K
                try simp only [List.getElem_toArray, List.getElem_cons_succ, List.getElem_cons_zero, Act.put, List.setIfInBounds_toArray, List.set_cons_zero, List.set_cons_succ]
                refine wpAnyH_take (i := 9) (v := ?_) rfl (by kernel_rfl) (by kernel_rfl) (by kernel_rfl) (fun _ _ _ h => h) (Or.inl ⟨by rfl, ?_⟩) (by assumption) ?_
                rotate_left
                · intro w' hSw
                  try dsimp only at hSw
                  go_simp
                  try with_reducible rfl
                try simp only [List.getElem_toArray, List.getElem_cons_succ, List.getElem_cons_zero, Act.put, List.setIfInBounds_toArray, List.set_cons_zero, List.set_cons_succ]
                refine wpAnyH_ready (rs := [10]) (by kernel_rfl) (by simp) ?_
                refine AllReadyH.cons rfl (fun K hK0 => ?_) AllReadyH.nil
                refine zy (ds := [.slice A2 (j + 1) c2]) sl_e (by rfl) (.tmp 42) (.tmp 41) rfl (w.heap.size + 2) 1 rfl rfl rfl (zaV _ _ _) S3.a (zaD _ (by decide)) (cs' := (NV.set1 (lfV lf) A2 (j + 1) c2).cells) rfl ?_
                intro X4 b4 k4
                have S4 := S3.put k4 b4
                have o4 := S3.rowp k4 o3
                refine hK0.out _ _ S4.f (fun _ => ?_)
                clear hK0 K
                try simp only [List.getElem_toArray, List.getElem_cons_succ, List.getElem_cons_zero, Act.put, List.setIfInBounds_toArray, List.set_cons_zero, List.set_cons_succ]
                refine wpAnyH_done (by kernel_rfl) ?_ _
                refine NoPanic.normal ?_
                clear hHeld
                go_wp2_with fail
                go_roundg (gk - 1)
                case measure => have := Hj.out; omega
                case rel => exact ⟨j + 1, A2, c2, l ++ [⟨x, y⟩], at2, bad2, zb (by have := Hj.out; omega), (by first | rfl | go_num), zb S4, zb (by rw [zas, zbj]; exact o4), zb ⟨by rw [List.length_append, hW.out.1]; rfl, all_snoc hW.out.2 ⟨wx, wy⟩⟩, zb (ge_step gE.out hI.out hG1.out hg1.out hg2.out)⟩
              · go_simp
                refine cV.mono ?_
                rintro e X2 ⟨y, at2, bad2, rfl, h2⟩
                obtain ⟨wy, q2, k2, g2⟩ := h2.out
                have S2 := S1.kpg k2 q2
                have o2 := S1.row k2 o1
                have l2 : X2.cell? ⟨w.heap.size + 2, 1, none⟩ = some (.slice A j c) := S2.cell 1
                have hg2 : Hid (G → y = (vlP (bs.drop at1)).1 ∧ bs.drop at2 = (vlP (bs.drop at1)).2 ∧ bad2 = false) := zb (by rw [HX1.out, HR1.out]; exact g2)
                have hb := ziK x wy.hl
                have hv17 : (vc y).length = 17 := zD wy.hl
                have hfo := zge (e := ⟨x, y⟩) wy.hl
                have he26 : (ec (⟨x, y⟩ : RE)).length = 26 := zbT (e := ⟨x, y⟩) wy.hl
                clear g2 h2 cV
                go_simp
                refine hK0.out _ _ S2.f (fun _ => ?_)
                clear hK0 K
                try simp only [List.getElem_toArray, List.getElem_cons_succ, List.getElem_cons_zero, Act.put, List.setIfInBounds_toArray, List.set_cons_zero, List.set_cons_succ]
                refine wpAnyH_take (i := 6) (v := ?_) rfl (by kernel_rfl) (by kernel_rfl) (by kernel_rfl) (fun _ _ _ h => h) (Or.inl ⟨by rfl, ?_⟩) (by assumption) ?_
                rotate_left
                · intro w' hSw
                  try dsimp only at hSw
                  go_simp
                  try with_reducible rfl
                try simp only [List.getElem_toArray, List.getElem_cons_succ, List.getElem_cons_zero, Act.put, List.setIfInBounds_toArray, List.set_cons_zero, List.set_cons_succ]
                refine wpAnyH_ready (rs := [1, 7]) (by kernel_rfl) (by simp) ?_
                refine AllReadyH.cons rfl (fun K hK0 => ?_) (AllReadyH.cons rfl (fun K hK0 => ?_) (AllReadyH.nil))
                · go_simp
                  refine hK0.out _ _ S2.f (fun _ => ?_)
                  clear hK0 K
                  try simp only [List.getElem_toArray, List.getElem_cons_succ, List.getElem_cons_zero, Act.put, List.setIfInBounds_toArray, List.set_cons_zero, List.set_cons_succ]
                  refine wpAnyH_ready (rs := [7]) (by kernel_rfl) (by simp) ?_
                  refine AllReadyH.cons rfl (fun K hK0 => ?_) AllReadyH.nil
                  go_simp
                  try simp only [hfo]
                  refine hK0.out _ _ (S2.fr (zf (ze _) _)).f (fun _ => ?_)
                  clear hK0 K
                  try simp only [List.getElem_toArray, List.getElem_cons_succ, List.getElem_cons_zero, Act.put, List.setIfInBounds_toArray, List.set_cons_zero, List.set_cons_succ]
                  refine wpAnyH_ready (rs := [8]) (by kernel_rfl) (by simp) ?_
                  refine AllReadyH.cons rfl (fun K hK0 => ?_) AllReadyH.nil
                  refine step_app_el zcN zaA (by decide) rfl (.tmp 34) (.tmp 40) rfl rfl (o2.alloc _) (m := 1) (news := ec ⟨x, y⟩) rfl he26 (zax _ (Arr.new _ _ _)) (zdw _) (by unfold maxLen; omega) (by omega) (Nat.le_trans S2.z.2 (zf (ze X2) _).size) ?_
                  intro A2 c2 X3 o3 g3
                  have S3 := (S2.fr (zf (ze _) _)).grow (o2.alloc _) g3
                  refine hK0.out _ _ S3.f (fun _ => ?_)
                  clear hK0 K
                  try simp only [List.getElem_toArray, List.getElem_cons_succ, List.getElem_cons_zero, Act.put, List.setIfInBounds_toArray, List.set_cons_zero, List.set_cons_succ]
                  refine wpAnyH_take (i := 9) (v := ?_) rfl (by kernel_rfl) (by kernel_rfl) (by kernel_rfl) (fun _ _ _ h => h) (Or.inl ⟨by rfl, ?_⟩) (by assumption) ?_
                  rotate_left
                  · intro w' hSw
                    try dsimp only at hSw
                    go_simp
                    try with_reducible rfl
                  try simp only [List.getElem_toArray, List.getElem_cons_succ, List.getElem_cons_zero, Act.put, List.setIfInBounds_toArray, List.set_cons_zero, List.set_cons_succ]
                  refine wpAnyH_ready (rs := [10]) (by kernel_rfl) (by simp) ?_
                  refine AllReadyH.cons rfl (fun K hK0 => ?_) AllReadyH.nil
                  refine zy (ds := [.slice A2 (j + 1) c2]) sl_e (by rfl) (.tmp 42) (.tmp 41) rfl (w.heap.size + 2) 1 rfl rfl rfl (zaV _ _ _) S3.a (zaD _ (by decide)) (cs' := (NV.set1 (lfV lf) A2 (j + 1) c2).cells) rfl ?_
                  intro X4 b4 k4
                  have S4 := S3.put k4 b4
                  have o4 := S3.rowp k4 o3
                  refine hK0.out _ _ S4.f (fun _ => ?_)
                  clear hK0 K
                  try simp only [List.getElem_toArray, List.getElem_cons_succ, List.getElem_cons_zero, Act.put, List.setIfInBounds_toArray, List.set_cons_zero, List.set_cons_succ]
                  refine wpAnyH_done (by kernel_rfl) ?_ _
                  refine NoPanic.normal ?_
                  clear hHeld
                  go_wp2_with fail
                  go_roundg (gk - 1)
                  case measure => have := Hj.out; omega
                  case rel => exact ⟨j + 1, A2, c2, l ++ [⟨x, y⟩], at2, bad2, zb (by have := Hj.out; omega), (by first | rfl | go_num), zb S4, zb (by rw [zas, zbj]; exact o4), zb ⟨by rw [List.length_append, hW.out.1]; rfl, all_snoc hW.out.2 ⟨wx, wy⟩⟩, zb (ge_step gE.out hI.out hG1.out hg1.out hg2.out)⟩
                · have m2 : ∀ o, (X2.alloc o).cell? ⟨w.heap.size + 2, 1, none⟩ = some (.slice A j c) := fun o => (S2.fr (zf (ze X2) o)).cell 1
                  go_simp
                  try simp only [hfo]
                  refine hK0.out _ _ (S2.fr (zf (ze _) _)).f (fun _ => ?_)
                  clear hK0 K
                  try simp only [List.getElem_toArray, List.getElem_cons_succ, List.getElem_cons_zero, Act.put, List.setIfInBounds_toArray, List.set_cons_zero, List.set_cons_succ]
                  refine wpAnyH_ready (rs := [1]) (by kernel_rfl) (by simp) ?_
                  refine AllReadyH.cons rfl (fun K hK0 => ?_) AllReadyH.nil
                  go_simp
                  refine hK0.out _ _ (S2.fr (zf (ze _) _)).f (fun _ => ?_)
                  clear hK0 K
                  try simp only [List.getElem_toArray, List.getElem_cons_succ, List.getElem_cons_zero, Act.put, List.setIfInBounds_toArray, List.set_cons_zero, List.set_cons_succ]
                  refine wpAnyH_ready (rs := [8]) (by kernel_rfl) (by simp) ?_
                  refine AllReadyH.cons rfl (fun K hK0 => ?_) AllReadyH.nil
                  refine step_app_el zcN zaA (by decide) rfl (.tmp 34) (.tmp 40) rfl rfl (o2.alloc _) (m := 1) (news := ec ⟨x, y⟩) rfl he26 (zax _ (Arr.new _ _ _)) (zdw _) (by unfold maxLen; omega) (by omega) (Nat.le_trans S2.z.2 (zf (ze X2) _).size) ?_
                  intro A2 c2 X3 o3 g3
                  have S3 := (S2.fr (zf (ze _) _)).grow (o2.alloc _) g3
                  refine hK0.out _ _ S3.f (fun _ => ?_)
                  clear hK0 K
                  try simp only [List.getElem_toArray, List.getElem_cons_succ, List.getElem_cons_zero, Act.put, List.setIfInBounds_toArray, List.set_cons_zero, List.set_cons_succ]
                  refine wpAnyH_take (i := 9) (v := ?_) rfl (by kernel_rfl) (by kernel_rfl) (by kernel_rfl) (fun _ _ _ h => h) (Or.inl ⟨by rfl, ?_⟩) (by assumption) ?_
                  rotate_left
                  · intro w' hSw
                    try dsimp only at hSw
                    go_simp
                    try with_reducible rfl
                  try simp only [List.getElem_toArray, List.getElem_cons_succ, List.getElem_cons_zero, Act.put, List.setIfInBounds_toArray, List.set_cons_zero, List.set_cons_succ]
                  refine wpAnyH_ready (rs := [10]) (by kernel_rfl) (by simp) ?_
                  refine AllReadyH.cons rfl (fun K hK0 => ?_) AllReadyH.nil
                  refine zy (ds := [.slice A2 (j + 1) c2]) sl_e (by rfl) (.tmp 42) (.tmp 41) rfl (w.heap.size + 2) 1 rfl rfl rfl (zaV _ _ _) S3.a (zaD _ (by decide)) (cs' := (NV.set1 (lfV lf) A2 (j + 1) c2).cells) rfl ?_
                  intro X4 b4 k4
                  have S4 := S3.put k4 b4
                  have o4 := S3.rowp k4 o3
                  refine hK0.out _ _ S4.f (fun _ => ?_)
                  clear hK0 K
                  try simp only [List.getElem_toArray, List.getElem_cons_succ, List.getElem_cons_zero, Act.put, List.setIfInBounds_toArray, List.set_cons_zero, List.set_cons_succ]
                  refine wpAnyH_done (by kernel_rfl) ?_ _
                  refine NoPanic.normal ?_
                  clear hHeld
                  go_wp2_with fail
                  go_roundg (gk - 1)
                  case measure => have := Hj.out; omega
                  case rel => exact ⟨j + 1, A2, c2, l ++ [⟨x, y⟩], at2, bad2, zb (by have := Hj.out; omega), (by first | rfl | go_num), zb S4, zb (by rw [zas, zbj]; exact o4), zb ⟨by rw [List.length_append, hW.out.1]; rfl, all_snoc hW.out.2 ⟨wx, wy⟩⟩, zb (ge_step gE.out hI.out hG1.out hg1.out hg2.out)⟩
          · have hD := zb (gi_end hI.out GC.out (.inr rfl))
            have D := zb (hS.out.done1 hO.out hW.out.1 hW.out.2 hjb)
            clear hS hO hI  d3 hlt
            go_wp2_with fail
            go_meet
            exact ⟨A, none, j, c, 0, 0, at_, true, l, [], D, zb ⟨Nat.zero_le _, rfl⟩, zb fun q => ⟨(hD.out q).2.1, ((GF.out q).2.2.2.2.2.2.1 ((GF.out q).1.symm.trans hE.out)).symm⟩, zb fun q => ⟨(hD.out q).1, rfl, by rw [(hD.out q).2.2, (GF.out q).2.2.2.2.2.2.1 ((GF.out q).1.symm.trans hE.out)]; rfl⟩⟩
        · have hjz : ¬ (j : Int) < (cnt : Int) := by omega
          have hD := zb (gi_end hI.out GC.out (.inl hlt))
          have D := zb (hS.out.done1 hO.out hW.out.1 hW.out.2 hjb)
          clear hS hO hI d2 d3 hlt
          go_wp2_with fail
          go_meet
          exact ⟨A, none, j, c, 0, 0, at_, bad, l, [], D, zb ⟨Nat.zero_le _, rfl⟩, zb fun q => ⟨(hD.out q).2.1, ((GF.out q).2.2.2.2.2.2.1 ((GF.out q).1.symm.trans hE.out)).symm⟩, zb fun q => ⟨(hD.out q).1, rfl, by rw [(hD.out q).2.2, (GF.out q).2.2.2.2.2.2.1 ((GF.out q).1.symm.trans hE.out)]; rfl⟩⟩
    · have hE := zb hb
      clear hb
      have GC : Hid (G → cnt = N.ks.length) := zb fun q => by
        obtain ⟨g1, g2, g3, -⟩ := GF.out q
        exact g3 (g1.symm.trans hE.out)
      go_wp2_with fail
      go_loopg [5] cnt (fun gg s5 wr => ∃ (j : Nat) (A : Option Addr) (c : Nat) (l : List Int) (at_ : Nat) (bad : Bool), Hid (j + gg = cnt) ∧ s5 = .int .i64 j ∧ Hid (RdS w wr (w.heap.size + 3) bs at_ bad (NV.set2 (lfV lf) A j c) (lfV lf) (lfN lf)) ∧ Hid (Own wr (w.heap.size + 3) 3 1 A j c (zm ic l)) ∧ Hid (l.length = j ∧ True) ∧ Hid (GI G N.ks iB (N.ps.flatMap kB ++ (N.ms.flatMap mB ++ R4)) bs j l at_ bad))
      case atStart =>
        refine ⟨0, none, 0, [], 8, false, zb (by omega), rfl, SZ, zb (Own.nil _ _ _ _), zb ⟨rfl, trivial⟩, zb fun q => ⟨rfl, rfl, ?_⟩⟩
        obtain ⟨g1, g2, g3, g4, g5, g6, g7, g8, -⟩ := GF.out q
        rw [g5]
        rw [g8 (g1.symm.trans hE.out)]
        rfl
      case round =>
        obtain ⟨j, A, c, l, at_, bad, Hj, rfl, hS, hO, hW, hI⟩ := hrel
        have hjb : j ≤ 255 := by have := Hj.out; omega
        have d1 := c1 wr hS.out.f
        have d2 := hS.out.q.bad'
        have d3 : wr.cell? ⟨w.heap.size + 2, 0, none⟩ = some (.bool false) := by rw [← hE.out]; exact hS.out.cell 0
        have hF := hS.out.f
        by_cases hlt : j < cnt
        · have hjz : (j : Int) < (cnt : Int) := by omega
          cases bad
          · have hG1 : Hid (G → j < N.ks.length) := zb fun q => by have := GC.out q; omega
            have gE : Hid (G → ∀ z ∈ N.ks, 0 ≤ z ∧ z < 4294967296) := zb fun q => (GF.out q).2.2.2.2.2.2.2.2.ks
            clear hlt
            have hrD : Fr wr wr.drew := zn (ze wr)
            have S0 := hS.out.fr hrD
            have o0 := Own.below hO.out hrD (Nat.le_refl _)
            have FD := S0.f
            clear hS hO
            obtain ⟨x0, hx0⟩ : ∃ x, nmP 4 (bs.drop at_) = x := ⟨_, rfl⟩
            obtain ⟨r0, hr0⟩ : ∃ x, (bs.drop at_).drop 4 = x := ⟨_, rfl⟩
            have HX := zb hx0
            have HR := zb hr0
            have pre := zb (gk_pre hI.out hG1.out)
            clear hx0 hr0
            have cN := qkid_at S0.q hby (G := G) (x0 := x0) (r0 := r0) pre HX HR
            go_wp2_with fail
            refine wp_region_noPanic ?_
            refine wp_region_held_drew (S := fun W => Fr w W) (by kernel_rfl) FD (fun hHeld => ?_)
            change wpAnyH _ _ _ _ _ _ _ _ _
            generalize wr.drew = X0 at *
            have l0 : X0.cell? ⟨w.heap.size + 2, 2, none⟩ = some (.slice A j c) := S0.cell 2
            refine wpAnyH_take (i := 0) (v := ?_) rfl (by kernel_rfl) (by kernel_rfl) (by kernel_rfl) (fun _ _ _ h => h) (Or.inl ⟨by rfl, ?_⟩) (by assumption) ?_
            rotate_left
            · intro w' hSw
              try dsimp only at hSw
              go_simp
              try with_reducible rfl
            try simp only [List.getElem_toArray, List.getElem_cons_zero, Act.put, List.setIfInBounds_toArray, List.set_cons_zero, List.set_cons_succ]
            refine wpAnyH_take (i := 2) (v := ?_) rfl (by kernel_rfl) (by kernel_rfl) (by kernel_rfl) (fun _ _ _ h => h) (Or.inl ⟨by rfl, ?_⟩) (by assumption) ?_
            rotate_left
            · intro w' hSw
              try dsimp only at hSw
              go_simp
              try with_reducible rfl
            try simp only [List.getElem_toArray, List.getElem_cons_succ, List.getElem_cons_zero, Act.put, List.setIfInBounds_toArray, List.set_cons_zero, List.set_cons_succ]
            refine wpAnyH_ready (rs := [1, 3]) (by kernel_rfl) (by simp) ?_
            refine AllReadyH.cons rfl (fun K hK0 => ?_) (AllReadyH.cons rfl (fun K hK0 => ?_) (AllReadyH.nil))
            · go_simp
              refine hK0.out _ _ S0.f (fun _ => ?_)
              clear hK0 K
              try simp only [List.getElem_toArray, List.getElem_cons_succ, List.getElem_cons_zero, Act.put, List.setIfInBounds_toArray, List.set_cons_zero, List.set_cons_succ]
              refine wpAnyH_ready (rs := [3]) (by kernel_rfl) (by simp) ?_
              refine AllReadyH.cons rfl (fun K hK0 => ?_) AllReadyH.nil
              go_simp
              refine cN.mono ?_
              rintro e X1 ⟨x, at1, bad1, rfl, h1⟩
              obtain ⟨wx, q1, k1, g1⟩ := h1.out
              have S1 := S0.kpg k1 q1
              have o1 := S0.row k1 o0
              have hg1 : Hid (G → x = nmP 4 (bs.drop at_) ∧ bs.drop at1 = (bs.drop at_).drop 4 ∧ bad1 = false) := zb (by rw [HX.out, HR.out]; exact g1)
              have hx64 : zal x := by unfold zal; omega
              have hwx : IntKind.i64.wrap x = x := by rw [IntKind.wrap_i64]; omega
              clear g1 h1 cN
              go_simp
              refine hK0.out _ _ S1.f (fun _ => ?_)
              clear hK0 K
              try simp only [List.getElem_toArray, List.getElem_cons_succ, List.getElem_cons_zero, Act.put, List.setIfInBounds_toArray, List.set_cons_zero, List.set_cons_succ]
              refine wpAnyH_take (i := 4) (v := ?_) rfl (by kernel_rfl) (by kernel_rfl) (by kernel_rfl) (fun _ _ _ h => h) (Or.inl ⟨by rfl, ?_⟩) (by assumption) ?_
              rotate_left
              · intro w' hSw
                try dsimp only at hSw
                go_simp
                try with_reducible rfl
              try simp only [List.getElem_toArray, List.getElem_cons_succ, List.getElem_cons_zero, Act.put, List.setIfInBounds_toArray, List.set_cons_zero, List.set_cons_succ]
              refine wpAnyH_ready (rs := [5]) (by kernel_rfl) (by simp) ?_
              refine AllReadyH.cons rfl (fun K hK0 => ?_) AllReadyH.nil
              go_simp
              refine hK0.out _ _ (S1.fr (zf (ze _) _)).f (fun _ => ?_)
              clear hK0 K
              try simp only [List.getElem_toArray, List.getElem_cons_succ, List.getElem_cons_zero, Act.put, List.setIfInBounds_toArray, List.set_cons_zero, List.set_cons_succ]
              refine wpAnyH_ready (rs := [6]) (by kernel_rfl) (by simp) ?_
              refine AllReadyH.cons rfl (fun K hK0 => ?_) AllReadyH.nil
              refine step_app_el int_elem' ints_und' (by decide) rfl (.tmp 44) (.tmp 48) rfl rfl (o1.alloc _) (m := 1) (news := ic x) rfl rfl (zax _ (Arr.new _ _ _)) (zdv _ rfl) (by unfold maxLen; omega) (by omega) (Nat.le_trans S1.z.2 (zf (ze X1) _).size) ?_
              intro A2 c2 X2 o2 g2
              have S2 := (S1.fr (zf (ze _) _)).grow (o1.alloc _) g2
              refine hK0.out _ _ S2.f (fun _ => ?_)
              clear hK0 K
              try simp only [List.getElem_toArray, List.getElem_cons_succ, List.getElem_cons_zero, Act.put, List.setIfInBounds_toArray, List.set_cons_zero, List.set_cons_succ]
              refine wpAnyH_take (i := 7) (v := ?_) rfl (by kernel_rfl) (by kernel_rfl) (by kernel_rfl) (fun _ _ _ h => h) (Or.inl ⟨by rfl, ?_⟩) (by assumption) ?_
              rotate_left
              · intro w' hSw
                try dsimp only at hSw
                go_simp
                try with_reducible rfl
              try simp only [List.getElem_toArray, List.getElem_cons_succ, List.getElem_cons_zero, Act.put, List.setIfInBounds_toArray, List.set_cons_zero, List.set_cons_succ]
              refine wpAnyH_ready (rs := [8]) (by kernel_rfl) (by simp) ?_
              refine AllReadyH.cons rfl (fun K hK0 => ?_) AllReadyH.nil
              refine zy (ds := [.slice A2 (j + 1) c2]) sl_i (by rfl) (.tmp 50) (.tmp 49) rfl (w.heap.size + 2) 2 rfl rfl rfl (zaV _ _ _) S2.a (zaD _ (by decide)) (cs' := (NV.set2 (lfV lf) A2 (j + 1) c2).cells) rfl ?_
              intro X3 b3 k3
              have S3 := S2.put k3 b3
              have o3 := S2.rowp k3 o2
              refine hK0.out _ _ S3.f (fun _ => ?_)
              clear hK0 K
              try simp only [List.getElem_toArray, List.getElem_cons_succ, List.getElem_cons_zero, Act.put, List.setIfInBounds_toArray, List.set_cons_zero, List.set_cons_succ]
              refine wpAnyH_done (by kernel_rfl) ?_ _
              refine NoPanic.normal ?_
              clear hHeld
              go_wp2_with fail
              go_roundg (gk - 1)
              case measure => have := Hj.out; omega
              case rel => exact ⟨j + 1, A2, c2, l ++ [x], at1, bad1, zb (by have := Hj.out; omega), (by first | rfl | go_num), zb S3, zb (by rw [zas, zbj]; exact o3), zb ⟨by rw [List.length_append, hW.out.1]; rfl, trivial⟩, zb (gk_step gE.out hI.out hG1.out hg1.out)⟩
            · go_simp
              refine cN.mono ?_
              rintro e X1 ⟨x, at1, bad1, rfl, h1⟩
              obtain ⟨wx, q1, k1, g1⟩ := h1.out
              have S1 := S0.kpg k1 q1
              have o1 := S0.row k1 o0
              have l1 : X1.cell? ⟨w.heap.size + 2, 2, none⟩ = some (.slice A j c) := S1.cell 2
              have hg1 : Hid (G → x = nmP 4 (bs.drop at_) ∧ bs.drop at1 = (bs.drop at_).drop 4 ∧ bad1 = false) := zb (by rw [HX.out, HR.out]; exact g1)
              have hx64 : zal x := by unfold zal; omega
              have hwx : IntKind.i64.wrap x = x := by rw [IntKind.wrap_i64]; omega
              clear g1 h1 cN
              go_simp
              refine hK0.out _ _ S1.f (fun _ => ?_)
              clear hK0 K
              try simp only [List.getElem_toArray, List.getElem_cons_succ, List.getElem_cons_zero, Act.put, List.setIfInBounds_toArray, List.set_cons_zero, List.set_cons_succ]
              refine wpAnyH_take (i := 4) (v := ?_) rfl (by kernel_rfl) (by kernel_rfl) (by kernel_rfl) (fun _ _ _ h => h) (Or.inl ⟨by rfl, ?_⟩) (by assumption) ?_
              rotate_left
              · intro w' hSw
                try dsimp only at hSw
                go_simp
                try with_reducible rfl
              try simp only [List.getElem_toArray, List.getElem_cons_succ, List.getElem_cons_zero, Act.put, List.setIfInBounds_toArray, List.set_cons_zero, List.set_cons_succ]
              refine wpAnyH_ready (rs := [1, 5]) (by kernel_rfl) (by simp) ?_
              refine AllReadyH.cons rfl (fun K hK0 => ?_) (AllReadyH.cons rfl (fun K hK0 => ?_) (AllReadyH.nil))
              · go_simp
                refine hK0.out _ _ S1.f (fun _ => ?_)
                clear hK0 K
                try simp only [List.getElem_toArray, List.getElem_cons_succ, List.getElem_cons_zero, Act.put, List.setIfInBounds_toArray, List.set_cons_zero, List.set_cons_succ]
                refine wpAnyH_ready (rs := [5]) (by kernel_rfl) (by simp) ?_
                refine AllReadyH.cons rfl (fun K hK0 => ?_) AllReadyH.nil
                go_simp
                refine hK0.out _ _ (S1.fr (zf (ze _) _)).f (fun _ => ?_)
                clear hK0 K
                try simp only [List.getElem_toArray, List.getElem_cons_succ, List.getElem_cons_zero, Act.put, List.setIfInBounds_toArray, List.set_cons_zero, List.set_cons_succ]
                refine wpAnyH_ready (rs := [6]) (by kernel_rfl) (by simp) ?_
                refine AllReadyH.cons rfl (fun K hK0 => ?_) AllReadyH.nil
                refine step_app_el int_elem' ints_und' (by decide) rfl (.tmp 44) (.tmp 48) rfl rfl (o1.alloc _) (m := 1) (news := ic x) rfl rfl (zax _ (Arr.new _ _ _)) (zdv _ rfl) (by unfold maxLen; omega) (by omega) (Nat.le_trans S1.z.2 (zf (ze X1) _).size) ?_
                intro A2 c2 X2 o2 g2
                have S2 := (S1.fr (zf (ze _) _)).grow (o1.alloc _) g2
                refine hK0.out _ _ S2.f (fun _ => ?_)
                clear hK0 K
                try simp only [List.getElem_toArray, List.getElem_cons_succ, List.getElem_cons_zero, Act.put, List.setIfInBounds_toArray, List.set_cons_zero, List.set_cons_succ]
                refine wpAnyH_take (i := 7) (v := ?_) rfl (by kernel_rfl) (by kernel_rfl) (by kernel_rfl) (fun _ _ _ h => h) (Or.inl ⟨by rfl, ?_⟩) (by assumption) ?_
                rotate_left
                · intro w' hSw
                  try dsimp only at hSw
                  go_simp
                  try with_reducible rfl
                try simp only [List.getElem_toArray, List.getElem_cons_succ, List.getElem_cons_zero, Act.put, List.setIfInBounds_toArray, List.set_cons_zero, List.set_cons_succ]
                refine wpAnyH_ready (rs := [8]) (by kernel_rfl) (by simp) ?_
                refine AllReadyH.cons rfl (fun K hK0 => ?_) AllReadyH.nil
                refine zy (ds := [.slice A2 (j + 1) c2]) sl_i (by rfl) (.tmp 50) (.tmp 49) rfl (w.heap.size + 2) 2 rfl rfl rfl (zaV _ _ _) S2.a (zaD _ (by decide)) (cs' := (NV.set2 (lfV lf) A2 (j + 1) c2).cells) rfl ?_
                intro X3 b3 k3
                have S3 := S2.put k3 b3
                have o3 := S2.rowp k3 o2
                refine hK0.out _ _ S3.f (fun _ => ?_)
                clear hK0 K
                try simp only [List.getElem_toArray, List.getElem_cons_succ, List.getElem_cons_zero, Act.put, List.setIfInBounds_toArray, List.set_cons_zero, List.set_cons_succ]
                refine wpAnyH_done (by kernel_rfl) ?_ _
                refine NoPanic.normal ?_
                clear hHeld
                go_wp2_with fail
                go_roundg (gk - 1)
                case measure => have := Hj.out; omega
                case rel => exact ⟨j + 1, A2, c2, l ++ [x], at1, bad1, zb (by have := Hj.out; omega), (by first | rfl | go_num), zb S3, zb (by rw [zas, zbj]; exact o3), zb ⟨by rw [List.length_append, hW.out.1]; rfl, trivial⟩, zb (gk_step gE.out hI.out hG1.out hg1.out)⟩
              · have m1 : ∀ o, (X1.alloc o).cell? ⟨w.heap.size + 2, 2, none⟩ = some (.slice A j c) := fun o => (S1.fr (zf (ze X1) o)).cell 2
                go_simp
                refine hK0.out _ _ (S1.fr (zf (ze _) _)).f (fun _ => ?_)
                clear hK0 K
                try simp only [List.getElem_toArray, List.getElem_cons_succ, List.getElem_cons_zero, Act.put, List.setIfInBounds_toArray, List.set_cons_zero, List.set_cons_succ]
                refine wpAnyH_ready (rs := [1]) (by kernel_rfl) (by simp) ?_
                refine AllReadyH.cons rfl (fun K hK0 => ?_) AllReadyH.nil
                go_simp
                refine hK0.out _ _ (S1.fr (zf (ze _) _)).f (fun _ => ?_)
                clear hK0 K
                try simp only [List.getElem_toArray, List.getElem_cons_succ, List.getElem_cons_zero, Act.put, List.setIfInBounds_toArray, List.set_cons_zero, List.set_cons_succ]
                refine wpAnyH_ready (rs := [6]) (by kernel_rfl) (by simp) ?_
                refine AllReadyH.cons rfl (fun K hK0 => ?_) AllReadyH.nil
                refine step_app_el int_elem' ints_und' (by decide) rfl (.tmp 44) (.tmp 48) rfl rfl (o1.alloc _) (m := 1) (news := ic x) rfl rfl (zax _ (Arr.new _ _ _)) (zdv _ rfl) (by unfold maxLen; omega) (by omega) (Nat.le_trans S1.z.2 (zf (ze X1) _).size) ?_
                intro A2 c2 X2 o2 g2
                have S2 := (S1.fr (zf (ze _) _)).grow (o1.alloc _) g2
                refine hK0.out _ _ S2.f (fun _ => ?_)
                clear hK0 K
                try simp only [List.getElem_toArray, List.getElem_cons_succ, List.getElem_cons_zero, Act.put, List.setIfInBounds_toArray, List.set_cons_zero, List.set_cons_succ]
                refine wpAnyH_take (i := 7) (v := ?_) rfl (by kernel_rfl) (by kernel_rfl) (by kernel_rfl) (fun _ _ _ h => h) (Or.inl ⟨by rfl, ?_⟩) (by assumption) ?_
                rotate_left
                · intro w' hSw
                  try dsimp only at hSw
                  go_simp
                  try with_reducible rfl
                try simp only [List.getElem_toArray, List.getElem_cons_succ, List.getElem_cons_zero, Act.put, List.setIfInBounds_toArray, List.set_cons_zero, List.set_cons_succ]
                refine wpAnyH_ready (rs := [8]) (by kernel_rfl) (by simp) ?_
                refine AllReadyH.cons rfl (fun K hK0 => ?_) AllReadyH.nil
                refine zy (ds := [.slice A2 (j + 1) c2]) sl_i (by rfl) (.tmp 50) (.tmp 49) rfl (w.heap.size + 2) 2 rfl rfl rfl (zaV _ _ _) S2.a (zaD _ (by decide)) (cs' := (NV.set2 (lfV lf) A2 (j + 1) c2).cells) rfl ?_
                intro X3 b3 k3
                have S3 := S2.put k3 b3
                have o3 := S2.rowp k3 o2
                refine hK0.out _ _ S3.f (fun _ => ?_)
                clear hK0 K
                try simp only [List.getElem_toArray, List.getElem_cons_succ, List.getElem_cons_zero, Act.put, List.setIfInBounds_toArray, List.set_cons_zero, List.set_cons_succ]
                refine wpAnyH_done (by kernel_rfl) ?_ _
                refine NoPanic.normal ?_
                clear hHeld
                go_wp2_with fail
                go_roundg (gk - 1)
                case measure => have := Hj.out; omega
                case rel => exact ⟨j + 1, A2, c2, l ++ [x], at1, bad1, zb (by have := Hj.out; omega), (by first | rfl | go_num), zb S3, zb (by rw [zas, zbj]; exact o3), zb ⟨by rw [List.length_append, hW.out.1]; rfl, trivial⟩, zb (gk_step gE.out hI.out hG1.out hg1.out)⟩
          · have hD := zb (gi_end hI.out GC.out (.inr rfl))
            have D := zb (hS.out.done2 hO.out hW.out.1 hjb)
            clear hS hO hI  d3 hlt
            go_wp2_with fail
            go_meet
            exact ⟨none, A, 0, 0, j, c, at_, true, [], l, D, zb ⟨hjb, hW.out.1⟩, zb fun q => ⟨((GF.out q).2.2.2.2.2.2.2.1 ((GF.out q).1.symm.trans hE.out)).symm, (hD.out q).2.1⟩, zb fun q => ⟨(hD.out q).1, rfl, by rw [(hD.out q).2.2]; rfl⟩⟩
        · have hjz : ¬ (j : Int) < (cnt : Int) := by omega
          have hD := zb (gi_end hI.out GC.out (.inl hlt))
          have D := zb (hS.out.done2 hO.out hW.out.1 hjb)
          clear hS hO hI d2 d3 hlt
          go_wp2_with fail
          go_meet
          exact ⟨none, A, 0, 0, j, c, at_, bad, [], l, D, zb ⟨hjb, hW.out.1⟩, zb fun q => ⟨((GF.out q).2.2.2.2.2.2.2.1 ((GF.out q).1.symm.trans hE.out)).symm, (hD.out q).2.1⟩, zb fun q => ⟨(hD.out q).1, rfl, by rw [(hD.out q).2.2]; rfl⟩⟩
  case rest =>
    obtain ⟨A1, A2, n1, c1', n2, c2', at_, bad, es, ks, hS, hn, hE, hI⟩ := hcut
    obtain ⟨Z2, eZ⟩ : ∃ W, W = wc := ⟨_, rfl⟩
    rw [← eZ]
    rw [← eZ] at hS
    clear eZ SZ FZ
    have hn2 : n2 ≤ 255 := hn.out.1
    obtain ⟨v, hv⟩ : ∃ v : NV, v = ⟨lf, A1, n1, c1', A2, n2, c2', none, 0, 0, none, 0, 0⟩ := ⟨_, rfl⟩
    obtain ⟨n, hnn⟩ : ∃ n : RN, n = ⟨lf, es, ks, [], []⟩ := ⟨_, rfl⟩
    have V2 : Hid (v.A2 = A2 ∧ v.n2 = n2 ∧ v.c2 = c2' ∧ v.set3 none 0 0 = v ∧ v.A4 = none ∧ v.n4 = 0 ∧ v.c4 = 0) := zb (by rw [hv]; exact ⟨rfl, rfl, rfl, rfl, rfl, rfl, rfl⟩)
    have NN : Hid (n.ms = [] ∧ ∀ l, { n with ps := l } = (⟨lf, es, ks, l, []⟩ : RN)) := zb (by rw [hnn]; exact ⟨rfl, fun _ => rfl⟩)
    rw [← hv, ← hnn] at hS
    clear hv hnn
    go_upto_block 2 with fail
    try simp only [Act.put]
    go_cut [6] from 51 to 72 (fun s6 wx => ∃ (v : NV) (n : RN) (at_ : Nat) (bad : Bool), Hid (RdS w wx wx.heap.size bs at_ bad v v n) ∧ Hid (v.A4 = none ∧ v.n4 = 0 ∧ v.c4 = 0 ∧ n.ms = []) ∧ Hid (G → n = { N with ms := [] }) ∧ Hid (GI G N.ms mB R4 bs 0 [] at_ bad))
    case first =>
      have GC : Hid (G → n2 - 1 = N.ps.length) := zb fun q => by
        rw [(GF.out q).2.2.2.2.2.1, ← (hE.out q).2, hn.out.2]
      go_wp2_with fail
      go_loopg [6] (n2 - 1) (fun gg s6 wr => ∃ (j : Nat) (A : Option Addr) (c : Nat) (l : List RK) (at_ : Nat) (bad : Bool), Hid (j + gg = n2 - 1) ∧ s6 = .int .i64 j ∧ Hid (RdS w wr Z2.heap.size bs at_ bad (NV.set3 v A j c) v n) ∧ Hid (Own wr Z2.heap.size 69 9 A j c (zm kc l)) ∧ Hid (l.length = j ∧ WfK l) ∧ Hid (GI G N.ps kB (N.ms.flatMap mB ++ R4) bs j l at_ bad))
      case atStart =>
        refine ⟨0, none, 0, [], at_, bad, zb (by omega), rfl, ?_, zb (Own.nil _ _ _ _), zb ⟨rfl, fun m hm => by simp at hm⟩, hI⟩
        rw [V2.out.2.2.2.1]
        exact hS
      case round =>
        clear hS hI at_ bad
        obtain ⟨j, A, c, l, at_, bad, Hj, rfl, hS, hO, hW, hI⟩ := hrel
        have hjb : j ≤ 255 := by have := Hj.out; omega
        have d1 : wr.cell? ⟨w.heap.size + 2, 2, none⟩ = some (.slice A2 n2 c2') := by rw [← V2.out.1, ← V2.out.2.1, ← V2.out.2.2.1]; exact hS.out.cell 2
        have d2 := hS.out.q.bad'
        have hF := hS.out.f
        by_cases hlt : j < n2 - 1
        · have hjz : (j : Int) + 1 < (n2 : Int) := by omega
          cases bad
          · have hG1 : Hid (G → j < N.ps.length) := zb fun q => by have := GC.out q; omega
            obtain ⟨x0, hx0⟩ : ∃ x, (kyP (bs.drop at_)).1 = x := ⟨_, rfl⟩
            obtain ⟨r0, hr0⟩ : ∃ x, (kyP (bs.drop at_)).2 = x := ⟨_, rfl⟩
            have HX := zb hx0
            have HR := zb hr0
            have gE : Hid (G → ∀ k ∈ N.ps, okB k = true) := zb fun q => (GF.out q).2.2.2.2.2.2.2.2.ps
            have pre := zb (gp_pre gE.out hI.out hG1.out)
            clear hx0 hr0 hlt
            have hrD : Fr wr wr.drew := zn (ze wr)
            have S0 := hS.out.fr hrD
            have o0 := Own.below hO.out hrD (Nat.le_refl _)
            have FD := S0.f
            clear hS hO
            have cK := qkey_at S0.q hby (G := G) (k0 := x0) (r0 := r0) pre HX HR
            go_wp2_with fail
            refine wp_region_noPanic ?_
            refine wp_region_held_drew (S := fun W => Fr w W) (by kernel_rfl) FD (fun hHeld => ?_)
            change wpAnyH _ _ _ _ _ _ _ _ _
            generalize wr.drew = X0 at *
            have l0 : X0.cell? ⟨w.heap.size + 2, 3, none⟩ = some (.slice A j c) := S0.cell 3
            refine wpAnyH_take (i := 0) (v := ?_) rfl (by kernel_rfl) (by kernel_rfl) (by kernel_rfl) (fun _ _ _ h => h) (Or.inl ⟨by rfl, ?_⟩) (by assumption) ?_
            rotate_left
            · intro w' hSw
              try dsimp only at hSw
              go_simp
              try with_reducible rfl
            try simp only [List.getElem_toArray, List.getElem_cons_zero, Act.put, List.setIfInBounds_toArray, List.set_cons_zero, List.set_cons_succ]
            refine wpAnyH_take (i := 2) (v := ?_) rfl (by kernel_rfl) (by kernel_rfl) (by kernel_rfl) (fun _ _ _ h => h) (Or.inl ⟨by rfl, ?_⟩) (by assumption) ?_
            rotate_left
            · intro w' hSw
              try dsimp only at hSw
              go_simp
              try with_reducible rfl
            try simp only [List.getElem_toArray, List.getElem_cons_succ, List.getElem_cons_zero, Act.put, List.setIfInBounds_toArray, List.set_cons_zero, List.set_cons_succ]
            refine wpAnyH_ready (rs := [1, 3]) (by kernel_rfl) (by simp) ?_
            refine AllReadyH.cons rfl (fun K hK0 => ?_) (AllReadyH.cons rfl (fun K hK0 => ?_) (AllReadyH.nil))
            · go_simp
              refine hK0.out _ _ S0.f (fun _ => ?_)
              clear hK0 K
              try simp only [List.getElem_toArray, List.getElem_cons_succ, List.getElem_cons_zero, Act.put, List.setIfInBounds_toArray, List.set_cons_zero, List.set_cons_succ]
              refine wpAnyH_ready (rs := [3]) (by kernel_rfl) (by simp) ?_
              refine AllReadyH.cons rfl (fun K hK0 => ?_) AllReadyH.nil
              go_simp
              refine cK.mono ?_
              rintro e X1 ⟨x, at1, bad1, rfl, h1⟩
              obtain ⟨wx, q1, k1, g1⟩ := h1.out
              have S1 := S0.kpg k1 q1
              have o1 := S0.row k1 o0
              have hg1 : Hid (G → x = (kyP (bs.drop at_)).1 ∧ bs.drop at1 = (kyP (bs.drop at_)).2 ∧ bad1 = false) := zb (by rw [HX.out, HR.out]; exact g1)
              clear g1 h1 cK
              go_simp
              refine hK0.out _ _ S1.f (fun _ => ?_)
              clear hK0 K
              try simp only [List.getElem_toArray, List.getElem_cons_succ, List.getElem_cons_zero, Act.put, List.setIfInBounds_toArray, List.set_cons_zero, List.set_cons_succ]
              refine wpAnyH_ready (rs := [4]) (by kernel_rfl) (by simp) ?_
              refine AllReadyH.cons rfl (fun K hK0 => ?_) AllReadyH.nil
              go_simp
              refine hK0.out _ _ (S1.fr (zf (ze _) _)).f (fun _ => ?_)
              clear hK0 K
              try simp only [List.getElem_toArray, List.getElem_cons_succ, List.getElem_cons_zero, Act.put, List.setIfInBounds_toArray, List.set_cons_zero, List.set_cons_succ]
              refine wpAnyH_ready (rs := [5]) (by kernel_rfl) (by simp) ?_
              refine AllReadyH.cons rfl (fun K hK0 => ?_) AllReadyH.nil
              refine step_app_el key_elem' keys_und' (by decide) rfl (.tmp 67) (.tmp 70) rfl rfl (o1.alloc _) (m := 1) (news := kc x) rfl rfl (zax _ (Arr.new _ _ _)) (zU x) (by unfold maxLen; omega) (by omega) (Nat.le_trans S1.z.2 (zf (ze X1) _).size) ?_
              intro A2 c2 X2 o2 g2
              have S2 := (S1.fr (zf (ze _) _)).grow (o1.alloc _) g2
              refine hK0.out _ _ S2.f (fun _ => ?_)
              clear hK0 K
              try simp only [List.getElem_toArray, List.getElem_cons_succ, List.getElem_cons_zero, Act.put, List.setIfInBounds_toArray, List.set_cons_zero, List.set_cons_succ]
              refine wpAnyH_take (i := 6) (v := ?_) rfl (by kernel_rfl) (by kernel_rfl) (by kernel_rfl) (fun _ _ _ h => h) (Or.inl ⟨by rfl, ?_⟩) (by assumption) ?_
              rotate_left
              · intro w' hSw
                try dsimp only at hSw
                go_simp
                try with_reducible rfl
              try simp only [List.getElem_toArray, List.getElem_cons_succ, List.getElem_cons_zero, Act.put, List.setIfInBounds_toArray, List.set_cons_zero, List.set_cons_succ]
              refine wpAnyH_ready (rs := [7]) (by kernel_rfl) (by simp) ?_
              refine AllReadyH.cons rfl (fun K hK0 => ?_) AllReadyH.nil
              refine zy (ds := [.slice A2 (j + 1) c2]) sl_k (by rfl) (.tmp 72) (.tmp 71) rfl (w.heap.size + 2) 3 rfl rfl rfl (zaV _ _ _) S2.a (zaD _ (by decide)) (cs' := (NV.set3 v A2 (j + 1) c2).cells) rfl ?_
              intro X3 b3 k3
              have S3 := S2.put k3 b3
              have o3 := S2.rowp k3 o2
              refine hK0.out _ _ S3.f (fun _ => ?_)
              clear hK0 K
              try simp only [List.getElem_toArray, List.getElem_cons_succ, List.getElem_cons_zero, Act.put, List.setIfInBounds_toArray, List.set_cons_zero, List.set_cons_succ]
              refine wpAnyH_done (by kernel_rfl) ?_ _
              refine NoPanic.normal ?_
              clear hHeld
              go_wp2_with fail
              go_roundg (gk - 1)
              case measure => have := Hj.out; omega
              case rel => exact ⟨j + 1, A2, c2, l ++ [x], at1, bad1, zb (by have := Hj.out; omega), (by first | rfl | go_num), zb S3, zb (by rw [zas, zbj]; exact o3), zb ⟨by rw [List.length_append, hW.out.1]; rfl, all_snoc hW.out.2 wx⟩, zb (gp_step gE.out hI.out hG1.out hg1.out)⟩
            · go_simp
              refine cK.mono ?_
              rintro e X1 ⟨x, at1, bad1, rfl, h1⟩
              obtain ⟨wx, q1, k1, g1⟩ := h1.out
              have S1 := S0.kpg k1 q1
              have o1 := S0.row k1 o0
              have l1 : X1.cell? ⟨w.heap.size + 2, 3, none⟩ = some (.slice A j c) := S1.cell 3
              have hg1 : Hid (G → x = (kyP (bs.drop at_)).1 ∧ bs.drop at1 = (kyP (bs.drop at_)).2 ∧ bad1 = false) := zb (by rw [HX.out, HR.out]; exact g1)
              clear g1 h1 cK
              go_simp
              refine hK0.out _ _ S1.f (fun _ => ?_)
              clear hK0 K
              try simp only [List.getElem_toArray, List.getElem_cons_succ, List.getElem_cons_zero, Act.put, List.setIfInBounds_toArray, List.set_cons_zero, List.set_cons_succ]
              refine wpAnyH_ready (rs := [1, 4]) (by kernel_rfl) (by simp) ?_
              refine AllReadyH.cons rfl (fun K hK0 => ?_) (AllReadyH.cons rfl (fun K hK0 => ?_) (AllReadyH.nil))
              · go_simp
                refine hK0.out _ _ S1.f (fun _ => ?_)
                clear hK0 K
                try simp only [List.getElem_toArray, List.getElem_cons_succ, List.getElem_cons_zero, Act.put, List.setIfInBounds_toArray, List.set_cons_zero, List.set_cons_succ]
                refine wpAnyH_ready (rs := [4]) (by kernel_rfl) (by simp) ?_
                refine AllReadyH.cons rfl (fun K hK0 => ?_) AllReadyH.nil
                go_simp
                refine hK0.out _ _ (S1.fr (zf (ze _) _)).f (fun _ => ?_)
                clear hK0 K
                try simp only [List.getElem_toArray, List.getElem_cons_succ, List.getElem_cons_zero, Act.put, List.setIfInBounds_toArray, List.set_cons_zero, List.set_cons_succ]
                refine wpAnyH_ready (rs := [5]) (by kernel_rfl) (by simp) ?_
                refine AllReadyH.cons rfl (fun K hK0 => ?_) AllReadyH.nil
                refine step_app_el key_elem' keys_und' (by decide) rfl (.tmp 67) (.tmp 70) rfl rfl (o1.alloc _) (m := 1) (news := kc x) rfl rfl (zax _ (Arr.new _ _ _)) (zU x) (by unfold maxLen; omega) (by omega) (Nat.le_trans S1.z.2 (zf (ze X1) _).size) ?_
                intro A2 c2 X2 o2 g2
                have S2 := (S1.fr (zf (ze _) _)).grow (o1.alloc _) g2
                refine hK0.out _ _ S2.f (fun _ => ?_)
                clear hK0 K
                try simp only [List.getElem_toArray, List.getElem_cons_succ, List.getElem_cons_zero, Act.put, List.setIfInBounds_toArray, List.set_cons_zero, List.set_cons_succ]
                refine wpAnyH_take (i := 6) (v := ?_) rfl (by kernel_rfl) (by kernel_rfl) (by kernel_rfl) (fun _ _ _ h => h) (Or.inl ⟨by rfl, ?_⟩) (by assumption) ?_
                rotate_left
                · intro w' hSw
                  try dsimp only at hSw
                  go_simp
                  try with_reducible rfl
                try simp only [List.getElem_toArray, List.getElem_cons_succ, List.getElem_cons_zero, Act.put, List.setIfInBounds_toArray, List.set_cons_zero, List.set_cons_succ]
                refine wpAnyH_ready (rs := [7]) (by kernel_rfl) (by simp) ?_
                refine AllReadyH.cons rfl (fun K hK0 => ?_) AllReadyH.nil
                refine zy (ds := [.slice A2 (j + 1) c2]) sl_k (by rfl) (.tmp 72) (.tmp 71) rfl (w.heap.size + 2) 3 rfl rfl rfl (zaV _ _ _) S2.a (zaD _ (by decide)) (cs' := (NV.set3 v A2 (j + 1) c2).cells) rfl ?_
                intro X3 b3 k3
                have S3 := S2.put k3 b3
                have o3 := S2.rowp k3 o2
                refine hK0.out _ _ S3.f (fun _ => ?_)
                clear hK0 K
                try simp only [List.getElem_toArray, List.getElem_cons_succ, List.getElem_cons_zero, Act.put, List.setIfInBounds_toArray, List.set_cons_zero, List.set_cons_succ]
                refine wpAnyH_done (by kernel_rfl) ?_ _
                refine NoPanic.normal ?_
                clear hHeld
                go_wp2_with fail
                go_roundg (gk - 1)
                case measure => have := Hj.out; omega
                case rel => exact ⟨j + 1, A2, c2, l ++ [x], at1, bad1, zb (by have := Hj.out; omega), (by first | rfl | go_num), zb S3, zb (by rw [zas, zbj]; exact o3), zb ⟨by rw [List.length_append, hW.out.1]; rfl, all_snoc hW.out.2 wx⟩, zb (gp_step gE.out hI.out hG1.out hg1.out)⟩
              · have m1 : ∀ o, (X1.alloc o).cell? ⟨w.heap.size + 2, 3, none⟩ = some (.slice A j c) := fun o => (S1.fr (zf (ze X1) o)).cell 3
                go_simp
                refine hK0.out _ _ (S1.fr (zf (ze _) _)).f (fun _ => ?_)
                clear hK0 K
                try simp only [List.getElem_toArray, List.getElem_cons_succ, List.getElem_cons_zero, Act.put, List.setIfInBounds_toArray, List.set_cons_zero, List.set_cons_succ]
                refine wpAnyH_ready (rs := [1]) (by kernel_rfl) (by simp) ?_
                refine AllReadyH.cons rfl (fun K hK0 => ?_) AllReadyH.nil
                go_simp
                refine hK0.out _ _ (S1.fr (zf (ze _) _)).f (fun _ => ?_)
                clear hK0 K
                try simp only [List.getElem_toArray, List.getElem_cons_succ, List.getElem_cons_zero, Act.put, List.setIfInBounds_toArray, List.set_cons_zero, List.set_cons_succ]
                refine wpAnyH_ready (rs := [5]) (by kernel_rfl) (by simp) ?_
                refine AllReadyH.cons rfl (fun K hK0 => ?_) AllReadyH.nil
                refine step_app_el key_elem' keys_und' (by decide) rfl (.tmp 67) (.tmp 70) rfl rfl (o1.alloc _) (m := 1) (news := kc x) rfl rfl (zax _ (Arr.new _ _ _)) (zU x) (by unfold maxLen; omega) (by omega) (Nat.le_trans S1.z.2 (zf (ze X1) _).size) ?_
                intro A2 c2 X2 o2 g2
                have S2 := (S1.fr (zf (ze _) _)).grow (o1.alloc _) g2
                refine hK0.out _ _ S2.f (fun _ => ?_)
                clear hK0 K
                try simp only [List.getElem_toArray, List.getElem_cons_succ, List.getElem_cons_zero, Act.put, List.setIfInBounds_toArray, List.set_cons_zero, List.set_cons_succ]
                refine wpAnyH_take (i := 6) (v := ?_) rfl (by kernel_rfl) (by kernel_rfl) (by kernel_rfl) (fun _ _ _ h => h) (Or.inl ⟨by rfl, ?_⟩) (by assumption) ?_
                rotate_left
                · intro w' hSw
                  try dsimp only at hSw
                  go_simp
                  try with_reducible rfl
                try simp only [List.getElem_toArray, List.getElem_cons_succ, List.getElem_cons_zero, Act.put, List.setIfInBounds_toArray, List.set_cons_zero, List.set_cons_succ]
                refine wpAnyH_ready (rs := [7]) (by kernel_rfl) (by simp) ?_
                refine AllReadyH.cons rfl (fun K hK0 => ?_) AllReadyH.nil
                refine zy (ds := [.slice A2 (j + 1) c2]) sl_k (by rfl) (.tmp 72) (.tmp 71) rfl (w.heap.size + 2) 3 rfl rfl rfl (zaV _ _ _) S2.a (zaD _ (by decide)) (cs' := (NV.set3 v A2 (j + 1) c2).cells) rfl ?_
                intro X3 b3 k3
                have S3 := S2.put k3 b3
                have o3 := S2.rowp k3 o2
                refine hK0.out _ _ S3.f (fun _ => ?_)
                clear hK0 K
                try simp only [List.getElem_toArray, List.getElem_cons_succ, List.getElem_cons_zero, Act.put, List.setIfInBounds_toArray, List.set_cons_zero, List.set_cons_succ]
                refine wpAnyH_done (by kernel_rfl) ?_ _
                refine NoPanic.normal ?_
                clear hHeld
                go_wp2_with fail
                go_roundg (gk - 1)
                case measure => have := Hj.out; omega
                case rel => exact ⟨j + 1, A2, c2, l ++ [x], at1, bad1, zb (by have := Hj.out; omega), (by first | rfl | go_num), zb S3, zb (by rw [zas, zbj]; exact o3), zb ⟨by rw [List.length_append, hW.out.1]; rfl, all_snoc hW.out.2 wx⟩, zb (gp_step gE.out hI.out hG1.out hg1.out)⟩
          · have hE2 := zb (gi_end hI.out GC.out (.inr rfl))
            have D := zb (hS.out.done3 hO.out hW.out.1 hW.out.2 hjb)
            clear hS hO hI  hlt
            go_wp2_with fail
            go_meet
            refine ⟨NV.set3 v A j c, { n with ps := l }, at_, true, D, zb ⟨V2.out.2.2.2.2.1, V2.out.2.2.2.2.2.1, V2.out.2.2.2.2.2.2, NN.out.1⟩, zb fun q => ?_, zb fun q => ⟨(hE2.out q).1, rfl, (hE2.out q).2.2⟩⟩
            rw [NN.out.2, (hE2.out q).2.1, (hE.out q).1, (hE.out q).2, (GF.out q).1]
        · have hjz : ¬ (j : Int) + 1 < (n2 : Int) := by omega
          have hE2 := zb (gi_end hI.out GC.out (.inl hlt))
          have D := zb (hS.out.done3 hO.out hW.out.1 hW.out.2 hjb)
          clear hS hO hI d2 hlt
          go_wp2_with fail
          go_meet
          refine ⟨NV.set3 v A j c, { n with ps := l }, at_, bad, D, zb ⟨V2.out.2.2.2.2.1, V2.out.2.2.2.2.2.1, V2.out.2.2.2.2.2.2, NN.out.1⟩, zb fun q => ?_, zb fun q => ⟨(hE2.out q).1, rfl, (hE2.out q).2.2⟩⟩
          rw [NN.out.2, (hE2.out q).2.1, (hE.out q).1, (hE.out q).2, (GF.out q).1]
    case rest =>
      clear hS hn hE hI NN V2 at_ bad v n
      obtain ⟨v, n, at_, bad, hS, hV, hE, hI⟩ := hcut
      obtain ⟨Z3, eZ⟩ : ∃ W, W = wc := ⟨_, rfl⟩
      rw [← eZ]
      rw [← eZ] at hS
      clear eZ
      go_upto_block 4 with fail
      try simp only [Act.put]
      go_cut [7] from 73 to 94 (fun s7 wx => ∃ (v : NV) (n : RN) (at_ : Nat) (bad : Bool), Hid (RdS w wx wx.heap.size bs at_ bad v v n) ∧ Hid (G → bad = false ∧ n = N))
      case first =>
        have GC : Hid (G → mct = N.ms.length) := zb fun q => (GF.out q).2.2.2.1
        go_wp2_with fail
        go_loopg [7] mct (fun gg s7 wr => ∃ (j : Nat) (A : Option Addr) (c : Nat) (l : List RM) (at_ : Nat) (bad : Bool), Hid (j + gg = mct) ∧ s7 = .int .i64 j ∧ Hid (RdS w wr Z3.heap.size bs at_ bad (NV.set4 v A j c) v n) ∧ Hid (Own wr Z3.heap.size 81 29 A j c (zm mc l)) ∧ Hid (l.length = j ∧ WfM l) ∧ Hid (GI G N.ms mB R4 bs j l at_ bad))
        case atStart =>
          refine ⟨0, none, 0, [], at_, bad, zb (by omega), rfl, ?_, zb (Own.nil _ _ _ _), zb ⟨rfl, fun m hm => by simp at hm⟩, hI⟩
          have e4 : v.set4 none 0 0 = v := by
            obtain ⟨h1, h2, h3, -⟩ := hV.out
            cases v
            simp_all [NV.set4]
          rw [e4]
          exact hS
        case round =>
          clear hS hI at_ bad
          obtain ⟨j, A, c, l, at_, bad, Hj, rfl, hS, hO, hW, hI⟩ := hrel
          have hjb : j ≤ 255 := by have := Hj.out; omega
          have d1 := c2 wr hS.out.f
          have d2 := hS.out.q.bad'
          have hF := hS.out.f
          by_cases hlt : j < mct
          · have hjz : (j : Int) < (mct : Int) := by omega
            cases bad
            · have hG1 : Hid (G → j < N.ms.length) := zb fun q => by have := GC.out q; omega
              obtain ⟨x0, hx0⟩ : ∃ x, (msP (bs.drop at_)).1 = x := ⟨_, rfl⟩
              obtain ⟨r0, hr0⟩ : ∃ x, (msP (bs.drop at_)).2 = x := ⟨_, rfl⟩
              have HX := zb hx0
              have HR := zb hr0
              have gE : Hid (G → ∀ m ∈ N.ms, m.wf ∧ okM m = true) := zb fun q => (GF.out q).2.2.2.2.2.2.2.2.ms
              have pre := zb (gm_pre gE.out hI.out hG1.out)
              clear hx0 hr0 hlt
              have hrD : Fr wr wr.drew := zn (ze wr)
              have S0 := hS.out.fr hrD
              have o0 := Own.below hO.out hrD (Nat.le_refl _)
              have FD := S0.f
              clear hS hO
              have cK := qmsg_at S0.q hby (G := G) (m0 := x0) (r0 := r0) pre HX HR
              go_wp2_with fail
              refine wp_region_noPanic ?_
              refine wp_region_held_drew (S := fun W => Fr w W) (by kernel_rfl) FD (fun hHeld => ?_)
              change wpAnyH _ _ _ _ _ _ _ _ _
              generalize wr.drew = X0 at *
              have l0 : X0.cell? ⟨w.heap.size + 2, 4, none⟩ = some (.slice A j c) := S0.cell 4
              refine wpAnyH_take (i := 0) (v := ?_) rfl (by kernel_rfl) (by kernel_rfl) (by kernel_rfl) (fun _ _ _ h => h) (Or.inl ⟨by rfl, ?_⟩) (by assumption) ?_
              rotate_left
              · intro w' hSw
                try dsimp only at hSw
                go_simp
                try with_reducible rfl
              try simp only [List.getElem_toArray, List.getElem_cons_zero, Act.put, List.setIfInBounds_toArray, List.set_cons_zero, List.set_cons_succ]
              refine wpAnyH_take (i := 2) (v := ?_) rfl (by kernel_rfl) (by kernel_rfl) (by kernel_rfl) (fun _ _ _ h => h) (Or.inl ⟨by rfl, ?_⟩) (by assumption) ?_
              rotate_left
              · intro w' hSw
                try dsimp only at hSw
                go_simp
                try with_reducible rfl
              try simp only [List.getElem_toArray, List.getElem_cons_succ, List.getElem_cons_zero, Act.put, List.setIfInBounds_toArray, List.set_cons_zero, List.set_cons_succ]
              refine wpAnyH_ready (rs := [1, 3]) (by kernel_rfl) (by simp) ?_
              refine AllReadyH.cons rfl (fun K hK0 => ?_) (AllReadyH.cons rfl (fun K hK0 => ?_) (AllReadyH.nil))
              · go_simp
                refine hK0.out _ _ S0.f (fun _ => ?_)
                clear hK0 K
                try simp only [List.getElem_toArray, List.getElem_cons_succ, List.getElem_cons_zero, Act.put, List.setIfInBounds_toArray, List.set_cons_zero, List.set_cons_succ]
                refine wpAnyH_ready (rs := [3]) (by kernel_rfl) (by simp) ?_
                refine AllReadyH.cons rfl (fun K hK0 => ?_) AllReadyH.nil
                go_simp
                refine cK.mono ?_
                rintro e X1 ⟨x, at1, bad1, rfl, h1⟩
                obtain ⟨wx, q1, k1, g1⟩ := h1.out
                have S1 := S0.kpg k1 q1
                have o1 := S0.row k1 o0
                have hg1 : Hid (G → x = (msP (bs.drop at_)).1 ∧ bs.drop at1 = (msP (bs.drop at_)).2 ∧ bad1 = false) := zb (by rw [HX.out, HR.out]; exact g1)
                have hfo := zdO wx
                have he29 : (mc x).length = 29 := zP wx.val.hl
                clear g1 h1 cK
                go_simp
                refine hK0.out _ _ S1.f (fun _ => ?_)
                clear hK0 K
                try simp only [List.getElem_toArray, List.getElem_cons_succ, List.getElem_cons_zero, Act.put, List.setIfInBounds_toArray, List.set_cons_zero, List.set_cons_succ]
                refine wpAnyH_ready (rs := [4]) (by kernel_rfl) (by simp) ?_
                refine AllReadyH.cons rfl (fun K hK0 => ?_) AllReadyH.nil
                go_simp
                try simp only [hfo]
                refine hK0.out _ _ (S1.fr (zf (ze _) _)).f (fun _ => ?_)
                clear hK0 K
                try simp only [List.getElem_toArray, List.getElem_cons_succ, List.getElem_cons_zero, Act.put, List.setIfInBounds_toArray, List.set_cons_zero, List.set_cons_succ]
                refine wpAnyH_ready (rs := [5]) (by kernel_rfl) (by simp) ?_
                refine AllReadyH.cons rfl (fun K hK0 => ?_) AllReadyH.nil
                refine step_app_el ze3 za9 (by decide) rfl (.tmp 89) (.tmp 92) rfl rfl (o1.alloc _) (m := 1) (news := mc x) rfl he29 (zax _ (Arr.new _ _ _)) (zay x) (by unfold maxLen; omega) (by omega) (Nat.le_trans S1.z.2 (zf (ze X1) _).size) ?_
                intro A2 c2 X2 o2 g2
                have S2 := (S1.fr (zf (ze _) _)).grow (o1.alloc _) g2
                refine hK0.out _ _ S2.f (fun _ => ?_)
                clear hK0 K
                try simp only [List.getElem_toArray, List.getElem_cons_succ, List.getElem_cons_zero, Act.put, List.setIfInBounds_toArray, List.set_cons_zero, List.set_cons_succ]
                refine wpAnyH_take (i := 6) (v := ?_) rfl (by kernel_rfl) (by kernel_rfl) (by kernel_rfl) (fun _ _ _ h => h) (Or.inl ⟨by rfl, ?_⟩) (by assumption) ?_
                rotate_left
                · intro w' hSw
                  try dsimp only at hSw
                  go_simp
                  try with_reducible rfl
                try simp only [List.getElem_toArray, List.getElem_cons_succ, List.getElem_cons_zero, Act.put, List.setIfInBounds_toArray, List.set_cons_zero, List.set_cons_succ]
                refine wpAnyH_ready (rs := [7]) (by kernel_rfl) (by simp) ?_
                refine AllReadyH.cons rfl (fun K hK0 => ?_) AllReadyH.nil
                refine zy (ds := [.slice A2 (j + 1) c2]) sl_m (by rfl) (.tmp 94) (.tmp 93) rfl (w.heap.size + 2) 4 rfl rfl rfl (zaV _ _ _) S2.a (zaD _ (by decide)) (cs' := (NV.set4 v A2 (j + 1) c2).cells) rfl ?_
                intro X3 b3 k3
                have S3 := S2.put k3 b3
                have o3 := S2.rowp k3 o2
                refine hK0.out _ _ S3.f (fun _ => ?_)
                clear hK0 K
                try simp only [List.getElem_toArray, List.getElem_cons_succ, List.getElem_cons_zero, Act.put, List.setIfInBounds_toArray, List.set_cons_zero, List.set_cons_succ]
                refine wpAnyH_done (by kernel_rfl) ?_ _
                refine NoPanic.normal ?_
                clear hHeld
                go_wp2_with fail
                go_roundg (gk - 1)
                case measure => have := Hj.out; omega
                case rel => exact ⟨j + 1, A2, c2, l ++ [x], at1, bad1, zb (by have := Hj.out; omega), (by first | rfl | go_num), zb S3, zb (by rw [zas, zbj]; exact o3), zb ⟨by rw [List.length_append, hW.out.1]; rfl, all_snoc hW.out.2 wx⟩, zb (gm_step gE.out hI.out hG1.out hg1.out)⟩
              · go_simp
                refine cK.mono ?_
                rintro e X1 ⟨x, at1, bad1, rfl, h1⟩
                obtain ⟨wx, q1, k1, g1⟩ := h1.out
                have S1 := S0.kpg k1 q1
                have o1 := S0.row k1 o0
                have l1 : X1.cell? ⟨w.heap.size + 2, 4, none⟩ = some (.slice A j c) := S1.cell 4
                have hg1 : Hid (G → x = (msP (bs.drop at_)).1 ∧ bs.drop at1 = (msP (bs.drop at_)).2 ∧ bad1 = false) := zb (by rw [HX.out, HR.out]; exact g1)
                have hfo := zdO wx
                have he29 : (mc x).length = 29 := zP wx.val.hl
                clear g1 h1 cK
                go_simp
                refine hK0.out _ _ S1.f (fun _ => ?_)
                clear hK0 K
                try simp only [List.getElem_toArray, List.getElem_cons_succ, List.getElem_cons_zero, Act.put, List.setIfInBounds_toArray, List.set_cons_zero, List.set_cons_succ]
                refine wpAnyH_ready (rs := [1, 4]) (by kernel_rfl) (by simp) ?_
                refine AllReadyH.cons rfl (fun K hK0 => ?_) (AllReadyH.cons rfl (fun K hK0 => ?_) (AllReadyH.nil))
                · go_simp
                  refine hK0.out _ _ S1.f (fun _ => ?_)
                  clear hK0 K
                  try simp only [List.getElem_toArray, List.getElem_cons_succ, List.getElem_cons_zero, Act.put, List.setIfInBounds_toArray, List.set_cons_zero, List.set_cons_succ]
                  refine wpAnyH_ready (rs := [4]) (by kernel_rfl) (by simp) ?_
                  refine AllReadyH.cons rfl (fun K hK0 => ?_) AllReadyH.nil
                  go_simp
                  try simp only [hfo]
                  refine hK0.out _ _ (S1.fr (zf (ze _) _)).f (fun _ => ?_)
                  clear hK0 K
                  try simp only [List.getElem_toArray, List.getElem_cons_succ, List.getElem_cons_zero, Act.put, List.setIfInBounds_toArray, List.set_cons_zero, List.set_cons_succ]
                  refine wpAnyH_ready (rs := [5]) (by kernel_rfl) (by simp) ?_
                  refine AllReadyH.cons rfl (fun K hK0 => ?_) AllReadyH.nil
                  refine step_app_el ze3 za9 (by decide) rfl (.tmp 89) (.tmp 92) rfl rfl (o1.alloc _) (m := 1) (news := mc x) rfl he29 (zax _ (Arr.new _ _ _)) (zay x) (by unfold maxLen; omega) (by omega) (Nat.le_trans S1.z.2 (zf (ze X1) _).size) ?_
                  intro A2 c2 X2 o2 g2
                  have S2 := (S1.fr (zf (ze _) _)).grow (o1.alloc _) g2
                  refine hK0.out _ _ S2.f (fun _ => ?_)
                  clear hK0 K
                  try simp only [List.getElem_toArray, List.getElem_cons_succ, List.getElem_cons_zero, Act.put, List.setIfInBounds_toArray, List.set_cons_zero, List.set_cons_succ]
                  refine wpAnyH_take (i := 6) (v := ?_) rfl (by kernel_rfl) (by kernel_rfl) (by kernel_rfl) (fun _ _ _ h => h) (Or.inl ⟨by rfl, ?_⟩) (by assumption) ?_
                  rotate_left
                  · intro w' hSw
                    try dsimp only at hSw
                    go_simp
                    try with_reducible rfl
                  try simp only [List.getElem_toArray, List.getElem_cons_succ, List.getElem_cons_zero, Act.put, List.setIfInBounds_toArray, List.set_cons_zero, List.set_cons_succ]
                  refine wpAnyH_ready (rs := [7]) (by kernel_rfl) (by simp) ?_
                  refine AllReadyH.cons rfl (fun K hK0 => ?_) AllReadyH.nil
                  refine zy (ds := [.slice A2 (j + 1) c2]) sl_m (by rfl) (.tmp 94) (.tmp 93) rfl (w.heap.size + 2) 4 rfl rfl rfl (zaV _ _ _) S2.a (zaD _ (by decide)) (cs' := (NV.set4 v A2 (j + 1) c2).cells) rfl ?_
                  intro X3 b3 k3
                  have S3 := S2.put k3 b3
                  have o3 := S2.rowp k3 o2
                  refine hK0.out _ _ S3.f (fun _ => ?_)
                  clear hK0 K
                  try simp only [List.getElem_toArray, List.getElem_cons_succ, List.getElem_cons_zero, Act.put, List.setIfInBounds_toArray, List.set_cons_zero, List.set_cons_succ]
                  refine wpAnyH_done (by kernel_rfl) ?_ _
                  refine NoPanic.normal ?_
                  clear hHeld
                  go_wp2_with fail
                  go_roundg (gk - 1)
                  case measure => have := Hj.out; omega
                  case rel => exact ⟨j + 1, A2, c2, l ++ [x], at1, bad1, zb (by have := Hj.out; omega), (by first | rfl | go_num), zb S3, zb (by rw [zas, zbj]; exact o3), zb ⟨by rw [List.length_append, hW.out.1]; rfl, all_snoc hW.out.2 wx⟩, zb (gm_step gE.out hI.out hG1.out hg1.out)⟩
                · have m1 : ∀ o, (X1.alloc o).cell? ⟨w.heap.size + 2, 4, none⟩ = some (.slice A j c) := fun o => (S1.fr (zf (ze X1) o)).cell 4
                  go_simp
                  try simp only [hfo]
                  refine hK0.out _ _ (S1.fr (zf (ze _) _)).f (fun _ => ?_)
                  clear hK0 K
                  try simp only [List.getElem_toArray, List.getElem_cons_succ, List.getElem_cons_zero, Act.put, List.setIfInBounds_toArray, List.set_cons_zero, List.set_cons_succ]
                  refine wpAnyH_ready (rs := [1]) (by kernel_rfl) (by simp) ?_
                  refine AllReadyH.cons rfl (fun K hK0 => ?_) AllReadyH.nil
                  go_simp
                  refine hK0.out _ _ (S1.fr (zf (ze _) _)).f (fun _ => ?_)
                  clear hK0 K
                  try simp only [List.getElem_toArray, List.getElem_cons_succ, List.getElem_cons_zero, Act.put, List.setIfInBounds_toArray, List.set_cons_zero, List.set_cons_succ]
                  refine wpAnyH_ready (rs := [5]) (by kernel_rfl) (by simp) ?_
                  refine AllReadyH.cons rfl (fun K hK0 => ?_) AllReadyH.nil
                  refine step_app_el ze3 za9 (by decide) rfl (.tmp 89) (.tmp 92) rfl rfl (o1.alloc _) (m := 1) (news := mc x) rfl he29 (zax _ (Arr.new _ _ _)) (zay x) (by unfold maxLen; omega) (by omega) (Nat.le_trans S1.z.2 (zf (ze X1) _).size) ?_
                  intro A2 c2 X2 o2 g2
                  have S2 := (S1.fr (zf (ze _) _)).grow (o1.alloc _) g2
                  refine hK0.out _ _ S2.f (fun _ => ?_)
                  clear hK0 K
                  try simp only [List.getElem_toArray, List.getElem_cons_succ, List.getElem_cons_zero, Act.put, List.setIfInBounds_toArray, List.set_cons_zero, List.set_cons_succ]
                  refine wpAnyH_take (i := 6) (v := ?_) rfl (by kernel_rfl) (by kernel_rfl) (by kernel_rfl) (fun _ _ _ h => h) (Or.inl ⟨by rfl, ?_⟩) (by assumption) ?_
                  rotate_left
                  · intro w' hSw
                    try dsimp only at hSw
                    go_simp
                    try with_reducible rfl
                  try simp only [List.getElem_toArray, List.getElem_cons_succ, List.getElem_cons_zero, Act.put, List.setIfInBounds_toArray, List.set_cons_zero, List.set_cons_succ]
                  refine wpAnyH_ready (rs := [7]) (by kernel_rfl) (by simp) ?_
                  refine AllReadyH.cons rfl (fun K hK0 => ?_) AllReadyH.nil
                  refine zy (ds := [.slice A2 (j + 1) c2]) sl_m (by rfl) (.tmp 94) (.tmp 93) rfl (w.heap.size + 2) 4 rfl rfl rfl (zaV _ _ _) S2.a (zaD _ (by decide)) (cs' := (NV.set4 v A2 (j + 1) c2).cells) rfl ?_
                  intro X3 b3 k3
                  have S3 := S2.put k3 b3
                  have o3 := S2.rowp k3 o2
                  refine hK0.out _ _ S3.f (fun _ => ?_)
                  clear hK0 K
                  try simp only [List.getElem_toArray, List.getElem_cons_succ, List.getElem_cons_zero, Act.put, List.setIfInBounds_toArray, List.set_cons_zero, List.set_cons_succ]
                  refine wpAnyH_done (by kernel_rfl) ?_ _
                  refine NoPanic.normal ?_
                  clear hHeld
                  go_wp2_with fail
                  go_roundg (gk - 1)
                  case measure => have := Hj.out; omega
                  case rel => exact ⟨j + 1, A2, c2, l ++ [x], at1, bad1, zb (by have := Hj.out; omega), (by first | rfl | go_num), zb S3, zb (by rw [zas, zbj]; exact o3), zb ⟨by rw [List.length_append, hW.out.1]; rfl, all_snoc hW.out.2 wx⟩, zb (gm_step gE.out hI.out hG1.out hg1.out)⟩
            · have hE2 := zb (gi_end hI.out GC.out (.inr rfl))
              have D := zb (hS.out.done4 hO.out hW.out.1 hW.out.2 hjb)
              clear hS hO hI  hlt
              go_wp2_with fail
              go_meet
              exact ⟨NV.set4 v A j c, { n with ms := l }, at_, true, D, zb fun q => ⟨(hE2.out q).1, by rw [hE.out q, (hE2.out q).2.1]⟩⟩
          · have hjz : ¬ (j : Int) < (mct : Int) := by omega
            have hE2 := zb (gi_end hI.out GC.out (.inl hlt))
            have D := zb (hS.out.done4 hO.out hW.out.1 hW.out.2 hjb)
            clear hS hO hI d2 hlt
            go_wp2_with fail
            go_meet
            exact ⟨NV.set4 v A j c, { n with ms := l }, at_, bad, D, zb fun q => ⟨(hE2.out q).1, by rw [hE.out q, (hE2.out q).2.1]⟩⟩
      case rest =>
        clear hS hV hE hI at_ bad v n
        obtain ⟨v, n, at_, bad, hS, hE⟩ := hcut
        obtain ⟨Z4, eZ⟩ : ∃ W, W = wc := ⟨_, rfl⟩
        rw [← eZ]
        rw [← eZ] at hS
        clear eZ
        have d2 := hS.out.q.bad'
        have sM := hS.out.m
        have sF := hS.out.f
        have lA : (ldS 29 (.pointer (some ⟨w.heap.size + 2, 0, none⟩))).run Try.prog Z4 = .ok (.agg v.cells.toArray) Z4 := zq.ld rfl hS.out.a
        cases bad
        case' true =>
          have tok : Hid (0 < 1) := zb (by decide)
          go_wp2_with (first
            | (clear tok; refine zp (ds := zh.cells) zaw rfl (.tmp 2) (.tmp 99) rfl w.heap.size 0 rfl rfl rfl (za6 _) sM (zbi _) (zk _ _ (Nat.le_of_eq rfl)) ?_; intro W8 k8 u8)
            | fail)
          refine bodyPost_ret (zq.result rfl _ w.heap.size rfl rfl k8) rfl ?_
          exact ⟨zh, zce, rfl, zb ⟨zbb, u8.fr sF (Nat.le_refl _), fun q => by have := (hE.out q).1; cases this⟩⟩
        case' false =>
          have tok : Hid (0 < 1) := zb (by decide)
          go_wp2_with (first
            | (clear tok; refine zp (ds := v.cells) zaw rfl (.tmp 2) (.tmp 100) rfl w.heap.size 0 rfl rfl rfl (za6 _) sM (zbi _) (zk _ _ (Nat.le_of_eq rfl)) ?_; intro W8 k8 u8)
            | fail)
          refine bodyPost_ret (zq.result rfl _ w.heap.size rfl rfl k8) rfl ?_
          have hfin := zb (And.intro ((hS.out.p.kept u8 (fun h => by have := h.1; omega)).weak (ok' := fun b => w.heap.size ≤ b) (fun b _ h => Nat.le_trans (Nat.le_add_right _ _) h.1)) (And.intro (u8.fr sF (Nat.le_refl _)) (fun q => (hE.out q).2)))
          first | exact ⟨v, n, rfl, hfin⟩ | exact ⟨v, rfl, n, hfin⟩
end Go.Proofs.Ytmjjjdikpnhpiaa
/- The document's Decode. -/
namespace Go.Proofs.Ytmjjjdikpnhpiaa
set_option linter.unusedVariables false
set_option linter.unusedSimpArgs false
set_option maxRecDepth 100000
open Go.RowKit
theorem str_eqb {a b : List Int} (ha : zdi a) (hb : zdi b) : ((strOfNums a).toList == (strOfNums b).toList) = decide (a = b) := by
  rw [cstr_eq]
  by_cases e : a = b
  · rw [decide_eq_true e, decide_eq_true (by rw [e])]
  · rw [decide_eq_false e, decide_eq_false (fun h => e ((strN_inj ha hb).1 h))]
attribute [local go_sem ↓] zw zt zae zbh zaP
set_option maxHeartbeats 2000000 in
theorem rdec_len {w : World} {A : Option Addr} {n c : Nat} {b : List Int} (hn : b.length = n) (hne : n ≠ 256) (hmx : n ≤ 100000) :
    Calls Try.prog 6 #[.slice A n c] w (DcR w b) := by
  obtain ⟨Y, hY, fY, aY⟩ : ∃ Y, w.alloc (.cells zh.cells.toArray 29) = Y ∧ Fr w Y ∧ Arr Y w.heap.size 29 zh.cells.toArray := ⟨_, rfl, zf (ze _) _, Arr.new _ _ _⟩
  rw [zeroN_cells] at hY
  have h1 : ((n : Int) != 256) = true := by rw [bne_iff_ne]; omega
  have Hn := zb hn
  have Hne := zb hne
  clear hn hne
  have tok1 : Hid (0 < 1) := zb (by decide)
  go_enter Try.func6, Try.ntmps6
  go_wp2_with (first
    | (clear tok1; refine wpList_put (ds := zh.cells) zaw rfl (.tmp 2) (.tmp 13) rfl w.heap.size 0 rfl rfl rfl (za6 _) aY (Nat.le_of_ble_eq_true rfl) (zk _ _ (Nat.le_of_eq rfl)) ?_; intro w1 a1 k1)
    | fail)
  exact bodyPost_ret (zq.result2 rfl _ w.heap.size rfl rfl a1) rfl ⟨zh, zce, 4, rfl, zb ⟨zero_np, .inl ⟨by rw [Hn.out]; exact Hne.out, rfl, rfl⟩, k1.below fY fY.size (Nat.le_refl _)⟩⟩
set_option maxHeartbeats 4000000 in
theorem rdec_sum {w : World} {B c blk0 off : Nat} {b : List Int} (h : Has w B (some ⟨blk0, off, none⟩) (u8s b)) (hb0 : blk0 < B) (hB : B ≤ w.heap.size) (hl : b.length = 256) (hc : 256 ≤ c) (hby : zdi b) (hs : leN ((b.drop 4).take 4) ≠ (sumB b : Int)) :
    Calls Try.prog 6 #[.slice (some ⟨blk0, off, none⟩) 256 c] w (DcR w b) := by
  obtain ⟨Y, hY, fY, aY⟩ : ∃ Y, w.alloc (.cells zh.cells.toArray 29) = Y ∧ Fr w Y ∧ Arr Y w.heap.size 29 zh.cells.toArray := ⟨_, rfl, zf (ze _) _, Arr.new _ _ _⟩
  rw [zeroN_cells] at hY
  have hY' := h.lift (w' := Y) fun p hp => fY.cell (by omega)
  have hBY : B ≤ Y.heap.size := Nat.le_trans hB fY.size
  have hz := bytes_zerB hby
  have hzl := zerB_len hl
  have hw := sumB_lt hby
  have Hby := zb hby
  have O0 := Own.lit Y Y.heap.size 5 #[] 0 1 (Nat.le_refl _) (by unfold maxLen; decide) rfl
  have H0 : Has (Y.alloc (.cells #[] 5)) B (some ⟨blk0, off, none⟩) (u8s b) := hY'.lift fun p hp => (zf (ze Y) _).cell (by omega)
  have Hl := zb hl
  have Hz := zb hz
  have Hzl := zb hzl
  have Hs := zb hs
  have HY := zb hY'
  clear hz hzl h hs hY'
  have tok1 : Hid (0 < 1) := zb (by decide)
  go_enter Try.func6, Try.ntmps6
  go_upto_region 4 with (first
    | (clear tok1; refine zfh rfl (.tmp 14) (.tmp 15) rfl Y.heap.size (some ⟨Y.heap.size, 0, none⟩) 0 0 [] rfl O0 B (some ⟨blk0, off, none⟩) 256 c b rfl Hl.out H0 (by decide) (zf (ze Y) _).size ?_; intro A1 c1 w1 o1 g1 k1
       have F1 : Fr Y w1 := zat (zf (ze Y) _) O0 g1 (zf (ze Y) _).size (Nat.le_refl _))
    | fail)
  try simp only [Act.put]
  simp only [Nat.zero_add, List.nil_append] at o1
  have hcc := o1.cap
  obtain ⟨g2, -, rfl, hg1, hg2, -⟩ := cown_store o1 (show 4 < 256 by decide)
  obtain ⟨hf4, ⟨y4, -, hc4⟩, s4⟩ := cown_at o1 (show 4 < 256 by decide)
  obtain ⟨hf5, ⟨y5, -, hc5⟩, -⟩ := cown_at o1 (show 5 < 256 by decide)
  obtain ⟨hf6, ⟨y6, -, hc6⟩, -⟩ := cown_at o1 (show 6 < 256 by decide)
  obtain ⟨hf7, ⟨y7, -, hc7⟩, -⟩ := cown_at o1 (show 7 < 256 by decide)
  have o4 := s4 (.int .u8 0)
  have o5 := (cown_at o4 (show 5 < 256 by decide)).2.2 (.int .u8 0)
  have o6 := (cown_at o5 (show 6 < 256 by decide)).2.2 (.int .u8 0)
  have o7 := (cown_at o6 (show 7 < 256 by decide)).2.2 (.int .u8 0)
  have es : (((((u8s b).set 4 (.int .u8 0)).set 5 (.int .u8 0)).set 6 (.int .u8 0)).set 7 (.int .u8 0)) = u8s (zerB b) := by
    rw [← zer_sets Hl.out]
    simp only [List.map_set]
  rw [es] at o7
  have kp : ∀ (W : World) (j : Nat), KpG W g2 (W.setCell ⟨g2, j, none⟩ (.int .u8 0)) := fun W j => ⟨rfl, rfl, rfl, by simp [World.setCell], fun k _ hk => Below.heap_setCell _ _ _ _ (fun e => hk (by simp [e]))⟩
  have K7 := ((((KpG.refl w1 g2).trans (kp _ 4)).trans (kp _ 5)).trans (kp _ 6)).trans (kp _ 7)
  have F7 := K7.below F1 F1.size hg1
  obtain ⟨W7, hW7⟩ : ∃ W, (((w1.setCell ⟨g2, 4, none⟩ (.int .u8 0)).setCell ⟨g2, 5, none⟩ (.int .u8 0)).setCell ⟨g2, 6, none⟩ (.int .u8 0)).setCell ⟨g2, 7, none⟩ (.int .u8 0) = W := ⟨_, rfl⟩
  rw [hW7] at o7 F7
  have h7 : Has W7 B (some ⟨blk0, off, none⟩) (u8s b) := HY.out.lift fun p hp => F7.cell (by omega)
  have cN := zmN (some ⟨blk0, off, none⟩) 256 c b hl (by decide) hby 4 4 (by decide) (by decide) (by decide) W7 (h7.mono (Nat.le_trans hBY F7.size))
  rw [show ((4 : Nat) : Int) = 4 from rfl] at cN
  have cS := ref_sumN (n := 256) (c := c1) (w := W7) Hzl.out Hz.out (by decide) (ze W7) o7.has
  rw [← sum_zer] at cS
  have H7 := zb h7
  have D : Hid (DecR b zce 5) := zb (.inr (.inl ⟨hl, Hs.out, rfl, rfl⟩))
  have hs := Hs.out
  generalize leN ((b.drop 4).take 4) = x at *
  generalize sumB b = S at *
  have h1 : (x != (S : Int)) = true := by rw [bne_iff_ne]; exact hs
  clear hs Hs hl
  have hw6 : IntKind.u64.wrap (S : Int) = S := by rw [zeB]; omega
  have hc14 : ¬ c1 = 4 := by omega
  have hci : (4 : Int) ≤ (c1 : Int) := by omega
  have a7 := aY.below F7 aY.lt
  clear s4 o4 o5 o6 o1 es kp K7 o7 g1 k1 O0 H0 hby h7 hY
  go_wp2_with fail
  refine cN.mono ?_
  rintro e w8 ⟨rfl, rfl⟩
  go_wp2_with fail
  refine cS.mono ?_
  rintro e w8 ⟨rfl, f8⟩
  have F8 := za F7 f8
  have a8 := a7.below f8 a7.lt
  clear cS cN hcc hc14 hci hf4 hf5 hf6 hf7 hc4 hc5 hc6 hc7
  have tok1 : Hid (0 < 1) := zb (by decide)
  go_wp2_with (first
    | (clear tok1; refine wpList_put (ds := zh.cells) zaw rfl (.tmp 2) (.tmp 35) rfl w.heap.size 0 rfl rfl rfl (za6 _) a8 (Nat.le_of_ble_eq_true rfl) (zk _ _ (Nat.le_of_eq rfl)) ?_; intro w3 a3 k3)
    | fail)
  exact bodyPost_ret (zq.result2 rfl _ w.heap.size rfl rfl a3) rfl ⟨zh, zce, 5, rfl, zb ⟨zero_np, D.out, k3.below (za fY F8) (za fY F8).size (Nat.le_refl _)⟩⟩
set_option maxHeartbeats 4000000 in
theorem rdec_go {w : World} {B c blk0 off : Nat} {b : List Int} (h : Has w B (some ⟨blk0, off, none⟩) (u8s b)) (hb0 : blk0 < B) (hB : B ≤ w.heap.size) (hl : b.length = 256) (hc : 256 ≤ c) (hby : zdi b) (hs : leN ((b.drop 4).take 4) = (sumB b : Int)) :
    Calls Try.prog 6 #[.slice (some ⟨blk0, off, none⟩) 256 c] w (DcR w b) := by
  obtain ⟨Y, hY, fY, aY⟩ : ∃ Y, w.alloc (.cells zh.cells.toArray 29) = Y ∧ Fr w Y ∧ Arr Y w.heap.size 29 zh.cells.toArray := ⟨_, rfl, zf (ze _) _, Arr.new _ _ _⟩
  rw [zeroN_cells] at hY
  have hY' := h.lift (w' := Y) fun p hp => fY.cell (by omega)
  have hBY : B ≤ Y.heap.size := Nat.le_trans hB fY.size
  have hz := bytes_zerB hby
  have hzl := zerB_len hl
  have hw := sumB_lt hby
  have Hby := zb hby
  have O0 := Own.lit Y Y.heap.size 5 #[] 0 1 (Nat.le_refl _) (by unfold maxLen; decide) rfl
  have H0 : Has (Y.alloc (.cells #[] 5)) B (some ⟨blk0, off, none⟩) (u8s b) := hY'.lift fun p hp => (zf (ze Y) _).cell (by omega)
  have Hl := zb hl
  have Hz := zb hz
  have Hzl := zb hzl
  have Hs := zb hs
  have HY := zb hY'
  clear hz hzl h hs hY'
  have tok1 : Hid (0 < 1) := zb (by decide)
  go_enter Try.func6, Try.ntmps6
  go_upto_region 4 with (first
    | (clear tok1; refine zfh rfl (.tmp 14) (.tmp 15) rfl Y.heap.size (some ⟨Y.heap.size, 0, none⟩) 0 0 [] rfl O0 B (some ⟨blk0, off, none⟩) 256 c b rfl Hl.out H0 (by decide) (zf (ze Y) _).size ?_; intro A1 c1 w1 o1 g1 k1
       have F1 : Fr Y w1 := zat (zf (ze Y) _) O0 g1 (zf (ze Y) _).size (Nat.le_refl _))
    | fail)
  try simp only [Act.put]
  simp only [Nat.zero_add, List.nil_append] at o1
  have hcc := o1.cap
  obtain ⟨g2, -, rfl, hg1, hg2, -⟩ := cown_store o1 (show 4 < 256 by decide)
  obtain ⟨hf4, ⟨y4, -, hc4⟩, s4⟩ := cown_at o1 (show 4 < 256 by decide)
  obtain ⟨hf5, ⟨y5, -, hc5⟩, -⟩ := cown_at o1 (show 5 < 256 by decide)
  obtain ⟨hf6, ⟨y6, -, hc6⟩, -⟩ := cown_at o1 (show 6 < 256 by decide)
  obtain ⟨hf7, ⟨y7, -, hc7⟩, -⟩ := cown_at o1 (show 7 < 256 by decide)
  have o4 := s4 (.int .u8 0)
  have o5 := (cown_at o4 (show 5 < 256 by decide)).2.2 (.int .u8 0)
  have o6 := (cown_at o5 (show 6 < 256 by decide)).2.2 (.int .u8 0)
  have o7 := (cown_at o6 (show 7 < 256 by decide)).2.2 (.int .u8 0)
  have es : (((((u8s b).set 4 (.int .u8 0)).set 5 (.int .u8 0)).set 6 (.int .u8 0)).set 7 (.int .u8 0)) = u8s (zerB b) := by
    rw [← zer_sets Hl.out]
    simp only [List.map_set]
  rw [es] at o7
  have kp : ∀ (W : World) (j : Nat), KpG W g2 (W.setCell ⟨g2, j, none⟩ (.int .u8 0)) := fun W j => ⟨rfl, rfl, rfl, by simp [World.setCell], fun k _ hk => Below.heap_setCell _ _ _ _ (fun e => hk (by simp [e]))⟩
  have K7 := ((((KpG.refl w1 g2).trans (kp _ 4)).trans (kp _ 5)).trans (kp _ 6)).trans (kp _ 7)
  have F7 := K7.below F1 F1.size hg1
  obtain ⟨W7, hW7⟩ : ∃ W, (((w1.setCell ⟨g2, 4, none⟩ (.int .u8 0)).setCell ⟨g2, 5, none⟩ (.int .u8 0)).setCell ⟨g2, 6, none⟩ (.int .u8 0)).setCell ⟨g2, 7, none⟩ (.int .u8 0) = W := ⟨_, rfl⟩
  rw [hW7] at o7 F7
  have h7 : Has W7 B (some ⟨blk0, off, none⟩) (u8s b) := HY.out.lift fun p hp => F7.cell (by omega)
  have cN := zmN (some ⟨blk0, off, none⟩) 256 c b hl (by decide) hby 4 4 (by decide) (by decide) (by decide) W7 (h7.mono (Nat.le_trans hBY F7.size))
  rw [show ((4 : Nat) : Int) = 4 from rfl] at cN
  have cS := ref_sumN (n := 256) (c := c1) (w := W7) Hzl.out Hz.out (by decide) (ze W7) o7.has
  rw [← sum_zer] at cS
  have H7 := zb h7
  rw [Hs.out] at cN
  generalize hS : sumB b = S at *
  have HS := zb hS
  have h1 : ((S : Int) != (S : Int)) = false := by simp
  clear hS hl
  have hw6 : IntKind.u64.wrap (S : Int) = S := by rw [zeB]; omega
  have hc14 : ¬ c1 = 4 := by omega
  have hci : (4 : Int) ≤ (c1 : Int) := by omega
  have a7 := aY.below F7 aY.lt
  clear s4 o4 o5 o6 o1 es kp K7 o7 g1 k1 O0 H0 hby h7 hY
  go_wp2_with fail
  refine cN.mono ?_
  rintro e w8 ⟨rfl, rfl⟩
  go_wp2_with fail
  refine cS.mono ?_
  rintro e w8 ⟨rfl, f8⟩
  have F8 := za F7 f8
  have a8 := a7.below f8 a7.lt
  clear cS cN hcc hc14 hci hf4 hf5 hf6 hf7 hc4 hc5 hc6 hc7
  obtain ⟨N, hN⟩ : ∃ N, (∃ M, Fit M ∧ bkB M = b) → Fit N ∧ bkB N = b := by
    by_cases h : ∃ M, Fit M ∧ bkB M = b
    · obtain ⟨M, hM⟩ := h
      exact ⟨M, fun _ => hM⟩
    · exact ⟨zce, fun q => absurd q h⟩
  have h8 : Has w8 B (some ⟨blk0, off, none⟩) (u8s b) := H7.out.lift fun p hp => f8.cell (by have := F7.size; omega)
  have cR := qread_at (c := c) h8 hb0 (Nat.le_trans hBY F8.size) Hl.out hc Hby.out hN
  have HN := zb hN
  have zz : w.heap.size < w8.heap.size := a8.lt
  clear h8 H7 hN
  unfold nv at cR
  go_wp2_with fail
  refine cR.mono ?_
  rintro e w4 ⟨v, r, rfl, h4⟩
  obtain ⟨n4, f4, g4⟩ := h4.out
  have G4 := zb g4
  have F4 := za F8 f4
  have a4 := a8.below f4 a8.lt
  obtain ⟨U, hU, fU, aU⟩ : ∃ U, w4.alloc (.cells zh.cells.toArray 29) = U ∧ Fr w4 U ∧ Arr U w4.heap.size 29 zh.cells.toArray := ⟨_, rfl, zf (ze _) _, Arr.new _ _ _⟩
  rw [zeroN_cells] at hU
  have tok1 : Hid (0 < 1) := zb (by decide)
  clear cR h4 g4 a7 aY
  go_upto_region 9 with (first
    | (clear tok1; refine wpList_put (ds := v.cells) zaw rfl (.tmp 7) (.tmp 37) rfl w4.heap.size 0 rfl rfl rfl (za6 _) aU (Nat.le_of_ble_eq_true rfl) (zk _ _ (Nat.le_of_eq rfl)) ?_; intro w5 a5 k5)
    | fail)
  try simp only [Act.put]
  have f5 : Fr w4 w5 := k5.below fU fU.size (Nat.le_refl _)
  have n5 := n4.fr f5
  have F5 := za fY (za F4 f5)
  have a2 := a4.below f5 a4.lt
  have l5 : (ldS 29 (.pointer (some ⟨w4.heap.size, 0, none⟩))).run Try.prog w5 = .ok (.agg v.cells.toArray) w5 := zq.ld rfl a5
  have hb5 : Has w5 w5.heap.size (some ⟨blk0, off, none⟩) (u8s b) := (HY.out.lift (w' := w5) fun p hp => (za F4 f5).cell (by omega)).mono (by have := (za F4 f5).size; omega)
  have N5 := zb n5
  have HB := zb hb5
  clear n4 aU hU k5 fU a4 hb5 a8
  by_cases hF : Fit r
  · have cE := rencode_yes n5.nh hF.1 hF.2
    have hF' := zb hF
    unfold nv at cE
    clear n5 hF
    go_wp2_with fail
    refine cE.mono ?_
    rintro e w6 ⟨A6, c6, rfl, h6⟩
    obtain ⟨o6, f6⟩ := h6.out
    have wr := zb (bk_sum hF'.out)
    have sA := conv_str (w := w6) (c := c6) o6.has wr.out.1
    have sB := conv_str (w := w6) (c := c) (HB.out.lift (w' := w6) fun p hp => f6.cell hp) Hl.out
    have eAB := str_eqb wr.out.2.1 Hby.out
    generalize strOfNums (bkB r) = tA at *
    generalize strOfNums b = tB at *
    have a7 := a2.below f6 a2.lt
    have l7 : (ldS 29 (.pointer (some ⟨w4.heap.size, 0, none⟩))).run Try.prog w6 = .ok (.agg v.cells.toArray) w6 := zq.ld rfl (a5.below f6 a5.lt)
    have N7 := zb (N5.out.fr f6)
    have F7' := zb (za F5 f6)
    have tok1 : Hid (0 < 1) := zb (by decide)
    clear cE a5 a2 o6 h6 l5
    by_cases hq : bkB r = b
    · rw [decide_eq_true hq] at eAB
      have eNE : (tA.toList != tB.toList) = false := by rw [bne, eAB]; rfl
      have D : Hid (DecR b r 0) := zb (.inr (.inr (.inr ⟨hF'.out, hq, rfl⟩)))
      clear hq f6
      go_wp2_with (first
        | (clear tok1; refine wpList_put (ds := v.cells) zaw rfl (.tmp 2) (.tmp 53) rfl w.heap.size 0 rfl rfl rfl (za6 _) a7 (Nat.le_of_ble_eq_true rfl) (zk _ _ (Nat.le_of_eq rfl)) ?_; intro w9 a9 k9)
        | fail)
      exact bodyPost_ret (zq.result2 rfl _ w.heap.size rfl rfl a9) rfl ⟨v, r, 0, rfl, zb ⟨(N7.out.kpg k9 (by omega)).weak (fun k _ hk => Nat.lt_of_lt_of_le zz hk), D.out, k9.below F7'.out F7'.out.size (Nat.le_refl _)⟩⟩
    · rw [decide_eq_false hq] at eAB
      have eNE : (tA.toList != tB.toList) = true := by rw [bne, eAB]; rfl
      have D : Hid (DecR b zce 4) := zb (.inr (.inr (.inl ⟨Hl.out, by rw [HS.out]; exact Hs.out, fun q => hq (by rw [G4.out q]; exact (HN.out q).2), rfl, rfl⟩)))
      clear hq f6
      go_wp2_with (first
        | (clear tok1; refine wpList_put (ds := zh.cells) zaw rfl (.tmp 2) (.tmp 52) rfl w.heap.size 0 rfl rfl rfl (za6 _) a7 (Nat.le_of_ble_eq_true rfl) (zk _ _ (Nat.le_of_eq rfl)) ?_; intro w9 a9 k9)
        | fail)
      exact bodyPost_ret (zq.result2 rfl _ w.heap.size rfl rfl a9) rfl ⟨zh, zce, 4, rfl, zb ⟨zero_np, D.out, k9.below F7'.out F7'.out.size (Nat.le_refl _)⟩⟩
  · have cE := rencode_no n5.nh hF
    have D : Hid (DecR b zce 4) := zb (.inr (.inr (.inl ⟨Hl.out, by rw [HS.out]; exact Hs.out, fun q => hF (by rw [G4.out q]; exact (HN.out q).1), rfl, rfl⟩)))
    unfold nv at cE
    clear n5 hF
    go_wp2_with fail
    refine cE.mono ?_
    rintro e w6 ⟨rfl, f6⟩
    have a7 := a2.below f6 a2.lt
    have F7' := zb (za F5 f6)
    have tok1 : Hid (0 < 1) := zb (by decide)
    clear cE a5 a2 f6 l5
    go_wp2_with (first
      | (clear tok1; refine wpList_put (ds := zh.cells) zaw rfl (.tmp 2) (.tmp 52) rfl w.heap.size 0 rfl rfl rfl (za6 _) a7 (Nat.le_of_ble_eq_true rfl) (zk _ _ (Nat.le_of_eq rfl)) ?_; intro w9 a9 k9)
      | fail)
    exact bodyPost_ret (zq.result2 rfl _ w.heap.size rfl rfl a9) rfl ⟨zh, zce, 4, rfl, zb ⟨zero_np, D.out, k9.below F7'.out F7'.out.size (Nat.le_refl _)⟩⟩
/-- The document's Decode, whatever it is handed. -/
theorem rdec_at {w : World} {B n c : Nat} {A : Option Addr} {b : List Int} (h : Has w B A (u8s b)) (hB : B ≤ w.heap.size) (hn : b.length = n) (hc : n ≤ c) (hnm : n ≤ 100000) (hby : zdi b) :
    Calls Try.prog 6 #[.slice A n c] w (DcR w b) := by
  by_cases h256 : n = 256
  · subst h256
    obtain ⟨b0, off, rfl, hb0, -⟩ := h.form (by intro e; have := congrArg List.length e; rw [List.length_map, hn] at this; cases this)
    by_cases hs : leN ((b.drop 4).take 4) = (sumB b : Int)
    · exact rdec_go h hb0 hB hn hc hby hs
    · exact rdec_sum h hb0 hB hn hc hby hs
  · exact rdec_len hn h256 (by omega)
end Go.Proofs.Ytmjjjdikpnhpiaa
/- CodecBytes, walked. -/
namespace Go.Proofs.Ytmjjjdikpnhpiaa
set_option linter.unusedVariables false
set_option linter.unusedSimpArgs false
set_option maxRecDepth 100000
open Go.RowKit
open Go.ChangeShapes Go.WideShapes Go.Deep
theorem bd_u8 {z : Int} (h : (Lit.int .u8 z).wf = true) : 0 ≤ z ∧ z ≤ 255 := by
  simpa [Lit.wf, IntKind.min, IntKind.max, IntKind.signed, IntKind.bits] using h
section
variable {H : Type} {enc : TypeId × Value → H} {w : World} {base : Nat} {spare : Nat → Bool} {held : Bool}
theorem open_bytes {r : Reach} {b0 : Nat} {v : Value} {d : DataW H} {p : List MemPlace} (hv : Value.okWide Try.prog w r b0 22 v) (h : DataW.Trod enc Try.prog w 0 (fun _ => true) held 22 v d p) :
    ∃ (A : Option Addr) (n c : Nat) (ys : List Int), v = .slice A n c ∧ ys.length = n ∧ n ≤ c ∧ n ≤ maxLen ∧ zdi ys ∧ Has w w.heap.size A (u8s ys) := by
  obtain ⟨A, n, c, rfl⟩ := okWide_slice Try.underlying22 hv
  obtain ⟨fuel, hf⟩ := h
  rcases open_ints Try.underlying22 Try.underlying5 zgs hf with ⟨hcs, _⟩ | ⟨a, len, cap, zs, hcs, _, hl, hm, hz, _, hc, hw⟩
  · simp [Value.cells] at hcs
    obtain ⟨rfl, rfl, rfl⟩ := hcs
    exact ⟨none, 0, 0, [], rfl, rfl, Nat.le_refl _, Nat.zero_le _, bytes_nil, Has.nil⟩
  · simp [Value.cells] at hcs
    obtain ⟨rfl, rfl, rfl⟩ := hcs
    obtain ⟨ys, e1, e2, e3, e4, _⟩ := zhQ (.inr ⟨a, rfl, hl, hm, by simpa using hz, hc, hw⟩)
    exact ⟨some a, n, c, ys, rfl, e1, e2, Nat.le_trans hl hm, fun z hz => bd_u8 (e3 z hz), e4⟩
end
theorem rem_u8 {z : Int} (h : 0 ≤ z ∧ z ≤ 255) (k : Int) (hk : 0 < k ∧ k ≤ 255) : 0 ≤ z.tmod k ∧ z.tmod k ≤ 255 := by
  rw [Int.tmod_eq_emod_of_nonneg h.1]
  have := Int.emod_nonneg z (show k ≠ 0 by omega)
  have := Int.emod_lt_of_pos z hk.1
  omega
theorem splice_bytes {a b : List Int} {j : Nat} (ha : zdi a) (hb : zdi b) (h : j + b.length ≤ a.length) : zdi (splice a j b) := by
  unfold splice
  first | exact bytes_app (bytes_app (zdD ha _) hb) (bytes_drop ha _) | exact bytes_app (zdD ha _) (bytes_app hb (bytes_drop ha _))
theorem u8_put {l : List Int} {j : Nat} {z : Int} (h : j < l.length) : splice (u8s l) j [.int .u8 z] = u8s (l.set j z) := by
  have e : splice (u8s l) j [Value.int .u8 z] = u8s (l.take j ++ (z :: l.drop (j + 1))) := by
    unfold splice
    simp [List.map_take, List.map_drop]
  rw [e, List.set_eq_take_append_cons_drop, if_pos h]
theorem set_byt {b : List Int} (hb : zdi b) {k : Nat} {z : Int} (hz : 0 ≤ z ∧ z ≤ 255) : zdi (b.set k z) := fun y hy => by
  rcases List.mem_or_eq_of_mem_set hy with h | h
  · exact hb _ h
  · subst h; exact hz
theorem emod_u8 {z : Int} (k : Int) (hk : 0 < k ∧ k ≤ 255) : 0 ≤ z % k ∧ z % k ≤ 255 := by
  have := Int.emod_nonneg z (show k ≠ 0 by omega)
  have := Int.emod_lt_of_pos z hk.1
  omega
attribute [local go_sem ↓] zw zt zae zbh zaP
set_option maxHeartbeats 4000000 in
theorem codecBytes_core {w : World} {A : Option Addr} {n c : Nat} {b : List Int} {x1 x2 x3 : Int} (h : Has w w.heap.size A (u8s b)) (hn : b.length = n) (hc : n ≤ c) (hm : n ≤ maxLen) (hby : zdi b) (h1 : 0 ≤ x1 ∧ x1 ≤ 255) (h2 : 0 ≤ x2 ∧ x2 ≤ 255) (h3 : 0 ≤ x3 ∧ x3 ≤ 255) :
    Calls Try.prog 3 #[.slice A n c, .int .u8 x1, .int .u8 x2, .int .u8 x3] w fun e w' => e = .returned (.bool true) ∧ Below w.heap.size w w' := by
  by_cases h600 : 600 < n
  · have hz : ((n : Int) > 600) := by omega
    have hz2 : (600 : Int) < (n : Int) := by omega
    have cW := awake11 w
    clear h hn hby h600
    go_enter Try.func3, Try.ntmps3
    go_wp2_with fail
    refine cW.mono ?_
    rintro e w1 ⟨rfl, f1⟩
    go_wp2_with fail
    go_ret
    exact ⟨rfl, f1⟩
  have hz2 : ¬ (600 : Int) < (n : Int) := by omega
  have hD := fun W (f : Fr w W) => decode_at (w := W) (c := c) (h.fr (Nat.le_refl _) f) f.size hn hc (by omega) hby
  have hR := fun W (f : Fr w W) => rdec_at (w := W) (c := c) (h.fr (Nat.le_refl _) f) f.size hn hc (by omega) hby
  have rr := ze w
  have H := zb h
  have HN := zb hn
  have HBY := zb hby
  have H600 := zb h600
  have HC := zb hc
  unfold DcR nv at hD hR
  clear h hn hby h600 hm hc
  go_enter Try.func3, Try.ntmps3
  go_wp2_with fail
  refine (hD _ rr).mono ?_
  rintro e w1 ⟨v1, r1, z1, rfl, g1⟩
  obtain ⟨n1, d1, f1⟩ := g1.out
  obtain ⟨V1, hV1, fV1, aV1⟩ : ∃ V, w1.alloc (.cells zh.cells.toArray 29) = V ∧ Fr w1 V ∧ Arr V w1.heap.size 29 zh.cells.toArray := ⟨_, rfl, zf (ze _) _, Arr.new _ _ _⟩
  rw [zeroN_cells] at hV1
  have tok1 : Hid (0 < 1) := zb (by decide)
  have D1 := zb d1
  clear g1 hD d1
  go_upto_region 4 with (first
    | (clear tok1; refine wpList_put (ds := v1.cells) zaw rfl (.tmp 9) (.tmp 21) rfl w1.heap.size 0 rfl rfl rfl (za6 _) aV1 (Nat.le_of_ble_eq_true rfl) (zk _ _ (Nat.le_of_eq rfl)) ?_; intro U1 b1 k1)
    | fail)
  try simp only [Act.put]
  have fU1 : Fr w1 U1 := k1.below fV1 fV1.size (Nat.le_refl _)
  have F1 := za f1 fU1
  have N1 := zb (n1.nh.fr fU1)
  have zw1 : w.heap.size ≤ w1.heap.size := f1.size
  clear n1 aV1 hV1 fV1 k1
  go_wp2_with fail
  refine (hR _ F1).mono ?_
  rintro e w2 ⟨v2, r2, z2, rfl, g2⟩
  obtain ⟨n2, d2, f2⟩ := g2.out
  obtain ⟨rfl, rfl⟩ := decR_one D1.out d2
  have b2 := b1.below f2 b1.lt
  obtain ⟨V2, hV2, fV2, aV2⟩ : ∃ V, w2.alloc (.cells zh.cells.toArray 29) = V ∧ Fr w2 V ∧ Arr V w2.heap.size 29 zh.cells.toArray := ⟨_, rfl, zf (ze _) _, Arr.new _ _ _⟩
  rw [zeroN_cells] at hV2
  have tok1 : Hid (0 < 1) := zb (by decide)
  clear g2 hR d2 b1
  go_upto_region 5 with (first
    | (clear tok1; refine wpList_put (ds := v2.cells) zaw rfl (.tmp 11) (.tmp 26) rfl w2.heap.size 0 rfl rfl rfl (za6 _) aV2 (Nat.le_of_ble_eq_true rfl) (zk _ _ (Nat.le_of_eq rfl)) ?_; intro U2 c2 k2)
    | fail)
  try simp only [Act.put]
  have fU2 : Fr w2 U2 := k2.below fV2 fV2.size (Nat.le_refl _)
  have F2 := za F1 (za f2 fU2)
  have M1 := zb (N1.out.fr (za f2 fU2))
  have M2 := zb (n2.nh.fr fU2)
  have b3 := b2.below fU2 b2.lt
  have l1 : (ldS 29 (.pointer (some ⟨w1.heap.size, 0, none⟩))).run Try.prog U2 = .ok (.agg v1.cells.toArray) U2 := zq.ld rfl b3
  have l2 : (ldS 29 (.pointer (some ⟨w2.heap.size, 0, none⟩))).run Try.prog U2 = .ok (.agg v2.cells.toArray) U2 := zq.ld rfl c2
  have cQ := q_rsame M1.out M2.out
  rw [csmN_refl] at cQ
  unfold nv at cQ
  have ez : (z1 != z1) = false := by simp
  have hmk : ∀ W : World, (Instr.makeSlice 22 (.int .i64 256) (.int .i64 256)).run Try.prog W = .ok (.slice (some ⟨W.heap.size, 0, none⟩) 256 256) (W.alloc (.cells (Array.replicate 256 (.int .u8 0)) 5)) := fun W => zlZ 256 (by decide) W
  have zw2 : w.heap.size ≤ w2.heap.size := (za F1 f2).size
  have z12 : w1.heap.size < w2.heap.size := b2.lt
  clear n2 aV2 hV2 fV2 k2 M1 M2 N1 D1 b2
  go_wp2_with fail
  refine cQ.mono ?_
  rintro e w3 ⟨rfl, f3⟩
  have F3 := za F2 f3
  have b4 := b3.below f3 b3.lt
  have c4 := c2.below f3 c2.lt
  obtain ⟨V3, hV3, fV3, aV3⟩ : ∃ V, w3.alloc (.cells (Array.replicate 256 (.int .u8 0)) 5) = V ∧ Fr w3 V ∧ Arr V w3.heap.size 5 (Array.replicate 256 (Value.int .u8 0)) := ⟨_, rfl, zf (ze _) _, Arr.new _ _ _⟩
  rw [← u8s_zeros] at aV3
  have F3' := za F3 fV3
  have b5 := b4.below fV3 b4.lt
  have c5 := c4.below fV3 c4.lt
  have hw3 : w.heap.size ≤ w3.heap.size := F3.size
  have hq1 := b4.lt
  have hq2 := c4.lt
  have hZ : zdi (List.replicate 256 (0 : Int)) := zeR _
  have lZ : (List.replicate 256 (0 : Int)).length = 256 := List.length_replicate
  generalize List.replicate 256 (0 : Int) = Z at *
  have lT : (b.take (min n 248)).length = min n 248 := by rw [List.length_take]; have := HN.out; omega
  have hT : Has V3 w.heap.size A (u8s (b.take (min n 248))) := by
    have := (H.out.fr (Nat.le_refl _) F3').take (min n 248)
    rwa [← List.map_take] at this
  have bT : zdi (b.take (min n 248)) := zdD HBY.out _
  have LZ := zb lZ
  have hsp : (splice Z 8 (b.take (min n 248))).length = 256 := by rw [length_splice _ _ _ (by rw [lT, lZ]; omega)]; exact lZ
  have bsp := splice_bytes (j := 8) hZ bT (by rw [lT, lZ]; omega)
  have LT := zb lT
  generalize b.take (min n 248) = T at *
  have tok1 : Hid (0 < 1) := zb (by decide)
  clear cQ b4 c4 l1 l2 b3 c2 lZ lT
  go_upto_region 9 with (first
    | (clear tok1; refine wpList_copy_u8 rfl (.tmp 39) (.tmp 40) rfl rfl rfl w3.heap.size 8 aV3 (by rw [LT.out]) rfl hT (by rw [LT.out, LZ.out]; omega) ?_; intro v4 w4 a4 k4)
    | fail)
  try simp only [Act.put]
  have K3 := ze w4
  have y1 := emod_u8 (z := x1) 4 (by decide)
  have y2 := emod_u8 (z := x2) 8 (by decide)
  have y3 := emod_u8 (z := x3) 4 (by decide)
  generalize hC : splice Z 8 T = C0 at *
  have B1 := zb (set_byt bsp (k := 0) y1)
  have B2 := zb (set_byt B1.out (k := 1) y2)
  have B3 := zb (set_byt B2.out (k := 2) y3)
  have L0 := zb hsp
  have F4 : Fr w w4 := k4.below F3' F3'.size hw3
  have b6 := k4.arr b5 (by omega)
  have c6 := k4.arr c5 (by omega)
  clear y1 y2 y3 hC bsp hsp k4 hT aV3 b5 c5 K3 hV3 hmk
  have tok1 : Hid (0 < 1) := zb (by decide)
  have tok2 : Hid (0 < 1) := zb (by decide)
  have tok3 : Hid (0 < 1) := zb (by decide)
  go_upto_region 10 with (first
    | (clear tok1; refine wpList_put (ds := [.int .u8 (x1 % 4)]) u8_info' rfl (.tmp 51) (.tmp 46) rfl w3.heap.size 0 rfl rfl rfl (zdv _ rfl) a4 (by rw [List.length_map, L0.out]; decide) (u8_put (by rw [L0.out]; decide)) ?_; intro w5 a5 k5)
    | (clear tok2; refine wpList_put (ds := [.int .u8 (x2 % 8)]) u8_info' rfl (.tmp 52) (.tmp 48) rfl w3.heap.size 1 rfl rfl rfl (zdv _ rfl) a5 (by rw [List.length_map, List.length_set, L0.out]; decide) (u8_put (by rw [List.length_set, L0.out]; decide)) ?_; intro w6 a6 k6)
    | (clear tok3; refine wpList_put (ds := [.int .u8 (x3 % 4)]) u8_info' rfl (.tmp 53) (.tmp 50) rfl w3.heap.size 2 rfl rfl rfl (zdv _ rfl) a6 (by rw [List.length_map, List.length_set, List.length_set, L0.out]; decide) (u8_put (by rw [List.length_set, List.length_set, L0.out]; decide)) ?_; intro w7 a7 k7)
    | fail)
  try simp only [Act.put]
  have L3 : Hid ((((C0.set 0 (x1 % 4)).set 1 (x2 % 8)).set 2 (x3 % 4)).length = 256) := zb (by rw [List.length_set, List.length_set, List.length_set]; exact L0.out)
  generalize ((C0.set 0 (x1 % 4)).set 1 (x2 % 8)).set 2 (x3 % 4) = C at *
  have K7 := (k5.trans k6).trans k7
  have F7 : Fr w w7 := K7.below F4 F4.size hw3
  have b7 := K7.arr b6 (by omega)
  have c7 := K7.arr c6 (by omega)
  have S3 := bytes_sealB B3.out
  have S4 := sealB_len L3.out
  have hS3 := zb S3
  have hS4 := zb S4
  have cw := whole_at (c := 256) (zax _ a7) a7.lt L3.out B3.out
  clear a4 a5 a6 k5 k6 k7 K7 b6 c6 S3 S4
  go_wp2_with fail
  refine cw.mono ?_
  rintro e w8 ⟨A8, c8, rfl, g8⟩
  obtain ⟨o8, h8, f8⟩ := g8.out
  have cD := decode_at (c := c8) o8.has (Nat.le_refl _) hS4.out h8 (by decide) hS3.out
  unfold DcR nv at cD
  have b8 := b7.below f8 b7.lt
  have a8 := a7.below f8 a7.lt
  have c8' := c7.below f8 c7.lt
  clear cw g8 o8
  go_wp2_with fail
  refine cD.mono ?_
  rintro e w9 ⟨v3, r3, z3, rfl, g9⟩
  obtain ⟨n9, d9, f9⟩ := g9.out
  have D9 := zb d9
  have b9 := b8.below f9 b8.lt
  have a9 := a8.below f9 a8.lt
  have c9 := c8'.below f9 c8'.lt
  have F9 := za F7 (za f8 f9)
  have h89 : w3.heap.size < w8.heap.size := a8.lt
  have tok1 : Hid (0 < 1) := zb (by decide)
  clear cD g9 d9
  go_upto_region 11 with (first
    | (clear tok1; refine wpList_put (ds := v3.cells) zaw rfl (.tmp 9) (.tmp 58) rfl w1.heap.size 0 rfl rfl rfl (za6 _) b9 (Nat.le_of_ble_eq_true rfl) (zk _ _ (Nat.le_of_eq rfl)) ?_; intro u1 b10 k10)
    | fail)
  try simp only [Act.put]
  have a10 := k10.arr a9 (by omega)
  have c10 := k10.arr c9 (by omega)
  have F10 : Fr w u1 := k10.below F9 F9.size zw1
  have N9 := zb (n9.kpg k10 (fun h => by omega))
  have cw := whole_at (c := 256) (zax _ a10) a10.lt L3.out B3.out
  clear n9 k10 a9 b9 c9
  go_wp2_with fail
  refine cw.mono ?_
  rintro e u2 ⟨A9, c11, rfl, g11⟩
  obtain ⟨o11, h11, f11⟩ := g11.out
  have cD := rdec_at (c := c11) o11.has (Nat.le_refl _) hS4.out h11 (by decide) hS3.out
  unfold DcR nv at cD
  have b11 := b10.below f11 b10.lt
  have c12 := c10.below f11 c10.lt
  clear cw g11 o11 a10
  go_wp2_with fail
  refine cD.mono ?_
  rintro e u3 ⟨v4', r4, z4, rfl, g12⟩
  obtain ⟨n12, d12, f12⟩ := g12.out
  obtain ⟨rfl, rfl⟩ := decR_one D9.out d12
  have b12 := b11.below f12 b11.lt
  have c13 := c12.below f12 c12.lt
  have f13 := za f11 f12
  have F13 := za F10 f13
  have N13 := zb (N9.out.fr f13)
  have h811 : w2.heap.size < u2.heap.size := c12.lt
  have tok1 : Hid (0 < 1) := zb (by decide)
  clear cD g12 d12
  go_upto_region 12 with (first
    | (clear tok1; refine wpList_put (ds := v4'.cells) zaw rfl (.tmp 11) (.tmp 64) rfl w2.heap.size 0 rfl rfl rfl (za6 _) c13 (Nat.le_of_ble_eq_true rfl) (zk _ _ (Nat.le_of_eq rfl)) ?_; intro u4 c14 k14)
    | fail)
  try simp only [Act.put]
  have b14 := k14.arr b12 (by omega)
  have F14 : Fr w u4 := k14.below F13 F13.size zw2
  have P1 := zb (N13.out.kpg k14 (fun h => by omega))
  have P2 := zb (n12.kpg k14 (fun h => by omega))
  have l1 : (ldS 29 (.pointer (some ⟨w1.heap.size, 0, none⟩))).run Try.prog u4 = .ok (.agg v3.cells.toArray) u4 := zq.ld rfl b14
  have l2 : (ldS 29 (.pointer (some ⟨w2.heap.size, 0, none⟩))).run Try.prog u4 = .ok (.agg v4'.cells.toArray) u4 := zq.ld rfl c14
  have cQ := q_rsame P1.out.nh P2.out.nh
  rw [csmN_refl] at cQ
  unfold nv at cQ
  have ez3 : (z3 == z3) = true := by simp
  have cA := awake11
  clear n12 k14 b12 c13
  go_wp2_with fail
  refine cQ.mono ?_
  rintro e u5 ⟨rfl, f15⟩
  have F15 := za F14 f15
  go_wp2_with fail
  refine (cA _).mono ?_
  rintro e u6 ⟨rfl, f16⟩
  go_wp2_with fail
  go_ret
  exact ⟨rfl, za F15 f16⟩
end Go.Proofs.Ytmjjjdikpnhpiaa
