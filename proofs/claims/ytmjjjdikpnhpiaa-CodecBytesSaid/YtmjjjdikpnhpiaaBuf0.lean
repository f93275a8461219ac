/- Buffers as lists of messages: their order, what is found, added, parted, left out. No program text. -/
import Derived.Test.YtmjjjdikpnhpiaaMsgF
import Derived.Test.YtmjjjdikpnhpiaaKeyE
import Derived.Test.YtmjjjdikpnhpiaaLawA
namespace Go.Proofs.Ytmjjjdikpnhpiaa
set_option linter.unusedVariables false
set_option linter.unusedSimpArgs false
set_option maxRecDepth 100000
open Go.RowKit
section
theorem za1 {k : RK} (h : okB k = true) : Len k := by
 obtain ⟨m, hm, hn, _⟩ := zi4 h;unfold Len; omega
def cd (m : RM) : Int := zu m.key
def zcq (l : List RM) : Prop := ∀ m ∈ l, m.wf ∧ okM m = true
structure OkL (l : List RM) : Prop where
 good : zcq l
 asc : l.Pairwise fun a b => cd a < cd b
theorem zcq.nil : zcq [] := fun _ h => by simp at h
theorem zcq.cons {m : RM} {l : List RM} (wm : m.wf) (om : okM m = true) (h : zcq l) : zcq (m :: l) := fun x hx => by
 rcases List.mem_cons.1 hx with rfl | hx
 ·exact ⟨wm, om⟩
 ·exact h x hx
theorem zcq.tail {m : RM} {l : List RM} (h : zcq (m :: l)) : zcq l := fun x hx => h x (List.mem_cons_of_mem _ hx)
theorem zcq.head {m : RM} {l : List RM} (h : zcq (m :: l)) : m.wf ∧ okM m = true := h m (by simp)
theorem zcq.sub {l l' : List RM} (h : zcq l) (hs : l'.Sublist l) : zcq l' := fun x hx => h x (hs.subset hx)
theorem OkL.nil : OkL [] := ⟨zcq.nil, List.Pairwise.nil⟩
theorem OkL.tail {m : RM} {l : List RM} (h : OkL (m :: l)) : OkL l := ⟨h.good.tail, (List.pairwise_cons.1 h.asc).2⟩
theorem OkL.lt {m : RM} {l : List RM} (h : OkL (m :: l)) : ∀ x ∈ l, cd m < cd x := (List.pairwise_cons.1 h.asc).1
theorem OkL.sub {l l' : List RM} (h : OkL l) (hs : l'.Sublist l) : OkL l' := ⟨h.good.sub hs, h.asc.sublist hs⟩
theorem OkL.cons {m : RM} {l : List RM} (wm : m.wf) (om : okM m = true) (h : OkL l) (hl : ∀ x ∈ l, cd m < cd x) : OkL (m :: l) := ⟨zcq.cons wm om h.good, List.pairwise_cons.2 ⟨hl, h.asc⟩⟩
def zaj (l : List RM) (k : RK) : Option RM := l.find? fun m => decide (m.key = k)
def zaK : List RM → RM → List RM
 | [], m => [m]
 | x :: l, m => if cd x < cd m then x :: zaK l m else if x.key = m.key then za7 x m :: l else m :: x :: l
def zcg (l more : List RM) : List RM := more.foldl zaK l
def zaL (l gone : List RM) : List RM := l.filter fun m => !(zaj gone m.key).isSome
def zbB (l : List RM) : Int := (l.map zc9).sum
theorem zoO (m : RM) (l : List RM) : zbB (m :: l) = zc9 m + zbB l := by simp [zbB]
theorem bytL_app (a b : List RM) : zbB (a ++ b) = zbB a + zbB b := by simp [zbB]
end
section
def zdK : Int → List RM → Nat
 | _, [] => 0
 | n, m :: l => if 96 < n + zc9 m then 0 else zdK (n + zc9 m) l + 1
def zfE (l : List RM) : List RM := l.take (zdK 0 l)
def zf9 (ps : List Int) (i : Nat) (c : Int) : Bool := (decide (i = 0) || decide (ps.getD (i - 1) 0 ≤ c)) && (decide (ps.length ≤ i) || decide (c < ps.getD i 0))
def zah (l : List RM) (ps : List RK) (i : Nat) : List RM := if ps.length < i then [] else l.filter fun m => zf9 (ps.map zu) i (cd m)
structure OkP (ps : List RK) : Prop where
 good : ∀ k ∈ ps, k.wf ∧ okB k = true
 asc : ps.Pairwise fun a b => zu a < zu b
def belowL (l : List RM) (ps : List RK) (i : Nat) : List RM := if ps.length < i then l else if i = 0 then [] else l.filter fun m => decide (cd m < (ps.map zu).getD (i - 1) 0)
theorem OkP.lt {ps : List RK} (h : OkP ps) {i j : Nat} (hij : i < j) (hj : j < ps.length) : (ps.map zu).getD i 0 < (ps.map zu).getD j 0 := by
 have hi : i < ps.length := by omega
 have := (List.pairwise_iff_getElem.1 h.asc) i j hi hj hij
 simpa [List.getD, hi, hj] using this
end
section
def zaS : List RM → Int → Nat
 | [], _ => 0
 | m :: l, c => if cd m < c then zaS l c + 1 else 0
def loP (l : List RM) (ps : List RK) (i : Nat) : Nat := if i = 0 then 0 else zaS l ((ps.map zu).getD (i - 1) 0)
def hiP (l : List RM) (ps : List RK) (i : Nat) : Nat := if ps.length ≤ i then l.length else zaS l ((ps.map zu).getD i 0)
end
section
structure RE where
 key : RK
 val : RV
 deriving DecidableEq, Inhabited
def ec (e : RE) : List Value := kc e.key ++ vc e.val
abbrev ev (e : RE) : Value := .agg (ec e).toArray
structure RE.ok (e : RE) : Prop where
 wk : e.key.wf
 ok : okB e.key = true
 wv : e.val.wf
 ov : okV e.val = true
def ce (e : RE) : Int := zu e.key
structure OkE (l : List RE) : Prop where
 good : ∀ e ∈ l, e.ok
 asc : l.Pairwise fun a b => ce a < ce b
theorem OkE.nil : OkE [] := ⟨fun _ h => by simp at h, List.Pairwise.nil⟩
theorem OkE.tail {m : RE} {l : List RE} (h : OkE (m :: l)) : OkE l := ⟨fun x hx => h.good x (List.mem_cons_of_mem _ hx), (List.pairwise_cons.1 h.asc).2⟩
theorem OkE.head {m : RE} {l : List RE} (h : OkE (m :: l)) : m.ok := h.good m (by simp)
theorem OkE.lt {m : RE} {l : List RE} (h : OkE (m :: l)) : ∀ x ∈ l, ce m < ce x := (List.pairwise_cons.1 h.asc).1
theorem OkE.sub {l l' : List RE} (h : OkE l) (hs : l'.Sublist l) : OkE l' := ⟨fun x hx => h.good x (hs.subset hx), h.asc.sublist hs⟩
theorem OkE.cons {m : RE} {l : List RE} (hm : m.ok) (h : OkE l) (hl : ∀ x ∈ l, ce m < ce x) : OkE (m :: l) :=
 ⟨fun x hx => by
  rcases List.mem_cons.1 hx with rfl | hx
  ·exact hm
  ·exact h.good x hx, List.pairwise_cons.2 ⟨hl, h.asc⟩⟩
def zO : List RE → RK → Option RV
 | [], _ => none
 | x :: l, k => if x.key = k then some x.val else zO l k
def za3 : List RE → RK → Option RV → List RE
 | [], k, some v => [⟨k, v⟩]
 | [], _, none => []
 | x :: l, k, o => if zu x.key < zu k then x :: za3 l k o else if x.key = k then (match o with | some v => ⟨k, v⟩ :: l | none => l) else (match o with | some v => ⟨k, v⟩ :: x :: l | none => x :: l)
def zhJ (m : RM) (o : Option RV) : Option RV := if zcy m = true then some (zbx (o.getD zE) o.isSome m) else none
def zba (l : List RE) (m : RM) : List RE := za3 l m.key (zhJ m (zO l m.key))
def zbI (l : List RE) (ms : List RM) : List RE := ms.foldl zba l
end
section
def zbY (ns : List Int) (most : Int) : Nat → List RM
 | 0 => []
 | j + 1 => if zbB (zaK (zbY ns most j) (zdq (ns.getD j 0) ((j : Int) + 1))) ≤ most then zaK (zbY ns most j) (zdq (ns.getD j 0) ((j : Int) + 1)) else zbY ns most j
def zdS (ns : List Int) (most : Int) : List RM := zbY ns most (min ns.length 60)
def zcs (e : RE) : Int := 2 + e.key.n + e.val.n
def zQ (l : List RE) : Int := (l.map zcs).sum
theorem zdx (m : RE) (l : List RE) : zQ (m :: l) = zcs m + zQ l := by simp [zQ]
theorem zg3 (a b : List RE) : zQ (a ++ b) = zQ a + zQ b := by simp [zQ]
def zij (v : Int) : RM := ⟨1, 0, zbL ((pl v : Nat) : Int), zgW ((pl v / 16 : Nat) : Int), 0⟩
def zbC (ns : List Int) (most : Int) : Nat → List RE
 | 0 => []
 | j + 1 => if zQ (zba (zbC ns most j) (zij (ns.getD j 0))) ≤ most then zba (zbC ns most j) (zij (ns.getD j 0)) else zbC ns most j
def zef (ns : List Int) (most : Int) : List RE := zbC ns most (min ns.length 80)
def zdJ : List RK → RK → List RK
 | [], k => [k]
 | x :: l, k => if zu x < zu k then x :: zdJ l k else if x = k then x :: l else k :: x :: l
theorem OkP.nil : OkP [] := ⟨fun _ h => by simp at h, List.Pairwise.nil⟩
theorem OkP.tail {k : RK} {l : List RK} (h : OkP (k :: l)) : OkP l := ⟨fun x hx => h.good x (List.mem_cons_of_mem _ hx), (List.pairwise_cons.1 h.asc).2⟩
def zbD (ns : List Int) (most : Int) : Nat → List RK
 | 0 => []
 | j + 1 => if ((zdJ (zbD ns most j) (zbL (ns.getD j 0))).length : Int) ≤ most then zdJ (zbD ns most j) (zbL (ns.getD j 0)) else zbD ns most j
def zca (ns : List Int) (most : Int) : List RK := zbD ns most (min ns.length 20)
end
section
def zeI (all : Int) : Int → List RE → Nat
 | _, [] => 0
 | _, [_] => 0
 | s, x :: y :: l => if 2 * s < all then zeI all (s + zcs x) (y :: l) + 1 else 0
def zaZ : List RE → Nat
 | [] => 0
 | x :: l => zeI (zQ (x :: l)) (zcs x) l + 1
end
end Go.Proofs.Ytmjjjdikpnhpiaa
