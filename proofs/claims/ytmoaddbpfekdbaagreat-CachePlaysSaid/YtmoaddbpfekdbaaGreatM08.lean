/- Rows one behind the other; a kid more, by the program. -/
import Derived.Test.YtmoaddbpfekdbaaGreatM07
import Derived.Deep.RegionLaw
import Derived.Lib.SlBuf
import Derived.Test.YtmoaddbpfekdbaaGreatM06
import Derived.Laws.OwnMore
import Derived.Laws.MakeOwn
namespace Go.Proofs.YtmoaddbpfekdbaaGreat
set_option maxRecDepth 100000
open Go.RowKit
set_option linter.unusedVariables false
attribute [local go_sem ↓] key_ld msg_ld
theorem int_elem : Elem Tryz.prog 3 1 8 := Elem.of (z := .int .i64 0) (by kernel_rfl) (by kernel_rfl) (by kernel_rfl) rfl
theorem key_elem : Elem Tryz.prog 112 9 16 := Elem.of (z := kv zeroK) (by kernel_rfl) (by kernel_rfl) (by kernel_rfl) rfl
theorem ints_und : Tryz.prog.underlying 37 = some (.slice 3) := by kernel_rfl
theorem keys_und : Tryz.prog.underlying 38 = some (.slice 112) := by kernel_rfl
theorem ints_one (l : List Int) : One (ints l) := fun v hv => by
  obtain ⟨x, _, rfl⟩ := List.mem_map.1 hv
  rfl
theorem ints_len1 (l : List Int) : (ints l).length = l.length * 1 := by simp [ints]
theorem keys_one (l : List RK) : One (rows kc l) := flat_one l
theorem rowk_len (l : List RK) : (rows kc l).length = l.length * 9 := rows_len (kwid l)
section
variable {P : Program} {w : World} {t e size bytes B : Nat}
/-- 'append(s, x...)' of cells, s the call's own. -/
theorem wpList_append_vals {w0 : World} {ops : Array Oper} {rest : List Oper} {o : Oper} {a : Act} {Q : Exit → Act → World → Prop} (E : Elem P e size bytes) (ht : P.underlying t = some (.slice e)) (hsz : 0 < size) (hgd : o.guard = none) (s x : Operand)
    (hop : o.op = .call { callee := .builtin .append, args := #[s, x], argTypes := #[t, t] }) (h0 : Fr w0 w)
    (A : Option Addr) (n c1 : Nat) (xs : List Value) (hs : a.eval s = .slice A n c1) (ho : Own w w0.heap.size e size A n c1 xs)
    (C : Nat) (A2 : Option Addr) (m c2 : Nat) (news : List Value) (hx : a.eval x = .slice A2 m c2) (hl : news.length = m * size) (hn : Has w C A2 news) (h1 : One news)
    (h63 : n + m ≤ maxLen) (hbytes : (n + m) * bytes ≤ 140737488355328)
    (h : ∀ A' c' w', Own w' w0.heap.size e size A' (n + m) c' (xs ++ news) → Fr w0 w' → wpList P ops Q rest (a.put o.dst (.slice A' (n + m) c')) w') :
    wpList P ops Q (o :: rest) a w := by
  obtain ⟨i, z, hi, hz, hsize, hby, hzs⟩ := E.row
  refine wpList_append_has w hgd s x t hop w0.heap.size e i z size bytes ht hi hz hsize hby hzs hsz A n c1 xs hs ho C A2 m c2 news hx hl hn h1 h63 hbytes h0.size ?_
  intro A' c' w' h1 h2 h3
  exact h A' c' w' h1 (below_grown h0 ho h2 h0.size (Nat.le_refl _))
end
/-- A slice as a value, with the row that it has. -/
structure SI where
  A : Option Addr
  n : Nat
  c : Nat
  l : List Int
abbrev SI.v (s : SI) : Value := .slice s.A s.n s.c
structure SK where
  A : Option Addr
  n : Nat
  c : Nat
  l : List RK
abbrev SK.v (s : SK) : Value := .slice s.A s.n s.c
/-- The rows of slices, one behind the other. -/
def catSI (xs : List SI) : List Int := xs.flatMap (·.l)
/-- The rows of slices, one behind the other. -/
def catSK (xs : List SK) : List RK := xs.flatMap (·.l)
end Go.Proofs.YtmoaddbpfekdbaaGreat
/- A kid more, by the program and by the document. -/
namespace Go.Proofs.YtmoaddbpfekdbaaGreat
set_option maxRecDepth 100000
open Go.RowKit
set_option linter.unusedVariables false
attribute [local go_sem ↓] key_ld msg_ld
theorem Has.step {w W : World} {A : Option Addr} {xs : List Value} (h : Has w w.heap.size A xs) (f : Fr w W) : Has W W.heap.size A xs := (h.fr (Nat.le_refl _) f).mono f.size
def lowI (A : Option Addr) (cap t : Nat) : Option Addr := if cap = t then A else A.map (·.add t)
def insI (ks : List Int) (i id : Int) : List Int := if 0 ≤ i ∧ i < ks.length then ks.take (i.toNat + 1) ++ id :: ks.drop (i.toNat + 1) else ks
def insV (n : Nat) (ps : List RK) (i : Int) (x : RK) : List RK := if 0 ≤ i ∧ i < n then ps.take i.toNat ++ x :: ps.drop i.toNat else ps
abbrev OwnI (w : World) (B : Nat) (A : Option Addr) (c : Nat) (l : List Int) : Prop := Own w B 3 1 A l.length c (ints l)
abbrev OwnK (w : World) (B : Nat) (A : Option Addr) (c : Nat) (l : List RK) : Prop := Own w B 112 9 A l.length c (rows kc l)
def InsOut (W0 : World) (a : List Int) (b : List RK) (e : Ending) (w' : World) : Prop := ∃ A3 c3 A4 c4, e = .returned (.tuple #[.slice A3 a.length c3, .slice A4 b.length c4]) ∧ Hid (OwnI w' 0 A3 c3 a) ∧ Hid (OwnK w' 0 A4 c4 b) ∧ Fr W0 w'
end Go.Proofs.YtmoaddbpfekdbaaGreat
/- A kid more, by the document. -/
namespace Go.Proofs.YtmoaddbpfekdbaaGreat
set_option maxRecDepth 100000
open Go.RowKit
set_option linter.unusedVariables false
attribute [local go_sem ↓] key_ld msg_ld
/-- The pivots so far, with one more put ahead of place i. -/
def insW (l : List RK) (i : Int) (x : RK) : List RK := if 0 ≤ i ∧ i < l.length then l.take i.toNat ++ x :: l.drop i.toNat else l
end Go.Proofs.YtmoaddbpfekdbaaGreat
/- Both halves of the kids, by the program. -/
namespace Go.Proofs.YtmoaddbpfekdbaaGreat
set_option maxRecDepth 100000
open Go.RowKit
set_option linter.unusedVariables false
attribute [local go_sem ↓] key_ld msg_ld key_st
def HalfNo : Value := .tuple #[.slice none 0 0, .slice none 0 0, kv zeroK, .slice none 0 0, .slice none 0 0, .bool false]
def HalfOut (W0 : World) (ks : List Int) (ps : List RK) (m : RK) (e : Ending) (w' : World) : Prop := ∃ A1 c1 A2 c2 A3 c3 A4 c4, e = .returned (.tuple #[.slice A1 2 c1, .slice A2 1 c2, kv m, .slice A3 2 c3, .slice A4 1 c4, .bool true]) ∧ Hid (Own w' 0 3 1 A1 2 c1 (ints (ks.take 2))) ∧ Hid (Own w' 0 112 9 A2 1 c2 (rows kc (ps.take 1))) ∧ Hid (Own w' 0 3 1 A3 2 c3 (ints (ks.drop 2))) ∧ Hid (Own w' 0 112 9 A4 1 c4 (rows kc (ps.drop 2))) ∧ Fr W0 w'
end Go.Proofs.YtmoaddbpfekdbaaGreat
/- Both halves of the kids, by the document. -/
namespace Go.Proofs.YtmoaddbpfekdbaaGreat
set_option maxRecDepth 100000
open Go.RowKit
set_option linter.unusedVariables false
attribute [local go_sem ↓] key_ld msg_ld key_st
end Go.Proofs.YtmoaddbpfekdbaaGreat
/- Inner nodes by numbers (package 00's Inner); kids and pivots of one. -/
namespace Go.Proofs.YtmoaddbpfekdbaaGreat
set_option maxRecDepth 100000
open Go.RowKit
set_option linter.unusedVariables false
theorem node_ld (p : Value) : Instr.loadAt 41 p = ldS 41 p := rfl
attribute [local go_sem ↓] key_ld msg_ld node_ld
/-- The five cells of an inner node. -/
def nodeC (K P M : Value) : List Value := [.bool false, .slice none 0 0, K, P, M]
def kidsL (np : Nat) (f : Int) : List Int := (List.range (np + 1)).map fun i : Nat => 1 + f % 200 + 7 * (i : Int)
theorem own_kept {w W : World} {B e size n c g : Nat} {A : Option Addr} {xs : List Value} (h : Own w B e size A n c xs) (k : Kept w W g) (hg : g < B) : Own W B e size A n c xs := by
  refine ⟨h.1, ?_⟩
  rcases h.2 with hn | ⟨b, cap, cur, hv, hb, hA, h1, h2, h3, h4⟩
  · exact .inl hn
  · exact .inr ⟨b, cap, cur, hv, hb, k.other hA (by omega), h1, h2, h3, h4⟩
def InnerOut (W0 : World) (ks : List Int) (ps : List RK) (q : List RM) (e : Ending) (w' : World) : Prop := ∃ A c A2 c2 A3 c3, e = .returned (.agg (nodeC (.slice A ks.length c) (.slice A2 ps.length c2) (.slice A3 q.length c3)).toArray) ∧ Hid (OwnI w' 0 A c ks) ∧ Hid (OwnK w' 0 A2 c2 ps) ∧ Hid (OwnM w' 0 A3 c3 q) ∧ Fr W0 w'
end Go.Proofs.YtmoaddbpfekdbaaGreat
/- Kids and pivots by numbers; the chapter's examples (awake). -/
namespace Go.Proofs.YtmoaddbpfekdbaaGreat
set_option maxRecDepth 100000
open Go.RowKit
set_option linter.unusedVariables false
attribute [local go_sem ↓] key_ld msg_ld node_ld
def TwoOut (W0 : World) (ks : List Int) (ps : List RK) (e : Ending) (w' : World) : Prop := ∃ A c A2 c2, e = .returned (.tuple #[.slice A ks.length c, .slice A2 ps.length c2]) ∧ Hid (OwnI w' 0 A c ks) ∧ Hid (OwnK w' 0 A2 c2 ps) ∧ Fr W0 w'
end Go.Proofs.YtmoaddbpfekdbaaGreat
/- A kid more, both halves: to which kid a key goes then. No program text. -/
namespace Go.Proofs.YtmoaddbpfekdbaaGreat
set_option maxRecDepth 100000
open Go.RowKit
set_option linter.unusedVariables false
end Go.Proofs.YtmoaddbpfekdbaaGreat
/- Entries as values: a key, a value: 26 cells. -/
namespace Go.Proofs.YtmoaddbpfekdbaaGreat
set_option maxRecDepth 100000
open Go.RowKit
set_option linter.unusedVariables false
/-- What every entry that comes in is. -/
structure RE.wf (e : RE) : Prop where
  key : e.key.wf
  val : e.val.wf
theorem RE.ok.wf {e : RE} (h : e.ok) : e.wf := ⟨h.wk, h.wv⟩
def zeroE : RE := ⟨zeroK, zeroV⟩
theorem ec_len {e : RE} (h : e.val.bs.length = 16) : (ec e).length = 26 := by simp [ec, vc_len h]
theorem ec_one (e : RE) : One (ec e) := .app (kc_one _) (vc_one _)
theorem ec_0 (e : RE) : (ec e)[0]? = some (.int .i64 e.key.n) := rfl
theorem ec_9 (e : RE) : (ec e)[9]? = some (.int .i64 e.val.n) := rfl
theorem ec_key (e : RE) : ((ec e).drop 0).take 9 = kc e.key := by
  rw [ec, List.drop_zero]
  exact List.take_left' (kc_len _)
theorem ec_val {e : RE} (h : e.val.bs.length = 16) : ((ec e).drop 9).take 17 = vc e.val := by
  rw [ec, List.drop_left' (kc_len _)]
  exact List.take_of_length_le (by rw [vc_len h]; omega)
theorem ent_info : (Tryz.prog.info? 117).map (·.size) = some 26 := by kernel_rfl
theorem entS : Sty Tryz.prog 117 26 := ⟨ent_info, _, Tryz.underlying117, rfl⟩
theorem ent_ld (p : Value) : Instr.loadAt 117 p = ldS 117 p := rfl
theorem ent_type : Tryz.prog.keyType 117 = true := by kernel_rfl
theorem ent_typeAt : Tryz.prog.keyTypeAt (Tryz.prog.types.size + 1) 117 = true := by kernel_rfl
theorem ent_wide : (match Tryz.prog.underlying 117 with | some (.array _ _) | some (.struct _) => true | _ => false) = true := by kernel_rfl
theorem ent_row : (117 : TypeId) < Tryz.prog.types.size := of_decide_eq_true (by kernel_rfl)
theorem ent_law : WideMaps.KeyLaw Tryz.prog 117 := deep_law_gate laid_out (of_decide_eq_true types_small) ent_row ent_type ent_wide
theorem ent_keyed : Go.Maps.Keyed Tryz.prog 117 := .of_law ent_law
theorem ent_cells : Tryz.prog.cellsOf 117 = 26 := by kernel_rfl
def elits (e : RE) : List Lit := klits e.key ++ vlits e.val
def elit (e : RE) : Lit := .string (keyBytes (elits e))
theorem ent_lits (e : RE) (h : e.wf) (D : Nat) : Tryz.prog.keyLits (D + 4) 117 (ec e) = some (elits e) := by
  have hl := ec_len h.val.hl
  have e2 := key_lits_at e.key h.key D
  have e3 := val_lits_at e.val h.val D
  have p2 := ec_key e
  unfold Program.keyLits
  simp only [Tryz.underlying117]
  rw [if_pos ⟨by rw [hl]; exact ent_cells.symm, by kernel_rfl⟩]
  simp only [List.mapM_cons, List.mapM_nil, key_cells, val_cells, p2, ec_val h.val.hl, e2, e3]
  simp [elits]
theorem ent_of (e : RE) (h : e.wf) : keyOf Tryz.prog 117 (ev e) = some (elit e) := by
  have hf : (ev e).formed Tryz.prog 117 = true := by simp [Value.formed, Tryz.underlying117, ent_cells, ec_len h.val.hl]
  obtain ⟨D, hD⟩ : ∃ D, Tryz.prog.types.size + 1 = D + 4 := ⟨Tryz.prog.types.size - 3, by have h : 123 < Tryz.prog.types.size := msg_row; omega⟩
  have hl := ent_lits e h D
  simp only [keyOf, Tryz.underlying117, ent_type, hf, Bool.and_self, if_true, Value.cells]
  rw [hD, hl]
  rfl
theorem ec_inj {a b : RE} (ha : a.val.bs.length = 16) (hb : b.val.bs.length = 16) (h : ec a = ec b) : a = b := by
  have h2 : kc a.key = kc b.key := by rw [← ec_key a, ← ec_key b, h]
  have h3 : vc a.val = vc b.val := by rw [← ec_val ha, ← ec_val hb, h]
  obtain ⟨e1, v1⟩ := a
  obtain ⟨e2, v2⟩ := b
  have e2 := kc_inj h2
  have e3 := vc_inj h3
  clear h2 h3
  simp only at e2 e3
  subst e2 e3
  rfl
theorem ev_inj {a b : RE} (ha : a.wf) (hb : b.wf) (h : ev a = ev b) : a = b := by
  injection h with h
  exact ec_inj ha.val.hl hb.val.hl (by simpa using congrArg Array.toList h)
theorem elit_inj {a b : RE} (ha : a.wf) (hb : b.wf) (h : elit a = elit b) : a = b := ev_inj ha hb (ent_keyed.inj (ent_of a ha) (h ▸ ent_of b hb))
theorem ent_eqr {a b : RE} (ha : a.wf) (hb : b.wf) (W : World) : (Op.equal 117 (ev a) (ev b)).run Tryz.prog W = .ok (decide (a = b)) W := by
  obtain ⟨r, h1, h2⟩ := run_equal_deep W (m := Tryz.prog.types.size + 1) types_le ent_typeAt ent_wide (ent_of a ha) (ent_of b hb)
  have : r = decide (a = b) := by
    rw [Bool.eq_iff_iff, h2, decide_eq_true_iff]
    exact ⟨elit_inj ha hb, fun e => by rw [e]⟩
  rw [h1, this]
theorem ent_neq {a b : RE} (ha : a.wf) (hb : b.wf) (W : World) : (binOp .neq 117 (ev a) (ev b)).run Tryz.prog W = .ok (.bool (!decide (a = b))) W := by
  simp only [binOp, Sem.run_bind, ent_eqr ha hb, Result.andThen_ok, Sem.run_pure]
/-! What is read of an entry's block, from one world on. -/
section
variable {Z : World} {g T : Nat} {m : RE}
end
/-- Entries whose parts are right in their bounds. -/
def WfE (l : List RE) : Prop := ∀ m ∈ l, m.wf
theorem WfE.wid {l : List RE} (h : WfE l) : Wid ec 26 l := fun a ha => ec_len (h a ha).val.hl
theorem OkE.wfe {l : List RE} (h : OkE l) : WfE l := fun m hm => (h.good m hm).wf
theorem emem_at {l : List RE} {j : Nat} {m : RE} (h : l[j]? = some m) : m ∈ l := by
  obtain ⟨_, e⟩ := List.getElem?_eq_some_iff.1 h
  rw [← e]; exact List.getElem_mem _
theorem ent_elem : Elem Tryz.prog 117 26 40 := Elem.of (z := ev zeroE) (by kernel_rfl) (by kernel_rfl) (by kernel_rfl) rfl
theorem ents_under : Tryz.prog.underlying 36 = some (.slice 117) := Tryz.underlying36
/-- Entries in a row of the call's own. -/
abbrev OwnE (w : World) (B : Nat) (A : Option Addr) (c : Nat) (l : List RE) : Prop := Own w B 117 26 A l.length c (rows ec l)
theorem OwnE.fr {w W : World} {B : Nat} {A : Option Addr} {c : Nat} {l : List RE} (h : OwnE w B A c l) (hF : Fr w W) : OwnE W B A c l := Own.below h hF (Nat.le_refl _)
end Go.Proofs.YtmoaddbpfekdbaaGreat
/- Leaves by places: where a key stands, or would. No program text. -/
namespace Go.Proofs.YtmoaddbpfekdbaaGreat
set_option maxRecDepth 100000
set_option linter.unusedVariables false
/-- How many stand ahead of c. -/
def posE : List RE → Int → Nat
  | [], _ => 0
  | m :: l, c => if ce m < c then posE l c + 1 else 0
theorem bytsE_take {l : List RE} {j : Nat} {m : RE} (h : l[j]? = some m) : bytsE (l.take (j + 1)) = bytsE (l.take j) + bytE m := by
  rw [take_one h, bytsE_app]
  simp [bytsE]
theorem putE_le (l : List RE) (m : RM) : (putE l m).length ≤ l.length + 1 := setE_length _ _ _
/-- The bounds of an entry's size. -/
def SmE (l : List RE) : Prop := ∀ e ∈ l, 0 ≤ e.key.n ∧ e.key.n ≤ 8 ∧ 0 ≤ e.val.n ∧ e.val.n ≤ 16
theorem OkE.sm {l : List RE} (h : OkE l) : SmE l := fun e he => by
  have g := h.good e he
  have h1 := key_bd g.ok
  obtain ⟨m, h2, h3, _⟩ := okV_n g.ov
  omega
theorem bytE_rng {e : RE} (h : 0 ≤ e.key.n ∧ e.key.n ≤ 8 ∧ 0 ≤ e.val.n ∧ e.val.n ≤ 16) : 2 ≤ bytE e ∧ bytE e ≤ 26 := by unfold bytE; omega
theorem bytsE_rng : ∀ {l : List RE}, SmE l → 0 ≤ bytsE l ∧ bytsE l ≤ 26 * (l.length : Int)
  | [], _ => by simp [bytsE]
  | e :: l, h => by
    have h1 := bytE_rng (h e (by simp))
    have h2 := bytsE_rng (l := l) (fun x hx => h x (List.mem_cons_of_mem _ hx))
    rw [bytsE_cons]
    simp only [List.length_cons]
    omega
theorem SmE.sub {l l' : List RE} (h : SmE l) (hs : l'.Sublist l) : SmE l' := fun x hx => h x (hs.subset hx)
end Go.Proofs.YtmoaddbpfekdbaaGreat
/- Entries in memory: 'slices.Clone', 'slices.Insert'. -/
namespace Go.Proofs.YtmoaddbpfekdbaaGreat
set_option maxRecDepth 100000
open Go.RowKit
set_option linter.unusedVariables false
attribute [local go_sem ↓] key_ld ent_ld
/-- Where 's[t:]' begins. -/
def lowE (A : Option Addr) (m t : Nat) : Option Addr := if m = t then A else A.map (·.add (t * 26))
end Go.Proofs.YtmoaddbpfekdbaaGreat
/- What the functions of layer 5 come to, six: 'Apply' of the program. -/
namespace Go.Proofs.YtmoaddbpfekdbaaGreat
set_option maxRecDepth 100000
open Go.RowKit
set_option linter.unusedVariables false
attribute [local go_sem ↓] val_ld key_ld msg_ld
section
variable {W0 W : World} {v : RV} {m : RM}
end
end Go.Proofs.YtmoaddbpfekdbaaGreat
/- Entries in memory: 'place' of the program. -/
namespace Go.Proofs.YtmoaddbpfekdbaaGreat
set_option maxRecDepth 100000
open Go.RowKit
set_option linter.unusedVariables false
attribute [local go_sem ↓] key_ld ent_ld
end Go.Proofs.YtmoaddbpfekdbaaGreat
/- Entries in memory: 'slices.Delete' of one, 'half'. -/
namespace Go.Proofs.YtmoaddbpfekdbaaGreat
set_option maxRecDepth 100000
open Go.RowKit
set_option linter.unusedVariables false
attribute [local go_sem ↓] key_ld ent_ld
end Go.Proofs.YtmoaddbpfekdbaaGreat
/- Entries in memory: 'size', 'change' of the program. -/
namespace Go.Proofs.YtmoaddbpfekdbaaGreat
set_option maxRecDepth 100000
open Go.RowKit
set_option linter.unusedVariables false
attribute [local go_sem ↓] key_ld ent_ld val_ld msg_ld val_st
end Go.Proofs.YtmoaddbpfekdbaaGreat
/- Entries in memory: 'change' of the program. -/
namespace Go.Proofs.YtmoaddbpfekdbaaGreat
set_option maxRecDepth 100000
open Go.RowKit
set_option linter.unusedVariables false
attribute [local go_sem ↓] key_ld ent_ld val_ld msg_ld
theorem zeroV_cells : (vc zeroV).toArray = #[.int .i64 0, .int .u8 0, .int .u8 0, .int .u8 0, .int .u8 0, .int .u8 0, .int .u8 0, .int .u8 0, .int .u8 0, .int .u8 0, .int .u8 0, .int .u8 0, .int .u8 0, .int .u8 0, .int .u8 0, .int .u8 0, .int .u8 0] := rfl
theorem zeroE_cells : (ec zeroE).toArray = #[.int .i64 0, .int .u8 0, .int .u8 0, .int .u8 0, .int .u8 0, .int .u8 0, .int .u8 0, .int .u8 0, .int .u8 0, .int .i64 0, .int .u8 0, .int .u8 0, .int .u8 0, .int .u8 0, .int .u8 0, .int .u8 0, .int .u8 0, .int .u8 0, .int .u8 0, .int .u8 0, .int .u8 0, .int .u8 0, .int .u8 0, .int .u8 0, .int .u8 0, .int .u8 0] := rfl
theorem fold_off (o : Nat) : ∀ (cs : List Value) (k : Nat) (z : Array Value), List.foldl (fun (cs : Array Value) (x : Value × Nat) => cs.setIfInBounds (o + x.snd) x.fst) z (cs.zipIdx k) = List.foldl (fun (cs : Array Value) (x : Value × Nat) => cs.setIfInBounds x.snd x.fst) z (cs.zipIdx (o + k))
  | [], k, z => rfl
  | v :: cs, k, z => by
    rw [List.zipIdx_cons, List.zipIdx_cons, List.foldl_cons, List.foldl_cons, fold_off o cs (k + 1)]
    rfl
/-- An entry's cells, built from its parts. -/
theorem ent_built (k : RK) {v : RV} (hl : v.bs.length = 16) : List.foldl (fun (cs : Array Value) (x : Value × Nat) => cs.setIfInBounds (9 + x.snd) x.fst) #[.int .i64 k.n, .int .u8 k.b0, .int .u8 k.b1, .int .u8 k.b2, .int .u8 k.b3, .int .u8 k.b4, .int .u8 k.b5, .int .u8 k.b6, .int .u8 k.b7, .int .i64 0, .int .u8 0, .int .u8 0, .int .u8 0, .int .u8 0, .int .u8 0, .int .u8 0, .int .u8 0, .int .u8 0, .int .u8 0, .int .u8 0, .int .u8 0, .int .u8 0, .int .u8 0, .int .u8 0, .int .u8 0, .int .u8 0] (vc v).zipIdx = (ec ⟨k, v⟩).toArray := by
  rw [fold_off 9 (vc v) 0, build_fold (vc v) (9 + 0) _ (by rw [vc_len hl]; rfl)]
  rfl
theorem ent_fold {e : RE} (hl : e.val.bs.length = 16) : List.foldl (fun (cs : Array Value) (x : Value × Nat) => cs.setIfInBounds x.snd x.fst) #[.int .i64 0, .int .u8 0, .int .u8 0, .int .u8 0, .int .u8 0, .int .u8 0, .int .u8 0, .int .u8 0, .int .u8 0, .int .i64 0, .int .u8 0, .int .u8 0, .int .u8 0, .int .u8 0, .int .u8 0, .int .u8 0, .int .u8 0, .int .u8 0, .int .u8 0, .int .u8 0, .int .u8 0, .int .u8 0, .int .u8 0, .int .u8 0, .int .u8 0, .int .u8 0] (ec e).zipIdx = (ec e).toArray := by
  have := build_fold (ec e) 0 (ec zeroE).toArray (by rw [ec_len hl]; rfl)
  rw [zeroE_cells] at this
  simpa using this
end Go.Proofs.YtmoaddbpfekdbaaGreat
/- Entries in memory: 'Bytes', 'Find' of both, 'Same' of the document. -/
namespace Go.Proofs.YtmoaddbpfekdbaaGreat
set_option maxRecDepth 100000
open Go.RowKit
set_option linter.unusedVariables false
attribute [local go_sem ↓] key_ld ent_ld val_ld msg_ld
set_option maxHeartbeats 2000000 in
theorem ref_ebytes {w : World} {A : Option Addr} {n c B : Nat} {l : List RE} (hl : Has w B A (rows ec l)) (hB : B ≤ w.heap.size) (hn : l.length = n) (hsm : n ≤ 100000) (wl : WfE l) (hs : SmE l) :
    Calls Tryz.prog 81 #[.slice A n c] w fun e w' => e = .returned (.int .i64 (bytsE l)) ∧ Fr w w' := by
  have Hl := keep hl
  have Hn := keep hn
  have Hwl := keep wl
  have Hs0 := keep hs
  clear hl hn wl hs
  go_enter Tryz.func81, Tryz.ntmps81
  go_wp2_with fail
  go_loopg [3, 4] n (fun g s3 s8 wr => ∃ j : Nat, j + g = n ∧ s3 = .int .i64 (bytsE (l.take j)) ∧ s8 = .int .i64 j ∧ Hid (Fr w wr))
  case atStart => exact ⟨0, by omega, rfl, rfl, keep (fr_refl w)⟩
  case round =>
    obtain ⟨j, hj, rfl, rfl, hF⟩ := hrel
    by_cases hlt : j < n
    · have hm : l[j]? = some (l[j]'(by rw [Hn.out]; exact hlt)) := List.getElem?_eq_getElem _
      generalize l[j]'(by rw [Hn.out]; exact hlt) = m at hm
      obtain ⟨b, off, rfl, hb1, hr⟩ := has_rows Hl.out Hwl.out.wid (by decide) (by intro e; rw [e] at hm; simp at hm)
      have x0 := elem_cell0 hr Hwl.out.wid (by omega) hm (ec_0 m)
      have x9 := elem_cell hr Hwl.out.wid (by omega) hm (ec_9 m)
      have sm := Hs0.out m (emem_at hm)
      have hR := bytsE_rng (Hs0.out.sub (List.take_sublist j l))
      have hlen : (l.take j).length = j := by rw [List.length_take, Hn.out]; omega
      rw [hlen] at hR
      have Hs := keep (bytsE_take hm)
      have hF1 := hF.out
      have hFD := fr_drew hF1
      have Hb : Hid (bytE m = 2 + m.key.n + m.val.n) := keep rfl
      generalize bytsE (l.take j) = s at *
      obtain ⟨h1, h2, h3, h4⟩ := sm
      generalize m.key.n = kn at *
      generalize m.val.n = vn at *
      have hjz : (j : Int) < (n : Int) := by omega
      have e1 : IntKind.i64.wrap (s + 2) = s + 2 := by rw [IntKind.wrap_i64]; omega
      have e2 : IntKind.i64.wrap (s + 2 + kn) = s + 2 + kn := by rw [IntKind.wrap_i64]; omega
      have e3 : IntKind.i64.wrap (s + 2 + kn + vn) = s + 2 + kn + vn := by rw [IntKind.wrap_i64]; omega
      clear hm hr hlen hlt
      go_wp2_with fail
      go_region_held3 (fun w' => Fr w w') (first | exact hFD | assumption) (first | fail)
      rename_i hH
      go_wp2_with fail
      go_roundg (gk - 1)
      case measure => omega
      case rel => exact ⟨j + 1, by omega, by rw [Hs.out, Hb.out]; congr 1; omega, rfl, keep hH⟩
    · have : j = n := by omega
      subst this
      have e : l.take j = l := List.take_of_length_le (by rw [Hn.out]; exact Nat.le_refl _)
      rw [e]
      go_wp2_with fail
      go_ret
      exact ⟨rfl, hF.out⟩
/-- What 'Find' tells. -/
def findEV (o : Option RV) : Value := .tuple #[vv (o.getD zeroV), .bool o.isSome]
theorem ekey_box (w : World) (k : RK) : ∃ Z, (w.alloc (.cells (kc k).toArray 112)).alloc (.cells (vc zeroV).toArray 115) = Z ∧ Fr w Z ∧ Fr Z Z ∧ Arr Z w.heap.size 112 (kc k).toArray ∧ Arr Z (w.heap.size + 1) 115 (vc zeroV).toArray ∧ Z.heap.size = w.heap.size + 1 + 1 :=
  ⟨_, rfl, fr_new (fr_new (fr_refl w) _) _, fr_refl _, Arr.alloc (Arr.new w _ _) _, arr_at _ _ _ _ (by simp), by simp⟩
theorem findE_at : ∀ {l : List RE} {k : RK} {j : Nat} {m : RE}, (∀ t x, t < j → l[t]? = some x → x.key ≠ k) → l[j]? = some m → m.key = k → findE l k = some m.val
  | [], _, _, _, _, h, _ => by simp at h
  | y :: l, k, 0, m, _, h, e => by
    simp at h
    subst h
    rw [findE, if_pos e]
  | y :: l, k, j + 1, m, hno, h, e => by
    have h0 := hno 0 y (Nat.succ_pos j) rfl
    rw [findE, if_neg h0]
    exact findE_at (j := j) (fun t x ht hx => hno (t + 1) x (by omega) (by simpa using hx)) (by simpa using h) e
theorem findE_no {l : List RE} {k : RK} (hno : ∀ t x, t < l.length → l[t]? = some x → x.key ≠ k) : findE l k = none := by
  rw [findE_none]
  intro m hm
  obtain ⟨t, ht, e⟩ := List.mem_iff_getElem.1 hm
  exact hno t m ht (by rw [List.getElem?_eq_getElem ht, e])
set_option maxHeartbeats 2000000 in
theorem ref_efind {w : World} {A : Option Addr} {n c B : Nat} {l : List RE} {k : RK} (hl : Has w B A (rows ec l)) (hB : B ≤ w.heap.size) (hn : l.length = n) (hsm : n ≤ 100000) (wl : WfE l) (wk : k.wf) :
    Calls Tryz.prog 90 #[.slice A n c, kv k] w fun e w' => e = .returned (findEV (findE l k)) ∧ Fr w w' := by
  obtain ⟨Z, hZ, hF, hZZ, hK, hO, hS⟩ := ekey_box w k
  rw [zeroV_cells] at hZ
  have hlZ := hl.fr hB hF
  have hBZ : B ≤ Z.heap.size := Nat.le_trans hB hF.size
  have lk : ∀ W, Fr Z W → (ldS 112 (.pointer (some ⟨w.heap.size, 0, none⟩))).run Tryz.prog W = .ok (.agg (kc k).toArray) W := fun W h => keyS.ld (kc_len k) (hK.below h hK.lt)
  have Hl := keep hlZ
  have Hn := keep hn
  have Hwl := keep wl
  have HO := keep hO
  clear hl hn wl hlZ hK hO
  go_enter Tryz.func90, Tryz.ntmps90
  go_wp2_with fail
  go_loopg [6] n (fun g s6 wr => ∃ j : Nat, j + g = n ∧ s6 = .int .i64 j ∧ Hid (Fr Z wr) ∧ Hid (∀ t x, t < j → l[t]? = some x → x.key ≠ k))
  case atStart => exact ⟨0, by omega, rfl, keep hZZ, keep (fun t x h => by omega)⟩
  case round =>
    obtain ⟨j, hj, rfl, hW, hno⟩ := hrel
    by_cases hlt : j < n
    · have hm : l[j]? = some (l[j]'(by rw [Hn.out]; exact hlt)) := List.getElem?_eq_getElem _
      generalize l[j]'(by rw [Hn.out]; exact hlt) = m at hm
      obtain ⟨b, off, rfl, hb1, hr⟩ := has_rows Hl.out Hwl.out.wid (by decide) (by intro e; rw [e] at hm; simp at hm)
      have wm := Hwl.out m (emem_at hm)
      have lXk := elem_part (o := 0) keyS hr Hwl.out.wid (by omega) hm (ec_key m) (kc_len _)
      simp only [Nat.add_zero] at lXk
      have lXv := elem_part (o := 9) valS hr Hwl.out.wid (by omega) hm (ec_val wm.val.hl) (vc_len wm.val.hl)
      have qE := fun W => key_eql wm.key wk W
      have Hm := keep hm
      have Hlm := keep (vc_len wm.val.hl)
      have hWW := hW.out
      have hWD := fr_drew hWW
      have hjz : (j : Int) < (n : Int) := by omega
      clear hm hr hlt
      by_cases hk : m.key = k
      · have Hf := keep (findE_at hno.out Hm.out hk)
        rw [decide_eq_true hk] at qE
        clear hk wm
        go_wp2_with fail
        go_region_held3 (fun w' => Fr Z w') (first | exact hWD | assumption) (first | fail)
        rename_i hH
        have hO2 := HO.out.below hH HO.out.lt
        go_wp2_with (first
          | (refine wpList_store_at (ds := vc m.val) val_info rfl (.tmp 4) (.tmp 24) rfl (w.heap.size + 1) 0 rfl rfl Hlm.out (vc_one _) hO2 (by decide) (splice_all _ _ (by rw [Hlm.out]; decide)) ?_; intro W5 hO5 hk5; have hF5 := hk5.fr (fr_step hF hH) (by omega); clear hk5)
          | fail)
        exact bodyPost_ret (valS.result2 rfl _ (w.heap.size + 1) rfl Hlm.out hO5) rfl ⟨by rw [Hf.out]; rfl, hF5⟩
      · have Hk := keep hk
        rw [decide_eq_false hk] at qE
        clear hk wm
        go_wp2_with fail
        go_region_held3 (fun w' => Fr Z w') (first | exact hWD | assumption) (first | fail)
        rename_i hH
        go_wp2_with fail
        go_roundg (gk - 1)
        case measure => omega
        case rel => exact ⟨j + 1, by omega, rfl, keep hH, keep (fun t x ht hx => by
          by_cases e : t = j
          · subst e
            rw [Hm.out] at hx
            injection hx with hx
            rw [← hx]; exact Hk.out
          · exact hno.out t x (by omega) hx)⟩
    · have hjn : j = n := by omega
      have hjz : ¬ (j : Int) < (n : Int) := by omega
      have Hf := keep (findE_no (l := l) (k := k) (fun t x ht hx => hno.out t x (by rw [hjn, ← Hn.out]; exact ht) hx))
      have hO2 := HO.out.below hW.out HO.out.lt
      have hWW := hW.out
      clear hlt hjn hno
      go_wp2_with (first
        | (refine wpList_store_at (ds := vc zeroV) val_info rfl (.tmp 4) (.tmp 25) rfl (w.heap.size + 1) 0 rfl rfl rfl (vc_one _) hO2 (by decide) (splice_all _ _ (by decide)) ?_; intro W5 hO5 hk5; have hF5 := hk5.fr (fr_step hF hWW) (by omega); clear hk5)
        | fail)
      exact bodyPost_ret (valS.result2 rfl _ (w.heap.size + 1) rfl rfl hO5) rfl ⟨by rw [Hf.out]; rfl, hF5⟩
end Go.Proofs.YtmoaddbpfekdbaaGreat
/- Entries in memory: 'Same' of the document. -/
namespace Go.Proofs.YtmoaddbpfekdbaaGreat
set_option maxRecDepth 100000
open Go.RowKit
set_option linter.unusedVariables false
attribute [local go_sem ↓] key_ld ent_ld val_ld msg_ld
set_option maxHeartbeats 2000000 in
theorem ref_esame {w : World} {A A2 : Option Addr} {n c B n2 c2 B2 : Nat} {l l2 : List RE} (hl : Has w B A (rows ec l)) (hB : B ≤ w.heap.size) (hn : l.length = n) (hsm : n ≤ 100000) (wl : WfE l) (hl2 : Has w B2 A2 (rows ec l2)) (hB2 : B2 ≤ w.heap.size) (hn2 : l2.length = n2) (hsm2 : n2 ≤ 100000) (wl2 : WfE l2) :
    Calls Tryz.prog 46 #[.slice A n c, .slice A2 n2 c2] w fun e w' => e = .returned (.bool (decide (l = l2))) ∧ Fr w w' := by
  have hww := fr_refl w
  by_cases hnn : n = n2
  · subst hnn
    have Hl := keep hl
    have Hn := keep hn
    have Hwl := keep wl
    have Hl2 := keep hl2
    have Hn2 := keep hn2
    have Hwl2 := keep wl2
    clear hl hn wl hl2 hn2 wl2
    go_enter Tryz.func46, Tryz.ntmps46
    go_wp2_with fail
    go_loopg [5] n (fun g s5 wr => ∃ j : Nat, j + g = n ∧ s5 = .int .i64 j ∧ Hid (Fr w wr) ∧ Hid (∀ t, t < j → l[t]? = l2[t]?))
    case atStart => exact ⟨0, by omega, rfl, keep hww, keep (fun t h => by omega)⟩
    case round =>
      obtain ⟨j, hj, rfl, hW, hno⟩ := hrel
      by_cases hlt : j < n
      · have hm : l[j]? = some (l[j]'(by rw [Hn.out]; exact hlt)) := List.getElem?_eq_getElem _
        generalize l[j]'(by rw [Hn.out]; exact hlt) = m at hm
        have hm2 : l2[j]? = some (l2[j]'(by rw [Hn2.out]; exact hlt)) := List.getElem?_eq_getElem _
        generalize l2[j]'(by rw [Hn2.out]; exact hlt) = m2 at hm2
        obtain ⟨b, off, rfl, hb1, hr⟩ := has_rows Hl.out Hwl.out.wid (by decide) (by intro e; rw [e] at hm; simp at hm)
        obtain ⟨b2, off2, rfl, hb2, hr2⟩ := has_rows Hl2.out Hwl2.out.wid (by decide) (by intro e; rw [e] at hm2; simp at hm2)
        have lX := elem_ld entS hr Hwl.out.wid (by omega) hm
        have lX2 := elem_ld entS hr2 Hwl2.out.wid (by omega) hm2
        have wm := Hwl.out m (emem_at hm)
        have wm2 := Hwl2.out m2 (emem_at hm2)
        have qE := fun W => ent_neq wm wm2 W
        have Hm := keep hm
        have Hm2 := keep hm2
        have hWW := hW.out
        have hWD := fr_drew hWW
        have hjz : (j : Int) < (n : Int) := by omega
        clear hm hr hm2 hr2 hlt
        by_cases hk : m = m2
        · have Hk := keep hk
          rw [decide_eq_true hk] at qE
          simp only [Bool.not_true] at qE
          clear hk wm wm2
          go_wp2_with fail
          go_region_held3 (fun w' => Fr w w') (first | exact hWD | assumption) (first | fail)
          rename_i hH
          go_wp2_with fail
          go_roundg (gk - 1)
          case measure => omega
          case rel => exact ⟨j + 1, by omega, rfl, keep hH, keep (fun t ht => by
            by_cases e : t = j
            · subst e
              rw [Hm.out, Hm2.out, Hk.out]
            · exact hno.out t (by omega))⟩
        · have Hf : Hid (decide (l = l2) = false) := keep (decide_eq_false (fun e => hk (by
            have := Hm.out
            rw [e, Hm2.out] at this
            injection this with this
            exact this.symm)))
          rw [decide_eq_false hk] at qE
          simp only [Bool.not_false] at qE
          clear hk wm wm2
          go_wp2_with fail
          go_region_held3 (fun w' => Fr w w') (first | exact hWD | assumption) (first | fail)
          rename_i hH
          go_wp2_with fail
          go_ret
          exact ⟨by rw [Hf.out]; rfl, hH⟩
      · have hjn : j = n := by omega
        have hjz : ¬ (j : Int) < (n : Int) := by omega
        have he : l = l2 := by
          apply List.ext_getElem?
          intro t
          by_cases ht : t < j
          · exact hno.out t ht
          · rw [List.getElem?_eq_none (by rw [Hn.out]; omega), List.getElem?_eq_none (by rw [Hn2.out]; omega)]
        have Hf : Hid (decide (l = l2) = true) := keep (decide_eq_true he)
        have hWW := hW.out
        clear hlt hjn hno he
        go_wp2_with fail
        go_ret
        exact ⟨by rw [Hf.out]; rfl, hWW⟩
  · have hnz : ¬ (n : Int) = (n2 : Int) := by omega
    have Hf : Hid (decide (l = l2) = false) := keep (decide_eq_false (fun e => hnn (by rw [← hn, ← hn2, e])))
    clear hl hl2 wl wl2 hn hn2
    go_enter Tryz.func46, Tryz.ntmps46
    go_wp2_with fail
    go_ret
    exact ⟨by rw [Hf.out]; rfl, hww⟩
end Go.Proofs.YtmoaddbpfekdbaaGreat
/- Entries in memory: 'append' of one; 'Put', 'All' of the program. -/
namespace Go.Proofs.YtmoaddbpfekdbaaGreat
set_option maxRecDepth 100000
open Go.RowKit
set_option linter.unusedVariables false
attribute [local go_sem ↓] key_ld ent_ld val_ld msg_ld msg_st
theorem eappend_one {w0 w : World} {A : Option Addr} {n c V : Nat} {l : List RE} {x : RE} (h0 : Fr w0 w) (ho : OwnE w w0.heap.size A c l) (hn : l.length = n) (hsm : n ≤ 200000) (wx : x.wf) (hV : V = w.heap.size) (ty : TypeId) :
    ∃ A' c' w', (Builtin.append_ #[36, 36] ty #[.slice A n c, .slice (some ⟨V, 0, none⟩) 1 1]).run Tryz.prog (w.alloc (.cells (ec x).toArray 117)) = .ok (.slice A' (n + 1) c') w' ∧ OwnE w' w0.heap.size A' c' (l ++ [x]) ∧ Fr w0 w' := by
  subst hV
  unfold OwnE at ho
  rw [hn] at ho
  obtain ⟨i, z, hi, hz, hsize, hby, hzs⟩ := ent_elem.row
  obtain ⟨A', c', w', hr, h1, h2, h3⟩ := run_append_has (P := Tryz.prog) (w.alloc (.cells (ec x).toArray 117)) w0.heap.size 36 ty 117 i z 26 40 ents_under hi hz hsize hby hzs (by decide) A n c (rows ec l) (ho.alloc _) (w.heap.size + 1) (some ⟨w.heap.size, 0, none⟩) 1 1 (ec x) (ec_len wx.val.hl) (arr_has _ (Arr.new w _ _)) (ec_one x) (by unfold maxLen; omega) (by omega) (by have := h0.size; simp; omega)
  refine ⟨A', c', w', hr, ?_, below_grown (fr_new h0 _) (ho.alloc _) h2 (by have := h0.size; simp; omega) (Nat.le_refl _)⟩
  unfold OwnE
  rw [List.length_append, hn, rows_append, rows_single]
  exact h1
theorem wpList_append_ent {w0 w : World} {ops : Array Oper} {rest : List Oper} {o : Oper} {a : Act} {Q : Exit → Act → World → Prop} {A : Option Addr} {n c : Nat} {l : List RE} {x : RE} (d s : Operand) (hop : o.op = .call { callee := .builtin .append, args := #[d, s], argTypes := #[36, 36] }) (hgd : o.guard = none)
    (hd : a.eval d = .slice A n c) (hs : a.eval s = .slice (some ⟨w.heap.size, 0, none⟩) 1 1) (h0 : Fr w0 w) (ho : OwnE w w0.heap.size A c l) (hn : l.length = n) (hsm : n ≤ 200000) (wx : x.wf)
    (h : ∀ A' c' w', OwnE w' w0.heap.size A' c' (l ++ [x]) → Fr w0 w' → wpList Tryz.prog ops Q rest (a.put o.dst (.slice A' (n + 1) c')) w') : wpList Tryz.prog ops Q (o :: rest) a (w.alloc (.cells (ec x).toArray 117)) := by
  obtain ⟨A', c', w', hr, h1, h2⟩ := eappend_one (V := w.heap.size) h0 ho hn hsm wx rfl o.type
  exact wpList_append_run _ hgd d s _ _ hop _ _ hd hs hr (h A' c' w' h1 h2)
end Go.Proofs.YtmoaddbpfekdbaaGreat
