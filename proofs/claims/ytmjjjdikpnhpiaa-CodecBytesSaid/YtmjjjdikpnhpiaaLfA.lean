/- Entries as values: a key, a value: 26 cells. -/
import Derived.Test.YtmjjjdikpnhpiaaBufA
import Derived.Test.YtmjjjdikpnhpiaaBufG
import Derived.Deep.RegionLaw
import Derived.Lib.SlBuf
namespace Go.Proofs.Ytmjjjdikpnhpiaa
set_option linter.unusedVariables false
set_option linter.unusedSimpArgs false
set_option maxRecDepth 100000
open Go.RowKit
section
structure RE.wf (e : RE) : Prop where
 key : e.key.wf
 val : e.val.wf
theorem RE.ok.wf {e : RE} (h : e.ok) : e.wf := ⟨h.wk, h.wv⟩
def zea : RE := ⟨zr, zE⟩
theorem zbT {e : RE} (h : e.val.bs.length = 16) : (ec e).length = 26 := by simp [ec, zD h]
theorem zdw (e : RE) : One (ec e) := .app (zU _) (zar _)
theorem ec_0 (e : RE) : (ec e)[0]? = some (.int .i64 e.key.n) := rfl
theorem ec_9 (e : RE) : (ec e)[9]? = some (.int .i64 e.val.n) := rfl
theorem zcC (e : RE) : ((ec e).drop 0).take 9 = kc e.key := by
 rw [ec, List.drop_zero];exact List.take_left' (zl _)
theorem ze4 {e : RE} (h : e.val.bs.length = 16) : ((ec e).drop 9).take 17 = vc e.val := by
 rw [ec, List.drop_left' (zl _)];exact List.take_of_length_le (by rw [zD h]; omega)
theorem zdA : (Try.prog.info? 74).map (·.size) = some 26 := by kernel_rfl
theorem zh4 : Sty Try.prog 74 26 := ⟨zdA, _, Try.underlying74, rfl⟩
theorem zbh (p : Value) : Instr.loadAt 74 p = ldS 74 p := rfl
theorem zlX : Try.prog.keyType 74 = true := by kernel_rfl
theorem zmL : Try.prog.keyTypeAt (Try.prog.types.size + 1) 74 = true := by kernel_rfl
theorem zkO : (match Try.prog.underlying 74 with | some (.array _ _) | some (.struct _) => true | _ => false) = true := by kernel_rfl
theorem ent_row : (74 : TypeId) < Try.prog.types.size := of_decide_eq_true (by kernel_rfl)
theorem ent_law : WideMaps.KeyLaw Try.prog 74 := deep_law_gate zgp (of_decide_eq_true zdd) ent_row zlX zkO
theorem zoq : Go.Maps.Keyed Try.prog 74 := .of_law ent_law
theorem zjf : Try.prog.cellsOf 74 = 26 := by kernel_rfl
def elits (e : RE) : List Lit := zik e.key ++ zhN e.val
def elit (e : RE) : Lit := .string (keyBytes (elits e))
theorem ent_lits (e : RE) (h : e.wf) (D : Nat) : Try.prog.keyLits (D + 4) 74 (ec e) = some (elits e) := by
 have hl := zbT h.val.hl;have e2 := zhb e.key h.key D;have e3 := zhj e.val h.val D;have p2 := zcC e;unfold Program.keyLits;simp only [Try.underlying74];rw [if_pos ⟨by rw [hl]; exact zjf.symm, by kernel_rfl⟩];simp only [List.mapM_cons, List.mapM_nil, zei, zej, p2, ze4 h.val.hl, e2, e3];simp [elits]
theorem zki (e : RE) (h : e.wf) : keyOf Try.prog 74 (ev e) = some (elit e) := by
 have hf : (ev e).formed Try.prog 74 = true := by simp [Value.formed, Try.underlying74, zjf, zbT h.val.hl]
 obtain ⟨D, hD⟩ : ∃ D, Try.prog.types.size + 1 = D + 4 := ⟨Try.prog.types.size - 3, by have h : 81 < Try.prog.types.size := zjK; omega⟩;have hl := ent_lits e h D;simp only [keyOf, Try.underlying74, zlX, hf, Bool.and_self, if_true, Value.cells];rw [hD, hl];rfl
theorem ec_inj {a b : RE} (ha : a.val.bs.length = 16) (hb : b.val.bs.length = 16) (h : ec a = ec b) : a = b := by
 have h2 : kc a.key = kc b.key := by rw [← zcC a, ← zcC b, h]
 have h3 : vc a.val = vc b.val := by rw [← ze4 ha, ← ze4 hb, h]
 obtain ⟨e1, v1⟩ := a;obtain ⟨e2, v2⟩ := b;have e2 := kc_inj h2;have e3 := zms h3;clear h2 h3;simp only at e2 e3;subst e2 e3;rfl
theorem ev_inj {a b : RE} (ha : a.wf) (hb : b.wf) (h : ev a = ev b) : a = b := by
 injection h with h
 exact ec_inj ha.val.hl hb.val.hl (by simpa using congrArg Array.toList h)
theorem elit_inj {a b : RE} (ha : a.wf) (hb : b.wf) (h : elit a = elit b) : a = b := ev_inj ha hb (zoq.inj (zki a ha) (h ▸ zki b hb))
theorem ent_eqr {a b : RE} (ha : a.wf) (hb : b.wf) (W : World) : (Op.equal 74 (ev a) (ev b)).run Try.prog W = .ok (decide (a = b)) W := by
 obtain ⟨r, h1, h2⟩ := run_equal_deep W (m := Try.prog.types.size + 1) zeS zmL zkO (zki a ha) (zki b hb)
 have : r = decide (a = b) := by
  rw [Bool.eq_iff_iff, h2, decide_eq_true_iff];exact ⟨elit_inj ha hb, fun e => by rw [e]⟩
 rw [h1, this]
theorem ent_neq {a b : RE} (ha : a.wf) (hb : b.wf) (W : World) : (binOp .neq 74 (ev a) (ev b)).run Try.prog W = .ok (.bool (!decide (a = b))) W := by
 simp only [binOp, Sem.run_bind, ent_eqr ha hb, Result.andThen_ok, Sem.run_pure]
section
variable {Z : World} {g T : Nat} {m : RE}
theorem ent_all (ha : Arr Z g T (ec m).toArray) (hl : m.val.bs.length = 16) : ∀ W, Fr Z W → (ldS 74 (.pointer (some ⟨g, 0, none⟩))).run Try.prog W = .ok (.agg (ec m).toArray) W := fun W h => zh4.ld (zbT hl) (ha.below h ha.lt)
theorem zem (ha : Arr Z g T (ec m).toArray) : ∀ W, Fr Z W → (ldS 69 (.pointer (some ⟨g, 0, none⟩))).run Try.prog W = .ok (.agg (kc m.key).toArray) W := fun W h => zaf.ldMid (zl _) (zdm (ha.below h ha.lt) (by rw [zl]; exact zcC m))
theorem zd1 (ha : Arr Z g T (ec m).toArray) (hl : m.val.bs.length = 16) : ∀ W, Fr Z W → (ldS 72 (.pointer (some ⟨g, 9, none⟩))).run Try.prog W = .ok (.agg (vc m.val).toArray) W := fun W h => zbs.ldMid (zD hl) (zdm (ha.below h ha.lt) (by rw [zD hl]; exact ze4 hl))
end
def WfE (l : List RE) : Prop := ∀ m ∈ l, m.wf
theorem WfE.wid {l : List RE} (h : WfE l) : Wid ec 26 l := fun a ha => zbT (h a ha).val.hl
theorem za2 {l : List RE} {j : Nat} {m : RE} (h : l[j]? = some m) : m ∈ l := by
 obtain ⟨_, e⟩ := List.getElem?_eq_some_iff.1 h;rw [← e]; exact List.getElem_mem _
theorem zcN : zgM Try.prog 74 26 40 := zgM.of (z := ev zea) (by kernel_rfl) (by kernel_rfl) (by kernel_rfl) rfl
theorem zaA : Try.prog.underlying 24 = some (.slice 74) := Try.underlying24
abbrev zau (w : World) (B : Nat) (A : Option Addr) (c : Nat) (l : List RE) : Prop := Own w B 74 26 A l.length c (zm ec l)
theorem zau.fr {w W : World} {B : Nat} {A : Option Addr} {c : Nat} {l : List RE} (h : zau w B A c l) (hF : Fr w W) : zau W B A c l := Own.below h hF (Nat.le_refl _)
end
section
def zbw : List RE → Int → Nat
 | [], _ => 0
 | m :: l, c => if ce m < c then zbw l c + 1 else 0
theorem zdy {l : List RE} {j : Nat} {m : RE} (h : l[j]? = some m) : zQ (l.take (j + 1)) = zQ (l.take j) + zcs m := by
 rw [zav h, zg3];simp [zQ]
def SmE (l : List RE) : Prop := ∀ e ∈ l, 0 ≤ e.key.n ∧ e.key.n ≤ 8 ∧ 0 ≤ e.val.n ∧ e.val.n ≤ 16
theorem OkE.sm {l : List RE} (h : OkE l) : SmE l := fun e he => by
 have g := h.good e he;have h1 := zmB g.ok;obtain ⟨m, h2, h3, _⟩ := ziC g.ov;omega
theorem zf8 {e : RE} (h : 0 ≤ e.key.n ∧ e.key.n ≤ 8 ∧ 0 ≤ e.val.n ∧ e.val.n ≤ 16) : 2 ≤ zcs e ∧ zcs e ≤ 26 := by unfold zcs; omega
theorem zbG : ∀ {l : List RE}, SmE l → 0 ≤ zQ l ∧ zQ l ≤ 26 * (l.length : Int)
 | [], _ => by simp [zQ]
 | e :: l, h => by
  have h1 := zf8 (h e (by simp));have h2 := zbG (l := l) (fun x hx => h x (List.mem_cons_of_mem _ hx));rw [zdx];simp only [List.length_cons];omega
theorem SmE.sub {l l' : List RE} (h : SmE l) (hs : l'.Sublist l) : SmE l' := fun x hx => h x (hs.subset hx)
end
section
attribute [local go_sem ↓] zt zbh
def lowE (A : Option Addr) (m t : Nat) : Option Addr := if m = t then A else A.map (·.add (t * 26))
end
end Go.Proofs.Ytmjjjdikpnhpiaa
