/- Entries as values: a key, a value: 26 cells. -/
import Derived.Test.YtmjjjdikpnhpiaaGreatBufA
import Derived.Test.YtmjjjdikpnhpiaaGreatBufG
import Derived.Deep.RegionLaw
import Derived.Lib.SlBuf
namespace Go.Proofs.YtmjjjdikpnhpiaaGreat
set_option linter.unusedVariables false
set_option linter.unusedSimpArgs false
set_option maxRecDepth 100000
open Go.RowKit
section
structure RE.wf (e : RE) : Prop where
 key : e.key.wf
 val : e.val.wf
theorem RE.ok.wf {e : RE} (h : e.ok) : e.wf := ⟨h.wk, h.wv⟩
def zea : RE := ⟨zr, zE⟩
theorem zbT {e : RE} (h : e.val.bs.length = 16) : (ec e).length = 26 := by simp [ec, zD h]
theorem zdw (e : RE) : One (ec e) := .app (zU _) (zar _)
theorem ec_0 (e : RE) : (ec e)[0]? = some (.int .i64 e.key.n) := rfl
theorem ec_9 (e : RE) : (ec e)[9]? = some (.int .i64 e.val.n) := rfl
theorem zcC (e : RE) : ((ec e).drop 0).take 9 = kc e.key := by
 rw [ec, List.drop_zero];exact List.take_left' (zl _)
theorem ze4 {e : RE} (h : e.val.bs.length = 16) : ((ec e).drop 9).take 17 = vc e.val := by
 rw [ec, List.drop_left' (zl _)];exact List.take_of_length_le (by rw [zD h]; omega)
theorem zmC {e : RE} (h : e.val.bs.length = 16) {v : RV} (hv : v.bs.length = 16) : splice (ec e) 9 (vc v) = ec { e with val := v } := by
 rw [splice, ec, List.take_left' (zl _), zD hv, List.drop_eq_nil_of_le (by simp [zD h]), List.append_nil];rfl
theorem zdA : (Tryz.prog.info? 52).map (·.size) = some 26 := by kernel_rfl
theorem zh4 : Sty Tryz.prog 52 26 := ⟨zdA, _, Tryz.underlying52, rfl⟩
theorem zbh (p : Value) : Instr.loadAt 52 p = ldS 52 p := rfl
theorem zlX : Tryz.prog.keyType 52 = true := by kernel_rfl
theorem zmL : Tryz.prog.keyTypeAt (Tryz.prog.types.size + 1) 52 = true := by kernel_rfl
theorem zkO : (match Tryz.prog.underlying 52 with | some (.array _ _) | some (.struct _) => true | _ => false) = true := by kernel_rfl
theorem ent_row : (52 : TypeId) < Tryz.prog.types.size := of_decide_eq_true (by kernel_rfl)
theorem ent_law : WideMaps.KeyLaw Tryz.prog 52 := deep_law_gate zgp (of_decide_eq_true zdd) ent_row zlX zkO
theorem zoq : Go.Maps.Keyed Tryz.prog 52 := .of_law ent_law
theorem zjf : Tryz.prog.cellsOf 52 = 26 := by kernel_rfl
def elits (e : RE) : List Lit := zik e.key ++ zhN e.val
def elit (e : RE) : Lit := .string (keyBytes (elits e))
theorem ent_lits (e : RE) (h : e.wf) (D : Nat) : Tryz.prog.keyLits (D + 4) 52 (ec e) = some (elits e) := by
 have hl := zbT h.val.hl;have e2 := zhb e.key h.key D;have e3 := zhj e.val h.val D;have p2 := zcC e;unfold Program.keyLits;simp only [Tryz.underlying52];rw [if_pos ⟨by rw [hl]; exact zjf.symm, by kernel_rfl⟩];simp only [List.mapM_cons, List.mapM_nil, zei, zej, p2, ze4 h.val.hl, e2, e3];simp [elits]
theorem zki (e : RE) (h : e.wf) : keyOf Tryz.prog 52 (ev e) = some (elit e) := by
 have hf : (ev e).formed Tryz.prog 52 = true := by simp [Value.formed, Tryz.underlying52, zjf, zbT h.val.hl]
 obtain ⟨D, hD⟩ : ∃ D, Tryz.prog.types.size + 1 = D + 4 := ⟨Tryz.prog.types.size - 3, by have h : 64 < Tryz.prog.types.size := zjK; omega⟩;have hl := ent_lits e h D;simp only [keyOf, Tryz.underlying52, zlX, hf, Bool.and_self, if_true, Value.cells];rw [hD, hl];rfl
theorem ec_inj {a b : RE} (ha : a.val.bs.length = 16) (hb : b.val.bs.length = 16) (h : ec a = ec b) : a = b := by
 have h2 : kc a.key = kc b.key := by rw [← zcC a, ← zcC b, h]
 have h3 : vc a.val = vc b.val := by rw [← ze4 ha, ← ze4 hb, h]
 obtain ⟨e1, v1⟩ := a;obtain ⟨e2, v2⟩ := b;have e2 := kc_inj h2;have e3 := zms h3;clear h2 h3;simp only at e2 e3;subst e2 e3;rfl
theorem ev_inj {a b : RE} (ha : a.wf) (hb : b.wf) (h : ev a = ev b) : a = b := by
 injection h with h
 exact ec_inj ha.val.hl hb.val.hl (by simpa using congrArg Array.toList h)
theorem elit_inj {a b : RE} (ha : a.wf) (hb : b.wf) (h : elit a = elit b) : a = b := ev_inj ha hb (zoq.inj (zki a ha) (h ▸ zki b hb))
theorem ent_eqr {a b : RE} (ha : a.wf) (hb : b.wf) (W : World) : (Op.equal 52 (ev a) (ev b)).run Tryz.prog W = .ok (decide (a = b)) W := by
 obtain ⟨r, h1, h2⟩ := run_equal_deep W (m := Tryz.prog.types.size + 1) zeS zmL zkO (zki a ha) (zki b hb)
 have : r = decide (a = b) := by
  rw [Bool.eq_iff_iff, h2, decide_eq_true_iff];exact ⟨elit_inj ha hb, fun e => by rw [e]⟩
 rw [h1, this]
theorem ent_neq {a b : RE} (ha : a.wf) (hb : b.wf) (W : World) : (binOp .neq 52 (ev a) (ev b)).run Tryz.prog W = .ok (.bool (!decide (a = b))) W := by
 simp only [binOp, Sem.run_bind, ent_eqr ha hb, Result.andThen_ok, Sem.run_pure]
section
variable {Z : World} {g T : Nat} {m : RE}
theorem ent_all (ha : Arr Z g T (ec m).toArray) (hl : m.val.bs.length = 16) : ∀ W, Fr Z W → (ldS 52 (.pointer (some ⟨g, 0, none⟩))).run Tryz.prog W = .ok (.agg (ec m).toArray) W := fun W h => zh4.ld (zbT hl) (ha.below h ha.lt)
theorem zem (ha : Arr Z g T (ec m).toArray) : ∀ W, Fr Z W → (ldS 33 (.pointer (some ⟨g, 0, none⟩))).run Tryz.prog W = .ok (.agg (kc m.key).toArray) W := fun W h => zaf.ldMid (zl _) (zdm (ha.below h ha.lt) (by rw [zl]; exact zcC m))
theorem zd1 (ha : Arr Z g T (ec m).toArray) (hl : m.val.bs.length = 16) : ∀ W, Fr Z W → (ldS 37 (.pointer (some ⟨g, 9, none⟩))).run Tryz.prog W = .ok (.agg (vc m.val).toArray) W := fun W h => zbs.ldMid (zD hl) (zdm (ha.below h ha.lt) (by rw [zD hl]; exact ze4 hl))
end
def WfE (l : List RE) : Prop := ∀ m ∈ l, m.wf
theorem WfE.wid {l : List RE} (h : WfE l) : Wid ec 26 l := fun a ha => zbT (h a ha).val.hl
theorem OkE.wfe {l : List RE} (h : OkE l) : WfE l := fun m hm => (h.good m hm).wf
theorem za2 {l : List RE} {j : Nat} {m : RE} (h : l[j]? = some m) : m ∈ l := by
 obtain ⟨_, e⟩ := List.getElem?_eq_some_iff.1 h;rw [← e]; exact List.getElem_mem _
theorem za5 (l : List RE) : One (zm ec l) := zlU zdw l
theorem zcN : zgM Tryz.prog 52 26 40 := zgM.of (z := ev zea) (by kernel_rfl) (by kernel_rfl) (by kernel_rfl) rfl
theorem zfm : ∃ i z, Tryz.prog.info? 52 = some i ∧ i.size = 26 ∧ i.zero = some z ∧ z.cells.size = 26 ∧ i.bytes = 40 := by
 obtain ⟨i, z, h1, h2, h3, h4, h5⟩ := zcN.row;exact ⟨i, z, h1, h3, h2, h5, h4⟩
theorem zaA : Tryz.prog.underlying 23 = some (.slice 52) := Tryz.underlying23
theorem zkL (A : Option Addr) (n c : Nat) (w : World) : (binOp .eql 23 (.slice A n c) (.slice none 0 0)).run Tryz.prog w = .ok (.bool A.isNone) w := by
 exact run_eql_slice_nil w _ _ A n c zaA
abbrev zau (w : World) (B : Nat) (A : Option Addr) (c : Nat) (l : List RE) : Prop := Own w B 52 26 A l.length c (zm ec l)
theorem zau.fr {w W : World} {B : Nat} {A : Option Addr} {c : Nat} {l : List RE} (h : zau w B A c l) (hF : Fr w W) : zau W B A c l := Own.below h hF (Nat.le_refl _)
theorem zhp (w : World) : (sizeOf (Tryz.prog.elem 23)).run Tryz.prog w = .ok 26 w := by kernel_rfl
theorem zht : Tryz.prog.underlying 23 = some (.slice (Tryz.prog.elem 23)) := by kernel_rfl
end
section
def zbw : List RE → Int → Nat
 | [], _ => 0
 | m :: l, c => if ce m < c then zbw l c + 1 else 0
theorem zjQ : ∀ (l : List RE) (c : Int), zbw l c ≤ l.length
 | [], _ => Nat.le_refl _
 | m :: l, c => by
  have := zjQ l c;unfold zbw
  split <;> simp <;> omega
theorem zns : ∀ {l : List RE} {c : Int} {t : Nat} {m : RE}, t < zbw l c → l[t]? = some m → ce m < c
 | [], c, t, m, h, _ => by simp [zbw] at h
 | x :: l, c, t, m, h, hm => by
  unfold zbw at h
  split at h
  ·rename_i hx
   cases t with
   | zero => simp at hm; subst hm; exact hx
   | succ t => exact zns (l := l) (t := t) (by omega) (by simpa using hm)
  ·omega
theorem znh : ∀ {l : List RE} {c : Int} {t : Nat} {m : RE}, OkE l → zbw l c ≤ t → l[t]? = some m → c ≤ ce m
 | [], c, t, m, _, h, hm => by simp at hm
 | x :: l, c, t, m, ho, h, hm => by
  unfold zbw at h
  split at h
  ·cases t with
   | zero => omega
   | succ t => exact znh (l := l) (t := t) ho.tail (by omega) (by simpa using hm)
  ·rename_i hx
   cases t with
   | zero => simp at hm; subst hm; omega
   | succ t =>
    have hmem : m ∈ l := by
     obtain ⟨_, e⟩ := List.getElem?_eq_some_iff.1 (show l[t]? = some m by simpa using hm);rw [← e]; exact List.getElem_mem _
    have := ho.lt m hmem;omega
theorem znU {l : List RE} {c : Int} (h : OkE l) {lo : Nat} (hlo : lo ≤ l.length) (h1 : ∀ t m, t < lo → l[t]? = some m → ce m < c) (h2 : ∀ t m, lo ≤ t → l[t]? = some m → c ≤ ce m) : lo = zbw l c := by
 have hp := zjQ l c
 rcases Nat.lt_trichotomy lo (zbw l c) with hl | hl | hl
 ·have hlen : lo < l.length := by omega
  have a := zns hl (List.getElem?_eq_getElem hlen);have b := h2 lo _ (Nat.le_refl _) (List.getElem?_eq_getElem hlen);omega
 ·exact hl
 ·have hlen : zbw l c < l.length := by omega
  have a := h1 _ _ hl (List.getElem?_eq_getElem hlen);have b := znh h (Nat.le_refl _) (List.getElem?_eq_getElem hlen);omega
theorem asc_at {l : List RE} (h : OkE l) {i j : Nat} {a b : RE} (ha : l[i]? = some a) (hb : l[j]? = some b) (hij : i ≤ j) : ce a ≤ ce b := by
 obtain ⟨h1, e1⟩ := List.getElem?_eq_some_iff.1 ha;obtain ⟨h2, e2⟩ := List.getElem?_eq_some_iff.1 hb
 rcases Nat.lt_or_ge i j with h3 | h3
 ·have := List.pairwise_iff_getElem.1 h.asc i j h1 h2 h3
  rw [e1, e2] at this;omega
 ·have : i = j := by omega
  subst this;rw [e1] at e2;rw [e2];exact Int.le_refl _
theorem zgY : ∀ {l : List RE} {k : RK}, OkE l → k.wf → okB k = true → zO l k = (match l[zbw l (zu k)]? with | some m => if m.key = k then some m.val else none | none => none)
 | [], k, _, _, _ => rfl
 | x :: l, k, h, wk, ok => by
  have hx := h.head;rw [zO]
  by_cases hlt : ce x < zu k
  ·have hp : zbw (x :: l) (zu k) = zbw l (zu k) + 1 := by rw [zbw, if_pos hlt]
   have hne : x.key ≠ k := fun e => by unfold ce at hlt; rw [e] at hlt; omega
   rw [hp, if_neg hne, List.getElem?_cons_succ];exact zgY h.tail wk ok
  ·have hp : zbw (x :: l) (zu k) = 0 := by rw [zbw, if_neg hlt]
   rw [hp, List.getElem?_cons_zero]
   by_cases e : x.key = k
   ·simp [e]
   ·simp only [if_neg e]
    rw [zdG];intro z hz ez;have := h.lt z hz;have : ce z = zu k := by unfold ce; rw [ez]
    omega
theorem zmG {l : List RE} {k : RK} {v : RV} (h : OkE l) (wk : k.wf) (ok : okB k = true) (hf : zO l k = some v) : l[zbw l (zu k)]? = some ⟨k, v⟩ := by
 rw [zgY h wk ok] at hf
 split at hf
 ·rename_i x hx
  by_cases e : x.key = k
  ·rw [if_pos e] at hf
   injection hf with hf
   subst hf e;exact hx
  ·rw [if_neg e] at hf; cases hf
 ·cases hf
theorem zhH : ∀ {l : List RE} {k : RK} {o : Option RV}, OkE l → k.wf → okB k = true → za3 l k o = (match zO l k, o with
 | some _, some v => l.set (zbw l (zu k)) ⟨k, v⟩
 | some _, none => l.take (zbw l (zu k)) ++ l.drop (zbw l (zu k) + 1)
 | none, some v => l.take (zbw l (zu k)) ++ ⟨k, v⟩ :: l.drop (zbw l (zu k))
 | none, none => l)
 | [], k, o, _, _, _ => by cases o <;> rfl
 | x :: l, k, o, h, wk, ok => by
  have hx := h.head;have hxc : ce x = zu x.key := rfl;rw [zO];unfold za3
  by_cases hlt : zu x.key < zu k
  ·have hp : zbw (x :: l) (zu k) = zbw l (zu k) + 1 := by rw [zbw, if_pos (by rw [hxc]; exact hlt)]
   have hne : x.key ≠ k := fun e => by rw [e] at hlt; omega
   rw [hp, if_pos hlt, if_neg hne, zhH h.tail wk ok]
   cases zO l k <;> cases o <;> simp
  ·have hp : zbw (x :: l) (zu k) = 0 := by rw [zbw, if_neg (by rw [hxc]; exact hlt)]
   rw [hp, if_neg hlt]
   by_cases e : x.key = k
   ·cases o <;> simp [e]
   ·have hno : zO l k = none := by
     rw [zdG];intro z hz ez;have h1 := h.lt z hz;have : ce z = zu k := by unfold ce; rw [ez]
     omega
    cases o <;> simp [e, hno]
theorem zdy {l : List RE} {j : Nat} {m : RE} (h : l[j]? = some m) : zQ (l.take (j + 1)) = zQ (l.take j) + zcs m := by
 rw [zav h, zg3];simp [zQ]
theorem zjs {l : List RE} {more : List RM} {j : Nat} {m : RM} (h : more[j]? = some m) : zbI l (more.take (j + 1)) = zba (zbI l (more.take j)) m := by
 rw [zav h];unfold zbI;rw [List.foldl_append];rfl
theorem zj2 (l : List RE) (m : RM) : (zba l m).length ≤ l.length + 1 := zhi _ _ _
theorem zgB : ∀ (more : List RM) (l : List RE), (zbI l more).length ≤ l.length + more.length
 | [], l => by simp [zbI]
 | m :: more, l => by
  have h1 := zgB more (zba l m);have h2 := zj2 l m;have e : zbI l (m :: more) = zbI (zba l m) more := rfl;rw [e];simp only [List.length_cons];omega
def SmE (l : List RE) : Prop := ∀ e ∈ l, 0 ≤ e.key.n ∧ e.key.n ≤ 8 ∧ 0 ≤ e.val.n ∧ e.val.n ≤ 16
theorem OkE.sm {l : List RE} (h : OkE l) : SmE l := fun e he => by
 have g := h.good e he;have h1 := zmB g.ok;obtain ⟨m, h2, h3, _⟩ := ziC g.ov;omega
theorem zf8 {e : RE} (h : 0 ≤ e.key.n ∧ e.key.n ≤ 8 ∧ 0 ≤ e.val.n ∧ e.val.n ≤ 16) : 2 ≤ zcs e ∧ zcs e ≤ 26 := by unfold zcs; omega
theorem zbG : ∀ {l : List RE}, SmE l → 0 ≤ zQ l ∧ zQ l ≤ 26 * (l.length : Int)
 | [], _ => by simp [zQ]
 | e :: l, h => by
  have h1 := zf8 (h e (by simp));have h2 := zbG (l := l) (fun x hx => h x (List.mem_cons_of_mem _ hx));rw [zdx];simp only [List.length_cons];omega
theorem SmE.sub {l l' : List RE} (h : SmE l) (hs : l'.Sublist l) : SmE l' := fun x hx => h x (hs.subset hx)
end
section
attribute [local go_sem ↓] zt zbh
set_option maxHeartbeats 4000000 in
theorem zi7 {w : World} {A : Option Addr} {n c B : Nat} {l : List RE} (hl : Has w B A (zm ec l)) (hB : B ≤ w.heap.size) (hn : l.length = n) (hsm : n ≤ 1000000) (wl : WfE l) :
 Calls Tryz.prog 47 #[.slice A n c] w fun e w' => ∃ A' c', e = .returned (.slice A' n c') ∧ zau w' w.heap.size A' c' l ∧ Fr w w' := by
 have hlen := zaa wl.wid
 cases A with
 | none =>
  have h0 := hl.none_nil
  have hl0 : l = [] := by
   rw [h0] at hlen;simp at hlen;exact List.eq_nil_of_length_eq_zero (by omega)
  subst hl0;simp at hn;subst hn;have hq := zkL none 0 c;simp only [Option.isNone_none] at hq;clear hl hlen h0;go_enter Tryz.func47, Tryz.ntmps47;go_wp2_with fail;go_ret;exact ⟨none, 0, rfl, Own.nil _ _ _ _, ze w⟩
 | some a =>
  subst hn;have ho : Own (w.alloc (.cells #[] 52)) w.heap.size 52 26 (some ⟨w.heap.size, 0, none⟩) 0 0 (zm ec ([] : List RE)) := Own.lit w w.heap.size 52 #[] 0 26 (Nat.le_refl _) (Nat.zero_le _) rfl;have hl2 := hl.below ((zf (ze w) (.cells #[] 52)).mono hB);have hq := zkL (some a) l.length c;simp only [Option.isNone_some] at hq;clear hl;go_enter Tryz.func47, Tryz.ntmps47
  go_wp2_with (first
   | (refine zao zcN zaA (by decide) rfl (.tmp 5) (.tmp 6) rfl (some ⟨w.heap.size, 0, none⟩) 0 0 [] rfl ho B (some a) l.length c l rfl hlen hl2 (za5 l) (by simp only [maxLen]; omega) (by omega) (by simp) ?_; intro A' c' w' h1 h2 h3)
   | fail)
  go_ret;refine ⟨A', c', by simp, by simpa using h1, zat (zf (ze w) _) ho h2 (by simp) (Nat.le_refl _)⟩
def lowE (A : Option Addr) (m t : Nat) : Option Addr := if m = t then A else A.map (·.add (t * 26))
theorem zck {g o m t : Nat} (h : t < m) : lowE (some ⟨g, o, none⟩) m t = some ⟨g, o + t * 26, none⟩ := by
 unfold lowE;rw [if_neg (by omega)];simp [Addr.add_lit]
theorem zcv (A : Option Addr) (n c t : Nat) (ht : t ≤ c) (W : World) : (Instr.slice 23 (.slice A n c) none (some (.int .i64 (t : Int))) none).run Tryz.prog W = .ok (.slice A t c) W := by
 rw [run_slice_h (P := Tryz.prog) (w := W) (t := 23) (ht := zht) A n c .i64 (t : Int) (by omega) (by omega), zhp];have h0 : A.map (·.add 0) = A := by cases A <;> simp [Addr.add]
 simp only [Result.andThen, sliced, Int.toNat_natCast, Nat.zero_mul, h0, Nat.sub_zero, ite_self]
theorem zaW (A : Option Addr) (n c t : Nat) (ht : t ≤ n) (W : World) : (Instr.slice 23 (.slice A n c) (some (.int .i64 (t : Int))) none none).run Tryz.prog W = .ok (.slice (lowE A c t) (n - t) (c - t)) W := by
 rw [run_slice_l (P := Tryz.prog) (w := W) (t := 23) (ht := zht) A n c .i64 (t : Int) (by omega) (by omega), zhp];simp only [Result.andThen, sliced, Int.toNat_natCast, lowE]
theorem zil (A : Option Addr) (n c l h m : Nat) (h1 : l ≤ h) (h2 : h ≤ m) (h3 : m ≤ c) (W : World) : (Instr.slice 23 (.slice A n c) (some (.int .i64 (l : Int))) (some (.int .i64 (h : Int))) (some (.int .i64 (m : Int)))).run Tryz.prog W = .ok (.slice (lowE A m l) (h - l) (m - l)) W := by
 rw [run_slice_lhm (P := Tryz.prog) (w := W) (t := 23) (ht := zht) A n c .i64 .i64 .i64 (l : Int) (h : Int) (m : Int) (by omega) (by omega) (by omega) (by omega), zhp];simp only [Result.andThen, sliced, Int.toNat_natCast, lowE]
set_option maxHeartbeats 4000000 in
theorem zlk {w : World} {A : Option Addr} {n c B V : Nat} {l : List RE} {m : RE} (ho : zau w B A c l) (hB : B ≤ w.heap.size) (hn : l.length = n) (hsm : n ≤ 1000000) (wl : WfE l) (wm : m.wf) (hv : Arr w V 52 (ec m).toArray) :
 Calls Tryz.prog 126 #[.slice A n c, .int .i64 n, .slice (some ⟨V, 0, none⟩) 1 1] w fun e w' => ∃ A' c', e = .returned (.slice A' (n + 1) c') ∧ zau w' B A' c' (l ++ [m]) ∧ Below B w w' := by
 have hq := zaW A n c n (Nat.le_refl _);unfold zau at ho;rw [hn] at ho;have hV : Has w (V + 1) (some ⟨V, 0, none⟩) (zm ec [m]) := by rw [zbj]; exact zax w hv
 have hl1 : (zm ec [m]).length = 1 * 26 := by rw [zbj]; exact zbT wm.val.hl
 have Hn := zb hn;clear hn hv;go_enter Tryz.func126, Tryz.ntmps126
 go_wp2_with (first
  | (refine zao zcN zaA (by decide) rfl (.tmp 23) (.tmp 24) rfl A n c l rfl ho (V + 1) (some ⟨V, 0, none⟩) 1 1 [m] rfl hl1 hV (za5 _) (by simp only [maxLen]; omega) (by omega) hB ?_; intro A' c' w' h1 h2 h3)
  | fail)
 go_ret;refine ⟨A', c', rfl, ?_, zat (Below.refl B w) ho h2 hB (Nat.le_refl _)⟩;unfold zau;rw [List.length_append, Hn.out];exact h1
theorem zjP {l : List RE} {m : RE} {i n : Nat} (hi : i < n) (hn : l.length = n) (wl : WfE l) (wm : m.wf) (ys : List Value) (hys : ys.length = 26) :
 (((zm ec l ++ ys).take ((i + 1) * 26) ++ zm ec (l.drop i) ++ (zm ec l ++ ys).drop ((i + 1 + (n - i)) * 26)).take (i * 26) ++ ec m ++ ((zm ec l ++ ys).take ((i + 1) * 26) ++ zm ec (l.drop i) ++ (zm ec l ++ ys).drop ((i + 1 + (n - i)) * 26)).drop ((i + 1) * 26)) = zm ec (l.take i ++ m :: l.drop i) := by
 have hlen : (zm ec l).length = n * 26 := by rw [zaa wl.wid, hn]
 have e1 : (zm ec l ++ ys).drop ((i + 1 + (n - i)) * 26) = [] := List.drop_eq_nil_of_le (by rw [List.length_append, hlen, hys, zmY hi]; omega);have e2 : ((zm ec l ++ ys).take ((i + 1) * 26)).length = (i + 1) * 26 := by rw [List.length_take, List.length_append, hlen, hys]; omega
 rw [e1, List.append_nil, List.drop_left' e2, List.take_append_of_le_length (by rw [e2]; omega), List.take_take, Nat.min_eq_left (by omega), List.take_append_of_le_length (by rw [hlen]; omega), ← zbq wl.wid, zas, zcj, List.append_assoc]
set_option maxHeartbeats 2000000 in
theorem zjx {w : World} {A : Option Addr} {n c B V i : Nat} {l : List RE} {m : RE} (ho : zau w B A c l) (hB : B ≤ w.heap.size) (hn : l.length = n) (hsm : n ≤ 1000000) (wl : WfE l) (wm : m.wf) (hv : Arr w V 52 (ec m).toArray) (hVA : blk A ≠ some V) (hi : i < n) (hc : n + 1 ≤ c) :
 Calls Tryz.prog 126 #[.slice A n c, .int .i64 i, .slice (some ⟨V, 0, none⟩) 1 1] w fun e w' => ∃ A' c', e = .returned (.slice A' (n + 1) c') ∧ zau w' B A' c' (l.take i ++ m :: l.drop i) ∧ Below B w w' := by
 unfold zau at ho;rw [hn] at ho;obtain ⟨g, rfl⟩ := ho.addr (by omega);have hgV : g ≠ V := fun e => hVA (by rw [e]; rfl);have hlen : (zm ec l).length = n * 26 := by rw [zaa wl.wid, hn]
 obtain ⟨-, hBg, -, hcm, cur, hcur, hcs, -⟩ := ho.row;obtain ⟨ys, ho1, hys0⟩ := ho.more (m := n + 1) (by omega) hc;have hys : ys.length = 26 := by rw [hys0]; omega
 obtain ⟨inf, -, hinf, hsize, -, -, -⟩ := zfm
 have hsrc : Has w.drew w.heap.size (some ⟨g, i * 26, none⟩) (zm ec (l.drop i)) := by
  have := ho.has;have h2 := zbm this wl.wid i;rw [Nat.zero_add] at h2;exact h2
 have hdl : (zm ec (l.drop i)).length = (n - i) * 26 := by rw [zaa (wl.wid.drop i), List.length_drop, hn]
 obtain ⟨w1, hr1, ho2, hg1⟩ := zbf (P := Tryz.prog) w.drew 23 3 inf zaA hinf hsize (zct ho1) (i + 1) (n - i) (c - (i + 1)) w.heap.size (some ⟨g, i * 26, none⟩) (n - i) (n + 1 - i) (c - i) (zm ec (l.drop i)) hdl hsrc (za5 _) (Nat.min_eq_right (by omega)) (by omega) (by omega) (by decide);have hv1 : Arr w1 V 52 (ec m).toArray := zha hg1 (Arr.drew hv) hgV;obtain ⟨w2, hr2, ho3, hg2⟩ := zbf (P := Tryz.prog) w1 23 3 inf zaA hinf hsize ho2 i (n + 1 - i) (c - i) (V + 1) (some ⟨V, 0, none⟩) 1 1 1 (ec m) (zbT wm.val.hl) (zax w1 hv1) (zdw m) (Nat.min_eq_left (by omega)) (by omega) (by omega) (by decide);rw [zjP hi hn wl wm ys hys] at ho3;have hb1 : Below B w w1 := (Below.refl B w).drew.trans (zaF hg1 hBg hB);have hb2 : Below B w w2 := hb1.trans (zaF hg2 hBg (Nat.le_trans hB hb1.size));have ho4 := zb ho3
 have hov : (callFunc 131 #[.slice (some ⟨V, 0, none⟩) 1 1, .slice (some ⟨g, (i + 1) * 26, none⟩) (n - i) (c - (i + 1))]).run Tryz.prog w = .ok (.value (.bool false)) w := by
  rw [run_callFunc_extern Tryz.func131 (by kernel_rfl) (by kernel_rfl) (by kernel_rfl) (e := Extern.SlicesOverlaps.overlaps #[23, 23] #[4]) (by kernel_rfl),
   Lib.run_overlaps_apart w 23 4 52 zaA 26 (fun w => zh4.size (w := w)) ⟨V, 0, none⟩ ⟨g, (i + 1) * 26, none⟩ 1 1 (n - i) (c - (i + 1)) (fun e => hgV e.symm) _ _ _ _ (ze8 w hv) (ze8 w hcur) (by rw [hcs]; omega) (hv.free 0) (hv.free _)]
  rfl
 have q1 := zaW (some ⟨g, 0, none⟩) n c i (by omega);rw [zck (by omega), Nat.zero_add] at q1;have q2 := zcv (some ⟨g, 0, none⟩) n c (n + 1) hc;rw [Int.natCast_succ] at q2;have q3 := zaW (some ⟨g, 0, none⟩) (n + 1) c (i + 1) (by omega);rw [zck (by omega), Nat.zero_add, Int.natCast_succ, Nat.add_sub_add_right] at q3;have q4 := zaW (some ⟨g, 0, none⟩) (n + 1) c i (by omega);rw [zck (by omega), Nat.zero_add] at q4;have hwi : IntKind.i64.wrap ((i : Int) + 1) = (i : Int) + 1 := by rw [IntKind.wrap_i64]; omega
 have hz2 : ¬ ((i : Int) = (n : Int)) := by omega
 have hz3 : ¬ ((c : Int) < (n : Int) + 1) := by omega
 have hlenr : (l.take i ++ m :: l.drop i).length = n + 1 := by simp [hn]; omega
 have Hlen := zb hlenr;have Hb2 := zb hb2;clear ho ho1 ho2 ho3 hg1 hg2 hb1 hb2 hsrc hdl hcur hcs hcm hv hv1 hlen hlenr hBg hinf hsize hys hys0 hn hVA wl wm cur inf ys;go_enter Tryz.func126, Tryz.ntmps126;go_wp2_with fail
 go_region_law (first
  | (refine zcx rfl (.tmp 73) (.tmp 76) 23 23 rfl _ _ ?_ ?_ hr1 ?_
     ·go_simp
     ·go_simp)
  | fail)
 all_goals
  go_wp2_with (first
   | (refine Lib.wpList_copy_run _ rfl (.tmp 80) (.tmp 81) 23 23 rfl _ _ rfl rfl hr2 ?_)
   | fail)
  go_ret;refine ⟨some ⟨g, 0, none⟩, c, rfl, ?_, Hb2.out⟩;unfold zau;rw [Hlen.out];exact ho4.out
theorem zmH {l : List RE} {m : RE} {i n : Nat} (hi : i < n) (hn : l.length = n) (wl : WfE l) (wm : m.wf) (zs : List Value) (hzs : zs.length = (n + 1 - i) * 26) :
 (((zm ec l).take (i * 26) ++ zs).take (i * 26) ++ ec m ++ ((zm ec l).take (i * 26) ++ zs).drop ((i + 1) * 26)).take ((i + 1) * 26) ++ zm ec (l.drop i) ++ (((zm ec l).take (i * 26) ++ zs).take (i * 26) ++ ec m ++ ((zm ec l).take (i * 26) ++ zs).drop ((i + 1) * 26)).drop ((i + 1 + (n - i)) * 26) = zm ec (l.take i ++ m :: l.drop i) := by
 have hlen : (zm ec l).length = n * 26 := by rw [zaa wl.wid, hn]
 have h1 : ((zm ec l).take (i * 26)).length = i * 26 := by rw [List.length_take, hlen]; omega
 have hm := zbT wm.val.hl;have e0 : ((zm ec l).take (i * 26) ++ zs).take (i * 26) = zm ec (l.take i) := by rw [List.take_left' h1, ← zbq wl.wid]
 have hlt : (zm ec (l.take i)).length = i * 26 := by rw [zbq wl.wid, h1]
 rw [e0];have e1 : (zm ec (l.take i) ++ ec m ++ ((zm ec l).take (i * 26) ++ zs).drop ((i + 1) * 26)).take ((i + 1) * 26) = zm ec (l.take i) ++ ec m := List.take_left' (by rw [List.length_append, hlt, hm]; omega);have e2 : (zm ec (l.take i) ++ ec m ++ ((zm ec l).take (i * 26) ++ zs).drop ((i + 1) * 26)).drop ((i + 1 + (n - i)) * 26) = [] := List.drop_eq_nil_of_le (by rw [List.length_append, List.length_append, List.length_drop, List.length_append, hlt, hm, h1, hzs]; omega);rw [e1, e2, List.append_nil, zas, zcj, List.append_assoc]
set_option maxHeartbeats 2000000 in
theorem zjV {w : World} {A : Option Addr} {n c B V i : Nat} {l : List RE} {m : RE} (ho : zau w B A c l) (hB : B ≤ w.heap.size) (hn : l.length = n) (hsm : n ≤ 1000000) (wl : WfE l) (wm : m.wf) (hv : Arr w V 52 (ec m).toArray) (hi : i < n) (hc : c < n + 1) :
 Calls Tryz.prog 126 #[.slice A n c, .int .i64 i, .slice (some ⟨V, 0, none⟩) 1 1] w fun e w' => ∃ A' c', e = .returned (.slice A' (n + 1) c') ∧ zau w' B A' c' (l.take i ++ m :: l.drop i) ∧ Below B w w' := by
 unfold zau at ho;rw [hn] at ho;obtain ⟨g, rfl⟩ := ho.addr (by omega);have hlen : (zm ec l).length = n * 26 := by rw [zaa wl.wid, hn]
 have hcap := ho.cap;obtain ⟨inf, z, hinf, hsize, hz, hzs, hby⟩ := zfm;have hint : Tryz.prog.underlying 3 = some (.int .i64) := Tryz.underlying3;obtain ⟨c', w1, zs, hr0, ho1, hzl, hg1⟩ := zdb (P := Tryz.prog) w 23 3 23 inf z 40 .i64 .i64 zaA hint hinf hz hsize hby hzs (by decide) _ (ho.pre (i := i) (by omega)) (n + 1 - i) (by omega) (by omega) (by simp only [maxLen]; omega) (by omega) hB;rw [show i + (n + 1 - i) = n + 1 by omega] at hr0 ho1;rw [show ((n + 1 - i : Nat) : Int) = (n : Int) + 1 - (i : Int) by omega] at hr0;have hH : g < w.heap.size := (ho.lt g rfl).2;have hVH : w.heap.size ≠ V := by have := hv.lt; omega
 have hcap' := ho1.cap;have hv1 := zga hg1 hv;have hs1 : Own w1 B 52 26 (some ⟨g, 0, none⟩) n c (zm ec l) := ho.kept hg1 (.inr (by simp [blk]));obtain ⟨w2, hr1, ho2, hg2⟩ := zbf (P := Tryz.prog) w1 23 3 inf zaA hinf hsize ho1 i (n + 1 - i) (c' - i) (V + 1) (some ⟨V, 0, none⟩) 1 1 1 (ec m) (zbT wm.val.hl) (zax w1 hv1) (zdw m) (Nat.min_eq_left (by omega)) (by omega) (by omega) (by decide);have hs2 : Own w2 B 52 26 (some ⟨g, 0, none⟩) n c (zm ec l) := hs1.kept hg2 (.inr (by simp [blk]; omega))
 have hsrc : Has w2.drew w2.heap.size (some ⟨g, i * 26, none⟩) (zm ec (l.drop i)) := by
  have h2 := zbm hs2.has wl.wid i;rw [Nat.zero_add] at h2;exact h2
 have hdl : (zm ec (l.drop i)).length = (n - i) * 26 := by rw [zaa (wl.wid.drop i), List.length_drop, hn]
 obtain ⟨w3, hr2, ho3, hg3⟩ := zbf (P := Tryz.prog) w2.drew 23 3 inf zaA hinf hsize (zct ho2) (i + 1) (n - i) (c' - (i + 1)) w2.heap.size (some ⟨g, i * 26, none⟩) (n - i) (n - i) (c - i) (zm ec (l.drop i)) hdl hsrc (za5 _) (Nat.min_self _) (by omega) (by omega) (by decide);rw [zmH hi hn wl wm zs hzl] at ho3;have hb1 : Below B w w1 := zgc hg1 hB;have hb2 : Below B w w2 := hb1.trans (zaF hg2 hB (Nat.le_trans hB hb1.size));have hb3 : Below B w w3 := hb2.drew.trans (zaF hg3 hB (Nat.le_trans hB hb2.size));have ho4 := zb ho3;have q1 := zaW (some ⟨g, 0, none⟩) n c i (by omega);rw [zck (by omega), Nat.zero_add] at q1;have q2 := zcv (some ⟨g, 0, none⟩) n c i (by omega);have q3 := zaW (some ⟨w.heap.size, 0, none⟩) (n + 1) c' (i + 1) (by omega);rw [zck (by omega), Nat.zero_add, Int.natCast_succ, Nat.add_sub_add_right] at q3;have q4 := zaW (some ⟨w.heap.size, 0, none⟩) (n + 1) c' i (by omega);rw [zck (by omega), Nat.zero_add] at q4;have hwi : IntKind.i64.wrap ((i : Int) + 1) = (i : Int) + 1 := by rw [IntKind.wrap_i64]; omega
 have hz2 : ¬ ((i : Int) = (n : Int)) := by omega
 have hz3 : ((c : Int) < (n : Int) + 1) := by omega
 have hlenr : (l.take i ++ m :: l.drop i).length = n + 1 := by simp [hn]; omega
 have Hlen := zb hlenr;have Hb3 := zb hb3;clear ho ho1 ho2 ho3 hg1 hg2 hg3 hb1 hb2 hb3 hsrc hdl hv hv1 hlen hlenr hinf hsize hn wl wm hs1 hs2 hz hzs hby inf z hzl zs hint;go_enter Tryz.func126, Tryz.ntmps126
 go_wp2_with (first
  | (refine zbX _ rfl (.tmp 34) (.tmp 39) 23 3 rfl _ _ rfl rfl hr0 ?_)
  | (refine Lib.wpList_copy_run _ rfl (.tmp 43) (.tmp 44) 23 23 rfl _ _ rfl rfl hr1 ?_)
  | fail)
 go_region_law (first
  | (refine zcx rfl (.tmp 50) (.tmp 53) 23 23 rfl _ _ ?_ ?_ hr2 ?_
     ·go_simp
     ·go_simp)
  | fail)
 all_goals
  go_wp2_with fail;go_ret;refine ⟨some ⟨w.heap.size, 0, none⟩, c', rfl, ?_, Hb3.out⟩;unfold zau;rw [Hlen.out];exact ho4.out
theorem zl8 {w : World} {A : Option Addr} {n c B V i : Nat} {l : List RE} {m : RE} (ho : zau w B A c l) (hB : B ≤ w.heap.size) (hn : l.length = n) (hsm : n ≤ 1000000) (wl : WfE l) (wm : m.wf) (hv : Arr w V 52 (ec m).toArray) (hVA : blk A ≠ some V) (hi : i ≤ n) :
 Calls Tryz.prog 126 #[.slice A n c, .int .i64 i, .slice (some ⟨V, 0, none⟩) 1 1] w fun e w' => ∃ A' c', e = .returned (.slice A' (n + 1) c') ∧ zau w' B A' c' (l.take i ++ m :: l.drop i) ∧ Below B w w' := by
 rcases Nat.lt_or_ge i n with h | h
 ·rcases Nat.lt_or_ge c (n + 1) with h2 | h2
  ·exact zjV ho hB hn hsm wl wm hv h h2
  ·exact zjx ho hB hn hsm wl wm hv hVA h h2
 ·obtain rfl : i = n := by omega
  have e1 : l.take i = l := List.take_of_length_le (by omega);have e2 : l.drop i = [] := List.drop_eq_nil_of_le (by omega);rw [e1, e2];exact zlk ho hB hn hsm wl wm hv
end
end Go.Proofs.YtmjjjdikpnhpiaaGreat
