/- Entries as values: a key, a value: 26 cells. -/
import Derived.Test.YtcdcaanmmbopbaaBufA
import Derived.Test.YtcdcaanmmbopbaaBufG
import Derived.Deep.RegionLaw
import Derived.Lib.SlBuf
namespace Go.Proofs.Ytcdcaanmmbopbaa
set_option maxRecDepth 100000
open Go.RowKit
set_option linter.unusedVariables false
/-- What every entry that comes in is. -/
structure RE.wf (e : RE) : Prop where
  key : e.key.wf
  val : e.val.wf
theorem RE.ok.wf {e : RE} (h : e.ok) : e.wf := ⟨h.wk, h.wv⟩
def zeroE : RE := ⟨zeroK, zeroV⟩
theorem zeroE_wf : zeroE.wf := ⟨zeroK_wf, zeroV_wf⟩
theorem ec_len {e : RE} (h : e.val.bs.length = 16) : (ec e).length = 26 := by simp [ec, vc_len h]
theorem ec_one (e : RE) : One (ec e) := .app (kc_one _) (vc_one _)
theorem ec_0 (e : RE) : (ec e)[0]? = some (.int .i64 e.key.n) := rfl
theorem ec_9 (e : RE) : (ec e)[9]? = some (.int .i64 e.val.n) := rfl
theorem ec_key (e : RE) : ((ec e).drop 0).take 9 = kc e.key := by
  rw [ec, List.drop_zero]
  exact List.take_left' (kc_len _)
theorem ec_val {e : RE} (h : e.val.bs.length = 16) : ((ec e).drop 9).take 17 = vc e.val := by
  rw [ec, List.drop_left' (kc_len _)]
  exact List.take_of_length_le (by rw [vc_len h]; omega)
theorem ec_spliceV {e : RE} (h : e.val.bs.length = 16) {v : RV} (hv : v.bs.length = 16) : splice (ec e) 9 (vc v) = ec { e with val := v } := by
  rw [splice, ec, List.take_left' (kc_len _), vc_len hv, List.drop_eq_nil_of_le (by simp [vc_len h]), List.append_nil]
  rfl
theorem ent_info : (Try.prog.info? 45).map (·.size) = some 26 := by kernel_rfl
theorem entS : Sty Try.prog 45 26 := ⟨ent_info, _, Try.underlying45, rfl⟩
theorem ent_ld (p : Value) : Instr.loadAt 45 p = ldS 45 p := rfl
theorem ent_st (p v : Value) : Instr.storeAt 45 p v = stS 45 p v := rfl
theorem ent_type : Try.prog.keyType 45 = true := by kernel_rfl
theorem ent_typeAt : Try.prog.keyTypeAt (Try.prog.types.size + 1) 45 = true := by kernel_rfl
theorem ent_wide : (match Try.prog.underlying 45 with | some (.array _ _) | some (.struct _) => true | _ => false) = true := by kernel_rfl
theorem ent_row : (45 : TypeId) < Try.prog.types.size := of_decide_eq_true (by kernel_rfl)
theorem ent_law : WideMaps.KeyLaw Try.prog 45 := deep_law_gate laid_out (of_decide_eq_true types_small) ent_row ent_type ent_wide
theorem ent_keyed : Go.Maps.Keyed Try.prog 45 := .of_law ent_law
theorem ent_cells : Try.prog.cellsOf 45 = 26 := by kernel_rfl
def elits (e : RE) : List Lit := klits e.key ++ vlits e.val
def elit (e : RE) : Lit := .string (keyBytes (elits e))
theorem ent_lits (e : RE) (h : e.wf) (D : Nat) : Try.prog.keyLits (D + 4) 45 (ec e) = some (elits e) := by
  have hl := ec_len h.val.hl
  have e2 := key_lits_at e.key h.key D
  have e3 := val_lits_at e.val h.val D
  have p2 := ec_key e
  unfold Program.keyLits
  simp only [Try.underlying45]
  rw [if_pos ⟨by rw [hl]; exact ent_cells.symm, by kernel_rfl⟩]
  simp only [List.mapM_cons, List.mapM_nil, key_cells, val_cells, p2, ec_val h.val.hl, e2, e3]
  simp [elits]
theorem ent_of (e : RE) (h : e.wf) : keyOf Try.prog 45 (ev e) = some (elit e) := by
  have hf : (ev e).formed Try.prog 45 = true := by simp [Value.formed, Try.underlying45, ent_cells, ec_len h.val.hl]
  obtain ⟨D, hD⟩ : ∃ D, Try.prog.types.size + 1 = D + 4 := ⟨Try.prog.types.size - 3, by have h : 48 < Try.prog.types.size := msg_row; omega⟩
  have hl := ent_lits e h D
  simp only [keyOf, Try.underlying45, ent_type, hf, Bool.and_self, if_true, Value.cells]
  rw [hD, hl]
  rfl
theorem ec_inj {a b : RE} (ha : a.val.bs.length = 16) (hb : b.val.bs.length = 16) (h : ec a = ec b) : a = b := by
  have h2 : kc a.key = kc b.key := by rw [← ec_key a, ← ec_key b, h]
  have h3 : vc a.val = vc b.val := by rw [← ec_val ha, ← ec_val hb, h]
  obtain ⟨e1, v1⟩ := a
  obtain ⟨e2, v2⟩ := b
  have e2 := kc_inj h2
  have e3 := vc_inj h3
  clear h2 h3
  simp only at e2 e3
  subst e2 e3
  rfl
theorem ev_inj {a b : RE} (ha : a.wf) (hb : b.wf) (h : ev a = ev b) : a = b := by
  injection h with h
  exact ec_inj ha.val.hl hb.val.hl (by simpa using congrArg Array.toList h)
theorem elit_inj {a b : RE} (ha : a.wf) (hb : b.wf) (h : elit a = elit b) : a = b := ev_inj ha hb (ent_keyed.inj (ent_of a ha) (h ▸ ent_of b hb))
theorem ent_eqr {a b : RE} (ha : a.wf) (hb : b.wf) (W : World) : (Op.equal 45 (ev a) (ev b)).run Try.prog W = .ok (decide (a = b)) W := by
  obtain ⟨r, h1, h2⟩ := run_equal_deep W (m := Try.prog.types.size + 1) types_le ent_typeAt ent_wide (ent_of a ha) (ent_of b hb)
  have : r = decide (a = b) := by
    rw [Bool.eq_iff_iff, h2, decide_eq_true_iff]
    exact ⟨elit_inj ha hb, fun e => by rw [e]⟩
  rw [h1, this]
theorem ent_neq {a b : RE} (ha : a.wf) (hb : b.wf) (W : World) : (binOp .neq 45 (ev a) (ev b)).run Try.prog W = .ok (.bool (!decide (a = b))) W := by
  simp only [binOp, Sem.run_bind, ent_eqr ha hb, Result.andThen_ok, Sem.run_pure]
/-! What is read of an entry's block, from one world on. -/
section
variable {Z : World} {g T : Nat} {m : RE}
theorem ent_all (ha : Arr Z g T (ec m).toArray) (hl : m.val.bs.length = 16) : ∀ W, Fr Z W → (ldS 45 (.pointer (some ⟨g, 0, none⟩))).run Try.prog W = .ok (.agg (ec m).toArray) W := fun W h => entS.ld (ec_len hl) (ha.below h ha.lt)
theorem ent_keyAt (ha : Arr Z g T (ec m).toArray) : ∀ W, Fr Z W → (ldS 40 (.pointer (some ⟨g, 0, none⟩))).run Try.prog W = .ok (.agg (kc m.key).toArray) W := fun W h => keyS.ldMid (kc_len _) (range_of_arr (ha.below h ha.lt) (by rw [kc_len]; exact ec_key m))
theorem ent_valAt (ha : Arr Z g T (ec m).toArray) (hl : m.val.bs.length = 16) : ∀ W, Fr Z W → (ldS 43 (.pointer (some ⟨g, 9, none⟩))).run Try.prog W = .ok (.agg (vc m.val).toArray) W := fun W h => valS.ldMid (vc_len hl) (range_of_arr (ha.below h ha.lt) (by rw [vc_len hl]; exact ec_val hl))
end
/-- Entries whose parts are right in their bounds. -/
def WfE (l : List RE) : Prop := ∀ m ∈ l, m.wf
theorem WfE.wid {l : List RE} (h : WfE l) : Wid ec 26 l := fun a ha => ec_len (h a ha).val.hl
theorem OkE.wfe {l : List RE} (h : OkE l) : WfE l := fun m hm => (h.good m hm).wf
theorem emem_at {l : List RE} {j : Nat} {m : RE} (h : l[j]? = some m) : m ∈ l := by
  obtain ⟨_, e⟩ := List.getElem?_eq_some_iff.1 h
  rw [← e]; exact List.getElem_mem _
theorem rows_ec_one (l : List RE) : One (rows ec l) := rows_one ec_one l
theorem ent_elem : Elem Try.prog 45 26 40 := Elem.of (z := ev zeroE) (by kernel_rfl) (by kernel_rfl) (by kernel_rfl) rfl
theorem ent_info' : ∃ i z, Try.prog.info? 45 = some i ∧ i.size = 26 ∧ i.zero = some z ∧ z.cells.size = 26 ∧ i.bytes = 40 := by
  obtain ⟨i, z, h1, h2, h3, h4, h5⟩ := ent_elem.row
  exact ⟨i, z, h1, h3, h2, h5, h4⟩
theorem ents_under : Try.prog.underlying 23 = some (.slice 45) := Try.underlying23
theorem ents_nil (A : Option Addr) (n c : Nat) (w : World) : (binOp .eql 23 (.slice A n c) (.slice none 0 0)).run Try.prog w = .ok (.bool A.isNone) w := by
  exact run_eql_slice_nil w _ _ A n c ents_under
/-- Entries in a row of the call's own. -/
abbrev OwnE (w : World) (B : Nat) (A : Option Addr) (c : Nat) (l : List RE) : Prop := Own w B 45 26 A l.length c (rows ec l)
theorem OwnE.fr {w W : World} {B : Nat} {A : Option Addr} {c : Nat} {l : List RE} (h : OwnE w B A c l) (hF : Fr w W) : OwnE W B A c l := Own.below h hF (Nat.le_refl _)
theorem ents_sz (w : World) : (sizeOf (Try.prog.elem 23)).run Try.prog w = .ok 26 w := by kernel_rfl
theorem ents_el : Try.prog.underlying 23 = some (.slice (Try.prog.elem 23)) := by kernel_rfl
end Go.Proofs.Ytcdcaanmmbopbaa
/- Leaves by places: where a key stands, or would. No program text. -/
namespace Go.Proofs.Ytcdcaanmmbopbaa
set_option maxRecDepth 100000
set_option linter.unusedVariables false
/-- How many stand ahead of c. -/
def posE : List RE → Int → Nat
  | [], _ => 0
  | m :: l, c => if ce m < c then posE l c + 1 else 0
theorem posE_le : ∀ (l : List RE) (c : Int), posE l c ≤ l.length
  | [], _ => Nat.le_refl _
  | m :: l, c => by
    have := posE_le l c
    unfold posE
    split <;> simp <;> omega
theorem posE_lt : ∀ {l : List RE} {c : Int} {t : Nat} {m : RE}, t < posE l c → l[t]? = some m → ce m < c
  | [], c, t, m, h, _ => by simp [posE] at h
  | x :: l, c, t, m, h, hm => by
    unfold posE at h
    split at h
    · rename_i hx
      cases t with
      | zero => simp at hm; subst hm; exact hx
      | succ t => exact posE_lt (l := l) (t := t) (by omega) (by simpa using hm)
    · omega
theorem posE_ge : ∀ {l : List RE} {c : Int} {t : Nat} {m : RE}, OkE l → posE l c ≤ t → l[t]? = some m → c ≤ ce m
  | [], c, t, m, _, h, hm => by simp at hm
  | x :: l, c, t, m, ho, h, hm => by
    unfold posE at h
    split at h
    · cases t with
      | zero => omega
      | succ t => exact posE_ge (l := l) (t := t) ho.tail (by omega) (by simpa using hm)
    · rename_i hx
      cases t with
      | zero => simp at hm; subst hm; omega
      | succ t =>
        have hmem : m ∈ l := by
          obtain ⟨_, e⟩ := List.getElem?_eq_some_iff.1 (show l[t]? = some m by simpa using hm)
          rw [← e]; exact List.getElem_mem _
        have := ho.lt m hmem
        omega
theorem posE_uniq {l : List RE} {c : Int} (h : OkE l) {lo : Nat} (hlo : lo ≤ l.length) (h1 : ∀ t m, t < lo → l[t]? = some m → ce m < c) (h2 : ∀ t m, lo ≤ t → l[t]? = some m → c ≤ ce m) : lo = posE l c := by
  have hp := posE_le l c
  rcases Nat.lt_trichotomy lo (posE l c) with hl | hl | hl
  · have hlen : lo < l.length := by omega
    have a := posE_lt hl (List.getElem?_eq_getElem hlen)
    have b := h2 lo _ (Nat.le_refl _) (List.getElem?_eq_getElem hlen)
    omega
  · exact hl
  · have hlen : posE l c < l.length := by omega
    have a := h1 _ _ hl (List.getElem?_eq_getElem hlen)
    have b := posE_ge h (Nat.le_refl _) (List.getElem?_eq_getElem hlen)
    omega
theorem asc_at {l : List RE} (h : OkE l) {i j : Nat} {a b : RE} (ha : l[i]? = some a) (hb : l[j]? = some b) (hij : i ≤ j) : ce a ≤ ce b := by
  obtain ⟨h1, e1⟩ := List.getElem?_eq_some_iff.1 ha
  obtain ⟨h2, e2⟩ := List.getElem?_eq_some_iff.1 hb
  rcases Nat.lt_or_ge i j with h3 | h3
  · have := List.pairwise_iff_getElem.1 h.asc i j h1 h2 h3
    rw [e1, e2] at this
    omega
  · have : i = j := by omega
    subst this
    rw [e1] at e2
    rw [e2]
    exact Int.le_refl _
theorem efind_pos : ∀ {l : List RE} {k : RK}, OkE l → k.wf → okB k = true → findE l k = (match l[posE l (code k)]? with | some m => if m.key = k then some m.val else none | none => none)
  | [], k, _, _, _ => rfl
  | x :: l, k, h, wk, ok => by
    have hx := h.head
    rw [findE]
    by_cases hlt : ce x < code k
    · have hp : posE (x :: l) (code k) = posE l (code k) + 1 := by rw [posE, if_pos hlt]
      have hne : x.key ≠ k := fun e => by unfold ce at hlt; rw [e] at hlt; omega
      rw [hp, if_neg hne, List.getElem?_cons_succ]
      exact efind_pos h.tail wk ok
    · have hp : posE (x :: l) (code k) = 0 := by rw [posE, if_neg hlt]
      rw [hp, List.getElem?_cons_zero]
      by_cases e : x.key = k
      · simp [e]
      · simp only [if_neg e]
        rw [findE_none]
        intro z hz ez
        have := h.lt z hz
        have : ce z = code k := by unfold ce; rw [ez]
        omega
theorem efind_some {l : List RE} {k : RK} {v : RV} (h : OkE l) (wk : k.wf) (ok : okB k = true) (hf : findE l k = some v) : l[posE l (code k)]? = some ⟨k, v⟩ := by
  rw [efind_pos h wk ok] at hf
  split at hf
  · rename_i x hx
    by_cases e : x.key = k
    · rw [if_pos e] at hf
      injection hf with hf
      subst hf e
      exact hx
    · rw [if_neg e] at hf; cases hf
  · cases hf
/-- An entry changed, taken away, or put in between. -/
theorem setE_pos : ∀ {l : List RE} {k : RK} {o : Option RV}, OkE l → k.wf → okB k = true → setE l k o = (match findE l k, o with
    | some _, some v => l.set (posE l (code k)) ⟨k, v⟩
    | some _, none => l.take (posE l (code k)) ++ l.drop (posE l (code k) + 1)
    | none, some v => l.take (posE l (code k)) ++ ⟨k, v⟩ :: l.drop (posE l (code k))
    | none, none => l)
  | [], k, o, _, _, _ => by cases o <;> rfl
  | x :: l, k, o, h, wk, ok => by
    have hx := h.head
    have hxc : ce x = code x.key := rfl
    rw [findE]
    unfold setE
    by_cases hlt : code x.key < code k
    · have hp : posE (x :: l) (code k) = posE l (code k) + 1 := by rw [posE, if_pos (by rw [hxc]; exact hlt)]
      have hne : x.key ≠ k := fun e => by rw [e] at hlt; omega
      rw [hp, if_pos hlt, if_neg hne, setE_pos h.tail wk ok]
      cases findE l k <;> cases o <;> simp
    · have hp : posE (x :: l) (code k) = 0 := by rw [posE, if_neg (by rw [hxc]; exact hlt)]
      rw [hp, if_neg hlt]
      by_cases e : x.key = k
      · cases o <;> simp [e]
      · have hno : findE l k = none := by
          rw [findE_none]
          intro z hz ez
          have h1 := h.lt z hz
          have : ce z = code k := by unfold ce; rw [ez]
          omega
        cases o <;> simp [e, hno]
theorem setE_pos_len {l : List RE} {k : RK} {o : Option RV} (h : OkE l) (wk : k.wf) (ok : okB k = true) : (setE l k o).length ≤ l.length + 1 := setE_length l k o
theorem bytsE_take {l : List RE} {j : Nat} {m : RE} (h : l[j]? = some m) : bytsE (l.take (j + 1)) = bytsE (l.take j) + bytE m := by
  rw [take_one h, bytsE_app]
  simp [bytsE]
theorem allE_take {l : List RE} {more : List RM} {j : Nat} {m : RM} (h : more[j]? = some m) : allE l (more.take (j + 1)) = putE (allE l (more.take j)) m := by
  rw [take_one h]
  unfold allE
  rw [List.foldl_append]
  rfl
theorem putE_le (l : List RE) (m : RM) : (putE l m).length ≤ l.length + 1 := setE_length _ _ _
theorem allE_le : ∀ (more : List RM) (l : List RE), (allE l more).length ≤ l.length + more.length
  | [], l => by simp [allE]
  | m :: more, l => by
    have h1 := allE_le more (putE l m)
    have h2 := putE_le l m
    have e : allE l (m :: more) = allE (putE l m) more := rfl
    rw [e]
    simp only [List.length_cons]
    omega
/-- The bounds of an entry's size. -/
def SmE (l : List RE) : Prop := ∀ e ∈ l, 0 ≤ e.key.n ∧ e.key.n ≤ 8 ∧ 0 ≤ e.val.n ∧ e.val.n ≤ 16
theorem OkE.sm {l : List RE} (h : OkE l) : SmE l := fun e he => by
  have g := h.good e he
  have h1 := key_bd g.ok
  obtain ⟨m, h2, h3, _⟩ := okV_n g.ov
  omega
theorem bytE_rng {e : RE} (h : 0 ≤ e.key.n ∧ e.key.n ≤ 8 ∧ 0 ≤ e.val.n ∧ e.val.n ≤ 16) : 2 ≤ bytE e ∧ bytE e ≤ 26 := by unfold bytE; omega
theorem bytsE_rng : ∀ {l : List RE}, SmE l → 0 ≤ bytsE l ∧ bytsE l ≤ 26 * (l.length : Int)
  | [], _ => by simp [bytsE]
  | e :: l, h => by
    have h1 := bytE_rng (h e (by simp))
    have h2 := bytsE_rng (l := l) (fun x hx => h x (List.mem_cons_of_mem _ hx))
    rw [bytsE_cons]
    simp only [List.length_cons]
    omega
theorem SmE.sub {l l' : List RE} (h : SmE l) (hs : l'.Sublist l) : SmE l' := fun x hx => h x (hs.subset hx)
end Go.Proofs.Ytcdcaanmmbopbaa
/- Entries in memory: 'slices.Clone', 'slices.Insert'. -/
namespace Go.Proofs.Ytcdcaanmmbopbaa
set_option maxRecDepth 100000
open Go.RowKit
set_option linter.unusedVariables false
attribute [local go_sem ↓] key_ld ent_ld
/-- Where 's[t:]' begins. -/
def lowE (A : Option Addr) (m t : Nat) : Option Addr := if m = t then A else A.map (·.add (t * 26))
theorem lowE_some {g o m t : Nat} (h : t < m) : lowE (some ⟨g, o, none⟩) m t = some ⟨g, o + t * 26, none⟩ := by
  unfold lowE
  rw [if_neg (by omega)]
  simp [Addr.add_lit]
theorem ents_slice_hi (A : Option Addr) (n c t : Nat) (ht : t ≤ c) (W : World) : (Instr.slice 23 (.slice A n c) none (some (.int .i64 (t : Int))) none).run Try.prog W = .ok (.slice A t c) W := by
  rw [run_slice_h (P := Try.prog) (w := W) (t := 23) (ht := ents_el) A n c .i64 (t : Int) (by omega) (by omega), ents_sz]
  have h0 : A.map (·.add 0) = A := by cases A <;> simp [Addr.add]
  simp only [Result.andThen, sliced, Int.toNat_natCast, Nat.zero_mul, h0, Nat.sub_zero, ite_self]
theorem ents_slice_lo (A : Option Addr) (n c t : Nat) (ht : t ≤ n) (W : World) : (Instr.slice 23 (.slice A n c) (some (.int .i64 (t : Int))) none none).run Try.prog W = .ok (.slice (lowE A c t) (n - t) (c - t)) W := by
  rw [run_slice_l (P := Try.prog) (w := W) (t := 23) (ht := ents_el) A n c .i64 (t : Int) (by omega) (by omega), ents_sz]
  simp only [Result.andThen, sliced, Int.toNat_natCast, lowE]
theorem ents_slice_lhm (A : Option Addr) (n c l h m : Nat) (h1 : l ≤ h) (h2 : h ≤ m) (h3 : m ≤ c) (W : World) : (Instr.slice 23 (.slice A n c) (some (.int .i64 (l : Int))) (some (.int .i64 (h : Int))) (some (.int .i64 (m : Int)))).run Try.prog W = .ok (.slice (lowE A m l) (h - l) (m - l)) W := by
  rw [run_slice_lhm (P := Try.prog) (w := W) (t := 23) (ht := ents_el) A n c .i64 .i64 .i64 (l : Int) (h : Int) (m : Int) (by omega) (by omega) (by omega) (by omega), ents_sz]
  simp only [Result.andThen, sliced, Int.toNat_natCast, lowE]
theorem ents_slice_hm (A : Option Addr) (n c h m : Nat) (h2 : h ≤ m) (h3 : m ≤ c) (W : World) : (Instr.slice 23 (.slice A n c) none (some (.int .i64 (h : Int))) (some (.int .i64 (m : Int)))).run Try.prog W = .ok (.slice A h m) W := by
  rw [run_slice_hm (P := Try.prog) (w := W) (t := 23) (ht := ents_el) A n c .i64 .i64 (h : Int) (m : Int) (by omega) (by omega) (by omega), ents_sz]
  have h0 : A.map (·.add 0) = A := by cases A <;> simp [Addr.add]
  simp only [Result.andThen, sliced, Int.toNat_natCast, Nat.zero_mul, h0, Nat.sub_zero, ite_self]
theorem ents_sliceAt (x : Value) (lo hi mx : Option Value) (W : World) : (Instr.sliceAt 23 x lo hi mx).run Try.prog W = (Instr.slice 23 x lo hi mx).run Try.prog W := run_sliceAt_slice (P := Try.prog) (w := W) (h := ents_el) _ _ _ _ _
theorem einsert_math {l : List RE} {m : RE} {i n : Nat} (hi : i < n) (hn : l.length = n) (wl : WfE l) (wm : m.wf) (ys : List Value) (hys : ys.length = 26) :
    (((rows ec l ++ ys).take ((i + 1) * 26) ++ rows ec (l.drop i) ++ (rows ec l ++ ys).drop ((i + 1 + (n - i)) * 26)).take (i * 26) ++ ec m ++ ((rows ec l ++ ys).take ((i + 1) * 26) ++ rows ec (l.drop i) ++ (rows ec l ++ ys).drop ((i + 1 + (n - i)) * 26)).drop ((i + 1) * 26)) = rows ec (l.take i ++ m :: l.drop i) := by
  have hlen : (rows ec l).length = n * 26 := by rw [rows_len wl.wid, hn]
  have e1 : (rows ec l ++ ys).drop ((i + 1 + (n - i)) * 26) = [] := List.drop_eq_nil_of_le (by rw [List.length_append, hlen, hys, mid_len hi]; omega)
  have e2 : ((rows ec l ++ ys).take ((i + 1) * 26)).length = (i + 1) * 26 := by rw [List.length_take, List.length_append, hlen, hys]; omega
  rw [e1, List.append_nil, List.drop_left' e2, List.take_append_of_le_length (by rw [e2]; omega), List.take_take, Nat.min_eq_left (by omega), List.take_append_of_le_length (by rw [hlen]; omega), ← rows_take wl.wid, rows_append, rows_cons, List.append_assoc]
theorem egrow_math {l : List RE} {m : RE} {i n : Nat} (hi : i < n) (hn : l.length = n) (wl : WfE l) (wm : m.wf) (zs : List Value) (hzs : zs.length = (n + 1 - i) * 26) :
    (((rows ec l).take (i * 26) ++ zs).take (i * 26) ++ ec m ++ ((rows ec l).take (i * 26) ++ zs).drop ((i + 1) * 26)).take ((i + 1) * 26) ++ rows ec (l.drop i) ++ (((rows ec l).take (i * 26) ++ zs).take (i * 26) ++ ec m ++ ((rows ec l).take (i * 26) ++ zs).drop ((i + 1) * 26)).drop ((i + 1 + (n - i)) * 26) = rows ec (l.take i ++ m :: l.drop i) := by
  have hlen : (rows ec l).length = n * 26 := by rw [rows_len wl.wid, hn]
  have h1 : ((rows ec l).take (i * 26)).length = i * 26 := by rw [List.length_take, hlen]; omega
  have hm := ec_len wm.val.hl
  have e0 : ((rows ec l).take (i * 26) ++ zs).take (i * 26) = rows ec (l.take i) := by rw [List.take_left' h1, ← rows_take wl.wid]
  have hlt : (rows ec (l.take i)).length = i * 26 := by rw [rows_take wl.wid, h1]
  rw [e0]
  have e1 : (rows ec (l.take i) ++ ec m ++ ((rows ec l).take (i * 26) ++ zs).drop ((i + 1) * 26)).take ((i + 1) * 26) = rows ec (l.take i) ++ ec m := List.take_left' (by rw [List.length_append, hlt, hm]; omega)
  have e2 : (rows ec (l.take i) ++ ec m ++ ((rows ec l).take (i * 26) ++ zs).drop ((i + 1) * 26)).drop ((i + 1 + (n - i)) * 26) = [] := List.drop_eq_nil_of_le (by rw [List.length_append, List.length_append, List.length_drop, List.length_append, hlt, hm, h1, hzs]; omega)
  rw [e1, e2, List.append_nil, rows_append, rows_cons, List.append_assoc]
end Go.Proofs.Ytcdcaanmmbopbaa
