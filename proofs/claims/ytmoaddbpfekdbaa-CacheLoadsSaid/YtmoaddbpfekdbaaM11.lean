/- Entries in memory: 'Check', of both. -/
import Derived.Test.YtmoaddbpfekdbaaM09
import Derived.Test.YtmoaddbpfekdbaaM10
import Derived.Test.YtmoaddbpfekdbaaM08
import Derived.Handy
import Derived.Deep.LoopGhost
import Derived.Deep.RegionHeld3
import Derived.Deep.Slices
import Derived.ProofKit
import Derived.OpenShut
import Derived.ChangeSlices
import Derived.ChangeArms
import Derived.SizedLaws
namespace Go.Proofs.Ytmoaddbpfekdbaa
set_option maxRecDepth 100000
open Go.RowKit
set_option linter.unusedVariables false
attribute [local go_sem ↓] key_ld ent_ld val_ld msg_ld
end Go.Proofs.Ytmoaddbpfekdbaa
/- Entries in memory: 'Check', of both. -/
namespace Go.Proofs.Ytmoaddbpfekdbaa
set_option maxRecDepth 100000
open Go.RowKit
set_option linter.unusedVariables false
attribute [local go_sem ↓] key_ld ent_ld val_ld msg_ld
end Go.Proofs.Ytmoaddbpfekdbaa
/- The document's 'Put' of an entry. -/
namespace Go.Proofs.Ytmoaddbpfekdbaa
set_option maxRecDepth 100000
open Go.RowKit
set_option linter.unusedVariables false
attribute [local go_sem ↓] key_ld ent_ld val_ld msg_ld
theorem ref_eput {w : World} {A : Option Addr} {n c B : Nat} {l : List RE} {m : RM} (hl : Has w B A (rows ec l)) (hB : B ≤ w.heap.size) (hn : l.length = n) (hsm : n ≤ 100000) (ol : OkE l) (wm : m.wf) (om : okM m = true) :
    Calls Try.prog 58 #[.slice A n c, mm m] w fun e w' => ∃ A' c', e = .returned (.slice A' (putE l m).length c') ∧ OwnE w' w.heap.size A' c' (putE l m) ∧ Fr w w' := by
  cases hb : appB m with
  | true => exact ref_eput_is hl hB hn hsm ol wm om hb
  | false => exact ref_eput_no hl hB hn hsm ol wm om hb
end Go.Proofs.Ytmoaddbpfekdbaa
/- Entries in memory: the document's 'All'; where a leaf is split. -/
namespace Go.Proofs.Ytmoaddbpfekdbaa
set_option maxRecDepth 100000
open Go.RowKit
set_option linter.unusedVariables false
attribute [local go_sem ↓] key_ld ent_ld val_ld msg_ld
end Go.Proofs.Ytmoaddbpfekdbaa
/- Entries in memory: 'Split' of the program. -/
namespace Go.Proofs.Ytmoaddbpfekdbaa
set_option maxRecDepth 100000
open Go.RowKit
set_option linter.unusedVariables false
attribute [local go_sem ↓] key_ld ent_ld val_ld msg_ld key_st
end Go.Proofs.Ytmoaddbpfekdbaa
/- Entries in memory: 'Split' of the document. -/
namespace Go.Proofs.Ytmoaddbpfekdbaa
set_option maxRecDepth 100000
open Go.RowKit
set_option linter.unusedVariables false
attribute [local go_sem ↓] key_ld ent_ld val_ld msg_ld key_st
end Go.Proofs.Ytmoaddbpfekdbaa
/- Package 00's 'Entries'. -/
namespace Go.Proofs.Ytmoaddbpfekdbaa
set_option maxRecDepth 100000
open Go.RowKit
set_option linter.unusedVariables false
attribute [local go_sem ↓] key_ld ent_ld val_ld msg_ld msg_st
theorem build_fold_in : ∀ (cs : List Value) (k : Nat) (z : Array Value), k + cs.length ≤ z.size → List.foldl (fun (cs : Array Value) (x : Value × Nat) => cs.setIfInBounds x.snd x.fst) z (cs.zipIdx k) = (z.toList.take k ++ cs ++ z.toList.drop (k + cs.length)).toArray
  | [], k, z, h => by
    simp [List.take_append_drop]
  | v :: cs, k, z, h => by
    simp only [List.length_cons] at h
    have h0 : k < z.toList.length := by simp; omega
    rw [List.zipIdx_cons, List.foldl_cons, build_fold_in cs (k + 1) _ (by simp; omega)]
    congr 1
    simp only [Array.toList_setIfInBounds, List.length_cons]
    rw [List.drop_set_of_lt (by omega), show k + 1 + cs.length = k + (cs.length + 1) by omega]
    congr 1
    rw [List.take_add_one, List.take_set_of_le (by omega), List.getElem?_set_self (by simpa using h0)]
    simp
theorem msg_built (k : RK) {v : RV} (hl : v.bs.length = 16) : List.foldl (fun (cs : Array Value) (x : Value × Nat) => cs.setIfInBounds (11 + x.snd) x.fst) #[.int .i64 1, .int .u64 0, .int .i64 k.n, .int .u8 k.b0, .int .u8 k.b1, .int .u8 k.b2, .int .u8 k.b3, .int .u8 k.b4, .int .u8 k.b5, .int .u8 k.b6, .int .u8 k.b7, .int .i64 0, .int .u8 0, .int .u8 0, .int .u8 0, .int .u8 0, .int .u8 0, .int .u8 0, .int .u8 0, .int .u8 0, .int .u8 0, .int .u8 0, .int .u8 0, .int .u8 0, .int .u8 0, .int .u8 0, .int .u8 0, .int .u8 0, .int .u64 0] (vc v).zipIdx = (mc ⟨1, 0, k, v, 0⟩).toArray := by
  rw [fold_off 11 (vc v) 0, build_fold_in (vc v) (11 + 0) _ (by rw [vc_len hl]; exact (by decide : (28 : Nat) ≤ 29)), vc_len hl]
  rfl
set_option maxHeartbeats 2000000 in
theorem law_ents {w : World} {A : Option Addr} {n c B : Nat} {ns : List Int} {most : Int} (hl : Has w B A (ns.map (Value.int .i64))) (hB : B ≤ w.heap.size) (hn : ns.length = n) (hns : ∀ z ∈ ns, Is64 z) (hmost : 0 ≤ most ∧ most ≤ 1000000) (hnm : n ≤ maxLen) :
    Calls Try.prog 45 #[.slice A n c, .int .i64 most] w fun e w' => ∃ A' c', e = .returned (.slice A' (entsL ns most).length c') ∧ OwnE w' w.heap.size A' c' (entsL ns most) ∧ Fr w w' := by
  have Hl := keep hl
  have Hn := keep hn
  have Hns := keep hns
  have hnm2 : (n : Int) ≤ 9223372036854775807 := by simp only [maxLen] at hnm; omega
  clear hl hn hns
  go_enter Try.func45, Try.ntmps45
  go_wp2_with fail
  go_loopg [5, 6] 80 (fun g s5 s6 wr => ∃ (j : Nat) (A' : Option Addr) (n' c' : Nat), j ≤ 80 ∧ 80 - j ≤ g ∧ j ≤ n ∧ s6 = .int .i64 j ∧ s5 = .slice A' n' c' ∧ Hid ((entsJ ns most j).length = n') ∧ Hid (OwnE wr w.heap.size A' c' (entsJ ns most j)) ∧ Hid (Fr w wr))
  case atStart => exact ⟨0, none, 0, 0, by omega, by omega, by omega, rfl, rfl, keep rfl, keep (Own.nil _ _ _ _), keep (fr_refl w)⟩
  case round =>
    obtain ⟨j, A', n', c', hj60, hjg, hjn, rfl, rfl, Hn', hO, hF⟩ := hrel
    have hlen := entsJ_len ns most j
    rw [Hn'.out] at hlen
    by_cases hlt : j < n
    · have hjz : (j : Int) < (n : Int) := by omega
      by_cases h60 : j < 80
      · have h60z : (j : Int) < 80 := by omega
        have hv : ns[j]? = some (ns[j]'(by rw [Hn.out]; exact hlt)) := List.getElem?_eq_getElem _
        generalize ns[j]'(by rw [Hn.out]; exact hlt) = v at hv
        obtain ⟨b, off, rfl, hb1, hx⟩ := int_at Hl.out hv
        have iv : Is64 v := Hns.out v (List.mem_of_getElem? hv)
        have hF1 := hF.out
        have hrr := fr_refl wr
        have cell : wr.cell? ⟨b, off + j, none⟩ = some (.int .i64 v) := (hF1.cell (by show b < w.heap.size; omega)).trans hx
        have cP := fun W h => law_pl (W0 := wr) (W := W) iv h
        have hplt := pl_lt v
        have cK := fun W h => law_key_at (W0 := wr) (W := W) (v := ((pl v : Nat) : Int)) (by unfold Is64; omega) h
        have hdiv : ((pl v : Nat) : Int).tdiv 16 = ((pl v / 16 : Nat) : Int) := rfl
        have cV := fun W h => law_value_at (W0 := wr) (W := W) (v := ((pl v / 16 : Nat) : Int)) (by unfold Is64; omega) h
        have hdlt : pl v / 16 < 1099511627776 := by omega
        have wm := lawP_wf v
        have om := lawP_ok v
        have wk := lawK_wf ((pl v : Nat) : Int)
        have wv := lawV_wf ((pl v / 16 : Nat) : Int)
        have hfm := msg_built (lawK ((pl v : Nat) : Int)) wv.hl
        have hlv : (vc (lawV ((pl v / 16 : Nat) : Int))).length = 17 := vc_len wv.hl
        have hstep : entsJ ns most (j + 1) = if bytsE (putE (entsJ ns most j) (lawP v)) ≤ most then putE (entsJ ns most j) (lawP v) else entsJ ns most j := by
          have e : ns.getD j 0 = v := by simp [List.getD, hv]
          rw [entsJ, e]
        have Hstep := keep hstep
        have ol := entsJ_ok ns most j
        have ol2 := putE_ok ol wm om
        have hpm : (mc ⟨1, 0, lawK ((pl v : Nat) : Int), lawV ((pl v / 16 : Nat) : Int), 0⟩).toArray = (mc (lawP v)).toArray := rfl
        rw [hpm] at hfm
        generalize lawP v = m at *
        generalize entsJ ns most j = q at *
        generalize lawK ((pl v : Nat) : Int) = k at *
        generalize lawV ((pl v / 16 : Nat) : Int) = y at *
        generalize pl v / 16 = d at *
        generalize pl v = p at *
        have hle := putE_le q m
        rw [Hn'.out] at hle
        have hby := bytsE_rng ol2.sm
        have cA : ∀ W, Fr wr W → Calls Try.prog 58 #[.slice A' n' c', mm m] W fun e w' => ∃ A2 c2, e = .returned (.slice A2 (putE q m).length c2) ∧ Hid (OwnE w' w.heap.size A2 c2 (putE q m)) ∧ Fr wr w' := fun W hW =>
          (ref_eput (c := c') (hO.out.fr hW).has (Nat.le_refl _) Hn'.out (by omega) ol wm om).mono fun e w' h => by
            obtain ⟨A2, c2, e1, h1, h2⟩ := h
            exact ⟨A2, c2, e1, keep (h1.mono (Nat.le_trans hF1.size hW.size)), fr_step hW h2⟩
        have cB : ∀ W A2 c2, Hid (OwnE W w.heap.size A2 c2 (putE q m)) → Calls Try.prog 61 #[.slice A2 (putE q m).length c2] W fun e w' => e = .returned (.int .i64 (bytsE (putE q m))) ∧ Fr W w' := fun W A2 c2 ho =>
          ref_ebytes ho.out.has (Nat.le_refl _) rfl (by omega) ol2.wfe ol2.sm
        generalize hq2 : putE q m = q2 at *
        clear hv hx hlt wm om ol ol2 hstep hq2 h60 wk wv hpm
        by_cases hfit : bytsE q2 ≤ most
        · have Hs : Hid (entsJ ns most (j + 1) = q2) := keep (by rw [Hstep.out, if_pos hfit])
          generalize bytsE q2 = t at *
          generalize hk2 : q2.length = k2 at *
          have Hk2 := keep hk2
          clear hk2
          go_wp2_with (first
            | (go_at_call 19; (with_reducible refine (cP _ hrr).mono ?_); rintro e w1 ⟨rfl, hz1⟩)
            | (go_at_call 59; (with_reducible refine (cK _ hz1).mono ?_); rintro e w2 ⟨rfl, hz2⟩)
            | (go_at_call 60; (with_reducible refine (cV _ hz2).mono ?_); rintro e w3 ⟨rfl, hz3⟩)
            | (go_at_call 58; (with_reducible refine (cA _ hz3).mono ?_); rintro e w4 ⟨A2, c2, rfl, ho2, hz4⟩)
            | (go_at_call 61; (with_reducible refine (cB _ _ _ ho2).mono ?_); rintro e w5 ⟨rfl, hz5⟩)
            | fail)
          go_roundg (gk - 1)
          case measure => omega
          case rel => exact ⟨j + 1, A2, k2, c2, by omega, by omega, by omega, rfl, rfl, by rw [Hs.out]; exact Hk2, by rw [Hs.out]; exact keep (ho2.out.fr hz5), keep (fr_step hF1 (fr_step hz4 hz5))⟩
        · have Hs : Hid (entsJ ns most (j + 1) = q) := keep (by rw [Hstep.out, if_neg hfit])
          generalize bytsE q2 = t at *
          generalize hk2 : q2.length = k2 at *
          clear hk2
          go_wp2_with (first
            | (go_at_call 19; (with_reducible refine (cP _ hrr).mono ?_); rintro e w1 ⟨rfl, hz1⟩)
            | (go_at_call 59; (with_reducible refine (cK _ hz1).mono ?_); rintro e w2 ⟨rfl, hz2⟩)
            | (go_at_call 60; (with_reducible refine (cV _ hz2).mono ?_); rintro e w3 ⟨rfl, hz3⟩)
            | (go_at_call 58; (with_reducible refine (cA _ hz3).mono ?_); rintro e w4 ⟨A2, c2, rfl, ho2, hz4⟩)
            | (go_at_call 61; (with_reducible refine (cB _ _ _ ho2).mono ?_); rintro e w5 ⟨rfl, hz5⟩)
            | fail)
          go_roundg (gk - 1)
          case measure => omega
          case rel => exact ⟨j + 1, A', n', c', by omega, by omega, by omega, rfl, rfl, by rw [Hs.out]; exact Hn', by rw [Hs.out]; exact keep (hO.out.fr (fr_step hz4 hz5)), keep (fr_step hF1 (fr_step hz4 hz5))⟩
      · have h60z : ¬ (j : Int) < 80 := by omega
        have He : Hid (entsL ns most = entsJ ns most j) := keep (by unfold entsL; rw [Hn.out, show min n 80 = j by omega])
        clear hlt h60
        go_wp2_with fail
        go_ret
        rw [He.out, Hn'.out]
        exact ⟨A', c', rfl, hO.out, hF.out⟩
    · have hjz : ¬ (j : Int) < (n : Int) := by omega
      have He : Hid (entsL ns most = entsJ ns most j) := keep (by unfold entsL; rw [Hn.out, show min n 80 = j by omega])
      clear hlt
      go_wp2_with fail
      go_ret
      rw [He.out, Hn'.out]
      exact ⟨A', c', rfl, hO.out, hF.out⟩
end Go.Proofs.Ytmoaddbpfekdbaa
/- 'awake' of layer 7; 'same'. -/
namespace Go.Proofs.Ytmoaddbpfekdbaa
set_option maxRecDepth 100000
open Go.RowKit
set_option linter.unusedVariables false
attribute [local go_sem ↓] key_ld ent_ld val_ld msg_ld msg_st
end Go.Proofs.Ytmoaddbpfekdbaa
/- Entries that came in. -/
namespace Go.Proofs.Ytmoaddbpfekdbaa
set_option maxRecDepth 100000
open Go.RowKit Go.ChangeShapes Go.WideShapes Go.Deep
set_option linter.unusedVariables false
section
variable {H : Type} {enc : TypeId × Value → H} {w : World} {base : Nat} {spare : Nat → Bool} {held : Bool}
end
end Go.Proofs.Ytmoaddbpfekdbaa
/- The laws of layer 7, walked: what they have in common. -/
namespace Go.Proofs.Ytmoaddbpfekdbaa
set_option maxRecDepth 100000
open Go.RowKit
set_option linter.unusedVariables false
end Go.Proofs.Ytmoaddbpfekdbaa
/- What the functions of entries do to rows of the call's own, in few words: for the walks of laws. -/
namespace Go.Proofs.Ytmoaddbpfekdbaa
set_option maxRecDepth 100000
open Go.RowKit
set_option linter.unusedVariables false
section
variable {W : World} {A A2 : Option Addr} {c c2 : Nat} {l l2 : List RE} {m : RM} {k : RK} {ms : List RM}
end
end Go.Proofs.Ytmoaddbpfekdbaa
/- 'Split' of both, with one answer for all leaves; reads of the rows of laws. -/
namespace Go.Proofs.Ytmoaddbpfekdbaa
set_option maxRecDepth 100000
open Go.RowKit
set_option linter.unusedVariables false
def spl1 (l : List RE) : List RE := if l.length < 2 then [] else l.take (splE l)
def spl2 (l : List RE) : List RE := if l.length < 2 then [] else l.drop (splE l)
def splK (l : List RE) : RK := if l.length < 2 then zeroK else ((l.drop (splE l)).headD zeroE).key
def splB (l : List RE) : Bool := if l.length < 2 then false else true
section
variable {W : World} {A A2 : Option Addr} {c c2 : Nat} {l : List RE}
end
end Go.Proofs.Ytmoaddbpfekdbaa
/- Nodes as values: their five cells, what they hold in memory, what is valid; the kind of a node. -/
namespace Go.Proofs.Ytmoaddbpfekdbaa
set_option maxRecDepth 100000
open Go.RowKit
set_option linter.unusedVariables false
attribute [local go_sem ↓] key_ld msg_ld
/-- What a node holds. -/
structure RN where
  lf : Bool
  es : List RE
  ks : List Int
  ps : List RK
  ms : List RM
/-- The five cells of a node. -/
structure NV where
  lf : Bool
  A1 : Option Addr
  n1 : Nat
  c1 : Nat
  A2 : Option Addr
  n2 : Nat
  c2 : Nat
  A3 : Option Addr
  n3 : Nat
  c3 : Nat
  A4 : Option Addr
  n4 : Nat
  c4 : Nat
def NV.cells (v : NV) : List Value := [.bool v.lf, .slice v.A1 v.n1 v.c1, .slice v.A2 v.n2 v.c2, .slice v.A3 v.n3 v.c3, .slice v.A4 v.n4 v.c4]
def nv (v : NV) : Value := .agg v.cells.toArray
/-- The cells of v hold what n holds, in blocks below B. -/
structure NH (W : World) (B : Nat) (v : NV) (n : RN) : Prop where
  lf : v.lf = n.lf
  hB : B ≤ W.heap.size
  h1 : Has W B v.A1 (rows ec n.es)
  l1 : n.es.length = v.n1
  s1 : v.n1 ≤ 100000
  w1 : WfE n.es
  h2 : Has W B v.A2 (ints n.ks)
  l2 : n.ks.length = v.n2
  k2 : v.n2 ≤ v.c2
  s2 : v.n2 ≤ 100000
  h3 : Has W B v.A3 (rows kc n.ps)
  l3 : n.ps.length = v.n3
  s3 : v.n3 ≤ 100000
  w3 : WfK n.ps
  h4 : Has W B v.A4 (rows mc n.ms)
  l4 : n.ms.length = v.n4
  k4 : v.n4 ≤ v.c4
  s4 : v.n4 ≤ 100000
  w4 : WfM n.ms
theorem NH.fr {W W' : World} {B : Nat} {v : NV} {n : RN} (h : NH W B v n) (hF : Fr W W') : NH W' B v n :=
  { h with hB := Nat.le_trans h.hB hF.size, h1 := h.h1.fr h.hB hF, h2 := h.h2.fr h.hB hF, h3 := h.h3.fr h.hB hF, h4 := h.h4.fr h.hB hF }
/-- Is a node valid? -/
def OkN (n : RN) : Prop := (n.lf = true ∧ n.ks = [] ∧ n.ps = [] ∧ n.ms = [] ∧ OkE n.es) ∨ (n.lf = false ∧ n.es = [] ∧ KidsOk n.ks ∧ n.ps.length + 1 = n.ks.length ∧ OkP n.ps ∧ OkL n.ms)
def bytN (n : RN) : Int := if n.lf then bytsE n.es else bytL n.ms
def rmN (n : RN) : Int := if n.lf then 248 else 205
theorem nod_info : (Try.prog.info? 41).map (·.size) = some 5 := by kernel_rfl
theorem nodS : Sty Try.prog 41 5 := ⟨nod_info, _, Try.underlying41, rfl⟩
theorem nod_ld (p : Value) : Instr.loadAt 41 p = ldS 41 p := rfl
section
variable {A1 : Option Addr} {n1 c1 : Nat} {A2 : Option Addr} {n2 c2 : Nat} {A3 : Option Addr} {n3 c3 : Nat} {A4 : Option Addr} {n4 c4 : Nat}
end
end Go.Proofs.Ytmoaddbpfekdbaa
/- The program's functions of nodes, given what the layers below tell. -/
namespace Go.Proofs.Ytmoaddbpfekdbaa
set_option maxRecDepth 100000
open Go.RowKit
set_option linter.unusedVariables false
section
variable {A1 : Option Addr} {n1 c1 : Nat} {A2 : Option Addr} {n2 c2 : Nat} {A3 : Option Addr} {n3 c3 : Nat} {A4 : Option Addr} {n4 c4 : Nat}
section
attribute [local go_sem ↓] nod_ld
end
section
attribute [local go_sem ↓] nod_ld
end
/-- A row of weights, j of them told. -/
def wJ (wt : Nat → Int) (n j : Nat) : List Int := (List.range n).map fun i => if i < j then wt i else 0
/-- f: the first place of the greatest of the first j numbers, m; none is above 0: -1 and 0. -/
def TopI (l : List Int) (j : Nat) (f m : Int) : Prop :=
  (f = -1 ∧ m = 0 ∧ ∀ i x, i < j → l[i]? = some x → x ≤ 0) ∨ (∃ a : Nat, f = (a : Int) ∧ a < j ∧ l[a]? = some m ∧ 0 < m ∧ (∀ i x, i < j → l[i]? = some x → x ≤ m) ∧ (∀ i x, i < a → l[i]? = some x → x < m))
section
end
end
end Go.Proofs.Ytmoaddbpfekdbaa
/- The document's functions of nodes, given what the layers below tell; Same. -/
namespace Go.Proofs.Ytmoaddbpfekdbaa
set_option maxRecDepth 100000
open Go.RowKit
set_option linter.unusedVariables false
section
variable {A1 : Option Addr} {n1 c1 : Nat} {A2 : Option Addr} {n2 c2 : Nat} {A3 : Option Addr} {n3 c3 : Nat} {A4 : Option Addr} {n4 c4 : Nat}
section
variable {B1 : Option Addr} {m1 d1 : Nat} {B2 : Option Addr} {m2 d2 : Nat} {B3 : Option Addr} {m3 d3 : Nat} {B4 : Option Addr} {m4 d4 : Nat}
end
section
attribute [local go_sem ↓] nod_ld
end
end
end Go.Proofs.Ytmoaddbpfekdbaa
/- slices.Equal at entries, numbers, keys and messages. -/
namespace Go.Proofs.Ytmoaddbpfekdbaa
set_option maxRecDepth 100000
open Go.RowKit
set_option linter.unusedVariables false
attribute [local go_sem ↓] key_ld ent_ld val_ld msg_ld
end Go.Proofs.Ytmoaddbpfekdbaa
/- The document's Part. -/
namespace Go.Proofs.Ytmoaddbpfekdbaa
set_option maxRecDepth 100000
open Go.RowKit
set_option linter.unusedVariables false
attribute [local go_sem ↓] key_ld msg_ld msg_st
def btw (ps : List RK) (i : Nat) (l : List RM) : List RM := l.filter fun m => betw (ps.map code) i (cd m)
end Go.Proofs.Ytmoaddbpfekdbaa
/- What the functions of nodes tell, of the program and of the document. -/
namespace Go.Proofs.Ytmoaddbpfekdbaa
set_option maxRecDepth 100000
open Go.RowKit
set_option linter.unusedVariables false
theorem okN_leaf {n : RN} (h : n.lf = true) : OkN n ↔ n.ks.length = 0 ∧ n.ps.length = 0 ∧ n.ms.length = 0 ∧ OkE n.es := by
  unfold OkN
  simp [h]
/-- A child's weight. -/
def wtN (n : RN) (i : Nat) : Int := bytL (partL n.ms n.ps i)
/-- All weights. -/
def wtsN (n : RN) : List Int := if n.lf then [] else (List.range n.ks.length).map (wtN n)
section
variable {W : World} {B : Nat} {v : NV} {n : RN}
theorem OkN.sm (h : OkN n) : n.lf = true → SmE n.es := fun hl => ((okN_leaf hl).1 h).2.2.2.sm
/-- Is a node heavy? -/
def hvN (n : RN) : Bool := if n.lf then false else decide (205 ≤ 2 * bytL n.ms)
/-- Are two nodes the same? -/
def smN (a b : RN) : Bool := a.lf == b.lf && (decide (a.es = b.es) && (decide (a.ks = b.ks) && (decide (a.ps = b.ps) && decide (a.ms = b.ms))))
end
end Go.Proofs.Ytmoaddbpfekdbaa
/- Rows of keys that came in; rows of numbers with their room. -/
namespace Go.Proofs.Ytmoaddbpfekdbaa
set_option maxRecDepth 100000
open Go.RowKit Go.ChangeShapes Go.WideShapes Go.Deep
set_option linter.unusedVariables false
section
variable {H : Type} {enc : TypeId × Value → H} {w : World} {base : Nat} {spare : Nat → Bool} {held : Bool}
end
end Go.Proofs.Ytmoaddbpfekdbaa
/- Nodes by numbers (package 00's Leaf and Inner): what they hold; the greatest weight. -/
namespace Go.Proofs.Ytmoaddbpfekdbaa
set_option maxRecDepth 100000
open Go.RowKit
set_option linter.unusedVariables false
/-- The leaf, the inner node by numbers. -/
def leafN (ns : List Int) : RN := ⟨true, entsL ns 248, [], [], []⟩
def innN (ns : List Int) (f : Int) (ms : List Int) : RN := ⟨false, [], kidsL (pivsL (16 :: ns) 3).length f, pivsL (16 :: ns) 3, msgsL ms 205⟩
theorem nv_one (v : NV) : One v.cells := fun x hx => by
  simp only [NV.cells, List.mem_cons, List.not_mem_nil, or_false] at hx
  rcases hx with rfl | rfl | rfl | rfl | rfl <;> rfl
/-- The cells of no node. -/
def zeroNV : NV := ⟨false, none, 0, 0, none, 0, 0, none, 0, 0, none, 0, 0⟩
def zeroN : RN := ⟨false, [], [], [], []⟩
attribute [local go_sem ↓] key_ld msg_ld nod_ld
/-- package 00's Leaf. -/
theorem q_leaf {w : World} {A : Option Addr} {n c B : Nat} {ns : List Int} (hl : Has w B A (ns.map (Value.int .i64))) (hB : B ≤ w.heap.size) (hn : ns.length = n) (hns : ∀ z ∈ ns, Is64 z) (hnm : n ≤ maxLen) :
    Calls Try.prog 27 #[.slice A n c] w fun e w' => ∃ v, e = .returned (nv v) ∧ Hid (NH w' w'.heap.size v (leafN ns)) ∧ Fr w w' := by
  obtain ⟨Z, hZ, hF, hZZ, hG⟩ : ∃ Z, w.alloc (.cells #[.bool false, .slice none 0 0, .slice none 0 0, .slice none 0 0, .slice none 0 0] 41) = Z ∧ Fr w Z ∧ Fr Z Z ∧ Arr Z w.heap.size 41 zeroNV.cells.toArray := ⟨_, rfl, fr_new (fr_refl w) _, fr_refl _, Arr.new _ _ _⟩
  have cE := law_ents (w := Z) (c := c) (most := 248) (hl.fr hB hF) (Nat.le_trans hB hF.size) hn hns (by omega) hnm
  have hlen := entsL_len ns 248
  have ho := entsL_ok ns 248
  unfold leafN
  generalize entsL ns 248 = l at *
  clear hl hns hn
  go_enter Try.func27, Try.ntmps27
  go_wp2_with fail
  refine cE.mono ?_
  rintro e v1 ⟨A1, d1, rfl, hO, f1⟩
  have hG1 := hG.below f1 hG.lt
  have hz := hF.size
  have hlt := hG.lt
  have tok : Hid (0 < 1) := keep (by decide)
  go_wp2_with (first
    | (clear tok; refine wpList_store_at (ds := NV.cells ⟨true, A1, l.length, d1, none, 0, 0, none, 0, 0, none, 0, 0⟩) nod_info rfl (.tmp 2) (.tmp 5) rfl w.heap.size 0 rfl rfl rfl (nv_one _) hG1 (by decide) (splice_all _ _ (Nat.le_of_eq rfl)) ?_; intro W8 hM8 hk8)
    | fail)
  refine bodyPost_ret (nodS.result rfl _ w.heap.size rfl rfl hM8) rfl ?_
  have hO8 := own_kept hO hk8 (by omega)
  refine ⟨⟨true, A1, l.length, d1, none, 0, 0, none, 0, 0, none, 0, 0⟩, rfl, keep ?_, hk8.fr (fr_step hF f1) (Nat.le_refl _)⟩
  exact ⟨rfl, Nat.le_refl _, hO8.has, rfl, by simp only; omega, ho.wfe, Has.nil, rfl, Nat.le_refl _, by simp, Has.nil, rfl, by simp, by intro m hm; simp at hm, Has.nil, rfl, Nat.le_refl _, by simp, by intro m hm; simp at hm⟩
end Go.Proofs.Ytmoaddbpfekdbaa
