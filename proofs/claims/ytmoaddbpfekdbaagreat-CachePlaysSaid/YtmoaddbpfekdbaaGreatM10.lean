/- Entries in memory: 'Check', of both. -/
import Derived.Test.YtmoaddbpfekdbaaGreatM08
import Derived.Test.YtmoaddbpfekdbaaGreatM09
import Derived.Test.YtmoaddbpfekdbaaGreatM07
import Derived.Handy
import Derived.Deep.LoopGhost
import Derived.Deep.RegionHeld3
namespace Go.Proofs.YtmoaddbpfekdbaaGreat
set_option maxRecDepth 100000
open Go.RowKit
set_option linter.unusedVariables false
attribute [local go_sem ↓] key_ld ent_ld val_ld msg_ld
end Go.Proofs.YtmoaddbpfekdbaaGreat
/- Entries in memory: 'Check', of both. -/
namespace Go.Proofs.YtmoaddbpfekdbaaGreat
set_option maxRecDepth 100000
open Go.RowKit
set_option linter.unusedVariables false
attribute [local go_sem ↓] key_ld ent_ld val_ld msg_ld
end Go.Proofs.YtmoaddbpfekdbaaGreat
/- The document's 'Put' of an entry. -/
namespace Go.Proofs.YtmoaddbpfekdbaaGreat
set_option maxRecDepth 100000
open Go.RowKit
set_option linter.unusedVariables false
attribute [local go_sem ↓] key_ld ent_ld val_ld msg_ld
theorem ref_eput {w : World} {A : Option Addr} {n c B : Nat} {l : List RE} {m : RM} (hl : Has w B A (rows ec l)) (hB : B ≤ w.heap.size) (hn : l.length = n) (hsm : n ≤ 100000) (ol : OkE l) (wm : m.wf) (om : okM m = true) :
    Calls Tryz.prog 78 #[.slice A n c, mm m] w fun e w' => ∃ A' c', e = .returned (.slice A' (putE l m).length c') ∧ OwnE w' w.heap.size A' c' (putE l m) ∧ Fr w w' := by
  cases hb : appB m with
  | true => exact ref_eput_is hl hB hn hsm ol wm om hb
  | false => exact ref_eput_no hl hB hn hsm ol wm om hb
end Go.Proofs.YtmoaddbpfekdbaaGreat
/- Entries in memory: the document's 'All'; where a leaf is split. -/
namespace Go.Proofs.YtmoaddbpfekdbaaGreat
set_option maxRecDepth 100000
open Go.RowKit
set_option linter.unusedVariables false
attribute [local go_sem ↓] key_ld ent_ld val_ld msg_ld
end Go.Proofs.YtmoaddbpfekdbaaGreat
/- Entries in memory: 'Split' of the program. -/
namespace Go.Proofs.YtmoaddbpfekdbaaGreat
set_option maxRecDepth 100000
open Go.RowKit
set_option linter.unusedVariables false
attribute [local go_sem ↓] key_ld ent_ld val_ld msg_ld key_st
end Go.Proofs.YtmoaddbpfekdbaaGreat
/- Entries in memory: 'Split' of the document. -/
namespace Go.Proofs.YtmoaddbpfekdbaaGreat
set_option maxRecDepth 100000
open Go.RowKit
set_option linter.unusedVariables false
attribute [local go_sem ↓] key_ld ent_ld val_ld msg_ld key_st
end Go.Proofs.YtmoaddbpfekdbaaGreat
/- Package 00's 'Entries'. -/
namespace Go.Proofs.YtmoaddbpfekdbaaGreat
set_option maxRecDepth 100000
open Go.RowKit
set_option linter.unusedVariables false
attribute [local go_sem ↓] key_ld ent_ld val_ld msg_ld msg_st
theorem build_fold_in : ∀ (cs : List Value) (k : Nat) (z : Array Value), k + cs.length ≤ z.size → List.foldl (fun (cs : Array Value) (x : Value × Nat) => cs.setIfInBounds x.snd x.fst) z (cs.zipIdx k) = (z.toList.take k ++ cs ++ z.toList.drop (k + cs.length)).toArray
  | [], k, z, h => by
    simp [List.take_append_drop]
  | v :: cs, k, z, h => by
    simp only [List.length_cons] at h
    have h0 : k < z.toList.length := by simp; omega
    rw [List.zipIdx_cons, List.foldl_cons, build_fold_in cs (k + 1) _ (by simp; omega)]
    congr 1
    simp only [Array.toList_setIfInBounds, List.length_cons]
    rw [List.drop_set_of_lt (by omega), show k + 1 + cs.length = k + (cs.length + 1) by omega]
    congr 1
    rw [List.take_add_one, List.take_set_of_le (by omega), List.getElem?_set_self (by simpa using h0)]
    simp
theorem msg_built (k : RK) {v : RV} (hl : v.bs.length = 16) : List.foldl (fun (cs : Array Value) (x : Value × Nat) => cs.setIfInBounds (11 + x.snd) x.fst) #[.int .i64 1, .int .u64 0, .int .i64 k.n, .int .u8 k.b0, .int .u8 k.b1, .int .u8 k.b2, .int .u8 k.b3, .int .u8 k.b4, .int .u8 k.b5, .int .u8 k.b6, .int .u8 k.b7, .int .i64 0, .int .u8 0, .int .u8 0, .int .u8 0, .int .u8 0, .int .u8 0, .int .u8 0, .int .u8 0, .int .u8 0, .int .u8 0, .int .u8 0, .int .u8 0, .int .u8 0, .int .u8 0, .int .u8 0, .int .u8 0, .int .u8 0, .int .u64 0] (vc v).zipIdx = (mc ⟨1, 0, k, v, 0⟩).toArray := by
  rw [fold_off 11 (vc v) 0, build_fold_in (vc v) (11 + 0) _ (by rw [vc_len hl]; exact (by decide : (28 : Nat) ≤ 29)), vc_len hl]
  rfl
set_option maxHeartbeats 2000000 in
theorem law_ents {w : World} {A : Option Addr} {n c B : Nat} {ns : List Int} {most : Int} (hl : Has w B A (ns.map (Value.int .i64))) (hB : B ≤ w.heap.size) (hn : ns.length = n) (hns : ∀ z ∈ ns, Is64 z) (hmost : 0 ≤ most ∧ most ≤ 1000000) (hnm : n ≤ maxLen) :
    Calls Tryz.prog 57 #[.slice A n c, .int .i64 most] w fun e w' => ∃ A' c', e = .returned (.slice A' (entsL ns most).length c') ∧ OwnE w' w.heap.size A' c' (entsL ns most) ∧ Fr w w' := by
  have Hl := keep hl
  have Hn := keep hn
  have Hns := keep hns
  have hnm2 : (n : Int) ≤ 9223372036854775807 := by simp only [maxLen] at hnm; omega
  clear hl hn hns
  go_enter Tryz.func57, Tryz.ntmps57
  go_wp2_with fail
  go_loopg [5, 6] 80 (fun g s5 s6 wr => ∃ (j : Nat) (A' : Option Addr) (n' c' : Nat), j ≤ 80 ∧ 80 - j ≤ g ∧ j ≤ n ∧ s6 = .int .i64 j ∧ s5 = .slice A' n' c' ∧ Hid ((entsJ ns most j).length = n') ∧ Hid (OwnE wr w.heap.size A' c' (entsJ ns most j)) ∧ Hid (Fr w wr))
  case atStart => exact ⟨0, none, 0, 0, by omega, by omega, by omega, rfl, rfl, keep rfl, keep (Own.nil _ _ _ _), keep (fr_refl w)⟩
  case round =>
    obtain ⟨j, A', n', c', hj60, hjg, hjn, rfl, rfl, Hn', hO, hF⟩ := hrel
    have hlen := entsJ_len ns most j
    rw [Hn'.out] at hlen
    by_cases hlt : j < n
    · have hjz : (j : Int) < (n : Int) := by omega
      by_cases h60 : j < 80
      · have h60z : (j : Int) < 80 := by omega
        have hv : ns[j]? = some (ns[j]'(by rw [Hn.out]; exact hlt)) := List.getElem?_eq_getElem _
        generalize ns[j]'(by rw [Hn.out]; exact hlt) = v at hv
        obtain ⟨b, off, rfl, hb1, hx⟩ := int_at Hl.out hv
        have iv : Is64 v := Hns.out v (List.mem_of_getElem? hv)
        have hF1 := hF.out
        have hrr := fr_refl wr
        have cell : wr.cell? ⟨b, off + j, none⟩ = some (.int .i64 v) := (hF1.cell (by show b < w.heap.size; omega)).trans hx
        have cP := fun W h => law_pl (W0 := wr) (W := W) iv h
        have hplt := pl_lt v
        have cK := fun W h => law_key_at (W0 := wr) (W := W) (v := ((pl v : Nat) : Int)) (by unfold Is64; omega) h
        have hdiv : ((pl v : Nat) : Int).tdiv 16 = ((pl v / 16 : Nat) : Int) := rfl
        have cV := fun W h => law_value_at (W0 := wr) (W := W) (v := ((pl v / 16 : Nat) : Int)) (by unfold Is64; omega) h
        have hdlt : pl v / 16 < 1099511627776 := by omega
        have wm := lawP_wf v
        have om := lawP_ok v
        have wk := lawK_wf ((pl v : Nat) : Int)
        have wv := lawV_wf ((pl v / 16 : Nat) : Int)
        have hfm := msg_built (lawK ((pl v : Nat) : Int)) wv.hl
        have hlv : (vc (lawV ((pl v / 16 : Nat) : Int))).length = 17 := vc_len wv.hl
        have hstep : entsJ ns most (j + 1) = if bytsE (putE (entsJ ns most j) (lawP v)) ≤ most then putE (entsJ ns most j) (lawP v) else entsJ ns most j := by
          have e : ns.getD j 0 = v := by simp [List.getD, hv]
          rw [entsJ, e]
        have Hstep := keep hstep
        have ol := entsJ_ok ns most j
        have ol2 := putE_ok ol wm om
        have hpm : (mc ⟨1, 0, lawK ((pl v : Nat) : Int), lawV ((pl v / 16 : Nat) : Int), 0⟩).toArray = (mc (lawP v)).toArray := rfl
        rw [hpm] at hfm
        generalize lawP v = m at *
        generalize entsJ ns most j = q at *
        generalize lawK ((pl v : Nat) : Int) = k at *
        generalize lawV ((pl v / 16 : Nat) : Int) = y at *
        generalize pl v / 16 = d at *
        generalize pl v = p at *
        have hle := putE_le q m
        rw [Hn'.out] at hle
        have hby := bytsE_rng ol2.sm
        have cA : ∀ W, Fr wr W → Calls Tryz.prog 78 #[.slice A' n' c', mm m] W fun e w' => ∃ A2 c2, e = .returned (.slice A2 (putE q m).length c2) ∧ Hid (OwnE w' w.heap.size A2 c2 (putE q m)) ∧ Fr wr w' := fun W hW =>
          (ref_eput (c := c') (hO.out.fr hW).has (Nat.le_refl _) Hn'.out (by omega) ol wm om).mono fun e w' h => by
            obtain ⟨A2, c2, e1, h1, h2⟩ := h
            exact ⟨A2, c2, e1, keep (h1.mono (Nat.le_trans hF1.size hW.size)), fr_step hW h2⟩
        have cB : ∀ W A2 c2, Hid (OwnE W w.heap.size A2 c2 (putE q m)) → Calls Tryz.prog 81 #[.slice A2 (putE q m).length c2] W fun e w' => e = .returned (.int .i64 (bytsE (putE q m))) ∧ Fr W w' := fun W A2 c2 ho =>
          ref_ebytes ho.out.has (Nat.le_refl _) rfl (by omega) ol2.wfe ol2.sm
        generalize hq2 : putE q m = q2 at *
        clear hv hx hlt wm om ol ol2 hstep hq2 h60 wk wv hpm
        by_cases hfit : bytsE q2 ≤ most
        · have Hs : Hid (entsJ ns most (j + 1) = q2) := keep (by rw [Hstep.out, if_pos hfit])
          generalize bytsE q2 = t at *
          generalize hk2 : q2.length = k2 at *
          have Hk2 := keep hk2
          clear hk2
          go_wp2_with (first
            | (go_at_call 24; (with_reducible refine (cP _ hrr).mono ?_); rintro e w1 ⟨rfl, hz1⟩)
            | (go_at_call 79; (with_reducible refine (cK _ hz1).mono ?_); rintro e w2 ⟨rfl, hz2⟩)
            | (go_at_call 80; (with_reducible refine (cV _ hz2).mono ?_); rintro e w3 ⟨rfl, hz3⟩)
            | (go_at_call 78; (with_reducible refine (cA _ hz3).mono ?_); rintro e w4 ⟨A2, c2, rfl, ho2, hz4⟩)
            | (go_at_call 81; (with_reducible refine (cB _ _ _ ho2).mono ?_); rintro e w5 ⟨rfl, hz5⟩)
            | fail)
          go_roundg (gk - 1)
          case measure => omega
          case rel => exact ⟨j + 1, A2, k2, c2, by omega, by omega, by omega, rfl, rfl, by rw [Hs.out]; exact Hk2, by rw [Hs.out]; exact keep (ho2.out.fr hz5), keep (fr_step hF1 (fr_step hz4 hz5))⟩
        · have Hs : Hid (entsJ ns most (j + 1) = q) := keep (by rw [Hstep.out, if_neg hfit])
          generalize bytsE q2 = t at *
          generalize hk2 : q2.length = k2 at *
          clear hk2
          go_wp2_with (first
            | (go_at_call 24; (with_reducible refine (cP _ hrr).mono ?_); rintro e w1 ⟨rfl, hz1⟩)
            | (go_at_call 79; (with_reducible refine (cK _ hz1).mono ?_); rintro e w2 ⟨rfl, hz2⟩)
            | (go_at_call 80; (with_reducible refine (cV _ hz2).mono ?_); rintro e w3 ⟨rfl, hz3⟩)
            | (go_at_call 78; (with_reducible refine (cA _ hz3).mono ?_); rintro e w4 ⟨A2, c2, rfl, ho2, hz4⟩)
            | (go_at_call 81; (with_reducible refine (cB _ _ _ ho2).mono ?_); rintro e w5 ⟨rfl, hz5⟩)
            | fail)
          go_roundg (gk - 1)
          case measure => omega
          case rel => exact ⟨j + 1, A', n', c', by omega, by omega, by omega, rfl, rfl, by rw [Hs.out]; exact Hn', by rw [Hs.out]; exact keep (hO.out.fr (fr_step hz4 hz5)), keep (fr_step hF1 (fr_step hz4 hz5))⟩
      · have h60z : ¬ (j : Int) < 80 := by omega
        have He : Hid (entsL ns most = entsJ ns most j) := keep (by unfold entsL; rw [Hn.out, show min n 80 = j by omega])
        clear hlt h60
        go_wp2_with fail
        go_ret
        rw [He.out, Hn'.out]
        exact ⟨A', c', rfl, hO.out, hF.out⟩
    · have hjz : ¬ (j : Int) < (n : Int) := by omega
      have He : Hid (entsL ns most = entsJ ns most j) := keep (by unfold entsL; rw [Hn.out, show min n 80 = j by omega])
      clear hlt
      go_wp2_with fail
      go_ret
      rw [He.out, Hn'.out]
      exact ⟨A', c', rfl, hO.out, hF.out⟩
end Go.Proofs.YtmoaddbpfekdbaaGreat
/- 'awake' of layer 7; 'same'. -/
namespace Go.Proofs.YtmoaddbpfekdbaaGreat
set_option maxRecDepth 100000
open Go.RowKit
set_option linter.unusedVariables false
attribute [local go_sem ↓] key_ld ent_ld val_ld msg_ld msg_st
end Go.Proofs.YtmoaddbpfekdbaaGreat
/- Entries that came in. -/
namespace Go.Proofs.YtmoaddbpfekdbaaGreat
set_option maxRecDepth 100000
open Go.RowKit Go.ChangeShapes Go.WideShapes Go.Deep
set_option linter.unusedVariables false
section
variable {H : Type} {enc : TypeId × Value → H} {w : World} {base : Nat} {spare : Nat → Bool} {held : Bool}
end
end Go.Proofs.YtmoaddbpfekdbaaGreat
/- The laws of layer 7, walked: what they have in common. -/
namespace Go.Proofs.YtmoaddbpfekdbaaGreat
set_option maxRecDepth 100000
open Go.RowKit
set_option linter.unusedVariables false
end Go.Proofs.YtmoaddbpfekdbaaGreat
/- What the functions of entries do to rows of the call's own, in few words: for the walks of laws. -/
namespace Go.Proofs.YtmoaddbpfekdbaaGreat
set_option maxRecDepth 100000
open Go.RowKit
set_option linter.unusedVariables false
section
variable {W : World} {A A2 : Option Addr} {c c2 : Nat} {l l2 : List RE} {m : RM} {k : RK} {ms : List RM}
end
end Go.Proofs.YtmoaddbpfekdbaaGreat
/- 'Split' of both, with one answer for all leaves; reads of the rows of laws. -/
namespace Go.Proofs.YtmoaddbpfekdbaaGreat
set_option maxRecDepth 100000
open Go.RowKit
set_option linter.unusedVariables false
def spl1 (l : List RE) : List RE := if l.length < 2 then [] else l.take (splE l)
def spl2 (l : List RE) : List RE := if l.length < 2 then [] else l.drop (splE l)
def splK (l : List RE) : RK := if l.length < 2 then zeroK else ((l.drop (splE l)).headD zeroE).key
def splB (l : List RE) : Bool := if l.length < 2 then false else true
section
variable {W : World} {A A2 : Option Addr} {c c2 : Nat} {l : List RE}
end
end Go.Proofs.YtmoaddbpfekdbaaGreat
/- Nodes as values: their five cells, what they hold in memory, what is valid; the kind of a node. -/
namespace Go.Proofs.YtmoaddbpfekdbaaGreat
set_option maxRecDepth 100000
open Go.RowKit
set_option linter.unusedVariables false
attribute [local go_sem ↓] key_ld msg_ld
/-- What a node holds. -/
structure RN where
  lf : Bool
  es : List RE
  ks : List Int
  ps : List RK
  ms : List RM
/-- The five cells of a node. -/
structure NV where
  lf : Bool
  A1 : Option Addr
  n1 : Nat
  c1 : Nat
  A2 : Option Addr
  n2 : Nat
  c2 : Nat
  A3 : Option Addr
  n3 : Nat
  c3 : Nat
  A4 : Option Addr
  n4 : Nat
  c4 : Nat
def NV.cells (v : NV) : List Value := [.bool v.lf, .slice v.A1 v.n1 v.c1, .slice v.A2 v.n2 v.c2, .slice v.A3 v.n3 v.c3, .slice v.A4 v.n4 v.c4]
def nv (v : NV) : Value := .agg v.cells.toArray
/-- The cells of v hold what n holds, in blocks below B. -/
structure NH (W : World) (B : Nat) (v : NV) (n : RN) : Prop where
  lf : v.lf = n.lf
  hB : B ≤ W.heap.size
  h1 : Has W B v.A1 (rows ec n.es)
  l1 : n.es.length = v.n1
  s1 : v.n1 ≤ 100000
  w1 : WfE n.es
  h2 : Has W B v.A2 (ints n.ks)
  l2 : n.ks.length = v.n2
  k2 : v.n2 ≤ v.c2
  s2 : v.n2 ≤ 100000
  h3 : Has W B v.A3 (rows kc n.ps)
  l3 : n.ps.length = v.n3
  s3 : v.n3 ≤ 100000
  w3 : WfK n.ps
  h4 : Has W B v.A4 (rows mc n.ms)
  l4 : n.ms.length = v.n4
  k4 : v.n4 ≤ v.c4
  s4 : v.n4 ≤ 100000
  w4 : WfM n.ms
theorem NH.fr {W W' : World} {B : Nat} {v : NV} {n : RN} (h : NH W B v n) (hF : Fr W W') : NH W' B v n :=
  { h with hB := Nat.le_trans h.hB hF.size, h1 := h.h1.fr h.hB hF, h2 := h.h2.fr h.hB hF, h3 := h.h3.fr h.hB hF, h4 := h.h4.fr h.hB hF }
/-- Is a node valid? -/
def OkN (n : RN) : Prop := (n.lf = true ∧ n.ks = [] ∧ n.ps = [] ∧ n.ms = [] ∧ OkE n.es) ∨ (n.lf = false ∧ n.es = [] ∧ KidsOk n.ks ∧ n.ps.length + 1 = n.ks.length ∧ OkP n.ps ∧ OkL n.ms)
def bytN (n : RN) : Int := if n.lf then bytsE n.es else bytL n.ms
def rmN (n : RN) : Int := if n.lf then 248 else 205
theorem nod_info : (Tryz.prog.info? 41).map (·.size) = some 5 := by kernel_rfl
theorem nodS : Sty Tryz.prog 41 5 := ⟨nod_info, _, Tryz.underlying41, rfl⟩
theorem nod_ld (p : Value) : Instr.loadAt 41 p = ldS 41 p := rfl
section
variable {A1 : Option Addr} {n1 c1 : Nat} {A2 : Option Addr} {n2 c2 : Nat} {A3 : Option Addr} {n3 c3 : Nat} {A4 : Option Addr} {n4 c4 : Nat}
end
end Go.Proofs.YtmoaddbpfekdbaaGreat
/- The program's functions of nodes, given what the layers below tell. -/
namespace Go.Proofs.YtmoaddbpfekdbaaGreat
set_option maxRecDepth 100000
open Go.RowKit
set_option linter.unusedVariables false
section
variable {A1 : Option Addr} {n1 c1 : Nat} {A2 : Option Addr} {n2 c2 : Nat} {A3 : Option Addr} {n3 c3 : Nat} {A4 : Option Addr} {n4 c4 : Nat}
section
attribute [local go_sem ↓] nod_ld
end
section
attribute [local go_sem ↓] nod_ld
end
/-- A row of weights, j of them told. -/
def wJ (wt : Nat → Int) (n j : Nat) : List Int := (List.range n).map fun i => if i < j then wt i else 0
/-- f: the first place of the greatest of the first j numbers, m; none is above 0: -1 and 0. -/
def TopI (l : List Int) (j : Nat) (f m : Int) : Prop :=
  (f = -1 ∧ m = 0 ∧ ∀ i x, i < j → l[i]? = some x → x ≤ 0) ∨ (∃ a : Nat, f = (a : Int) ∧ a < j ∧ l[a]? = some m ∧ 0 < m ∧ (∀ i x, i < j → l[i]? = some x → x ≤ m) ∧ (∀ i x, i < a → l[i]? = some x → x < m))
section
end
end
end Go.Proofs.YtmoaddbpfekdbaaGreat
/- The document's functions of nodes, given what the layers below tell; Same. -/
namespace Go.Proofs.YtmoaddbpfekdbaaGreat
set_option maxRecDepth 100000
open Go.RowKit
set_option linter.unusedVariables false
section
variable {A1 : Option Addr} {n1 c1 : Nat} {A2 : Option Addr} {n2 c2 : Nat} {A3 : Option Addr} {n3 c3 : Nat} {A4 : Option Addr} {n4 c4 : Nat}
section
variable {B1 : Option Addr} {m1 d1 : Nat} {B2 : Option Addr} {m2 d2 : Nat} {B3 : Option Addr} {m3 d3 : Nat} {B4 : Option Addr} {m4 d4 : Nat}
/-- Same of two nodes, given what its four parts tell. -/
theorem rnsame {w : World} {lf lf2 b1 b2 b3 b4 : Bool}
    (e1 : ∀ W, Fr w W → Calls Tryz.prog 46 #[.slice A1 n1 c1, .slice B1 m1 d1] W fun e w' => e = .returned (.bool b1) ∧ Fr W w')
    (e2 : ∀ W, Fr w W → Calls Tryz.prog 27 #[.slice A2 n2 c2, .slice B2 m2 d2] W fun e w' => e = .returned (.bool b2) ∧ Fr W w')
    (e3 : ∀ W, Fr w W → Calls Tryz.prog 47 #[.slice A3 n3 c3, .slice B3 m3 d3] W fun e w' => e = .returned (.bool b3) ∧ Fr W w')
    (e4 : ∀ W, Fr w W → Calls Tryz.prog 48 #[.slice A4 n4 c4, .slice B4 m4 d4] W fun e w' => e = .returned (.bool b4) ∧ Fr W w') :
    Calls Tryz.prog 12 #[.agg #[.bool lf, .slice A1 n1 c1, .slice A2 n2 c2, .slice A3 n3 c3, .slice A4 n4 c4], .agg #[.bool lf2, .slice B1 m1 d1, .slice B2 m2 d2, .slice B3 m3 d3, .slice B4 m4 d4]] w fun e w' => e = .returned (.bool (lf == lf2 && (b1 && (b2 && (b3 && b4))))) ∧ Fr w w' := by
  obtain ⟨Z, hZ, hF, hZZ, hG, hG2⟩ : ∃ Z, (w.alloc (.cells #[.bool lf, .slice A1 n1 c1, .slice A2 n2 c2, .slice A3 n3 c3, .slice A4 n4 c4] 41)).alloc (.cells #[.bool lf2, .slice B1 m1 d1, .slice B2 m2 d2, .slice B3 m3 d3, .slice B4 m4 d4] 41) = Z ∧ Fr w Z ∧ Fr Z Z ∧ Arr Z w.heap.size 41 #[.bool lf, .slice A1 n1 c1, .slice A2 n2 c2, .slice A3 n3 c3, .slice A4 n4 c4] ∧ Arr Z (w.heap.size + 1) 41 #[.bool lf2, .slice B1 m1 d1, .slice B2 m2 d2, .slice B3 m3 d3, .slice B4 m4 d4] :=
    ⟨_, rfl, fr_new (fr_new (fr_refl w) _) _, fr_refl _, (Arr.new w _ _).alloc _, by have := Arr.new (w.alloc (.cells #[.bool lf, .slice A1 n1 c1, .slice A2 n2 c2, .slice A3 n3 c3, .slice A4 n4 c4] 41)) #[.bool lf2, .slice B1 m1 d1, .slice B2 m2 d2, .slice B3 m3 d3, .slice B4 m4 d4] 41; simpa using this⟩
  have l0 : ∀ W, Fr Z W → W.cell? ⟨w.heap.size, 0, none⟩ = some (.bool lf) := fun W h => ((hG.below h hG.lt).cell 0)
  have k0 : ∀ W, Fr Z W → W.cell? ⟨w.heap.size + 1, 0, none⟩ = some (.bool lf2) := fun W h => ((hG2.below h hG2.lt).cell 0)
  have l1 : ∀ W, Fr Z W → W.cell? ⟨w.heap.size, 1, none⟩ = some (.slice A1 n1 c1) := fun W h => ((hG.below h hG.lt).cell 1)
  have k1 : ∀ W, Fr Z W → W.cell? ⟨w.heap.size + 1, 1, none⟩ = some (.slice B1 m1 d1) := fun W h => ((hG2.below h hG2.lt).cell 1)
  have l2 : ∀ W, Fr Z W → W.cell? ⟨w.heap.size, 2, none⟩ = some (.slice A2 n2 c2) := fun W h => ((hG.below h hG.lt).cell 2)
  have k2 : ∀ W, Fr Z W → W.cell? ⟨w.heap.size + 1, 2, none⟩ = some (.slice B2 m2 d2) := fun W h => ((hG2.below h hG2.lt).cell 2)
  have l3 : ∀ W, Fr Z W → W.cell? ⟨w.heap.size, 3, none⟩ = some (.slice A3 n3 c3) := fun W h => ((hG.below h hG.lt).cell 3)
  have k3 : ∀ W, Fr Z W → W.cell? ⟨w.heap.size + 1, 3, none⟩ = some (.slice B3 m3 d3) := fun W h => ((hG2.below h hG2.lt).cell 3)
  have l4 : ∀ W, Fr Z W → W.cell? ⟨w.heap.size, 4, none⟩ = some (.slice A4 n4 c4) := fun W h => ((hG.below h hG.lt).cell 4)
  have k4 : ∀ W, Fr Z W → W.cell? ⟨w.heap.size + 1, 4, none⟩ = some (.slice B4 m4 d4) := fun W h => ((hG2.below h hG2.lt).cell 4)
  replace e1 := fun W h => e1 W (fr_step hF h)
  replace e2 := fun W h => e2 W (fr_step hF h)
  replace e3 := fun W h => e3 W (fr_step hF h)
  replace e4 := fun W h => e4 W (fr_step hF h)
  clear hG hG2
  cases lf <;> cases lf2
  · go_enter Tryz.func12, Tryz.ntmps12
    go_wp2_with fail
    refine (e1 _ hZZ).mono ?_
    rintro e v1 ⟨rfl, f1⟩
    replace f1 := fr_step hZZ f1
    clear e1
    cases b1
    · go_wp2_with fail
      go_ret
      exact ⟨rfl, fr_step hF f1⟩
    · go_wp2_with fail
      refine (e2 _ f1).mono ?_
      rintro e v2 ⟨rfl, f2⟩
      replace f2 := fr_step f1 f2
      clear e2
      cases b2
      · go_wp2_with fail
        go_ret
        exact ⟨rfl, fr_step hF f2⟩
      · go_wp2_with fail
        refine (e3 _ f2).mono ?_
        rintro e v3 ⟨rfl, f3⟩
        replace f3 := fr_step f2 f3
        clear e3
        cases b3
        · go_wp2_with fail
          go_ret
          exact ⟨rfl, fr_step hF f3⟩
        · go_wp2_with fail
          refine (e4 _ f3).mono ?_
          rintro e v4 ⟨rfl, f4⟩
          replace f4 := fr_step f3 f4
          clear e4
          go_wp2_with fail
          go_ret
          exact ⟨by cases b4 <;> rfl, fr_step hF f4⟩
  · go_enter Tryz.func12, Tryz.ntmps12
    go_wp2_with fail
    go_ret
    exact ⟨rfl, hF⟩
  · go_enter Tryz.func12, Tryz.ntmps12
    go_wp2_with fail
    go_ret
    exact ⟨rfl, hF⟩
  · go_enter Tryz.func12, Tryz.ntmps12
    go_wp2_with fail
    refine (e1 _ hZZ).mono ?_
    rintro e v1 ⟨rfl, f1⟩
    replace f1 := fr_step hZZ f1
    clear e1
    cases b1
    · go_wp2_with fail
      go_ret
      exact ⟨rfl, fr_step hF f1⟩
    · go_wp2_with fail
      refine (e2 _ f1).mono ?_
      rintro e v2 ⟨rfl, f2⟩
      replace f2 := fr_step f1 f2
      clear e2
      cases b2
      · go_wp2_with fail
        go_ret
        exact ⟨rfl, fr_step hF f2⟩
      · go_wp2_with fail
        refine (e3 _ f2).mono ?_
        rintro e v3 ⟨rfl, f3⟩
        replace f3 := fr_step f2 f3
        clear e3
        cases b3
        · go_wp2_with fail
          go_ret
          exact ⟨rfl, fr_step hF f3⟩
        · go_wp2_with fail
          refine (e4 _ f3).mono ?_
          rintro e v4 ⟨rfl, f4⟩
          replace f4 := fr_step f3 f4
          clear e4
          go_wp2_with fail
          go_ret
          exact ⟨by cases b4 <;> rfl, fr_step hF f4⟩
end
section
attribute [local go_sem ↓] nod_ld
end
end
end Go.Proofs.YtmoaddbpfekdbaaGreat
