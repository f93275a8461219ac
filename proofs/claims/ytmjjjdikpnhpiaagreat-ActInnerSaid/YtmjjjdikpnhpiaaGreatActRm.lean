/- What a divided node's halves have: whether they fit, each key's entry, each key's message. No program text. -/
import Derived.Test.YtmjjjdikpnhpiaaGreatActF
import Derived.Test.YtmjjjdikpnhpiaaGreatActM
namespace Go.Proofs.YtmjjjdikpnhpiaaGreat
set_option linter.unusedVariables false
set_option linter.unusedSimpArgs false
set_option maxRecDepth 100000
open Go.RowKit
theorem bytL_sub {l l' : List RM} (h : l'.Sublist l) : zbB l' ≤ zbB l := by
 induction h with
 | slnil => exact Int.le_refl _
 | cons a h ih =>
  rw [zoO];have := (zeg [a]).1;rw [zoO] at this;have e : zbB [] = 0 := rfl;omega
 | cons_cons a h ih => rw [zoO, zoO]; omega
theorem partL_sub (l : List RM) (ps : List RK) (i : Nat) : (zah l ps i).Sublist l := by
 unfold zah
 split
 ·exact List.nil_sublist _
 ·exact List.filter_sublist
theorem OkP.sub {l l' : List RK} (h : OkP l) (hs : l'.Sublist l) : OkP l' := ⟨fun x hx => h.good x (hs.subset hx), h.asc.sublist hs⟩
theorem half_findL {l : List RM} (hl : OkL l) {p k : RK} (wp : p.wf) (op : okB p = true) (wk : k.wf) (ok : okB k = true) :
 zaj (zah l [p] (if zu k < zu p then 0 else 1)) k = zaj l k := by
 have hP : OkP [p] := ⟨fun x hx => by rw [List.mem_singleton.1 hx]; exact ⟨wp, op⟩, List.pairwise_cons.2 ⟨by simp, List.Pairwise.nil⟩⟩
 by_cases h : zu k < zu p
 ·rw [if_pos h, findL_part hl hP (by simp) wk ok]
  have : zbN [p] (zu k) = 0 := by unfold zbN; rw [if_neg (by omega)]
  rw [this, if_pos rfl]
 ·rw [if_neg h, findL_part hl hP (by simp) wk ok]
  have : zbN [p] (zu k) = 1 := by unfold zbN; rw [if_pos (by omega)]; rfl
  rw [this, if_pos rfl]
theorem piv_good {r : RN} (o : OkN r) (hk : zap r = true) : (zaU r).wf ∧ okB (zaU r) = true := by
 unfold zaU;unfold zap at hk
 cases hl : r.lf
 ·rw [hl, if_neg (by decide)] at hk
  rw [if_neg (by decide)];obtain ⟨_, ⟨_, kpl, okp⟩, _⟩ := (zaI hl).1 o;have h4 : r.ks.length = 4 := by simpa using hk
  have h1 : 1 < r.ps.length := by omega
  have e : r.ps.getD 1 zr = r.ps[1] := by simp [List.getD, h1]
  rw [e];exact okp.good _ (List.getElem_mem h1)
 ·rw [hl, if_pos rfl] at hk
  rw [if_pos rfl];obtain ⟨_, _, _, oe⟩ := (zcd hl).1 o;have h2 : 2 ≤ r.es.length := by simpa using hk
  have hb := zfS h2;have hp : r.es[zaZ r.es]? = some (r.es[zaZ r.es]'(by omega)) := List.getElem?_eq_getElem _;rw [zjE (by omega) hp];exact ⟨(oe.good _ (List.getElem_mem _)).wk, (oe.good _ (List.getElem_mem _)).ok⟩
theorem half_fits {r : RN} (o : OkN r) (hb : zcW r ≤ rmN r) (hk : zap r = true) : (OkN (hl1 r) ∧ zcW (hl1 r) ≤ rmN (hl1 r)) ∧ (OkN (hl2 r) ∧ zcW (hl2 r) ≤ rmN (hl2 r)) := by
 unfold hl1 hl2;unfold zap at hk;unfold zcW rmN at hb
 cases hl : r.lf
 ·rw [hl, if_neg (by decide)] at hk hb
  rw [if_neg (by decide)] at hb;rw [if_neg (by decide), if_neg (by decide)];obtain ⟨_, ⟨kok, kpl, okp⟩, ol⟩ := (zaI hl).1 o;have h4 : r.ks.length = 4 := by simpa using hk
  refine ⟨⟨(zaI rfl).2 ⟨rfl, ⟨⟨?_, ?_, ?_, ?_⟩, ?_, okp.sub (List.take_sublist _ _)⟩, ol.sub (show (zah r.ms [zaU r] 0).Sublist r.ms from partL_sub _ _ _)⟩, ?_⟩, (zaI rfl).2 ⟨rfl, ⟨⟨?_, ?_, ?_, ?_⟩, ?_, okp.sub (List.drop_sublist _ _)⟩, ol.sub (show (zah r.ms [zaU r] 1).Sublist r.ms from partL_sub _ _ _)⟩, ?_⟩
  ·simp; omega
  ·simp; omega
  ·exact fun x hx => kok.2.2.1 x (List.mem_of_mem_take hx)
  ·exact kok.2.2.2.sublist (List.take_sublist _ _)
  ·simp; omega
  ·exact Int.le_trans (bytL_sub (show (zah r.ms [zaU r] 0).Sublist r.ms from partL_sub _ _ _)) hb
  ·simp; omega
  ·simp; omega
  ·exact fun x hx => kok.2.2.1 x (List.mem_of_mem_drop hx)
  ·exact kok.2.2.2.sublist (List.drop_sublist _ _)
  ·simp; omega
  ·exact Int.le_trans (bytL_sub (show (zah r.ms [zaU r] 1).Sublist r.ms from partL_sub _ _ _)) hb
 ·rw [hl, if_pos rfl] at hk hb
  rw [if_pos rfl] at hb;rw [if_pos rfl, if_pos rfl];obtain ⟨_, _, _, oe⟩ := (zcd hl).1 o;have h2 : 2 ≤ r.es.length := by simpa using hk
  have hf := halves_fit oe h2 (by omega);have e1 : zQ r.es = zQ (r.es.take (zaZ r.es)) + zQ (r.es.drop (zaZ r.es)) := by rw [← zg3, List.take_append_drop]
  refine ⟨⟨(zcd rfl).2 ⟨rfl, rfl, rfl, oe.sub (List.take_sublist _ _)⟩, hf.1⟩, (zcd rfl).2 ⟨rfl, rfl, rfl, oe.sub (List.drop_sublist _ _)⟩, ?_⟩
  show zQ (r.es.drop (zaZ r.es)) ≤ 248
  omega
def halfN (r : RN) (k : RK) : RN := if zu k < zu (zaU r) then hl1 r else hl2 r
theorem halfN_findL {r : RN} (o : OkN r) (hl : r.lf = false) (hk : zap r = true) {k : RK} (wk : k.wf) (ok : okB k = true) : zaj (halfN r k).ms k = zaj r.ms k := by
 obtain ⟨_, _, ol⟩ := (zaI hl).1 o;obtain ⟨wp, op⟩ := piv_good o hk;have := half_findL ol wp op wk ok;unfold halfN
 by_cases h : zu k < zu (zaU r)
 ·rw [if_pos h] at this ⊢
  unfold hl1; rw [hl, if_neg (by decide)]; exact this
 ·rw [if_neg h] at this ⊢
  unfold hl2; rw [hl, if_neg (by decide)]; exact this
end Go.Proofs.YtmjjjdikpnhpiaaGreat
