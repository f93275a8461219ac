/- Buffers in memory, nineteen: the document's 'All'; package 00's 'Msgs'. -/
import Derived.Test.YtmjjjdikpnhpiaaGreatBufQ
import Derived.Test.YtmjjjdikpnhpiaaGreatBuf0
namespace Go.Proofs.YtmjjjdikpnhpiaaGreat
set_option linter.unusedVariables false
set_option linter.unusedSimpArgs false
set_option maxRecDepth 100000
open Go.RowKit
attribute [local go_sem ↓] zt zw zaX
theorem zmJ {w : World} {B : Nat} {A : Option Addr} {ns : List Int} (h : Has w B A (ns.map (Value.int .i64))) {j : Nat} {v : Int} (hv : ns[j]? = some v) : ∃ b off, A = some ⟨b, off, none⟩ ∧ b < B ∧ w.cell? ⟨b, off + j, none⟩ = some (.int .i64 v) := by
 obtain ⟨b, off, e, hb, hx⟩ := h j (.int .i64 v) (by rw [List.getElem?_map, hv]; rfl);exact ⟨b, off, e, hb, hx⟩
theorem zmq {l : List RM} {n : Nat} (h : l.length ≤ n) : 0 ≤ zbB l ∧ zbB l ≤ 35 * (n : Int) := by
 have := zeg l;omega
set_option maxHeartbeats 2000000 in
theorem zkB {w : World} {A : Option Addr} {n c B : Nat} {ns : List Int} {most : Int} (hl : Has w B A (ns.map (Value.int .i64))) (hB : B ≤ w.heap.size) (hn : ns.length = n) (hns : ∀ z ∈ ns, zal z) (hmost : 0 ≤ most ∧ most ≤ 1000000) (hnm : n ≤ maxLen) :
 Calls Tryz.prog 19 #[.slice A n c, .int .i64 most] w fun e w' => ∃ A' c', e = .returned (.slice A' (zdS ns most).length c') ∧ zaC w' w.heap.size A' c' (zdS ns most) ∧ Fr w w' := by
 have Hl := zb hl;have Hn := zb hn;have Hns := zb hns;have hnm2 : (n : Int) ≤ 9223372036854775807 := by simp only [maxLen] at hnm; omega
 clear hl hn hns;go_enter Tryz.func19, Tryz.ntmps19;go_wp2_with fail
 go_loopg [5, 6] 60 (fun g s5 s6 wr => ∃ (j : Nat) (A' : Option Addr) (n' c' : Nat), j ≤ 60 ∧ 60 - j ≤ g ∧ j ≤ n ∧ s6 = .int .i64 j ∧ s5 = .slice A' n' c' ∧ Hid ((zbY ns most j).length = n') ∧ Hid (zaC wr w.heap.size A' c' (zbY ns most j)) ∧ Hid (Fr w wr))
 case atStart => exact ⟨0, none, 0, 0, by omega, by omega, by omega, rfl, rfl, zb rfl, zb (Own.nil _ _ _ _), zb (ze w)⟩
 case round =>
  obtain ⟨j, A', n', c', hj60, hjg, hjn, rfl, rfl, Hn', hO, hF⟩ := hrel;have hlen := zgV ns most j;rw [Hn'.out] at hlen
  by_cases hlt : j < n
  ·have hjz : (j : Int) < (n : Int) := by omega
   by_cases h60 : j < 60
   ·have h60z : (j : Int) < 60 := by omega
    have hv : ns[j]? = some (ns[j]'(by rw [Hn.out]; exact hlt)) := List.getElem?_eq_getElem _;generalize ns[j]'(by rw [Hn.out]; exact hlt) = v at hv;obtain ⟨b, off, rfl, hb1, hx⟩ := zmJ Hl.out hv;have iv : zal v := Hns.out v (List.mem_of_getElem? hv);have hF1 := hF.out;have hrr := ze wr;have cell : wr.cell? ⟨b, off + j, none⟩ = some (.int .i64 v) := (hF1.cell (by show b < w.heap.size; omega)).trans hx;have cM := fun W0 W h => zey (W0 := W0) (W := W) iv (show zal ((j : Int) + 1) by unfold zal; omega) h;have wm := zc0 v ((j : Int) + 1);have om := zc4 v ((j : Int) + 1)
    have hstep : zbY ns most (j + 1) = if zbB (zaK (zbY ns most j) (zdq v ((j : Int) + 1))) ≤ most then zaK (zbY ns most j) (zdq v ((j : Int) + 1)) else zbY ns most j := by
     have e : ns.getD j 0 = v := by simp [List.getD, hv]
     rw [zbY, e]
    have Hstep := zb hstep;have ol := zeJ ns most j;have ol2 := zdP ol wm om;generalize zdq v ((j : Int) + 1) = m at *;generalize zbY ns most j = q at *;have hle := zhq q m;rw [Hn'.out] at hle;have hby := zmq hle
    have cA : ∀ W, Fr wr W → Calls Tryz.prog 40 #[.slice A' n' c', mm m] W fun e w' => ∃ A2 c2, e = .returned (.slice A2 (zaK q m).length c2) ∧ Hid (zaC w' w.heap.size A2 c2 (zaK q m)) ∧ Fr wr w' := fun W hW =>
     (zkh (c := c') (hO.out.fr hW).has (Nat.le_refl _) Hn'.out (by omega) ol wm om).mono fun e w' h => by
      obtain ⟨A2, c2, e1, h1, h2⟩ := h;exact ⟨A2, c2, e1, zb (h1.mono (Nat.le_trans hF1.size hW.size)), za hW h2⟩
    have cB : ∀ W A2 c2, Hid (zaC W w.heap.size A2 c2 (zaK q m)) → Calls Tryz.prog 41 #[.slice A2 (zaK q m).length c2] W fun e w' => e = .returned (.int .i64 (zbB (zaK q m))) ∧ Fr W w' := fun W A2 c2 ho =>
     ziW ho.out.has (Nat.le_refl _) rfl (by omega) ol2.good.wfm
    generalize hq2 : zaK q m = q2 at *;clear hv hx hlt wm om ol ol2 hstep hq2 h60
    by_cases hfit : zbB q2 ≤ most
    ·have Hs : Hid (zbY ns most (j + 1) = q2) := zb (by rw [Hstep.out, if_pos hfit])
     generalize zbB q2 = t at *;generalize hk2 : q2.length = k2 at *;have Hk2 := zb hk2;clear hk2
     go_wp2_with (first
      | (go_at_call 29; (with_reducible refine (cM wr _ hrr).mono ?_); rintro e w1 ⟨rfl, hz1⟩)
      | (go_at_call 40; (with_reducible refine (cA _ hz1).mono ?_); rintro e w2 ⟨A2, c2, rfl, ho2, hz2⟩)
      | (go_at_call 41; (with_reducible refine (cB _ _ _ ho2).mono ?_); rintro e w3 ⟨rfl, hz3⟩)
      | fail)
     go_roundg (gk - 1)
     case measure => omega
     case rel => exact ⟨j + 1, A2, k2, c2, by omega, by omega, by omega, rfl, rfl, by rw [Hs.out]; exact Hk2, by rw [Hs.out]; exact zb (ho2.out.fr hz3), zb (za hF1 (za hz2 hz3))⟩
    ·have Hs : Hid (zbY ns most (j + 1) = q) := zb (by rw [Hstep.out, if_neg hfit])
     generalize zbB q2 = t at *;generalize hk2 : q2.length = k2 at *;clear hk2
     go_wp2_with (first
      | (go_at_call 29; (with_reducible refine (cM wr _ hrr).mono ?_); rintro e w1 ⟨rfl, hz1⟩)
      | (go_at_call 40; (with_reducible refine (cA _ hz1).mono ?_); rintro e w2 ⟨A2, c2, rfl, ho2, hz2⟩)
      | (go_at_call 41; (with_reducible refine (cB _ _ _ ho2).mono ?_); rintro e w3 ⟨rfl, hz3⟩)
      | fail)
     go_roundg (gk - 1)
     case measure => omega
     case rel => exact ⟨j + 1, A', n', c', by omega, by omega, by omega, rfl, rfl, by rw [Hs.out]; exact Hn', by rw [Hs.out]; exact zb (hO.out.fr (za hz2 hz3)), zb (za hF1 (za hz2 hz3))⟩
   ·have h60z : ¬ (j : Int) < 60 := by omega
    have He : Hid (zdS ns most = zbY ns most j) := zb (by unfold zdS; rw [Hn.out, show min n 60 = j by omega]);clear hlt h60;go_wp2_with fail;go_ret;rw [He.out, Hn'.out];exact ⟨A', c', rfl, hO.out, hF.out⟩
  ·have hjz : ¬ (j : Int) < (n : Int) := by omega
   have He : Hid (zdS ns most = zbY ns most j) := zb (by unfold zdS; rw [Hn.out, show min n 60 = j by omega]);clear hlt;go_wp2_with fail;go_ret;rw [He.out, Hn'.out];exact ⟨A', c', rfl, hO.out, hF.out⟩
end Go.Proofs.YtmjjjdikpnhpiaaGreat
