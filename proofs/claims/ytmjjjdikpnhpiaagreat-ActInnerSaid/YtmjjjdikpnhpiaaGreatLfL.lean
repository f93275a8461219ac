/- The document's 'Put' of an entry. -/
import Derived.Test.YtmjjjdikpnhpiaaGreatLfH
import Derived.Test.YtmjjjdikpnhpiaaGreatLfF
import Derived.Test.YtmjjjdikpnhpiaaGreatLfK
import Derived.Test.YtmjjjdikpnhpiaaGreatShort
import Derived.Test.YtmjjjdikpnhpiaaGreatBufT
import Derived.Test.YtmjjjdikpnhpiaaGreatKeyA
import Derived.Deep.Slices
import Derived.ProofKit
import Derived.OpenShut
import Derived.SliceStrings
import Derived.Test.YtmjjjdikpnhpiaaGreatValA
import Derived.Test.YtmjjjdikpnhpiaaGreatMsg0
import Derived.Test.YtmjjjdikpnhpiaaGreatValC
import Derived.ChangeSlices
import Derived.ChangeArms
import Derived.Test.YtmjjjdikpnhpiaaGreatBufL
import Derived.Test.YtmjjjdikpnhpiaaGreatLfA
namespace Go.Proofs.YtmjjjdikpnhpiaaGreat
set_option linter.unusedVariables false
set_option linter.unusedSimpArgs false
set_option maxRecDepth 100000
open Go.RowKit
section
attribute [local go_sem ↓] zt zbh zae zw
theorem zig {w : World} {A : Option Addr} {n c B : Nat} {l : List RE} {m : RM} (hl : Has w B A (zm ec l)) (hB : B ≤ w.heap.size) (hn : l.length = n) (hsm : n ≤ 100000) (ol : OkE l) (wm : m.wf) (om : okM m = true) :
 Calls Tryz.prog 71 #[.slice A n c, mm m] w fun e w' => ∃ A' c', e = .returned (.slice A' (zba l m).length c') ∧ zau w' w.heap.size A' c' (zba l m) ∧ Fr w w' := by
 cases hb : zcy m with
 | true => exact zk4 hl hB hn hsm ol wm om hb
 | false => exact zk6 hl hB hn hsm ol wm om hb
end
section
attribute [local go_sem ↓] zt zbh zae zw
theorem zog {l : List RE} (h : SmE l) {i j : Nat} (hij : i ≤ j) : zQ (l.take i) ≤ zQ (l.take j) := by
 have e : l.take j = l.take i ++ (l.drop i).take (j - i) := by
  rw [← List.take_add]
  congr 1
  omega
 rw [e, zg3];have := zbG (h.sub ((List.take_sublist (j - i) (l.drop i)).trans (List.drop_sublist i l)));omega
theorem ziO {l : List RE} (h : SmE l) {j : Nat} (h1 : 1 ≤ j) (h2 : j < l.length) (hh : zQ l ≤ 2 * zQ (l.take j) ∨ l.length - j = 1) (hf : ∀ i, 1 ≤ i → i < j → 2 * zQ (l.take i) < zQ l) : j = zaZ l := by
 have hb := zfS (l := l) (by omega);have sh := zja (l := l) (by omega);have sf := zkR (l := l) (by omega)
 rcases Nat.lt_trichotomy (zaZ l) j with hl | hl | hl
 ·have := hf _ hb.1 hl
  omega
 ·exact hl.symm
 ·have := zog h (i := j) (j := zaZ l - 1) (by omega)
  omega
end
section
attribute [local go_sem ↓] zt zbh zae zw zeW
theorem Sty.result4 {P : Program} {T n : Nat} {w : World} (S : Sty P T n) {fn : Func} {a b p t : Tmp} (h : fn.results = #[.tmp a, .tmp b, .cell p T, .tmp t]) (tmps : Array Value) (g : Nat) (hp : tmps.getD p undef = .pointer (some ⟨g, 0, none⟩)) {T' : Nat} {cs : List Value} (hl : cs.length = n) (ha : Arr w g T' cs.toArray) :
 (results fn tmps).run P w = .ok (.tuple #[tmps.getD a undef, tmps.getD b undef, .agg cs.toArray, tmps.getD t undef]) w := by
 have hp' : tmps[p]?.getD undef = .pointer (some ⟨g, 0, none⟩) := by simpa using hp
 simp [results, h, hp', asAddr, S.load hl ha]
theorem zaq {w : World} {B e size n c k : Nat} {A : Option Addr} {xs : List Value} (h : Own w B e size A n c xs) (hk : k < B) (ds : Array Value) : Own (w.setRow k ds) B e size A n c xs :=
 h.kept (row := some k) ⟨rfl, rfl, rfl, by simp [World.setRow], fun j _ hj => setRow_other w k j _ (fun e => hj (by rw [e]))⟩ (by
  cases hA : blk A with
  | none => exact .inl rfl
  | some b =>
   have := (h.lt b hA).1;exact .inr (fun e => by injection e with e; omega))
theorem zcn (w : World) : ∃ Z, w.alloc (.cells (kc zr).toArray 33) = Z ∧ Fr w Z ∧ Fr Z Z ∧ Arr Z w.heap.size 33 (kc zr).toArray ∧ Z.heap.size = w.heap.size + 1 := ⟨_, rfl, zf (ze w) _, ze _, Arr.new w _ _, by simp⟩
set_option maxHeartbeats 2000000 in
theorem znL {w : World} {A : Option Addr} {n c : Nat} (h2 : n < 2) :
 Calls Tryz.prog 110 #[.slice A n c] w fun e w' => e = .returned (.tuple #[.slice none 0 0, .slice none 0 0, kv zr, .bool false]) ∧ Fr w w' := by
 obtain ⟨Z, hZ, hF, hZZ, hK, hS⟩ := zcn w;rw [zH] at hZ;have h2z : (n : Int) < 2 := by omega
 go_enter Tryz.func110, Tryz.ntmps110
 go_wp2_with (first
  | (refine zi (ds := kc zr) zC rfl (.tmp 4) (.tmp 12) rfl w.heap.size 0 rfl rfl (zl _) (zU _) hK (by decide) (zk _ _ (by decide)) ?_; intro W5 hM5 hk5; have hF5 := hk5.fr hF (Nat.le_refl _); clear hk5)
  | fail)
 exact bodyPost_ret (zaf.result4 rfl _ w.heap.size rfl (zl _) hM5) rfl ⟨rfl, hF5⟩
set_option maxHeartbeats 4000000 in
theorem zn4 {w : World} {A : Option Addr} {n c B : Nat} {l : List RE} {p : RE} (hl : Has w B A (zm ec l)) (hB : B ≤ w.heap.size) (hn : l.length = n) (hnc : n ≤ c) (hsm : n ≤ 100000) (wl : WfE l) (hs : SmE l) (h2 : 2 ≤ n) (hp : l[zaZ l]? = some p) :
 Calls Tryz.prog 110 #[.slice A n c] w fun e w' => ∃ A1 c1 A2 c2, e = .returned (.tuple #[.slice A1 (zaZ l) c1, .slice A2 (n - zaZ l) c2, kv p.key, .bool true]) ∧ zau w' w.heap.size A1 c1 (l.take (zaZ l)) ∧ zau w' w.heap.size A2 c2 (l.drop (zaZ l)) ∧ Fr w w' := by
 obtain ⟨Z, hZ, hF, hZZ, hK, hS⟩ := zcn w;rw [zH] at hZ;have hlZ := hl.fr hB hF;have hBZ : B ≤ Z.heap.size := Nat.le_trans hB hF.size;have h0 : l[0]? = some (l[0]'(by omega)) := List.getElem?_eq_getElem _;generalize l[0]'(by omega) = x0 at h0;obtain ⟨b, off, rfl, hb1, hr⟩ := zJ hlZ wl.wid (by decide) (by intro e; rw [e] at h0; simp at h0);have l0 := z9 zh4 hr wl.wid (by omega) h0;simp only [Nat.zero_mul, Nat.add_zero] at l0;have s0 := hs x0 (za2 h0);have hR0 := zf8 s0;have cB := fun W h => (zjt (c := c) (hlZ.fr hBZ h) (Nat.le_trans hBZ h.size) hn hsm wl hs).mono (fun e w' (hh : _ ∧ Fr W w') => (⟨hh.1, za h hh.2⟩ : _ ∧ Fr Z w'));have c0 := fun W h => ziB (W0 := Z) (W := W) s0 h;have hAll := zbG hs;rw [hn] at hAll;have e1 : zQ (l.take 1) = zcs x0 := by rw [zdy h0, List.take_zero]; simp [zQ]
 have E1 := zb e1;have Hl := zb hlZ;have Hlw := zb hl;have Hn := zb hn;have Hwl := zb wl;have Hs := zb hs;obtain ⟨sp, hsp⟩ : ∃ sp, zaZ l = sp := ⟨_, rfl⟩;rw [hsp] at hp ⊢;have Hsp := zb hsp;have Hp := zb hp;have HK := zb hK;have Hr := zb hr;have Hall : Hid (zQ l = zQ l) := zb rfl;have h2z : ¬ (n : Int) < 2 := by omega
 have hZD := zn hZZ;obtain ⟨all, hall⟩ : ∃ all, zQ l = all := ⟨_, rfl⟩;rw [hall] at cB hAll;have HA := zb hall;have hnz : (0 : Int) < (n : Int) := by omega
 have hn0 : 0 < n := by omega
 generalize zcs x0 = t0 at *;clear hl hlZ hn wl hs hsp hp hK hr h0 s0 e1 hall Hall;go_enter Tryz.func110, Tryz.ntmps110;go_wp2_with fail
 go_region_held3 (fun w' => Fr Z w') (first | exact hZD | assumption)
  (first
   | (go_at_call 84; (with_reducible refine (cB _ (by assumption)).mono ?_); rintro e w7 ⟨rfl, hz7⟩)
   | (go_at_call 107; (with_reducible refine (c0 _ (by assumption)).mono ?_); rintro e w8 ⟨rfl, hz8⟩))
 all_goals
  go_wp2_with fail
  go_loopg [7, 8] n (fun g s7 s8 wr => ∃ j : Nat, 1 ≤ j ∧ j < n ∧ n - j ≤ g ∧ s8 = .int .i64 j ∧ s7 = .int .i64 (zQ (l.take j)) ∧ Hid (Fr Z wr) ∧ Hid (∀ i, 1 ≤ i → i < j → 2 * zQ (l.take i) < all))
  case atStart => exact ⟨1, by omega, by omega, by omega, rfl, by rw [E1.out], zb (show Fr Z _ by assumption), zb (fun i h1 h2 => by omega)⟩
  case round =>
   obtain ⟨j, hj1, hjn, hjg, rfl, rfl, hF8, Hfew⟩ := hrel;have hR := zbG (Hs.out.sub (List.take_sublist j l));have hlen : (l.take j).length = j := by rw [List.length_take, Hn.out]; omega
   rw [hlen] at hR;have hZ8 := hF8.out;have hwi : IntKind.i64.wrap ((n : Int) - 1) = (n : Int) - 1 := by rw [IntKind.wrap_i64]; omega
   have hm : l[j]? = some (l[j]'(by rw [Hn.out]; exact hjn)) := List.getElem?_eq_getElem _;generalize l[j]'(by rw [Hn.out]; exact hjn) = m at hm;have hjz : (j : Int) < (n : Int) := by omega
   by_cases hgo : j + 1 < n ∧ 2 * zQ (l.take j) < all
   ·have lX := z9 zh4 Hr.out Hwl.out.wid (by omega) hm
    have sm := Hs.out m (za2 hm);have cS := fun W0 W h => ziB (W0 := W0) (W := W) sm h;have hR2 := zf8 sm;have Hst := zb (zdy hm)
    have Hfew2 : Hid (∀ i, 1 ≤ i → i < j + 1 → 2 * zQ (l.take i) < all) := zb (fun i h1 h2 => by
     by_cases e : i = j
     ·rw [e]; exact hgo.2
     ·exact Hfew.out i h1 (by omega))
    obtain ⟨g1, g2⟩ := hgo;have g1z : (j : Int) < (n : Int) - 1 := by omega
    generalize zQ (l.take j) = s at *;generalize zcs m = t at *;clear hm sm hlen Hfew
    go_wp2_with (first
     | (go_at_call 107; (with_reducible refine (cS wr _ (ze wr)).mono ?_); rintro e w9 ⟨rfl, hz9⟩)
     | fail)
    go_roundg (gk - 1)
    case measure => omega
    case rel => exact ⟨j + 1, by omega, by omega, by omega, rfl, by rw [Hst.out], zb (za hZ8 hz9), Hfew2⟩
   ·have hj : j = zaZ l := ziO Hs.out hj1 (by rw [Hn.out]; exact hjn) (by
     rw [HA.out, Hn.out]
     by_cases h9 : j + 1 < n
     ·exact .inl (by
       rcases Int.lt_or_le (2 * zQ (l.take j)) all with h | h
       ·exact absurd ⟨h9, h⟩ hgo
       ·exact h)
     ·exact .inr (by omega)) (by rw [HA.out]; exact Hfew.out)
    have hjs : j = sp := hj.trans Hsp.out;clear hj;subst hjs
    have hmp : m = p := by
     have := Hp.out;rw [hm] at this
     injection this
    subst hmp
    have hrw : w.rangeAt b off (zm ec l) := by
     obtain ⟨b', off', e, -, hr⟩ := zJ Hlw.out Hwl.out.wid (by decide) (by intro e; rw [e] at hm; simp at hm)
     injection e with e
     injection e with e1 e2
     subst e1 e2;exact hr
    have lP := zak (o := 0) zaf hrw Hwl.out.wid (by omega) hm (zcC m) (zl _);simp only [Nat.add_zero] at lP;have hgz : (j : Int) < (n : Int) - 1 → ¬ (2 * zQ (l.take j) < all) := fun h h' => hgo ⟨by omega, h'⟩;have q1 := zcv (some ⟨b, off, none⟩) n c j (by omega);have q2 := zaW (some ⟨b, off, none⟩) n c j (by omega);rw [zck (by omega)] at q2;have hwt := zdZ Hlw.out Hwl.out.wid j;have hwd := zbm Hlw.out Hwl.out.wid j;have hlt : (l.take j).length = j := hlen;have hld : (l.drop j).length = n - j := by rw [List.length_drop, Hn.out]
    have cH1 : ∀ W, Fr w W → Z.heap.size ≤ W.heap.size → Calls Tryz.prog 119 #[.slice (some ⟨b, off, none⟩) j c] W fun e w' => ∃ A' c', e = .returned (.slice A' j c') ∧ zau w' Z.heap.size A' c' (l.take j) ∧ Fr W w' := fun W hW hz =>
     (zlo (hwt.fr hB hW) (Nat.le_trans hB hW.size) hlt (by omega) (by omega) (fun x hx => Hwl.out x (List.mem_of_mem_take hx))).mono fun e w' h => by
      obtain ⟨A', c', e1, h1, h2⟩ := h;exact ⟨A', c', e1, h1.mono hz, h2⟩
    have cH2 : ∀ W, Fr w W → Z.heap.size ≤ W.heap.size → Calls Tryz.prog 119 #[.slice (some ⟨b, off + j * 26, none⟩) (n - j) (c - j)] W fun e w' => ∃ A' c', e = .returned (.slice A' (n - j) c') ∧ zau w' Z.heap.size A' c' (l.drop j) ∧ Fr W w' := fun W hW hz =>
     (zlo (hwd.fr hB hW) (Nat.le_trans hB hW.size) hld (by omega) (by omega) (fun x hx => Hwl.out x (List.mem_of_mem_drop hx))).mono fun e w' h => by
      obtain ⟨A', c', e1, h1, h2⟩ := h;exact ⟨A', c', e1, h1.mono hz, h2⟩
    have HlT := zb hlt;have HlD := zb hld;generalize zQ (l.take j) = s at *;have st : ∀ W, zbc W w.heap.size 33 9 → (stS 33 (.pointer (some ⟨w.heap.size, 0, none⟩)) (.agg (kc m.key).toArray)).run Tryz.prog W = .ok () (W.setRow w.heap.size (kc m.key).toArray) := fun W h => zjR zC h (zl _) (zU _);have hob0 : zbc wr w.heap.size 33 9 := zbc.of (HK.out.below hZ8 HK.out.lt) (zl _);have hobD := zbc.drew hob0;have hwD : Fr w wr.drew := za hF (zn hZ8);have hszD : Z.heap.size ≤ wr.drew.heap.size := hZ8.size
    by_cases h9 : j + 1 < n
    ·have h9z : (j : Int) < (n : Int) - 1 := by omega
     have h8z := hgz h9z;clear hm hlen hlt hld Hfew hgz hgo Hp hwt hwd h9;go_wp2_with fail
     go_region_held3 (fun w' => Fr w w' ∧ Z.heap.size ≤ w'.heap.size ∧ zbc w' w.heap.size 33 9)
      (first
       | (go_split_ands; exact ⟨hwD, hszD, hobD⟩)
       | (go_split_ands; exact ⟨by assumption, by assumption, by assumption⟩)
       | (go_split_ands; exact ⟨zaM (by assumption) (Nat.le_refl _) _, by rw [zhf]; assumption, zbc.setRow (by assumption) (zl _)⟩))
      (first
       | (go_at_call 119; (with_reducible refine (cH1 _ (by assumption) (by assumption)).mono ?_); rintro e w9 ⟨A1, c1, rfl, ho1, hz9⟩
          have hw9 : Fr w w9 := za (by assumption) hz9;have hs9 : Z.heap.size ≤ w9.heap.size := Nat.le_trans (by assumption) hz9.size;have hb9 : zbc w9 w.heap.size 33 9 := zbc.below (by assumption) hz9
          try have ho2b := zau.fr ho2 hz9)
       | (go_at_call 119; (with_reducible refine (cH2 _ (by assumption) (by assumption)).mono ?_); rintro e w10 ⟨A2, c2, rfl, ho2, hz10⟩
          have hw10 : Fr w w10 := za (by assumption) hz10;have hs10 : Z.heap.size ≤ w10.heap.size := Nat.le_trans (by assumption) hz10.size;have hb10 : zbc w10 w.heap.size 33 9 := zbc.below (by assumption) hz10
          try have ho1b := zau.fr ho1 hz10))
     all_goals
      go_wp2_with fail;refine bodyPost_ret (zaf.result4 (cs := kc m.key) rfl _ w.heap.size rfl (zl _) (zbc.put (by assumption) _)) rfl ?_;refine ⟨A1, c1, A2, c2, rfl, ?_, ?_, zaM (by assumption) (Nat.le_refl _) _⟩
      ·first
        | exact (zaq ho1b (by omega) _).mono hF.size
        | exact (zaq ho1 (by omega) _).mono hF.size
      ·first
        | exact (zaq ho2b (by omega) _).mono hF.size
        | exact (zaq ho2 (by omega) _).mono hF.size
    ·have h9z : ¬ (j : Int) < (n : Int) - 1 := by omega
     clear hm hlen hlt hld Hfew hgz hgo Hp hwt hwd h9;go_wp2_with fail
     go_region_held3 (fun w' => Fr w w' ∧ Z.heap.size ≤ w'.heap.size ∧ zbc w' w.heap.size 33 9)
      (first
       | (go_split_ands; exact ⟨hwD, hszD, hobD⟩)
       | (go_split_ands; exact ⟨by assumption, by assumption, by assumption⟩)
       | (go_split_ands; exact ⟨zaM (by assumption) (Nat.le_refl _) _, by rw [zhf]; assumption, zbc.setRow (by assumption) (zl _)⟩))
      (first
       | (go_at_call 119; (with_reducible refine (cH1 _ (by assumption) (by assumption)).mono ?_); rintro e w9 ⟨A1, c1, rfl, ho1, hz9⟩
          have hw9 : Fr w w9 := za (by assumption) hz9;have hs9 : Z.heap.size ≤ w9.heap.size := Nat.le_trans (by assumption) hz9.size;have hb9 : zbc w9 w.heap.size 33 9 := zbc.below (by assumption) hz9
          try have ho2b := zau.fr ho2 hz9)
       | (go_at_call 119; (with_reducible refine (cH2 _ (by assumption) (by assumption)).mono ?_); rintro e w10 ⟨A2, c2, rfl, ho2, hz10⟩
          have hw10 : Fr w w10 := za (by assumption) hz10;have hs10 : Z.heap.size ≤ w10.heap.size := Nat.le_trans (by assumption) hz10.size;have hb10 : zbc w10 w.heap.size 33 9 := zbc.below (by assumption) hz10
          try have ho1b := zau.fr ho1 hz10))
     all_goals
      go_wp2_with fail;refine bodyPost_ret (zaf.result4 (cs := kc m.key) rfl _ w.heap.size rfl (zl _) (zbc.put (by assumption) _)) rfl ?_;refine ⟨A1, c1, A2, c2, rfl, ?_, ?_, zaM (by assumption) (Nat.le_refl _) _⟩
      ·first
        | exact (zaq ho1b (by omega) _).mono hF.size
        | exact (zaq ho1 (by omega) _).mono hF.size
      ·first
        | exact (zaq ho2b (by omega) _).mono hF.size
        | exact (zaq ho2 (by omega) _).mono hF.size
end
section
attribute [local go_sem ↓] zt zbh zae zw zeW
end
section
attribute [local go_sem ↓] zt zbh zae zw zaX
theorem zfx : ∀ (cs : List Value) (k : Nat) (z : Array Value), k + cs.length ≤ z.size → List.foldl (fun (cs : Array Value) (x : Value × Nat) => cs.setIfInBounds x.snd x.fst) z (cs.zipIdx k) = (z.toList.take k ++ cs ++ z.toList.drop (k + cs.length)).toArray
 | [], k, z, h => by
  simp [List.take_append_drop]
 | v :: cs, k, z, h => by
  simp only [List.length_cons] at h;have h0 : k < z.toList.length := by simp; omega
  rw [List.zipIdx_cons, List.foldl_cons, zfx cs (k + 1) _ (by simp; omega)]
  congr 1
  simp only [Array.toList_setIfInBounds, List.length_cons];rw [List.drop_set_of_lt (by omega), show k + 1 + cs.length = k + (cs.length + 1) by omega]
  congr 1
  rw [List.take_add_one, List.take_set_of_le (by omega), List.getElem?_set_self (by simpa using h0)];simp
theorem znM (k : RK) {v : RV} (hl : v.bs.length = 16) : List.foldl (fun (cs : Array Value) (x : Value × Nat) => cs.setIfInBounds (11 + x.snd) x.fst) #[.int .i64 1, .int .u64 0, .int .i64 k.n, .int .u8 k.b0, .int .u8 k.b1, .int .u8 k.b2, .int .u8 k.b3, .int .u8 k.b4, .int .u8 k.b5, .int .u8 k.b6, .int .u8 k.b7, .int .i64 0, .int .u8 0, .int .u8 0, .int .u8 0, .int .u8 0, .int .u8 0, .int .u8 0, .int .u8 0, .int .u8 0, .int .u8 0, .int .u8 0, .int .u8 0, .int .u8 0, .int .u8 0, .int .u8 0, .int .u8 0, .int .u8 0, .int .u64 0] (vc v).zipIdx = (mc ⟨1, 0, k, v, 0⟩).toArray := by
 rw [ziv 11 (vc v) 0, zfx (vc v) (11 + 0) _ (by rw [zD hl]; exact (by decide : (28 : Nat) ≤ 29)), zD hl];rfl
set_option maxHeartbeats 2000000 in
theorem zkJ {w : World} {A : Option Addr} {n c B : Nat} {ns : List Int} {most : Int} (hl : Has w B A (ns.map (Value.int .i64))) (hB : B ≤ w.heap.size) (hn : ns.length = n) (hns : ∀ z ∈ ns, zal z) (hmost : 0 ≤ most ∧ most ≤ 1000000) (hnm : n ≤ maxLen) :
 Calls Tryz.prog 42 #[.slice A n c, .int .i64 most] w fun e w' => ∃ A' c', e = .returned (.slice A' (zef ns most).length c') ∧ zau w' w.heap.size A' c' (zef ns most) ∧ Fr w w' := by
 have Hl := zb hl;have Hn := zb hn;have Hns := zb hns;have hnm2 : (n : Int) ≤ 9223372036854775807 := by simp only [maxLen] at hnm; omega
 clear hl hn hns;go_enter Tryz.func42, Tryz.ntmps42;go_wp2_with fail
 go_loopg [5, 6] 80 (fun g s5 s6 wr => ∃ (j : Nat) (A' : Option Addr) (n' c' : Nat), j ≤ 80 ∧ 80 - j ≤ g ∧ j ≤ n ∧ s6 = .int .i64 j ∧ s5 = .slice A' n' c' ∧ Hid ((zbC ns most j).length = n') ∧ Hid (zau wr w.heap.size A' c' (zbC ns most j)) ∧ Hid (Fr w wr))
 case atStart => exact ⟨0, none, 0, 0, by omega, by omega, by omega, rfl, rfl, zb rfl, zb (Own.nil _ _ _ _), zb (ze w)⟩
 case round =>
  obtain ⟨j, A', n', c', hj60, hjg, hjn, rfl, rfl, Hn', hO, hF⟩ := hrel;have hlen := zgI ns most j;rw [Hn'.out] at hlen
  by_cases hlt : j < n
  ·have hjz : (j : Int) < (n : Int) := by omega
   by_cases h60 : j < 80
   ·have h60z : (j : Int) < 80 := by omega
    have hv : ns[j]? = some (ns[j]'(by rw [Hn.out]; exact hlt)) := List.getElem?_eq_getElem _;generalize ns[j]'(by rw [Hn.out]; exact hlt) = v at hv;obtain ⟨b, off, rfl, hb1, hx⟩ := zmJ Hl.out hv;have iv : zal v := Hns.out v (List.mem_of_getElem? hv);have hF1 := hF.out;have hrr := ze wr;have cell : wr.cell? ⟨b, off + j, none⟩ = some (.int .i64 v) := (hF1.cell (by show b < w.heap.size; omega)).trans hx;have cP := fun W h => zdg (W0 := wr) (W := W) iv h;have hplt := zdC v;have cK := fun W h => zex (W0 := wr) (W := W) (v := ((pl v : Nat) : Int)) (by unfold zal; omega) h;have hdiv : ((pl v : Nat) : Int).tdiv 16 = ((pl v / 16 : Nat) : Int) := rfl;have cV := fun W h => zfV (W0 := wr) (W := W) (v := ((pl v / 16 : Nat) : Int)) (by unfold zal; omega) h;have hdlt : pl v / 16 < 1099511627776 := by omega
    have wm := zm6 v;have om := zng v;have wk := zfj ((pl v : Nat) : Int);have wv := zgE ((pl v / 16 : Nat) : Int);have hfm := znM (zbL ((pl v : Nat) : Int)) wv.hl;have hlv : (vc (zgW ((pl v / 16 : Nat) : Int))).length = 17 := zD wv.hl
    have hstep : zbC ns most (j + 1) = if zQ (zba (zbC ns most j) (zij v)) ≤ most then zba (zbC ns most j) (zij v) else zbC ns most j := by
     have e : ns.getD j 0 = v := by simp [List.getD, hv]
     rw [zbC, e]
    have Hstep := zb hstep;have ol := zf4 ns most j;have ol2 := zfk ol wm om;have hpm : (mc ⟨1, 0, zbL ((pl v : Nat) : Int), zgW ((pl v / 16 : Nat) : Int), 0⟩).toArray = (mc (zij v)).toArray := rfl;rw [hpm] at hfm;generalize zij v = m at *;generalize zbC ns most j = q at *;generalize zbL ((pl v : Nat) : Int) = k at *;generalize zgW ((pl v / 16 : Nat) : Int) = y at *;generalize pl v / 16 = d at *;generalize pl v = p at *;have hle := zj2 q m;rw [Hn'.out] at hle;have hby := zbG ol2.sm
    have cA : ∀ W, Fr wr W → Calls Tryz.prog 71 #[.slice A' n' c', mm m] W fun e w' => ∃ A2 c2, e = .returned (.slice A2 (zba q m).length c2) ∧ Hid (zau w' w.heap.size A2 c2 (zba q m)) ∧ Fr wr w' := fun W hW =>
     (zig (c := c') (hO.out.fr hW).has (Nat.le_refl _) Hn'.out (by omega) ol wm om).mono fun e w' h => by
      obtain ⟨A2, c2, e1, h1, h2⟩ := h;exact ⟨A2, c2, e1, zb (h1.mono (Nat.le_trans hF1.size hW.size)), za hW h2⟩
    have cB : ∀ W A2 c2, Hid (zau W w.heap.size A2 c2 (zba q m)) → Calls Tryz.prog 60 #[.slice A2 (zba q m).length c2] W fun e w' => e = .returned (.int .i64 (zQ (zba q m))) ∧ Fr W w' := fun W A2 c2 ho =>
     zer ho.out.has (Nat.le_refl _) rfl (by omega) ol2.wfe ol2.sm
    generalize hq2 : zba q m = q2 at *;clear hv hx hlt wm om ol ol2 hstep hq2 h60 wk wv hpm
    by_cases hfit : zQ q2 ≤ most
    ·have Hs : Hid (zbC ns most (j + 1) = q2) := zb (by rw [Hstep.out, if_pos hfit])
     generalize zQ q2 = t at *;generalize hk2 : q2.length = k2 at *;have Hk2 := zb hk2;clear hk2
     go_wp2_with (first
      | (go_at_call 6; (with_reducible refine (cP _ hrr).mono ?_); rintro e w1 ⟨rfl, hz1⟩)
      | (go_at_call 8; (with_reducible refine (cK _ hz1).mono ?_); rintro e w2 ⟨rfl, hz2⟩)
      | (go_at_call 16; (with_reducible refine (cV _ hz2).mono ?_); rintro e w3 ⟨rfl, hz3⟩)
      | (go_at_call 71; (with_reducible refine (cA _ hz3).mono ?_); rintro e w4 ⟨A2, c2, rfl, ho2, hz4⟩)
      | (go_at_call 60; (with_reducible refine (cB _ _ _ ho2).mono ?_); rintro e w5 ⟨rfl, hz5⟩)
      | fail)
     go_roundg (gk - 1)
     case measure => omega
     case rel => exact ⟨j + 1, A2, k2, c2, by omega, by omega, by omega, rfl, rfl, by rw [Hs.out]; exact Hk2, by rw [Hs.out]; exact zb (ho2.out.fr hz5), zb (za hF1 (za hz4 hz5))⟩
    ·have Hs : Hid (zbC ns most (j + 1) = q) := zb (by rw [Hstep.out, if_neg hfit])
     generalize zQ q2 = t at *;generalize hk2 : q2.length = k2 at *;clear hk2
     go_wp2_with (first
      | (go_at_call 6; (with_reducible refine (cP _ hrr).mono ?_); rintro e w1 ⟨rfl, hz1⟩)
      | (go_at_call 8; (with_reducible refine (cK _ hz1).mono ?_); rintro e w2 ⟨rfl, hz2⟩)
      | (go_at_call 16; (with_reducible refine (cV _ hz2).mono ?_); rintro e w3 ⟨rfl, hz3⟩)
      | (go_at_call 71; (with_reducible refine (cA _ hz3).mono ?_); rintro e w4 ⟨A2, c2, rfl, ho2, hz4⟩)
      | (go_at_call 60; (with_reducible refine (cB _ _ _ ho2).mono ?_); rintro e w5 ⟨rfl, hz5⟩)
      | fail)
     go_roundg (gk - 1)
     case measure => omega
     case rel => exact ⟨j + 1, A', n', c', by omega, by omega, by omega, rfl, rfl, by rw [Hs.out]; exact Hn', by rw [Hs.out]; exact zb (hO.out.fr (za hz4 hz5)), zb (za hF1 (za hz4 hz5))⟩
   ·have h60z : ¬ (j : Int) < 80 := by omega
    have He : Hid (zef ns most = zbC ns most j) := zb (by unfold zef; rw [Hn.out, show min n 80 = j by omega]);clear hlt h60;go_wp2_with fail;go_ret;rw [He.out, Hn'.out];exact ⟨A', c', rfl, hO.out, hF.out⟩
  ·have hjz : ¬ (j : Int) < (n : Int) := by omega
   have He : Hid (zef ns most = zbC ns most j) := zb (by unfold zef; rw [Hn.out, show min n 80 = j by omega]);clear hlt;go_wp2_with fail;go_ret;rw [He.out, Hn'.out];exact ⟨A', c', rfl, hO.out, hF.out⟩
end
section
attribute [local go_sem ↓] zt zw zaX
section
variable {W : World} {A A2 : Option Addr} {c c2 : Nat} {l l2 : List RM} {m : RM} {k : RK}
end
def wantM (o : Option RM) (m : RM) : RM := match o with | some x => za7 x m | none => m
end
section
attribute [local go_sem ↓] zt zw zaX
end
section
attribute [local go_sem ↓] zt zbh zae zw zaX
end
section
theorem zkr {a b : Bool} {p : Prop} (ha : a = true ↔ p) (hb : b = true ↔ p) : a = b := by
 cases a <;> cases b <;> simp_all
end
section
def spl1 (l : List RE) : List RE := if l.length < 2 then [] else l.take (zaZ l)
def spl2 (l : List RE) : List RE := if l.length < 2 then [] else l.drop (zaZ l)
def splK (l : List RE) : RK := if l.length < 2 then zr else ((l.drop (zaZ l)).headD zea).key
def splB (l : List RE) : Bool := if l.length < 2 then false else true
section
variable {W : World} {A A2 : Option Addr} {c c2 : Nat} {l : List RE}
end
end
end Go.Proofs.YtmjjjdikpnhpiaaGreat
