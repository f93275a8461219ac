/- The document's halves and insertions. -/
import Derived.Test.YtiggcgajanfbjaaGreatLfH
import Derived.Test.YtiggcgajanfbjaaGreatLfF
import Derived.Test.YtiggcgajanfbjaaGreatLfK
import Derived.Test.YtiggcgajanfbjaaGreatShort
import Derived.Test.YtiggcgajanfbjaaGreatBufT
import Derived.Test.YtiggcgajanfbjaaGreatLfL
import Derived.Test.YtiggcgajanfbjaaGreatFnE
import Derived.Test.YtiggcgajanfbjaaGreatFnH
namespace Go.Proofs.YtiggcgajanfbjaaGreat
set_option linter.unusedVariables false
set_option linter.unusedSimpArgs false
set_option maxRecDepth 100000
open Go.RowKit
section
attribute [local go_sem ↓] zt zbh zae zw
end
section
attribute [local go_sem ↓] zt zbh zae zw
end
section
attribute [local go_sem ↓] zt zbh zae zw zeW
end
section
attribute [local go_sem ↓] zt zbh zae zw zeW
set_option maxHeartbeats 2000000 in
theorem ziJ {w : World} {A : Option Addr} {n c : Nat} (h2 : n < 2) :
 Calls Tryz.prog 49 #[.slice A n c] w fun e w' => e = .returned (.tuple #[.slice none 0 0, .slice none 0 0, kv zr, .bool false]) ∧ Fr w w' := by
 obtain ⟨Z, hZ, hF, hZZ, hK, hS⟩ := zcn w;rw [zH] at hZ;have h2z : (n : Int) < 2 := by omega
 go_enter Tryz.func49, Tryz.ntmps49
 go_wp2_with (first
  | (refine zi (ds := kc zr) zC rfl (.tmp 4) (.tmp 13) rfl w.heap.size 0 rfl rfl (zl _) (zU _) hK (by decide) (zk _ _ (by decide)) ?_; intro W5 hM5 hk5; have hF5 := hk5.fr hF (Nat.le_refl _); clear hk5)
  | fail)
 exact bodyPost_ret (zaf.result4 rfl _ w.heap.size rfl (zl _) hM5) rfl ⟨rfl, hF5⟩
set_option maxHeartbeats 4000000 in
theorem zl9 {w : World} {A : Option Addr} {n c B : Nat} {l : List RE} {p : RE} (hl : Has w B A (zm ec l)) (hB : B ≤ w.heap.size) (hn : l.length = n) (hnc : n ≤ c) (hsm : n ≤ 100000) (wl : WfE l) (hs : SmE l) (h2 : 2 ≤ n) (hp : l[zaZ l]? = some p) :
 Calls Tryz.prog 49 #[.slice A n c] w fun e w' => ∃ A1 c1 A2 c2, e = .returned (.tuple #[.slice A1 (zaZ l) c1, .slice A2 (n - zaZ l) c2, kv p.key, .bool true]) ∧ zau w' w.heap.size A1 c1 (l.take (zaZ l)) ∧ zau w' w.heap.size A2 c2 (l.drop (zaZ l)) ∧ Fr w w' := by
 obtain ⟨Z, hZ, hF, hZZ, hK, hS⟩ := zcn w;rw [zH] at hZ;have hlZ := hl.fr hB hF;have hBZ : B ≤ Z.heap.size := Nat.le_trans hB hF.size;have h0 : l[0]? = some (l[0]'(by omega)) := List.getElem?_eq_getElem _;generalize l[0]'(by omega) = x0 at h0;obtain ⟨b, off, rfl, hb1, hr⟩ := zJ hlZ wl.wid (by decide) (by intro e; rw [e] at h0; simp at h0);have cB := fun W h => (zer (c := c) (hlZ.fr hBZ h) (Nat.le_trans hBZ h.size) hn hsm wl hs).mono (fun e w' (hh : _ ∧ Fr W w') => (⟨hh.1, za h hh.2⟩ : _ ∧ Fr Z w'));have hAll := zbG hs;rw [hn] at hAll;have Hl := zb hlZ;have Hn := zb hn;have Hwl := zb wl;have Hs := zb hs;obtain ⟨sp, hsp⟩ : ∃ sp, zaZ l = sp := ⟨_, rfl⟩;rw [hsp] at hp ⊢;have Hsp := zb hsp;have Hp := zb hp;have HK := zb hK;have h2z : ¬ (n : Int) < 2 := by omega
 obtain ⟨all, hall⟩ : ∃ all, zQ l = all := ⟨_, rfl⟩;rw [hall] at cB hAll;have HA := zb hall;have hnz : (0 : Int) < (n : Int) := by omega
 have hn0 : 0 < n := by omega
 clear hl hlZ hn wl hs hsp hp hK hr h0 hall x0;go_enter Tryz.func49, Tryz.ntmps49
 go_wp2_with (first
  | (go_at_call 67; (with_reducible refine (cB Z hZZ).mono ?_); rintro e w7 ⟨rfl, hz7⟩)
  | fail)
 go_loopg [7] n (fun g s7 wr => ∃ j : Nat, 1 ≤ j ∧ j < n ∧ n - j ≤ g ∧ s7 = .int .i64 j ∧ Hid (Fr Z wr) ∧ Hid (∀ i, 1 ≤ i → i < j → 2 * zQ (l.take i) < all))
 case atStart => exact ⟨1, by omega, by omega, by omega, rfl, zb (show Fr Z _ by assumption), zb (fun i h1 h2 => by omega)⟩
 case round =>
  obtain ⟨j, hj1, hjn, hjg, rfl, hF8, Hfew⟩ := hrel;have hR := zbG (Hs.out.sub (List.take_sublist j l));have hlen : (l.take j).length = j := by rw [List.length_take, Hn.out]; omega
  rw [hlen] at hR;have hZ8 := hF8.out;have hwi : IntKind.i64.wrap ((n : Int) - 1) = (n : Int) - 1 := by rw [IntKind.wrap_i64]; omega
  have hm : l[j]? = some (l[j]'(by rw [Hn.out]; exact hjn)) := List.getElem?_eq_getElem _;generalize l[j]'(by rw [Hn.out]; exact hjn) = m at hm;have hjz : (j : Int) < (n : Int) := by omega
  have q1 := zcv (some ⟨b, off, none⟩) n c j (by omega);have hwt := zdZ Hl.out Hwl.out.wid j;have cT := (zer (c := c) (hwt.fr hBZ hZ8) (Nat.le_trans hBZ hZ8.size) hlen (by omega) (fun x hx => Hwl.out x (List.mem_of_mem_take hx)) (Hs.out.sub (List.take_sublist j l))).mono (fun e w' (hh : _ ∧ Fr wr w') => (⟨hh.1, za hZ8 hh.2⟩ : _ ∧ Fr Z w'))
  by_cases hgo : j + 1 < n ∧ 2 * zQ (l.take j) < all
  ·have Hfew2 : Hid (∀ i, 1 ≤ i → i < j + 1 → 2 * zQ (l.take i) < all) := zb (fun i h1 h2 => by
    by_cases e : i = j
    ·rw [e]; exact hgo.2
    ·exact Hfew.out i h1 (by omega))
   obtain ⟨g1, g2⟩ := hgo;have g1z : (j : Int) < (n : Int) - 1 := by omega
   generalize zQ (l.take j) = s at *;clear hm hlen Hfew hwt
   go_wp2_with (first
    | (go_at_call 67; (with_reducible refine cT.mono ?_); rintro e w9 ⟨rfl, hz9⟩)
    | fail)
   go_roundg (gk - 1)
   case measure => omega
   case rel => exact ⟨j + 1, by omega, by omega, by omega, rfl, zb hz9, Hfew2⟩
  ·have hj : j = zaZ l := ziO Hs.out hj1 (by rw [Hn.out]; exact hjn) (by
    rw [HA.out, Hn.out]
    by_cases h9 : j + 1 < n
    ·exact .inl (by
      rcases Int.lt_or_le (2 * zQ (l.take j)) all with h | h
      ·exact absurd ⟨h9, h⟩ hgo
      ·exact h)
    ·exact .inr (by omega)) (by rw [HA.out]; exact Hfew.out)
   have hjs : j = sp := hj.trans Hsp.out;clear hj;subst hjs
   have hmp : m = p := by
    have := Hp.out;rw [hm] at this
    injection this
   subst hmp;have hgz : (j : Int) < (n : Int) - 1 → ¬ (2 * zQ (l.take j) < all) := fun h h' => hgo ⟨by omega, h'⟩;have q2 := zaW (some ⟨b, off, none⟩) n c j (by omega);rw [zck (by omega)] at q2;have hwd := zbm Hl.out Hwl.out.wid j;have hld : (l.drop j).length = n - j := by rw [List.length_drop, Hn.out]
   have lt1 : (zm ec (l.take j)).length = j * 26 := by rw [zaa (Hwl.out.wid.take j), hlen]
   have lt2 : (zm ec (l.drop j)).length = (n - j) * 26 := by rw [zaa (Hwl.out.wid.drop j), hld]
   have hm0 : (l.drop j)[0]? = some m := by rw [List.getElem?_drop]; exact hm
   have end2 : ∀ W, Fr Z W → ∀ (A1 : Option Addr) (c1 : Nat), Hid (zau W Z.heap.size A1 c1 (l.take j)) → ∀ (A2 : Option Addr) (c2 : Nat), Hid (zau W Z.heap.size A2 c2 (l.drop j)) → ∃ g2, A2 = some ⟨g2, 0, none⟩ ∧ (∀ W', Fr W W' → (ldS 26 (.pointer (some ⟨g2, 0, none⟩))).run Tryz.prog W' = .ok (.agg (kc m.key).toArray) W') := fun W hW A1 c1 h1 A2 c2 h2 => by
    obtain ⟨g2, rfl⟩ := h2.out.addr (by rw [hld]; omega)
    have hr2 : W.rangeAt g2 0 (zm ec (l.drop j)) := fun t v ht => by
     obtain ⟨b', off', e, -, hc⟩ := h2.out.has t v ht
     injection e with e
     injection e with e1 e2
     subst e1 e2;exact hc
    have hwd' : Wid ec 26 (l.drop j) := Hwl.out.wid.drop j;have lB := zak (o := 0) zaf hr2 hwd' (h2.out.lt g2 rfl).2 hm0 (zcC m) (zl _);simp only [Nat.zero_mul, Nat.add_zero] at lB;exact ⟨g2, rfl, lB⟩
   have HlT := zb hlen;have HlD := zb hld;generalize zQ (l.take j) = s at *;have hoL : ∀ W, Fr Z W → Own (W.alloc (.cells #[] 63)) Z.heap.size 63 26 (some ⟨W.heap.size, 0, none⟩) 0 0 (zm ec ([] : List RE)) := fun W h => Own.lit W Z.heap.size 63 #[] 0 26 h.size (Nat.zero_le _) rfl;have hTA : ∀ W, Fr Z W → Has (W.alloc (.cells #[] 63)) B (some ⟨b, off, none⟩) (zm ec (l.take j)) := fun W h => hwt.fr hBZ (zf h _);have hDA : ∀ W, Fr Z W → Has (W.alloc (.cells #[] 63)) B (some ⟨b, off + j * 26, none⟩) (zm ec (l.drop j)) := fun W h => hwd.fr hBZ (zf h _);have hsL : ∀ W, Fr Z W → Z.heap.size ≤ (W.alloc (.cells #[] 63)).heap.size := fun W h => by have := h.size; simp; omega
   have st : ∀ W, zbc W w.heap.size 26 9 → (stS 26 (.pointer (some ⟨w.heap.size, 0, none⟩)) (.agg (kc m.key).toArray)).run Tryz.prog W = .ok () (W.setRow w.heap.size (kc m.key).toArray) := fun W h => zjR zC h (zl _) (zU _);have hjn0 : 0 < n - j := by omega
   have hjnz : (0 : Int) < ((n - j : Nat) : Int) := by omega
   by_cases h9 : j + 1 < n
   ·have h9z : (j : Int) < (n : Int) - 1 := by omega
    have h8z := hgz h9z;clear hm hlen hld Hfew hgz hgo Hp hwt hwd h9 hm0
    go_wp2_with (first
     | (go_at_call 67; (with_reducible refine cT.mono ?_); rintro e w9 ⟨rfl, hz9⟩)
     | (refine zao zcN zaA (by decide) rfl (.tmp 32) (.tmp 35) rfl (some ⟨w9.heap.size, 0, none⟩) 0 0 [] rfl (hoL w9 hz9) B (some ⟨b, off, none⟩) j c (l.take j) rfl lt1 (hTA w9 hz9) (za5 _) (by simp only [maxLen]; omega) (by omega) (hsL w9 hz9) ?_; intro A1 c1 w1 h1 h2 h3
        have hz1 : Fr Z w1 := zat (zf hz9 _) (hoL w9 hz9) h2 (hsL w9 hz9) (Nat.le_refl _)
        have ho1 : Hid (zau w1 Z.heap.size A1 c1 (l.take j)) := zb (by
         unfold zau;rw [HlT.out];rw [List.nil_append, Nat.zero_add] at h1;exact h1)
        clear h1 h2 h3)
     | (refine zao zcN zaA (by decide) rfl (.tmp 37) (.tmp 40) rfl (some ⟨w1.heap.size, 0, none⟩) 0 0 [] rfl (hoL w1 hz1) B (some ⟨b, off + j * 26, none⟩) (n - j) (c - j) (l.drop j) rfl lt2 (hDA w1 hz1) (za5 _) (by simp only [maxLen]; omega) (by omega) (hsL w1 hz1) ?_; intro A2 c2 w2 h1 h2 h3
        have hz2 : Fr Z w2 := zat (zf hz1 _) (hoL w1 hz1) h2 (hsL w1 hz1) (Nat.le_refl _)
        have ho2 : Hid (zau w2 Z.heap.size A2 c2 (l.drop j)) := zb (by
         unfold zau;rw [HlD.out];rw [List.nil_append, Nat.zero_add] at h1;exact h1)
        have ho1b : Hid (zau w2 Z.heap.size A1 c1 (l.take j)) := zb ((ho1.out.alloc _).kept h2 (by
         cases hA : blk A1 with
         | none => exact .inl rfl
         | some k =>
          have hk := (ho1.out.lt k hA).2;exact .inr (fun e => by injection e with e; simp only at e; omega)))
        obtain ⟨g2, rfl, lB⟩ := end2 w2 hz2 A1 c1 ho1b A2 c2 ho2;have hob := zbc.of (HK.out.below hz2 HK.out.lt) (zl _);have hobD := zbc.drew hob;have hw2 := za hF hz2;have h22 := ze w2;have h2D := zn h22;clear h1 h2 h3)
     | fail)
    go_region
    all_goals
     go_wp2_with fail;refine bodyPost_ret (zaf.result4 (cs := kc m.key) rfl _ w.heap.size rfl (zl _) (zbc.put (by assumption) _)) rfl ?_;refine ⟨A1, c1, some ⟨g2, 0, none⟩, c2, rfl, ?_, ?_, zaM (zn hw2) (Nat.le_refl _) _⟩
     ·exact (zaq (zct ho1b.out) (by omega) _).mono hF.size
     ·exact (zaq (zct ho2.out) (by omega) _).mono hF.size
   ·have h9z : ¬ (j : Int) < (n : Int) - 1 := by omega
    clear hm hlen hld Hfew hgz hgo Hp hwt hwd h9 hm0 cT
    go_wp2_with (first
     | (refine zao zcN zaA (by decide) rfl (.tmp 32) (.tmp 35) rfl (some ⟨wr.heap.size, 0, none⟩) 0 0 [] rfl (hoL wr hZ8) B (some ⟨b, off, none⟩) j c (l.take j) rfl lt1 (hTA wr hZ8) (za5 _) (by simp only [maxLen]; omega) (by omega) (hsL wr hZ8) ?_; intro A1 c1 w1 h1 h2 h3
        have hz1 : Fr Z w1 := zat (zf hZ8 _) (hoL wr hZ8) h2 (hsL wr hZ8) (Nat.le_refl _)
        have ho1 : Hid (zau w1 Z.heap.size A1 c1 (l.take j)) := zb (by
         unfold zau;rw [HlT.out];rw [List.nil_append, Nat.zero_add] at h1;exact h1)
        clear h1 h2 h3)
     | (refine zao zcN zaA (by decide) rfl (.tmp 37) (.tmp 40) rfl (some ⟨w1.heap.size, 0, none⟩) 0 0 [] rfl (hoL w1 hz1) B (some ⟨b, off + j * 26, none⟩) (n - j) (c - j) (l.drop j) rfl lt2 (hDA w1 hz1) (za5 _) (by simp only [maxLen]; omega) (by omega) (hsL w1 hz1) ?_; intro A2 c2 w2 h1 h2 h3
        have hz2 : Fr Z w2 := zat (zf hz1 _) (hoL w1 hz1) h2 (hsL w1 hz1) (Nat.le_refl _)
        have ho2 : Hid (zau w2 Z.heap.size A2 c2 (l.drop j)) := zb (by
         unfold zau;rw [HlD.out];rw [List.nil_append, Nat.zero_add] at h1;exact h1)
        have ho1b : Hid (zau w2 Z.heap.size A1 c1 (l.take j)) := zb ((ho1.out.alloc _).kept h2 (by
         cases hA : blk A1 with
         | none => exact .inl rfl
         | some k =>
          have hk := (ho1.out.lt k hA).2;exact .inr (fun e => by injection e with e; simp only at e; omega)))
        obtain ⟨g2, rfl, lB⟩ := end2 w2 hz2 A1 c1 ho1b A2 c2 ho2;have hob := zbc.of (HK.out.below hz2 HK.out.lt) (zl _);have hobD := zbc.drew hob;have hw2 := za hF hz2;have h22 := ze w2;have h2D := zn h22;clear h1 h2 h3)
     | fail)
    go_region
    all_goals
     go_wp2_with fail;refine bodyPost_ret (zaf.result4 (cs := kc m.key) rfl _ w.heap.size rfl (zl _) (zbc.put (by assumption) _)) rfl ?_;refine ⟨A1, c1, some ⟨g2, 0, none⟩, c2, rfl, ?_, ?_, zaM (zn hw2) (Nat.le_refl _) _⟩
     ·exact (zaq (zct ho1b.out) (by omega) _).mono hF.size
     ·exact (zaq (zct ho2.out) (by omega) _).mono hF.size
end
section
attribute [local go_sem ↓] zt zbh zae zw zaX
end
section
attribute [local go_sem ↓] zt zw
theorem insI_one (l : List Int) (x i id : Int) : zbu (l ++ [x]) i id = zbu l i id ++ [x] ++ (if i = (l.length : Int) then [id] else []) := by
 by_cases h0 : i < 0
 ·rw [zdn (.inl h0), zdn (.inl h0), if_neg (by omega), List.append_nil]
 ·obtain ⟨q, rfl⟩ : ∃ q : Nat, i = q := ⟨i.toNat, by omega⟩
  rcases Nat.lt_trichotomy q l.length with h | h | h
  ·rw [zf7 (by simp; omega), zf7 h, if_neg (by omega), List.append_nil, List.take_append_of_le_length (by omega), List.drop_append_of_le_length (by omega)]
   simp
  ·rw [zf7 (by simp; omega), zdn (.inr (by omega)), if_pos (by omega), List.take_of_length_le (by simp; omega), List.drop_eq_nil_of_le (by simp; omega)]
  ·rw [zdn (.inr (by simp; omega)), zdn (.inr (by omega)), if_neg (by omega), List.append_nil]
def zgG (l : List RK) (i : Int) (x : RK) : List RK := if 0 ≤ i ∧ i < l.length then l.take i.toNat ++ x :: l.drop i.toNat else l
theorem zc3 {l : List RK} {i : Int} {x : RK} (h : i < 0 ∨ (l.length : Int) ≤ i) : zgG l i x = l := by unfold zgG; rw [if_neg (by omega)]
theorem zgw {l : List RK} {q : Nat} {x : RK} (h : q < l.length) : zgG l (q : Int) x = l.take q ++ x :: l.drop q := by unfold zgG; rw [if_pos (by omega)]; rfl
theorem insW_one (l : List RK) (p x : RK) (i : Int) : zgG (l ++ [p]) i x = zgG l i x ++ (if i = (l.length : Int) then [x] else []) ++ [p] := by
 by_cases h0 : i < 0
 ·rw [zc3 (.inl h0), zc3 (.inl h0), if_neg (by omega), List.append_nil]
 ·obtain ⟨q, rfl⟩ : ∃ q : Nat, i = q := ⟨i.toNat, by omega⟩
  rcases Nat.lt_trichotomy q l.length with h | h | h
  ·rw [zgw (by simp; omega), zgw h, if_neg (by omega), List.append_nil, List.take_append_of_le_length (by omega), List.drop_append_of_le_length (by omega)]
   simp
  ·rw [zgw (by simp; omega), zc3 (.inr (by omega)), if_pos (by omega), List.take_append_of_le_length (by omega), List.take_of_length_le (by omega), List.drop_append_of_le_length (by omega), List.drop_eq_nil_of_le (by omega)]
   simp
  ·rw [zc3 (.inr (by simp; omega)), zc3 (.inr (by omega)), if_neg (by omega), List.append_nil]
theorem insW_end {ps : List RK} {i : Int} {x : RK} {n n2 : Nat} (hn2 : ps.length = n2) (hlen : n2 + 1 = n) : zbz n ps i x = zgG ps i x ++ (if i = (n2 : Int) then [x] else []) := by
 by_cases h0 : i < 0
 ·rw [zhw (.inl h0), zc3 (.inl h0), if_neg (by omega), List.append_nil]
 ·obtain ⟨q, rfl⟩ : ∃ q : Nat, i = q := ⟨i.toNat, by omega⟩
  rcases Nat.lt_trichotomy q n2 with h | h | h
  ·rw [zhK (by omega), zgw (by omega), if_neg (by omega), List.append_nil]
  ·rw [zhK (by omega), zc3 (.inr (by omega)), if_pos (by omega), List.take_of_length_le (by omega), List.drop_eq_nil_of_le (by omega)]
  ·rw [zhw (.inr (by omega)), zc3 (.inr (by omega)), if_neg (by omega), List.append_nil]
set_option maxHeartbeats 4000000 in
theorem ziA {W0 w : World} {A A2 : Option Addr} {n c B n2 c2 B2 : Nat} {ks : List Int} {ps : List RK} {x : RK} {i id : Int} (hk : Has w B A (zS ks)) (hB : B ≤ w.heap.size) (hn : ks.length = n) (hsm : n ≤ 10000) (hp : Has w B2 A2 (zm kc ps)) (hB2 : B2 ≤ w.heap.size) (hn2 : ps.length = n2) (hlen : n2 + 1 = n) (hi : zal i) (h0 : Fr W0 w) :
 Calls Tryz.prog 50 #[.slice A n c, .slice A2 n2 c2, .int .i64 i, kv x, .int .i64 id] w (zeO W0 (zbu ks i id) (zbz n ps i x)) := by
 obtain ⟨Z, hZ, hF, hZZ, lk⟩ := zfL w x;have hkZ := zb ((hk.fr hB hF).mono (Nat.le_trans hB hF.size));have hpZ := zb ((hp.fr hB2 hF).mono (Nat.le_trans hB2 hF.size));have HF := zb (za h0 hF);have Hn := zb hn;have Hn2 := zb hn2;have Hlen := zb hlen;have hnn : n2 < n := by omega
 clear hk hp hF h0 hn hn2 hB hB2 hlen;unfold zeO;go_enter Tryz.func50, Tryz.ntmps50;go_wp2_with fail
 go_loopg [12, 14] n (fun g s12 s14 wr => ∃ (j : Nat) (D : Option Addr) (d k : Nat), j + g = n ∧ s14 = .int .i64 j ∧ s12 = .slice D k d ∧ k ≤ 2 * j ∧ Hid ((zbu (ks.take j) i id).length = k) ∧ Hid (Own wr Z.heap.size 3 1 D k d (zS (zbu (ks.take j) i id))) ∧ Hid (Fr Z wr))
 case atStart => exact ⟨0, none, 0, 0, by omega, rfl, rfl, by omega, zb (by rw [List.take_zero, zdn (by simp; omega)]; rfl), zb (by rw [List.take_zero, zdn (by simp; omega)]; exact Own.nil _ _ _ _), zb hZZ⟩
 case round =>
  obtain ⟨j, D, d, k, hj, rfl, rfl, hkj, hk, hO, hW⟩ := hrel
  by_cases hlt : j < n
  ·have hm : ks[j]? = some (ks[j]'(by rw [Hn.out]; exact hlt)) := List.getElem?_eq_getElem _
   generalize ks[j]'(by rw [Hn.out]; exact hlt) = v at hm;obtain ⟨b, off, rfl, hb, hc⟩ := hkZ.out j _ (zdu hm);have hWW := hW.out;have hrr := ze wr;have cell : wr.cell? ⟨b, off + j, none⟩ = some (.int .i64 v) := (hWW.cell (by show b < Z.heap.size; omega)).trans hc;have hjz : (j : Int) < (n : Int) := by omega
   have hlj : (ks.take j).length = j := by rw [List.length_take, Hn.out]; omega
   have hstep : zbu (ks.take (j + 1)) i id = zbu (ks.take j) i id ++ [v] ++ (if i = (j : Int) then [id] else []) := by rw [zav hm, insI_one, hlj]
   generalize zbu (ks.take j) i id = xs at *;clear hm hc hlt hlj
   by_cases hij : i = (j : Int)
   ·rw [if_pos hij] at hstep
    have Hs := zb hstep;have q1 : ((j : Int) == i) = true := by simp [hij]
    clear hstep hij;have tok : Hid (0 < 1) := zb (by decide);have tok2 : Hid (0 < 1) := zb (by decide)
    go_wp2_with (first
     | (clear tok; refine zL (w0 := Z) zcf zbP (by decide) rfl (.tmp 22) (.tmp 27) rfl (zf hWW _) D k d (zS xs) rfl (hO.out.alloc _) (wr.heap.size + 1) (some ⟨wr.heap.size, 0, none⟩) 1 1 (zS [v]) rfl rfl (zev wr _ _) (zbZ _) (by unfold maxLen; omega) (by omega) ?_; intro D2 d2 w2 ho2 hf2)
     | (clear tok2; refine zL (w0 := Z) zcf zbP (by decide) rfl (.tmp 32) (.tmp 34) rfl (zf hf2 _) D2 (k + 1) d2 (zS xs ++ zS [v]) rfl (ho2.alloc _) (w2.heap.size + 1) (some ⟨w2.heap.size, 0, none⟩) 1 1 (zS [id]) rfl rfl (zev w2 _ _) (zbZ _) (by unfold maxLen; omega) (by omega) ?_; intro D3 d3 w3 ho3 hf3)
     | fail)
    go_roundg (gk - 1)
    case measure => omega
    case rel => exact ⟨j + 1, D3, d3, k + 1 + 1, by omega, rfl, rfl, by omega, zb (by rw [Hs.out]; simp; exact hk.out), zb (by rw [Hs.out, zd9, zd9]; exact ho3), zb hf3⟩
   ·rw [if_neg hij, List.append_nil] at hstep
    have Hs := zb hstep;have q1 : ((j : Int) == i) = false := by simpa using fun e : (j : Int) = i => hij e.symm
    clear hstep hij;have tok : Hid (0 < 1) := zb (by decide)
    go_wp2_with (first
     | (clear tok; refine zL (w0 := Z) zcf zbP (by decide) rfl (.tmp 22) (.tmp 27) rfl (zf hWW _) D k d (zS xs) rfl (hO.out.alloc _) (wr.heap.size + 1) (some ⟨wr.heap.size, 0, none⟩) 1 1 (zS [v]) rfl rfl (zev wr _ _) (zbZ _) (by unfold maxLen; omega) (by omega) ?_; intro D2 d2 w2 ho2 hf2)
     | fail)
    go_roundg (gk - 1)
    case measure => omega
    case rel => exact ⟨j + 1, D2, d2, k + 1, by omega, rfl, rfl, by omega, zb (by rw [Hs.out]; simp; exact hk.out), zb (by rw [Hs.out, zd9]; exact ho2), zb hf2⟩
  ·have hjn : j = n := by omega
   have hjz : ¬ (j : Int) < (n : Int) := by omega
   have hall : ks.take j = ks := List.take_of_length_le (by rw [Hn.out]; omega);rw [hall] at hk hO;generalize hxs : zbu ks i id = xs at *;have HXs := zb hxs;clear hxs;have hFo := hW.out;have hO1 := hO;have hk1 := hk;have hkb : k ≤ 2 * n := by omega
   obtain ⟨D0, hD0⟩ : ∃ D0, D0 = D := ⟨_, rfl⟩;obtain ⟨d0, hd0⟩ : ∃ d0, d0 = d := ⟨_, rfl⟩;obtain ⟨k0, hk0⟩ : ∃ k0, k0 = k := ⟨_, rfl⟩;rw [← hD0, ← hd0, ← hk0];rw [← hD0, ← hd0, ← hk0] at hO1;rw [← hk0] at hk1;clear hall hlt hjn hj hW hO hk hD0 hd0 hk0 hkj hkb;obtain ⟨go0, rfl⟩ : ∃ go0 : Nat, go0 = gk := ⟨_, rfl⟩;obtain ⟨wo, rfl⟩ : ∃ wo : World, wo = wr := ⟨_, rfl⟩;go_wp2_with fail
   go_loopg [13, 15] n2 (fun g s13 s15 wr => ∃ (j : Nat) (D : Option Addr) (d k : Nat), j + g = n2 ∧ s15 = .int .i64 j ∧ s13 = .slice D k d ∧ k ≤ 2 * j ∧ Hid ((zgG (ps.take j) i x).length = k) ∧ Hid (Own wr wo.heap.size 26 9 D k d (zm kc (zgG (ps.take j) i x))) ∧ Hid (Fr wo wr))
   case atStart => exact ⟨0, none, 0, 0, by omega, rfl, rfl, by omega, zb (by rw [List.take_zero, zc3 (by simp; omega)]; rfl), zb (by rw [List.take_zero, zc3 (by simp; omega)]; exact Own.nil _ _ _ _), zb (ze _)⟩
   case round =>
    obtain ⟨j, D, d, k, hj, rfl, rfl, hkj, hk, hO, hW⟩ := hrel;have hWW := hW.out;have lk2 := fun W (h : Fr wo W) => lk W (za hFo h)
    by_cases hlt : j < n2
    ·have hm : ps[j]? = some (ps[j]'(by rw [Hn2.out]; exact hlt)) := List.getElem?_eq_getElem _
     generalize ps[j]'(by rw [Hn2.out]; exact hlt) = p at hm;obtain ⟨b, off, rfl, hb1, hr⟩ := zJ hpZ.out (zdX ps) (by decide) (by intro e; rw [e] at hm; simp at hm);have lX0 := z9 zaf hr (zdX ps) (by omega) hm;have lX := fun W (h : Fr wo W) => lX0 W (za hFo h);have hjz : (j : Int) < (n2 : Int) := by omega
     have hlj : (ps.take j).length = j := by rw [List.length_take, Hn2.out]; omega
     have hstep : zgG (ps.take (j + 1)) i x = zgG (ps.take j) i x ++ (if i = (j : Int) then [x] else []) ++ [p] := by rw [zav hm, insW_one, hlj]
     generalize zgG (ps.take j) i x = vs at *;clear hm hr hlt hlj lX0
     by_cases hij : i = (j : Int)
     ·rw [if_pos hij] at hstep
      have Hs := zb hstep;have q1 : ((j : Int) == i) = true := by simp [hij]
      have q2 : i < (n : Int) := by omega
      clear hstep hij;have tok : Hid (0 < 1) := zb (by decide);have tok2 : Hid (0 < 1) := zb (by decide)
      go_wp2_with (first
       | (clear tok; refine zL (w0 := wo) zc8 zcJ (by decide) rfl (.tmp 51) (.tmp 53) rfl (zf hWW _) D k d (zm kc vs) rfl (hO.out.alloc _) (wr.heap.size + 1) (some ⟨wr.heap.size, 0, none⟩) 1 1 (kc x) rfl rfl (zby wr x _) (zU _) (by unfold maxLen; omega) (by omega) ?_; intro D2 d2 w2 ho2 hf2)
       | (clear tok2; refine zL (w0 := wo) zc8 zcJ (by decide) rfl (.tmp 55) (.tmp 60) rfl (zf hf2 _) D2 (k + 1) d2 (zm kc vs ++ kc x) rfl (ho2.alloc _) (w2.heap.size + 1) (some ⟨w2.heap.size, 0, none⟩) 1 1 (kc p) rfl rfl (zby w2 p _) (zU _) (by unfold maxLen; omega) (by omega) ?_; intro D3 d3 w3 ho3 hf3)
       | fail)
      go_roundg (gk - 1)
      case measure => omega
      case rel => exact ⟨j + 1, D3, d3, k + 1 + 1, by omega, rfl, rfl, by omega, zb (by rw [Hs.out]; simp; exact hk.out), zb (by rw [Hs.out, zas, zas, zbj, zbj]; exact ho3), zb hf3⟩
     ·rw [if_neg hij, List.append_nil] at hstep
      have Hs := zb hstep;have q1 : ((j : Int) == i) = false := by simpa using fun e : (j : Int) = i => hij e.symm
      clear hstep hij;have tok : Hid (0 < 1) := zb (by decide)
      go_wp2_with (first
       | (clear tok; refine zL (w0 := wo) zc8 zcJ (by decide) rfl (.tmp 55) (.tmp 60) rfl (zf hWW _) D k d (zm kc vs) rfl (hO.out.alloc _) (wr.heap.size + 1) (some ⟨wr.heap.size, 0, none⟩) 1 1 (kc p) rfl rfl (zby wr p _) (zU _) (by unfold maxLen; omega) (by omega) ?_; intro D2 d2 w2 ho2 hf2)
       | fail)
      go_roundg (gk - 1)
      case measure => omega
      case rel => exact ⟨j + 1, D2, d2, k + 1, by omega, rfl, rfl, by omega, zb (by rw [Hs.out]; simp; exact hk.out), zb (by rw [Hs.out, zas, zbj]; exact ho2), zb hf2⟩
    ·have hjn : j = n2 := by omega
     have hjz : ¬ (j : Int) < (n2 : Int) := by omega
     have hall : ps.take j = ps := List.take_of_length_le (by rw [Hn2.out]; omega);rw [hall] at hk hO;have hend := insW_end (i := i) (x := x) Hn2.out Hlen.out;have hcap : k ≤ 2 * n2 := by omega
     generalize zgG ps i x = vs at *;clear hall hlt hjn hj hkj
     by_cases hin : i = (n2 : Int)
     ·rw [if_pos hin] at hend
      have He := zb hend;have q1 : (i == (n2 : Int)) = true := by simp [hin]
      have q2 : 0 ≤ i := by omega
      have q3 : i < (n : Int) := by omega
      have hkk := hk;clear hend hin;have tok : Hid (0 < 1) := zb (by decide)
      go_wp2_with (first
       | (clear tok; refine zL (w0 := wo) zc8 zcJ (by decide) rfl (.tmp 76) (.tmp 78) rfl (zf hWW _) D k d (zm kc vs) rfl (hO.out.alloc _) (wr.heap.size + 1) (some ⟨wr.heap.size, 0, none⟩) 1 1 (kc x) rfl rfl (zby wr x _) (zU _) (by unfold maxLen; omega) (by omega) ?_; intro D2 d2 w2 ho2 hf2)
       | fail)
      go_ret2
      rw [HXs.out, He.out];exact ⟨D0, d0, D2, d2, by simp [hk1.out, hk.out], by have := (hO1.out.mono HF.out.size).below hf2 (Nat.le_refl _); rw [← hk1.out] at this; exact zb this, by have := ho2.mono (Nat.le_trans HF.out.size hFo.size); rw [← hk.out] at this; exact zb (by unfold OwnK; rw [List.length_append, zas, zbj]; exact this), za HF.out (za hFo hf2)⟩
     ·rw [if_neg hin, List.append_nil] at hend
      have He := zb hend;have q1 : (i == (n2 : Int)) = false := by simpa using hin
      clear hend hin;go_wp2_with fail
      go_ret2
      rw [HXs.out, He.out];exact ⟨D0, d0, D, d, by simp [hk1.out, hk.out], by have := (hO1.out.mono HF.out.size).below hW.out (Nat.le_refl _); rw [← hk1.out] at this; exact zb this, by have := hO.out.mono (Nat.le_trans HF.out.size hFo.size); rw [← hk.out] at this; exact zb this, za HF.out (za hFo hWW)⟩
end
section
attribute [local go_sem ↓] zt zw zeW
end
section
attribute [local go_sem ↓] zt zw zeW
set_option maxHeartbeats 2000000 in
theorem zl1 {W0 w : World} {A A2 : Option Addr} {n c n2 c2 : Nat} (hn : n < 4) (h0 : Fr W0 w) :
 Calls Tryz.prog 88 #[.slice A n c, .slice A2 n2 c2] w fun e w' => e = .returned zgH ∧ Fr W0 w' := by
 obtain ⟨Z, hZ, hF, hZZ, hK, hS⟩ := zcn w;rw [zH] at hZ;have H0 := zb h0;have q1 : ((n : Int) == 4) = false := by simp; omega
 have q2 : ((n : Int) != 4) = true := by simp; omega
 clear h0;unfold zgH;go_enter Tryz.func88, Tryz.ntmps88
 go_wp2_with (first
  | (refine zi (ds := kc zr) zC rfl (.tmp 6) (.tmp 23) rfl w.heap.size 0 rfl rfl (zl _) (zU _) hK (by decide) (zk _ _ (by decide)) ?_; intro W5 hM5 hk5; have hF5 := hk5.fr hF (Nat.le_refl _); clear hk5)
  | fail)
 exact bodyPost_ret (zaf.result6 rfl _ w.heap.size rfl (zl _) hM5) rfl ⟨rfl, za H0.out hF5⟩
set_option maxHeartbeats 4000000 in
theorem zmk {W0 w : World} {A A2 : Option Addr} {c c2 B B2 : Nat} {ks : List Int} {ps : List RK} {m : RK} (hk : Has w B A (zS ks)) (hB : B ≤ w.heap.size) (hn : ks.length = 4) (hc : 4 ≤ c) (hp : Has w B2 A2 (zm kc ps)) (hB2 : B2 ≤ w.heap.size) (hn2 : ps.length = 3) (hc2 : 3 ≤ c2) (hm : ps[1]? = some m) (h0 : Fr W0 w) :
 Calls Tryz.prog 88 #[.slice A 4 c, .slice A2 3 c2] w (zfg W0 ks ps m) := by
 obtain ⟨Z, hZ, hF, hZZ, hK, hS⟩ := zcn w;rw [zH] at hZ;have HW0 := zb h0;have hkZ := (hk.fr hB hF).mono (Nat.le_trans hB hF.size);have hpZ := (hp.fr hB2 hF).mono (Nat.le_trans hB2 hF.size);obtain ⟨b2, off2, rfl, hb1, hr⟩ := zJ hp (zdX ps) (by decide) (by intro e; rw [e] at hm; simp at hm);have lM := z9 zaf hr (zdX ps) (by omega) hm;simp only [Nat.one_mul] at lM;have q1 : ∀ W, (Instr.slice 22 (.slice A 4 c) none (some (.int .i64 2)) none).run Tryz.prog W = .ok (.slice A 2 c) W := zcu A 4 c 2 (by decide) hc;have q2 : ∀ W, (Instr.slice 22 (.slice A 4 c) (some (.int .i64 2)) none none).run Tryz.prog W = .ok (.slice (zam A c 2) 2 (c - 2)) W := zc1 A 4 c 2 (by decide) hc;have q3 : ∀ W, (Instr.sliceAt 22 (.slice A 4 c) none (some (.int .i64 2)) none).run Tryz.prog W = .ok (.slice A 2 c) W := zdf A 4 c 2 (by decide) hc;have q4 : ∀ W, (Instr.sliceAt 22 (.slice A 4 c) (some (.int .i64 2)) none none).run Tryz.prog W = .ok (.slice (zam A c 2) 2 (c - 2)) W := zdh A 4 c 2 (by decide) hc;have q5 : ∀ W, (Instr.slice 34 (.slice (some ⟨b2, off2, none⟩) 3 c2) none (some (.int .i64 1)) none).run Tryz.prog W = .ok (.slice (some ⟨b2, off2, none⟩) 1 c2) W := zdo _ 3 c2 1 (by decide) hc2
 have q6 : ∀ W, (Instr.slice 34 (.slice (some ⟨b2, off2, none⟩) 3 c2) (some (.int .i64 2)) none none).run Tryz.prog W = .ok (.slice (zac (some ⟨b2, off2, none⟩) c2 2) 1 (c2 - 2)) W := zdp _ 3 c2 2 (by decide) hc2;have q7 : ∀ W, (Instr.sliceAt 34 (.slice (some ⟨b2, off2, none⟩) 3 c2) none (some (.int .i64 1)) none).run Tryz.prog W = .ok (.slice (some ⟨b2, off2, none⟩) 1 c2) W := zb0 _ 3 c2 1 (by decide) hc2;have q8 : ∀ W, (Instr.sliceAt 34 (.slice (some ⟨b2, off2, none⟩) 3 c2) (some (.int .i64 2)) none none).run Tryz.prog W = .ok (.slice (zac (some ⟨b2, off2, none⟩) c2 2) 1 (c2 - 2)) W := zdF _ 3 c2 2 (by decide) hc2;have r1 := zc5 hkZ 2;have r3 := zhV (c := c) hkZ (t := 2) (by rw [hn]; decide) (by rw [hn]; exact hc);have k1 : Has Z Z.heap.size (some ⟨b2, off2, none⟩) (zm kc (ps.take 1)) := zib hpZ 1;have k3 : Has Z Z.heap.size (zac (some ⟨b2, off2, none⟩) c2 2) (zm kc (ps.drop 2)) := zf3 (c := c2) hpZ (t := 2) (by rw [hn2]; decide) (by rw [hn2]; exact hc2);have e1 : (ks.take 2).length = 2 := by rw [List.length_take, hn]; rfl
 have e3 : (ks.drop 2).length = 2 := by rw [List.length_drop, hn]
 have f1 : (ps.take 1).length = 1 := by rw [List.length_take, hn2]; rfl
 have f3 : (ps.drop 2).length = 1 := by rw [List.length_drop, hn2]
 have HW0 := zb h0;have hrD := zn hZZ;have hSz := zb hS;have hKZ := zb hK;have hw2 : IntKind.i64.wrap (2 - 1) = 1 := by decide
 have hw3 : IntKind.i64.wrap 1 = 1 := by decide
 have hl1 : Hid ((zS (ks.take 2)).length = 2 * 1) := zb (by rw [zeP, e1]);have hl3 : Hid ((zS (ks.drop 2)).length = 2 * 1) := zb (by rw [zeP, e3]);have hm1 : Hid ((zm kc (ps.take 1)).length = 1 * 9) := zb (by rw [zfY, f1]);have hm3 : Hid ((zm kc (ps.drop 2)).length = 1 * 9) := zb (by rw [zfY, f3]);have r1 := zb r1;have r3 := zb r3;have k1 := zb k1;have k3 := zb k3;have hFw := zb hF;clear hk hp hkZ hpZ hr hm hn hn2 h0 e1 e3 f1 f3 hB hB2 hK hS hF;unfold zfg;go_enter Tryz.func88, Tryz.ntmps88;have tok1 : Hid (0 < 1) := zb (by decide);have tok2 : Hid (0 < 1) := zb (by decide);have tok3 : Hid (0 < 1) := zb (by decide);have tok4 : Hid (0 < 1) := zb (by decide)
 go_wp2_with (first
  | (clear tok1; refine zL (w0 := Z) zcf zbP (by decide) rfl (.tmp 24) (.tmp 27) rfl (zf hZZ _) (some ⟨Z.heap.size, 0, none⟩) 0 0 [] rfl (Own.lit Z Z.heap.size 3 #[] 0 1 (Nat.le_refl _) (Nat.zero_le _) rfl) Z.heap.size A 2 c (zS (ks.take 2)) rfl hl1.out ((r1.out.fr (Nat.le_refl _) (zf hZZ _))) (zbZ _) (by decide) (by decide) ?_; intro B1 d1 w1 o1 f1; simp only [List.nil_append, Nat.zero_add] at o1; have g1 := ze w1)
  | (clear tok2; refine zL (w0 := w1) zcf zbP (by decide) rfl (.tmp 29) (.tmp 32) rfl (zf g1 _) (some ⟨w1.heap.size, 0, none⟩) 0 0 [] rfl (Own.lit w1 w1.heap.size 3 #[] 0 1 (Nat.le_refl _) (Nat.zero_le _) rfl) w1.heap.size (zam A c 2) 2 (c - 2) (zS (ks.drop 2)) rfl hl3.out (((r3.out.step f1).fr (Nat.le_refl _) (zf g1 _))) (zbZ _) (by decide) (by decide) ?_; intro B2 d2 w2 o2 f2; simp only [List.nil_append, Nat.zero_add] at o2; have g2 := ze w2)
  | (clear tok3; refine zL (w0 := w2) zc8 zcJ (by decide) rfl (.tmp 34) (.tmp 38) rfl (zf g2 _) (some ⟨w2.heap.size, 0, none⟩) 0 0 [] rfl (Own.lit w2 w2.heap.size 26 #[] 0 9 (Nat.le_refl _) (Nat.zero_le _) rfl) w2.heap.size (some ⟨b2, off2, none⟩) 1 c2 (zm kc (ps.take 1)) rfl hm1.out (((k1.out.step (za f1 f2)).fr (Nat.le_refl _) (zf g2 _))) (zgn _) (by decide) (by decide) ?_; intro B3 d3 w3 o3 f3; simp only [List.nil_append, Nat.zero_add] at o3; have g3 := ze w3)
  | (clear tok4; refine zL (w0 := w3) zc8 zcJ (by decide) rfl (.tmp 40) (.tmp 43) rfl (zf g3 _) (some ⟨w3.heap.size, 0, none⟩) 0 0 [] rfl (Own.lit w3 w3.heap.size 26 #[] 0 9 (Nat.le_refl _) (Nat.zero_le _) rfl) w3.heap.size (zac (some ⟨b2, off2, none⟩) c2 2) 1 (c2 - 2) (zm kc (ps.drop 2)) rfl hm3.out (((k3.out.step (za (za f1 f2) f3)).fr (Nat.le_refl _) (zf g3 _))) (zgn _) (by decide) (by decide) ?_; intro B4 d4 w4 o4 f4; simp only [List.nil_append, Nat.zero_add] at o4; have g4 := ze w4)
  | fail)
 have f2z := za f1 f2;have f3z := za f2z f3;have f4z := za f3z f4;have hwD : Fr w w4.drew := za hFw.out (zn f4z);have hob : zbc w4.drew w.heap.size 26 9 := zbc.of (hKZ.out.below (zn f4z) hKZ.out.lt) (zl _);have s1 : Fr w1 w4.drew := zn (za (za f2 f3) f4);have s2 : Fr w2 w4.drew := zn (za f3 f4);have s3 : Fr w3 w4.drew := zn f4;have s4 : Fr w4 w4.drew := zn g4;replace o1 := zb ((Own.below o1 s1 (Nat.le_refl _)));replace o2 := zb ((Own.below o2 s2 (Nat.le_refl _)).mono f1.size);replace o3 := zb ((Own.below o3 s3 (Nat.le_refl _)).mono f2z.size);replace o4 := zb ((Own.below o4 s4 (Nat.le_refl _)).mono f3z.size);clear s1 s2 s3 s4 f1 f2 f3 f4 f2z f3z f4z g1 g2 g3 g4 r1 r3 k1 k3;refine wp_region_noPanic ?_;refine wp_region_held_drew (S := fun w' => Fr w w') (by kernel_rfl) hwD (fun hHeld => ?_);change wpAnyH _ _ _ _ _ _ _ _ _;clear hHeld;generalize w4.drew = W at *;have st : (stS 26 (.pointer (some ⟨w.heap.size, 0, none⟩)) (.agg (kc m).toArray)).run Tryz.prog W = .ok () (W.setRow w.heap.size (kc m).toArray) := zjR zC hob (zl _) (zU _);have hset : Fr w (W.setRow w.heap.size (kc m).toArray) := zaM hwD (Nat.le_refl _) _;refine xto 0 ?_;refine xto 1 ?_;refine xto 2 ?_;refine xto 3 ?_;refine xto 4 ?_;refine xto 5 ?_;refine xto 6 ?_;refine xto 7 ?_;refine xto 8 ?_;refine xto 9 ?_;refine xto 10 ?_;refine xr 11 fun K hK0 => ?_;go_simp;refine xk hK0 hset ?_
 clear hK0 K
 try simp only [xs, Act.put]
 refine xto 12 ?_;refine xto 13 ?_;refine xto 14 ?_;refine wpAnyH_done (by kernel_rfl) ?_ _;refine NoPanic.normal ?_;go_wp2_with fail;refine bodyPost_ret (zaf.result6 (cs := kc m) rfl _ w.heap.size rfl (zl _) (zbc.put hob _)) rfl ?_;have hlt : w.heap.size < Z.heap.size := by rw [hSz.out]; omega
 exact ⟨B1, d1, B3, d3, B2, d2, B4, d4, rfl, zb ((zaq o1.out hlt _).mono (Nat.le_trans HW0.out.size (Nat.le_of_lt hlt))), zb ((zaq o3.out hlt _).mono (Nat.le_trans HW0.out.size (Nat.le_of_lt hlt))), zb ((zaq o2.out hlt _).mono (Nat.le_trans HW0.out.size (Nat.le_of_lt hlt))), zb ((zaq o4.out hlt _).mono (Nat.le_trans HW0.out.size (Nat.le_of_lt hlt))), za HW0.out hset⟩
end
end Go.Proofs.YtiggcgajanfbjaaGreat
