/- Plain arithmetic of layer 1: what shifting, reading and writing bytes come to, as functions on numbers and lists. No program text. -/
import Derived.Test.YtmjjjdikpnhpiaaGreatBase
import Derived.Test.YtmjjjdikpnhpiaaGreatRows
import Derived.WalkSpells
import Derived.WalkLawsBesides
import Derived.Deep.LoopGhost
namespace Go.Proofs.YtmjjjdikpnhpiaaGreat
set_option linter.unusedVariables false
set_option linter.unusedSimpArgs false
set_option maxRecDepth 100000
open Go.RowKit
section
def two64 : Int := 18446744073709551616
def shU (n c : Int) : Int := if c < 0 then n / 2 ^ min (-c).toNat 64 else (n * 2 ^ min c.toNat 64) % 18446744073709551616
def shI (n c : Int) : Int := if c < 0 then n / 2 ^ min (-c).toNat 64 else (n * 2 ^ min c.toNat 64 + 9223372036854775808) % 18446744073709551616 - 9223372036854775808
theorem zeB (n : Int) : IntKind.u64.wrap n = n % 18446744073709551616 := by
 simp [IntKind.wrap, IntKind.bits, IntKind.signed]
theorem w64_of (n : Int) : wrap64 n = (n + 9223372036854775808) % 18446744073709551616 - 9223372036854775808 := by
 unfold wrap64; rfl
theorem zn5 (c : Int) (h : c < 0) (hl : -9223372036854775808 ≤ c) : (IntKind.u64.wrap (wrap64 (-c))).toNat = (-c).toNat := by
 rw [zeB, w64_of]; omega
theorem shU_neg (n c : Int) (h : c < 0) (hl : -9223372036854775808 ≤ c) : n / 2 ^ min (IntKind.u64.wrap (wrap64 (-c))).toNat 64 = shU n c := by
 rw [zn5 c h hl, shU, if_pos h]
theorem shU_pos (n c : Int) (h : 0 ≤ c) : IntKind.u64.wrap (n * 2 ^ min c.toNat 64) = shU n c := by
 rw [zeB, shU, if_neg (by omega)]
def okW (w : Int) : Bool := decide (1 ≤ w) && decide (w ≤ 8)
theorem okW_iff (w : Int) : okW w = true ↔ 1 ≤ w ∧ w ≤ 8 := by simp [okW]
theorem eight (w : Int) (h : 1 ≤ w) (h' : w ≤ 8) : w = 1 ∨ w = 2 ∨ w = 3 ∨ w = 4 ∨ w = 5 ∨ w = 6 ∨ w = 7 ∨ w = 8 := by omega
def p256 (w : Int) : Int := 256 ^ w.toNat
def lowS (n w : Int) : Int := n % p256 w
def fitsS (n w : Int) : Bool := okW w && decide (n < p256 w)
def sgnS (n w : Int) : Int := if okW w then (n + p256 w / 2) % p256 w - p256 w / 2 else 0
def inS (n w : Int) : Bool := okW w && (decide (-(p256 w / 2) ≤ n) && decide (n < p256 w / 2))
end
section
set_option maxHeartbeats 400000 in
theorem shiftU (n c : Int) (hl : -9223372036854775808 ≤ c) (hu : c ≤ 9223372036854775807) (w : World) :
 Calls Tryz.prog 141 #[.int .u64 n, .int .i64 c] w fun e w' => e = .returned (.int .u64 (shU n c)) ∧ w = w' := by
 by_cases h : c < 0
 ·go_enter Tryz.func141, Tryz.ntmps141
  go_wp2
  go_ret;exact ⟨zbM (shU_neg n c h hl), rfl⟩
 ·go_enter Tryz.func141, Tryz.ntmps141
  go_wp2
  go_ret;exact ⟨zbM (shU_pos n c (by omega)), rfl⟩
set_option maxHeartbeats 400000 in
theorem zmZ (c : Int) (w : World) :
 Calls Tryz.prog 140 #[.int .i64 c] w fun e w' => e = .returned (.bool (okW c)) ∧ w = w' := by
 by_cases h : 1 ≤ c
 ·go_enter Tryz.func140, Tryz.ntmps140
  go_wp2
  go_ret;exact ⟨zek (by simp [okW, h]), rfl⟩
 ·go_enter Tryz.func140, Tryz.ntmps140
  go_wp2
  go_ret;exact ⟨zek (by simp [okW]; omega), rfl⟩
end
section
theorem zkk : (Tryz.prog.info? 5).map (fun i => (i.zero, i.size, i.bytes)) = some (some (.int .u8 0), 1, 1) := by kernel_rfl
abbrev u8s (zs : List Int) : List Value := zs.map (Value.int .u8)
theorem zfh {w : World} {ops : Array Oper} {rest : List Oper} {o : Oper} {a : Act} {Q : Exit → Act → World → Prop} (hgd : o.guard = none) (s x : Operand)
 (hop : o.op = .call { callee := .builtin .append, args := #[s, x], argTypes := #[58, 58] }) (B : Nat)
 (A : Option Addr) (n c : Nat) (zs : List Int) (hs : a.eval s = .slice A n c) (ho : Own w B 5 1 A n c (u8s zs))
 (C : Nat) (A2 : Option Addr) (m c2 : Nat) (ys : List Int) (hx : a.eval x = .slice A2 m c2) (hl : ys.length = m) (hn : Has w C A2 (u8s ys)) (hb : n + m ≤ 1000000) (hB : B ≤ w.heap.size)
 (h : ∀ A' c' w', Own w' B 5 1 A' (n + m) c' (u8s (zs ++ ys)) → w.grownBy w' (blk A) → (blk A' = blk A ∨ blk A' = some w.heap.size) → wpList Tryz.prog ops Q rest (a.put o.dst (.slice A' (n + m) c')) w') :
 wpList Tryz.prog ops Q (o :: rest) a w := by
 obtain ⟨i0, hi0, hz0, hz1, hz2⟩ := info_parts zkk;refine zbV w hgd s x _ hop B 5 i0 _ 1 1 Tryz.underlying58 hi0 hz0 hz1 hz2 rfl (by omega) A n c (u8s zs) hs ho C A2 m c2 (u8s ys) hx (by simpa using hl) hn (ints_oneCell _ _) (by unfold maxLen; omega) (by omega) hB ?_;intro A' c' w' h1 h2 h3;exact h A' c' w' (by simpa using h1) h2 h3
set_option maxHeartbeats 400000 in
theorem clone (A : Option Addr) (n c : Nat) (zs : List Int) (hl : zs.length = n) (hn : n ≤ 100000) (w : World) (hr : Has w w.heap.size A (u8s zs)) :
 Calls Tryz.prog 139 #[.slice A n c] w fun e w' => ∃ A' c', e = .returned (.slice A' n c') ∧ Own w' w.heap.size 5 1 A' n c' (u8s zs) ∧ Below w.heap.size w w' := by
 obtain ⟨i0, hi0, hz0, hz1, hz2⟩ := info_parts zkk;have hnil := fun (W : World) (A : Option Addr) (n c : Nat) => Lib.run_eql_slice_nil (P := Tryz.prog) W 58 5 A n c 0 0 Tryz.underlying58
 cases A with
 | none =>
  have h0 : zs = [] := by
   cases zs with
   | nil => rfl
   | cons z l => obtain ⟨_, _, h, _⟩ := hr 0 _ rfl; cases h
  subst h0;subst hl;go_enter Tryz.func139, Tryz.ntmps139
  go_wp2
  go_ret;exact ⟨none, 0, rfl, Own.nil _ _ _ _, Below.refl _ _⟩
 | some a =>
  go_enter Tryz.func139, Tryz.ntmps139
  go_wp2_with (at_builtin; refine zfh rfl (.tmp 5) (.tmp 6) rfl w.heap.size _ 0 0 [] rfl (Own.lit w w.heap.size 5 #[] 0 1 (Nat.le_refl _) (by unfold maxLen; omega) rfl) w.heap.size (some a) n c zs rfl hl (hr.below ((Below.refl _ _).alloc (Nat.le_refl _) _)) (by omega) (by simp) ?_; intro A' c' w1 ho hg _)
  go_ret;simp only [Nat.zero_add, List.nil_append] at ho;exact ⟨A', c', by simp, ho, ((Below.refl _ _).alloc (Nat.le_refl _) _).grown hg (by simp) (fun k hk => by simp [blk] at hk; omega)⟩
def leB (n : Int) : Nat → List Int
 | 0 => []
 | k + 1 => (n % 256) :: leB (n / 256) k
theorem zcP (k : Nat) : ∀ n, (leB n k).length = k := by
 induction k with
 | zero => intro n; rfl
 | succ k ih => intro n; simp [leB, ih]
def sh8 (n : Int) : Nat → Int
 | 0 => n
 | k + 1 => sh8 (n / 256) k
theorem sh8_succ (k : Nat) : ∀ n, sh8 n (k + 1) = sh8 n k / 256 := by
 induction k with
 | zero => intro n; rfl
 | succ k ih => intro n; show sh8 (n / 256) (k + 1) = _; rw [ih]; rfl
theorem zkE (k : Nat) : ∀ n, leB n (k + 1) = leB n k ++ [sh8 n k % 256] := by
 induction k with
 | zero => intro n; rfl
 | succ k ih => intro n; show _ :: leB (n / 256) (k + 1) = _; rw [ih]; rfl
theorem zmM (k : Nat) : ∀ n, 0 ≤ n → 0 ≤ sh8 n k := by
 induction k with
 | zero => intro n h; exact h
 | succ k ih => intro n h; exact ih _ (by omega)
theorem sh8_lt (k : Nat) : ∀ n, 0 ≤ n → n < 18446744073709551616 → sh8 n k < 18446744073709551616 := by
 induction k with
 | zero => intro n _ h; exact h
 | succ k ih => intro n h h'; exact ih _ (by omega) (by omega)
theorem byte_shU (k : Nat) (n : Int) (hk : k < 8) : IntKind.u8.wrap (shU n (-8 * (k : Int))) = sh8 n k % 256 := by
 have h : k = 0 ∨ k = 1 ∨ k = 2 ∨ k = 3 ∨ k = 4 ∨ k = 5 ∨ k = 6 ∨ k = 7 := by omega
 rw [IntKind.wrap_u8]
 rcases h with rfl | rfl | rfl | rfl | rfl | rfl | rfl | rfl <;> simp [shU, sh8] <;> omega
set_option maxHeartbeats 400000 in
theorem put_ok (A : Option Addr) (n c : Nat) (zs : List Int) (hl : zs.length = n) (hn : n ≤ 90000) (x k : Int) (hx : 0 ≤ x) (h1 : 1 ≤ k) (h2 : k ≤ 8) (w : World) (hr : Has w w.heap.size A (u8s zs)) :
 Calls Tryz.prog 135 #[.slice A n c, .int .u64 x, .int .i64 k] w fun e w' =>
  ∃ A' c', e = .returned (.slice A' (n + k.toNat) c') ∧ Own w' w.heap.size 5 1 A' (n + k.toNat) c' (u8s (zs ++ leB x k.toNat)) ∧ Below w.heap.size w w' := by
 obtain ⟨i0, hi0, hz0, hz1, hz2⟩ := info_parts zkk;obtain ⟨K, rfl⟩ := Int.eq_ofNat_of_zero_le (show 0 ≤ k by omega);rw [Int.toNat_natCast];have hk : okW (K : Int) = true := by simp [okW, h1, h2]
 go_enter Tryz.func135, Tryz.ntmps135
 go_wp2_with (first | (go_at_call 139; refine (clone A n c zs hl (by omega) _ hr).mono ?_; rintro e w1 ⟨A1, c1, rfl, ho1, hb1⟩) | (go_at_call 140; refine (zmZ _ _).mono ?_; rintro e w' ⟨rfl, rfl⟩))
 go_loopw [7, 8, 16] (fun v _ i wr => ∃ (j : Nat) (A' : Option Addr) (c' : Nat), j ≤ K ∧ i = .int .i64 j ∧ v = .slice A' (n + j) c' ∧ Own wr w.heap.size 5 1 A' (n + j) c' (u8s (zs ++ leB x j)) ∧ Below w.heap.size w wr) (fun _ _ i _ => K - (intOf i).toNat)
 case atStart => exact ⟨0, A1, c1, by omega, rfl, rfl, by simpa [leB] using ho1, hb1⟩
 case round =>
  obtain ⟨j, A', c', hj, rfl, rfl, ho, hb⟩ := hrel
  by_cases hlt : j < K
  ·have hby := byte_shU j x (by omega)
   have hz := hb.size
   go_wp2_with (first | (go_at_call 141; refine (shiftU _ _ (by omega) (by omega) _).mono ?_; rintro e w' ⟨rfl, rfl⟩) | (at_builtin; refine zfh rfl (.tmp 19) (.tmp 25) rfl w.heap.size _ _ _ _ rfl (ho.alloc _) _ _ 1 1 [sh8 x j % 256] rfl rfl (zev _ _ _) (by omega) (Nat.le_trans hz (by simp)) ?_; intro A2 c2 w2 ho2 hg2 _))
   go_roundw
   case rel => exact ⟨j + 1, A2, c2, by omega, by go_num, rfl, by rw [zkE, ← List.append_assoc]; exact ho2, zat (hb.alloc hz _) (ho.alloc _) hg2 (Nat.le_trans hz (by simp)) (Nat.le_refl _)⟩
   case measure => simp [intOf]; omega
  ·go_wp2
   go_ret;obtain rfl : j = K := by omega
   exact ⟨A', c', rfl, ho, hb⟩
theorem and255 (n : Int) (h : 0 ≤ n) (h' : n < 18446744073709551616) : bits .and .u64 n 255 = n % 256 := by
 rw [u64_and n 255 h h' (by omega) (by omega)];obtain ⟨N, rfl⟩ := Int.eq_ofNat_of_zero_le h;rw [Int.toNat_natCast];have : (255 : Int).toNat = 2 ^ 8 - 1 := by decide
 rw [this, Nat.and_two_pow_sub_one_eq_mod];omega
set_option maxHeartbeats 400000 in
theorem zmD (A : Option Addr) (n c : Nat) (zs : List Int) (hl : zs.length = n) (hn : n ≤ 90000) (x k : Int) (hx : 0 ≤ x) (hx' : x < 18446744073709551616) (h1 : 1 ≤ k) (h2 : k ≤ 8) (w : World) (hr : Has w w.heap.size A (u8s zs)) :
 Calls Tryz.prog 72 #[.slice A n c, .int .u64 x, .int .i64 k] w fun e w' =>
  ∃ A' c', e = .returned (.slice A' (n + k.toNat) c') ∧ Own w' w.heap.size 5 1 A' (n + k.toNat) c' (u8s (zs ++ leB x k.toNat)) ∧ Below w.heap.size w w' := by
 obtain ⟨K, rfl⟩ := Int.eq_ofNat_of_zero_le (show 0 ≤ k by omega);rw [Int.toNat_natCast];have Hx := zb hx';clear hx';go_enter Tryz.func72, Tryz.ntmps72
 go_wp2_with (at_builtin; refine zfh rfl (.tmp 9) (.tmp 10) rfl w.heap.size _ 0 0 [] rfl (Own.lit w w.heap.size 5 #[] 0 1 (Nat.le_refl _) (by unfold maxLen; omega) rfl) w.heap.size A n c zs rfl hl (hr.below ((Below.refl _ _).alloc (Nat.le_refl _) _)) (by omega) (by simp) ?_; intro A1 c1 w1 ho1 hg1 _)
 have hb1 := zat (B := w.heap.size) ((Below.refl _ _).alloc (Nat.le_refl _) (.cells #[] 5)) (Own.lit w w.heap.size 5 #[] 0 1 (Nat.le_refl _) (by unfold maxLen; omega) rfl) hg1 (by simp) (Nat.le_refl _);simp only [Nat.zero_add, List.nil_append] at ho1
 go_loopw [1, 7, 8] (fun y v i wr => ∃ (j : Nat) (A' : Option Addr) (c' : Nat), j ≤ K ∧ i = .int .i64 j ∧ y = .int .u64 (sh8 x j) ∧ v = .slice A' (n + j) c' ∧ Own wr w.heap.size 5 1 A' (n + j) c' (u8s (zs ++ leB x j)) ∧ Below w.heap.size w wr) (fun _ _ i _ => K - (intOf i).toNat)
 case atStart => exact ⟨0, A1, c1, by omega, rfl, rfl, by simp, by simpa [leB] using ho1, hb1⟩
 case round =>
  obtain ⟨j, A', c', hj, rfl, rfl, rfl, ho, hb⟩ := hrel
  by_cases hlt : j < K
  ·have hby : IntKind.u8.wrap (bits .and .u64 (sh8 x j) 255) = sh8 x j % 256 := by
    rw [and255 _ (zmM j x hx) (sh8_lt j x hx Hx.out), IntKind.wrap_u8]; omega
   have hz := hb.size;have hs := zb (sh8_succ j x)
   go_wp2_with (at_builtin; refine zfh rfl (.tmp 24) (.tmp 28) rfl w.heap.size _ _ _ _ rfl (ho.alloc _) _ _ 1 1 [sh8 x j % 256] rfl rfl (zev _ _ _) (by omega) (Nat.le_trans hz (by simp)) ?_; intro A2 c2 w2 ho2 hg2 _)
   go_roundw
   case rel => exact ⟨j + 1, A2, c2, by omega, by go_num, by rw [hs.out], rfl, by rw [zkE, ← List.append_assoc]; exact ho2, zat (hb.alloc hz _) (ho.alloc _) hg2 (Nat.le_trans hz (by simp)) (Nat.le_refl _)⟩
   case measure => simp [intOf]; omega
  ·go_wp2
   go_ret;obtain rfl : j = K := by omega
   exact ⟨A', c', rfl, ho, hb⟩
def leN : List Int → Int
 | [] => 0
 | b :: l => b + 256 * leN l
def zdi (l : List Int) : Prop := ∀ z ∈ l, 0 ≤ z ∧ z ≤ 255
theorem zmx : ∀ l, zdi l → 0 ≤ leN l ∧ leN l < 256 ^ l.length
 | [], _ => by simp [leN]
 | b :: l, h => by
  have hb := h b (by simp);have hl := zmx l fun z hz => h z (by simp [hz]);simp only [leN, List.length_cons, Int.pow_succ];omega
theorem zky (b : Int) : ∀ l, leN (l ++ [b]) = leN l + b * 256 ^ l.length
 | [] => by simp [leN]
 | c :: l => by
  simp only [List.cons_append, leN, zky b l, List.length_cons, Int.pow_succ, Int.mul_add, Int.add_assoc]
  congr 2
  rw [Int.mul_comm, Int.mul_assoc]
theorem mod_256 (n M : Int) : n % (256 * M) = n % 256 + 256 * (n / 256 % M) := by
 have h1 := Int.emod_def n (256 * M);have h2 := Int.emod_def n 256;have h3 := Int.emod_def (n / 256) M;rw [h1, h2, h3, Int.ediv_ediv_of_nonneg (by omega)];generalize n / (256 * M) = q;generalize n / 256 = r;rw [Int.mul_sub, Int.mul_assoc];omega
theorem leN_leB (k : Nat) : ∀ n, 0 ≤ n → leN (leB n k) = n % 256 ^ k := by
 induction k with
 | zero => intro n h; simp [leB, leN]
 | succ k ih =>
  intro n h;rw [leB, leN, ih (n / 256) (by omega), Int.pow_succ, Int.mul_comm (256 ^ k) 256, mod_256]
theorem znQ (k : Nat) : ∀ n, zdi (leB n k) := by
 induction k with
 | zero => intro n z hz; simp [leB] at hz
 | succ k ih =>
  intro n z hz
  rcases List.mem_cons.1 hz with rfl | hz
  ·omega
  ·exact ih _ z hz
theorem or_top (a x : Int) (j : Nat) (hj : j < 8) (ha : 0 ≤ a) (ha' : a < 256 ^ j) (hx : 0 ≤ x) (hx' : x ≤ 255) : bits .or .u64 a (shU x (8 * (j : Int))) = a + x * 256 ^ j := by
 have hp : (2 : Int) ^ (8 * j) = 256 ^ j := by
  rw [show (256 : Int) = 2 ^ 8 from rfl, ← Int.pow_mul]
 have hlt : x * 256 ^ j < 18446744073709551616 := by
  have h : j = 0 ∨ j = 1 ∨ j = 2 ∨ j = 3 ∨ j = 4 ∨ j = 5 ∨ j = 6 ∨ j = 7 := by omega
  rcases h with rfl | rfl | rfl | rfl | rfl | rfl | rfl | rfl <;> simp <;> omega
 have h256 : (0 : Int) < 256 ^ j := Int.pow_pos (by decide);have h0 : 0 ≤ x * 256 ^ j := Int.mul_nonneg hx (Int.le_of_lt h256)
 have ha64 : (256 : Int) ^ j ≤ 18446744073709551616 := by
  have h : j = 0 ∨ j = 1 ∨ j = 2 ∨ j = 3 ∨ j = 4 ∨ j = 5 ∨ j = 6 ∨ j = 7 := by omega
  rcases h with rfl | rfl | rfl | rfl | rfl | rfl | rfl | rfl <;> simp
 have hs : shU x (8 * (j : Int)) = x * 256 ^ j := by
  rw [shU, if_neg (by omega), show min (8 * (j : Int)).toNat 64 = 8 * j from by omega, hp, Int.emod_eq_of_lt h0 hlt]
 rw [hs, u64_or a _ ha (by omega) h0 hlt];obtain ⟨A, rfl⟩ := Int.eq_ofNat_of_zero_le ha;obtain ⟨X, rfl⟩ := Int.eq_ofNat_of_zero_le hx
 have e1 : ((X : Int) * 256 ^ j).toNat = 2 ^ (8 * j) * X := by
  rw [← hp, Int.mul_comm];have : ((2 : Int) ^ (8 * j) * (X : Int)) = ((2 ^ (8 * j) * X : Nat) : Int) := by simp
  rw [this, Int.toNat_natCast]
 have e2 : A < 2 ^ (8 * j) := by
  have : ((A : Nat) : Int) < ((2 ^ (8 * j) : Nat) : Int) := by
   rw [← hp] at ha'
   simpa using ha'
  exact_mod_cast this
 rw [e1, Int.toNat_natCast, Nat.or_comm, ← Nat.two_pow_add_eq_or_of_lt e2 X];rw [← hp];simp;rw [Int.mul_comm, Int.add_comm]
theorem num_step {zs : List Int} {n P K j : Nat} {w : World} {b off : Nat} (hl : zs.length = n) (hz : zdi zs) (hp : P + K ≤ n) (hj : j < K)
 (hcell : ∀ i u, (u8s zs)[i]? = some u → w.cell? ⟨b, off + i, none⟩ = some u) :
 ∃ z : Int, 0 ≤ z ∧ z ≤ 255 ∧ w.cell? ⟨b, off + P + j, none⟩ = some (.int .u8 z) ∧ leN ((zs.drop P).take (j + 1)) = leN ((zs.drop P).take j) + z * 256 ^ j := by
 have hi : P + j < zs.length := by omega
 have hd : j < (zs.drop P).length := by simp; omega
 refine ⟨zs[P + j], (hz _ (List.getElem_mem hi)).1, (hz _ (List.getElem_mem hi)).2, ?_, ?_⟩
 ·have := hcell (P + j) (.int .u8 zs[P + j]) (by simp [hi])
  rwa [← Nat.add_assoc] at this
 ·rw [List.take_succ_eq_append_getElem hd, zky]
  simp;rw [Nat.min_eq_left (by omega)]
set_option maxHeartbeats 400000 in
theorem num_ok (A : Option Addr) (n c : Nat) (zs : List Int) (hl : zs.length = n) (hn : n ≤ 100000) (hc : n ≤ c) (hz : zdi zs) (P K : Nat) (hk1 : 1 ≤ K) (hk2 : K ≤ 8) (hp : P + K ≤ n) (w : World) (hr : Has w w.heap.size A (u8s zs)) :
 Calls Tryz.prog 143 #[.slice A n c, .int .i64 P, .int .i64 K] w fun e w' => e = .returned (.tuple #[.int .u64 (leN ((zs.drop P).take K)), .bool true]) ∧ w = w' := by
 have hok : okW (K : Int) = true := (okW_iff _).2 (by omega);obtain ⟨b, off, rfl, _, hcell⟩ := hr.form (by intro h; simp at h; subst h; simp at hl; omega);have h1 : (0 : Int) ≤ P := by omega
 have h2 : (P : Int) ≤ n - K := by omega
 go_enter Tryz.func143, Tryz.ntmps143
 go_wp2_with (first | (go_at_call 140; refine (zmZ _ _).mono ?_; rintro e w' ⟨rfl, rfl⟩))
 rw [Nat.add_sub_cancel_left]
 go_loopg [8, 9, 10, 33] K (fun g v _ _ i wr => ∃ j : Nat, j + g = K ∧ i = .int .i64 j ∧ v = .int .u64 (leN ((zs.drop P).take j)) ∧ w = wr)
 case atStart => exact ⟨0, by omega, rfl, by simp [leN], rfl⟩
 case round =>
  obtain ⟨j, hj, rfl, rfl, rfl⟩ := hrel;have Hj := zb hj
  by_cases hlt : j < K
  ·obtain ⟨z, hz1, hz2, hzc, htake⟩ := num_step hl hz hp hlt hcell
   have hbd := zmx ((zs.drop P).take j) (fun y hy => hz y (List.mem_of_mem_drop (List.mem_of_mem_take hy)));have hlen : ((zs.drop P).take j).length = j := by simp; omega
   rw [hlen] at hbd;have hor := zb (or_top _ z j (by omega) hbd.1 hbd.2 hz1 hz2);have ht := zb htake;clear htake hbd hlen hj
   go_wp2_with (go_at_call 141; refine (shiftU _ _ (by omega) (by omega) _).mono ?_; rintro e w' ⟨rfl, rfl⟩)
   go_roundg (gk - 1)
   case measure => have := Hj.out; omega
   case rel => exact ⟨j + 1, by have := Hj.out; omega, by go_num, by rw [hor.out, ht.out], rfl⟩
  ·obtain rfl : j = K := by omega
   clear hj
   go_wp2
   go_ret2
   exact ⟨rfl, rfl⟩
theorem p256_le {l : Nat} (h : l ≤ 7) : (256 : Int) ^ l ≤ 72057594037927936 := by
 have : l = 0 ∨ l = 1 ∨ l = 2 ∨ l = 3 ∨ l = 4 ∨ l = 5 ∨ l = 6 ∨ l = 7 := by omega
 rcases this with rfl | rfl | rfl | rfl | rfl | rfl | rfl | rfl <;> decide
theorem or_low (a x : Int) (ha : 0 ≤ a) (ha' : a < 72057594037927936) (hx : 0 ≤ x) (hx' : x ≤ 255) : bits .or .u64 (IntKind.u64.wrap (a * 256)) x = x + 256 * a := by
 rw [zeB, Int.emod_eq_of_lt (by omega) (by omega), u64_or (a * 256) x (by omega) (by omega) hx (by omega)];obtain ⟨A, rfl⟩ := Int.eq_ofNat_of_zero_le ha;obtain ⟨X, rfl⟩ := Int.eq_ofNat_of_zero_le hx;have h := Nat.two_pow_add_eq_or_of_lt (i := 8) (b := X) (by omega) A;rw [show ((A : Int) * 256).toNat = 2 ^ 8 * A from by omega, Int.toNat_natCast, ← h];omega
theorem num_down {zs : List Int} {n P K j : Nat} {w : World} {b off : Nat} (hl : zs.length = n) (hz : zdi zs) (hp : P + K ≤ n) (hj : j < K)
 (hcell : ∀ i u, (u8s zs)[i]? = some u → w.cell? ⟨b, off + i, none⟩ = some u) :
 ∃ z : Int, 0 ≤ z ∧ z ≤ 255 ∧ w.cell? ⟨b, off + (P + j), none⟩ = some (.int .u8 z) ∧ leN ((zs.drop (P + j)).take (K - j)) = z + 256 * leN ((zs.drop (P + (j + 1))).take (K - (j + 1))) := by
 have hi : P + j < zs.length := by omega
 refine ⟨zs[P + j], (hz _ (List.getElem_mem hi)).1, (hz _ (List.getElem_mem hi)).2, hcell (P + j) (.int .u8 zs[P + j]) (by simp [hi]), ?_⟩;rw [List.drop_eq_getElem_cons hi, show K - j = (K - (j + 1)) + 1 from by omega, List.take_succ_cons, leN, Nat.add_assoc]
set_option maxHeartbeats 400000 in
theorem zmN (A : Option Addr) (n c : Nat) (zs : List Int) (hl : zs.length = n) (hn : n ≤ 100000) (hz : zdi zs) (P K : Nat) (hk1 : 1 ≤ K) (hk2 : K ≤ 8) (hp : P + K ≤ n) (w : World) (hr : Has w w.heap.size A (u8s zs)) :
 Calls Tryz.prog 92 #[.slice A n c, .int .i64 P, .int .i64 K] w fun e w' => e = .returned (.tuple #[.int .u64 (leN ((zs.drop P).take K)), .bool true]) ∧ w = w' := by
 obtain ⟨b, off, rfl, _, hcell⟩ := hr.form (by intro h; simp at h; subst h; simp at hl; omega);have h1 : (0 : Int) ≤ P := by omega
 have h2 : (P : Int) ≤ n - K := by omega
 go_enter Tryz.func92, Tryz.ntmps92
 go_wp2
 go_loopg [8, 9] K (fun g v i wr => i = .int .i64 ((g : Int) - 1) ∧ g ≤ K ∧ v = .int .u64 (leN ((zs.drop (P + g)).take (K - g))) ∧ w = wr)
 case atStart => exact ⟨rfl, Nat.le_refl _, by simp [leN], rfl⟩
 case round =>
  obtain ⟨rfl, hj, rfl, rfl⟩ := hrel
  rcases Nat.eq_zero_or_pos gk with h0 | h0
  ·subst h0
   go_wp2
   go_ret2
   exact ⟨by simp, rfl⟩
  ·obtain ⟨j, rfl⟩ : ∃ j, gk = j + 1 := ⟨gk - 1, by omega⟩
   obtain ⟨z, hz1, hz2, hzc, htake⟩ := num_down hl hz hp (j := j) (by omega) hcell;have hbd := zmx ((zs.drop (P + (j + 1))).take (K - (j + 1))) (fun y hy => hz y (List.mem_of_mem_drop (List.mem_of_mem_take hy)));have hlen : ((zs.drop (P + (j + 1))).take (K - (j + 1))).length ≤ 7 := by simp; omega
   have h7 : leN ((zs.drop (P + (j + 1))).take (K - (j + 1))) < 72057594037927936 := Int.lt_of_lt_of_le hbd.2 (p256_le hlen);have hor := zb (or_low _ z hbd.1 h7 hz1 hz2);have ht := zb htake;clear htake hbd hlen h7;rw [show (((j + 1 : Nat) : Int) - 1) = (j : Int) from by omega]
   go_wp2
   go_roundg j
   case measure => omega
   case rel => exact ⟨rfl, by omega, by rw [hor.out, ht.out], rfl⟩
end
end Go.Proofs.YtmjjjdikpnhpiaaGreat
