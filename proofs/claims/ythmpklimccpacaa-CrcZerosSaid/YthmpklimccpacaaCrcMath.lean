/- Plain arithmetic of layer 2: the register of a cyclic sum, step by step, and why no burst of 32 bits is lost. No program text. -/
import Derived.WalkKit
namespace Go.Proofs.Ythmpklimccpacaa
open Go.RowKit
set_option linter.unusedVariables false

/-- One bit's step of the register. -/
def bitS (r : Nat) : Nat := (r / 2) ^^^ (if r % 2 = 1 then 3988292384 else 0)
/-- k bits' steps. -/
def bitsS : Nat → Nat → Nat
  | 0, r => r
  | k + 1, r => bitsS k (bitS r)
/-- One byte's step. -/
def stepS (r b : Nat) : Nat := bitsS 8 (r ^^^ b)
def runS (r : Nat) (l : List Nat) : Nat := l.foldl stepS r
/-- What comes of going on from a sum. -/
def moreS (s : Nat) (l : List Nat) : Nat := runS (s ^^^ 4294967295) l ^^^ 4294967295
def Octets (l : List Nat) : Prop := ∀ b ∈ l, b < 256

theorem xor_left (a b c : Nat) : a ^^^ (b ^^^ c) = b ^^^ (a ^^^ c) := by rw [← Nat.xor_assoc, Nat.xor_comm a b, Nat.xor_assoc]
theorem xor_right (a b c : Nat) : a ^^^ b ^^^ c = a ^^^ c ^^^ b := by rw [Nat.xor_assoc, Nat.xor_comm b c, Nat.xor_assoc]
theorem xor_eq {a b : Nat} (h : a ^^^ b = 0) : a = b := by
  have : a ^^^ b ^^^ b = 0 ^^^ b := by rw [h]
  simpa [Nat.xor_assoc] using this
theorem xor_lt {a b : Nat} (ha : a < 4294967296) (hb : b < 4294967296) : a ^^^ b < 4294967296 := Nat.xor_lt_two_pow (n := 32) ha hb
theorem bitS_lt {r : Nat} (h : r < 4294967296) : bitS r < 4294967296 := by
  unfold bitS
  apply xor_lt (by omega)
  split <;> omega
theorem bitsS_lt : ∀ (k : Nat) {r : Nat}, r < 4294967296 → bitsS k r < 4294967296
  | 0, _, h => h
  | k + 1, _, h => bitsS_lt k (bitS_lt h)
theorem stepS_lt {r b : Nat} (h : r < 4294967296) (hb : b < 256) : stepS r b < 4294967296 := bitsS_lt 8 (xor_lt h (by omega))
theorem runS_lt : ∀ (l : List Nat) {r : Nat}, r < 4294967296 → Octets l → runS r l < 4294967296
  | [], _, h, _ => h
  | b :: l, r, h, hl => by
    show runS (stepS r b) l < _
    exact runS_lt l (stepS_lt h (hl b (by simp))) (fun x hx => hl x (by simp [hx]))
theorem moreS_lt {s : Nat} {l : List Nat} (h : s < 4294967296) (hl : Octets l) : moreS s l < 4294967296 :=
  xor_lt (runS_lt l (xor_lt h (by omega)) hl) (by omega)

theorem bitS_xor (a b : Nat) : bitS (a ^^^ b) = bitS a ^^^ bitS b := by
  have hm : (a ^^^ b) % 2 = (a % 2 + b % 2) % 2 := by
    have := Nat.xor_mod_two_eq_one (a := a) (b := b)
    omega
  have hd : (a ^^^ b) / 2 = a / 2 ^^^ b / 2 := Nat.xor_div_two
  unfold bitS
  rw [hd]
  rcases (show a % 2 = 0 ∨ a % 2 = 1 from by omega) with ha | ha <;> rcases (show b % 2 = 0 ∨ b % 2 = 1 from by omega) with hb | hb <;> simp [ha, hb, hm]
  · simp only [Nat.xor_assoc]
  · rw [xor_right]
  · rw [Nat.xor_assoc, xor_left 3988292384, Nat.xor_self, Nat.xor_zero]
theorem bitsS_xor : ∀ (k a b : Nat), bitsS k (a ^^^ b) = bitsS k a ^^^ bitsS k b
  | 0, _, _ => rfl
  | k + 1, a, b => by rw [bitsS, bitS_xor, bitsS_xor k]; rfl
theorem bitS_zero {r : Nat} (h : r < 4294967296) (h0 : bitS r = 0) : r = 0 := by
  unfold bitS at h0
  split at h0
  · have e : r / 2 = 3988292384 := xor_eq h0
    omega
  · rw [Nat.xor_zero] at h0
    omega
theorem bitsS_zero : ∀ (k : Nat) {r : Nat}, r < 4294967296 → bitsS k r = 0 → r = 0
  | 0, _, _, h0 => h0
  | k + 1, _, h, h0 => bitS_zero h (bitsS_zero k (bitS_lt h) h0)
theorem bitsS_0 : ∀ k : Nat, bitsS k 0 = 0
  | 0 => rfl
  | k + 1 => by show bitsS k (bitS 0) = 0; exact bitsS_0 k
theorem bitsS_inj (k : Nat) {a b : Nat} (ha : a < 4294967296) (hb : b < 4294967296) (h : bitsS k a = bitsS k b) : a = b := by
  have h0 : bitsS k (a ^^^ b) = 0 := by rw [bitsS_xor, h, Nat.xor_self]
  exact xor_eq (bitsS_zero k (xor_lt ha hb) h0)
theorem runS_xor (n : List Nat) : ∀ (l m : List Nat) (a b c : Nat), l.length = n.length → m.length = n.length → (∀ (i x y z : Nat), l[i]? = some x → m[i]? = some y → n[i]? = some z → z = x ^^^ y) → c = a ^^^ b → runS c n = runS a l ^^^ runS b m := by
  induction n with
  | nil =>
    intro l m a b c h1 h2 _ hc
    rw [List.eq_nil_of_length_eq_zero h1, List.eq_nil_of_length_eq_zero h2]
    exact hc
  | cons z n ih =>
    intro l m a b c h1 h2 h3 hc
    match l, m, h1, h2 with
    | x :: l, y :: m, h1, h2 =>
      show runS (stepS c z) n = runS (stepS a x) l ^^^ runS (stepS b y) m
      apply ih l m _ _ _ (by simpa using h1) (by simpa using h2) (fun i x' y' z' hx hy hz => h3 (i + 1) x' y' z' (by simpa using hx) (by simpa using hy) (by simpa using hz))
      have hz := h3 0 x y z rfl rfl rfl
      subst hz hc
      unfold stepS
      rw [← bitsS_xor]
      congr 1
      rw [Nat.xor_assoc, xor_left b, ← Nat.xor_assoc]
theorem runS_app (r : Nat) (l m : List Nat) : runS r (l ++ m) = runS (runS r l) m := List.foldl_append
theorem runS_inj : ∀ (l : List Nat) {a b : Nat}, Octets l → a < 4294967296 → b < 4294967296 → runS a l = runS b l → a = b
  | [], _, _, _, _, _, h => h
  | x :: l, a, b, hl, ha, hb, h => by
    have hx := hl x (by simp)
    have := runS_inj l (fun y hy => hl y (by simp [hy])) (stepS_lt ha hx) (stepS_lt hb hx) h
    have h1 := bitsS_inj 8 (xor_lt ha (by omega)) (xor_lt hb (by omega)) this
    have h2 : (a ^^^ x) ^^^ x = (b ^^^ x) ^^^ x := by rw [h1]
    simpa [Nat.xor_assoc] using h2
theorem stepS_inj {r b b' : Nat} (hr : r < 4294967296) (hb : b < 256) (hb' : b' < 256) (h : stepS r b = stepS r b') : b = b' := by
  have h1 := bitsS_inj 8 (xor_lt hr (by omega)) (xor_lt hr (by omega)) h
  have h2 : r ^^^ (r ^^^ b) = r ^^^ (r ^^^ b') := by rw [h1]
  simpa [← Nat.xor_assoc] using h2
theorem compl_inj {a b : Nat} (h : a ^^^ 4294967295 = b ^^^ 4294967295) : a = b := by
  have : (a ^^^ 4294967295) ^^^ 4294967295 = (b ^^^ 4294967295) ^^^ 4294967295 := by rw [h]
  simpa [Nat.xor_assoc] using this
theorem compl_compl (a : Nat) : (a ^^^ 4294967295) ^^^ 4294967295 = a := by simp [Nat.xor_assoc]
theorem moreS_app (s : Nat) (l m : List Nat) : moreS (moreS s l) m = moreS s (l ++ m) := by
  unfold moreS
  rw [compl_compl, runS_app]
theorem moreS_nil (s : Nat) : moreS s [] = s := compl_compl s

/-- Shifted down as often as it was shifted up. -/
theorem bitsS_up : ∀ (k x : Nat), bitsS k (x * 2 ^ k) = x
  | 0, x => by simp [bitsS]
  | k + 1, x => by
    have e : bitS (x * 2 ^ (k + 1)) = x * 2 ^ k := by
      unfold bitS
      rw [Nat.pow_succ, ← Nat.mul_assoc]
      simp
    rw [bitsS, e, bitsS_up k]
theorem bitsS_add : ∀ (j k r : Nat), bitsS (j + k) r = bitsS k (bitsS j r)
  | 0, k, r => by rw [Nat.zero_add]; rfl
  | j + 1, k, r => by rw [Nat.succ_add]; show bitsS (j + k) (bitS r) = _; rw [bitsS_add j k]; rfl
/-- Four bytes at once: as one word. -/
theorem runS_four (r a b c d : Nat) : runS r [a, b, c, d] = bitsS 32 (r ^^^ a ^^^ b * 2 ^ 8 ^^^ c * 2 ^ 16 ^^^ d * 2 ^ 24) := by
  have e8 : ∀ (k x y : Nat), bitsS k x ^^^ y = bitsS k (x ^^^ y * 2 ^ k) := fun k x y => by rw [bitsS_xor, bitsS_up]
  show stepS (stepS (stepS (stepS r a) b) c) d = _
  unfold stepS
  rw [e8 8 _ b, ← bitsS_add 8 8, show 8 + 8 = 16 from rfl, e8 16 _ c, ← bitsS_add 16 8, show 16 + 8 = 24 from rfl, e8 24 _ d, ← bitsS_add 24 8]
end Go.Proofs.Ythmpklimccpacaa
