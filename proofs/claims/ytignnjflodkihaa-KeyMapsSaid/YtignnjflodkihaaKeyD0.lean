/- Keys by their order: a number for each. No program text. -/
import Derived.Test.YtignnjflodkihaaKey0
import Derived.Lib.Bytealg
namespace Go.Proofs.Ytignnjflodkihaa
open Go.RowKit
set_option linter.unusedVariables false

def val8 (k : RK) : Int := ((((((k.b0 * 256 + k.b1) * 256 + k.b2) * 256 + k.b3) * 256 + k.b4) * 256 + k.b5) * 256 + k.b6) * 256 + k.b7
def code (k : RK) : Int := val8 k * 16 + k.n
def cmpI (x y : Int) : Int := if x < y then -1 else if y < x then 1 else 0
def cmpK (a b : RK) : Int := cmpI (code a) (code b)
theorem cmpI_lt {x y : Int} (h : x < y) : cmpI x y = -1 := by simp [cmpI, h]
theorem cmpI_gt {x y : Int} (h : y < x) : cmpI x y = 1 := by unfold cmpI; rw [if_neg (by omega), if_pos h]
theorem cmpI_eq {x y : Int} (h : x = y) : cmpI x y = 0 := by unfold cmpI; rw [if_neg (by omega), if_neg (by omega)]
theorem cmpI_cases (x y : Int) : (x < y ∧ cmpI x y = -1) ∨ (y < x ∧ cmpI x y = 1) ∨ (x = y ∧ cmpI x y = 0) := by
  rcases Int.lt_trichotomy x y with h | h | h
  · exact .inl ⟨h, cmpI_lt h⟩
  · exact .inr (.inr ⟨h, cmpI_eq h⟩)
  · exact .inr (.inl ⟨h, cmpI_gt h⟩)
theorem step256 {x y a b : Int} (ha : Byt a) (hb : Byt b) (h : x * 256 + a = y * 256 + b) : x = y ∧ a = b := by
  unfold Byt at ha hb; omega
/-- n is from 0 to 8. -/
def Len (k : RK) : Prop := 0 ≤ k.n ∧ k.n ≤ 8
theorem code_inj {a b : RK} (ha : a.wf) (hb : b.wf) (la : Len a) (lb : Len b) (h : code a = code b) : a = b := by
  unfold code at h
  unfold Len at la lb
  have h0 : val8 a = val8 b := by omega
  have h1 : a.n = b.n := by omega
  unfold val8 at h0
  obtain ⟨h0, e7⟩ := step256 ha.h7 hb.h7 h0
  obtain ⟨h0, e6⟩ := step256 ha.h6 hb.h6 h0
  obtain ⟨h0, e5⟩ := step256 ha.h5 hb.h5 h0
  obtain ⟨h0, e4⟩ := step256 ha.h4 hb.h4 h0
  obtain ⟨h0, e3⟩ := step256 ha.h3 hb.h3 h0
  obtain ⟨h0, e2⟩ := step256 ha.h2 hb.h2 h0
  obtain ⟨h0, e1⟩ := step256 ha.h1 hb.h1 h0
  cases a; cases b
  simp_all
theorem u8_lt {x y : Int} (hx : Byt x) (hy : Byt y) : (UInt8.ofNat x.toNat < UInt8.ofNat y.toNat) ↔ x < y := by
  unfold Byt at hx hy
  rw [UInt8.lt_iff_toNat_lt, UInt8.toNat_ofNat_of_lt' (by show x.toNat < 256; omega), UInt8.toNat_ofNat_of_lt' (by show y.toNat < 256; omega)]
  omega
/-- The bytes. -/
def ub (k : RK) : List UInt8 := (kbs k).map fun z => UInt8.ofNat z.toNat
set_option maxRecDepth 100000 in
set_option maxHeartbeats 2000000 in
theorem cmp_bytes {a b : RK} (ha : a.wf) (hb : b.wf) : Lib.compareBytes (ub a) (ub b) = cmpI (val8 a) (val8 b) := by
  obtain ⟨_, a0, a1, a2, a3, a4, a5, a6, a7⟩ := ha
  obtain ⟨_, c0, c1, c2, c3, c4, c5, c6, c7⟩ := hb
  simp only [ub, kbs, List.map_cons, List.map_nil, Lib.compareBytes, u8_lt a0 c0, u8_lt a1 c1, u8_lt a2 c2, u8_lt a3 c3, u8_lt a4 c4, u8_lt a5 c5, u8_lt a6 c6, u8_lt a7 c7, u8_lt c0 a0, u8_lt c1 a1, u8_lt c2 a2, u8_lt c3 a3, u8_lt c4 a4, u8_lt c5 a5, u8_lt c6 a6, u8_lt c7 a7]
  unfold Byt at *
  unfold cmpI val8
  generalize a.b0 = x0 at *
  generalize a.b1 = x1 at *
  generalize a.b2 = x2 at *
  generalize a.b3 = x3 at *
  generalize a.b4 = x4 at *
  generalize a.b5 = x5 at *
  generalize a.b6 = x6 at *
  generalize a.b7 = x7 at *
  generalize b.b0 = y0 at *
  generalize b.b1 = y1 at *
  generalize b.b2 = y2 at *
  generalize b.b3 = y3 at *
  generalize b.b4 = y4 at *
  generalize b.b5 = y5 at *
  generalize b.b6 = y6 at *
  generalize b.b7 = y7 at *
  repeat' split
  all_goals first | rfl | omega
/-- What 'Compare' puts together. -/
theorem cmp_parts {a b : RK} (ha : a.wf) (hb : b.wf) (la : Len a) (lb : Len b) : (if a = b then 0 else if cmpI (val8 a) (val8 b) ≠ 0 then cmpI (val8 a) (val8 b) else cmpI a.n b.n) = cmpK a b := by
  unfold cmpK
  unfold Len at la lb
  by_cases e : a = b
  · rw [if_pos e, e, cmpI_eq rfl]
  · rw [if_neg e]
    unfold code
    rcases cmpI_cases (val8 a) (val8 b) with ⟨h, h2⟩ | ⟨h, h2⟩ | ⟨h, h2⟩
    · rw [h2, if_pos (by decide), cmpI_lt (by omega)]
    · rw [h2, if_pos (by decide), cmpI_gt (by omega)]
    · rw [h2, if_neg (by decide), h]
      unfold cmpI
      split <;> split <;> first | rfl | omega | (split <;> first | rfl | omega)
end Go.Proofs.Ytignnjflodkihaa
