/- What the functions of the laws' package 00 come to: a place, a key, a value, a message by a number. -/
import Derived.Test.YtmjjjdikpnhpiaaMsgB
import Derived.Laws.MakeOwn
namespace Go.Proofs.Ytmjjjdikpnhpiaa
set_option linter.unusedVariables false
set_option linter.unusedSimpArgs false
set_option maxRecDepth 100000
open Go.RowKit
section
attribute [local go_sem ↓] zae zt zw
def pl (v : Int) : Nat := (v % 1099511627776).toNat
def zcE (K : Nat) : List Int :=
 if K % 8 ≤ 2 then [97 + ((K / 8 % 6 : Nat) : Int)]
 else if K % 8 ≤ 4 then [97 + ((K / 8 % 5 : Nat) : Int), 97 + ((K / 40 % 4 : Nat) : Int)]
 else if K % 8 = 5 then [97 + ((K / 8 % 4 : Nat) : Int), 0, ((K / 32 % 256 : Nat) : Int), ((K / 8192 % 4 : Nat) : Int), 255, 120, 121, 97 + ((K / 32768 % 3 : Nat) : Int)]
 else if K % 8 = 6 then [98 + ((K / 8 % 3 : Nat) : Int), 108, 111, 110, 103, 101, 114, 48 + ((K / 24 % 9 : Nat) : Int)]
 else [((K / 8 % 256 : Nat) : Int), ((K / 2048 % 256 : Nat) : Int)].take (K / 524288 % 3)
def zbL (v : Int) : RK := ofS (strOfNums (zcE (pl v)))
end
section
attribute [local go_sem ↓] zae zt zw
def zi1 (K i : Nat) : Int := (((K / 17 + i * (K / 4352)) % 256 : Nat) : Int)
def zhZ (K : Nat) : List Int := (List.range (K % 17)).map (zi1 K)
def zgW (v : Int) : RV := ofV (strOfNums (zhZ (pl v)))
def zdj (K n j : Nat) : List Int := (List.range j).map (zi1 K) ++ List.replicate (n - j) 0
theorem u8_row : ∃ i, Try.prog.info? 5 = some i ∧ i.zero = some (.int .u8 0) ∧ i.size = 1 ∧ i.bytes = 1 := by
 have e1 : (Try.prog.info? 5).bind (·.zero) = some (.int .u8 0) := by kernel_rfl
 have e2 : (Try.prog.info? 5).map (·.size) = some 1 := by kernel_rfl
 have e3 : (Try.prog.info? 5).map (·.bytes) = some 1 := by kernel_rfl
 cases h : Try.prog.info? 5 with
 | none => rw [h] at e2; cases e2
 | some i =>
  rw [h] at e1 e2 e3;exact ⟨i, rfl, by simpa using e1, by simpa using e2, by simpa using e3⟩
theorem zlZ (n : Nat) (hn : n ≤ 1048576) (W : World) : (Instr.makeSlice 22 (.int .i64 (n : Int)) (.int .i64 (n : Int))).run Try.prog W = .ok (.slice (some ⟨W.heap.size, 0, none⟩) n n) (W.alloc (.cells (Array.replicate n (.int .u8 0)) 5)) := by
 obtain ⟨i, hi, hz, hs, hb⟩ := u8_row;have h := run_make (P := Try.prog) W 22 5 i _ Try.underlying22 hi hz .i64 .i64 n n (by omega) (Int.le_refl _) (by rw [hb]; omega) (by omega);rw [h, hs]
 congr 3
 apply Array.ext';simp [madeCells, Value.cells];apply List.ext_getElem (by simp);intro j h1 h2;simp [Nat.mod_one]
end
section
attribute [local go_sem ↓] zae zt zw
def zdq (v s : Int) : RM :=
 ⟨1 + ((pl v % 3 : Nat) : Int), ((pl s : Nat) : Int), zbL ((pl v / 4 : Nat) : Int), if pl v % 3 = 0 then zgW ((pl v / 64 : Nat) : Int) else zE, if pl v % 3 = 2 then ((pl v / 1024 : Nat) : Int) * 65537 else 0⟩
end
end Go.Proofs.Ytmjjjdikpnhpiaa
