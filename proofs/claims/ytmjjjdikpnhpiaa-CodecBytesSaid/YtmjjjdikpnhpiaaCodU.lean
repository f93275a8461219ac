/- The document's reader of bytes: what it takes. -/
import Derived.Test.YtmjjjdikpnhpiaaCodW
import Derived.Test.YtmjjjdikpnhpiaaCodK
namespace Go.Proofs.Ytmjjjdikpnhpiaa
set_option linter.unusedVariables false
set_option linter.unusedSimpArgs false
set_option maxRecDepth 100000
open Go.RowKit
/-- The document's reader in block g: bs, from place at_ on; bad or not. -/
def Qd (w : World) (B g : Nat) (bs : List Int) (at_ : Nat) (bad : Bool) : Prop := ∃ A c, Arr w g 86 #[.slice A 256 c, .int .i64 (at_ : Int), .bool bad] ∧ Has w B A (u8s bs) ∧ bs.length = 256 ∧ 256 ≤ c ∧ at_ ≤ 256 ∧ B ≤ g
theorem Qd.size {w : World} {B g : Nat} {bs : List Int} {at_ : Nat} {bad : Bool} (h : Qd w B g bs at_ bad) : B ≤ g ∧ g < w.heap.size ∧ at_ ≤ 256 ∧ bs.length = 256 := by
  obtain ⟨A, c, ha, hh, h1, h2, h3, h4⟩ := h
  exact ⟨h4, ha.lt, h3, h1⟩
theorem Qd.fr {w w1 : World} {B g : Nat} {bs : List Int} {at_ : Nat} {bad : Bool} (h : Qd w B g bs at_ bad) (k : Fr w w1) : Qd w1 B g bs at_ bad := by
  obtain ⟨A, c, ha, hh, h1, h2, h3, h4⟩ := h
  have hl := ha.lt
  exact ⟨A, c, ha.below k hl, hh.lift fun p hp => k.cell (by omega), h1, h2, h3, h4⟩
theorem Qd.put {w W : World} {B g k : Nat} {bs : List Int} {at_ : Nat} {bad : Bool} (h : Qd w B g bs at_ bad) (hk : KpG w k W) (hne : k ≠ g) (hB : B ≤ k) : Qd W B g bs at_ bad := by
  obtain ⟨A, c, ha, hh, h1, h2, h3, h4⟩ := h
  have hl := ha.lt
  exact ⟨A, c, hk.arr ha (fun e => hne e.symm), hh.kpg hk hB (by omega), h1, h2, h3, h4⟩
theorem Qd.to {w : World} {B g c : Nat} {A : Option Addr} {bs : List Int} {at_ at2 : Nat} {bad bad2 : Bool} (ha : Arr w g 86 #[.slice A 256 c, .int .i64 (at_ : Int), .bool bad]) (hh : Has w B A (u8s bs)) (hl : bs.length = 256) (hc : 256 ≤ c) (hB : B ≤ g) (h2 : at2 ≤ 256) {W : World}
    (hW : Arr W g 86 #[.slice A 256 c, .int .i64 (at2 : Int), .bool bad2]) (k : KpG w g W) : Qd W B g bs at2 bad2 := by
  have := ha.lt
  exact ⟨A, c, hW, hh.kpg k hB (by omega), hl, hc, h2, hB⟩
/-- What a step takes: x, left r0, if G (all is well). -/
def QR {α : Type} (w : World) (B g : Nat) (bs : List Int) (v : α → Value) (ok : α → Prop) (G : Prop) (x0 : α) (r0 : List Int) (e : Ending) (w' : World) : Prop :=
  ∃ x at2 bad2, e = .returned (v x) ∧ Hid (ok x ∧ Qd w' B g bs at2 bad2 ∧ KpG w g w' ∧ (G → x = x0 ∧ bs.drop at2 = r0 ∧ bad2 = false))
theorem rNum_bad (A : Option Addr) (n c : Nat) (P K : Int) (h1 : 1 ≤ K) (h8 : K ≤ 8) (hP : 0 ≤ P) (hP2 : P ≤ 100000) (hn : n ≤ 100000) (hp : (n : Int) - K < P) (w : World) :
    Calls Try.prog 14 #[.slice A n c, .int .i64 P, .int .i64 K] w fun e w' => e = .returned (.tuple #[.int .u64 0, .bool false]) ∧ w = w' := by
  have q1 : ¬ K < 1 := by omega
  have q2 : ¬ 8 < K := by omega
  have q3 : ¬ P < 0 := by omega
  go_enter Try.func14, Try.ntmps14
  go_wp2_with fail
  go_ret2
  exact ⟨rfl, rfl⟩
theorem u64_bd {l : List Int} (h : zdi l) (hl : l.length ≤ 8) : zeb (leN l) := by
  have h0 := nmP_bd (w := l.length) h
  unfold nmP at h0
  rw [if_pos (Nat.le_refl _), List.take_of_length_le (Nat.le_refl _)] at h0
  have h2 : (256 : Int) ^ l.length ≤ 256 ^ 8 := by
    have : ((256 ^ l.length : Nat) : Int) ≤ ((256 ^ 8 : Nat) : Int) := Int.ofNat_le.2 (Nat.pow_le_pow_right (by decide) hl)
    simpa using this
  rw [show (256 : Int) ^ 8 = 18446744073709551616 from by decide] at h2
  unfold zeb
  omega
set_option maxHeartbeats 2000000 in
theorem qnum_at {w : World} {B g at_ : Nat} {bad : Bool} {bs : List Int} (h : Qd w B g bs at_ bad) (hby : zdi bs) (K : Nat) (h1 : 1 ≤ K) (h8 : K ≤ 8) :
    Calls Try.prog 45 #[.pointer (some ⟨g, 0, none⟩), .int .i64 (K : Int)] w
      (QR w B g bs (fun z => .int .u64 z) (fun z => 0 ≤ z ∧ z < (256 : Int) ^ K) (bad = false ∧ K ≤ (bs.drop at_).length) (nmP K (bs.drop at_)) ((bs.drop at_).drop K)) := by
  obtain ⟨A, c, ha, hh, hl, hc, hat, hB⟩ := h
  have zw := ha.lt
  have c0 : ∀ W, Fr w W → W.cell? ⟨g, 0, none⟩ = some (.slice A 256 c) := fun W k => by rw [(ha.below k zw).cell]; rfl
  have c1 : ∀ W, Fr w W → W.cell? ⟨g, 1, none⟩ = some (.int .i64 (at_ : Int)) := fun W k => by rw [(ha.below k zw).cell]; rfl
  have hrD : Fr w w.drew := zn (ze w)
  by_cases hK : at_ + K ≤ 256
  · have cN := fun W (k : Fr w W) => zmN A 256 c bs hl (by decide) hby at_ K h1 h8 hK W ((hh.fr (Nat.le_trans hB (Nat.le_of_lt zw)) k).mono (by have := k.size; omega))
    have en : leN ((bs.drop at_).take K) = nmP K (bs.drop at_) := by unfold nmP; rw [if_pos (by simp; omega)]
    rw [en] at cN
    have ub := nmP_bd (w := K) (bytes_drop hby at_)
    have Ub := zb ub
    have D1 := zb (List.drop_drop (i := K) (j := at_) (l := bs))
    generalize nmP K (bs.drop at_) = z at *
    clear en ub
    go_enter Try.func45, Try.ntmps45
    go_upto_region 1 with fail
    try simp only [Act.put]
    refine wp_region_noPanic ?_
    refine wp_region_held_drew (S := fun W => Fr w W) (by kernel_rfl) hrD (fun hHeld => ?_)
    change wpAnyH _ _ _ _ _ _ _ _ _
    generalize w.drew = X0 at *
    refine wpAnyH_take (i := 0) (v := ?_) rfl (by kernel_rfl) (by kernel_rfl) (by kernel_rfl) (fun _ _ _ h => h) (Or.inl ⟨by rfl, ?_⟩) (by assumption) ?_
    rotate_left
    · intro w' hSw
      try dsimp only at hSw
      go_simp
      try with_reducible rfl
    try simp only [List.getElem_toArray, List.getElem_cons_zero, Act.put, List.setIfInBounds_toArray, List.set_cons_zero, List.set_cons_succ]
    refine wpAnyH_take (i := 1) (v := ?_) rfl (by kernel_rfl) (by kernel_rfl) (by kernel_rfl) (fun _ _ _ h => h) (Or.inl ⟨by rfl, ?_⟩) (by assumption) ?_
    rotate_left
    · intro w' hSw
      try dsimp only at hSw
      go_simp
      try with_reducible rfl
    try simp only [List.getElem_toArray, List.getElem_cons_succ, List.getElem_cons_zero, Act.put, List.setIfInBounds_toArray, List.set_cons_zero, List.set_cons_succ]
    refine wpAnyH_take (i := 2) (v := ?_) rfl (by kernel_rfl) (by kernel_rfl) (by kernel_rfl) (fun _ _ _ h => h) (Or.inl ⟨by rfl, ?_⟩) (by assumption) ?_
    rotate_left
    · intro w' hSw
      try dsimp only at hSw
      go_simp
      try with_reducible rfl
    try simp only [List.getElem_toArray, List.getElem_cons_succ, List.getElem_cons_zero, Act.put, List.setIfInBounds_toArray, List.set_cons_zero, List.set_cons_succ]
    refine wpAnyH_take (i := 3) (v := ?_) rfl (by kernel_rfl) (by kernel_rfl) (by kernel_rfl) (fun _ _ _ h => h) (Or.inl ⟨by rfl, ?_⟩) (by assumption) ?_
    rotate_left
    · intro w' hSw
      try dsimp only at hSw
      go_simp
      try with_reducible rfl
    try simp only [List.getElem_toArray, List.getElem_cons_succ, List.getElem_cons_zero, Act.put, List.setIfInBounds_toArray, List.set_cons_zero, List.set_cons_succ]
    refine wpAnyH_take (i := 4) (v := ?_) rfl (by kernel_rfl) (by kernel_rfl) (by kernel_rfl) (fun _ _ _ h => h) (Or.inl ⟨by rfl, ?_⟩) (by assumption) ?_
    rotate_left
    · intro w' hSw
      try dsimp only at hSw
      go_simp
      try with_reducible rfl
    try simp only [List.getElem_toArray, List.getElem_cons_succ, List.getElem_cons_zero, Act.put, List.setIfInBounds_toArray, List.set_cons_zero, List.set_cons_succ]
    refine wpAnyH_take (i := 5) (v := ?_) rfl (by kernel_rfl) (by kernel_rfl) (by kernel_rfl) (fun _ _ _ h => h) (Or.inl ⟨by rfl, ?_⟩) (by assumption) ?_
    rotate_left
    · intro w' hSw
      try dsimp only at hSw
      go_simp
      try with_reducible rfl
    try simp only [List.getElem_toArray, List.getElem_cons_succ, List.getElem_cons_zero, Act.put, List.setIfInBounds_toArray, List.set_cons_zero, List.set_cons_succ]
    refine wpAnyH_take (i := 6) (v := ?_) rfl (by kernel_rfl) (by kernel_rfl) (by kernel_rfl) (fun _ _ _ h => h) (Or.inl ⟨by rfl, ?_⟩) (by assumption) ?_
    rotate_left
    · intro w' hSw
      try dsimp only at hSw
      go_simp
      try with_reducible rfl
    try simp only [List.getElem_toArray, List.getElem_cons_succ, List.getElem_cons_zero, Act.put, List.setIfInBounds_toArray, List.set_cons_zero, List.set_cons_succ]
    refine wpAnyH_take (i := 7) (v := ?_) rfl (by kernel_rfl) (by kernel_rfl) (by kernel_rfl) (fun _ _ _ h => h) (Or.inl ⟨by rfl, ?_⟩) (by assumption) ?_
    rotate_left
    · intro w' hSw
      try dsimp only at hSw
      go_simp
      try with_reducible rfl
    try simp only [List.getElem_toArray, List.getElem_cons_succ, List.getElem_cons_zero, Act.put, List.setIfInBounds_toArray, List.set_cons_zero, List.set_cons_succ]
    refine wpAnyH_take (i := 8) (v := ?_) rfl (by kernel_rfl) (by kernel_rfl) (by kernel_rfl) (fun _ _ _ h => h) (Or.inl ⟨by rfl, ?_⟩) (by assumption) ?_
    rotate_left
    · intro w' hSw
      try dsimp only at hSw
      go_simp
      try with_reducible rfl
    try simp only [List.getElem_toArray, List.getElem_cons_succ, List.getElem_cons_zero, Act.put, List.setIfInBounds_toArray, List.set_cons_zero, List.set_cons_succ]
    refine wpAnyH_ready (rs := [9]) (by kernel_rfl) (by simp) ?_
    refine AllReadyH.cons rfl (fun K hK0 => ?_) AllReadyH.nil
    go_simp
    refine (cN X0 hrD).mono ?_
    rintro e X1 ⟨rfl, rfl⟩
    go_simp
    refine hK0.out _ _ hrD (fun _ => ?_)
    clear hK0 K
    try simp only [List.getElem_toArray, List.getElem_cons_succ, List.getElem_cons_zero, Act.put, List.setIfInBounds_toArray, List.set_cons_zero, List.set_cons_succ]
    refine wpAnyH_take (i := 10) (v := ?_) rfl (by kernel_rfl) (by kernel_rfl) (by kernel_rfl) (fun _ _ _ h => h) (Or.inl ⟨by rfl, ?_⟩) (by assumption) ?_
    rotate_left
    · intro w' hSw
      try dsimp only at hSw
      go_simp
      try with_reducible rfl
    try simp only [List.getElem_toArray, List.getElem_cons_succ, List.getElem_cons_zero, Act.put, List.setIfInBounds_toArray, List.set_cons_zero, List.set_cons_succ]
    refine wpAnyH_take (i := 11) (v := ?_) rfl (by kernel_rfl) (by kernel_rfl) (by kernel_rfl) (fun _ _ _ h => h) (Or.inl ⟨by rfl, ?_⟩) (by assumption) ?_
    rotate_left
    · intro w' hSw
      try dsimp only at hSw
      go_simp
      try with_reducible rfl
    try simp only [List.getElem_toArray, List.getElem_cons_succ, List.getElem_cons_zero, Act.put, List.setIfInBounds_toArray, List.set_cons_zero, List.set_cons_succ]
    refine wpAnyH_take (i := 12) (v := ?_) rfl (by kernel_rfl) (by kernel_rfl) (by kernel_rfl) (fun _ _ _ h => h) (Or.inl ⟨by rfl, ?_⟩) (by assumption) ?_
    rotate_left
    · intro w' hSw
      try dsimp only at hSw
      go_simp
      try with_reducible rfl
    try simp only [List.getElem_toArray, List.getElem_cons_succ, List.getElem_cons_zero, Act.put, List.setIfInBounds_toArray, List.set_cons_zero, List.set_cons_succ]
    refine wpAnyH_take (i := 13) (v := ?_) rfl (by kernel_rfl) (by kernel_rfl) (by kernel_rfl) (fun _ _ _ h => h) (Or.inl ⟨by rfl, ?_⟩) (by assumption) ?_
    rotate_left
    · intro w' hSw
      try dsimp only at hSw
      go_simp
      try with_reducible rfl
    try simp only [List.getElem_toArray, List.getElem_cons_succ, List.getElem_cons_zero, Act.put, List.setIfInBounds_toArray, List.set_cons_zero, List.set_cons_succ]
    refine wpAnyH_take (i := 14) (v := ?_) rfl (by kernel_rfl) (by kernel_rfl) (by kernel_rfl) (fun _ _ _ h => h) (Or.inl ⟨by rfl, ?_⟩) (by assumption) ?_
    rotate_left
    · intro w' hSw
      try dsimp only at hSw
      go_simp
      try with_reducible rfl
    try simp only [List.getElem_toArray, List.getElem_cons_succ, List.getElem_cons_zero, Act.put, List.setIfInBounds_toArray, List.set_cons_zero, List.set_cons_succ]
    refine wpAnyH_done (by kernel_rfl) ?_ _
    refine NoPanic.normal ?_
    have a0 := ha.below hrD zw
    have h0 := hh.fr (Nat.le_trans hB (Nat.le_of_lt zw)) hrD
    have d1 : X0.cell? ⟨g, 1, none⟩ = some (.int .i64 (at_ : Int)) := c1 X0 hrD
    have d2 : X0.cell? ⟨g, 2, none⟩ = some (.bool bad) := by rw [a0.cell]; rfl
    have f1 := a0.free 1
    have f2 := a0.free 2
    have K0 := KpG.of_fr g hrD
    obtain ⟨a2, k2⟩ := kpg_set (j := 2) a0 (.bool true)
    have Q2 : Hid (Qd (X0.setCell ⟨g, 2, none⟩ (.bool true)) B g bs at_ true) := zb (Qd.to a0 h0 hl hc hB hat a2 k2)
    have K2 := zb (K0.trans k2)
    obtain ⟨a1, k1⟩ := kpg_set (j := 1) a0 (.int .i64 ((at_ : Int) + (K : Int)))
    have Q1 : Hid (Qd (X0.setCell ⟨g, 1, none⟩ (.int .i64 ((at_ : Int) + (K : Int)))) B g bs (at_ + K) bad) := zb (Qd.to a0 h0 hl hc hB hK (by rw [show (((at_ + K : Nat) : Int)) = (at_ : Int) + (K : Int) from by omega]; exact a1) k1)
    have K1 := zb (K0.trans k1)
    clear a1 k1 a2 k2 a0 h0 ha hh c0 c1 cN hby hl
    cases bad
    · go_wp2_with fail
      go_ret
      exact ⟨_, _, _, rfl, zb ⟨Ub.out, Q1.out, K1.out, fun _ => ⟨rfl, by first | rfl | rw [D1.out], rfl⟩⟩⟩
    · go_wp2_with fail
      go_ret
      exact ⟨_, _, _, rfl, zb ⟨⟨Int.le_refl _, Int.pow_pos (by decide)⟩, Q2.out, K2.out, fun q => by cases q.1⟩⟩
  · have cN := fun W (k : Fr w W) => rNum_bad A 256 c at_ K (by omega) (by omega) (by omega) (by omega) (by decide) (by omega) W
    have hno : ¬ (K ≤ (bs.drop at_).length) := by simp; omega
    have Hn := zb hno
    clear hno
    go_enter Try.func45, Try.ntmps45
    go_upto_region 1 with fail
    try simp only [Act.put]
    refine wp_region_noPanic ?_
    refine wp_region_held_drew (S := fun W => Fr w W) (by kernel_rfl) hrD (fun hHeld => ?_)
    change wpAnyH _ _ _ _ _ _ _ _ _
    generalize w.drew = X0 at *
    refine wpAnyH_take (i := 0) (v := ?_) rfl (by kernel_rfl) (by kernel_rfl) (by kernel_rfl) (fun _ _ _ h => h) (Or.inl ⟨by rfl, ?_⟩) (by assumption) ?_
    rotate_left
    · intro w' hSw
      try dsimp only at hSw
      go_simp
      try with_reducible rfl
    try simp only [List.getElem_toArray, List.getElem_cons_zero, Act.put, List.setIfInBounds_toArray, List.set_cons_zero, List.set_cons_succ]
    refine wpAnyH_take (i := 1) (v := ?_) rfl (by kernel_rfl) (by kernel_rfl) (by kernel_rfl) (fun _ _ _ h => h) (Or.inl ⟨by rfl, ?_⟩) (by assumption) ?_
    rotate_left
    · intro w' hSw
      try dsimp only at hSw
      go_simp
      try with_reducible rfl
    try simp only [List.getElem_toArray, List.getElem_cons_succ, List.getElem_cons_zero, Act.put, List.setIfInBounds_toArray, List.set_cons_zero, List.set_cons_succ]
    refine wpAnyH_take (i := 2) (v := ?_) rfl (by kernel_rfl) (by kernel_rfl) (by kernel_rfl) (fun _ _ _ h => h) (Or.inl ⟨by rfl, ?_⟩) (by assumption) ?_
    rotate_left
    · intro w' hSw
      try dsimp only at hSw
      go_simp
      try with_reducible rfl
    try simp only [List.getElem_toArray, List.getElem_cons_succ, List.getElem_cons_zero, Act.put, List.setIfInBounds_toArray, List.set_cons_zero, List.set_cons_succ]
    refine wpAnyH_take (i := 3) (v := ?_) rfl (by kernel_rfl) (by kernel_rfl) (by kernel_rfl) (fun _ _ _ h => h) (Or.inl ⟨by rfl, ?_⟩) (by assumption) ?_
    rotate_left
    · intro w' hSw
      try dsimp only at hSw
      go_simp
      try with_reducible rfl
    try simp only [List.getElem_toArray, List.getElem_cons_succ, List.getElem_cons_zero, Act.put, List.setIfInBounds_toArray, List.set_cons_zero, List.set_cons_succ]
    refine wpAnyH_take (i := 4) (v := ?_) rfl (by kernel_rfl) (by kernel_rfl) (by kernel_rfl) (fun _ _ _ h => h) (Or.inl ⟨by rfl, ?_⟩) (by assumption) ?_
    rotate_left
    · intro w' hSw
      try dsimp only at hSw
      go_simp
      try with_reducible rfl
    try simp only [List.getElem_toArray, List.getElem_cons_succ, List.getElem_cons_zero, Act.put, List.setIfInBounds_toArray, List.set_cons_zero, List.set_cons_succ]
    refine wpAnyH_take (i := 5) (v := ?_) rfl (by kernel_rfl) (by kernel_rfl) (by kernel_rfl) (fun _ _ _ h => h) (Or.inl ⟨by rfl, ?_⟩) (by assumption) ?_
    rotate_left
    · intro w' hSw
      try dsimp only at hSw
      go_simp
      try with_reducible rfl
    try simp only [List.getElem_toArray, List.getElem_cons_succ, List.getElem_cons_zero, Act.put, List.setIfInBounds_toArray, List.set_cons_zero, List.set_cons_succ]
    refine wpAnyH_take (i := 6) (v := ?_) rfl (by kernel_rfl) (by kernel_rfl) (by kernel_rfl) (fun _ _ _ h => h) (Or.inl ⟨by rfl, ?_⟩) (by assumption) ?_
    rotate_left
    · intro w' hSw
      try dsimp only at hSw
      go_simp
      try with_reducible rfl
    try simp only [List.getElem_toArray, List.getElem_cons_succ, List.getElem_cons_zero, Act.put, List.setIfInBounds_toArray, List.set_cons_zero, List.set_cons_succ]
    refine wpAnyH_take (i := 7) (v := ?_) rfl (by kernel_rfl) (by kernel_rfl) (by kernel_rfl) (fun _ _ _ h => h) (Or.inl ⟨by rfl, ?_⟩) (by assumption) ?_
    rotate_left
    · intro w' hSw
      try dsimp only at hSw
      go_simp
      try with_reducible rfl
    try simp only [List.getElem_toArray, List.getElem_cons_succ, List.getElem_cons_zero, Act.put, List.setIfInBounds_toArray, List.set_cons_zero, List.set_cons_succ]
    refine wpAnyH_take (i := 8) (v := ?_) rfl (by kernel_rfl) (by kernel_rfl) (by kernel_rfl) (fun _ _ _ h => h) (Or.inl ⟨by rfl, ?_⟩) (by assumption) ?_
    rotate_left
    · intro w' hSw
      try dsimp only at hSw
      go_simp
      try with_reducible rfl
    try simp only [List.getElem_toArray, List.getElem_cons_succ, List.getElem_cons_zero, Act.put, List.setIfInBounds_toArray, List.set_cons_zero, List.set_cons_succ]
    refine wpAnyH_ready (rs := [9]) (by kernel_rfl) (by simp) ?_
    refine AllReadyH.cons rfl (fun K hK0 => ?_) AllReadyH.nil
    go_simp
    refine (cN X0 hrD).mono ?_
    rintro e X1 ⟨rfl, rfl⟩
    go_simp
    refine hK0.out _ _ hrD (fun _ => ?_)
    clear hK0 K
    try simp only [List.getElem_toArray, List.getElem_cons_succ, List.getElem_cons_zero, Act.put, List.setIfInBounds_toArray, List.set_cons_zero, List.set_cons_succ]
    refine wpAnyH_take (i := 10) (v := ?_) rfl (by kernel_rfl) (by kernel_rfl) (by kernel_rfl) (fun _ _ _ h => h) (Or.inl ⟨by rfl, ?_⟩) (by assumption) ?_
    rotate_left
    · intro w' hSw
      try dsimp only at hSw
      go_simp
      try with_reducible rfl
    try simp only [List.getElem_toArray, List.getElem_cons_succ, List.getElem_cons_zero, Act.put, List.setIfInBounds_toArray, List.set_cons_zero, List.set_cons_succ]
    refine wpAnyH_take (i := 11) (v := ?_) rfl (by kernel_rfl) (by kernel_rfl) (by kernel_rfl) (fun _ _ _ h => h) (Or.inl ⟨by rfl, ?_⟩) (by assumption) ?_
    rotate_left
    · intro w' hSw
      try dsimp only at hSw
      go_simp
      try with_reducible rfl
    try simp only [List.getElem_toArray, List.getElem_cons_succ, List.getElem_cons_zero, Act.put, List.setIfInBounds_toArray, List.set_cons_zero, List.set_cons_succ]
    refine wpAnyH_take (i := 12) (v := ?_) rfl (by kernel_rfl) (by kernel_rfl) (by kernel_rfl) (fun _ _ _ h => h) (Or.inl ⟨by rfl, ?_⟩) (by assumption) ?_
    rotate_left
    · intro w' hSw
      try dsimp only at hSw
      go_simp
      try with_reducible rfl
    try simp only [List.getElem_toArray, List.getElem_cons_succ, List.getElem_cons_zero, Act.put, List.setIfInBounds_toArray, List.set_cons_zero, List.set_cons_succ]
    refine wpAnyH_take (i := 13) (v := ?_) rfl (by kernel_rfl) (by kernel_rfl) (by kernel_rfl) (fun _ _ _ h => h) (Or.inl ⟨by rfl, ?_⟩) (by assumption) ?_
    rotate_left
    · intro w' hSw
      try dsimp only at hSw
      go_simp
      try with_reducible rfl
    try simp only [List.getElem_toArray, List.getElem_cons_succ, List.getElem_cons_zero, Act.put, List.setIfInBounds_toArray, List.set_cons_zero, List.set_cons_succ]
    refine wpAnyH_take (i := 14) (v := ?_) rfl (by kernel_rfl) (by kernel_rfl) (by kernel_rfl) (fun _ _ _ h => h) (Or.inl ⟨by rfl, ?_⟩) (by assumption) ?_
    rotate_left
    · intro w' hSw
      try dsimp only at hSw
      go_simp
      try with_reducible rfl
    try simp only [List.getElem_toArray, List.getElem_cons_succ, List.getElem_cons_zero, Act.put, List.setIfInBounds_toArray, List.set_cons_zero, List.set_cons_succ]
    refine wpAnyH_done (by kernel_rfl) ?_ _
    refine NoPanic.normal ?_
    have a0 := ha.below hrD zw
    have h0 := hh.fr (Nat.le_trans hB (Nat.le_of_lt zw)) hrD
    have d1 : X0.cell? ⟨g, 1, none⟩ = some (.int .i64 (at_ : Int)) := c1 X0 hrD
    have d2 : X0.cell? ⟨g, 2, none⟩ = some (.bool bad) := by rw [a0.cell]; rfl
    have f1 := a0.free 1
    have f2 := a0.free 2
    have K0 := KpG.of_fr g hrD
    obtain ⟨a2, k2⟩ := kpg_set (j := 2) a0 (.bool true)
    have Q2 : Hid (Qd (X0.setCell ⟨g, 2, none⟩ (.bool true)) B g bs at_ true) := zb (Qd.to a0 h0 hl hc hB hat a2 k2)
    have K2 := zb (K0.trans k2)
    clear a2 k2 a0 h0 ha hh c0 c1 cN hby hl
    go_wp2_with fail
    go_ret
    exact ⟨_, _, _, rfl, zb ⟨⟨Int.le_refl _, Int.pow_pos (by decide)⟩, Q2.out, K2.out, fun q => absurd q.2 Hn.out⟩⟩
/-- zdi taken: t. -/
def TkQ (w : World) (B g : Nat) (bs : List Int) (most : Nat) (G : Prop) (t0 r0 : List Int) (e : Ending) (w' : World) : Prop :=
  ∃ A n c t at2 bad2, e = .returned (.slice A n c) ∧ Hid (t.length = n ∧ n ≤ most ∧ n ≤ c ∧ zdi t ∧ Has w' B A (u8s t) ∧ Qd w' B g bs at2 bad2 ∧ KpG w g w' ∧ (G → t = t0 ∧ bs.drop at2 = r0 ∧ bad2 = false))
set_option maxHeartbeats 4000000 in
theorem qtake_gen {w : World} {B g at_ : Nat} {bad : Bool} {bs : List Int} (h : Qd w B g bs at_ bad) (hby : zdi bs) (most : Nat) (hm : most ≤ 100) {G : Prop} {t0 r0 : List Int}
    (hG : Hid (G → bad = false ∧ 1 + ctP (bs.drop at_) ≤ (bs.drop at_).length ∧ ctP (bs.drop at_) ≤ most)) (ht : Hid (((bs.drop at_).drop 1).take (ctP (bs.drop at_)) = t0)) (hr : Hid (((bs.drop at_).drop 1).drop (ctP (bs.drop at_)) = r0)) :
    Calls Try.prog 62 #[.pointer (some ⟨g, 0, none⟩), .int .i64 (most : Int)] w (TkQ w B g bs most G t0 r0) := by
  have cN := qnum_at h hby 1 (by decide) (by decide)
  rw [show ((1 : Nat) : Int) = 1 from rfl] at cN
  go_enter Try.func62, Try.ntmps62
  go_wp2_with fail
  refine cN.mono ?_
  rintro e w1 ⟨z, at2, bad2, rfl, h1⟩
  obtain ⟨uz, q1, k1, g1⟩ := h1.out
  clear cN h1 h
  obtain ⟨uz1, uz2⟩ := uz
  rw [show (256 : Int) ^ 1 = 256 from rfl] at uz2
  obtain ⟨N, rfl⟩ := Int.eq_ofNat_of_zero_le uz1
  have hw : IntKind.i64.wrap (N : Int) = (N : Int) := by rw [IntKind.wrap_i64]; omega
  obtain ⟨A, c, a1, hh, hl, hc, hat, hB⟩ := q1
  have zw1 := a1.lt
  have e0 : ∀ W, Fr w1 W → W.cell? ⟨g, 0, none⟩ = some (.slice A 256 c) := fun W k => by rw [(a1.below k zw1).cell]; rfl
  have e1 : ∀ W, Fr w1 W → W.cell? ⟨g, 1, none⟩ = some (.int .i64 (at2 : Int)) := fun W k => by rw [(a1.below k zw1).cell]; rfl
  have e2 : ∀ W, Fr w1 W → W.cell? ⟨g, 2, none⟩ = some (.bool bad2) := fun W k => by rw [(a1.below k zw1).cell]; rfl
  have hrD : Fr w1 w1.drew := zn (ze w1)
  have hgood : Hid (G → (bs.drop at2).take N = t0 ∧ (bs.drop at2).drop N = r0) := zb fun q => by
    obtain ⟨p1, p2, p3⟩ := hG.out q
    obtain ⟨x1, x2, x3⟩ := g1 ⟨p1, by omega⟩
    have e : N = ctP (bs.drop at_) := by unfold ctP; rw [← x1]; rfl
    rw [e, x2]
    exact ⟨ht.out, hr.out⟩
  have hbd : bad2 = true ∨ most < N ∨ 256 - at2 < N → ¬ G := fun k q => by
    obtain ⟨p1, p2, p3⟩ := hG.out q
    obtain ⟨x1, x2, x3⟩ := g1 ⟨p1, by omega⟩
    have e : N = ctP (bs.drop at_) := by unfold ctP; rw [← x1]; rfl
    have y3 := congrArg List.length x2
    rw [List.length_drop, hl, List.length_drop] at y3
    rcases k with k | k | k
    · rw [x3] at k; cases k
    · omega
    · omega
  clear hG ht hr
  clear g1
  go_upto_region 2 with fail
  try simp only [Act.put]
  by_cases hb : bad2 = true
  · have hno := hbd (.inl hb)
    clear hbd hgood
    subst hb
    refine wp_region_noPanic ?_
    refine wp_region_held_drew (S := fun W => Fr w1 W) (by kernel_rfl) hrD (fun hHeld => ?_)
    change wpAnyH _ _ _ _ _ _ _ _ _
    generalize w1.drew = X0 at *
    refine wpAnyH_take (i := 0) (v := ?_) rfl (by kernel_rfl) (by kernel_rfl) (by kernel_rfl) (fun _ _ _ h => h) (Or.inl ⟨by rfl, ?_⟩) (by assumption) ?_
    rotate_left
    · intro w' hSw
      try dsimp only at hSw
      go_simp
      try with_reducible rfl
    try simp only [List.getElem_toArray, List.getElem_cons_zero, Act.put, List.setIfInBounds_toArray, List.set_cons_zero, List.set_cons_succ]
    refine wpAnyH_take (i := 1) (v := ?_) rfl (by kernel_rfl) (by kernel_rfl) (by kernel_rfl) (fun _ _ _ h => h) (Or.inl ⟨by rfl, ?_⟩) (by assumption) ?_
    rotate_left
    · intro w' hSw
      try dsimp only at hSw
      go_simp
      try with_reducible rfl
    try simp only [List.getElem_toArray, List.getElem_cons_succ, List.getElem_cons_zero, Act.put, List.setIfInBounds_toArray, List.set_cons_zero, List.set_cons_succ]
    refine wpAnyH_take (i := 2) (v := ?_) rfl (by kernel_rfl) (by kernel_rfl) (by kernel_rfl) (fun _ _ _ h => h) (Or.inl ⟨by rfl, ?_⟩) (by assumption) ?_
    rotate_left
    · intro w' hSw
      try dsimp only at hSw
      go_simp
      try with_reducible rfl
    try simp only [List.getElem_toArray, List.getElem_cons_succ, List.getElem_cons_zero, Act.put, List.setIfInBounds_toArray, List.set_cons_zero, List.set_cons_succ]
    refine wpAnyH_take (i := 3) (v := .bool true) rfl (by kernel_rfl) (by kernel_rfl) (by kernel_rfl) (fun _ _ _ h => h) (Or.inl ⟨by rfl, ?_⟩) (by assumption) ?_
    · intro w' hSw
      try dsimp only at hSw
      try go_simp
      all_goals first | done | with_reducible rfl | omega | assumption | (simp; omega)
    try simp only [List.getElem_toArray, List.getElem_cons_succ, List.getElem_cons_zero, Act.put, List.setIfInBounds_toArray, List.set_cons_zero, List.set_cons_succ]
    refine wpAnyH_take (i := 4) (v := .bool true) rfl (by kernel_rfl) (by kernel_rfl) (by kernel_rfl) (fun _ _ _ h => h) (Or.inl ⟨by rfl, ?_⟩) (by assumption) ?_
    · intro w' hSw
      try dsimp only at hSw
      try go_simp
      all_goals first | done | with_reducible rfl | omega | assumption | (simp; omega)
    try simp only [List.getElem_toArray, List.getElem_cons_succ, List.getElem_cons_zero, Act.put, List.setIfInBounds_toArray, List.set_cons_zero, List.set_cons_succ]
    refine wpAnyH_take (i := 5) (v := undef) rfl (by kernel_rfl) (by kernel_rfl) (by kernel_rfl) (fun _ _ _ h => h) (Or.inr ⟨by rfl, rfl⟩) (by assumption) ?_
    try simp only [List.getElem_toArray, List.getElem_cons_succ, List.getElem_cons_zero, Act.put, List.setIfInBounds_toArray, List.set_cons_zero, List.set_cons_succ]
    refine wpAnyH_take (i := 6) (v := undef) rfl (by kernel_rfl) (by kernel_rfl) (by kernel_rfl) (fun _ _ _ h => h) (Or.inr ⟨by rfl, rfl⟩) (by assumption) ?_
    try simp only [List.getElem_toArray, List.getElem_cons_succ, List.getElem_cons_zero, Act.put, List.setIfInBounds_toArray, List.set_cons_zero, List.set_cons_succ]
    refine wpAnyH_take (i := 7) (v := undef) rfl (by kernel_rfl) (by kernel_rfl) (by kernel_rfl) (fun _ _ _ h => h) (Or.inr ⟨by rfl, rfl⟩) (by assumption) ?_
    try simp only [List.getElem_toArray, List.getElem_cons_succ, List.getElem_cons_zero, Act.put, List.setIfInBounds_toArray, List.set_cons_zero, List.set_cons_succ]
    refine wpAnyH_take (i := 8) (v := .bool true) rfl (by kernel_rfl) (by kernel_rfl) (by kernel_rfl) (fun _ _ _ h => h) (Or.inl ⟨by rfl, ?_⟩) (by assumption) ?_
    · intro w' hSw
      try dsimp only at hSw
      try go_simp
      all_goals first | done | with_reducible rfl | omega | assumption | (simp; omega)
    try simp only [List.getElem_toArray, List.getElem_cons_succ, List.getElem_cons_zero, Act.put, List.setIfInBounds_toArray, List.set_cons_zero, List.set_cons_succ]
    refine wpAnyH_take (i := 9) (v := .bool true) rfl (by kernel_rfl) (by kernel_rfl) (by kernel_rfl) (fun _ _ _ h => h) (Or.inl ⟨by rfl, ?_⟩) (by assumption) ?_
    · intro w' hSw
      try dsimp only at hSw
      try go_simp
      all_goals first | done | with_reducible rfl | omega | assumption | (simp; omega)
    try simp only [List.getElem_toArray, List.getElem_cons_succ, List.getElem_cons_zero, Act.put, List.setIfInBounds_toArray, List.set_cons_zero, List.set_cons_succ]
    refine wpAnyH_take (i := 10) (v := undef) rfl (by kernel_rfl) (by kernel_rfl) (by kernel_rfl) (fun _ _ _ h => h) (Or.inr ⟨by rfl, rfl⟩) (by assumption) ?_
    try simp only [List.getElem_toArray, List.getElem_cons_succ, List.getElem_cons_zero, Act.put, List.setIfInBounds_toArray, List.set_cons_zero, List.set_cons_succ]
    refine wpAnyH_take (i := 11) (v := undef) rfl (by kernel_rfl) (by kernel_rfl) (by kernel_rfl) (fun _ _ _ h => h) (Or.inr ⟨by rfl, rfl⟩) (by assumption) ?_
    try simp only [List.getElem_toArray, List.getElem_cons_succ, List.getElem_cons_zero, Act.put, List.setIfInBounds_toArray, List.set_cons_zero, List.set_cons_succ]
    refine wpAnyH_take (i := 12) (v := undef) rfl (by kernel_rfl) (by kernel_rfl) (by kernel_rfl) (fun _ _ _ h => h) (Or.inr ⟨by rfl, rfl⟩) (by assumption) ?_
    try simp only [List.getElem_toArray, List.getElem_cons_succ, List.getElem_cons_zero, Act.put, List.setIfInBounds_toArray, List.set_cons_zero, List.set_cons_succ]
    refine wpAnyH_take (i := 13) (v := undef) rfl (by kernel_rfl) (by kernel_rfl) (by kernel_rfl) (fun _ _ _ h => h) (Or.inr ⟨by rfl, rfl⟩) (by assumption) ?_
    try simp only [List.getElem_toArray, List.getElem_cons_succ, List.getElem_cons_zero, Act.put, List.setIfInBounds_toArray, List.set_cons_zero, List.set_cons_succ]
    refine wpAnyH_take (i := 14) (v := undef) rfl (by kernel_rfl) (by kernel_rfl) (by kernel_rfl) (fun _ _ _ h => h) (Or.inr ⟨by rfl, rfl⟩) (by assumption) ?_
    try simp only [List.getElem_toArray, List.getElem_cons_succ, List.getElem_cons_zero, Act.put, List.setIfInBounds_toArray, List.set_cons_zero, List.set_cons_succ]
    refine wpAnyH_take (i := 15) (v := undef) rfl (by kernel_rfl) (by kernel_rfl) (by kernel_rfl) (fun _ _ _ h => h) (Or.inr ⟨by rfl, rfl⟩) (by assumption) ?_
    try simp only [List.getElem_toArray, List.getElem_cons_succ, List.getElem_cons_zero, Act.put, List.setIfInBounds_toArray, List.set_cons_zero, List.set_cons_succ]
    refine wpAnyH_take (i := 16) (v := undef) rfl (by kernel_rfl) (by kernel_rfl) (by kernel_rfl) (fun _ _ _ h => h) (Or.inr ⟨by rfl, rfl⟩) (by assumption) ?_
    try simp only [List.getElem_toArray, List.getElem_cons_succ, List.getElem_cons_zero, Act.put, List.setIfInBounds_toArray, List.set_cons_zero, List.set_cons_succ]
    refine wpAnyH_take (i := 17) (v := undef) rfl (by kernel_rfl) (by kernel_rfl) (by kernel_rfl) (fun _ _ _ h => h) (Or.inr ⟨by rfl, rfl⟩) (by assumption) ?_
    try simp only [List.getElem_toArray, List.getElem_cons_succ, List.getElem_cons_zero, Act.put, List.setIfInBounds_toArray, List.set_cons_zero, List.set_cons_succ]
    refine wpAnyH_take (i := 18) (v := undef) rfl (by kernel_rfl) (by kernel_rfl) (by kernel_rfl) (fun _ _ _ h => h) (Or.inr ⟨by rfl, rfl⟩) (by assumption) ?_
    try simp only [List.getElem_toArray, List.getElem_cons_succ, List.getElem_cons_zero, Act.put, List.setIfInBounds_toArray, List.set_cons_zero, List.set_cons_succ]
    refine wpAnyH_take (i := 19) (v := undef) rfl (by kernel_rfl) (by kernel_rfl) (by kernel_rfl) (fun _ _ _ h => h) (Or.inr ⟨by rfl, rfl⟩) (by assumption) ?_
    try simp only [List.getElem_toArray, List.getElem_cons_succ, List.getElem_cons_zero, Act.put, List.setIfInBounds_toArray, List.set_cons_zero, List.set_cons_succ]
    refine wpAnyH_take (i := 20) (v := undef) rfl (by kernel_rfl) (by kernel_rfl) (by kernel_rfl) (fun _ _ _ h => h) (Or.inr ⟨by rfl, rfl⟩) (by assumption) ?_
    try simp only [List.getElem_toArray, List.getElem_cons_succ, List.getElem_cons_zero, Act.put, List.setIfInBounds_toArray, List.set_cons_zero, List.set_cons_succ]
    refine wpAnyH_take (i := 21) (v := undef) rfl (by kernel_rfl) (by kernel_rfl) (by kernel_rfl) (fun _ _ _ h => h) (Or.inr ⟨by rfl, rfl⟩) (by assumption) ?_
    try simp only [List.getElem_toArray, List.getElem_cons_succ, List.getElem_cons_zero, Act.put, List.setIfInBounds_toArray, List.set_cons_zero, List.set_cons_succ]
    refine wpAnyH_take (i := 22) (v := .bool true) rfl (by kernel_rfl) (by kernel_rfl) (by kernel_rfl) (fun _ _ _ h => h) (Or.inl ⟨by rfl, ?_⟩) (by assumption) ?_
    · intro w' hSw
      try dsimp only at hSw
      try go_simp
      all_goals first | done | with_reducible rfl | omega | assumption | (simp; omega)
    try simp only [List.getElem_toArray, List.getElem_cons_succ, List.getElem_cons_zero, Act.put, List.setIfInBounds_toArray, List.set_cons_zero, List.set_cons_succ]
    refine wpAnyH_done (by kernel_rfl) ?_ _
    refine NoPanic.normal ?_
    have a0 := a1.below hrD zw1
    have h0 := hh.fr (Nat.le_trans hB (Nat.le_of_lt zw1)) hrD
    have d2 : X0.cell? ⟨g, 2, none⟩ = some (.bool true) := by rw [a0.cell]; rfl
    have f2 := a0.free 2
    obtain ⟨a2, k2⟩ := kpg_set (j := 2) a0 (.bool true)
    have Q2 : Hid (Qd (X0.setCell ⟨g, 2, none⟩ (.bool true)) B g bs at2 true) := zb (Qd.to a0 h0 hl hc hB hat a2 k2)
    have K2 := zb ((k1.fr hrD).trans k2)
    have Hno := zb hno
    clear a2 k2 a0 h0 hh e0 e1 e2 a1 hby hl hno k1
    go_wp2_with fail
    go_ret
    exact ⟨none, 0, 0, [], _, _, rfl, zb ⟨rfl, Nat.zero_le _, Nat.le_refl _, bytes_nil, Has.nil, Q2.out, K2.out, fun q => absurd q Hno.out⟩⟩
  · obtain rfl : bad2 = false := by simpa using hb
    by_cases hm1 : most < N
    · have hm1i : (most : Int) < (N : Int) := by omega
      have hno := hbd (.inr (.inl hm1))
      clear hbd hgood
      refine wp_region_noPanic ?_
      refine wp_region_held_drew (S := fun W => Fr w1 W) (by kernel_rfl) hrD (fun hHeld => ?_)
      change wpAnyH _ _ _ _ _ _ _ _ _
      generalize w1.drew = X0 at *
      refine wpAnyH_take (i := 0) (v := ?_) rfl (by kernel_rfl) (by kernel_rfl) (by kernel_rfl) (fun _ _ _ h => h) (Or.inl ⟨by rfl, ?_⟩) (by assumption) ?_
      rotate_left
      · intro w' hSw
        try dsimp only at hSw
        go_simp
        try with_reducible rfl
      try simp only [List.getElem_toArray, List.getElem_cons_zero, Act.put, List.setIfInBounds_toArray, List.set_cons_zero, List.set_cons_succ]
      refine wpAnyH_take (i := 1) (v := ?_) rfl (by kernel_rfl) (by kernel_rfl) (by kernel_rfl) (fun _ _ _ h => h) (Or.inl ⟨by rfl, ?_⟩) (by assumption) ?_
      rotate_left
      · intro w' hSw
        try dsimp only at hSw
        go_simp
        try with_reducible rfl
      try simp only [List.getElem_toArray, List.getElem_cons_succ, List.getElem_cons_zero, Act.put, List.setIfInBounds_toArray, List.set_cons_zero, List.set_cons_succ]
      refine wpAnyH_take (i := 2) (v := ?_) rfl (by kernel_rfl) (by kernel_rfl) (by kernel_rfl) (fun _ _ _ h => h) (Or.inl ⟨by rfl, ?_⟩) (by assumption) ?_
      rotate_left
      · intro w' hSw
        try dsimp only at hSw
        go_simp
        try with_reducible rfl
      try simp only [List.getElem_toArray, List.getElem_cons_succ, List.getElem_cons_zero, Act.put, List.setIfInBounds_toArray, List.set_cons_zero, List.set_cons_succ]
      refine wpAnyH_take (i := 3) (v := .bool false) rfl (by kernel_rfl) (by kernel_rfl) (by kernel_rfl) (fun _ _ _ h => h) (Or.inl ⟨by rfl, ?_⟩) (by assumption) ?_
      · intro w' hSw
        try dsimp only at hSw
        try go_simp
        all_goals first | done | with_reducible rfl | omega | assumption | (simp; omega)
      try simp only [List.getElem_toArray, List.getElem_cons_succ, List.getElem_cons_zero, Act.put, List.setIfInBounds_toArray, List.set_cons_zero, List.set_cons_succ]
      refine wpAnyH_take (i := 4) (v := .bool false) rfl (by kernel_rfl) (by kernel_rfl) (by kernel_rfl) (fun _ _ _ h => h) (Or.inl ⟨by rfl, ?_⟩) (by assumption) ?_
      · intro w' hSw
        try dsimp only at hSw
        try go_simp
        all_goals first | done | with_reducible rfl | omega | assumption | (simp; omega)
      try simp only [List.getElem_toArray, List.getElem_cons_succ, List.getElem_cons_zero, Act.put, List.setIfInBounds_toArray, List.set_cons_zero, List.set_cons_succ]
      refine wpAnyH_take (i := 5) (v := ?_) rfl (by kernel_rfl) (by kernel_rfl) (by kernel_rfl) (fun _ _ _ h => h) (Or.inl ⟨by rfl, ?_⟩) (by assumption) ?_
      rotate_left
      · intro w' hSw
        try dsimp only at hSw
        go_simp
        try with_reducible rfl
      try simp only [List.getElem_toArray, List.getElem_cons_succ, List.getElem_cons_zero, Act.put, List.setIfInBounds_toArray, List.set_cons_zero, List.set_cons_succ]
      refine wpAnyH_take (i := 6) (v := ?_) rfl (by kernel_rfl) (by kernel_rfl) (by kernel_rfl) (fun _ _ _ h => h) (Or.inl ⟨by rfl, ?_⟩) (by assumption) ?_
      rotate_left
      · intro w' hSw
        try dsimp only at hSw
        go_simp
        try with_reducible rfl
      try simp only [List.getElem_toArray, List.getElem_cons_succ, List.getElem_cons_zero, Act.put, List.setIfInBounds_toArray, List.set_cons_zero, List.set_cons_succ]
      refine wpAnyH_take (i := 7) (v := .bool true) rfl (by kernel_rfl) (by kernel_rfl) (by kernel_rfl) (fun _ _ _ h => h) (Or.inl ⟨by rfl, ?_⟩) (by assumption) ?_
      · intro w' hSw
        try dsimp only at hSw
        try go_simp
        all_goals first | done | with_reducible rfl | omega | assumption | (simp; omega)
      try simp only [List.getElem_toArray, List.getElem_cons_succ, List.getElem_cons_zero, Act.put, List.setIfInBounds_toArray, List.set_cons_zero, List.set_cons_succ]
      refine wpAnyH_take (i := 8) (v := .bool true) rfl (by kernel_rfl) (by kernel_rfl) (by kernel_rfl) (fun _ _ _ h => h) (Or.inl ⟨by rfl, ?_⟩) (by assumption) ?_
      · intro w' hSw
        try dsimp only at hSw
        try go_simp
        all_goals first | done | with_reducible rfl | omega | assumption | (simp; omega)
      try simp only [List.getElem_toArray, List.getElem_cons_succ, List.getElem_cons_zero, Act.put, List.setIfInBounds_toArray, List.set_cons_zero, List.set_cons_succ]
      refine wpAnyH_take (i := 9) (v := .bool true) rfl (by kernel_rfl) (by kernel_rfl) (by kernel_rfl) (fun _ _ _ h => h) (Or.inl ⟨by rfl, ?_⟩) (by assumption) ?_
      · intro w' hSw
        try dsimp only at hSw
        try go_simp
        all_goals first | done | with_reducible rfl | omega | assumption | (simp; omega)
      try simp only [List.getElem_toArray, List.getElem_cons_succ, List.getElem_cons_zero, Act.put, List.setIfInBounds_toArray, List.set_cons_zero, List.set_cons_succ]
      refine wpAnyH_take (i := 10) (v := undef) rfl (by kernel_rfl) (by kernel_rfl) (by kernel_rfl) (fun _ _ _ h => h) (Or.inr ⟨by rfl, rfl⟩) (by assumption) ?_
      try simp only [List.getElem_toArray, List.getElem_cons_succ, List.getElem_cons_zero, Act.put, List.setIfInBounds_toArray, List.set_cons_zero, List.set_cons_succ]
      refine wpAnyH_take (i := 11) (v := undef) rfl (by kernel_rfl) (by kernel_rfl) (by kernel_rfl) (fun _ _ _ h => h) (Or.inr ⟨by rfl, rfl⟩) (by assumption) ?_
      try simp only [List.getElem_toArray, List.getElem_cons_succ, List.getElem_cons_zero, Act.put, List.setIfInBounds_toArray, List.set_cons_zero, List.set_cons_succ]
      refine wpAnyH_take (i := 12) (v := undef) rfl (by kernel_rfl) (by kernel_rfl) (by kernel_rfl) (fun _ _ _ h => h) (Or.inr ⟨by rfl, rfl⟩) (by assumption) ?_
      try simp only [List.getElem_toArray, List.getElem_cons_succ, List.getElem_cons_zero, Act.put, List.setIfInBounds_toArray, List.set_cons_zero, List.set_cons_succ]
      refine wpAnyH_take (i := 13) (v := undef) rfl (by kernel_rfl) (by kernel_rfl) (by kernel_rfl) (fun _ _ _ h => h) (Or.inr ⟨by rfl, rfl⟩) (by assumption) ?_
      try simp only [List.getElem_toArray, List.getElem_cons_succ, List.getElem_cons_zero, Act.put, List.setIfInBounds_toArray, List.set_cons_zero, List.set_cons_succ]
      refine wpAnyH_take (i := 14) (v := undef) rfl (by kernel_rfl) (by kernel_rfl) (by kernel_rfl) (fun _ _ _ h => h) (Or.inr ⟨by rfl, rfl⟩) (by assumption) ?_
      try simp only [List.getElem_toArray, List.getElem_cons_succ, List.getElem_cons_zero, Act.put, List.setIfInBounds_toArray, List.set_cons_zero, List.set_cons_succ]
      refine wpAnyH_take (i := 15) (v := undef) rfl (by kernel_rfl) (by kernel_rfl) (by kernel_rfl) (fun _ _ _ h => h) (Or.inr ⟨by rfl, rfl⟩) (by assumption) ?_
      try simp only [List.getElem_toArray, List.getElem_cons_succ, List.getElem_cons_zero, Act.put, List.setIfInBounds_toArray, List.set_cons_zero, List.set_cons_succ]
      refine wpAnyH_take (i := 16) (v := undef) rfl (by kernel_rfl) (by kernel_rfl) (by kernel_rfl) (fun _ _ _ h => h) (Or.inr ⟨by rfl, rfl⟩) (by assumption) ?_
      try simp only [List.getElem_toArray, List.getElem_cons_succ, List.getElem_cons_zero, Act.put, List.setIfInBounds_toArray, List.set_cons_zero, List.set_cons_succ]
      refine wpAnyH_take (i := 17) (v := undef) rfl (by kernel_rfl) (by kernel_rfl) (by kernel_rfl) (fun _ _ _ h => h) (Or.inr ⟨by rfl, rfl⟩) (by assumption) ?_
      try simp only [List.getElem_toArray, List.getElem_cons_succ, List.getElem_cons_zero, Act.put, List.setIfInBounds_toArray, List.set_cons_zero, List.set_cons_succ]
      refine wpAnyH_take (i := 18) (v := undef) rfl (by kernel_rfl) (by kernel_rfl) (by kernel_rfl) (fun _ _ _ h => h) (Or.inr ⟨by rfl, rfl⟩) (by assumption) ?_
      try simp only [List.getElem_toArray, List.getElem_cons_succ, List.getElem_cons_zero, Act.put, List.setIfInBounds_toArray, List.set_cons_zero, List.set_cons_succ]
      refine wpAnyH_take (i := 19) (v := undef) rfl (by kernel_rfl) (by kernel_rfl) (by kernel_rfl) (fun _ _ _ h => h) (Or.inr ⟨by rfl, rfl⟩) (by assumption) ?_
      try simp only [List.getElem_toArray, List.getElem_cons_succ, List.getElem_cons_zero, Act.put, List.setIfInBounds_toArray, List.set_cons_zero, List.set_cons_succ]
      refine wpAnyH_take (i := 20) (v := undef) rfl (by kernel_rfl) (by kernel_rfl) (by kernel_rfl) (fun _ _ _ h => h) (Or.inr ⟨by rfl, rfl⟩) (by assumption) ?_
      try simp only [List.getElem_toArray, List.getElem_cons_succ, List.getElem_cons_zero, Act.put, List.setIfInBounds_toArray, List.set_cons_zero, List.set_cons_succ]
      refine wpAnyH_take (i := 21) (v := undef) rfl (by kernel_rfl) (by kernel_rfl) (by kernel_rfl) (fun _ _ _ h => h) (Or.inr ⟨by rfl, rfl⟩) (by assumption) ?_
      try simp only [List.getElem_toArray, List.getElem_cons_succ, List.getElem_cons_zero, Act.put, List.setIfInBounds_toArray, List.set_cons_zero, List.set_cons_succ]
      refine wpAnyH_take (i := 22) (v := .bool true) rfl (by kernel_rfl) (by kernel_rfl) (by kernel_rfl) (fun _ _ _ h => h) (Or.inl ⟨by rfl, ?_⟩) (by assumption) ?_
      · intro w' hSw
        try dsimp only at hSw
        try go_simp
        all_goals first | done | with_reducible rfl | omega | assumption | (simp; omega)
      try simp only [List.getElem_toArray, List.getElem_cons_succ, List.getElem_cons_zero, Act.put, List.setIfInBounds_toArray, List.set_cons_zero, List.set_cons_succ]
      refine wpAnyH_done (by kernel_rfl) ?_ _
      refine NoPanic.normal ?_
      have a0 := a1.below hrD zw1
      have h0 := hh.fr (Nat.le_trans hB (Nat.le_of_lt zw1)) hrD
      have d2 : X0.cell? ⟨g, 2, none⟩ = some (.bool false) := by rw [a0.cell]; rfl
      have f2 := a0.free 2
      obtain ⟨a2, k2⟩ := kpg_set (j := 2) a0 (.bool true)
      have Q2 : Hid (Qd (X0.setCell ⟨g, 2, none⟩ (.bool true)) B g bs at2 true) := zb (Qd.to a0 h0 hl hc hB hat a2 k2)
      have K2 := zb ((k1.fr hrD).trans k2)
      have Hno := zb hno
      clear a2 k2 a0 h0 hh e0 e1 e2 a1 hby hl hno k1
      go_wp2_with fail
      go_ret
      exact ⟨none, 0, 0, [], _, _, rfl, zb ⟨rfl, Nat.zero_le _, Nat.le_refl _, bytes_nil, Has.nil, Q2.out, K2.out, fun q => absurd q Hno.out⟩⟩
    · have hm1i : ¬ (most : Int) < (N : Int) := by omega
      by_cases hm2 : 256 - at2 < N
      · have hm2i : (256 : Int) - (at2 : Int) < (N : Int) := by omega
        have hw3 : IntKind.i64.wrap ((256 : Int) - (at2 : Int)) = (256 : Int) - (at2 : Int) := by rw [IntKind.wrap_i64]; omega
        have hno := hbd (.inr (.inr hm2))
        clear hbd hgood
        refine wp_region_noPanic ?_
        refine wp_region_held_drew (S := fun W => Fr w1 W) (by kernel_rfl) hrD (fun hHeld => ?_)
        change wpAnyH _ _ _ _ _ _ _ _ _
        generalize w1.drew = X0 at *
        refine wpAnyH_take (i := 0) (v := ?_) rfl (by kernel_rfl) (by kernel_rfl) (by kernel_rfl) (fun _ _ _ h => h) (Or.inl ⟨by rfl, ?_⟩) (by assumption) ?_
        rotate_left
        · intro w' hSw
          try dsimp only at hSw
          go_simp
          try with_reducible rfl
        try simp only [List.getElem_toArray, List.getElem_cons_zero, Act.put, List.setIfInBounds_toArray, List.set_cons_zero, List.set_cons_succ]
        refine wpAnyH_take (i := 1) (v := ?_) rfl (by kernel_rfl) (by kernel_rfl) (by kernel_rfl) (fun _ _ _ h => h) (Or.inl ⟨by rfl, ?_⟩) (by assumption) ?_
        rotate_left
        · intro w' hSw
          try dsimp only at hSw
          go_simp
          try with_reducible rfl
        try simp only [List.getElem_toArray, List.getElem_cons_succ, List.getElem_cons_zero, Act.put, List.setIfInBounds_toArray, List.set_cons_zero, List.set_cons_succ]
        refine wpAnyH_take (i := 2) (v := ?_) rfl (by kernel_rfl) (by kernel_rfl) (by kernel_rfl) (fun _ _ _ h => h) (Or.inl ⟨by rfl, ?_⟩) (by assumption) ?_
        rotate_left
        · intro w' hSw
          try dsimp only at hSw
          go_simp
          try with_reducible rfl
        try simp only [List.getElem_toArray, List.getElem_cons_succ, List.getElem_cons_zero, Act.put, List.setIfInBounds_toArray, List.set_cons_zero, List.set_cons_succ]
        refine wpAnyH_take (i := 3) (v := .bool false) rfl (by kernel_rfl) (by kernel_rfl) (by kernel_rfl) (fun _ _ _ h => h) (Or.inl ⟨by rfl, ?_⟩) (by assumption) ?_
        · intro w' hSw
          try dsimp only at hSw
          try go_simp
          all_goals first | done | with_reducible rfl | omega | assumption | (simp; omega)
        try simp only [List.getElem_toArray, List.getElem_cons_succ, List.getElem_cons_zero, Act.put, List.setIfInBounds_toArray, List.set_cons_zero, List.set_cons_succ]
        refine wpAnyH_take (i := 4) (v := .bool false) rfl (by kernel_rfl) (by kernel_rfl) (by kernel_rfl) (fun _ _ _ h => h) (Or.inl ⟨by rfl, ?_⟩) (by assumption) ?_
        · intro w' hSw
          try dsimp only at hSw
          try go_simp
          all_goals first | done | with_reducible rfl | omega | assumption | (simp; omega)
        try simp only [List.getElem_toArray, List.getElem_cons_succ, List.getElem_cons_zero, Act.put, List.setIfInBounds_toArray, List.set_cons_zero, List.set_cons_succ]
        refine wpAnyH_take (i := 5) (v := ?_) rfl (by kernel_rfl) (by kernel_rfl) (by kernel_rfl) (fun _ _ _ h => h) (Or.inl ⟨by rfl, ?_⟩) (by assumption) ?_
        rotate_left
        · intro w' hSw
          try dsimp only at hSw
          go_simp
          try with_reducible rfl
        try simp only [List.getElem_toArray, List.getElem_cons_succ, List.getElem_cons_zero, Act.put, List.setIfInBounds_toArray, List.set_cons_zero, List.set_cons_succ]
        refine wpAnyH_take (i := 6) (v := ?_) rfl (by kernel_rfl) (by kernel_rfl) (by kernel_rfl) (fun _ _ _ h => h) (Or.inl ⟨by rfl, ?_⟩) (by assumption) ?_
        rotate_left
        · intro w' hSw
          try dsimp only at hSw
          go_simp
          try with_reducible rfl
        try simp only [List.getElem_toArray, List.getElem_cons_succ, List.getElem_cons_zero, Act.put, List.setIfInBounds_toArray, List.set_cons_zero, List.set_cons_succ]
        refine wpAnyH_take (i := 7) (v := .bool false) rfl (by kernel_rfl) (by kernel_rfl) (by kernel_rfl) (fun _ _ _ h => h) (Or.inl ⟨by rfl, ?_⟩) (by assumption) ?_
        · intro w' hSw
          try dsimp only at hSw
          try go_simp
          all_goals first | done | with_reducible rfl | omega | assumption | (simp; omega)
        try simp only [List.getElem_toArray, List.getElem_cons_succ, List.getElem_cons_zero, Act.put, List.setIfInBounds_toArray, List.set_cons_zero, List.set_cons_succ]
        refine wpAnyH_take (i := 8) (v := .bool false) rfl (by kernel_rfl) (by kernel_rfl) (by kernel_rfl) (fun _ _ _ h => h) (Or.inl ⟨by rfl, ?_⟩) (by assumption) ?_
        · intro w' hSw
          try dsimp only at hSw
          try go_simp
          all_goals first | done | with_reducible rfl | omega | assumption | (simp; omega)
        try simp only [List.getElem_toArray, List.getElem_cons_succ, List.getElem_cons_zero, Act.put, List.setIfInBounds_toArray, List.set_cons_zero, List.set_cons_succ]
        refine wpAnyH_take (i := 9) (v := .bool false) rfl (by kernel_rfl) (by kernel_rfl) (by kernel_rfl) (fun _ _ _ h => h) (Or.inl ⟨by rfl, ?_⟩) (by assumption) ?_
        · intro w' hSw
          try dsimp only at hSw
          try go_simp
          all_goals first | done | with_reducible rfl | omega | assumption | (simp; omega)
        try simp only [List.getElem_toArray, List.getElem_cons_succ, List.getElem_cons_zero, Act.put, List.setIfInBounds_toArray, List.set_cons_zero, List.set_cons_succ]
        refine wpAnyH_take (i := 10) (v := ?_) rfl (by kernel_rfl) (by kernel_rfl) (by kernel_rfl) (fun _ _ _ h => h) (Or.inl ⟨by rfl, ?_⟩) (by assumption) ?_
        rotate_left
        · intro w' hSw
          try dsimp only at hSw
          go_simp
          try with_reducible rfl
        try simp only [List.getElem_toArray, List.getElem_cons_succ, List.getElem_cons_zero, Act.put, List.setIfInBounds_toArray, List.set_cons_zero, List.set_cons_succ]
        refine wpAnyH_take (i := 11) (v := ?_) rfl (by kernel_rfl) (by kernel_rfl) (by kernel_rfl) (fun _ _ _ h => h) (Or.inl ⟨by rfl, ?_⟩) (by assumption) ?_
        rotate_left
        · intro w' hSw
          try dsimp only at hSw
          go_simp
          try with_reducible rfl
        try simp only [List.getElem_toArray, List.getElem_cons_succ, List.getElem_cons_zero, Act.put, List.setIfInBounds_toArray, List.set_cons_zero, List.set_cons_succ]
        refine wpAnyH_take (i := 12) (v := ?_) rfl (by kernel_rfl) (by kernel_rfl) (by kernel_rfl) (fun _ _ _ h => h) (Or.inl ⟨by rfl, ?_⟩) (by assumption) ?_
        rotate_left
        · intro w' hSw
          try dsimp only at hSw
          go_simp
          try with_reducible rfl
        try simp only [List.getElem_toArray, List.getElem_cons_succ, List.getElem_cons_zero, Act.put, List.setIfInBounds_toArray, List.set_cons_zero, List.set_cons_succ]
        refine wpAnyH_take (i := 13) (v := ?_) rfl (by kernel_rfl) (by kernel_rfl) (by kernel_rfl) (fun _ _ _ h => h) (Or.inl ⟨by rfl, ?_⟩) (by assumption) ?_
        rotate_left
        · intro w' hSw
          try dsimp only at hSw
          go_simp
          try with_reducible rfl
        try simp only [List.getElem_toArray, List.getElem_cons_succ, List.getElem_cons_zero, Act.put, List.setIfInBounds_toArray, List.set_cons_zero, List.set_cons_succ]
        refine wpAnyH_take (i := 14) (v := ?_) rfl (by kernel_rfl) (by kernel_rfl) (by kernel_rfl) (fun _ _ _ h => h) (Or.inl ⟨by rfl, ?_⟩) (by assumption) ?_
        rotate_left
        · intro w' hSw
          try dsimp only at hSw
          go_simp
          try with_reducible rfl
        try simp only [List.getElem_toArray, List.getElem_cons_succ, List.getElem_cons_zero, Act.put, List.setIfInBounds_toArray, List.set_cons_zero, List.set_cons_succ]
        refine wpAnyH_take (i := 15) (v := ?_) rfl (by kernel_rfl) (by kernel_rfl) (by kernel_rfl) (fun _ _ _ h => h) (Or.inl ⟨by rfl, ?_⟩) (by assumption) ?_
        rotate_left
        · intro w' hSw
          try dsimp only at hSw
          go_simp
          try with_reducible rfl
        try simp only [List.getElem_toArray, List.getElem_cons_succ, List.getElem_cons_zero, Act.put, List.setIfInBounds_toArray, List.set_cons_zero, List.set_cons_succ]
        refine wpAnyH_take (i := 16) (v := ?_) rfl (by kernel_rfl) (by kernel_rfl) (by kernel_rfl) (fun _ _ _ h => h) (Or.inl ⟨by rfl, ?_⟩) (by assumption) ?_
        rotate_left
        · intro w' hSw
          try dsimp only at hSw
          go_simp
          try with_reducible rfl
        try simp only [List.getElem_toArray, List.getElem_cons_succ, List.getElem_cons_zero, Act.put, List.setIfInBounds_toArray, List.set_cons_zero, List.set_cons_succ]
        refine wpAnyH_take (i := 17) (v := ?_) rfl (by kernel_rfl) (by kernel_rfl) (by kernel_rfl) (fun _ _ _ h => h) (Or.inl ⟨by rfl, ?_⟩) (by assumption) ?_
        rotate_left
        · intro w' hSw
          try dsimp only at hSw
          go_simp
          try with_reducible rfl
        try simp only [List.getElem_toArray, List.getElem_cons_succ, List.getElem_cons_zero, Act.put, List.setIfInBounds_toArray, List.set_cons_zero, List.set_cons_succ]
        refine wpAnyH_take (i := 18) (v := ?_) rfl (by kernel_rfl) (by kernel_rfl) (by kernel_rfl) (fun _ _ _ h => h) (Or.inl ⟨by rfl, ?_⟩) (by assumption) ?_
        rotate_left
        · intro w' hSw
          try dsimp only at hSw
          go_simp
          try with_reducible rfl
        try simp only [List.getElem_toArray, List.getElem_cons_succ, List.getElem_cons_zero, Act.put, List.setIfInBounds_toArray, List.set_cons_zero, List.set_cons_succ]
        refine wpAnyH_take (i := 19) (v := ?_) rfl (by kernel_rfl) (by kernel_rfl) (by kernel_rfl) (fun _ _ _ h => h) (Or.inl ⟨by rfl, ?_⟩) (by assumption) ?_
        rotate_left
        · intro w' hSw
          try dsimp only at hSw
          go_simp
          try with_reducible rfl
        try simp only [List.getElem_toArray, List.getElem_cons_succ, List.getElem_cons_zero, Act.put, List.setIfInBounds_toArray, List.set_cons_zero, List.set_cons_succ]
        refine wpAnyH_take (i := 20) (v := ?_) rfl (by kernel_rfl) (by kernel_rfl) (by kernel_rfl) (fun _ _ _ h => h) (Or.inl ⟨by rfl, ?_⟩) (by assumption) ?_
        rotate_left
        · intro w' hSw
          try dsimp only at hSw
          go_simp
          try with_reducible rfl
        try simp only [List.getElem_toArray, List.getElem_cons_succ, List.getElem_cons_zero, Act.put, List.setIfInBounds_toArray, List.set_cons_zero, List.set_cons_succ]
        refine wpAnyH_take (i := 21) (v := .bool true) rfl (by kernel_rfl) (by kernel_rfl) (by kernel_rfl) (fun _ _ _ h => h) (Or.inl ⟨by rfl, ?_⟩) (by assumption) ?_
        · intro w' hSw
          try dsimp only at hSw
          try go_simp
          all_goals first | done | with_reducible rfl | omega | assumption | (simp; omega)
        try simp only [List.getElem_toArray, List.getElem_cons_succ, List.getElem_cons_zero, Act.put, List.setIfInBounds_toArray, List.set_cons_zero, List.set_cons_succ]
        refine wpAnyH_take (i := 22) (v := .bool true) rfl (by kernel_rfl) (by kernel_rfl) (by kernel_rfl) (fun _ _ _ h => h) (Or.inl ⟨by rfl, ?_⟩) (by assumption) ?_
        · intro w' hSw
          try dsimp only at hSw
          try go_simp
          all_goals first | done | with_reducible rfl | omega | assumption | (simp; omega)
        try simp only [List.getElem_toArray, List.getElem_cons_succ, List.getElem_cons_zero, Act.put, List.setIfInBounds_toArray, List.set_cons_zero, List.set_cons_succ]
        refine wpAnyH_done (by kernel_rfl) ?_ _
        refine NoPanic.normal ?_
        have a0 := a1.below hrD zw1
        have h0 := hh.fr (Nat.le_trans hB (Nat.le_of_lt zw1)) hrD
        have d2 : X0.cell? ⟨g, 2, none⟩ = some (.bool false) := by rw [a0.cell]; rfl
        have f2 := a0.free 2
        obtain ⟨a2, k2⟩ := kpg_set (j := 2) a0 (.bool true)
        have Q2 : Hid (Qd (X0.setCell ⟨g, 2, none⟩ (.bool true)) B g bs at2 true) := zb (Qd.to a0 h0 hl hc hB hat a2 k2)
        have K2 := zb ((k1.fr hrD).trans k2)
        have Hno := zb hno
        clear a2 k2 a0 h0 hh e0 e1 e2 a1 hby hl hno k1
        go_wp2_with fail
        go_ret
        exact ⟨none, 0, 0, [], _, _, rfl, zb ⟨rfl, Nat.zero_le _, Nat.le_refl _, bytes_nil, Has.nil, Q2.out, K2.out, fun q => absurd q Hno.out⟩⟩
      · clear hbd
        have hm2i : ¬ (256 : Int) - (at2 : Int) < (N : Int) := by omega
        obtain ⟨M, hM⟩ : ∃ M, M = at2 + N := ⟨_, rfl⟩
        have hw3 : IntKind.i64.wrap ((256 : Int) - (at2 : Int)) = (256 : Int) - (at2 : Int) := by rw [IntKind.wrap_i64]; omega
        have hwr : IntKind.i64.wrap ((at2 : Int) + (N : Int)) = (M : Int) := by rw [IntKind.wrap_i64]; omega
        have hwr0 : IntKind.i64.wrap (at2 : Int) = (at2 : Int) := by rw [IntKind.wrap_i64]; omega
        have hs0 : (0 : Int) ≤ (M : Int) := by omega
        have hs1 : (M : Int) ≤ (c : Int) := by omega
        have hs2 : at2 ≤ M := by omega
        have HM := zb hM
        clear hM
        obtain ⟨blk0, off, rfl, -, -⟩ := hh.form (by intro e; have := congrArg List.length e; rw [List.length_map, hl] at this; cases this)
        refine wp_region_noPanic ?_
        refine wp_region_held_drew (S := fun W => Fr w1 W) (by kernel_rfl) hrD (fun hHeld => ?_)
        change wpAnyH _ _ _ _ _ _ _ _ _
        generalize w1.drew = X0 at *
        refine wpAnyH_take (i := 0) (v := ?_) rfl (by kernel_rfl) (by kernel_rfl) (by kernel_rfl) (fun _ _ _ h => h) (Or.inl ⟨by rfl, ?_⟩) (by assumption) ?_
        rotate_left
        · intro w' hSw
          try dsimp only at hSw
          go_simp
          try with_reducible rfl
        try simp only [List.getElem_toArray, List.getElem_cons_zero, Act.put, List.setIfInBounds_toArray, List.set_cons_zero, List.set_cons_succ]
        refine wpAnyH_take (i := 1) (v := ?_) rfl (by kernel_rfl) (by kernel_rfl) (by kernel_rfl) (fun _ _ _ h => h) (Or.inl ⟨by rfl, ?_⟩) (by assumption) ?_
        rotate_left
        · intro w' hSw
          try dsimp only at hSw
          go_simp
          try with_reducible rfl
        try simp only [List.getElem_toArray, List.getElem_cons_succ, List.getElem_cons_zero, Act.put, List.setIfInBounds_toArray, List.set_cons_zero, List.set_cons_succ]
        refine wpAnyH_take (i := 2) (v := ?_) rfl (by kernel_rfl) (by kernel_rfl) (by kernel_rfl) (fun _ _ _ h => h) (Or.inl ⟨by rfl, ?_⟩) (by assumption) ?_
        rotate_left
        · intro w' hSw
          try dsimp only at hSw
          go_simp
          try with_reducible rfl
        try simp only [List.getElem_toArray, List.getElem_cons_succ, List.getElem_cons_zero, Act.put, List.setIfInBounds_toArray, List.set_cons_zero, List.set_cons_succ]
        refine wpAnyH_take (i := 3) (v := .bool false) rfl (by kernel_rfl) (by kernel_rfl) (by kernel_rfl) (fun _ _ _ h => h) (Or.inl ⟨by rfl, ?_⟩) (by assumption) ?_
        · intro w' hSw
          try dsimp only at hSw
          try go_simp
          all_goals first | done | with_reducible rfl | omega | assumption | (simp; omega)
        try simp only [List.getElem_toArray, List.getElem_cons_succ, List.getElem_cons_zero, Act.put, List.setIfInBounds_toArray, List.set_cons_zero, List.set_cons_succ]
        refine wpAnyH_take (i := 4) (v := .bool false) rfl (by kernel_rfl) (by kernel_rfl) (by kernel_rfl) (fun _ _ _ h => h) (Or.inl ⟨by rfl, ?_⟩) (by assumption) ?_
        · intro w' hSw
          try dsimp only at hSw
          try go_simp
          all_goals first | done | with_reducible rfl | omega | assumption | (simp; omega)
        try simp only [List.getElem_toArray, List.getElem_cons_succ, List.getElem_cons_zero, Act.put, List.setIfInBounds_toArray, List.set_cons_zero, List.set_cons_succ]
        refine wpAnyH_take (i := 5) (v := ?_) rfl (by kernel_rfl) (by kernel_rfl) (by kernel_rfl) (fun _ _ _ h => h) (Or.inl ⟨by rfl, ?_⟩) (by assumption) ?_
        rotate_left
        · intro w' hSw
          try dsimp only at hSw
          go_simp
          try with_reducible rfl
        try simp only [List.getElem_toArray, List.getElem_cons_succ, List.getElem_cons_zero, Act.put, List.setIfInBounds_toArray, List.set_cons_zero, List.set_cons_succ]
        refine wpAnyH_take (i := 6) (v := ?_) rfl (by kernel_rfl) (by kernel_rfl) (by kernel_rfl) (fun _ _ _ h => h) (Or.inl ⟨by rfl, ?_⟩) (by assumption) ?_
        rotate_left
        · intro w' hSw
          try dsimp only at hSw
          go_simp
          try with_reducible rfl
        try simp only [List.getElem_toArray, List.getElem_cons_succ, List.getElem_cons_zero, Act.put, List.setIfInBounds_toArray, List.set_cons_zero, List.set_cons_succ]
        refine wpAnyH_take (i := 7) (v := .bool false) rfl (by kernel_rfl) (by kernel_rfl) (by kernel_rfl) (fun _ _ _ h => h) (Or.inl ⟨by rfl, ?_⟩) (by assumption) ?_
        · intro w' hSw
          try dsimp only at hSw
          try go_simp
          all_goals first | done | with_reducible rfl | omega | assumption | (simp; omega)
        try simp only [List.getElem_toArray, List.getElem_cons_succ, List.getElem_cons_zero, Act.put, List.setIfInBounds_toArray, List.set_cons_zero, List.set_cons_succ]
        refine wpAnyH_take (i := 8) (v := .bool false) rfl (by kernel_rfl) (by kernel_rfl) (by kernel_rfl) (fun _ _ _ h => h) (Or.inl ⟨by rfl, ?_⟩) (by assumption) ?_
        · intro w' hSw
          try dsimp only at hSw
          try go_simp
          all_goals first | done | with_reducible rfl | omega | assumption | (simp; omega)
        try simp only [List.getElem_toArray, List.getElem_cons_succ, List.getElem_cons_zero, Act.put, List.setIfInBounds_toArray, List.set_cons_zero, List.set_cons_succ]
        refine wpAnyH_take (i := 9) (v := .bool false) rfl (by kernel_rfl) (by kernel_rfl) (by kernel_rfl) (fun _ _ _ h => h) (Or.inl ⟨by rfl, ?_⟩) (by assumption) ?_
        · intro w' hSw
          try dsimp only at hSw
          try go_simp
          all_goals first | done | with_reducible rfl | omega | assumption | (simp; omega)
        try simp only [List.getElem_toArray, List.getElem_cons_succ, List.getElem_cons_zero, Act.put, List.setIfInBounds_toArray, List.set_cons_zero, List.set_cons_succ]
        refine wpAnyH_take (i := 10) (v := ?_) rfl (by kernel_rfl) (by kernel_rfl) (by kernel_rfl) (fun _ _ _ h => h) (Or.inl ⟨by rfl, ?_⟩) (by assumption) ?_
        rotate_left
        · intro w' hSw
          try dsimp only at hSw
          go_simp
          try with_reducible rfl
        try simp only [List.getElem_toArray, List.getElem_cons_succ, List.getElem_cons_zero, Act.put, List.setIfInBounds_toArray, List.set_cons_zero, List.set_cons_succ]
        refine wpAnyH_take (i := 11) (v := ?_) rfl (by kernel_rfl) (by kernel_rfl) (by kernel_rfl) (fun _ _ _ h => h) (Or.inl ⟨by rfl, ?_⟩) (by assumption) ?_
        rotate_left
        · intro w' hSw
          try dsimp only at hSw
          go_simp
          try with_reducible rfl
        try simp only [List.getElem_toArray, List.getElem_cons_succ, List.getElem_cons_zero, Act.put, List.setIfInBounds_toArray, List.set_cons_zero, List.set_cons_succ]
        refine wpAnyH_take (i := 12) (v := ?_) rfl (by kernel_rfl) (by kernel_rfl) (by kernel_rfl) (fun _ _ _ h => h) (Or.inl ⟨by rfl, ?_⟩) (by assumption) ?_
        rotate_left
        · intro w' hSw
          try dsimp only at hSw
          go_simp
          try with_reducible rfl
        try simp only [List.getElem_toArray, List.getElem_cons_succ, List.getElem_cons_zero, Act.put, List.setIfInBounds_toArray, List.set_cons_zero, List.set_cons_succ]
        refine wpAnyH_take (i := 13) (v := ?_) rfl (by kernel_rfl) (by kernel_rfl) (by kernel_rfl) (fun _ _ _ h => h) (Or.inl ⟨by rfl, ?_⟩) (by assumption) ?_
        rotate_left
        · intro w' hSw
          try dsimp only at hSw
          go_simp
          try with_reducible rfl
        try simp only [List.getElem_toArray, List.getElem_cons_succ, List.getElem_cons_zero, Act.put, List.setIfInBounds_toArray, List.set_cons_zero, List.set_cons_succ]
        refine wpAnyH_take (i := 14) (v := ?_) rfl (by kernel_rfl) (by kernel_rfl) (by kernel_rfl) (fun _ _ _ h => h) (Or.inl ⟨by rfl, ?_⟩) (by assumption) ?_
        rotate_left
        · intro w' hSw
          try dsimp only at hSw
          go_simp
          try with_reducible rfl
        try simp only [List.getElem_toArray, List.getElem_cons_succ, List.getElem_cons_zero, Act.put, List.setIfInBounds_toArray, List.set_cons_zero, List.set_cons_succ]
        refine wpAnyH_take (i := 15) (v := ?_) rfl (by kernel_rfl) (by kernel_rfl) (by kernel_rfl) (fun _ _ _ h => h) (Or.inl ⟨by rfl, ?_⟩) (by assumption) ?_
        rotate_left
        · intro w' hSw
          try dsimp only at hSw
          go_simp
          try with_reducible rfl
        try simp only [List.getElem_toArray, List.getElem_cons_succ, List.getElem_cons_zero, Act.put, List.setIfInBounds_toArray, List.set_cons_zero, List.set_cons_succ]
        refine wpAnyH_take (i := 16) (v := ?_) rfl (by kernel_rfl) (by kernel_rfl) (by kernel_rfl) (fun _ _ _ h => h) (Or.inl ⟨by rfl, ?_⟩) (by assumption) ?_
        rotate_left
        · intro w' hSw
          try dsimp only at hSw
          go_simp
          try with_reducible rfl
        try simp only [List.getElem_toArray, List.getElem_cons_succ, List.getElem_cons_zero, Act.put, List.setIfInBounds_toArray, List.set_cons_zero, List.set_cons_succ]
        refine wpAnyH_take (i := 17) (v := ?_) rfl (by kernel_rfl) (by kernel_rfl) (by kernel_rfl) (fun _ _ _ h => h) (Or.inl ⟨by rfl, ?_⟩) (by assumption) ?_
        rotate_left
        · intro w' hSw
          try dsimp only at hSw
          go_simp
          try with_reducible rfl
        try simp only [List.getElem_toArray, List.getElem_cons_succ, List.getElem_cons_zero, Act.put, List.setIfInBounds_toArray, List.set_cons_zero, List.set_cons_succ]
        refine wpAnyH_take (i := 18) (v := ?_) rfl (by kernel_rfl) (by kernel_rfl) (by kernel_rfl) (fun _ _ _ h => h) (Or.inl ⟨by rfl, ?_⟩) (by assumption) ?_
        rotate_left
        · intro w' hSw
          try dsimp only at hSw
          go_simp
          try with_reducible rfl
        try simp only [List.getElem_toArray, List.getElem_cons_succ, List.getElem_cons_zero, Act.put, List.setIfInBounds_toArray, List.set_cons_zero, List.set_cons_succ]
        refine wpAnyH_take (i := 19) (v := ?_) rfl (by kernel_rfl) (by kernel_rfl) (by kernel_rfl) (fun _ _ _ h => h) (Or.inl ⟨by rfl, ?_⟩) (by assumption) ?_
        rotate_left
        · intro w' hSw
          try dsimp only at hSw
          go_simp
          try with_reducible rfl
        try simp only [List.getElem_toArray, List.getElem_cons_succ, List.getElem_cons_zero, Act.put, List.setIfInBounds_toArray, List.set_cons_zero, List.set_cons_succ]
        refine wpAnyH_take (i := 20) (v := ?_) rfl (by kernel_rfl) (by kernel_rfl) (by kernel_rfl) (fun _ _ _ h => h) (Or.inl ⟨by rfl, ?_⟩) (by assumption) ?_
        rotate_left
        · intro w' hSw
          try dsimp only at hSw
          go_simp
          try with_reducible rfl
        try simp only [List.getElem_toArray, List.getElem_cons_succ, List.getElem_cons_zero, Act.put, List.setIfInBounds_toArray, List.set_cons_zero, List.set_cons_succ]
        refine wpAnyH_take (i := 21) (v := .bool false) rfl (by kernel_rfl) (by kernel_rfl) (by kernel_rfl) (fun _ _ _ h => h) (Or.inl ⟨by rfl, ?_⟩) (by assumption) ?_
        · intro w' hSw
          try dsimp only at hSw
          try go_simp
          all_goals first | done | with_reducible rfl | omega | assumption | (simp; omega)
        try simp only [List.getElem_toArray, List.getElem_cons_succ, List.getElem_cons_zero, Act.put, List.setIfInBounds_toArray, List.set_cons_zero, List.set_cons_succ]
        refine wpAnyH_take (i := 22) (v := .bool false) rfl (by kernel_rfl) (by kernel_rfl) (by kernel_rfl) (fun _ _ _ h => h) (Or.inl ⟨by rfl, ?_⟩) (by assumption) ?_
        · intro w' hSw
          try dsimp only at hSw
          try go_simp
          all_goals first | done | with_reducible rfl | omega | assumption | (simp; omega)
        try simp only [List.getElem_toArray, List.getElem_cons_succ, List.getElem_cons_zero, Act.put, List.setIfInBounds_toArray, List.set_cons_zero, List.set_cons_succ]
        refine wpAnyH_done (by kernel_rfl) ?_ _
        refine NoPanic.normal ?_
        have hr0 : Fr w1 X0 := hrD
        have S5 : Fr w1 X0.drew := za hrD (zn (ze X0))
        go_upto_region 5 with fail
        try simp only [Act.put]
        by_cases hck : c = at2
        · have hN0 : Hid (N = 0 ∧ M = at2) := zb (by have := HM.out; omega)
          have hs3 : (M : Int) ≤ (at2 : Int) := by have := hN0.out; omega
          refine wp_region_noPanic ?_
          refine wp_region_held_drew (S := fun W => Fr w1 W) (by kernel_rfl) S5 (fun hHeld => ?_)
          change wpAnyH _ _ _ _ _ _ _ _ _
          generalize X0.drew = X1 at *
          refine wpAnyH_take (i := 0) (v := ?_) rfl (by kernel_rfl) (by kernel_rfl) (by kernel_rfl) (fun _ _ _ h => h) (Or.inl ⟨by rfl, ?_⟩) (by assumption) ?_
          rotate_left
          · intro w' hSw
            try dsimp only at hSw
            go_simp
            try with_reducible rfl
          try simp only [List.getElem_toArray, List.getElem_cons_zero, Act.put, List.setIfInBounds_toArray, List.set_cons_zero, List.set_cons_succ]
          refine wpAnyH_take (i := 1) (v := ?_) rfl (by kernel_rfl) (by kernel_rfl) (by kernel_rfl) (fun _ _ _ h => h) (Or.inl ⟨by rfl, ?_⟩) (by assumption) ?_
          rotate_left
          · intro w' hSw
            try dsimp only at hSw
            go_simp
            try with_reducible rfl
          try simp only [List.getElem_toArray, List.getElem_cons_succ, List.getElem_cons_zero, Act.put, List.setIfInBounds_toArray, List.set_cons_zero, List.set_cons_succ]
          refine wpAnyH_take (i := 2) (v := ?_) rfl (by kernel_rfl) (by kernel_rfl) (by kernel_rfl) (fun _ _ _ h => h) (Or.inl ⟨by rfl, ?_⟩) (by assumption) ?_
          rotate_left
          · intro w' hSw
            try dsimp only at hSw
            go_simp
            try with_reducible rfl
          try simp only [List.getElem_toArray, List.getElem_cons_succ, List.getElem_cons_zero, Act.put, List.setIfInBounds_toArray, List.set_cons_zero, List.set_cons_succ]
          refine wpAnyH_take (i := 3) (v := ?_) rfl (by kernel_rfl) (by kernel_rfl) (by kernel_rfl) (fun _ _ _ h => h) (Or.inl ⟨by rfl, ?_⟩) (by assumption) ?_
          rotate_left
          · intro w' hSw
            try dsimp only at hSw
            go_simp
            try with_reducible rfl
          try simp only [List.getElem_toArray, List.getElem_cons_succ, List.getElem_cons_zero, Act.put, List.setIfInBounds_toArray, List.set_cons_zero, List.set_cons_succ]
          refine wpAnyH_take (i := 4) (v := ?_) rfl (by kernel_rfl) (by kernel_rfl) (by kernel_rfl) (fun _ _ _ h => h) (Or.inl ⟨by rfl, ?_⟩) (by assumption) ?_
          rotate_left
          · intro w' hSw
            try dsimp only at hSw
            go_simp
            try with_reducible rfl
          try simp only [List.getElem_toArray, List.getElem_cons_succ, List.getElem_cons_zero, Act.put, List.setIfInBounds_toArray, List.set_cons_zero, List.set_cons_succ]
          refine wpAnyH_take (i := 5) (v := ?_) rfl (by kernel_rfl) (by kernel_rfl) (by kernel_rfl) (fun _ _ _ h => h) (Or.inl ⟨by rfl, ?_⟩) (by assumption) ?_
          rotate_left
          · intro w' hSw
            try dsimp only at hSw
            go_simp
            try with_reducible rfl
          try simp only [List.getElem_toArray, List.getElem_cons_succ, List.getElem_cons_zero, Act.put, List.setIfInBounds_toArray, List.set_cons_zero, List.set_cons_succ]
          refine wpAnyH_take (i := 6) (v := ?_) rfl (by kernel_rfl) (by kernel_rfl) (by kernel_rfl) (fun _ _ _ h => h) (Or.inl ⟨by rfl, ?_⟩) (by assumption) ?_
          rotate_left
          · intro w' hSw
            try dsimp only at hSw
            go_simp
            try with_reducible rfl
          try simp only [List.getElem_toArray, List.getElem_cons_succ, List.getElem_cons_zero, Act.put, List.setIfInBounds_toArray, List.set_cons_zero, List.set_cons_succ]
          refine wpAnyH_take (i := 7) (v := ?_) rfl (by kernel_rfl) (by kernel_rfl) (by kernel_rfl) (fun _ _ _ h => h) (Or.inl ⟨by rfl, ?_⟩) (by assumption) ?_
          rotate_left
          · intro w' hSw
            try dsimp only at hSw
            go_simp
            try with_reducible rfl
          try simp only [List.getElem_toArray, List.getElem_cons_succ, List.getElem_cons_zero, Act.put, List.setIfInBounds_toArray, List.set_cons_zero, List.set_cons_succ]
          refine wpAnyH_take (i := 8) (v := ?_) rfl (by kernel_rfl) (by kernel_rfl) (by kernel_rfl) (fun _ _ _ h => h) (Or.inl ⟨by rfl, ?_⟩) (by assumption) ?_
          rotate_left
          · intro w' hSw
            try dsimp only at hSw
            go_simp
            try with_reducible rfl
          try simp only [List.getElem_toArray, List.getElem_cons_succ, List.getElem_cons_zero, Act.put, List.setIfInBounds_toArray, List.set_cons_zero, List.set_cons_succ]
          refine wpAnyH_take (i := 9) (v := ?_) rfl (by kernel_rfl) (by kernel_rfl) (by kernel_rfl) (fun _ _ _ h => h) (Or.inl ⟨by rfl, ?_⟩) (by assumption) ?_
          rotate_left
          · intro w' hSw
            try dsimp only at hSw
            go_simp
            try with_reducible rfl
          try simp only [List.getElem_toArray, List.getElem_cons_succ, List.getElem_cons_zero, Act.put, List.setIfInBounds_toArray, List.set_cons_zero, List.set_cons_succ]
          refine wpAnyH_take (i := 10) (v := ?_) rfl (by kernel_rfl) (by kernel_rfl) (by kernel_rfl) (fun _ _ _ h => h) (Or.inl ⟨by rfl, ?_⟩) (by assumption) ?_
          rotate_left
          · intro w' hSw
            try dsimp only at hSw
            go_simp
            try with_reducible rfl
          try simp only [List.getElem_toArray, List.getElem_cons_succ, List.getElem_cons_zero, Act.put, List.setIfInBounds_toArray, List.set_cons_zero, List.set_cons_succ]
          refine wpAnyH_take (i := 11) (v := ?_) rfl (by kernel_rfl) (by kernel_rfl) (by kernel_rfl) (fun _ _ _ h => h) (Or.inl ⟨by rfl, ?_⟩) (by assumption) ?_
          rotate_left
          · intro w' hSw
            try dsimp only at hSw
            go_simp
            try with_reducible rfl
          try simp only [List.getElem_toArray, List.getElem_cons_succ, List.getElem_cons_zero, Act.put, List.setIfInBounds_toArray, List.set_cons_zero, List.set_cons_succ]
          refine wpAnyH_take (i := 12) (v := ?_) rfl (by kernel_rfl) (by kernel_rfl) (by kernel_rfl) (fun _ _ _ h => h) (Or.inl ⟨by rfl, ?_⟩) (by assumption) ?_
          rotate_left
          · intro w' hSw
            try dsimp only at hSw
            go_simp
            try with_reducible rfl
          try simp only [List.getElem_toArray, List.getElem_cons_succ, List.getElem_cons_zero, Act.put, List.setIfInBounds_toArray, List.set_cons_zero, List.set_cons_succ]
          refine wpAnyH_take (i := 13) (v := ?_) rfl (by kernel_rfl) (by kernel_rfl) (by kernel_rfl) (fun _ _ _ h => h) (Or.inl ⟨by rfl, ?_⟩) (by assumption) ?_
          rotate_left
          · intro w' hSw
            try dsimp only at hSw
            go_simp
            try with_reducible rfl
          try simp only [List.getElem_toArray, List.getElem_cons_succ, List.getElem_cons_zero, Act.put, List.setIfInBounds_toArray, List.set_cons_zero, List.set_cons_succ]
          refine wpAnyH_take (i := 14) (v := ?_) rfl (by kernel_rfl) (by kernel_rfl) (by kernel_rfl) (fun _ _ _ h => h) (Or.inl ⟨by rfl, ?_⟩) (by assumption) ?_
          rotate_left
          · intro w' hSw
            try dsimp only at hSw
            go_simp
            try with_reducible rfl
          try simp only [List.getElem_toArray, List.getElem_cons_succ, List.getElem_cons_zero, Act.put, List.setIfInBounds_toArray, List.set_cons_zero, List.set_cons_succ]
          refine wpAnyH_take (i := 15) (v := ?_) rfl (by kernel_rfl) (by kernel_rfl) (by kernel_rfl) (fun _ _ _ h => h) (Or.inl ⟨by rfl, ?_⟩) (by assumption) ?_
          rotate_left
          · intro w' hSw
            try dsimp only at hSw
            go_simp
            try with_reducible rfl
          try simp only [List.getElem_toArray, List.getElem_cons_succ, List.getElem_cons_zero, Act.put, List.setIfInBounds_toArray, List.set_cons_zero, List.set_cons_succ]
          refine wpAnyH_done (by kernel_rfl) ?_ _
          refine NoPanic.normal ?_
          have a0 := a1.below S5 zw1
          have h0 := hh.fr (Nat.le_trans hB (Nat.le_of_lt zw1)) S5
          have d1 : X1.cell? ⟨g, 1, none⟩ = some (.int .i64 (at2 : Int)) := e1 X1 S5
          have f1 := a0.free 1
          obtain ⟨a2, k2⟩ := kpg_set (j := 1) a0 (.int .i64 (M : Int))
          have Q2 : Hid (Qd (X1.setCell ⟨g, 1, none⟩ (.int .i64 (M : Int))) B g bs (at2 + N) false) := zb (Qd.to a0 h0 hl hc hB (by have := HM.out; omega) (by rw [← HM.out]; exact a2) k2)
          have K2 := zb ((k1.fr S5).trans k2)
          have H2 := zb ((h0.kpg k2 hB (by have := a0.lt; omega)))
          have Hl := zb hl
          have Hb := zb hby
          have Hx := zb (List.drop_drop (i := N) (j := at2) (l := bs))
          clear a2 k2 a0 h0 hh e0 e1 e2 a1 hby hl k1
          go_wp2_with fail
          go_ret
          exact ⟨_, _, _, (bs.drop at2).take N, at2 + N, false, rfl, zb ⟨by have := HM.out; rw [List.length_take, List.length_drop, Hl.out]; omega, by have := HM.out; omega, by have := HM.out; omega, zdD (bytes_drop Hb.out _) _, by rw [hN0.out.1, List.take_zero]; exact Has.nil, Q2.out, K2.out, fun q => ⟨(hgood.out q).1, by rw [← Hx.out]; exact (hgood.out q).2, rfl⟩⟩⟩
        · skip
          refine wp_region_noPanic ?_
          refine wp_region_held_drew (S := fun W => Fr w1 W) (by kernel_rfl) S5 (fun hHeld => ?_)
          change wpAnyH _ _ _ _ _ _ _ _ _
          generalize X0.drew = X1 at *
          refine wpAnyH_take (i := 0) (v := ?_) rfl (by kernel_rfl) (by kernel_rfl) (by kernel_rfl) (fun _ _ _ h => h) (Or.inl ⟨by rfl, ?_⟩) (by assumption) ?_
          rotate_left
          · intro w' hSw
            try dsimp only at hSw
            go_simp
            try with_reducible rfl
          try simp only [List.getElem_toArray, List.getElem_cons_zero, Act.put, List.setIfInBounds_toArray, List.set_cons_zero, List.set_cons_succ]
          refine wpAnyH_take (i := 1) (v := ?_) rfl (by kernel_rfl) (by kernel_rfl) (by kernel_rfl) (fun _ _ _ h => h) (Or.inl ⟨by rfl, ?_⟩) (by assumption) ?_
          rotate_left
          · intro w' hSw
            try dsimp only at hSw
            go_simp
            try with_reducible rfl
          try simp only [List.getElem_toArray, List.getElem_cons_succ, List.getElem_cons_zero, Act.put, List.setIfInBounds_toArray, List.set_cons_zero, List.set_cons_succ]
          refine wpAnyH_take (i := 2) (v := ?_) rfl (by kernel_rfl) (by kernel_rfl) (by kernel_rfl) (fun _ _ _ h => h) (Or.inl ⟨by rfl, ?_⟩) (by assumption) ?_
          rotate_left
          · intro w' hSw
            try dsimp only at hSw
            go_simp
            try with_reducible rfl
          try simp only [List.getElem_toArray, List.getElem_cons_succ, List.getElem_cons_zero, Act.put, List.setIfInBounds_toArray, List.set_cons_zero, List.set_cons_succ]
          refine wpAnyH_take (i := 3) (v := ?_) rfl (by kernel_rfl) (by kernel_rfl) (by kernel_rfl) (fun _ _ _ h => h) (Or.inl ⟨by rfl, ?_⟩) (by assumption) ?_
          rotate_left
          · intro w' hSw
            try dsimp only at hSw
            go_simp
            try with_reducible rfl
          try simp only [List.getElem_toArray, List.getElem_cons_succ, List.getElem_cons_zero, Act.put, List.setIfInBounds_toArray, List.set_cons_zero, List.set_cons_succ]
          refine wpAnyH_take (i := 4) (v := ?_) rfl (by kernel_rfl) (by kernel_rfl) (by kernel_rfl) (fun _ _ _ h => h) (Or.inl ⟨by rfl, ?_⟩) (by assumption) ?_
          rotate_left
          · intro w' hSw
            try dsimp only at hSw
            go_simp
            try with_reducible rfl
          try simp only [List.getElem_toArray, List.getElem_cons_succ, List.getElem_cons_zero, Act.put, List.setIfInBounds_toArray, List.set_cons_zero, List.set_cons_succ]
          refine wpAnyH_take (i := 5) (v := ?_) rfl (by kernel_rfl) (by kernel_rfl) (by kernel_rfl) (fun _ _ _ h => h) (Or.inl ⟨by rfl, ?_⟩) (by assumption) ?_
          rotate_left
          · intro w' hSw
            try dsimp only at hSw
            go_simp
            try with_reducible rfl
          try simp only [List.getElem_toArray, List.getElem_cons_succ, List.getElem_cons_zero, Act.put, List.setIfInBounds_toArray, List.set_cons_zero, List.set_cons_succ]
          refine wpAnyH_take (i := 6) (v := ?_) rfl (by kernel_rfl) (by kernel_rfl) (by kernel_rfl) (fun _ _ _ h => h) (Or.inl ⟨by rfl, ?_⟩) (by assumption) ?_
          rotate_left
          · intro w' hSw
            try dsimp only at hSw
            go_simp
            try with_reducible rfl
          try simp only [List.getElem_toArray, List.getElem_cons_succ, List.getElem_cons_zero, Act.put, List.setIfInBounds_toArray, List.set_cons_zero, List.set_cons_succ]
          refine wpAnyH_take (i := 7) (v := ?_) rfl (by kernel_rfl) (by kernel_rfl) (by kernel_rfl) (fun _ _ _ h => h) (Or.inl ⟨by rfl, ?_⟩) (by assumption) ?_
          rotate_left
          · intro w' hSw
            try dsimp only at hSw
            go_simp
            try with_reducible rfl
          try simp only [List.getElem_toArray, List.getElem_cons_succ, List.getElem_cons_zero, Act.put, List.setIfInBounds_toArray, List.set_cons_zero, List.set_cons_succ]
          refine wpAnyH_take (i := 8) (v := ?_) rfl (by kernel_rfl) (by kernel_rfl) (by kernel_rfl) (fun _ _ _ h => h) (Or.inl ⟨by rfl, ?_⟩) (by assumption) ?_
          rotate_left
          · intro w' hSw
            try dsimp only at hSw
            go_simp
            try with_reducible rfl
          try simp only [List.getElem_toArray, List.getElem_cons_succ, List.getElem_cons_zero, Act.put, List.setIfInBounds_toArray, List.set_cons_zero, List.set_cons_succ]
          refine wpAnyH_take (i := 9) (v := ?_) rfl (by kernel_rfl) (by kernel_rfl) (by kernel_rfl) (fun _ _ _ h => h) (Or.inl ⟨by rfl, ?_⟩) (by assumption) ?_
          rotate_left
          · intro w' hSw
            try dsimp only at hSw
            go_simp
            try with_reducible rfl
          try simp only [List.getElem_toArray, List.getElem_cons_succ, List.getElem_cons_zero, Act.put, List.setIfInBounds_toArray, List.set_cons_zero, List.set_cons_succ]
          refine wpAnyH_take (i := 10) (v := ?_) rfl (by kernel_rfl) (by kernel_rfl) (by kernel_rfl) (fun _ _ _ h => h) (Or.inl ⟨by rfl, ?_⟩) (by assumption) ?_
          rotate_left
          · intro w' hSw
            try dsimp only at hSw
            go_simp
            try with_reducible rfl
          try simp only [List.getElem_toArray, List.getElem_cons_succ, List.getElem_cons_zero, Act.put, List.setIfInBounds_toArray, List.set_cons_zero, List.set_cons_succ]
          refine wpAnyH_take (i := 11) (v := ?_) rfl (by kernel_rfl) (by kernel_rfl) (by kernel_rfl) (fun _ _ _ h => h) (Or.inl ⟨by rfl, ?_⟩) (by assumption) ?_
          rotate_left
          · intro w' hSw
            try dsimp only at hSw
            go_simp
            try with_reducible rfl
          try simp only [List.getElem_toArray, List.getElem_cons_succ, List.getElem_cons_zero, Act.put, List.setIfInBounds_toArray, List.set_cons_zero, List.set_cons_succ]
          refine wpAnyH_take (i := 12) (v := ?_) rfl (by kernel_rfl) (by kernel_rfl) (by kernel_rfl) (fun _ _ _ h => h) (Or.inl ⟨by rfl, ?_⟩) (by assumption) ?_
          rotate_left
          · intro w' hSw
            try dsimp only at hSw
            go_simp
            try with_reducible rfl
          try simp only [List.getElem_toArray, List.getElem_cons_succ, List.getElem_cons_zero, Act.put, List.setIfInBounds_toArray, List.set_cons_zero, List.set_cons_succ]
          refine wpAnyH_take (i := 13) (v := ?_) rfl (by kernel_rfl) (by kernel_rfl) (by kernel_rfl) (fun _ _ _ h => h) (Or.inl ⟨by rfl, ?_⟩) (by assumption) ?_
          rotate_left
          · intro w' hSw
            try dsimp only at hSw
            go_simp
            try with_reducible rfl
          try simp only [List.getElem_toArray, List.getElem_cons_succ, List.getElem_cons_zero, Act.put, List.setIfInBounds_toArray, List.set_cons_zero, List.set_cons_succ]
          refine wpAnyH_take (i := 14) (v := ?_) rfl (by kernel_rfl) (by kernel_rfl) (by kernel_rfl) (fun _ _ _ h => h) (Or.inl ⟨by rfl, ?_⟩) (by assumption) ?_
          rotate_left
          · intro w' hSw
            try dsimp only at hSw
            go_simp
            try with_reducible rfl
          try simp only [List.getElem_toArray, List.getElem_cons_succ, List.getElem_cons_zero, Act.put, List.setIfInBounds_toArray, List.set_cons_zero, List.set_cons_succ]
          refine wpAnyH_take (i := 15) (v := ?_) rfl (by kernel_rfl) (by kernel_rfl) (by kernel_rfl) (fun _ _ _ h => h) (Or.inl ⟨by rfl, ?_⟩) (by assumption) ?_
          rotate_left
          · intro w' hSw
            try dsimp only at hSw
            go_simp
            try with_reducible rfl
          try simp only [List.getElem_toArray, List.getElem_cons_succ, List.getElem_cons_zero, Act.put, List.setIfInBounds_toArray, List.set_cons_zero, List.set_cons_succ]
          refine wpAnyH_done (by kernel_rfl) ?_ _
          refine NoPanic.normal ?_
          have a0 := a1.below S5 zw1
          have h0 := hh.fr (Nat.le_trans hB (Nat.le_of_lt zw1)) S5
          have d1 : X1.cell? ⟨g, 1, none⟩ = some (.int .i64 (at2 : Int)) := e1 X1 S5
          have f1 := a0.free 1
          obtain ⟨a2, k2⟩ := kpg_set (j := 1) a0 (.int .i64 (M : Int))
          have Q2 : Hid (Qd (X1.setCell ⟨g, 1, none⟩ (.int .i64 (M : Int))) B g bs (at2 + N) false) := zb (Qd.to a0 h0 hl hc hB (by have := HM.out; omega) (by rw [← HM.out]; exact a2) k2)
          have K2 := zb ((k1.fr S5).trans k2)
          have H2 := zb ((h0.kpg k2 hB (by have := a0.lt; omega)))
          have Hl := zb hl
          have Hb := zb hby
          have Hx := zb (List.drop_drop (i := N) (j := at2) (l := bs))
          clear a2 k2 a0 h0 hh e0 e1 e2 a1 hby hl k1
          go_wp2_with fail
          go_ret
          exact ⟨_, _, _, (bs.drop at2).take N, at2 + N, false, rfl, zb ⟨by have := HM.out; rw [List.length_take, List.length_drop, Hl.out]; omega, by have := HM.out; omega, by have := HM.out; omega, zdD (bytes_drop Hb.out _) _, by rw [show u8s ((bs.drop at2).take N) = ((u8s bs).drop at2).take N from List.map_take.trans (congrArg (List.take N) List.map_drop)]; exact (H2.out.drop at2).take N, Q2.out, K2.out, fun q => ⟨(hgood.out q).1, by rw [← Hx.out]; exact (hgood.out q).2, rfl⟩⟩⟩
theorem qtake_at {w : World} {B g at_ : Nat} {bad : Bool} {bs : List Int} (h : Qd w B g bs at_ bad) (hby : zdi bs) (most : Nat) (hm : most ≤ 100) :
    Calls Try.prog 62 #[.pointer (some ⟨g, 0, none⟩), .int .i64 (most : Int)] w
      (TkQ w B g bs most (bad = false ∧ 1 + ctP (bs.drop at_) ≤ (bs.drop at_).length ∧ ctP (bs.drop at_) ≤ most) (((bs.drop at_).drop 1).take (ctP (bs.drop at_))) (((bs.drop at_).drop 1).drop (ctP (bs.drop at_)))) :=
  qtake_gen h hby most hm (zb fun q => q) (zb rfl) (zb rfl)
end Go.Proofs.Ytmjjjdikpnhpiaa
/- The document's reader: keys and values. -/
namespace Go.Proofs.Ytmjjjdikpnhpiaa
set_option linter.unusedVariables false
set_option linter.unusedSimpArgs false
set_option maxRecDepth 100000
open Go.RowKit
attribute [local go_sem ↓] zw zt zae
def rowL (M : Nat) (m : Int) (l : List Int) : List Value := .int .i64 m :: u8s (l ++ List.replicate (M - l.length) 0)
theorem row_step {M : Nat} (m : Int) {t : List Int} {i : Nat} {z : Int} (hM : t.length ≤ M) (hz : t[i]? = some z) : splice (rowL M m (t.take i)) (1 + i) [.int .u8 z] = rowL M m (t.take (i + 1)) := by
  have hi : i < t.length := (List.getElem?_eq_some_iff.1 hz).1
  have hl : (t.take i).length = i := by rw [List.length_take]; omega
  have ht : t.take (i + 1) = t.take i ++ [z] := by rw [List.take_add_one, hz]; rfl
  unfold rowL splice
  rw [ht, List.length_append, hl]
  generalize t.take i = l at *
  obtain ⟨q, hq⟩ : ∃ q, M - i = q + 1 := ⟨M - i - 1, by omega⟩
  have hq2 : M - (i + [z].length) = q := by simp; omega
  have hu : (u8s l).length = i := by rw [List.length_map]; exact hl
  have e1 : u8s (l ++ List.replicate (q + 1) 0) = u8s l ++ (.int .u8 0 :: u8s (List.replicate q 0)) := by rw [List.replicate_succ]; exact List.map_append
  have e2 : u8s (l ++ [z] ++ List.replicate q 0) = u8s l ++ (.int .u8 z :: u8s (List.replicate q 0)) := by rw [List.append_assoc]; exact List.map_append
  rw [hq, hq2, e1, e2, Nat.add_comm 1 i, List.take_succ_cons, List.take_left' hu, List.length_singleton, List.drop_succ_cons, List.drop_append, List.drop_of_length_le (by omega), hu, show i + 1 - i = 1 from by omega]
  simp
theorem kc_row (m : Int) (l : List Int) (h : l.length ≤ 8) : kc (keyL m l) = rowL 8 m l := by
  match l, h with
  | [], _ => rfl
  | [_], _ => rfl
  | [_, _], _ => rfl
  | [_, _, _], _ => rfl
  | [_, _, _, _], _ => rfl
  | [_, _, _, _, _], _ => rfl
  | [_, _, _, _, _, _], _ => rfl
  | [_, _, _, _, _, _, _], _ => rfl
  | [_, _, _, _, _, _, _, _], _ => rfl
theorem vc_row (m : Int) (l : List Int) (h : l.length ≤ 16) : vc (valL m l) = rowL 16 m l := by
  unfold rowL vc valL
  rw [List.take_of_length_le h]
theorem rowL_len {M : Nat} (m : Int) {l : List Int} (h : l.length ≤ M) : (rowL M m l).length = M + 1 := by unfold rowL; simp; omega
theorem u8_info' : (Try.prog.info? 5).map (·.size) = some 1 := by kernel_rfl
set_option maxHeartbeats 4000000 in
theorem qkey_at {w : World} {B g at_ : Nat} {bad : Bool} {bs : List Int} (h : Qd w B g bs at_ bad) (hby : zdi bs) {G : Prop} {k0 : RK} {r0 : List Int}
    (hG : Hid (G → bad = false ∧ 1 + ctP (bs.drop at_) ≤ (bs.drop at_).length ∧ ctP (bs.drop at_) ≤ 8)) (hk : Hid ((kyP (bs.drop at_)).1 = k0)) (hr : Hid ((kyP (bs.drop at_)).2 = r0)) :
    Calls Try.prog 43 #[.pointer (some ⟨g, 0, none⟩)] w (QR w B g bs kv (fun k => k.wf) G k0 r0) := by
  obtain ⟨Y, hY, fY, aY, bY⟩ : ∃ Y, (w.alloc (.cells (kc zr).toArray 69)).alloc (.cells (kc zr).toArray 69) = Y ∧ Fr w Y ∧ Arr Y w.heap.size 69 (kc zr).toArray ∧ Arr Y (w.heap.size + 1) 69 (kc zr).toArray :=
    ⟨_, rfl, zf (zf (ze _) _) _, (Arr.new _ _ _).alloc _, zbr _ _ _ _ (by simp)⟩
  change (w.alloc (.cells #[.int .i64 0, .int .u8 0, .int .u8 0, .int .u8 0, .int .u8 0, .int .u8 0, .int .u8 0, .int .u8 0, .int .u8 0] 69)).alloc (.cells #[.int .i64 0, .int .u8 0, .int .u8 0, .int .u8 0, .int .u8 0, .int .u8 0, .int .u8 0, .int .u8 0, .int .u8 0] 69) = Y at hY
  have hz := h.size
  have tok1 : Hid (0 < 1) := zb (by decide)
  go_enter Try.func43, Try.ntmps43
  go_upto_region 2 with (first
    | (clear tok1; refine wpList_put (ds := kc zr) zC rfl (.tmp 3) (.tmp 6) rfl (w.heap.size + 1) 0 rfl rfl (zl _) (zU _) bY (Nat.le_of_ble_eq_true rfl) (zk _ _ (Nat.le_of_eq rfl)) ?_; intro w1 b1 k1)
    | fail)
  try simp only [Act.put]
  have f1 : Fr w w1 := k1.below fY fY.size (Nat.le_succ _)
  have a1 := k1.arr aY (by omega)
  have cT := qtake_gen (h.fr f1) hby 8 (by decide) hG (zb rfl) (zb rfl)
  rw [show ((8 : Nat) : Int) = 8 from rfl] at cT
  have E1 := zb (show (kyP (bs.drop at_)) = (keyL (ctP (bs.drop at_)) (((bs.drop at_).drop 1).take (ctP (bs.drop at_))), ((bs.drop at_).drop 1).drop (ctP (bs.drop at_))) from rfl)
  have E2 := zb (fun (q : G) => show (((bs.drop at_).drop 1).take (ctP (bs.drop at_))).length = ctP (bs.drop at_) by
    obtain ⟨p1, p2, p3⟩ := hG.out q
    rw [List.length_take, List.length_drop]; omega)
  generalize ((bs.drop at_).drop 1).take (ctP (bs.drop at_)) = t0 at *
  generalize ((bs.drop at_).drop 1).drop (ctP (bs.drop at_)) = q0 at *
  go_wp2_with fail
  refine cT.mono ?_
  rintro e w2 ⟨A, n, c, t, at2, bad2, rfl, h2⟩
  obtain ⟨ht, hn, hc, hbt, hh, q2, k2, g2⟩ := h2.out
  have a2 := k2.arr a1 (by omega)
  have b2 := k2.arr b1 (by omega)
  have tok2 : Hid (0 < 1) := zb (by decide)
  have fwB : B ≤ w.heap.size := by omega
  clear cT aY bY hY h h2 a1 b1 hby
  go_upto_region 4 with (first
    | (clear tok2; refine wpList_put (ds := [.int .i64 (n : Int)]) cint_info rfl (.tmp 11) (.tmp 10) rfl (w.heap.size + 1) 0 rfl rfl rfl (zdv _ rfl) b2 (Nat.le_of_ble_eq_true rfl) (cs' := rowL 8 n []) rfl ?_; intro w3 b3 k3)
    | fail)
  try simp only [Act.put]
  have KE : KpG w g w2 := (KpG.of_fr g f1).trans k2
  have zw2 := a2.lt
  have B3 := zb b3
  have Q2 := zb q2
  have A2 := zb a2
  have K3 := zb k3
  have Hh := zb hh
  have Ht := zb ht
  have Hbt := zb hbt
  clear b2 k1 f1 b3 q2 a2 k2 hbt
  go_wp2_with fail
  go_loopg [5] n (fun gg si wr => ∃ j : Nat, j + gg = n ∧ si = .int .i64 j ∧ Hid (Arr wr (w.heap.size + 1) 69 (rowL 8 n (t.take j)).toArray ∧ KpG w2 (w.heap.size + 1) wr))
  case atStart => exact ⟨0, by omega, rfl, zb ⟨by rw [List.take_zero]; exact B3.out, K3.out⟩⟩
  case round =>
    obtain ⟨j, hj, rfl, hI⟩ := hrel
    obtain ⟨wx, rfl⟩ : ∃ W : World, W = wr := ⟨_, rfl⟩
    by_cases hlt : j < n
    · have hjz : (j : Int) < (n : Int) := by omega
      have hjl : j < t.length := by omega
      obtain ⟨z, hz1⟩ : ∃ z, t[j]? = some z := ⟨_, List.getElem?_eq_getElem hjl⟩
      obtain ⟨b0, off, rfl, hb0, hcell⟩ := Hh.out.form (by intro e; rw [List.map_eq_nil_iff] at e; rw [e] at hjl; simp at hjl)
      have hcj : wx.cell? ⟨b0, off + j, none⟩ = some (.int .u8 z) := by
        have e1 := hcell j (.int .u8 z) (by rw [List.getElem?_map, hz1]; rfl)
        rw [← e1]
        exact hI.out.2.cell_far _ (by show b0 < _; omega) (fun e => by injection e with e; have : b0 = w.heap.size + 1 := e; omega)
      have hs := zb (row_step (M := 8) (n : Int) (by omega) hz1)
      have hI1 := hI.out.1
      have tok3 : Hid (0 < 1) := zb (by decide)
      have hlen := zb (rowL_len (M := 8) (n : Int) (l := t.take j) (by rw [List.length_take]; omega))
      have hjM : (j : Int) < 8 := by omega
      clear hcell
      have HJ := zb hj
      go_wp2_with (first
        | (clear tok3; refine wpList_put (ds := [.int .u8 z]) u8_info' rfl (.tmp 24) (.tmp 22) rfl (w.heap.size + 1) (1 + j) rfl rfl rfl (zdv _ rfl) hI1 (by rw [hlen.out]; omega) hs.out ?_; intro w5 b5 k5)
        | fail)
      go_roundg (gk - 1)
      case measure => have := HJ.out; omega
      case rel => exact ⟨j + 1, by have := HJ.out; omega, by go_num, zb ⟨b5, hI.out.2.trans k5⟩⟩
    · have hjz : ¬ (j : Int) < (n : Int) := by omega
      have etk : t.take j = t := List.take_of_length_le (by omega)
      have hI1 := hI.out.1
      rw [etk, ← kc_row _ _ (by omega)] at hI1
      have hlen := zb (show (kc (keyL n t)).length = 9 from zl _)
      have lK : (ldS 69 (.pointer (some ⟨w.heap.size + 1, 0, none⟩))).run Try.prog wx = .ok (.agg (kc (keyL n t)).toArray) wx := zaf.ld hlen.out hI1
      have aX := hI.out.2.arr A2.out (by omega)
      have HJ := zb hj
      have zx := hI.out.2.size
      have G2 := zb g2
      have tok3 : Hid (0 < 1) := zb (by decide)
      have oneK := zb (zU (keyL n t))
      clear hI1 g2
      go_wp2_with (first
        | (clear tok3; refine wpList_put (ds := kc (keyL n t)) zC rfl (.tmp 2) (.tmp 25) rfl w.heap.size 0 rfl rfl hlen.out oneK.out aX (Nat.le_of_ble_eq_true rfl) (zk _ _ (by rw [hlen.out]; exact Nat.le_of_ble_eq_true rfl)) ?_; intro w6 a6 k6)
        | fail)
      exact bodyPost_ret (zaf.result rfl _ w.heap.size rfl hlen.out a6) rfl ⟨keyL n t, at2, bad2, rfl, zb ⟨keyL_wf (by unfold zal; omega) Hbt.out, (Q2.out.put hI.out.2 (by omega) (by omega)).put k6 (by omega) (by omega), (KE.set hI.out.2 (Nat.le_succ _)).set k6 (Nat.le_refl _), fun q => by
        obtain ⟨x1, x2, x3⟩ := G2.out q
        have e3 : n = ctP (bs.drop at_) := by rw [← Ht.out, x1]; exact E2.out q
        exact ⟨by rw [← hk.out, E1.out, x1, e3], by rw [x2, ← hr.out, E1.out], x3⟩⟩⟩
set_option maxHeartbeats 4000000 in
theorem qvalue_at {w : World} {B g at_ : Nat} {bad : Bool} {bs : List Int} (h : Qd w B g bs at_ bad) (hby : zdi bs) {G : Prop} {k0 : RV} {r0 : List Int}
    (hG : Hid (G → bad = false ∧ 1 + ctP (bs.drop at_) ≤ (bs.drop at_).length ∧ ctP (bs.drop at_) ≤ 16)) (hk : Hid ((vlP (bs.drop at_)).1 = k0)) (hr : Hid ((vlP (bs.drop at_)).2 = r0)) :
    Calls Try.prog 44 #[.pointer (some ⟨g, 0, none⟩)] w (QR w B g bs vv (fun k => k.wf) G k0 r0) := by
  obtain ⟨Y, hY, fY, aY, bY⟩ : ∃ Y, (w.alloc (.cells (vc zE).toArray 72)).alloc (.cells (vc zE).toArray 72) = Y ∧ Fr w Y ∧ Arr Y w.heap.size 72 (vc zE).toArray ∧ Arr Y (w.heap.size + 1) 72 (vc zE).toArray :=
    ⟨_, rfl, zf (zf (ze _) _) _, (Arr.new _ _ _).alloc _, zbr _ _ _ _ (by simp)⟩
  change (w.alloc (.cells #[.int .i64 0, .int .u8 0, .int .u8 0, .int .u8 0, .int .u8 0, .int .u8 0, .int .u8 0, .int .u8 0, .int .u8 0, .int .u8 0, .int .u8 0, .int .u8 0, .int .u8 0, .int .u8 0, .int .u8 0, .int .u8 0, .int .u8 0] 72)).alloc (.cells #[.int .i64 0, .int .u8 0, .int .u8 0, .int .u8 0, .int .u8 0, .int .u8 0, .int .u8 0, .int .u8 0, .int .u8 0, .int .u8 0, .int .u8 0, .int .u8 0, .int .u8 0, .int .u8 0, .int .u8 0, .int .u8 0, .int .u8 0] 72) = Y at hY
  have hz := h.size
  have hv0 := zb (show (vc zE).length = 17 from valL_len 0 [])
  have tok1 : Hid (0 < 1) := zb (by decide)
  go_enter Try.func44, Try.ntmps44
  go_upto_region 2 with (first
    | (clear tok1; refine wpList_put (ds := vc zE) zad rfl (.tmp 3) (.tmp 6) rfl (w.heap.size + 1) 0 rfl rfl hv0.out (zar _) bY (Nat.le_of_ble_eq_true rfl) (zk _ _ (Nat.le_of_eq rfl)) ?_; intro w1 b1 k1)
    | fail)
  try simp only [Act.put]
  have f1 : Fr w w1 := k1.below fY fY.size (Nat.le_succ _)
  have a1 := k1.arr aY (by omega)
  have cT := qtake_gen (h.fr f1) hby 16 (by decide) hG (zb rfl) (zb rfl)
  rw [show ((16 : Nat) : Int) = 16 from rfl] at cT
  have E1 := zb (show (vlP (bs.drop at_)) = (valL (ctP (bs.drop at_)) (((bs.drop at_).drop 1).take (ctP (bs.drop at_))), ((bs.drop at_).drop 1).drop (ctP (bs.drop at_))) from rfl)
  have E2 := zb (fun (q : G) => show (((bs.drop at_).drop 1).take (ctP (bs.drop at_))).length = ctP (bs.drop at_) by
    obtain ⟨p1, p2, p3⟩ := hG.out q
    rw [List.length_take, List.length_drop]; omega)
  generalize ((bs.drop at_).drop 1).take (ctP (bs.drop at_)) = t0 at *
  generalize ((bs.drop at_).drop 1).drop (ctP (bs.drop at_)) = q0 at *
  go_wp2_with fail
  refine cT.mono ?_
  rintro e w2 ⟨A, n, c, t, at2, bad2, rfl, h2⟩
  obtain ⟨ht, hn, hc, hbt, hh, q2, k2, g2⟩ := h2.out
  have a2 := k2.arr a1 (by omega)
  have b2 := k2.arr b1 (by omega)
  have tok2 : Hid (0 < 1) := zb (by decide)
  have fwB : B ≤ w.heap.size := by omega
  clear cT aY bY hY h h2 a1 b1 hby
  go_upto_region 4 with (first
    | (clear tok2; refine wpList_put (ds := [.int .i64 (n : Int)]) cint_info rfl (.tmp 11) (.tmp 10) rfl (w.heap.size + 1) 0 rfl rfl rfl (zdv _ rfl) b2 (Nat.le_of_ble_eq_true rfl) (cs' := rowL 16 n []) rfl ?_; intro w3 b3 k3)
    | fail)
  try simp only [Act.put]
  have KE : KpG w g w2 := (KpG.of_fr g f1).trans k2
  have zw2 := a2.lt
  have B3 := zb b3
  have Q2 := zb q2
  have A2 := zb a2
  have K3 := zb k3
  have Hh := zb hh
  have Ht := zb ht
  have Hbt := zb hbt
  clear b2 k1 f1 b3 q2 a2 k2 hbt
  go_wp2_with fail
  go_loopg [5] n (fun gg si wr => ∃ j : Nat, j + gg = n ∧ si = .int .i64 j ∧ Hid (Arr wr (w.heap.size + 1) 72 (rowL 16 n (t.take j)).toArray ∧ KpG w2 (w.heap.size + 1) wr))
  case atStart => exact ⟨0, by omega, rfl, zb ⟨by rw [List.take_zero]; exact B3.out, K3.out⟩⟩
  case round =>
    obtain ⟨j, hj, rfl, hI⟩ := hrel
    obtain ⟨wx, rfl⟩ : ∃ W : World, W = wr := ⟨_, rfl⟩
    by_cases hlt : j < n
    · have hjz : (j : Int) < (n : Int) := by omega
      have hjl : j < t.length := by omega
      obtain ⟨z, hz1⟩ : ∃ z, t[j]? = some z := ⟨_, List.getElem?_eq_getElem hjl⟩
      obtain ⟨b0, off, rfl, hb0, hcell⟩ := Hh.out.form (by intro e; rw [List.map_eq_nil_iff] at e; rw [e] at hjl; simp at hjl)
      have hcj : wx.cell? ⟨b0, off + j, none⟩ = some (.int .u8 z) := by
        have e1 := hcell j (.int .u8 z) (by rw [List.getElem?_map, hz1]; rfl)
        rw [← e1]
        exact hI.out.2.cell_far _ (by show b0 < _; omega) (fun e => by injection e with e; have : b0 = w.heap.size + 1 := e; omega)
      have hs := zb (row_step (M := 16) (n : Int) (by omega) hz1)
      have hI1 := hI.out.1
      have tok3 : Hid (0 < 1) := zb (by decide)
      have hlen := zb (rowL_len (M := 16) (n : Int) (l := t.take j) (by rw [List.length_take]; omega))
      have hjM : (j : Int) < 16 := by omega
      clear hcell
      have HJ := zb hj
      go_wp2_with (first
        | (clear tok3; refine wpList_put (ds := [.int .u8 z]) u8_info' rfl (.tmp 24) (.tmp 22) rfl (w.heap.size + 1) (1 + j) rfl rfl rfl (zdv _ rfl) hI1 (by rw [hlen.out]; omega) hs.out ?_; intro w5 b5 k5)
        | fail)
      go_roundg (gk - 1)
      case measure => have := HJ.out; omega
      case rel => exact ⟨j + 1, by have := HJ.out; omega, by go_num, zb ⟨b5, hI.out.2.trans k5⟩⟩
    · have hjz : ¬ (j : Int) < (n : Int) := by omega
      have etk : t.take j = t := List.take_of_length_le (by omega)
      have hI1 := hI.out.1
      rw [etk, ← vc_row _ _ (by omega)] at hI1
      have hlen := zb (show (vc (valL n t)).length = 17 from valL_len n t)
      have lK : (ldS 72 (.pointer (some ⟨w.heap.size + 1, 0, none⟩))).run Try.prog wx = .ok (.agg (vc (valL n t)).toArray) wx := zbs.ld hlen.out hI1
      have aX := hI.out.2.arr A2.out (by omega)
      have HJ := zb hj
      have zx := hI.out.2.size
      have G2 := zb g2
      have tok3 : Hid (0 < 1) := zb (by decide)
      have oneK := zb (zar (valL n t))
      clear hI1 g2
      go_wp2_with (first
        | (clear tok3; refine wpList_put (ds := vc (valL n t)) zad rfl (.tmp 2) (.tmp 25) rfl w.heap.size 0 rfl rfl hlen.out oneK.out aX (Nat.le_of_ble_eq_true rfl) (zk _ _ (by rw [hlen.out]; exact Nat.le_of_ble_eq_true rfl)) ?_; intro w6 a6 k6)
        | fail)
      exact bodyPost_ret (zbs.result rfl _ w.heap.size rfl hlen.out a6) rfl ⟨valL n t, at2, bad2, rfl, zb ⟨valL_wf (by unfold zal; omega) Hbt.out, (Q2.out.put hI.out.2 (by omega) (by omega)).put k6 (by omega) (by omega), (KE.set hI.out.2 (Nat.le_succ _)).set k6 (Nat.le_refl _), fun q => by
        obtain ⟨x1, x2, x3⟩ := G2.out q
        have e3 : n = ctP (bs.drop at_) := by rw [← Ht.out, x1]; exact E2.out q
        exact ⟨by rw [← hk.out, E1.out, x1, e3], by rw [x2, ← hr.out, E1.out], x3⟩⟩⟩
end Go.Proofs.Ytmjjjdikpnhpiaa
/- The document's reader: messages. -/
namespace Go.Proofs.Ytmjjjdikpnhpiaa
set_option linter.unusedVariables false
set_option linter.unusedSimpArgs false
set_option maxRecDepth 100000
open Go.RowKit
attribute [local go_sem ↓] zw zt zae
/-- The bytes suffice: of a text, of a message. -/
def tOk (M : Nat) (r : List Int) : Prop := 1 + ctP r ≤ r.length ∧ ctP r ≤ M
def mOk (r : List Int) : Prop := 9 ≤ r.length ∧ tOk 8 ((r.drop 1).drop 8) ∧ (ctP r = 1 → tOk 16 (hdP r).2) ∧ (ctP r = 3 → 8 ≤ (hdP r).2.length)
theorem us_of {z : Int} {K : Nat} (h : 0 ≤ z ∧ z < (256 : Int) ^ K) (hK : K ≤ 8) : zeb z := by
  have h2 : (256 : Int) ^ K ≤ 256 ^ 8 := by
    have : ((256 ^ K : Nat) : Int) ≤ ((256 ^ 8 : Nat) : Int) := Int.ofNat_le.2 (Nat.pow_le_pow_right (by decide) hK)
    simpa using this
  rw [show (256 : Int) ^ 8 = 18446744073709551616 from by decide] at h2
  unfold zeb
  omega
set_option maxHeartbeats 4000000 in
theorem qmsg_at {w : World} {B g at_ : Nat} {bad : Bool} {bs : List Int} (h : Qd w B g bs at_ bad) (hby : zdi bs) {G : Prop} {m0 : RM} {r0 : List Int}
    (hG : Hid (G → bad = false ∧ mOk (bs.drop at_))) (hk : Hid ((msP (bs.drop at_)).1 = m0)) (hr : Hid ((msP (bs.drop at_)).2 = r0)) :
    Calls Try.prog 46 #[.pointer (some ⟨g, 0, none⟩)] w (QR w B g bs mm (fun m => m.wf) G m0 r0) := by
  obtain ⟨Y, hY, fY, aY⟩ : ∃ Y, w.alloc (.cells (mc za0).toArray 81) = Y ∧ Fr w Y ∧ Arr Y w.heap.size 81 (mc za0).toArray := ⟨_, rfl, zf (ze _) _, Arr.new _ _ _⟩
  rw [zdM] at hY
  have hz29 : Hid ((mc za0).length = 29) := zb rfl
  have hz := h.size
  have kY := KpG.of_fr g fY
  have cN := qnum_at (h.fr fY) hby 1 (by decide) (by decide)
  rw [show ((1 : Nat) : Int) = 1 from rfl] at cN
  generalize hR : bs.drop at_ = R at *
  have HR := zb hR
  clear hR
  go_enter Try.func46, Try.ntmps46
  go_wp2_with fail
  refine cN.mono ?_
  rintro e w1 ⟨z, at1, bad1, rfl, h1⟩
  obtain ⟨uz, q1, k1, g1⟩ := h1.out
  obtain ⟨uz1, uz2⟩ := uz
  rw [show (256 : Int) ^ 1 = 256 from rfl] at uz2
  obtain ⟨N, rfl⟩ := Int.eq_ofNat_of_zero_le uz1
  have hw : IntKind.i64.wrap (N : Int) = (N : Int) := by rw [IntKind.wrap_i64]; omega
  have a1 := k1.arr aY (by omega)
  have K1 := zb (kY.trans k1)
  have G1 := zb g1
  obtain ⟨V, hV, fV, aV⟩ : ∃ V, w1.alloc (.cells (mc za0).toArray 81) = V ∧ Fr w1 V ∧ Arr V w1.heap.size 81 (mc za0).toArray := ⟨_, rfl, zf (ze _) _, Arr.new _ _ _⟩
  rw [zdM] at hV
  have zw1 := a1.lt
  have hl1 : Hid ((mc (⟨N, 0, zr, zE, 0⟩ : RM)).length = 29) := zb rfl
  have tok1 : Hid (0 < 1) := zb (by decide)
  clear cN h1 g1 h aY hY kY k1
  go_upto_region 2 with (first
    | (clear tok1; refine wpList_put (ds := mc ⟨N, 0, zr, zE, 0⟩) zX rfl (.tmp 3) (.tmp 7) rfl w1.heap.size 0 rfl rfl hl1.out (zay _) aV (Nat.le_of_eq hz29.out.symm) (zk _ _ (Nat.le_of_eq (hz29.out.trans hl1.out.symm))) ?_; intro w2 a2 k2)
    | fail)
  try simp only [Act.put]
  have K2 := zb ((K1.out.fr fV).set k2 (by omega))
  have b2 := k2.arr (a1.below fV a1.lt) (by omega)
  have r2 := (q1.fr fV).put k2 (by omega) (by omega)
  have cN := qnum_at r2 hby 8 (by decide) (by decide)
  rw [show ((8 : Nat) : Int) = 8 from rfl] at cN
  clear aV k2 hV fV a1 q1 r2
  go_wp2_with fail
  refine cN.mono ?_
  rintro e w3 ⟨s, at3, bad3, rfl, h3⟩
  obtain ⟨us, q3, k3, g3⟩ := h3.out
  have Us := zb (us_of us (by decide))
  have G3 := zb g3
  have K3 := zb (K2.out.trans k3)
  have a3 := k3.arr a2 (by omega)
  have b3 := k3.arr b2 (by omega)
  have tok1 : Hid (0 < 1) := zb (by decide)
  clear cN h3 g3 us a2 b2 k3
  go_upto_region 3 with (first
    | (clear tok1; refine wpList_put (ds := [.int .u64 s]) u64_info' rfl (.tmp 10) (.tmp 9) rfl w1.heap.size 1 rfl rfl rfl (zdv _ rfl) a3 (Nat.le_of_ble_eq_true rfl) (cs' := mc ⟨N, s, zr, zE, 0⟩) rfl ?_; intro w4 a4 k4)
    | fail)
  try simp only [Act.put]
  have K4 := zb (K3.out.set k4 (by omega))
  have b4 := k4.arr b3 (by omega)
  have r4 := q3.put k4 (by omega) (by omega)
  have cK := qkey_at r4 hby (G := G) (k0 := (kyP (bs.drop at3)).1) (r0 := (kyP (bs.drop at3)).2) (zb fun q => by
    obtain ⟨p1, p2⟩ := hG.out q
    obtain ⟨x1, x2, x3⟩ := G1.out ⟨p1, by have := p2.1; omega⟩
    obtain ⟨y1, y2, y3⟩ := G3.out ⟨x3, by rw [x2, List.length_drop]; have := p2.1; omega⟩
    rw [y2, x2]
    exact ⟨y3, p2.2.1.1, p2.2.1.2⟩) (zb rfl) (zb rfl)
  have KY := zb (rfl : (kyP (bs.drop at3)) = (kyP (bs.drop at3)))
  generalize hky : kyP (bs.drop at3) = kq at *
  have HKY := zb hky
  clear a3 b3 k4 q3 r4 hky KY
  go_wp2_with fail
  refine cK.mono ?_
  rintro e w5 ⟨k, at5, bad5, rfl, h5⟩
  obtain ⟨wk, q5, k5, g5⟩ := h5.out
  have G5 := zb g5
  have Wk := zb wk
  have K5 := zb (K4.out.trans k5)
  have a5 := k5.arr a4 (by omega)
  have b5 := k5.arr b4 (by omega)
  have tok1 : Hid (0 < 1) := zb (by decide)
  clear cK h5 g5 a4 b4 k5 wk
  go_upto_region 4 with (first
    | (clear tok1; refine wpList_put (ds := kc k) zC rfl (.tmp 13) (.tmp 12) rfl w1.heap.size 2 rfl rfl (zl _) (zU _) a5 (Nat.le_of_ble_eq_true rfl) (cs' := mc ⟨N, s, k, zE, 0⟩) rfl ?_; intro w6 a6 k6)
    | fail)
  try simp only [Act.put]
  have K6 := zb (K5.out.set k6 (by omega))
  have b6 := k6.arr b5 (by omega)
  have r6 := q5.put k6 (by omega) (by omega)
  have GF : Hid (G → (⟨N, s, k, zE, 0⟩ : RM) = (hdP R).1 ∧ bs.drop at5 = (hdP R).2 ∧ bad5 = false ∧ N = ctP R) := zb fun q => by
    obtain ⟨p1, p2⟩ := hG.out q
    obtain ⟨x1, x2, x3⟩ := G1.out ⟨p1, by have := p2.1; omega⟩
    obtain ⟨y1, y2, y3⟩ := G3.out ⟨x3, by rw [x2, List.length_drop]; have := p2.1; omega⟩
    obtain ⟨z1, z2, z3⟩ := G5.out q
    have eN : N = ctP R := by unfold ctP; rw [← x1]; rfl
    refine ⟨?_, ?_, z3, eN⟩
    · unfold hdP
      rw [z1, ← HKY.out, y2, y1, x2, eN]
    · unfold hdP
      rw [z2, ← HKY.out, y2, x2]
  have c0 : w6.cell? ⟨w1.heap.size, 0, none⟩ = some (.int .i64 (N : Int)) := by rw [a6.cell]; rfl
  have h1 : ((N : Int) == 1) = decide (N = 1) := by rw [Bool.eq_iff_iff]; simp; omega
  have h3 : ((N : Int) == 3) = decide (N = 3) := by rw [Bool.eq_iff_iff]; simp; omega
  have z6 := K6.out.size
  have hl6 : Hid ((mc (⟨N, s, k, zE, 0⟩ : RM)).length = 29) := zb rfl
  have nI : Hid (zal (N : Int)) := zb (by unfold zal; omega)
  clear a5 b5 k6 q5 G1 G3 G5 HKY K1 K2 K3 K4 K5
  by_cases e1 : N = 1
  · have cV := qvalue_at r6 hby (G := G) (k0 := (vlP (bs.drop at5)).1) (r0 := (vlP (bs.drop at5)).2) (zb fun q => by
      obtain ⟨p1, p2⟩ := hG.out q
      obtain ⟨x1, x2, x3, x4⟩ := GF.out q
      rw [x2]
      have t := p2.2.2.1 (by omega)
      exact ⟨x3, t.1, t.2⟩) (zb rfl) (zb rfl)
    have e1d : decide (N = 1) = true := by rw [e1]; rfl
    have e3d : decide (N = 3) = false := by rw [e1]; rfl
    rw [e1d] at h1
    rw [e3d] at h3
    have E1 := zb e1
    generalize hvp : vlP (bs.drop at5) = vq at *
    have HV := zb hvp
    clear e1 e1d e3d r6 hvp
    go_wp2_with fail
    refine cV.mono ?_
    rintro e w7 ⟨v, at7, bad7, rfl, h7⟩
    obtain ⟨wv, q7, k7, g7⟩ := h7.out
    have G7 := zb g7
    have Wv := zb wv
    have K7 := zb (K6.out.trans k7)
    have a7 := k7.arr a6 (by omega)
    have b7 := k7.arr b6 (by omega)
    have hv17 := zb (zD wv.hl)
    have o17 := zb (zar v)
    have hs7 := zb (mc_setV (m := ⟨N, s, k, zE, 0⟩) rfl hv17.out)
    have hl7 : Hid ((mc (⟨N, s, k, v, 0⟩ : RM)).length = 29) := zb (zP wv.hl)
    have tok1 : Hid (0 < 1) := zb (by decide)
    have tok2 : Hid (0 < 1) := zb (by decide)
    clear cV h7 g7 wv a6 b6 k7 c0
    go_wp2_with (first
      | (clear tok1; refine wpList_put (ds := vc v) zad rfl (.tmp 19) (.tmp 18) rfl w1.heap.size 11 rfl rfl hv17.out o17.out a7 (by rw [hl6.out]; decide) hs7.out ?_; intro w8 a8 k8
         have K8 := zb (K7.out.set k8 (by omega))
         have b8 := k8.arr b7 (by omega)
         have r8 := q7.put k8 (by omega) (by omega)
         have c8 : w8.cell? ⟨w1.heap.size, 0, none⟩ = some (.int .i64 (N : Int)) := by rw [a8.cell]; rfl
         have l8 : (ldS 81 (.pointer (some ⟨w1.heap.size, 0, none⟩))).run Try.prog w8 = .ok (.agg (mc ⟨N, s, k, v, 0⟩).toArray) w8 := za4.ld hl7.out a8)
      | (clear tok2; refine wpList_put (ds := mc ⟨N, s, k, v, 0⟩) zX rfl (.tmp 2) (.tmp 26) rfl w.heap.size 0 rfl rfl hl7.out (zay _) b8 (Nat.le_of_eq hz29.out.symm) (zk _ _ (Nat.le_of_eq (hz29.out.trans hl7.out.symm))) ?_; intro w9 a9 k9)
      | fail)
    exact bodyPost_ret (za4.result rfl _ w.heap.size rfl hl7.out a9) rfl ⟨⟨N, s, k, v, 0⟩, at7, bad7, rfl, zb ⟨⟨nI.out, Us.out, Wk.out, Wv.out, by unfold zeb; dsimp only; omega⟩, r8.put k9 (by omega) (by omega), K8.out.set k9 (Nat.le_refl _), fun q => by
      obtain ⟨x1, x2, x3, x4⟩ := GF.out q
      obtain ⟨y1, y2, y3⟩ := G7.out q
      have c1 : ctP R = 1 := by rw [← x4]; exact E1.out
      refine ⟨?_, ?_, y3⟩
      · rw [← hk.out]
        unfold msP
        rw [if_pos c1, ← x1, ← x2, HV.out, y1]
      · rw [← hr.out, y2]
        unfold msP
        rw [if_pos c1, ← x2, HV.out]⟩⟩
  · have e1d : decide (N = 1) = false := by simpa using e1
    rw [e1d] at h1
    have E1 := zb e1
    by_cases e3 : N = 3
    · have cI := qnum_at r6 hby 8 (by decide) (by decide)
      rw [show ((8 : Nat) : Int) = 8 from rfl] at cI
      have e3d : decide (N = 3) = true := by rw [e3]; rfl
      rw [e3d] at h3
      have E3 := zb e3
      clear e1 e3 e1d e3d r6
      go_wp2_with fail
      refine cI.mono ?_
      rintro e w7 ⟨i, at7, bad7, rfl, h7⟩
      obtain ⟨ui, q7, k7, g7⟩ := h7.out
      have G7 := zb g7
      have Ui := zb (us_of ui (by decide))
      have K7 := zb (K6.out.trans k7)
      have a7 := k7.arr a6 (by omega)
      have b7 := k7.arr b6 (by omega)
      have hs7 := zb (mc_setI (m := ⟨N, s, k, zE, 0⟩) rfl i)
      have hl7 : Hid ((mc (⟨N, s, k, zE, i⟩ : RM)).length = 29) := zb rfl
      have tok1 : Hid (0 < 1) := zb (by decide)
      have tok2 : Hid (0 < 1) := zb (by decide)
      clear cI h7 g7 ui a6 b6 k7 c0
      go_wp2_with (first
        | (clear tok1; refine wpList_put (ds := [.int .u64 i]) u64_info' rfl (.tmp 25) (.tmp 24) rfl w1.heap.size 28 rfl rfl rfl (zdv _ rfl) a7 (by rw [hl6.out]; decide) hs7.out ?_; intro w8 a8 k8
           have K8 := zb (K7.out.set k8 (by omega))
           have b8 := k8.arr b7 (by omega)
           have r8 := q7.put k8 (by omega) (by omega)
           have l8 : (ldS 81 (.pointer (some ⟨w1.heap.size, 0, none⟩))).run Try.prog w8 = .ok (.agg (mc ⟨N, s, k, zE, i⟩).toArray) w8 := za4.ld hl7.out a8)
        | (clear tok2; refine wpList_put (ds := mc ⟨N, s, k, zE, i⟩) zX rfl (.tmp 2) (.tmp 26) rfl w.heap.size 0 rfl rfl hl7.out (zay _) b8 (Nat.le_of_eq hz29.out.symm) (zk _ _ (Nat.le_of_eq (hz29.out.trans hl7.out.symm))) ?_; intro w9 a9 k9)
        | fail)
      exact bodyPost_ret (za4.result rfl _ w.heap.size rfl hl7.out a9) rfl ⟨⟨N, s, k, zE, i⟩, at7, bad7, rfl, zb ⟨⟨nI.out, Us.out, Wk.out, zcA, Ui.out⟩, r8.put k9 (by omega) (by omega), K8.out.set k9 (Nat.le_refl _), fun q => by
        obtain ⟨p1, p2⟩ := hG.out q
        obtain ⟨x1, x2, x3, x4⟩ := GF.out q
        have c1 : ¬ ctP R = 1 := by rw [← x4]; exact E1.out
        have c3 : ctP R = 3 := by rw [← x4]; exact E3.out
        obtain ⟨y1, y2, y3⟩ := G7.out ⟨x3, by rw [x2]; exact p2.2.2.2 c3⟩
        refine ⟨?_, ?_, y3⟩
        · rw [← hk.out]
          unfold msP
          rw [if_neg c1, if_pos c3, ← x1, ← x2, y1]
        · rw [← hr.out, y2]
          unfold msP
          rw [if_neg c1, if_pos c3, ← x2]⟩⟩
    · have e3d : decide (N = 3) = false := by simpa using e3
      rw [e3d] at h3
      have E3 := zb e3
      have l6 : (ldS 81 (.pointer (some ⟨w1.heap.size, 0, none⟩))).run Try.prog w6 = .ok (.agg (mc ⟨N, s, k, zE, 0⟩).toArray) w6 := za4.ld hl6.out a6
      have tok2 : Hid (0 < 1) := zb (by decide)
      clear e1 e3 e1d e3d
      go_wp2_with (first
        | (clear tok2; refine wpList_put (ds := mc ⟨N, s, k, zE, 0⟩) zX rfl (.tmp 2) (.tmp 26) rfl w.heap.size 0 rfl rfl hl6.out (zay _) b6 (Nat.le_of_eq hz29.out.symm) (zk _ _ (Nat.le_of_eq (hz29.out.trans hl6.out.symm))) ?_; intro w9 a9 k9)
        | fail)
      exact bodyPost_ret (za4.result rfl _ w.heap.size rfl hl6.out a9) rfl ⟨⟨N, s, k, zE, 0⟩, at5, bad5, rfl, zb ⟨⟨nI.out, Us.out, Wk.out, zcA, by unfold zeb; dsimp only; omega⟩, r6.put k9 (by omega) (by omega), K6.out.set k9 (Nat.le_refl _), fun q => by
        obtain ⟨x1, x2, x3, x4⟩ := GF.out q
        have c1 : ¬ ctP R = 1 := by rw [← x4]; exact E1.out
        have c3 : ¬ ctP R = 3 := by rw [← x4]; exact E3.out
        refine ⟨?_, ?_, x3⟩
        · rw [← hk.out]
          unfold msP
          rw [if_neg c1, if_neg c3, x1]
        · rw [← hr.out, x2]
          unfold msP
          rw [if_neg c1, if_neg c3]⟩⟩
end Go.Proofs.Ytmjjjdikpnhpiaa
/- The document's reader: what was written suffices. -/
namespace Go.Proofs.Ytmjjjdikpnhpiaa
set_option linter.unusedVariables false
set_option linter.unusedSimpArgs false
set_option maxRecDepth 100000
open Go.RowKit
theorem tOk_key {k : RK} (h : okB k = true) (r : List Int) : tOk 8 (kB k ++ r) := by
  obtain ⟨m, hm, hn, hk⟩ := zi4 h
  have hl := kB_len h
  have hc : (ctP (kB k ++ r) : Int) = k.n := ctP_cons (by omega) _
  unfold tOk
  rw [List.length_append]
  omega
theorem tOk_val {v : RV} (w : v.wf) (h : okV v = true) (r : List Int) : tOk 16 (vB v ++ r) := by
  obtain ⟨m, hm, hn, hk⟩ := ziC h
  have hl := vB_len w h
  have hc : (ctP (vB v ++ r) : Int) = v.n := ctP_cons (by omega) _
  unfold tOk
  rw [List.length_append]
  omega
theorem mOk_of {m : RM} (w : m.wf) (h : okM m = true) (r : List Int) : mOk (mB m ++ r) := by
  obtain ⟨hc, hh⟩ := hdP_of w h r
  have hk := okM_kind h
  have e1 : (mB m ++ r).drop 1 = leB m.seq 8 ++ (kB m.key ++ (tB m ++ r)) := by
    unfold mB
    rw [List.cons_append, List.drop_one, List.tail_cons, List.append_assoc, List.append_assoc]
  unfold mOk
  rw [hh, e1, drop_leB]
  refine ⟨?_, tOk_key (okM_okB h) _, fun q => ?_, fun q => ?_⟩
  · have e2 := congrArg List.length e1
    simp only [List.length_drop, List.length_append, zcP] at e2 ⊢
    have := kB_len (okM_okB h)
    obtain ⟨n, hm, hn, -⟩ := zi4 (okM_okB h)
    omega
  · have k1 : m.kind = 1 := by omega
    obtain ⟨_, _, ov⟩ := okM_one h k1
    have et : tB m = vB m.val := by unfold tB; rw [if_pos k1]
    dsimp only
    rw [et]
    exact tOk_val w.val ov r
  · have k3 : m.kind = 3 := by omega
    have et : tB m = leB m.inc 8 := by unfold tB; rw [if_neg (by omega), if_pos k3]
    dsimp only
    rw [et, List.length_append, zcP]
    omega
end Go.Proofs.Ytmjjjdikpnhpiaa
