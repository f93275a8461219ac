/- ValueBytes, walked. -/
import Derived.Test.YtignnjflodkihaaValE
import Derived.Lib.ConvBytes
import Derived.Laws.IdiomStrings
namespace Go.Proofs.Ytignnjflodkihaa
open Go.RowKit
set_option linter.unusedVariables false
attribute [local go_sem ↓] val_ld
theorem run_str {P : Program} {w : World} {C : Nat} {A : Option Addr} {n c : Nat} {zs : List Int} (src dst e : TypeId) (hs : P.underlying src = some (.slice e)) (he : P.underlying e = some (.int .u8)) (hd : P.underlying dst = some .string)
    (hl : zs.length = n) (hr : Has w C A (u8s zs)) : (convert src dst (.slice A n c)).run P w = .ok (.string (strOfNums zs)) w := by
  by_cases h0 : zs = []
  · subst h0
    subst hl
    rw [run_convert_bytes_string w src dst e A _ c hs he hd]
    cases A <;> simp [Conv.bytesToString, strOfNums, loadCells, loadCellsFrom, Sem.run_pure] <;> rfl
  · obtain ⟨b, off, rfl, _, hc⟩ := hr.form (by simpa using h0)
    exact run_convert_bytes_arg w src e hs he b off n c zs hl (fun i hi => by
      have hz : i < zs.length := by omega
      rw [hc i (.int .u8 zs[i]) (by simp [hz])]
      simp [List.getD, hz]) dst hd
/-- '[]byte(s)': a row of the call's own that has the bytes. -/
theorem bytes_made (w : World) (s : ByteArray) : ∃ (W0 : World) (cap : Nat), (convert 9 36 (.string s)).run Try.prog w = .ok (.slice (some ⟨w.heap.size, 0, none⟩) s.size cap) W0 ∧ Fr w W0 ∧ s.size ≤ cap ∧
    (∀ j, j < s.size → W0.cell? ⟨w.heap.size, j, none⟩ = some (.int .u8 ((nums s).getD j 0))) ∧ (∀ j, j < s.size → W0.frozen? ⟨w.heap.size, j, none⟩ = false) := by
  refine ⟨_, _, Lib.run_convert_string_bytes w 9 36 5 s Try.underlying9 Try.underlying36 Try.underlying5, ⟨rfl, rfl, rfl, by rw [Lib.bytesWorld_size]; omega, fun k hk => Lib.bytesWorld_at_old w _ s k hk⟩, grownCap_ge _ _ _ _, fun j hj => ?_, fun j hj => ?_⟩
  · rw [Lib.bytesWorld_cell w _ s j hj, nums_at s j hj]
    have hj' : j < s.data.toList.length := by rw [← Lib.size_eq]; exact hj
    simp only [List.getD, List.getElem?_eq_getElem hj', Option.getD_some]
    rfl
  · have hsz : j < (Lib.bytesCells w 5 s).size := by simp [Lib.bytesCells]; omega
    simp only [World.frozen?, Lib.bytesWorld_at_new]
    simp
    omega
theorem leN_set (X : Int) : ∀ (l : List Int) (k : Nat), k < l.length → leN (l.set k X) = leN l + (X - l.getD k 0) * 256 ^ k
  | [], k, h => by simp at h
  | b :: l, 0, _ => by simp [leN]; omega
  | b :: l, k + 1, h => by
    simp only [List.set_cons_succ, leN, leN_set X l k (by simpa using h), List.getD_cons_succ, Int.pow_succ, Int.mul_add]
    rw [Int.add_assoc]
    congr 2
    rw [Int.mul_comm 256, Int.mul_assoc]
theorem low_set {s : ByteArray} (X : Int) (k : Nat) (hk : k < s.size) (h16 : s.size ≤ 16) : ((nums s).set k X ++ List.replicate (16 - s.size) 0).take 8 = ((nums s ++ List.replicate (16 - s.size) 0).take 8).set k X := by
  rw [← List.set_append_left k X (by rw [nums_len]; exact hk), List.take_set]
theorem num_set {s : ByteArray} (X : Int) (k : Nat) (hk : k < s.size) (h16 : s.size ≤ 16) (hX : 0 ≤ X ∧ X ≤ 255) :
    numV (ofV (strOfNums ((nums s).set k X))) = if k < 8 then numV (ofV s) + (X - (nums s).getD k 0) * 256 ^ k else numV (ofV s) := by
  have hb : Bytes ((nums s).set k X) := fun z hz => by
    rcases List.mem_or_eq_of_mem_set hz with h | h
    · exact nums_bytes s z h
    · rw [h]; exact hX
  have e : (ofV (strOfNums ((nums s).set k X))).bs = (nums s).set k X ++ List.replicate (16 - s.size) 0 := by
    rw [ofV_mk, nums_str hb]
    simp [mkV, nums_len]
  have hl : ((nums s ++ List.replicate (16 - s.size) 0).take 8).length = 8 := by simp [nums_len]; omega
  rw [numV, e, low_set X k hk h16]
  by_cases h8 : k < 8
  · rw [if_pos h8, leN_set X _ k (by omega)]
    show _ = leN ((nums s ++ List.replicate (16 - s.size) 0).take 8) + _
    congr 2
    rw [List.getD, List.getElem?_take_of_lt h8, List.getElem?_append_left (by rw [nums_len]; exact hk)]
    rfl
  · rw [if_neg h8, List.set_eq_of_length_le (by omega)]
    rfl
theorem diff_low {M V X y : Int} {k : Nat} (h : M = V + (X - y) * 256 ^ k) (hX : 0 ≤ X ∧ X ≤ 255) (hy : 0 ≤ y ∧ y ≤ 255) :
    IntKind.u64.wrap (M - V) = IntKind.u64.wrap (IntKind.u64.wrap (IntKind.u64.wrap X - IntKind.u64.wrap y) * 2 ^ (8 * k)) := by
  have e1 : IntKind.u64.wrap X = X := by rw [u64_of]; omega
  have e2 : IntKind.u64.wrap y = y := by rw [u64_of]; omega
  have e3 : (2 : Int) ^ (8 * k) = 256 ^ k := by rw [Int.pow_mul]; rfl
  rw [e1, e2, e3, h, show V + (X - y) * 256 ^ k - V = (X - y) * 256 ^ k by omega, u64_of, u64_of, u64_of]
  generalize (256 : Int) ^ k = p
  rw [Int.mul_emod ((X - y) % 18446744073709551616) p, Int.emod_emod, ← Int.mul_emod]
set_option maxRecDepth 100000 in
set_option maxHeartbeats 4000000 in
theorem valueBytes_go (s : ByteArray) (t X : Int) (k : Nat) (h16 : s.size ≤ 16) (hk : k < s.size) (ht : (t.tmod (s.size : Int) = -(k : Int) ∧ 0 < k) ∨ t.tmod (s.size : Int) = k) (hX : 0 ≤ X ∧ X ≤ 255) (w : World) :
    Calls Try.prog 8 #[.string s, .int .i64 t, .int .u8 X] w fun e w' => e = .returned (.bool true) ∧ Below w.heap.size w w' := by
  have d1 : decide ((16 : Int) < (s.size : Int)) = false := by simp; omega
  have d2 : ((s.size : Int) == 0) = false := by rw [beq_eq_false_iff_ne]; omega
  obtain ⟨W0, cap, hcv, hF0, hcap, hc0, hf0⟩ := bytes_made w s
  have hnum := num_set X k hk h16 hX
  have hl : ((nums s).set k X).length = s.size := by simp [nums_len]
  have hsz2 : (strOfNums ((nums s).set k X)).size ≤ 16 := by rw [str_size, hl]; exact h16
  have wv := ofV_wf h16
  have wx := ofV_wf hsz2
  have Hv := keep (vc_len wv.hl)
  have Hx := keep (vc_len wx.hl)
  have cO := fun W => val_of_fits s h16 W
  have cP := fun W => val_of_fits _ hsz2 W
  have cN : ∀ Z W, Fr Z W → Calls Try.prog 21 #[vv (ofV s)] W fun e w' => e = .returned (.int .u64 (numV (ofV s))) ∧ Fr Z w' := fun Z W h => number_at wv (ofV_ok h16) h
  have cM : ∀ Z W, Fr Z W → Calls Try.prog 21 #[vv (ofV (strOfNums ((nums s).set k X)))] W fun e w' => e = .returned (.int .u64 (numV (ofV (strOfNums ((nums s).set k X))))) ∧ Fr Z w' := fun Z W h => number_at wx (ofV_ok hsz2) h
  have hck := hc0 k hk
  have hfk := hf0 k hk
  have hW1 : Has (W0.setCell ⟨w.heap.size, k, none⟩ (.int .u8 X)) (W0.setCell ⟨w.heap.size, k, none⟩ (.int .u8 X)).heap.size (some ⟨w.heap.size, 0, none⟩) (u8s ((nums s).set k X)) := by
    intro j u hu
    have hj : j < s.size := by have := (List.getElem?_eq_some_iff.1 hu).1; simpa [nums_len] using this
    refine ⟨_, _, rfl, by have := World.block_lt_of_cell? W0 _ hck; simpa [World.setCell] using this, ?_⟩
    rw [Nat.zero_add]
    by_cases e : j = k
    · subst e
      rw [World.cell?_setCell_same _ _ _ hck]
      simp [nums_len, hj] at hu
      rw [hu]
    · rw [World.cell?_setCell_other _ _ _ _ (fun e' => e (congrArg Addr.off e').symm), hc0 j hj, ← hu]
      simp [Ne.symm e, List.getElem?_set, nums_len, hj, List.getD]
  have hF1 : Fr w (W0.setCell ⟨w.heap.size, k, none⟩ (.int .u8 X)) := hF0.setCell (Nat.le_refl _) _
  have hk2 : (k : Int) < s.size := by omega
  have hstr : ∀ W, Fr (W0.setCell ⟨w.heap.size, k, none⟩ (.int .u8 X)) W → (convert 36 9 (.slice (some ⟨w.heap.size, 0, none⟩) s.size cap)).run Try.prog W = .ok (.string (strOfNums ((nums s).set k X))) W := fun W h => run_str 36 9 5 Try.underlying36 Try.underlying5 Try.underlying9 hl (hW1.below h)
  clear hW1 hc0 hf0 wv wx
  have hE8 : Hid (k < 8 → IntKind.u64.wrap (numV (ofV (strOfNums ((nums s).set k X))) - numV (ofV s)) = IntKind.u64.wrap (IntKind.u64.wrap (IntKind.u64.wrap X - IntKind.u64.wrap (s[k].toNat : Int)) * 2 ^ (8 * k))) :=
    keep fun h8 => diff_low (by rw [hnum, if_pos h8, nums_at s k hk]) hX (by have := s[k].toNat_lt; omega)
  have hE9 : Hid (¬ k < 8 → IntKind.u64.wrap (numV (ofV (strOfNums ((nums s).set k X))) - numV (ofV s)) = 0) :=
    keep fun h8 => by rw [hnum, if_neg h8, Int.sub_self]; rfl
  clear hnum hX
  have hFw : Fr w (W0.setCell ⟨w.heap.size, k, none⟩ (.int .u8 X)) := hF1
  generalize strOfNums ((nums s).set k X) = s2 at *
  generalize hV : numV (ofV s) = V at *
  generalize hM : numV (ofV s2) = M at *
  clear hV hM
  generalize ofV s = v at *
  generalize ofV s2 = x at *
  rcases ht with ⟨ht, hpos⟩ | ht
  all_goals
    by_cases h8 : k < 8
    all_goals
      go_enter Try.func8, Try.ntmps8
      go_wp2_with fail
      refine (cO _).mono ?_
      rintro e w1 ⟨rfl, hf1⟩
      have hFa := fr_new hf1 (.cells (vc v).toArray 41)
      go_wp2_with (refine wpList_store_new valS rfl (.tmp 9) (.tmp 40) rfl w1.heap.size (vc v) rfl rfl Hv.out (vc_one _) rfl rfl ?_)
      refine (cP _).mono ?_
      rintro e w2 ⟨rfl, hf2⟩
      have hA2 := (Arr.new w1 (vc v).toArray 41).below hf2 (by simp)
      have hF2 := fr_step hFw (fr_step hFa hf2)
      clear hf1 hf2 hFa
      have tok : Hid (0 < 1) := keep Nat.one_pos
      go_wp2_with (first
        | (clear tok
           refine wpList_store_new valS rfl (.tmp 11) (.tmp 46) rfl w2.heap.size (vc x) rfl rfl Hx.out (vc_one _) rfl rfl ?_
           generalize hX : World.alloc w2 _ = Z
           have hA : Arr Z w1.heap.size 41 (vc v).toArray := by rw [← hX]; exact hA2.alloc _
           have hB : Arr Z w2.heap.size 41 (vc x).toArray := by rw [← hX]; exact Arr.new w2 _ _
           have hF : Fr w Z := by rw [← hX]; exact fr_new hF2 _
           clear hX hA2 hF2
           have l1 := ld_fr hA Hv.out
           have l2 := ld_fr hB Hx.out)
        | fail)
      have hfz := fr_drew (fr_refl Z)
      go_region_held3 (fun w' => Fr Z w')
        (first | exact hfz | assumption)
        (first
          | (go_at_call 21; (with_reducible refine (cM Z _ (by assumption)).mono ?_); rintro e w9 ⟨rfl, hz⟩)
          | (go_at_call 21; (with_reducible refine (cN Z _ (by assumption)).mono ?_); rintro e w9 ⟨rfl, hz⟩))
      rename_i hH
      clear l1 l2 hfz
      go_wp2_with (go_at_call 12; refine (awake4_at (W0 := Z) hH).mono ?_; rintro e w4 ⟨rfl, hf4⟩)
      all_goals first
        | (exfalso; rename_i hne; exact hne (hE8.out h8))
        | (exfalso; rename_i hne; exact hne (hE9.out h8))
        | (go_ret; exact ⟨rfl, fr_step hF (by assumption)⟩)
set_option maxRecDepth 100000 in
set_option maxHeartbeats 1000000 in
theorem valueBytes_core (s : ByteArray) (t X : Int) (ws : s.size ≤ maxLen) (hX : 0 ≤ X ∧ X ≤ 255) (w : World) : Calls Try.prog 8 #[.string s, .int .i64 t, .int .u8 X] w fun e w' => e = .returned (.bool true) ∧ Below w.heap.size w w' := by
  unfold maxLen at ws
  by_cases h16 : s.size ≤ 16
  · by_cases h0 : s.size = 0
    · have d1 : decide ((16 : Int) < (s.size : Int)) = false := by simp; omega
      have d2 : ((s.size : Int) == 0) = true := by rw [beq_iff_eq]; omega
      clear h0
      go_enter Try.func8, Try.ntmps8
      go_wp2_with fail
      refine (awake4_at (W0 := w) (fr_refl w)).mono ?_
      rintro e w1 ⟨rfl, hf1⟩
      go_wp2_with fail
      go_ret
      exact ⟨rfl, hf1⟩
    · rcases tmod_cases t s.size h0 with ⟨k, h1, h2, h3⟩ | ⟨k, h1, h2⟩
      · exact valueBytes_go s t X k h16 h3 (.inl ⟨h1, h2⟩) hX w
      · exact valueBytes_go s t X k h16 h2 (.inr h1) hX w
  · have d1 : decide ((16 : Int) < (s.size : Int)) = true := by simp; omega
    go_enter Try.func8, Try.ntmps8
    go_wp2_with fail
    refine (awake4_at (W0 := w) (fr_refl w)).mono ?_
    rintro e w1 ⟨rfl, hf1⟩
    go_wp2_with fail
    go_ret
    exact ⟨rfl, hf1⟩
end Go.Proofs.Ytignnjflodkihaa
