/- KeyAll, walked. -/
import Derived.Test.YtfjglbkolhadaaaKeyP
namespace Go.Proofs.Ytfjglbkolhadaaa
open Go.RowKit Go.Maps
set_option linter.unusedVariables false
section
variable {w0 W : World} {A : Option Addr} {ks : List RK}
theorem kinds_at (hr : Has w0 w0.heap.size A (flat ks)) (hb : Fr w0 W) (n c : Nat) (hl : ks.length = n) (hn : n ≤ 1000000) (hw : WfAll ks) :
    Calls Try.prog 17 #[.slice A n c] W fun e w' => e = .returned (.int .i64 ((kinds ks).length : Int)) ∧ Fr W w' := key_kinds A n c ks W hl hn hw ((hr.below hb).mono hb.size)
theorem rkinds_at (hr : Has w0 w0.heap.size A (flat ks)) (hb : Fr w0 W) (n c : Nat) (hl : ks.length = n) (hn : n ≤ 1000000) (hw : WfAll ks) :
    Calls Try.prog 18 #[.slice A n c] W fun e w' => e = .returned (.int .i64 ((kinds ks).length : Int)) ∧ Fr W w' := ref_kinds A n c ks W hl hn hw ((hr.below hb).mono hb.size)
theorem order_at (hr : Has w0 w0.heap.size A (flat ks)) (hb : Fr w0 W) (n c : Nat) (hl : ks.length = n) (hn : n ≤ 1000000) (hw : WfAll ks) :
    Calls Try.prog 20 #[.slice A n c] W (OrdOut W ks) := key_order A n c ks W hl hn hw ((hr.below hb).mono hb.size)
theorem rorder_at (hr : Has w0 w0.heap.size A (flat ks)) (hb : Fr w0 W) (n c : Nat) (hl : ks.length = n) (hn : n ≤ 1000000) (hw : WfAll ks) :
    Calls Try.prog 21 #[.slice A n c] W (OrdOut W ks) := ref_order A n c ks W hl hn hw ((hr.below hb).mono hb.size)
theorem ord_wf {os : List RK} (hw : WfAll ks) (h : IsOrd ks os) : WfAll os := fun k hk => hw k ((h.2 k).1 hk).1
/-- Two rows in order of the same keys are the same. -/
theorem same_ord {B C : Option Addr} {os ps ls : List RK} (hw : WfAll ks) (hw2 : WfAll ls) (h1 : IsOrd ks os) (h2 : IsOrd ls ps) (he : ∀ k, k ∈ ks ↔ k ∈ ls) (hl : ks.length ≤ 1000000) (hl2 : ls.length ≤ 1000000) (c d : Nat) (hr : Has W W.heap.size B (flat os)) (hr2 : Has W W.heap.size C (flat ps)) :
    Calls Try.prog 19 #[.slice B os.length c, .slice C ps.length d] W fun e w' => e = .returned (.bool true) ∧ Fr W w' := by
  have h := law_same B C os.length ps.length c d os ps W rfl rfl (by have := ord_len h1; omega) (by have := ord_len h2; omega) (ord_wf hw h1) (ord_wf hw2 h2) hr hr2
  rwa [show decide (os = ps) = true from by simpa using isOrd_one h1 h2 he] at h
end
def txtB (k : RK) : ByteArray := if okB k = true then txt k else ⟨#[]⟩
theorem key_text (k : RK) (wk : k.wf) (W : World) : Calls Try.prog 15 #[kv k] W fun e w' => e = .returned (.string (txtB k)) ∧ Fr W w' := by
  unfold txtB
  by_cases h : okB k = true
  · rw [if_pos h]; exact key_text_yes k wk h W
  · rw [if_neg h]; exact key_text_no k wk (by simpa using h) W
theorem ref_text (k : RK) (wk : k.wf) (W : World) : Calls Try.prog 16 #[kv k] W fun e w' => e = .returned (.string (txtB k)) ∧ Fr W w' := by
  unfold txtB
  by_cases h : okB k = true
  · rw [if_pos h]; exact ref_text_yes k wk h W
  · rw [if_neg h]; exact ref_text_no k wk (by simpa using h) W
set_option maxRecDepth 100000 in
set_option maxHeartbeats 8000000 in
theorem keyAll_core {w : World} (s : ByteArray) (k : RK) (A : Option Addr) (n c : Nat) (l : List RK) (ws : s.size ≤ maxLen) (wk : k.wf) (hl : l.length = n) (hw : WfAll l) (hr : Has w w.heap.size A (flat l)) (hnm : n ≤ maxLen) : Calls Try.prog 3 #[.string s, kv k, .slice A n c] w fun e w' => e = .returned (.bool true) ∧ Below w.heap.size w w' := by
  unfold maxLen at ws hnm
  by_cases hs : s.size ≤ 100
  · have d1 : decide ((100 : Int) < (s.size : Int)) = false := by simp; omega
    by_cases hn : n ≤ 40
    · have d2 : decide ((40 : Int) < (n : Int)) = false := by simp; omega
      obtain ⟨x, ec, wx, cO, cR⟩ : ∃ (x : RK) (ec : Int), x.wf ∧ (∀ W, Calls Try.prog 11 #[.string s] W fun e w' => e = .returned (.tuple #[kv x, .int .i64 ec]) ∧ Fr W w') ∧ (∀ W, Calls Try.prog 12 #[.string s] W fun e w' => e = .returned (.tuple #[kv x, .int .i64 ec]) ∧ Fr W w') := by
        by_cases h8 : s.size ≤ 8
        · exact ⟨ofS s, 0, ofS_wf s h8, fun W => key_of_fits s h8 W, fun W => ref_of_fits s h8 W⟩
        · exact ⟨zeroK, 2, zeroK_wf, fun W => key_of_big s (by omega) (by omega) W, fun W => ref_of_big s (by omega) (by omega) W⟩
      have heq : ∀ W, (binOp .eql 24 (kv x) (kv x)).run Try.prog W = .ok (.bool true) W := fun W => by simpa using key_eql wx wx W
      have cK := fun (W : World) => key_check k wk W
      have cC := fun (W : World) => ref_check k wk W
      have cT := fun (W : World) => key_text k wk W
      have cU := fun (W : World) => ref_text k wk W
      generalize okB k = v at cK cC
      generalize txtB k = T at cT cU
      have Hl := keep hl
      have hll : l.length ≤ 1000000 := by omega
      clear hl
      go_enter Try.func3, Try.ntmps3
      go_wp2_with fail
      refine (cO _).mono ?_
      rintro e w1 ⟨rfl, hf1⟩
      have hA1 := (Arr.new w (kc k).toArray 24).below hf1 (by simp)
      have hF1 := fr_step (fr_new (fr_refl w) _) hf1
      go_wp2_with fail
      refine (cR _).mono ?_
      rintro e w2 ⟨rfl, hf2⟩
      have hA2 := (hA1.alloc (.cells (kc x).toArray 24)).below hf2 (hA1.alloc _).lt
      have hB2 := (Arr.new w1 (kc x).toArray 24).below hf2 (by simp)
      have hF2 := fr_step (fr_new hF1 _) hf2
      clear hf1 hf2 hA1 hF1 cO cR
      go_wp2_with fail
      generalize hX : World.alloc w2 _ = Z
      have hA5 : Arr Z w.heap.size 24 (kc k).toArray := by rw [← hX]; exact hA2.alloc _
      have hB5 : Arr Z w1.heap.size 24 (kc x).toArray := by rw [← hX]; exact hB2.alloc _
      have hC5 : Arr Z w2.heap.size 24 (kc x).toArray := by rw [← hX]; exact Arr.new w2 _ _
      have hF5 : Fr w Z := by rw [← hX]; exact fr_new hF2 _
      have hrZ : Has Z Z.heap.size A (flat l) := (hr.below hF5).mono hF5.size
      clear hX hA2 hB2 hF2
      have cz : ∀ W, Fr Z W → W.cell? ⟨w.heap.size, 0, none⟩ = some (.int .i64 k.n) ∧ W.cell? ⟨w.heap.size, 1, none⟩ = some (.int .u8 k.b0) ∧ W.cell? ⟨w.heap.size, 2, none⟩ = some (.int .u8 k.b1) ∧ W.cell? ⟨w.heap.size, 3, none⟩ = some (.int .u8 k.b2) ∧ W.cell? ⟨w.heap.size, 4, none⟩ = some (.int .u8 k.b3) ∧ W.cell? ⟨w.heap.size, 5, none⟩ = some (.int .u8 k.b4) ∧ W.cell? ⟨w.heap.size, 6, none⟩ = some (.int .u8 k.b5) ∧ W.cell? ⟨w.heap.size, 7, none⟩ = some (.int .u8 k.b6) ∧ W.cell? ⟨w.heap.size, 8, none⟩ = some (.int .u8 k.b7) ∧ W.cell? ⟨w1.heap.size, 0, none⟩ = some (.int .i64 x.n) ∧ W.cell? ⟨w1.heap.size, 1, none⟩ = some (.int .u8 x.b0) ∧ W.cell? ⟨w1.heap.size, 2, none⟩ = some (.int .u8 x.b1) ∧ W.cell? ⟨w1.heap.size, 3, none⟩ = some (.int .u8 x.b2) ∧ W.cell? ⟨w1.heap.size, 4, none⟩ = some (.int .u8 x.b3) ∧ W.cell? ⟨w1.heap.size, 5, none⟩ = some (.int .u8 x.b4) ∧ W.cell? ⟨w1.heap.size, 6, none⟩ = some (.int .u8 x.b5) ∧ W.cell? ⟨w1.heap.size, 7, none⟩ = some (.int .u8 x.b6) ∧ W.cell? ⟨w1.heap.size, 8, none⟩ = some (.int .u8 x.b7) ∧ W.cell? ⟨w2.heap.size, 0, none⟩ = some (.int .i64 x.n) ∧ W.cell? ⟨w2.heap.size, 1, none⟩ = some (.int .u8 x.b0) ∧ W.cell? ⟨w2.heap.size, 2, none⟩ = some (.int .u8 x.b1) ∧ W.cell? ⟨w2.heap.size, 3, none⟩ = some (.int .u8 x.b2) ∧ W.cell? ⟨w2.heap.size, 4, none⟩ = some (.int .u8 x.b3) ∧ W.cell? ⟨w2.heap.size, 5, none⟩ = some (.int .u8 x.b4) ∧ W.cell? ⟨w2.heap.size, 6, none⟩ = some (.int .u8 x.b5) ∧ W.cell? ⟨w2.heap.size, 7, none⟩ = some (.int .u8 x.b6) ∧ W.cell? ⟨w2.heap.size, 8, none⟩ = some (.int .u8 x.b7) ∧ Fr Z W := fun W h => by
        obtain ⟨p0_0, p0_1, p0_2, p0_3, p0_4, p0_5, p0_6, p0_7, p0_8⟩ := (hA5.below h hA5.lt).cells9
        obtain ⟨p1_0, p1_1, p1_2, p1_3, p1_4, p1_5, p1_6, p1_7, p1_8⟩ := (hB5.below h hB5.lt).cells9
        obtain ⟨p2_0, p2_1, p2_2, p2_3, p2_4, p2_5, p2_6, p2_7, p2_8⟩ := (hC5.below h hC5.lt).cells9
        exact ⟨p0_0, p0_1, p0_2, p0_3, p0_4, p0_5, p0_6, p0_7, p0_8, p1_0, p1_1, p1_2, p1_3, p1_4, p1_5, p1_6, p1_7, p1_8, p2_0, p2_1, p2_2, p2_3, p2_4, p2_5, p2_6, p2_7, p2_8, h⟩
      have hn6 : n ≤ 1000000 := by omega
      have hfz := fr_drew (fr_refl Z)
      clear wk wx hn hs ws
      go_region_held3 (fun w' => w'.cell? ⟨w.heap.size, 0, none⟩ = some (.int .i64 k.n) ∧ w'.cell? ⟨w.heap.size, 1, none⟩ = some (.int .u8 k.b0) ∧ w'.cell? ⟨w.heap.size, 2, none⟩ = some (.int .u8 k.b1) ∧ w'.cell? ⟨w.heap.size, 3, none⟩ = some (.int .u8 k.b2) ∧ w'.cell? ⟨w.heap.size, 4, none⟩ = some (.int .u8 k.b3) ∧ w'.cell? ⟨w.heap.size, 5, none⟩ = some (.int .u8 k.b4) ∧ w'.cell? ⟨w.heap.size, 6, none⟩ = some (.int .u8 k.b5) ∧ w'.cell? ⟨w.heap.size, 7, none⟩ = some (.int .u8 k.b6) ∧ w'.cell? ⟨w.heap.size, 8, none⟩ = some (.int .u8 k.b7) ∧ w'.cell? ⟨w1.heap.size, 0, none⟩ = some (.int .i64 x.n) ∧ w'.cell? ⟨w1.heap.size, 1, none⟩ = some (.int .u8 x.b0) ∧ w'.cell? ⟨w1.heap.size, 2, none⟩ = some (.int .u8 x.b1) ∧ w'.cell? ⟨w1.heap.size, 3, none⟩ = some (.int .u8 x.b2) ∧ w'.cell? ⟨w1.heap.size, 4, none⟩ = some (.int .u8 x.b3) ∧ w'.cell? ⟨w1.heap.size, 5, none⟩ = some (.int .u8 x.b4) ∧ w'.cell? ⟨w1.heap.size, 6, none⟩ = some (.int .u8 x.b5) ∧ w'.cell? ⟨w1.heap.size, 7, none⟩ = some (.int .u8 x.b6) ∧ w'.cell? ⟨w1.heap.size, 8, none⟩ = some (.int .u8 x.b7) ∧ w'.cell? ⟨w2.heap.size, 0, none⟩ = some (.int .i64 x.n) ∧ w'.cell? ⟨w2.heap.size, 1, none⟩ = some (.int .u8 x.b0) ∧ w'.cell? ⟨w2.heap.size, 2, none⟩ = some (.int .u8 x.b1) ∧ w'.cell? ⟨w2.heap.size, 3, none⟩ = some (.int .u8 x.b2) ∧ w'.cell? ⟨w2.heap.size, 4, none⟩ = some (.int .u8 x.b3) ∧ w'.cell? ⟨w2.heap.size, 5, none⟩ = some (.int .u8 x.b4) ∧ w'.cell? ⟨w2.heap.size, 6, none⟩ = some (.int .u8 x.b5) ∧ w'.cell? ⟨w2.heap.size, 7, none⟩ = some (.int .u8 x.b6) ∧ w'.cell? ⟨w2.heap.size, 8, none⟩ = some (.int .u8 x.b7) ∧ Fr Z w')
        (first
          | exact cz _ hfz
          | (go_split_ands; exact cz _ (fr_step (by assumption) hz)))
        (first
          | (go_at_call 13; refine (cK _).mono ?_; rintro e w9 ⟨rfl, hz⟩)
          | (go_at_call 14; refine (cC _).mono ?_; rintro e w9 ⟨rfl, hz⟩)
          | (go_at_call 15; refine (cT _).mono ?_; rintro e w9 ⟨rfl, hz⟩)
          | (go_at_call 16; refine (cU _).mono ?_; rintro e w9 ⟨rfl, hz⟩)
          | (go_at_call 17; refine (kinds_at hrZ ?_ n c Hl.out hn6 hw).mono ?_; (go_split_ands; first | assumption | exact hfz); rintro e w9 ⟨rfl, hz⟩)
          | (go_at_call 18; refine (rkinds_at hrZ ?_ n c Hl.out hn6 hw).mono ?_; (go_split_ands; first | assumption | exact hfz); rintro e w9 ⟨rfl, hz⟩)
          | (go_at_call 20; refine (order_at hrZ ?_ n c Hl.out hn6 hw).mono ?_; (go_split_ands; first | assumption | exact hfz); rintro e w9 ⟨A1, c1, os1, rfl, ho1, hh1, hz⟩)
          | (go_at_call 21; refine (rorder_at hrZ ?_ n c Hl.out hn6 hw).mono ?_; (go_split_ands; first | assumption | exact hfz); rintro e w9 ⟨A2, c2, os2, rfl, ho2, hh2, hz⟩; have hh3 := (hh1.below hz).mono hz.size)
          | (go_at_call 19; refine (same_ord hw hw ho1 ho2 (fun _ => Iff.rfl) hll hll c1 c2 hh3 hh2).mono ?_; rintro e w9 ⟨rfl, hz⟩)
          | (go_at_call 10; refine (awake _).mono ?_; rintro e w9 ⟨rfl, hz⟩))
      rename_i hH
      have hz9 := hH.2.2.2.2.2.2.2.2.2.2.2.2.2.2.2.2.2.2.2.2.2.2.2.2.2.2.2
      clear hH
      go_wp2
      go_ret
      exact ⟨rfl, fr_step hF5 hz9⟩
    · have d2 : decide ((40 : Int) < (n : Int)) = true := by simp; omega
      go_enter Try.func3, Try.ntmps3
      go_wp2_with fail
      refine (awake_at (w0 := w) (fr_new (fr_refl w) _)).mono ?_
      rintro e w1 ⟨rfl, hf1⟩
      go_wp2_with fail
      go_ret
      exact ⟨rfl, hf1⟩
  · have d1 : decide ((100 : Int) < (s.size : Int)) = true := by simp; omega
    go_enter Try.func3, Try.ntmps3
    go_wp2_with fail
    refine (awake_at (w0 := w) (fr_new (fr_refl w) _)).mono ?_
    rintro e w1 ⟨rfl, hf1⟩
    go_wp2_with fail
    go_ret
    exact ⟨rfl, hf1⟩
end Go.Proofs.Ytfjglbkolhadaaa
