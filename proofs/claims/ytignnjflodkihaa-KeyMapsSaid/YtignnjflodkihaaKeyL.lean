/- The examples of layer 3. -/
import Derived.Test.YtignnjflodkihaaKeyK
namespace Go.Proofs.Ytignnjflodkihaa
open Go.RowKit Go.Maps
set_option linter.unusedVariables false
def ka : RK := ⟨1, 97, 0, 0, 0, 0, 0, 0, 0⟩
def kb : RK := ⟨1, 98, 0, 0, 0, 0, 0, 0, 0⟩
def kn : RK := ⟨2, 97, 0, 0, 0, 0, 0, 0, 0⟩
def k9 : RK := ⟨9, 0, 0, 0, 0, 0, 0, 0, 0⟩
theorem ofS_a : ofS ⟨#[97]⟩ = ka := by decide
theorem ofS_b : ofS ⟨#[98]⟩ = kb := by decide
theorem wf_a : ka.wf := by rw [← ofS_a]; exact ofS_wf _ (by decide)
theorem wf_b : kb.wf := by rw [← ofS_b]; exact ofS_wf _ (by decide)
theorem ok_a : okB ka = true := by decide
theorem ok_b : okB kb = true := by decide
theorem ok_n : okB kn = true := by decide
theorem wf_n : kn.wf := by constructor <;> simp [kn, Byt]
theorem wf_9 : k9.wf := by constructor <;> simp [k9, Byt]
theorem ok_9 : okB k9 = false := by decide
theorem next_a : nextV (nextK ka) = .tuple #[kv kn, .bool true] := rfl
theorem Arr.cells9 {w : World} {g T : Nat} {k : RK} (h : Arr w g T (kc k).toArray) : w.cell? ⟨g, 0, none⟩ = some (.int .i64 k.n) ∧ w.cell? ⟨g, 1, none⟩ = some (.int .u8 k.b0) ∧ w.cell? ⟨g, 2, none⟩ = some (.int .u8 k.b1) ∧ w.cell? ⟨g, 3, none⟩ = some (.int .u8 k.b2) ∧ w.cell? ⟨g, 4, none⟩ = some (.int .u8 k.b3) ∧ w.cell? ⟨g, 5, none⟩ = some (.int .u8 k.b4) ∧ w.cell? ⟨g, 6, none⟩ = some (.int .u8 k.b5) ∧ w.cell? ⟨g, 7, none⟩ = some (.int .u8 k.b6) ∧ w.cell? ⟨g, 8, none⟩ = some (.int .u8 k.b7) :=
  ⟨h.cell 0, h.cell 1, h.cell 2, h.cell 3, h.cell 4, h.cell 5, h.cell 6, h.cell 7, h.cell 8⟩
theorem has_flat_new (w : World) (ks : List RK) (t : TypeId) : Has (w.alloc (.cells (flat ks).toArray t)) (w.alloc (.cells (flat ks).toArray t)).heap.size (some ⟨w.heap.size, 0, none⟩) (flat ks) := by
  intro j u hu
  exact ⟨_, _, rfl, by simp, by rw [Nat.zero_add]; exact ((Arr.new w (flat ks).toArray t).cell j).trans (by simpa using hu)⟩
theorem ord_ab : IsOrd [kb, ka, kb] [ka, kb] := by
  refine ⟨by simp [code, val8, ka, kb], fun k => ?_⟩
  constructor
  · intro h
    simp at h
    rcases h with rfl | rfl
    · exact ⟨by simp, ok_a⟩
    · exact ⟨by simp, ok_b⟩
  · rintro ⟨h, _⟩
    simp at h ⊢
    rcases h with h | h | h
    · exact .inr h
    · exact .inl h
    · exact .inr h
theorem wf_all3 : WfAll [ka, kb, ka] := by intro k hk; simp at hk; rcases hk with rfl | rfl | rfl <;> first | exact wf_a | exact wf_b
theorem wf_all4 : WfAll [kb, ka, kb] := by intro k hk; simp at hk; rcases hk with rfl | rfl | rfl <;> first | exact wf_a | exact wf_b
set_option maxRecDepth 100000 in
set_option maxHeartbeats 4000000 in
theorem awake (w : World) : Calls Try.prog 9 #[] w fun e w' => e = .returned (.bool true) ∧ Fr w w' := by
  have cA : ∀ W, Calls Try.prog 10 #[.string ⟨#[97]⟩] W fun e w' => e = .returned (.tuple #[kv ka, .int .i64 0]) ∧ Fr W w' := fun W => by have h := key_of_fits ⟨#[97]⟩ (by decide) W; rwa [ofS_a] at h
  have cB : ∀ W, Calls Try.prog 10 #[.string ⟨#[98]⟩] W fun e w' => e = .returned (.tuple #[kv kb, .int .i64 0]) ∧ Fr W w' := fun W => by have h := key_of_fits ⟨#[98]⟩ (by decide) W; rwa [ofS_b] at h
  have cC : ∀ W, Calls Try.prog 10 #[.string ⟨#[110, 105, 110, 101, 98, 121, 116, 101, 115]⟩] W fun e w' => e = .returned (.tuple #[kv zeroK, .int .i64 2]) ∧ Fr W w' := fun W => key_of_big _ (by decide) (by decide) W
  have cN : ∀ W, Calls Try.prog 25 #[kv ka] W fun e w' => e = .returned (.tuple #[kv kn, .bool true]) ∧ Fr W w' := fun W => by have h := key_next ka wf_a ok_a W; rwa [next_a] at h
  have cT : ∀ W, Calls Try.prog 26 #[kv kn] W fun e w' => e = .returned (.string ⟨#[97, 0]⟩) ∧ Fr W w' := fun W => key_text_yes kn wf_n ok_n W
  have cM : ∀ W, Calls Try.prog 27 #[kv ka, kv kb] W fun e w' => e = .returned (.int .i64 (-1)) ∧ Fr W w' := fun W => (key_compare ka kb wf_a wf_b (okB_len ok_a) (okB_len ok_b) W).mono fun _ _ ⟨h1, h2⟩ => ⟨h1.trans rfl, h2.fr⟩
  have cK : ∀ W, Calls Try.prog 28 #[kv ka] W fun e w' => e = .returned (.bool true) ∧ Fr W w' := fun W => by have h := key_check ka wf_a W; rwa [ok_a] at h
  have c9 : ∀ W, Calls Try.prog 28 #[kv k9] W fun e w' => e = .returned (.bool false) ∧ Fr W w' := fun W => by have h := key_check k9 wf_9 W; rwa [ok_9] at h
  have cI : ∀ W, Calls Try.prog 11 #[.slice (some ⟨W.heap.size, 0, none⟩) 3 3] (W.alloc (.cells (flat [ka, kb, ka]).toArray 30)) fun e w' => e = .returned (.int .i64 2) ∧ Fr W w' := fun W =>
    (key_kinds _ 3 3 [ka, kb, ka] _ rfl (by omega) wf_all3 (has_flat_new W _ _)).mono fun _ _ ⟨h1, h2⟩ => ⟨h1.trans rfl, fr_step (fr_new (fr_refl W) _) h2⟩
  have cO : ∀ W, Calls Try.prog 29 #[.slice (some ⟨W.heap.size, 0, none⟩) 3 3] (W.alloc (.cells (flat [kb, ka, kb]).toArray 30)) fun e w' => (∃ A c, e = .returned (.slice A 2 c)) ∧ Fr W w' := fun W =>
    (key_order _ 3 3 [kb, ka, kb] _ rfl (by omega) wf_all4 (has_flat_new W _ _)).mono fun _ _ ⟨A, c, os, h1, h2, h3, h4⟩ => ⟨⟨A, c, by rw [h1, isOrd_one h2 ord_ab (fun _ => Iff.rfl)]; rfl⟩, fr_step (fr_new (fr_refl W) _) h4⟩
  go_enter Try.func9, Try.ntmps9
  go_wp2_with fail
  refine (cA _).mono ?_
  rintro e w1 ⟨rfl, hf1⟩
  go_wp2_with fail
  refine (cB _).mono ?_
  rintro e w2 ⟨rfl, hf2⟩
  have ha2 := (Arr.new w1 (kc ka).toArray 30).below hf2 (by simp)
  have hF2 := fr_step (fr_new hf1 _) hf2
  go_wp2_with fail
  refine (cC _).mono ?_
  rintro e w3 ⟨rfl, hf3⟩
  have ha3 := (ha2.alloc (.cells (kc kb).toArray 30)).below hf3 (ha2.alloc _).lt
  have hb3 := (Arr.new w2 (kc kb).toArray 30).below hf3 (by simp)
  have hF3 := fr_step (fr_new hF2 _) hf3
  clear hf1 hf2 hf3 ha2 hF2
  go_wp2_with (first
    | (refine wpList_load_row rfl 30 (.tmp 1) rfl w1.heap.size rfl 30 (kc ka).toArray (0, 0) _ (ha3.alloc _) Try.underlying30 rfl key_info ?_)
    | fail)
  refine (cN _).mono ?_
  rintro e w4 ⟨rfl, hf4⟩
  have ha4 := (ha3.alloc (.cells (kc zeroK).toArray 30)).below hf4 (ha3.alloc _).lt
  have hb4 := (hb3.alloc (.cells (kc zeroK).toArray 30)).below hf4 (hb3.alloc _).lt
  have hF4 := fr_step (fr_new hF3 _) hf4
  clear hf4 ha3 hb3 hF3
  go_wp2_with fail
  refine (cT _).mono ?_
  rintro e w5 ⟨rfl, hf5⟩
  have ha5 := (ha4.alloc (.cells (kc kn).toArray 30)).below hf5 (ha4.alloc _).lt
  have hb5 := (hb4.alloc (.cells (kc kn).toArray 30)).below hf5 (hb4.alloc _).lt
  have hF5 := fr_step (fr_new hF4 _) hf5
  clear hf5 ha4 hb4 hF4
  obtain ⟨a0, a1, a2, a3, a4, a5, a6, a7, a8⟩ := ha5.cells9
  obtain ⟨b0, b1, b2, b3, b4, b5, b6, b7, b8⟩ := hb5.cells9
  go_wp2_with fail
  refine (cM _).mono ?_
  rintro e w6 ⟨rfl, hf6⟩
  have ha6 := ha5.below hf6 ha5.lt
  have hb6 := hb5.below hf6 hb5.lt
  have hF6 := fr_step hF5 hf6
  clear a0 a1 a2 a3 a4 a5 a6 a7 a8 b0 b1 b2 b3 b4 b5 b6 b7 b8 hf6 ha5 hb5 hF5
  obtain ⟨a0, a1, a2, a3, a4, a5, a6, a7, a8⟩ := ha6.cells9
  obtain ⟨b0, b1, b2, b3, b4, b5, b6, b7, b8⟩ := hb6.cells9
  go_wp2_with fail
  refine (cK _).mono ?_
  rintro e w7 ⟨rfl, hf7⟩
  have ha7 := ha6.below hf7 ha6.lt
  have hb7 := hb6.below hf7 hb6.lt
  have hF7 := fr_step hF6 hf7
  clear a0 a1 a2 a3 a4 a5 a6 a7 a8 b0 b1 b2 b3 b4 b5 b6 b7 b8 hf7 ha6 hb6 hF6
  obtain ⟨a0, a1, a2, a3, a4, a5, a6, a7, a8⟩ := ha7.cells9
  obtain ⟨b0, b1, b2, b3, b4, b5, b6, b7, b8⟩ := hb7.cells9
  go_wp2_with fail
  refine (c9 _).mono ?_
  rintro e w8 ⟨rfl, hf8⟩
  have ha8 := ha7.below hf8 ha7.lt
  have hb8 := hb7.below hf8 hb7.lt
  have hF8 := fr_step hF7 hf8
  clear a0 a1 a2 a3 a4 a5 a6 a7 a8 b0 b1 b2 b3 b4 b5 b6 b7 b8 hf8 ha7 hb7 hF7
  obtain ⟨a0, a1, a2, a3, a4, a5, a6, a7, a8⟩ := ha8.cells9
  obtain ⟨b0, b1, b2, b3, b4, b5, b6, b7, b8⟩ := hb8.cells9
  go_wp2_with fail
  refine (cI _).mono ?_
  rintro e w9 ⟨rfl, hf9⟩
  have ha9 := ha8.below hf9 ha8.lt
  have hb9 := hb8.below hf9 hb8.lt
  have hF9 := fr_step hF8 hf9
  clear a0 a1 a2 a3 a4 a5 a6 a7 a8 b0 b1 b2 b3 b4 b5 b6 b7 b8 hf9 ha8 hb8 hF8
  obtain ⟨a0, a1, a2, a3, a4, a5, a6, a7, a8⟩ := ha9.cells9
  obtain ⟨b0, b1, b2, b3, b4, b5, b6, b7, b8⟩ := hb9.cells9
  go_wp2_with fail
  refine (cO _).mono ?_
  rintro e w10 ⟨⟨A, c, rfl⟩, hf10⟩
  have hF10 := fr_step hF9 hf10
  clear a0 a1 a2 a3 a4 a5 a6 a7 a8 b0 b1 b2 b3 b4 b5 b6 b7 b8
  go_wp2_with fail
  go_ret
  exact ⟨rfl, hF10⟩
/-- The examples again, in the midst of a law. -/
theorem awake_at {w0 W : World} (hb : Fr w0 W) : Calls Try.prog 9 #[] W fun e w' => e = .returned (.bool true) ∧ Fr w0 w' :=
  (awake W).mono fun _ _ ⟨he, hw⟩ => ⟨he, fr_step hb hw⟩
end Go.Proofs.Ytignnjflodkihaa
