/- What the functions of layer 5 come to, six: 'Apply' of the program. -/
import Derived.Test.YtmjjjdikpnhpiaaMsgF
import Derived.Test.YtmjjjdikpnhpiaaLfA
import Derived.Test.YtmjjjdikpnhpiaaBufQ
import Derived.Laws.OwnMore
import Derived.Laws.MakeOwn
namespace Go.Proofs.Ytmjjjdikpnhpiaa
set_option linter.unusedVariables false
set_option linter.unusedSimpArgs false
set_option maxRecDepth 100000
open Go.RowKit
section
attribute [local go_sem ↓] zae zt zw
section
variable {W0 W : World} {v : RV} {m : RM}
end
section
variable {W0 W : World} {v : RV} {m : RM}
end
end
section
attribute [local go_sem ↓] zt zbh
end
section
attribute [local go_sem ↓] zt zbh
end
section
attribute [local go_sem ↓] zt zbh zae zw zl2
theorem ent_box1 (w : World) (e : RE) : ∃ Z, w.alloc (.cells (ec e).toArray 74) = Z ∧ Fr w Z ∧ Fr Z Z ∧ Arr Z w.heap.size 74 (ec e).toArray ∧ Z.heap.size = w.heap.size + 1 := ⟨_, rfl, zf (ze w) _, ze _, Arr.new w _ _, by simp⟩
set_option maxHeartbeats 1000000 in
theorem esize (e : RE) (hs : 0 ≤ e.key.n ∧ e.key.n ≤ 8 ∧ 0 ≤ e.val.n ∧ e.val.n ≤ 16) (w : World) : Calls Try.prog 83 #[ev e] w fun r w' => r = .returned (.int .i64 (zcs e)) ∧ Fr w w' := by
 obtain ⟨Z, hZ, hF, hZZ, hE, hS⟩ := ent_box1 w e;have c0 := zbt hE 0 (ec_0 e);have c9 := zbt hE 9 (ec_9 e);obtain ⟨h1, h2, h3, h4⟩ := hs;unfold zcs;generalize e.key.n = a at *;generalize e.val.n = b at *;go_enter Try.func83, Try.ntmps83;go_wp2_with fail;go_ret;exact ⟨rfl, hF⟩
theorem ziB {W0 W : World} {e : RE} (hs : 0 ≤ e.key.n ∧ e.key.n ≤ 8 ∧ 0 ≤ e.val.n ∧ e.val.n ≤ 16) (hb : Fr W0 W) : Calls Try.prog 83 #[ev e] W fun r w' => r = .returned (.int .i64 (zcs e)) ∧ Fr W0 w' := (esize e hs W).mono fun _ _ ⟨he, hw⟩ => ⟨he, za hb hw⟩
end
section
attribute [local go_sem ↓] zt zbh zae zw
theorem zkV : (ec zea).toArray = #[.int .i64 0, .int .u8 0, .int .u8 0, .int .u8 0, .int .u8 0, .int .u8 0, .int .u8 0, .int .u8 0, .int .u8 0, .int .i64 0, .int .u8 0, .int .u8 0, .int .u8 0, .int .u8 0, .int .u8 0, .int .u8 0, .int .u8 0, .int .u8 0, .int .u8 0, .int .u8 0, .int .u8 0, .int .u8 0, .int .u8 0, .int .u8 0, .int .u8 0, .int .u8 0] := rfl
theorem ziv (o : Nat) : ∀ (cs : List Value) (k : Nat) (z : Array Value), List.foldl (fun (cs : Array Value) (x : Value × Nat) => cs.setIfInBounds (o + x.snd) x.fst) z (cs.zipIdx k) = List.foldl (fun (cs : Array Value) (x : Value × Nat) => cs.setIfInBounds x.snd x.fst) z (cs.zipIdx (o + k))
 | [], k, z => rfl
 | v :: cs, k, z => by
  rw [List.zipIdx_cons, List.zipIdx_cons, List.foldl_cons, List.foldl_cons, ziv o cs (k + 1)];rfl
theorem ziK (k : RK) {v : RV} (hl : v.bs.length = 16) : List.foldl (fun (cs : Array Value) (x : Value × Nat) => cs.setIfInBounds (9 + x.snd) x.fst) #[.int .i64 k.n, .int .u8 k.b0, .int .u8 k.b1, .int .u8 k.b2, .int .u8 k.b3, .int .u8 k.b4, .int .u8 k.b5, .int .u8 k.b6, .int .u8 k.b7, .int .i64 0, .int .u8 0, .int .u8 0, .int .u8 0, .int .u8 0, .int .u8 0, .int .u8 0, .int .u8 0, .int .u8 0, .int .u8 0, .int .u8 0, .int .u8 0, .int .u8 0, .int .u8 0, .int .u8 0, .int .u8 0, .int .u8 0] (vc v).zipIdx = (ec ⟨k, v⟩).toArray := by
 rw [ziv 9 (vc v) 0, zep (vc v) (9 + 0) _ (by rw [zD hl]; rfl)];rfl
theorem zge {e : RE} (hl : e.val.bs.length = 16) : List.foldl (fun (cs : Array Value) (x : Value × Nat) => cs.setIfInBounds x.snd x.fst) #[.int .i64 0, .int .u8 0, .int .u8 0, .int .u8 0, .int .u8 0, .int .u8 0, .int .u8 0, .int .u8 0, .int .u8 0, .int .i64 0, .int .u8 0, .int .u8 0, .int .u8 0, .int .u8 0, .int .u8 0, .int .u8 0, .int .u8 0, .int .u8 0, .int .u8 0, .int .u8 0, .int .u8 0, .int .u8 0, .int .u8 0, .int .u8 0, .int .u8 0, .int .u8 0] (ec e).zipIdx = (ec e).toArray := by
 have := zep (ec e) 0 (ec zea).toArray (by rw [zbT hl]; rfl);rw [zkV] at this
 simpa using this
end
end Go.Proofs.Ytmjjjdikpnhpiaa
