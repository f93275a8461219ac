/- What the functions of layer 5 come to, six: 'Apply' of the program. -/
import Derived.Test.YtnbbjieblgpjfaaMsgF
import Derived.Test.YtnbbjieblgpjfaaLfA
import Derived.Test.YtnbbjieblgpjfaaBufQ
import Derived.Laws.OwnMore
import Derived.Laws.MakeOwn
namespace Go.Proofs.Ytnbbjieblgpjfaa
set_option linter.unusedVariables false
set_option linter.unusedSimpArgs false
set_option maxRecDepth 100000
open Go.RowKit
section
attribute [local go_sem ↓] zae zt zw
section
variable {W0 W : World} {v : RV} {m : RM}
end
section
variable {W0 W : World} {v : RV} {m : RM}
end
end
section
attribute [local go_sem ↓] zt zbh
theorem zke (w : World) (k : RK) : ∃ Z, (w.alloc (.cells (kc k).toArray 69)) = Z ∧ Fr w Z ∧ Fr Z Z ∧ Arr Z w.heap.size 69 (kc k).toArray ∧ Z.heap.size = w.heap.size + 1 := by
 refine ⟨_, rfl, zf (ze w) _, ze _, Arr.new w _ _, by simp⟩
theorem zlN : (Try.prog.info? 3).map (·.size) = some 1 := by kernel_rfl
end
section
attribute [local go_sem ↓] zt zbh
theorem ziG (A : Option Addr) (n c l h : Nat) (h1 : l ≤ h) (h2 : h ≤ c) (W : World) : (Instr.slice 22 (.slice A n c) (some (.int .i64 (l : Int))) (some (.int .i64 (h : Int))) none).run Try.prog W = .ok (.slice (lowE A c l) (h - l) (c - l)) W := by
 rw [run_slice_lh (P := Try.prog) (w := W) (t := 22) (ht := zht) A n c .i64 .i64 (l : Int) (h : Int) (by omega) (by omega) (by omega), zhp];simp only [Result.andThen, sliced, Int.toNat_natCast, lowE]
theorem del_math {l : List RE} {i n : Nat} (hi : i < n) (hn : l.length = n) (wl : WfE l) : (zm ec l).take (i * 26) ++ zm ec (l.drop (i + 1)) = zm ec (l.take i ++ l.drop (i + 1)) := by
 rw [zas, zbq wl.wid]
end
section
attribute [local go_sem ↓] zt zbh zae zw zl2
theorem ent_box1 (w : World) (e : RE) : ∃ Z, w.alloc (.cells (ec e).toArray 74) = Z ∧ Fr w Z ∧ Fr Z Z ∧ Arr Z w.heap.size 74 (ec e).toArray ∧ Z.heap.size = w.heap.size + 1 := ⟨_, rfl, zf (ze w) _, ze _, Arr.new w _ _, by simp⟩
set_option maxHeartbeats 1000000 in
theorem esize (e : RE) (hs : 0 ≤ e.key.n ∧ e.key.n ≤ 8 ∧ 0 ≤ e.val.n ∧ e.val.n ≤ 16) (w : World) : Calls Try.prog 111 #[ev e] w fun r w' => r = .returned (.int .i64 (zcs e)) ∧ Fr w w' := by
 obtain ⟨Z, hZ, hF, hZZ, hE, hS⟩ := ent_box1 w e;have c0 := zbt hE 0 (ec_0 e);have c9 := zbt hE 9 (ec_9 e);obtain ⟨h1, h2, h3, h4⟩ := hs;unfold zcs;generalize e.key.n = a at *;generalize e.val.n = b at *;go_enter Try.func111, Try.ntmps111;go_wp2_with fail;go_ret;exact ⟨rfl, hF⟩
theorem ziB {W0 W : World} {e : RE} (hs : 0 ≤ e.key.n ∧ e.key.n ≤ 8 ∧ 0 ≤ e.val.n ∧ e.val.n ≤ 16) (hb : Fr W0 W) : Calls Try.prog 111 #[ev e] W fun r w' => r = .returned (.int .i64 (zcs e)) ∧ Fr W0 w' := (esize e hs W).mono fun _ _ ⟨he, hw⟩ => ⟨he, za hb hw⟩
theorem zlO {α : Type} {cf : α → List Value} {size n j o : Nat} {l : List α} {x a : α} {ds : List Value} (hw : Wid cf size l) (hn : l.length = n) (hj : l[j]? = some x) (ho : o + ds.length ≤ size) (ha : splice (cf x) o ds = cf a) (ys : List Value) :
 splice (zm cf l ++ ys) (j * size + o) ds = zm cf (l.set j a) ++ ys := by
 have hjn := (List.getElem?_eq_some_iff.1 hj).1;have ex := (List.getElem?_eq_some_iff.1 hj).2;have hxl : (cf x).length = size := zlp hw hj
 have e0 : l = l.take j ++ x :: l.drop (j + 1) := by
  rw [← ex, ← List.drop_eq_getElem_cons hjn, List.take_append_drop]
 have e1 : zm cf l = zm cf (l.take j) ++ (cf x ++ zm cf (l.drop (j + 1))) := by
  have h := congrArg (zm cf) e0
  rwa [zas, zcj] at h
 have e2 : zm cf (l.set j a) = zm cf (l.take j) ++ (cf a ++ zm cf (l.drop (j + 1))) := by
  rw [List.set_eq_take_append_cons_drop, if_pos hjn, zas, zcj]
 have hlen : (zm cf (l.take j)).length = j * size := by rw [zaa (hw.take j), List.length_take, Nat.min_eq_left (by omega)]
 have hs : splice (cf x) o ds = (cf x).take o ++ ds ++ (cf x).drop (o + ds.length) := by simp [splice]
 rw [e2, ← ha, hs, e1, splice]
 have t1 : (zm cf (l.take j) ++ (cf x ++ zm cf (l.drop (j + 1))) ++ ys).take (j * size + o) = zm cf (l.take j) ++ (cf x).take o := by
  rw [List.append_assoc, List.take_append, List.take_of_length_le (by omega), hlen, Nat.add_sub_cancel_left, List.append_assoc, List.take_append_of_le_length (by omega)]
 have t2 : (zm cf (l.take j) ++ (cf x ++ zm cf (l.drop (j + 1))) ++ ys).drop (j * size + o + ds.length) = (cf x).drop (o + ds.length) ++ zm cf (l.drop (j + 1)) ++ ys := by
  rw [List.append_assoc, List.drop_append, List.drop_eq_nil_of_le (by omega), hlen, List.nil_append, Nat.add_assoc, Nat.add_sub_cancel_left, List.append_assoc, List.drop_append_of_le_length (by omega), List.append_assoc]
 rw [t1, t2];simp only [List.append_assoc]
theorem own_setp {P : Program} {α : Type} {cf : α → List Value} {w : World} {B T T' m size n c g j o : Nat} {l : List α} {x a : α} {ds : List Value} (hs : (P.info? T').map (·.size) = some m) (ho : Own w B T size (some ⟨g, 0, none⟩) n c (zm cf l)) (hw : Wid cf size l) (hn : l.length = n) (hj : l[j]? = some x) (ha : (cf a).length = size) (hd : ds.length = m) (hom : o + m ≤ size) (h1 : One ds) (hsp : splice (cf x) o ds = cf a) :
 ∃ W : World, (Instr.storeAt T' (.pointer (some ⟨g, j * size + o, none⟩)) (.agg ds.toArray)).run P w = .ok () W ∧ Own W B T size (some ⟨g, 0, none⟩) n c (zm cf (l.set j a)) ∧ (∀ B', B' ≤ B → B' ≤ w.heap.size → Below B' w W) := by
 obtain ⟨-, hb, hnc, hcm, cur, hg, hcs, hct⟩ := ho.row;have hjn : j < n := by rw [← hn]; exact (List.getElem?_eq_some_iff.1 hj).1
 have hle : n * size ≤ c * size := Nat.mul_le_mul_right _ hnc;have h9 : (j + 1) * size ≤ n * size := Nat.mul_le_mul_right _ hjn;have h2 : j * size + size = (j + 1) * size := (Nat.succ_mul j size).symm;have e0 : cur.toList = zm cf l ++ cur.toList.drop (n * size) := by rw [← hct, List.take_append_drop]
 have hlset : (zm cf (l.set j a)).length = n * size := by
  rw [zaa (n := size) (fun b hb => by
   rcases List.mem_or_eq_of_mem_set hb with h | h
   ·exact hw b h
   ·rw [h]; exact ha), List.length_set, hn]
 have hA : Arr w g T cur.toList.toArray := by simpa using hg
 have esp : splice cur.toList (j * size + o) ds = zm cf (l.set j a) ++ cur.toList.drop (n * size) := by
  have := zlO hw hn hj (by omega) hsp (cur.toList.drop (n * size));rw [← e0] at this;exact this
 have hcl : cur.toList.length = c * size := by rw [Array.length_toList, hcs]
 refine ⟨w.setRow g (zm cf (l.set j a) ++ cur.toList.drop (n * size)).toArray, ?_, ?_, fun B' h1 h2 => ?_⟩
 ·simp only [Instr.storeAt, Instr.sureAddr, Sem.run_bind, Sem.run_pure, Result.andThen_ok]
  rw [zcm (v := .agg ds.toArray) (ds := ds) hs rfl hd h1 hA (by omega), esp]
 ·refine Own.of_row (hA.setRow _) hb hnc hcm ?_ ?_
  ·simp only [List.size_toArray, List.length_append, List.length_drop, hlset, hcl]
   omega
  ·simp only
   exact List.take_left' hlset
 ·exact ⟨rfl, rfl, rfl, by simp [World.setRow], fun k hk => setRow_other w g k _ (by omega)⟩
theorem zgz {P : Program} {α : Type} {cf : α → List Value} {w : World} {ops : Array Oper} {rest : List Oper} {o : Oper} {a : Act} {Q : Exit → Act → World → Prop} {B T T' m size n c g j of : Nat} {l : List α} {x y : α} {ds : List Value} (hs : (P.info? T').map (·.size) = some m) (hgd : o.guard = none) (px py : Operand) (hop : o.op = .store T' px py)
 (hx : a.eval px = .pointer (some ⟨g, j * size + of, none⟩)) (hy : a.eval py = .agg ds.toArray) (ho : Own w B T size (some ⟨g, 0, none⟩) n c (zm cf l)) (hw : Wid cf size l) (hn : l.length = n) (hj : l[j]? = some x) (ha : (cf y).length = size) (hd : ds.length = m) (hom : of + m ≤ size) (h1 : One ds) (hsp : splice (cf x) of ds = cf y) (hB : B ≤ w.heap.size)
 (h : ∀ W, Own W B T size (some ⟨g, 0, none⟩) n c (zm cf (l.set j y)) → Below B w W → wpList P ops Q rest (a.put o.dst undef) W) : wpList P ops Q (o :: rest) a w := by
 obtain ⟨W, hr, so, sb⟩ := own_setp (P := P) hs ho hw hn hj ha hd hom h1 hsp;refine wpList_plain hgd fun K hK => ?_;unfold Oper.wp execOp;simp only [hop, hx, hy, Sem.run_bind, Sem.run_pure, Result.andThen_ok, hr];exact hK _ _ (h _ so (sb B (Nat.le_refl _) hB))
end
section
attribute [local go_sem ↓] zt zbh zae zw
theorem zc7 : (vc zE).toArray = #[.int .i64 0, .int .u8 0, .int .u8 0, .int .u8 0, .int .u8 0, .int .u8 0, .int .u8 0, .int .u8 0, .int .u8 0, .int .u8 0, .int .u8 0, .int .u8 0, .int .u8 0, .int .u8 0, .int .u8 0, .int .u8 0, .int .u8 0] := rfl
theorem zkV : (ec zea).toArray = #[.int .i64 0, .int .u8 0, .int .u8 0, .int .u8 0, .int .u8 0, .int .u8 0, .int .u8 0, .int .u8 0, .int .u8 0, .int .i64 0, .int .u8 0, .int .u8 0, .int .u8 0, .int .u8 0, .int .u8 0, .int .u8 0, .int .u8 0, .int .u8 0, .int .u8 0, .int .u8 0, .int .u8 0, .int .u8 0, .int .u8 0, .int .u8 0, .int .u8 0, .int .u8 0] := rfl
theorem ziv (o : Nat) : ∀ (cs : List Value) (k : Nat) (z : Array Value), List.foldl (fun (cs : Array Value) (x : Value × Nat) => cs.setIfInBounds (o + x.snd) x.fst) z (cs.zipIdx k) = List.foldl (fun (cs : Array Value) (x : Value × Nat) => cs.setIfInBounds x.snd x.fst) z (cs.zipIdx (o + k))
 | [], k, z => rfl
 | v :: cs, k, z => by
  rw [List.zipIdx_cons, List.zipIdx_cons, List.foldl_cons, List.foldl_cons, ziv o cs (k + 1)];rfl
theorem ziK (k : RK) {v : RV} (hl : v.bs.length = 16) : List.foldl (fun (cs : Array Value) (x : Value × Nat) => cs.setIfInBounds (9 + x.snd) x.fst) #[.int .i64 k.n, .int .u8 k.b0, .int .u8 k.b1, .int .u8 k.b2, .int .u8 k.b3, .int .u8 k.b4, .int .u8 k.b5, .int .u8 k.b6, .int .u8 k.b7, .int .i64 0, .int .u8 0, .int .u8 0, .int .u8 0, .int .u8 0, .int .u8 0, .int .u8 0, .int .u8 0, .int .u8 0, .int .u8 0, .int .u8 0, .int .u8 0, .int .u8 0, .int .u8 0, .int .u8 0, .int .u8 0, .int .u8 0] (vc v).zipIdx = (ec ⟨k, v⟩).toArray := by
 rw [ziv 9 (vc v) 0, zep (vc v) (9 + 0) _ (by rw [zD hl]; rfl)];rfl
theorem zge {e : RE} (hl : e.val.bs.length = 16) : List.foldl (fun (cs : Array Value) (x : Value × Nat) => cs.setIfInBounds x.snd x.fst) #[.int .i64 0, .int .u8 0, .int .u8 0, .int .u8 0, .int .u8 0, .int .u8 0, .int .u8 0, .int .u8 0, .int .u8 0, .int .i64 0, .int .u8 0, .int .u8 0, .int .u8 0, .int .u8 0, .int .u8 0, .int .u8 0, .int .u8 0, .int .u8 0, .int .u8 0, .int .u8 0, .int .u8 0, .int .u8 0, .int .u8 0, .int .u8 0, .int .u8 0, .int .u8 0] (ec e).zipIdx = (ec e).toArray := by
 have := zep (ec e) 0 (ec zea).toArray (by rw [zbT hl]; rfl);rw [zkV] at this
 simpa using this
end
end Go.Proofs.Ytnbbjieblgpjfaa
