/- ActKeeps, walked. -/
import Derived.Test.YtmjjjdikpnhpiaaGreatActKm
import Derived.Test.YtmjjjdikpnhpiaaGreatActKid
import Derived.Test.YtmjjjdikpnhpiaaGreatActXa
import Derived.Test.YtmjjjdikpnhpiaaGreatActVal
import Derived.Test.YtmjjjdikpnhpiaaGreatActRm
import Derived.Test.YtmjjjdikpnhpiaaGreatRf
import Derived.Test.YtmjjjdikpnhpiaaGreatFnE
namespace Go.Proofs.YtmjjjdikpnhpiaaGreat
set_option maxRecDepth 100000
set_option linter.unusedVariables false
set_option linter.unusedSimpArgs false
open Go.RowKit
theorem zeroN_cells' : zh.cells.toArray = #[.bool false, .slice none 0 0, .slice none 0 0, .slice none 0 0, .slice none 0 0] := rfl
theorem nodef (v : NV) : List.foldl (fun (cs : Array Value) (x : Value × Nat) => cs.setIfInBounds x.snd x.fst) #[.bool false, .slice none 0 0, .slice none 0 0, .slice none 0 0, .slice none 0 0] (NV.cells v).zipIdx = (NV.cells v).toArray := by
  have := zep (NV.cells v) 0 #[.bool false, .slice none 0 0, .slice none 0 0, .slice none 0 0, .slice none 0 0] rfl
  simpa using this
theorem bytsE_sub {l l' : List RE} (ok : ∀ e ∈ l, e.ok) (h : l'.Sublist l) : zQ l' ≤ zQ l := by
  induction h with
  | slnil => exact Int.le_refl _
  | cons a h ih =>
    have := bytE_bd (ok a (by simp))
    have := ih fun e he => ok e (by simp [he])
    rw [zdx]; omega
  | cons_cons a h ih =>
    have := ih fun e he => ok e (by simp [he])
    rw [zdx, zdx]; omega
/-- .. and of the leaf beneath its kid i. -/
theorem kidL_facts (es : List Int) (ps : List RK) (i : Nat) {B : RN} (hB : B = ⟨true, (zcp es).es.filter (fun x => decide (zbN ps (zu x.key) = i)), [], [], []⟩) :
    OkN B ∧ B.lf = true ∧ zQ B.es ≤ 248 ∧ OkE B.es ∧ B.es.length ≤ 5000 ∧ B.ms = [] ∧ ∀ e ∈ B.es, zbN ps (zu e.key) = i := by
  have o := zjk es
  have sub : ((zcp es).es.filter (fun x => decide (zbN ps (zu x.key) = i))).Sublist (zcp es).es := List.filter_sublist
  have oB := o.sub sub
  have l := zfe es 248
  subst hB
  exact ⟨(zcd rfl).2 ⟨rfl, rfl, rfl, oB⟩, rfl, Int.le_trans (bytsE_sub o.good sub) (zn6 es), oB, by have := sub.length_le; have : (zcp es).es.length ≤ 80 := l; simp only; omega, rfl, fun e he => by have := (List.mem_filter.1 he).2; simpa using this⟩
attribute [local go_sem ↓] zaP zt zae
set_option maxHeartbeats 4000000 in
theorem actKeeps_core {w : World} {A0 A1 A2 : Option Addr} {n0 c0 n1 c1 n2 c2 : Nat} {ps ls es : List Int} {iz kz : Int}
    (hl0 : Has w w.heap.size A0 (ps.map (Value.int .i64))) (hn0 : ps.length = n0) (hs0 : ∀ z ∈ ps, zal z) (hb0 : n0 * 8 ≤ 140737488351232)
    (hl1 : Has w w.heap.size A1 (ls.map (Value.int .i64))) (hn1 : ls.length = n1) (hs1 : ∀ z ∈ ls, zal z) (hm1 : n1 ≤ maxLen)
    (hl2 : Has w w.heap.size A2 (es.map (Value.int .i64))) (hn2 : es.length = n2) (hs2 : ∀ z ∈ es, zal z) (hm2 : n2 ≤ maxLen) (hiv : zal iz) (hkv : zal kz) :
    Calls Tryz.prog 3 #[.slice A0 n0 c0, .slice A1 n1 c1, .slice A2 n2 c2, .int .i64 iz, .int .i64 kz] w fun e w' => e = .returned (.bool true) ∧ Below w.heap.size w w' := by
  have rr := ze w
  have h50 : zal 50 := by unfold zal; decide
  have cI := fun W (h : Fr w W) => zjw (w := W) (c := c0) (c2 := c1) (f := 50) (hl0.fr (Nat.le_refl _) h) h.size hn0 hs0 h50 (hl1.fr (Nat.le_refl _) h) h.size hn1 hs1 hm1 hb0
  have cK := fun W0 W (h : Fr W0 W) => zex (W0 := W0) (W := W) hkv h
  have wK := zfj kz
  have oK := zhz kz
  have fP := zb (inn_facts ps 50 ls)
  have HL2 := zb hl2
  have HS2 := zb hs2
  have HN2 := zb hn2
  have HM2 := zb hm2
  have cB := fun (W : World) (ok : Nat → Prop) (vp : NV) (Q : RN) (i : Nat) (hW : Fr w W) (hp : NP W ok vp Q) (oP : OkP Q.ps) (hi : i ≤ Q.ps.length) => kidL_at (c := c2) (A2 := none) (n2 := 0) (c2 := 0) (A3 := none) (n3 := 0) (c3 := 0) hp oP hi (HL2.out.fr (Nat.le_refl _) hW |>.mono hW.size) HN2.out HS2.out HM2.out
  generalize zdY ps 50 ls = P at *
  generalize zbL kz = Ky at *
  unfold nv at cI
  clear hl0 hn0 hs0 hb0 hl1 hn1 hs1 hm1 hl2 hn2 hs2 hm2 hkv h50
  go_enter Tryz.func3, Tryz.ntmps3
  go_wp2_with fail
  refine (cI _ rr).mono ?_
  rintro e w1 ⟨va, rfl, hA, f1⟩
  have nA : Hid (NP w1 tt va P) := zb (hA.out.weak fun _ _ _ => trivial)
  clear cI hA
  obtain ⟨V1, hV1, fV1, eb11⟩ : ∃ V, World.alloc (w1) (.cells zh.cells.toArray 27) = V ∧ Fr w1 V ∧ Arr V (w1.heap.size) 27 zh.cells.toArray := ⟨_, rfl, zf (ze _) _, Arr.new _ _ _⟩
  rw [zeroN_cells'] at hV1
  have tokb11 : Hid (0 < 1) := zb (by decide)
  go_upto_region 2 with (first
    | (clear tokb11; refine zp (ds := va.cells) zaw rfl (.tmp 11) (.tmp 29) rfl (w1.heap.size) 0 rfl rfl rfl (za6 _) eb11 (zbi _) (zk _ _ (Nat.le_of_eq rfl)) ?_; intro Ub11 b11 ub11)
    | fail)
  have fUb11 : Fr w1 Ub11 := ub11.fr fV1 (Nat.le_refl _)
  try simp only [Act.put]
  clear hV1 fV1 ub11
  have FUb11 := za f1 fUb11
  replace nA := zb (nA.out.fr fUb11)
  obtain ⟨oP, lfP, okp, olP, bP, lkP, mP⟩ := fP.out
  have l2 := zb nA.out.l2
  have hpos : 0 < va.n2 := by have := l2.out; omega
  have hle5 : (va.n2 : Int) ≤ 1099511627776 := by have := nA.out.s2; omega
  have cPl := fun W => zgS iz va.n2 hiv hpos hle5 W
  obtain ⟨j, hj, hj2⟩ : ∃ j : Nat, iz % (va.n2 : Int) = (j : Int) ∧ j < va.n2 := ⟨(iz % (va.n2 : Int)).toNat, (Int.toNat_of_nonneg (Int.emod_nonneg _ (by omega))).symm, by have := Int.emod_lt_of_pos iz (show (0 : Int) < va.n2 by omega); have := Int.emod_nonneg iz (show (va.n2 : Int) ≠ 0 by omega); omega⟩
  rw [hj] at cPl
  have hjp : j ≤ P.ps.length := by have := l2.out; omega
  have Hj := zb (And.intro hj2 hjp)
  have HP := zb (And.intro oP (And.intro lfP (And.intro okp (And.intro olP (And.intro bP (And.intro lkP mP))))))
  clear hj hj2 hpos hle5 hiv oP lfP okp olP bP lkP mP fP hjp
  have c2' : ∀ W, Fr Ub11 W → W.cell? ⟨w1.heap.size, 2, none⟩ = some (.slice va.A2 va.n2 va.c2) := fun W h => (b11.below h b11.lt).cell 2
  have rX := ze Ub11
  go_wp2_with fail
  refine (cPl _).mono ?_
  rintro e w2 ⟨rfl, f2⟩
  clear cPl c2' rX
  have Fw2 := za FUb11 f2
  replace b11 := b11.below f2 b11.lt
  replace nA := zb (nA.out.fr f2)
  have ldb11 : ∀ W, Fr w2 W → (ldS 27 (.pointer (some ⟨w1.heap.size, 0, none⟩))).run Tryz.prog W = .ok (.agg va.cells.toArray) W := fun W h => zq.ld rfl (b11.below h b11.lt)
  have rX := ze w2
  have cKd := cB w2 tt va P j Fw2 nA.out HP.out.2.2.1 Hj.out.2
  unfold nv at cKd
  clear cB
  go_wp2_with fail
  refine cKd.mono ?_
  rintro e w3 ⟨vb, rfl, hB, f3⟩
  clear cKd ldb11 rX
  have Fw3 := za Fw2 f3
  replace b11 := b11.below f3 b11.lt
  replace nA := zb (nA.out.fr f3)
  obtain ⟨B, hBe⟩ : ∃ B : RN, B = ⟨true, (zcp es).es.filter (fun x => decide (zbN P.ps (zu x.key) = j)), [], [], []⟩ := ⟨_, rfl⟩
  have fB := zb (kidL_facts es P.ps j hBe)
  rw [← hBe] at hB
  have nB : Hid (NP w3 tt vb B) := zb (hB.out.weak fun _ _ _ => trivial)
  clear hB hBe
  obtain ⟨V2, hV2, fV2, eb13⟩ : ∃ V, World.alloc (w3) (.cells zh.cells.toArray 27) = V ∧ Fr w3 V ∧ Arr V (w3.heap.size) 27 zh.cells.toArray := ⟨_, rfl, zf (ze _) _, Arr.new _ _ _⟩
  rw [zeroN_cells'] at hV2
  have tokb13 : Hid (0 < 1) := zb (by decide)
  go_upto_region 4 with (first
    | (clear tokb13; refine zp (ds := vb.cells) zaw rfl (.tmp 13) (.tmp 38) rfl (w3.heap.size) 0 rfl rfl rfl (za6 _) eb13 (zbi _) (zk _ _ (Nat.le_of_eq rfl)) ?_; intro Ub13 b13 ub13)
    | fail)
  have fUb13 : Fr w3 Ub13 := ub13.fr fV2 (Nat.le_refl _)
  try simp only [Act.put]
  clear hV2 fV2 ub13
  have FUb13 := za Fw3 fUb13
  replace b11 := b11.below fUb13 b11.lt
  replace nA := zb (nA.out.fr fUb13)
  replace nB := zb (nB.out.fr fUb13)
  go_wp2_with fail
  refine (cK _ _ (ze Ub13)).mono ?_
  rintro e w4 ⟨rfl, f4⟩
  clear cK
  have Fw4 := za FUb13 f4
  replace b11 := b11.below f4 b11.lt
  replace b13 := b13.below f4 b13.lt
  replace nA := zb (nA.out.fr f4)
  replace nB := zb (nB.out.fr f4)
  obtain ⟨V3, hV3, fV3, eb14⟩ : ∃ V, World.alloc (w4) (.cells (kc zr).toArray 33) = V ∧ Fr w4 V ∧ Arr V (w4.heap.size) 33 (kc zr).toArray := ⟨_, rfl, zf (ze _) _, Arr.new _ _ _⟩
  rw [zH] at hV3
  have tokb14 : Hid (0 < 1) := zb (by decide)
  go_upto_region 5 with (first
    | (clear tokb14; refine zp (ds := (kc Ky)) zC rfl (.tmp 14) (.tmp 40) rfl (w4.heap.size) 0 rfl rfl (zl _) (zU _) eb14 (zbA _) (zaE _ _) ?_; intro Ub14 b14 ub14)
    | fail)
  have fUb14 : Fr w4 Ub14 := ub14.fr fV3 (Nat.le_refl _)
  try simp only [Act.put]
  clear hV3 fV3 ub14
  have FUb14 := za Fw4 fUb14
  replace b11 := b11.below fUb14 b11.lt
  replace b13 := b13.below fUb14 b13.lt
  replace nA := zb (nA.out.fr fUb14)
  replace nB := zb (nB.out.fr fUb14)
  have hz17 : Hid ((vc zE).length = 17) := zb rfl
  obtain ⟨oB, lfB, bB, oE, lB, mB, kB'⟩ := fB.out
  have oL := HP.out.2.2.2.1
  have go : ∀ v, app1 (zaj P.ms Ky) (zO B.es Ky) = some v → v.wf ∧ okV v = true := app1_good (fun x hx => oL.good x (zjm hx).1) (fun v h => ze2 oE h)
  have cV := fun (X : World) (vl : NV) (L : RN) (vu : NV) (U : RN) (W : World) (f : Fr X W) (a : Arr W X.heap.size 27 vu.cells.toArray) (hl : NP X tt vl L) (hu : NP X tt vu U) (oe : OkE L.es) (ou : OkL U.ms) => value_at (w := W) (k := Ky) (A := some ⟨X.heap.size, 0, none⟩) (n := 1) (c := 1) (us := [(vu, U)]) (hl.fr f) oe wK (by simpa [zm] using (Arr.hasP (ok := tt) a trivial).has) rfl (by omega) (fun p hp => by rw [List.mem_singleton.1 hp]; exact ⟨hu.fr f, ou.good⟩)
  simp only [upO, List.foldl_cons, List.foldl_nil] at cV
  have eK := val_leaf (P := P) (B := B) oL lfB oE j Ky
  have hlx := zb (zD (o_wf go).hl)
  have wx := o_wf go
  have fdA := nodef va
  have h5A : (NV.cells va).length = 5 := rfl
  have FB := zb (And.intro oB (And.intro lfB (And.intro bB (And.intro oE (And.intro lB (And.intro mB kB'))))))
  clear go oB lfB bB lB mB kB' fB
  have ldb13 : ∀ W, Fr Ub14 W → (ldS 27 (.pointer (some ⟨w3.heap.size, 0, none⟩))).run Tryz.prog W = .ok (.agg vb.cells.toArray) W := fun W h => zq.ld rfl (b13.below h b13.lt)
  have ldb14 : ∀ W, Fr Ub14 W → (ldS 33 (.pointer (some ⟨w4.heap.size, 0, none⟩))).run Tryz.prog W = .ok (.agg (kc Ky).toArray) W := fun W h => zaf.ld (zl _) (b14.below h b14.lt)
  have ldb11 : ∀ W, Fr Ub14 W → (ldS 27 (.pointer (some ⟨w1.heap.size, 0, none⟩))).run Tryz.prog W = .ok (.agg va.cells.toArray) W := fun W h => zq.ld rfl (b11.below h b11.lt)
  have rX := ze Ub14
  obtain ⟨Q1, hQ1, fQ1, aQ1⟩ : ∃ V, World.alloc Ub14 (.cells va.cells.toArray 27) = V ∧ Fr Ub14 V ∧ Arr V Ub14.heap.size 27 va.cells.toArray := ⟨_, rfl, zf (ze _) _, Arr.new _ _ _⟩
  have cW := cV Ub14 vb (B) va (P) Q1 fQ1 aQ1 nB.out nA.out oE oL
  generalize app1 (zaj P.ms Ky) (zO B.es Ky) = o at *
  unfold zmv at cW
  generalize hxo : o.getD zE = x at *
  generalize hbo : o.isSome = bo at *
  unfold vv nv at cW
  have HO := zb (And.intro hxo hbo)
  clear hxo hbo
  go_wp2_with fail
  try simp only [fdA]
  refine cW.mono ?_
  rintro e w5 ⟨rfl, f5⟩
  have f5 := za fQ1 f5
  clear cW aQ1 hQ1 fQ1 ldb13 ldb14 ldb11 rX
  have Fw5 := za FUb14 f5
  replace b11 := b11.below f5 b11.lt
  replace b13 := b13.below f5 b13.lt
  replace b14 := b14.below f5 b14.lt
  replace nA := zb (nA.out.fr f5)
  replace nB := zb (nB.out.fr f5)
  obtain ⟨V4, hV4, fV4, eb15⟩ : ∃ V, World.alloc (w5) (.cells (vc zE).toArray 37) = V ∧ Fr w5 V ∧ Arr V (w5.heap.size) 37 (vc zE).toArray := ⟨_, rfl, zf (ze _) _, Arr.new _ _ _⟩
  rw [zc7] at hV4
  have tokb15 : Hid (0 < 1) := zb (by decide)
  go_upto_region 6 with (first
    | (clear tokb15; refine zp (ds := (vc x)) zad rfl (.tmp 15) (.tmp 47) rfl (w5.heap.size) 0 rfl rfl hlx.out (zar _) eb15 (Nat.le_of_eq hz17.out.symm) (zk _ _ (Nat.le_of_eq (hz17.out.trans hlx.out.symm))) ?_; intro Ub15 b15 ub15)
    | fail)
  have fUb15 : Fr w5 Ub15 := ub15.fr fV4 (Nat.le_refl _)
  try simp only [Act.put]
  clear hV4 fV4 ub15
  have FUb15 := za Fw5 fUb15
  replace b11 := b11.below fUb15 b11.lt
  replace b13 := b13.below fUb15 b13.lt
  replace b14 := b14.below fUb15 b14.lt
  replace nA := zb (nA.out.fr fUb15)
  replace nB := zb (nB.out.fr fUb15)
  have G15 := ze Ub15
  have k11 := b11
  have k13 := b13
  have k14 := b14
  have k15 := b15
  have kA := nA
  have kB := nB
  have H15 := FUb15
  have c3' : ∀ W, Fr Ub15 W → W.cell? ⟨w1.heap.size, 3, none⟩ = some (.slice va.A3 va.n3 va.c3) := fun W h => (b11.below h b11.lt).cell 3
  have ldb14 : ∀ W, Fr Ub15 W → (ldS 33 (.pointer (some ⟨w4.heap.size, 0, none⟩))).run Tryz.prog W = .ok (.agg (kc Ky).toArray) W := fun W h => zaf.ld (zl _) (b14.below h b14.lt)
  have rX := ze Ub15
  have cA := znk
  have cKi := fun (W : World) (f : Fr Ub15 W) => rkid_at (W0 := W) (c := va.c3) (k := Ky) ((nA.out.fr f).h3.has) (Nat.le_refl _) nA.out.l3 nA.out.s3 HP.out.2.2.1 wK oK (ze W)
  by_cases hk : zbN P.ps (zu Ky) = j
  case' neg =>
    have hne : ((zbN P.ps (zu Ky) : Nat) : Int) ≠ (j : Int) := by omega
    have hnb : (((zbN P.ps (zu Ky) : Nat) : Int) != (j : Int)) = true := by rw [bne_iff_ne]; exact hne
    have Hk := zb hk
    generalize zbN P.ps (zu Ky) = kk at *
    clear hk hne
    go_wp2_with fail
    refine (cKi _ rX).mono ?_
    rintro e w6 ⟨rfl, f6⟩
    go_wp2_with fail
    refine (cA _).mono ?_
    rintro e w7 ⟨rfl, f7⟩
    go_wp2_with fail
    go_ret
    exact ⟨rfl, za FUb15 (za f6 f7)⟩
  rw [hk] at cKi
  have hnb : ((j : Int) != (j : Int)) = false := by simp
  have Hk := zb hk
  clear hk
  go_wp2_with fail
  refine (cKi _ rX).mono ?_
  rintro e w6 ⟨rfl, f6⟩
  clear cKi c3' ldb14 rX
  have Fw6 := za FUb15 f6
  replace b11 := b11.below f6 b11.lt
  replace b13 := b13.below f6 b13.lt
  replace b14 := b14.below f6 b14.lt
  replace b15 := b15.below f6 b15.lt
  replace nA := zb (nA.out.fr f6)
  replace nB := zb (nB.out.fr f6)
  replace G15 := za G15 f6
  have nA0 := zb (nA.out.weak (ok' := fun b => b < w6.heap.size) fun b hb _ => hb)
  have nB0 := zb (nB.out.weak (ok' := fun b => b < w6.heap.size) fun b hb _ => hb)
  have ldb11 : ∀ W, Fr w6 W → (ldS 27 (.pointer (some ⟨w1.heap.size, 0, none⟩))).run Tryz.prog W = .ok (.agg va.cells.toArray) W := fun W h => zq.ld rfl (b11.below h b11.lt)
  have ldb13 : ∀ W, Fr w6 W → (ldS 27 (.pointer (some ⟨w3.heap.size, 0, none⟩))).run Tryz.prog W = .ok (.agg vb.cells.toArray) W := fun W h => zq.ld rfl (b13.below h b13.lt)
  have rX := ze w6
  obtain ⟨fb, hfb⟩ : ∃ fb : Bool, fb = true ↔ OkN (zbo P B j) ∧ zcW (zbo P B j) ≤ rmN (zbo P B j) := by
    by_cases h : OkN (zbo P B j) ∧ zcW (zbo P B j) ≤ rmN (zbo P B j)
    · exact ⟨true, fun _ => h, fun _ => rfl⟩
    · exact ⟨false, fun q => Bool.noConfusion q, fun q => absurd q h⟩
  have oC := FB.out.1.okC FB.out.2.2.2.2.1 (by rw [FB.out.2.2.2.2.2.1]; decide)
  have cP := zcl (w := w6) (ok := tt) (i := (j : Int)) (fb := fb) (fun _ _ => trivial) nA.out nB.out HP.out.1 oC HP.out.2.2.2.2.2.2 (by rw [Int.toNat_natCast]; exact hfb)
  have Hfb := zb hfb
  clear hfb
  unfold zcQ nv at cP
  go_wp2_with fail
  refine cP.mono ?_
  rintro e w7 ⟨vq, vc', bq, Q1, C1, rfl, hI, hQ, hC, f7⟩
  clear cP ldb11 ldb13 rX
  have Fw7 := za Fw6 f7
  replace b11 := b11.below f7 b11.lt
  replace b13 := b13.below f7 b13.lt
  replace b14 := b14.below f7 b14.lt
  replace b15 := b15.below f7 b15.lt
  replace nA := zb (nA.out.fr f7)
  replace nB := zb (nB.out.fr f7)
  replace nA0 := zb (nA0.out.fr f7)
  replace nB0 := zb (nB0.out.fr f7)
  replace G15 := za G15 f7
  have hQ1 := hQ
  have hC1 := hC
  clear hQ hC
  obtain ⟨V5, hV5, fV5, eb17, eb18⟩ : ∃ V, World.alloc (World.alloc (w7) (.cells zh.cells.toArray 27)) (.cells zh.cells.toArray 27) = V ∧ Fr w7 V ∧ Arr V (w7.heap.size) 27 zh.cells.toArray ∧ Arr V (w7.heap.size + 1) 27 zh.cells.toArray := ⟨_, rfl, zf (zf (ze _) _) _, (Arr.new _ _ _).alloc _, zbr _ _ _ _ (by simp)⟩
  rw [zeroN_cells'] at hV5
  have tokb17 : Hid (0 < 1) := zb (by decide)
  have tokb18 : Hid (0 < 1) := zb (by decide)
  go_upto_if 64 with (first
    | (clear tokb17; refine zp (ds := vq.cells) zaw rfl (.tmp 17) (.tmp 61) rfl (w7.heap.size) 0 rfl rfl rfl (za6 _) eb17 (zbi _) (zk _ _ (Nat.le_of_eq rfl)) ?_; intro Ub17 b17 ub17
       replace eb18 := ub17.other eb18 (by omega))
    | (clear tokb18; refine zp (ds := vc'.cells) zaw rfl (.tmp 18) (.tmp 62) rfl (w7.heap.size + 1) 0 rfl rfl rfl (za6 _) eb18 (zbi _) (zk _ _ (Nat.le_of_eq rfl)) ?_; intro Ub18 b18 ub18
       replace b17 := ub18.other b17 (by omega))
    | fail)
  have fUb18 : Fr w7 Ub18 := ub18.fr (ub17.fr fV5 (Nat.le_refl _)) (Nat.le_add_right _ _)
  try simp only [Act.put]
  clear hV5 fV5 ub17 ub18
  have FUb18 := za Fw7 fUb18
  replace b11 := b11.below fUb18 b11.lt
  replace b13 := b13.below fUb18 b13.lt
  replace b14 := b14.below fUb18 b14.lt
  replace b15 := b15.below fUb18 b15.lt
  replace nA := zb (nA.out.fr fUb18)
  replace nB := zb (nB.out.fr fUb18)
  replace nA0 := zb (nA0.out.fr fUb18)
  replace nB0 := zb (nB0.out.fr fUb18)
  replace hQ1 := zb (hQ1.out.fr fUb18)
  replace hC1 := zb (hC1.out.fr fUb18)
  replace G15 := za G15 fUb18
  have rX := ze Ub18
  have dP := zb (dwnP_ok HP.out.1 HP.out.2.1 HP.out.2.2.2.2.1 j)
  have dC := zb (down_ok HP.out.2.2.1 oL FB.out.1 FB.out.2.1 FB.out.2.2.1 Hj.out.2 FB.out.2.2.2.2.2.2)
  have hT : Hid (bq = true → Q1 = zeu P j ∧ C1 = zbo P B j ∧ (OkN (zbo P B j) ∧ zcW (zbo P B j) ≤ rmN (zbo P B j))) := zb fun q => by
    obtain ⟨eb, ep, ec⟩ := hI.out
    rw [q, if_pos rfl, Int.toNat_natCast] at ep ec
    refine ⟨ep, ec, Hfb.out.1 ?_⟩
    rw [q] at eb
    unfold zeh at eb
    cases fb
    · simp at eb
    · rfl
  clear hI
  go_cut [20, 21] from 65 to 90 (fun s20 s21 wx => Fr Ub18 wx)
  case first =>
    cases bq
    case' false =>
      go_wp2_with fail
      go_meet
      exact rX
    case' true =>
      obtain ⟨rfl, rfl, ftC⟩ := hT.out rfl
      have oE1 : OkE (zbo P B j).es := ((zcd dC.out.2.1).1 dC.out.1).2.2.2
      have baseUb18 := ze Ub18
      have ldb18 : ∀ W, Fr Ub18 W → (ldS 27 (.pointer (some ⟨w7.heap.size + 1, 0, none⟩))).run Tryz.prog W = .ok (.agg vc'.cells.toArray) W := fun W h => zq.ld rfl (b18.below h b18.lt)
      have ldb14 : ∀ W, Fr Ub18 W → (ldS 33 (.pointer (some ⟨w4.heap.size, 0, none⟩))).run Tryz.prog W = .ok (.agg (kc Ky).toArray) W := fun W h => zaf.ld (zl _) (b14.below h b14.lt)
      have ldb17 : ∀ W, Fr Ub18 W → (ldS 27 (.pointer (some ⟨w7.heap.size, 0, none⟩))).run Tryz.prog W = .ok (.agg vq.cells.toArray) W := fun W h => zq.ld rfl (b17.below h b17.lt)
      have rX := ze Ub18
      obtain ⟨Q2, hQ2, fQ2, aQ2⟩ : ∃ V, World.alloc Ub18 (.cells vq.cells.toArray 27) = V ∧ Fr Ub18 V ∧ Arr V Ub18.heap.size 27 vq.cells.toArray := ⟨_, rfl, zf (ze _) _, Arr.new _ _ _⟩
      have cW := cV Ub18 vc' (zbo P B j) vq (zeu P j) Q2 fQ2 aQ2 hC1.out hQ1.out oE1 dP.out.2.1
      rw [eK] at cW
      unfold zmv at cW
      rw [HO.out.1, HO.out.2] at cW
      unfold vv nv at cW
      have fdQ := nodef vq
      have h5Q : (NV.cells vq).length = 5 := rfl
      go_wp2_with fail
      try simp only [fdQ]
      refine cW.mono ?_
      rintro e w8 ⟨rfl, f8⟩
      have f8 := za fQ2 f8
      clear cW aQ2 hQ2 fQ2 ldb18 ldb14 ldb17 rX
      have Fw8 := za baseUb18 f8
      replace b11 := b11.below f8 b11.lt
      replace b13 := b13.below f8 b13.lt
      replace b14 := b14.below f8 b14.lt
      replace b15 := b15.below f8 b15.lt
      replace b17 := b17.below f8 b17.lt
      replace b18 := b18.below f8 b18.lt
      replace nA := zb (nA.out.fr f8)
      replace nB := zb (nB.out.fr f8)
      replace nA0 := zb (nA0.out.fr f8)
      replace nB0 := zb (nB0.out.fr f8)
      replace hQ1 := zb (hQ1.out.fr f8)
      replace hC1 := zb (hC1.out.fr f8)
      replace G15 := za G15 f8
      obtain ⟨V6, hV6, fV6, eb20⟩ : ∃ V, World.alloc (w8) (.cells (vc zE).toArray 37) = V ∧ Fr w8 V ∧ Arr V (w8.heap.size) 37 (vc zE).toArray := ⟨_, rfl, zf (ze _) _, Arr.new _ _ _⟩
      rw [zc7] at hV6
      have tokb20 : Hid (0 < 1) := zb (by decide)
      go_upto_region 11 with (first
        | (clear tokb20; refine zp (ds := (vc x)) zad rfl (.tmp 20) (.tmp 71) rfl (w8.heap.size) 0 rfl rfl hlx.out (zar _) eb20 (Nat.le_of_eq hz17.out.symm) (zk _ _ (Nat.le_of_eq (hz17.out.trans hlx.out.symm))) ?_; intro Ub20 b20 ub20)
        | fail)
      have fUb20 : Fr w8 Ub20 := ub20.fr fV6 (Nat.le_refl _)
      try simp only [Act.put]
      clear hV6 fV6 ub20
      have FUb20 := za Fw8 fUb20
      replace b11 := b11.below fUb20 b11.lt
      replace b13 := b13.below fUb20 b13.lt
      replace b14 := b14.below fUb20 b14.lt
      replace b15 := b15.below fUb20 b15.lt
      replace b17 := b17.below fUb20 b17.lt
      replace b18 := b18.below fUb20 b18.lt
      replace nA := zb (nA.out.fr fUb20)
      replace nB := zb (nB.out.fr fUb20)
      replace nA0 := zb (nA0.out.fr fUb20)
      replace nB0 := zb (nB0.out.fr fUb20)
      replace hQ1 := zb (hQ1.out.fr fUb20)
      replace hC1 := zb (hC1.out.fr fUb20)
      replace G15 := za G15 fUb20
      have ldb20 : ∀ W, Fr Ub20 W → (ldS 37 (.pointer (some ⟨w8.heap.size, 0, none⟩))).run Tryz.prog W = .ok (.agg (vc x).toArray) W := fun W h => zbs.ld hlx.out (b20.below h b20.lt)
      have ldb15 : ∀ W, Fr Ub20 W → (ldS 37 (.pointer (some ⟨w5.heap.size, 0, none⟩))).run Tryz.prog W = .ok (.agg (vc x).toArray) W := fun W h => zbs.ld hlx.out (b15.below h b15.lt)
      have ldb17 : ∀ W, Fr Ub20 W → (ldS 27 (.pointer (some ⟨w7.heap.size, 0, none⟩))).run Tryz.prog W = .ok (.agg vq.cells.toArray) W := fun W h => zq.ld rfl (b17.below h b17.lt)
      have ldb18 : ∀ W, Fr Ub20 W → (ldS 27 (.pointer (some ⟨w7.heap.size + 1, 0, none⟩))).run Tryz.prog W = .ok (.agg vc'.cells.toArray) W := fun W h => zq.ld rfl (b18.below h b18.lt)
      have rX := ze Ub20
      have qV : ∀ V, (binOp .neq 37 (.agg (vc x).toArray) (.agg (vc x).toArray)).run Tryz.prog V = .ok (.bool false) V := fun V => by have := val_neq wx wx V; rwa [decide_eq_true rfl] at this
      have hbb : (bo != bo) = false := by simp
      have cF1 := fun W (h : Fr Ub20 W) => (zdB (b := true) (hQ1.out.fr h).nh ⟨fun _ => dP.out.1, fun _ => rfl⟩)
      have cF2 := fun W (h : Fr Ub20 W) => (zdB (b := true) (hC1.out.fr h).nh ⟨fun _ => ftC, fun _ => rfl⟩)
      unfold nv at cF1 cF2
      go_wp2_with fail
      refine (cF1 _ rX).mono ?_
      rintro e x1 ⟨rfl, g1⟩
      go_wp2_with fail
      refine (cF2 _ g1).mono ?_
      rintro e x2 ⟨rfl, g2⟩
      go_wp2_with fail
      go_meet
      exact za FUb20 (za g1 g2)
  case rest =>
    obtain ⟨W9, eW⟩ : ∃ W, W = wc := ⟨_, rfl⟩
    rw [← eW]
    rw [← eW] at hcut
    clear eW rX
    have FW9 := za FUb18 hcut
    replace b11 := b11.below hcut b11.lt
    replace b13 := b13.below hcut b13.lt
    replace b14 := b14.below hcut b14.lt
    replace b15 := b15.below hcut b15.lt
    replace b17 := b17.below hcut b17.lt
    replace b18 := b18.below hcut b18.lt
    replace nA := zb (nA.out.fr hcut)
    replace nB := zb (nB.out.fr hcut)
    replace nA0 := zb (nA0.out.fr hcut)
    replace nB0 := zb (nB0.out.fr hcut)
    replace hQ1 := zb (hQ1.out.fr hcut)
    replace hC1 := zb (hC1.out.fr hcut)
    replace G15 := za G15 hcut
    have ldb11 : ∀ W, Fr W9 W → (ldS 27 (.pointer (some ⟨w1.heap.size, 0, none⟩))).run Tryz.prog W = .ok (.agg va.cells.toArray) W := fun W h => zq.ld rfl (b11.below h b11.lt)
    have ldb13 : ∀ W, Fr W9 W → (ldS 27 (.pointer (some ⟨w3.heap.size, 0, none⟩))).run Tryz.prog W = .ok (.agg vb.cells.toArray) W := fun W h => zq.ld rfl (b13.below h b13.lt)
    have rX := ze W9
    have h67 := f7.size
    have hbk7 := b17.lt
    have hbk8 := b18.lt
    have cS := zjH (w := W9) (ok := okL tt [w7.heap.size, w7.heap.size + 1]) (i := (j : Int)) (id := 254) (zbU (fun _ _ => trivial) (fun g hg => by simp at hg; omega)) (nA0.out.weak (fun b _ h => ⟨trivial, fun hm => by simp at hm; omega⟩)) (nB0.out.weak (fun b _ h => ⟨trivial, fun hm => by simp at hm; omega⟩)) HP.out.1 FB.out.1 oC HP.out.2.2.2.2.2.2 (by have := Hj.out.1; have := nA.out.s2; unfold zal; omega)
    unfold zfp nv at cS
    go_wp2_with fail
    refine cS.mono ?_
    rintro e w10 ⟨vp2, vc2, vn2, ct, P2, C2, N2, rfl, hI2, hP2, hC2, hN2, f10⟩
    clear cS ldb11 ldb13 rX hQ1 hC1
    have Fw10 := za FW9 f10
    replace b11 := b11.below f10 b11.lt
    replace b13 := b13.below f10 b13.lt
    replace b14 := b14.below f10 b14.lt
    replace b15 := b15.below f10 b15.lt
    replace b17 := b17.below f10 b17.lt
    replace b18 := b18.below f10 b18.lt
    replace nA := zb (nA.out.fr f10)
    replace nB := zb (nB.out.fr f10)
    replace nA0 := zb (nA0.out.fr f10)
    replace nB0 := zb (nB0.out.fr f10)
    replace G15 := za G15 f10
    obtain ⟨V10, hV10, fV10, e22⟩ : ∃ V, World.alloc w10 (.cells zh.cells.toArray 27) = V ∧ Fr w10 V ∧ Arr V w10.heap.size 27 zh.cells.toArray := ⟨_, rfl, zf (ze _) _, Arr.new _ _ _⟩
    rw [zeroN_cells'] at hV10
    have hbk7 := b17.lt
    have hbk8 := b18.lt
    have hP3 := zb ((hP2.out.weak (ok' := okL tt [w7.heap.size, w7.heap.size + 1, w10.heap.size]) (fun b hb h => ⟨trivial, fun hm => h.2 (by simp at hm ⊢; omega)⟩)).fr fV10)
    have hC3 := zb ((hC2.out.weak (ok' := okL tt [w7.heap.size, w7.heap.size + 1, w10.heap.size]) (fun b hb h => ⟨trivial, fun hm => h.2 (by simp at hm ⊢; omega)⟩)).fr fV10)
    have hN3 := zb ((hN2.out.weak (ok' := okL tt [w7.heap.size, w7.heap.size + 1, w10.heap.size]) (fun b hb h => ⟨trivial, fun hm => h.2 (by simp at hm ⊢; omega)⟩)).fr fV10)
    have h15 : Ub15.heap.size ≤ w7.heap.size := Nat.le_trans f6.size f7.size
    have h710 : w7.heap.size + 1 < w10.heap.size := hbk8
    replace G15 := za G15 fV10
    have c17 := b17.below fV10 b17.lt
    have c18 := b18.below fV10 b18.lt
    have tok1 : Hid (0 < 1) := zb (by decide)
    have tok2 : Hid (0 < 1) := zb (by decide)
    have tok3 : Hid (0 < 1) := zb (by decide)
    clear hP2 hC2 hN2 b17 b18 b11 b13 b14 b15 nA nB nA0 nB0 h67 hbk7 hbk8
    go_upto_region 14 with (first
      | (clear tok1; refine zp (ds := vp2.cells) zaw rfl (.tmp 17) (.tmp 96) rfl w7.heap.size 0 rfl rfl rfl (za6 _) c17 (zbi _) (zk _ _ (Nat.le_of_eq rfl)) ?_; intro Y1 b17 u1
         have c18 := u1.other c18 (by omega)
         have c22 := u1.other e22 (by omega)
         clear e22)
      | (clear tok2; refine zp (ds := vc2.cells) zaw rfl (.tmp 18) (.tmp 97) rfl (w7.heap.size + 1) 0 rfl rfl rfl (za6 _) c18 (zbi _) (zk _ _ (Nat.le_of_eq rfl)) ?_; intro Y2 b18 u2
         have b17 := u2.other b17 (by omega)
         have c22 := u2.other c22 (by omega))
      | (clear tok3; refine zp (ds := vn2.cells) zaw rfl (.tmp 22) (.tmp 98) rfl w10.heap.size 0 rfl rfl rfl (za6 _) c22 (zbi _) (zk _ _ (Nat.le_of_eq rfl)) ?_; intro Y3 b22 u3
         have b17 := u3.other b17 (by omega)
         have b18 := u3.other b18 (by omega))
      | fail)
    try simp only [Act.put]
    have G3 : Fr Ub15 Y3 := u3.fr (u2.fr (u1.fr G15 h15) (by omega)) (by omega)
    have FY3 := za H15 G3
    have b11 := k11.below G3 k11.lt
    have b13 := k13.below G3 k13.lt
    have b14 := k14.below G3 k14.lt
    have b15 := k15.below G3 k15.lt
    have nA := zb (kA.out.fr G3)
    have nB := zb (kB.out.fr G3)
    have hP4 : Hid (NP Y3 tt vp2 P2) := zb ((((hP3.out.kept u1 (fun h => h.2 (by simp))).kept u2 (fun h => h.2 (by simp))).kept u3 (fun h => h.2 (by simp))).weak fun _ _ _ => trivial)
    have hC4 : Hid (NP Y3 tt vc2 C2) := zb ((((hC3.out.kept u1 (fun h => h.2 (by simp))).kept u2 (fun h => h.2 (by simp))).kept u3 (fun h => h.2 (by simp))).weak fun _ _ _ => trivial)
    have hN4 : Hid (NP Y3 tt vn2 N2) := zb ((((hN3.out.kept u1 (fun h => h.2 (by simp))).kept u2 (fun h => h.2 (by simp))).kept u3 (fun h => h.2 (by simp))).weak fun _ _ _ => trivial)
    clear hP3 hC3 hN3 u1 u2 u3 c17 c22 hV10 fV10 k11 k13 k14 k15 kA kB G15
    have T2 := hI2.out
    have cA := znk
    cases ct
    case' false =>
      have ldb17 : ∀ W, Fr Y3 W → (ldS 27 (.pointer (some ⟨w7.heap.size, 0, none⟩))).run Tryz.prog W = .ok (.agg vp2.cells.toArray) W := fun W h => zq.ld rfl (b17.below h b17.lt)
      have ldb11 : ∀ W, Fr Y3 W → (ldS 27 (.pointer (some ⟨w1.heap.size, 0, none⟩))).run Tryz.prog W = .ok (.agg va.cells.toArray) W := fun W h => zq.ld rfl (b11.below h b11.lt)
      have ldb18 : ∀ W, Fr Y3 W → (ldS 27 (.pointer (some ⟨w7.heap.size + 1, 0, none⟩))).run Tryz.prog W = .ok (.agg vc2.cells.toArray) W := fun W h => zq.ld rfl (b18.below h b18.lt)
      have ldb13 : ∀ W, Fr Y3 W → (ldS 27 (.pointer (some ⟨w3.heap.size, 0, none⟩))).run Tryz.prog W = .ok (.agg vb.cells.toArray) W := fun W h => zq.ld rfl (b13.below h b13.lt)
      have rX := ze Y3
      obtain ⟨-, e1, e2, -⟩ := T2
      rw [if_neg (by decide)] at e1 e2
      have S1 := fun W (h : Fr Y3 W) => zjL (hP4.out.fr h).nh (nA.out.fr h).nh
      have S2 := fun W (h : Fr Y3 W) => zjL (hC4.out.fr h).nh (nB.out.fr h).nh
      rw [e1] at S1
      rw [e2] at S2
      simp only [zkp] at S1 S2
      unfold nv at S1 S2
      clear e1 e2 hI2
      go_wp2_with fail
      refine (S1 _ rX).mono ?_
      rintro e x1 ⟨rfl, g1⟩
      go_wp2_with fail
      refine (S2 _ g1).mono ?_
      rintro e x2 ⟨rfl, g2⟩
      go_wp2_with fail
      refine (cA _).mono ?_
      rintro e x3 ⟨rfl, g3⟩
      go_wp2_with fail
      go_ret
      exact ⟨rfl, za FY3 (za g1 (za g2 g3))⟩
    case' true =>
      obtain ⟨eb, e1, e2, e3⟩ := T2
      rw [if_pos rfl] at e1 e2 e3
      unfold spC at e1 e2 e3
      unfold spQ at e1
      rw [if_pos rfl, Int.toNat_natCast] at e1 e2 e3
      rw [if_pos rfl] at e1
      unfold zen zcw spC at eb
      rw [if_pos rfl, Int.toNat_natCast] at eb
      have eb2 := eb.symm
      simp only [Bool.and_eq_true] at eb2
      obtain ⟨⟨-, -, hg⟩, hh⟩ := eb2
      obtain ⟨oR, lfR, bR, kR⟩ := dC.out
      obtain ⟨sm1, sm2, sm3, sm4⟩ := split_math HP.out.1 HP.out.2.1 HP.out.2.2.2.2.1 (id := 254) oR hh (piv_leaf oR lfR kR hh) hg (zeu P j) (.inl rfl)
      obtain ⟨hf1, hf2⟩ := half_fits3 oR lfR bR hh
      obtain ⟨z, hz, hz2, hlt⟩ := sm4 Ky Hk.out
      have hv := halfN_findE oR lfR hh Ky
      rw [← e1] at sm1 sm2 hz hlt
      have hms : P2.ms = (zeu P j).ms := by rw [e1]; rfl
      rw [← e2] at hf1
      rw [← e3] at hf2
      unfold halfN at hv
      rw [← e2, ← e3] at hv
      have oP2 : OkL P2.ms := by rw [hms]; exact dP.out.2.1
      have okp2 : OkP P2.ps := ((zaI (show P2.lf = false by rw [e1]; exact HP.out.2.1)).1 sm1.1).2.1.2.2
      have oe1 : OkE C2.es := ((zcd (show C2.lf = true by rw [e2]; unfold hl1; rw [lfR]; rfl)).1 hf1.1).2.2.2
      have oe2 : OkE N2.es := ((zcd (show N2.lf = true by rw [e3]; unfold hl2; rw [lfR]; rfl)).1 hf2.1).2.2.2
      have FT := zb (And.intro sm1 (And.intro hf1 hf2))
      have HE : Hid ((zu Ky < zu (zaU (zbo P B j)) → app1 (zaj P2.ms Ky) (zO C2.es Ky) = o) ∧ (¬ zu Ky < zu (zaU (zbo P B j)) → app1 (zaj P2.ms Ky) (zO N2.es Ky) = o)) := zb ⟨fun h => by
        rw [if_pos h] at hv; rw [hv, hms]; exact eK, fun h => by
        rw [if_neg h] at hv; rw [hv, hms]; exact eK⟩
      have hne2 : ((vp2.n2 : Int) != (va.n2 : Int) + 1) = false := by
        have := hP4.out.l2; have := l2.out
        simp; omega
      have hs100 := nA.out.s2
      have hlen := hP4.out.l2
      obtain ⟨kk, hkk⟩ : ∃ k : Nat, zbN P2.ps (zu Ky) = k := ⟨_, rfl⟩
      rw [hkk] at hz hlt
      have hknn : kk < vp2.n2 := by omega
      have hpos2 : (0 : Int) < (vp2.n2 : Int) := by omega
      have hr1 : (kk : Int) % (vp2.n2 : Int) = (kk : Int) := Int.emod_eq_of_lt (by omega) (by omega)
      have hkz : (kk : Int) < (vp2.n2 : Int) := by omega
      have hrt : (kk : Int).tmod (vp2.n2 : Int) = (kk : Int) := by rw [Int.tmod_eq_emod_of_nonneg (by omega)]; exact hr1
      have hnz : ¬ vp2.n2 = 0 := by omega
      obtain ⟨ab, ao, eA2, hcz⟩ : ∃ ab ao, vp2.A2 = some ⟨ab, ao, none⟩ ∧ ∀ W, Fr Y3 W → W.cell? ⟨ab, ao + kk, none⟩ = some (.int .i64 z) := by
        obtain ⟨ab, ao, ea, -, hc⟩ := hP4.out.h2 kk (.int .i64 z) (by simp [zS, hz])
        exact ⟨ab, ao, ea, fun W h => by rw [h.cell (World.block_lt_of_cell? _ _ hc), hc]⟩
      have HK := zb hkk
      have cKi := fun (W : World) (f : Fr Y3 W) => rkid_at (W0 := W) (c := vp2.c3) (k := Ky) ((hP4.out.fr f).h3.has) (Nat.le_refl _) hP4.out.l3 hP4.out.s3 okp2 wK oK (ze W)
      rw [hkk] at cKi
      have HZ := zb hz2
      clear hz hlt hkk hlen sm1 sm2 sm3 sm4 hv hf1 hf2 eb e1 e2 e3 hg hh oR lfR bR kR hz2 hI2 hms eK
      have ldb17 : ∀ W, Fr Y3 W → (ldS 27 (.pointer (some ⟨w7.heap.size, 0, none⟩))).run Tryz.prog W = .ok (.agg vp2.cells.toArray) W := fun W h => zq.ld rfl (b17.below h b17.lt)
      have ldb18 : ∀ W, Fr Y3 W → (ldS 27 (.pointer (some ⟨w7.heap.size + 1, 0, none⟩))).run Tryz.prog W = .ok (.agg vc2.cells.toArray) W := fun W h => zq.ld rfl (b18.below h b18.lt)
      have ldb22 : ∀ W, Fr Y3 W → (ldS 27 (.pointer (some ⟨w10.heap.size, 0, none⟩))).run Tryz.prog W = .ok (.agg vn2.cells.toArray) W := fun W h => zq.ld rfl (b22.below h b22.lt)
      have rX := ze Y3
      have c17 : ∀ W, Fr Y3 W → W.cell? ⟨w7.heap.size, 2, none⟩ = some (.slice vp2.A2 vp2.n2 vp2.c2) := fun W h => (b17.below h b17.lt).cell 2
      have c11 : ∀ W, Fr Y3 W → W.cell? ⟨w1.heap.size, 2, none⟩ = some (.slice va.A2 va.n2 va.c2) := fun W h => (b11.below h b11.lt).cell 2
      have cF1 := fun W (h : Fr Y3 W) => (zdB (b := true) (hC4.out.fr h).nh ⟨fun _ => FT.out.2.1, fun _ => rfl⟩)
      have cF2 := fun W (h : Fr Y3 W) => (zdB (b := true) (hN4.out.fr h).nh ⟨fun _ => FT.out.2.2, fun _ => rfl⟩)
      have cF3 := fun W (h : Fr Y3 W) => (zdB (b := true) (hP4.out.fr h).nh ⟨fun _ => FT.out.1, fun _ => rfl⟩)
      unfold nv at cF1 cF2 cF3
      go_wp2_with fail
      refine (cF1 _ rX).mono ?_
      rintro e x1 ⟨rfl, g1⟩
      go_wp2_with fail
      refine (cF2 _ g1).mono ?_
      rintro e x2 ⟨rfl, g2⟩
      have g2 := za g1 g2
      go_wp2_with fail
      refine (cF3 _ g2).mono ?_
      rintro e x3 ⟨rfl, g3⟩
      have g3 := za g2 g3
      have hcz := fun W h => hcz W (za g3 h)
      have cKi := fun W h => cKi W (za g3 h)
      clear cF1 cF2 cF3 ldb17 ldb18 ldb22 rX g1 g2
      have Fx3 := za FY3 g3
      replace b11 := b11.below g3 b11.lt
      replace b13 := b13.below g3 b13.lt
      replace b14 := b14.below g3 b14.lt
      replace b15 := b15.below g3 b15.lt
      replace b17 := b17.below g3 b17.lt
      replace b18 := b18.below g3 b18.lt
      replace b22 := b22.below g3 b22.lt
      replace nA := zb (nA.out.fr g3)
      replace nB := zb (nB.out.fr g3)
      replace hP4 := zb (hP4.out.fr g3)
      replace hC4 := zb (hC4.out.fr g3)
      replace hN4 := zb (hN4.out.fr g3)
      have ldb18 : ∀ W, Fr x3 W → (ldS 27 (.pointer (some ⟨w7.heap.size + 1, 0, none⟩))).run Tryz.prog W = .ok (.agg vc2.cells.toArray) W := fun W h => zq.ld rfl (b18.below h b18.lt)
      have rX := ze x3
      have f24base := ze x3
      have z14 := b14.lt
      have z15 := b15.lt
      have z17 := b17.lt
      have zF3 := Fx3.size
      have hP5 := zb (hP4.out.weak (ok' := fun b => b < x3.heap.size) fun b hb _ => hb)
      have hN5 := zb (hN4.out.weak (ok' := fun b => b < x3.heap.size) fun b hb _ => hb)
      obtain ⟨V7, hV7, fV7, eb24⟩ : ∃ V, World.alloc (x3) (.cells zh.cells.toArray 27) = V ∧ Fr x3 V ∧ Arr V (x3.heap.size) 27 zh.cells.toArray := ⟨_, rfl, zf (ze _) _, Arr.new _ _ _⟩
      rw [zeroN_cells'] at hV7
      have tokb24 : Hid (0 < 1) := zb (by decide)
      go_upto_region 19 with (first
        | (clear tokb24; refine zp (ds := vc2.cells) zaw rfl (.tmp 24) (.tmp 136) rfl (x3.heap.size) 0 rfl rfl rfl (za6 _) eb24 (zbi _) (zk _ _ (Nat.le_of_eq rfl)) ?_; intro Ub24 b24 ub24)
        | fail)
      have fUb24 : Fr x3 Ub24 := ub24.fr fV7 (Nat.le_refl _)
      try simp only [Act.put]
      clear hV7 fV7 ub24
      have FUb24 := za Fx3 fUb24
      replace b11 := b11.below fUb24 b11.lt
      replace b13 := b13.below fUb24 b13.lt
      replace b14 := b14.below fUb24 b14.lt
      replace b15 := b15.below fUb24 b15.lt
      replace b17 := b17.below fUb24 b17.lt
      replace b18 := b18.below fUb24 b18.lt
      replace b22 := b22.below fUb24 b22.lt
      replace nA := zb (nA.out.fr fUb24)
      replace nB := zb (nB.out.fr fUb24)
      replace hP4 := zb (hP4.out.fr fUb24)
      replace hC4 := zb (hC4.out.fr fUb24)
      replace hN4 := zb (hN4.out.fr fUb24)
      replace hP5 := zb (hP5.out.fr fUb24)
      replace hN5 := zb (hN5.out.fr fUb24)
      replace f24base := za f24base fUb24
      clear c17 c11 hne2 ldb18 rX
      have ldb14 : ∀ W, Fr Ub24 W → (ldS 33 (.pointer (some ⟨w4.heap.size, 0, none⟩))).run Tryz.prog W = .ok (.agg (kc Ky).toArray) W := fun W h => zaf.ld (zl _) (b14.below h b14.lt)
      have rX := ze Ub24
      have c17 : ∀ W, Fr Ub24 W → W.cell? ⟨w7.heap.size, 2, none⟩ = some (.slice vp2.A2 vp2.n2 vp2.c2) := fun W h => (b17.below h b17.lt).cell 2
      have c17' : ∀ W, Fr Ub24 W → W.cell? ⟨w7.heap.size, 3, none⟩ = some (.slice vp2.A3 vp2.n3 vp2.c3) := fun W h => (b17.below h b17.lt).cell 3
      rw [eA2] at c17
      have hcz := fun W h => hcz W (za f24base h)
      have cKi := fun W h => cKi W (za f24base h)
      have FD : Fr Ub24 Ub24.drew := zn rX
      by_cases hc : zu Ky < zu (zaU (zbo P B j))
      case' pos =>
        have hz4 : (z == 254) = false := by have := HZ.out; rw [beq_eq_false_iff_ne]; exact fun e => by have h := this.1 e; omega
        refine wp_region_noPanic ?_
        refine wp_region_held_drew (S := fun W => Fr Ub24 W) (by kernel_rfl) FD (fun hHeld => ?_)
        change wpAnyH _ _ _ _ _ _ _ _ _
        generalize Ub24.drew = X0 at *
        refine wpAnyH_take (i := 0) (v := ?_) rfl (by kernel_rfl) (by kernel_rfl) (by kernel_rfl) (fun _ _ _ h => h) (Or.inl ⟨by rfl, ?_⟩) (by assumption) ?_
        rotate_left
        · intro w' hSw
          try dsimp only at hSw
          go_simp
          try with_reducible rfl
        try simp only [List.getElem_toArray, List.getElem_cons_zero, Act.put, List.setIfInBounds_toArray, List.set_cons_zero, List.set_cons_succ]
        refine wpAnyH_take (i := 1) (v := ?_) rfl (by kernel_rfl) (by kernel_rfl) (by kernel_rfl) (fun _ _ _ h => h) (Or.inl ⟨by rfl, ?_⟩) (by assumption) ?_
        rotate_left
        · intro w' hSw
          try dsimp only at hSw
          go_simp
          try with_reducible rfl
        try simp only [List.getElem_toArray, List.getElem_cons_succ, List.getElem_cons_zero, Act.put, List.setIfInBounds_toArray, List.set_cons_zero, List.set_cons_succ]
        refine wpAnyH_take (i := 2) (v := ?_) rfl (by kernel_rfl) (by kernel_rfl) (by kernel_rfl) (fun _ _ _ h => h) (Or.inl ⟨by rfl, ?_⟩) (by assumption) ?_
        rotate_left
        · intro w' hSw
          try dsimp only at hSw
          go_simp
          try with_reducible rfl
        try simp only [List.getElem_toArray, List.getElem_cons_succ, List.getElem_cons_zero, Act.put, List.setIfInBounds_toArray, List.set_cons_zero, List.set_cons_succ]
        refine wpAnyH_take (i := 3) (v := ?_) rfl (by kernel_rfl) (by kernel_rfl) (by kernel_rfl) (fun _ _ _ h => h) (Or.inl ⟨by rfl, ?_⟩) (by assumption) ?_
        rotate_left
        · intro w' hSw
          try dsimp only at hSw
          go_simp
          try with_reducible rfl
        try simp only [List.getElem_toArray, List.getElem_cons_succ, List.getElem_cons_zero, Act.put, List.setIfInBounds_toArray, List.set_cons_zero, List.set_cons_succ]
        refine wpAnyH_take (i := 4) (v := ?_) rfl (by kernel_rfl) (by kernel_rfl) (by kernel_rfl) (fun _ _ _ h => h) (Or.inl ⟨by rfl, ?_⟩) (by assumption) ?_
        rotate_left
        · intro w' hSw
          try dsimp only at hSw
          go_simp
          try with_reducible rfl
        try simp only [List.getElem_toArray, List.getElem_cons_succ, List.getElem_cons_zero, Act.put, List.setIfInBounds_toArray, List.set_cons_zero, List.set_cons_succ]
        refine wpAnyH_take (i := 6) (v := ?_) rfl (by kernel_rfl) (by kernel_rfl) (by kernel_rfl) (fun _ _ _ h => h) (Or.inl ⟨by rfl, ?_⟩) (by assumption) ?_
        rotate_left
        · intro w' hSw
          try dsimp only at hSw
          go_simp
          try with_reducible rfl
        try simp only [List.getElem_toArray, List.getElem_cons_succ, List.getElem_cons_zero, Act.put, List.setIfInBounds_toArray, List.set_cons_zero, List.set_cons_succ]
        refine wpAnyH_take (i := 7) (v := ?_) rfl (by kernel_rfl) (by kernel_rfl) (by kernel_rfl) (fun _ _ _ h => h) (Or.inl ⟨by rfl, ?_⟩) (by assumption) ?_
        rotate_left
        · intro w' hSw
          try dsimp only at hSw
          go_simp
          try with_reducible rfl
        try simp only [List.getElem_toArray, List.getElem_cons_succ, List.getElem_cons_zero, Act.put, List.setIfInBounds_toArray, List.set_cons_zero, List.set_cons_succ]
        refine wpAnyH_take (i := 8) (v := ?_) rfl (by kernel_rfl) (by kernel_rfl) (by kernel_rfl) (fun _ _ _ h => h) (Or.inl ⟨by rfl, ?_⟩) (by assumption) ?_
        rotate_left
        · intro w' hSw
          try dsimp only at hSw
          go_simp
          try with_reducible rfl
        try simp only [List.getElem_toArray, List.getElem_cons_succ, List.getElem_cons_zero, Act.put, List.setIfInBounds_toArray, List.set_cons_zero, List.set_cons_succ]
        refine wpAnyH_ready (rs := [5]) (by kernel_rfl) (by simp) ?_
        refine AllReadyH.cons rfl (fun K hK0 => ?_) AllReadyH.nil
        go_simp
        refine (cKi X0 FD).mono ?_
        rintro e X1 ⟨rfl, z1⟩
        have S1 := za FD z1
        go_simp
        refine hK0.out _ _ S1 (fun _ => ?_)
        clear hK0 K
        try simp only [List.getElem_toArray, List.getElem_cons_succ, List.getElem_cons_zero, Act.put, List.setIfInBounds_toArray, List.set_cons_zero, List.set_cons_succ]
        refine wpAnyH_take (i := 9) (v := ?_) rfl (by kernel_rfl) (by kernel_rfl) (by kernel_rfl) (fun _ _ _ h => h) (Or.inl ⟨by rfl, ?_⟩) (by assumption) ?_
        rotate_left
        · intro w' hSw
          try dsimp only at hSw
          go_simp
          try with_reducible rfl
        try simp only [List.getElem_toArray, List.getElem_cons_succ, List.getElem_cons_zero, Act.put, List.setIfInBounds_toArray, List.set_cons_zero, List.set_cons_succ]
        refine wpAnyH_take (i := 10) (v := ?_) rfl (by kernel_rfl) (by kernel_rfl) (by kernel_rfl) (fun _ _ _ h => h) (Or.inl ⟨by rfl, ?_⟩) (by assumption) ?_
        rotate_left
        · intro w' hSw
          try dsimp only at hSw
          go_simp
          try with_reducible rfl
        try simp only [List.getElem_toArray, List.getElem_cons_succ, List.getElem_cons_zero, Act.put, List.setIfInBounds_toArray, List.set_cons_zero, List.set_cons_succ]
        refine wpAnyH_take (i := 11) (v := ?_) rfl (by kernel_rfl) (by kernel_rfl) (by kernel_rfl) (fun _ _ _ h => h) (Or.inl ⟨by rfl, ?_⟩) (by assumption) ?_
        rotate_left
        · intro w' hSw
          try dsimp only at hSw
          go_simp
          try with_reducible rfl
        try simp only [List.getElem_toArray, List.getElem_cons_succ, List.getElem_cons_zero, Act.put, List.setIfInBounds_toArray, List.set_cons_zero, List.set_cons_succ]
        refine wpAnyH_take (i := 12) (v := .bool false) rfl (by kernel_rfl) (by kernel_rfl) (by kernel_rfl) (fun _ _ _ h => h) (Or.inl ⟨by rfl, ?_⟩) (by assumption) ?_
        · intro w' hSw
          try dsimp only at hSw
          try go_simp
          all_goals first | done | with_reducible rfl | omega | assumption | (simp; omega)
        try simp only [List.getElem_toArray, List.getElem_cons_succ, List.getElem_cons_zero, Act.put, List.setIfInBounds_toArray, List.set_cons_zero, List.set_cons_succ]
        refine wpAnyH_done (by kernel_rfl) ?_ _
        refine NoPanic.normal ?_
        clear hHeld
        go_upto_region 21 with fail
        try simp only [Act.put]
        have S1 := za rX (za (ze _) S1)
        clear ldb14 c17 c17' cKi hcz FD z1
        have FX1 := za FUb24 S1
        replace b11 := b11.below S1 b11.lt
        replace b13 := b13.below S1 b13.lt
        replace b14 := b14.below S1 b14.lt
        replace b15 := b15.below S1 b15.lt
        replace b17 := b17.below S1 b17.lt
        replace b18 := b18.below S1 b18.lt
        replace b22 := b22.below S1 b22.lt
        replace b24 := b24.below S1 b24.lt
        replace nA := zb (nA.out.fr S1)
        replace nB := zb (nB.out.fr S1)
        replace hP4 := zb (hP4.out.fr S1)
        replace hC4 := zb (hC4.out.fr S1)
        replace hN4 := zb (hN4.out.fr S1)
        replace hP5 := zb (hP5.out.fr S1)
        replace hN5 := zb (hN5.out.fr S1)
        replace f24base := za f24base S1
        have hcc := HE.out.1 hc
        clear rX
        have ldb24 : ∀ W, Fr X1 W → (ldS 27 (.pointer (some ⟨x3.heap.size, 0, none⟩))).run Tryz.prog W = .ok (.agg vc2.cells.toArray) W := fun W h => zq.ld rfl (b24.below h b24.lt)
        have ldb14 : ∀ W, Fr X1 W → (ldS 33 (.pointer (some ⟨w4.heap.size, 0, none⟩))).run Tryz.prog W = .ok (.agg (kc Ky).toArray) W := fun W h => zaf.ld (zl _) (b14.below h b14.lt)
        have ldb17 : ∀ W, Fr X1 W → (ldS 27 (.pointer (some ⟨w7.heap.size, 0, none⟩))).run Tryz.prog W = .ok (.agg vp2.cells.toArray) W := fun W h => zq.ld rfl (b17.below h b17.lt)
        have rX := ze X1
        obtain ⟨Q3, hQ3, fQ3, aQ3⟩ : ∃ V, World.alloc X1 (.cells vp2.cells.toArray 27) = V ∧ Fr X1 V ∧ Arr V X1.heap.size 27 vp2.cells.toArray := ⟨_, rfl, zf (ze _) _, Arr.new _ _ _⟩
        have cW := cV X1 vc2 (C2) vp2 (P2) Q3 fQ3 aQ3 hC4.out hP4.out oe1 oP2
        rw [HE.out.1 hc] at cW
        unfold zmv at cW
        rw [HO.out.1, HO.out.2] at cW
        unfold vv nv at cW
        have fdQ2 := nodef vp2
        have h5Q2 : (NV.cells vp2).length = 5 := rfl
        go_wp2_with fail
        try simp only [fdQ2]
        refine cW.mono ?_
        rintro e w12 ⟨rfl, f12⟩
        have f12 := za fQ3 f12
        clear cW aQ3 hQ3 fQ3 ldb24 ldb14 ldb17 rX
        have Fw12 := za FX1 f12
        replace b11 := b11.below f12 b11.lt
        replace b13 := b13.below f12 b13.lt
        replace b14 := b14.below f12 b14.lt
        replace b15 := b15.below f12 b15.lt
        replace b17 := b17.below f12 b17.lt
        replace b18 := b18.below f12 b18.lt
        replace b22 := b22.below f12 b22.lt
        replace b24 := b24.below f12 b24.lt
        replace nA := zb (nA.out.fr f12)
        replace nB := zb (nB.out.fr f12)
        replace hP4 := zb (hP4.out.fr f12)
        replace hC4 := zb (hC4.out.fr f12)
        replace hN4 := zb (hN4.out.fr f12)
        replace hP5 := zb (hP5.out.fr f12)
        replace hN5 := zb (hN5.out.fr f12)
        replace f24base := za f24base f12
        obtain ⟨V8, hV8, fV8, eb25⟩ : ∃ V, World.alloc (w12) (.cells (vc zE).toArray 37) = V ∧ Fr w12 V ∧ Arr V (w12.heap.size) 37 (vc zE).toArray := ⟨_, rfl, zf (ze _) _, Arr.new _ _ _⟩
        rw [zc7] at hV8
        have tokb25 : Hid (0 < 1) := zb (by decide)
        go_upto_region 22 with (first
          | (clear tokb25; refine zp (ds := (vc x)) zad rfl (.tmp 25) (.tmp 157) rfl (w12.heap.size) 0 rfl rfl hlx.out (zar _) eb25 (Nat.le_of_eq hz17.out.symm) (zk _ _ (Nat.le_of_eq (hz17.out.trans hlx.out.symm))) ?_; intro Ub25 b25 ub25)
          | fail)
        have fUb25 : Fr w12 Ub25 := ub25.fr fV8 (Nat.le_refl _)
        try simp only [Act.put]
        clear hV8 fV8 ub25
        have FUb25 := za Fw12 fUb25
        replace b11 := b11.below fUb25 b11.lt
        replace b13 := b13.below fUb25 b13.lt
        replace b14 := b14.below fUb25 b14.lt
        replace b15 := b15.below fUb25 b15.lt
        replace b17 := b17.below fUb25 b17.lt
        replace b18 := b18.below fUb25 b18.lt
        replace b22 := b22.below fUb25 b22.lt
        replace b24 := b24.below fUb25 b24.lt
        replace nA := zb (nA.out.fr fUb25)
        replace nB := zb (nB.out.fr fUb25)
        replace hP4 := zb (hP4.out.fr fUb25)
        replace hC4 := zb (hC4.out.fr fUb25)
        replace hN4 := zb (hN4.out.fr fUb25)
        replace hP5 := zb (hP5.out.fr fUb25)
        replace hN5 := zb (hN5.out.fr fUb25)
        replace f24base := za f24base fUb25
        have ldb25 : ∀ W, Fr Ub25 W → (ldS 37 (.pointer (some ⟨w12.heap.size, 0, none⟩))).run Tryz.prog W = .ok (.agg (vc x).toArray) W := fun W h => zbs.ld hlx.out (b25.below h b25.lt)
        have ldb15 : ∀ W, Fr Ub25 W → (ldS 37 (.pointer (some ⟨w5.heap.size, 0, none⟩))).run Tryz.prog W = .ok (.agg (vc x).toArray) W := fun W h => zbs.ld hlx.out (b15.below h b15.lt)
        have rX := ze Ub25
        have qV : ∀ V, (binOp .eql 37 (.agg (vc x).toArray) (.agg (vc x).toArray)).run Tryz.prog V = .ok (.bool true) V := fun V => by have := znq wx wx V; rwa [decide_eq_true rfl] at this
        have hbb : (bo == bo) = true := by simp
        go_wp2_with fail
        refine (cA _).mono ?_
        rintro e w13 ⟨rfl, f13⟩
        go_wp2_with fail
        go_ret
        exact ⟨rfl, za FUb25 f13⟩
      case' neg =>
        have hz4 : (z == 254) = true := by have := HZ.out; rw [beq_iff_eq]; exact this.2 (by omega)
        have hc' := hc
        have ldb22 : ∀ W, Fr Ub24 W → (ldS 27 (.pointer (some ⟨w10.heap.size, 0, none⟩))).run Tryz.prog W = .ok (.agg vn2.cells.toArray) W := fun W h => zq.ld rfl (b22.below h b22.lt)
        refine wp_region_noPanic ?_
        refine wp_region_held_drew (S := fun W => Fr Ub24 W) (by kernel_rfl) FD (fun hHeld => ?_)
        change wpAnyH _ _ _ _ _ _ _ _ _
        generalize Ub24.drew = X0 at *
        refine wpAnyH_take (i := 0) (v := ?_) rfl (by kernel_rfl) (by kernel_rfl) (by kernel_rfl) (fun _ _ _ h => h) (Or.inl ⟨by rfl, ?_⟩) (by assumption) ?_
        rotate_left
        · intro w' hSw
          try dsimp only at hSw
          go_simp
          try with_reducible rfl
        try simp only [List.getElem_toArray, List.getElem_cons_zero, Act.put, List.setIfInBounds_toArray, List.set_cons_zero, List.set_cons_succ]
        refine wpAnyH_take (i := 1) (v := ?_) rfl (by kernel_rfl) (by kernel_rfl) (by kernel_rfl) (fun _ _ _ h => h) (Or.inl ⟨by rfl, ?_⟩) (by assumption) ?_
        rotate_left
        · intro w' hSw
          try dsimp only at hSw
          go_simp
          try with_reducible rfl
        try simp only [List.getElem_toArray, List.getElem_cons_succ, List.getElem_cons_zero, Act.put, List.setIfInBounds_toArray, List.set_cons_zero, List.set_cons_succ]
        refine wpAnyH_take (i := 2) (v := ?_) rfl (by kernel_rfl) (by kernel_rfl) (by kernel_rfl) (fun _ _ _ h => h) (Or.inl ⟨by rfl, ?_⟩) (by assumption) ?_
        rotate_left
        · intro w' hSw
          try dsimp only at hSw
          go_simp
          try with_reducible rfl
        try simp only [List.getElem_toArray, List.getElem_cons_succ, List.getElem_cons_zero, Act.put, List.setIfInBounds_toArray, List.set_cons_zero, List.set_cons_succ]
        refine wpAnyH_take (i := 3) (v := ?_) rfl (by kernel_rfl) (by kernel_rfl) (by kernel_rfl) (fun _ _ _ h => h) (Or.inl ⟨by rfl, ?_⟩) (by assumption) ?_
        rotate_left
        · intro w' hSw
          try dsimp only at hSw
          go_simp
          try with_reducible rfl
        try simp only [List.getElem_toArray, List.getElem_cons_succ, List.getElem_cons_zero, Act.put, List.setIfInBounds_toArray, List.set_cons_zero, List.set_cons_succ]
        refine wpAnyH_take (i := 4) (v := ?_) rfl (by kernel_rfl) (by kernel_rfl) (by kernel_rfl) (fun _ _ _ h => h) (Or.inl ⟨by rfl, ?_⟩) (by assumption) ?_
        rotate_left
        · intro w' hSw
          try dsimp only at hSw
          go_simp
          try with_reducible rfl
        try simp only [List.getElem_toArray, List.getElem_cons_succ, List.getElem_cons_zero, Act.put, List.setIfInBounds_toArray, List.set_cons_zero, List.set_cons_succ]
        refine wpAnyH_take (i := 6) (v := ?_) rfl (by kernel_rfl) (by kernel_rfl) (by kernel_rfl) (fun _ _ _ h => h) (Or.inl ⟨by rfl, ?_⟩) (by assumption) ?_
        rotate_left
        · intro w' hSw
          try dsimp only at hSw
          go_simp
          try with_reducible rfl
        try simp only [List.getElem_toArray, List.getElem_cons_succ, List.getElem_cons_zero, Act.put, List.setIfInBounds_toArray, List.set_cons_zero, List.set_cons_succ]
        refine wpAnyH_take (i := 7) (v := ?_) rfl (by kernel_rfl) (by kernel_rfl) (by kernel_rfl) (fun _ _ _ h => h) (Or.inl ⟨by rfl, ?_⟩) (by assumption) ?_
        rotate_left
        · intro w' hSw
          try dsimp only at hSw
          go_simp
          try with_reducible rfl
        try simp only [List.getElem_toArray, List.getElem_cons_succ, List.getElem_cons_zero, Act.put, List.setIfInBounds_toArray, List.set_cons_zero, List.set_cons_succ]
        refine wpAnyH_take (i := 8) (v := ?_) rfl (by kernel_rfl) (by kernel_rfl) (by kernel_rfl) (fun _ _ _ h => h) (Or.inl ⟨by rfl, ?_⟩) (by assumption) ?_
        rotate_left
        · intro w' hSw
          try dsimp only at hSw
          go_simp
          try with_reducible rfl
        try simp only [List.getElem_toArray, List.getElem_cons_succ, List.getElem_cons_zero, Act.put, List.setIfInBounds_toArray, List.set_cons_zero, List.set_cons_succ]
        refine wpAnyH_ready (rs := [5]) (by kernel_rfl) (by simp) ?_
        refine AllReadyH.cons rfl (fun K hK0 => ?_) AllReadyH.nil
        go_simp
        refine (cKi X0 FD).mono ?_
        rintro e X1 ⟨rfl, z1⟩
        have S1 := za FD z1
        go_simp
        refine hK0.out _ _ S1 (fun _ => ?_)
        clear hK0 K
        try simp only [List.getElem_toArray, List.getElem_cons_succ, List.getElem_cons_zero, Act.put, List.setIfInBounds_toArray, List.set_cons_zero, List.set_cons_succ]
        refine wpAnyH_take (i := 9) (v := ?_) rfl (by kernel_rfl) (by kernel_rfl) (by kernel_rfl) (fun _ _ _ h => h) (Or.inl ⟨by rfl, ?_⟩) (by assumption) ?_
        rotate_left
        · intro w' hSw
          try dsimp only at hSw
          go_simp
          try with_reducible rfl
        try simp only [List.getElem_toArray, List.getElem_cons_succ, List.getElem_cons_zero, Act.put, List.setIfInBounds_toArray, List.set_cons_zero, List.set_cons_succ]
        refine wpAnyH_take (i := 10) (v := ?_) rfl (by kernel_rfl) (by kernel_rfl) (by kernel_rfl) (fun _ _ _ h => h) (Or.inl ⟨by rfl, ?_⟩) (by assumption) ?_
        rotate_left
        · intro w' hSw
          try dsimp only at hSw
          go_simp
          try with_reducible rfl
        try simp only [List.getElem_toArray, List.getElem_cons_succ, List.getElem_cons_zero, Act.put, List.setIfInBounds_toArray, List.set_cons_zero, List.set_cons_succ]
        refine wpAnyH_take (i := 11) (v := ?_) rfl (by kernel_rfl) (by kernel_rfl) (by kernel_rfl) (fun _ _ _ h => h) (Or.inl ⟨by rfl, ?_⟩) (by assumption) ?_
        rotate_left
        · intro w' hSw
          try dsimp only at hSw
          go_simp
          try with_reducible rfl
        try simp only [List.getElem_toArray, List.getElem_cons_succ, List.getElem_cons_zero, Act.put, List.setIfInBounds_toArray, List.set_cons_zero, List.set_cons_succ]
        refine wpAnyH_take (i := 12) (v := .bool true) rfl (by kernel_rfl) (by kernel_rfl) (by kernel_rfl) (fun _ _ _ h => h) (Or.inl ⟨by rfl, ?_⟩) (by assumption) ?_
        · intro w' hSw
          try dsimp only at hSw
          try go_simp
          all_goals first | done | with_reducible rfl | omega | assumption | (simp; omega)
        try simp only [List.getElem_toArray, List.getElem_cons_succ, List.getElem_cons_zero, Act.put, List.setIfInBounds_toArray, List.set_cons_zero, List.set_cons_succ]
        refine wpAnyH_done (by kernel_rfl) ?_ _
        refine NoPanic.normal ?_
        clear hHeld
        go_upto_region 20 with fail
        try simp only [Act.put]
        have S1 := za rX (za (ze _) S1)
        clear ldb14 ldb22 c17 c17' cKi hcz FD z1 rX
        have FX1 := za FUb24 S1
        replace b11 := b11.below S1 b11.lt
        replace b13 := b13.below S1 b13.lt
        replace b14 := b14.below S1 b14.lt
        replace b15 := b15.below S1 b15.lt
        replace b17 := b17.below S1 b17.lt
        replace b18 := b18.below S1 b18.lt
        replace b22 := b22.below S1 b22.lt
        replace b24 := b24.below S1 b24.lt
        replace nA := zb (nA.out.fr S1)
        replace nB := zb (nB.out.fr S1)
        replace hP4 := zb (hP4.out.fr S1)
        replace hC4 := zb (hC4.out.fr S1)
        replace hN4 := zb (hN4.out.fr S1)
        replace hP5 := zb (hP5.out.fr S1)
        replace hN5 := zb (hN5.out.fr S1)
        replace f24base := za f24base S1
        have ldb22 : ∀ W, Fr X1 W → (ldS 27 (.pointer (some ⟨w10.heap.size, 0, none⟩))).run Tryz.prog W = .ok (.agg vn2.cells.toArray) W := fun W h => zq.ld rfl (b22.below h b22.lt)
        have rX := ze X1
        have tok1 : Hid (0 < 1) := zb (by decide)
        go_upto_region 21 with (first
          | (clear tok1; refine zp (ds := vn2.cells) zaw rfl (.tmp 24) (.tmp 150) rfl x3.heap.size 0 rfl rfl rfl (za6 _) b24 (zbi _) (zk _ _ (Nat.le_of_eq rfl)) ?_; intro Y5 m24 u5)
          | fail)
        try simp only [Act.put]
        have FY5 : Fr w Y5 := u5.fr FX1 zF3
        have m14 := u5.other b14 (by omega)
        have m15 := u5.other b15 (by omega)
        have m17 := u5.other b17 (by omega)
        have hP6 : Hid (NP Y5 tt vp2 P2) := zb ((hP5.out.kept u5 (fun h => by have := h; omega)).weak fun _ _ _ => trivial)
        have hN6 : Hid (NP Y5 tt vn2 N2) := zb ((hN5.out.kept u5 (fun h => by have := h; omega)).weak fun _ _ _ => trivial)
        clear b11 b13 b14 b15 b17 b18 b22 b24 hP5 hN5 hP4 hC4 hN4 nA nB ldb22 rX f24base
        have ldm24 : ∀ W, Fr Y5 W → (ldS 27 (.pointer (some ⟨x3.heap.size, 0, none⟩))).run Tryz.prog W = .ok (.agg vn2.cells.toArray) W := fun W h => zq.ld rfl (m24.below h m24.lt)
        have ldm14 : ∀ W, Fr Y5 W → (ldS 33 (.pointer (some ⟨w4.heap.size, 0, none⟩))).run Tryz.prog W = .ok (.agg (kc Ky).toArray) W := fun W h => zaf.ld (zl _) (m14.below h m14.lt)
        have ldm17 : ∀ W, Fr Y5 W → (ldS 27 (.pointer (some ⟨w7.heap.size, 0, none⟩))).run Tryz.prog W = .ok (.agg vp2.cells.toArray) W := fun W h => zq.ld rfl (m17.below h m17.lt)
        have rX := ze Y5
        obtain ⟨Q3, hQ3, fQ3, aQ3⟩ : ∃ V, World.alloc Y5 (.cells vp2.cells.toArray 27) = V ∧ Fr Y5 V ∧ Arr V Y5.heap.size 27 vp2.cells.toArray := ⟨_, rfl, zf (ze _) _, Arr.new _ _ _⟩
        have cW := cV Y5 vn2 (N2) vp2 (P2) Q3 fQ3 aQ3 hN6.out hP6.out oe2 oP2
        rw [HE.out.2 (by omega)] at cW
        unfold zmv at cW
        rw [HO.out.1, HO.out.2] at cW
        unfold vv nv at cW
        have fdQ2 := nodef vp2
        have h5Q2 : (NV.cells vp2).length = 5 := rfl
        go_wp2_with fail
        try simp only [fdQ2]
        refine cW.mono ?_
        rintro e w12 ⟨rfl, f12⟩
        have f12 := za fQ3 f12
        clear cW aQ3 hQ3 fQ3 ldm24 ldm14 ldm17 rX
        have Fw12 := za FY5 f12
        replace m24 := m24.below f12 m24.lt
        replace m14 := m14.below f12 m14.lt
        replace m15 := m15.below f12 m15.lt
        replace m17 := m17.below f12 m17.lt
        replace hP6 := zb (hP6.out.fr f12)
        replace hN6 := zb (hN6.out.fr f12)
        obtain ⟨V9, hV9, fV9, eb25⟩ : ∃ V, World.alloc (w12) (.cells (vc zE).toArray 37) = V ∧ Fr w12 V ∧ Arr V (w12.heap.size) 37 (vc zE).toArray := ⟨_, rfl, zf (ze _) _, Arr.new _ _ _⟩
        rw [zc7] at hV9
        have tokb25 : Hid (0 < 1) := zb (by decide)
        go_upto_region 22 with (first
          | (clear tokb25; refine zp (ds := (vc x)) zad rfl (.tmp 25) (.tmp 157) rfl (w12.heap.size) 0 rfl rfl hlx.out (zar _) eb25 (Nat.le_of_eq hz17.out.symm) (zk _ _ (Nat.le_of_eq (hz17.out.trans hlx.out.symm))) ?_; intro Ub25 b25 ub25)
          | fail)
        have fUb25 : Fr w12 Ub25 := ub25.fr fV9 (Nat.le_refl _)
        try simp only [Act.put]
        clear hV9 fV9 ub25
        have FUb25 := za Fw12 fUb25
        replace m24 := m24.below fUb25 m24.lt
        replace m14 := m14.below fUb25 m14.lt
        replace m15 := m15.below fUb25 m15.lt
        replace m17 := m17.below fUb25 m17.lt
        replace hP6 := zb (hP6.out.fr fUb25)
        replace hN6 := zb (hN6.out.fr fUb25)
        have ldb25 : ∀ W, Fr Ub25 W → (ldS 37 (.pointer (some ⟨w12.heap.size, 0, none⟩))).run Tryz.prog W = .ok (.agg (vc x).toArray) W := fun W h => zbs.ld hlx.out (b25.below h b25.lt)
        have ldm15 : ∀ W, Fr Ub25 W → (ldS 37 (.pointer (some ⟨w5.heap.size, 0, none⟩))).run Tryz.prog W = .ok (.agg (vc x).toArray) W := fun W h => zbs.ld hlx.out (m15.below h m15.lt)
        have rX := ze Ub25
        have qV : ∀ V, (binOp .eql 37 (.agg (vc x).toArray) (.agg (vc x).toArray)).run Tryz.prog V = .ok (.bool true) V := fun V => by have := znq wx wx V; rwa [decide_eq_true rfl] at this
        have hbb : (bo == bo) = true := by simp
        go_wp2_with fail
        refine (cA _).mono ?_
        rintro e w13 ⟨rfl, f13⟩
        go_wp2_with fail
        go_ret
        exact ⟨rfl, za FUb25 f13⟩
end Go.Proofs.YtmjjjdikpnhpiaaGreat
