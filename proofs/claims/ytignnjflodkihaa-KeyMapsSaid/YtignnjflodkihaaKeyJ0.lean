/- slices.SortFunc of keys by 'Compare': the one ascending row. -/
import Derived.Test.YtignnjflodkihaaKeyI2
import Derived.Test.YtignnjflodkihaaSortLay
import Derived.Lib.OwnBridge
namespace Go.Proofs.Ytignnjflodkihaa
open Go.RowKit Go.Maps Go.Sort Go.Shelf
set_option linter.unusedVariables false
/-- A key that is one. -/
abbrev VK := {k : RK // k.wf ∧ okB k = true}
theorem zeroK_wf : zeroK.wf := by constructor <;> simp [zeroK, Byt]
theorem zeroK_ok : okB zeroK = true := by decide
instance : Inhabited VK := ⟨⟨zeroK, zeroK_wf, zeroK_ok⟩⟩
def encV (x : VK) : List Value := kc x.1
def cfV (x y : VK) : Int := cmpK x.1 y.1
theorem lt_V (x y : VK) : ltOf cfV x y = decide (code x.1 < code y.1) := by
  unfold ltOf cfV cmpK
  rcases cmpI_cases (code x.1) (code y.1) with ⟨h, h2⟩ | ⟨h, h2⟩ | ⟨h, h2⟩
  · rw [h2]; simp [h]
  · rw [h2]; simp; omega
  · rw [h2]; simp; omega
theorem swo_V : SWO (ltOf cfV) where
  irrefl x := by rw [lt_V]; simp
  trans x y z h1 h2 := by rw [lt_V] at *; simp at *; omega
  ntrans x y z h1 h2 := by rw [lt_V] at *; simp at *; omega
theorem code_injV {x y : VK} (h : code x.1 = code y.1) : x = y := Subtype.ext (code_inj x.2.1 y.2.1 (okB_len x.2.2) (okB_len y.2.2) h)
theorem total_V (x y : VK) (h1 : ltOf cfV x y = false) (h2 : ltOf cfV y x = false) : x = y := by
  rw [lt_V] at h1 h2
  simp at h1 h2
  exact code_injV (by omega)
/-- The keys themselves. -/
def vals (l : List VK) : List RK := l.map (·.1)
theorem flatV (d : Array VK) : flatK encV 9 d = (flat (vals d.toList)).toArray := by
  refine ext_get! (by simp [flat_len, vals]) fun t ht => ?_
  have ht' : t < d.size * 9 := by simpa using ht
  rw [get_flatK _ _ _ t ht']
  have hj : t / 9 < d.size := by omega
  have hk : (vals d.toList)[t / 9]? = some (d[t / 9]!).1 := by
    unfold vals
    rw [List.getElem?_map, Array.getElem?_toList, Array.getElem?_eq_getElem hj, getElem!_pos d _ hj]
    rfl
  have h := flat_get hk (t % 9) (Nat.mod_lt _ (by omega))
  rw [show t / 9 * 9 + t % 9 = t from by omega] at h
  have h9 : t % 9 < (kc (d[t / 9]!).1).length := Nat.mod_lt _ (by omega)
  have e2 : (flat (vals d.toList)).toArray[t]! = (kc (d[t / 9]!).1)[t % 9]'h9 := by
    have h2 : (flat (vals d.toList))[t]? = some ((kc (d[t / 9]!).1)[t % 9]'h9) := by rw [h]; exact List.getElem?_eq_getElem h9
    rw [Array.getElem!_eq_getD, Array.getD_eq_getD_getElem?, List.getElem?_toArray, h2]
    rfl
  rw [e2]
  exact getElem!_pos (encV d[t / 9]!) (t % 9) h9
theorem holds_of_own {w : World} {B g n c : Nat} {d : Array VK} (h : Own w B 30 9 (some ⟨g, 0, none⟩) n c (flat (vals d.toList))) : HoldsK encV 9 w g 0 d := by
  unfold HoldsK
  rw [flatV]
  intro j hj
  have hj' : j < (flat (vals d.toList)).length := by simpa using hj
  rcases h.2 with ⟨hv, _⟩ | ⟨g', cap, cur, hv, hb, hg, _⟩
  · injection hv with hv; cases hv
  · injection hv with hv
    injection hv with hv
    injection hv with hv
    subst hv
    refine ⟨?_, by simp [World.frozen?, hg]⟩
    have hc := World.ownsRow.cells h (g := g) rfl j ((flat (vals d.toList))[j]'hj') (List.getElem?_eq_getElem hj')
    simp only [Addr.add_lit] at hc
    rw [hc]
    simp [getElem!_pos, hj']
/-- The row in order. -/
def sortV (l : List VK) : List VK := l.mergeSort fun x y => !(ltOf cfV) y x
theorem has_of_holds {w : World} {g : Nat} {l : List VK} (h : HoldsK encV 9 w g 0 l.toArray) (hg : g < w.heap.size) : Has w w.heap.size (some ⟨g, 0, none⟩) (flat (vals l)) := by
  unfold HoldsK at h
  rw [flatV] at h
  intro j u hu
  have hj : j < (flat (vals l)).length := (List.getElem?_eq_some_iff.1 hu).1
  refine ⟨g, 0, rfl, hg, ?_⟩
  have h1 := (h j (by simpa using hj)).1
  rw [h1]
  have e : (flat (vals l)).toArray[j]! = u := by
    rw [Array.getElem!_eq_getD, Array.getD_eq_getD_getElem?, List.getElem?_toArray, hu]
    rfl
  simp only [id]
  rw [e]
theorem sort_len (l : List VK) : (sortV l).length = l.length := (List.mergeSort_perm l _).length_eq
theorem below_grow {B : Nat} (W : World) (os : Array Obj) (h : B ≤ W.heap.size) : Below B W (grow W os) := by
  refine ⟨rfl, rfl, rfl, by simp [grow], fun k hk => ?_⟩
  have h2 : k < W.heap.size := by omega
  simp [grow, Array.getElem?_append, h2]
def SortOut (w : World) (B g : Nat) (l : List VK) (e : Ending) (w' : World) : Prop := e = .returned (.tuple #[]) ∧ Has w' w'.heap.size (some ⟨g, 0, none⟩) (flat (vals (sortV l))) ∧ Below B w w'
set_option maxRecDepth 100000 in
set_option maxHeartbeats 1000000 in
theorem key_sort (w : World) (B g n c : Nat) (l : List VK) (hn : l.length = n) (h2 : n < 4611686018427387904) (h : Own w B 30 9 (some ⟨g, 0, none⟩) n c (flat (vals l))) :
    Calls Try.prog 39 #[.slice (some ⟨g, 0, none⟩) n c, .func (.func 27) #[] #[]] w (SortOut w B g l) := by
  have hlt := h.lt g rfl
  have hH : HoldsK encV 9 w g 0 l.toArray := holds_of_own (d := l.toArray) h
  have eg : ∀ args w, (callFunc 27 args).run Try.prog w = .ok (.enter 27 args) w := enters_of Try.func27 (by kernel_rfl) rfl
  have hcmp : Go.Proofs.CmpLays Try.prog 27 #[] encV 9 cfV g 0 l.toArray.size w := fun m os dk hs x y =>
    key_compare x.1 y.1 x.2.1 y.2.1 (okB_len x.2.2) (okB_len y.2.2) _
  have hk : ∀ x, (encV x).length = 9 := fun _ => rfl
  have h1 : ∀ x, ∀ v ∈ encV x, v.oneCell' = true := fun x => kc_one x.1
  have hz : ∀ w, (Go.sizeOf 30).run Try.prog w = .ok 9 w := fun w => by kernel_rfl
  have hcon := AnyQ.slices_SortFunc_total sortKey 9 key_agg hz encV hk h1 cfV swo_V 27 #[] g 0 c l.toArray w eg hcmp hH hlt.2 (by simpa [hn] using h2) total_V
  have hsz : l.toArray.size = n := by simp [hn]
  rw [hsz] at hcon
  refine (show Calls Try.prog 39 _ w _ from hcon).mono ?_
  rintro e w' ⟨rfl, q, os, rfl⟩
  have hS : Go.Proofs.SWK encV 9 w g 0 (sortV l).toArray (sortWorldK encV 9 w g 0 q (sortV l).toArray os) := ⟨q, os, rfl⟩
  refine ⟨rfl, has_of_holds (hS.holds hlt.2 hH (by simp [sort_len])) (hS.lt hlt.2), ?_⟩
  have h1 : Below B w (putRowK encV 9 (Sort.ahead w q) g 0 (sortV l).toArray) := Lib.below_putRow (Below.refl _ _) hlt.1
  exact h1.trans (below_grow _ os (by have := h1.size; omega))
theorem key_sort_none (w : World) (p : Option Addr) (c : Nat) (fv : Value) : Calls Try.prog 39 #[.slice p 0 c, fv] w fun e w' => e = .returned (.tuple #[]) ∧ w' = w :=
  AnyF.slices_SortFunc_none sortKey p c fv w
end Go.Proofs.Ytignnjflodkihaa
