/- 'm[k]++' in a map of the call's own, by 'mapEntry' and 'entryStore': the look-up may go ahead of the entry or behind it. -/
import Derived.Maps.Own
import Derived.WideKeyEntry
namespace Go.Proofs.Ytignnjflodkihaa
open Go.ChangeShapes Go.WideShapes Go.MapKept Go.ChangeMaps Go.WideElems Go.Maps
theorem set_set_block (w : World) (b : Nat) (o p : Obj) : setBlock (setBlock w b o) b p = setBlock w b p := by
  simp [setBlock]
theorem own_entry_int {H : Type} {P : Program} {w : World} {k e t : TypeId} {b n : Nat} {D : DataW H} {q : IntKind} (K : Keyed P k) (h : w.ownsMap P k (plainElem P e) b n D) (ht : P.underlying t = some (.map k e)) (he : P.underlying e = some (.int q))
    (hz : ∀ u : World, (zeroValue e).run P u = .ok (.int q 0) u) (hn : n < maxLen) {key : Value} {kl : Lit} (hkey : keyOf P k key = some kl) :
    ∃ (c : Int) (st : Nat) (w1 : World), D.atKey kl (.lit (.int q 0)) = .lit (.int q c) ∧ (Lit.int q c).wf = true ∧ (Instr.lookup t (.map (some b)) key false).run P w = .ok (.int q c) w ∧
      (Instr.mapEntry t (.map (some b)) key).run P w = .ok (.tuple #[.int q c, goInt st]) w1 ∧ (Instr.lookup t (.map (some b)) key false).run P w1 = .ok (.int q c) w1 ∧ w.grownBy w1 (some b) ∧
      ∀ x : Int, (Lit.int q x).wf = true → ∃ w2, (Instr.entryStore t (.map (some b)) (goInt st) (.int q x)).run P w1 = .ok () w2 ∧ w2.ownsMap P k (plainElem P e) b (n + 1) (D.put kl (.lit (.int q x))) ∧ w.grownBy w2 (some b) := by
  obtain ⟨c, hrun, hat, hwc⟩ := h.lookup_int K ht he (hz w) hkey
  have hup := fun x (hx : (Lit.int q x).wf = true) => h.update K ht hn hkey (plainElem_int he hx)
  obtain ⟨es, clock, hb, F, hs, hD⟩ := h
  obtain ⟨s1, s2, _⟩ := F.stamped
  have hgrow : ∀ o, w.grownBy (setBlock w b o) (some b) := fun o => ⟨rfl, rfl, rfl, by simp [setBlock], fun i _ hi => heap_setBlock_other hb _ (fun e => hi (by rw [e]))⟩
  rcases K.find w hkey es.toList F.keys with ⟨h1, h2⟩ | ⟨j, e0, h1, h2, h3⟩
  · have hv : c = 0 := by
      have h5 := hrun
      simp [Instr.lookup, run_underlying ht, Go.MapKept.run_getObj_map hb, K.check w _ hkey, h1, hz, Result.andThen] at h5
      exact h5.symm
    subst hv
    have hb1 := heap_setBlock_same hb (.map (es.push ⟨key, .int q 0, clock⟩) (clock + 1))
    refine ⟨0, clock, setBlock w b (.map (es.push ⟨key, .int q 0, clock⟩) (clock + 1)), hat, hwc, hrun, ?_, ?_, hgrow _, fun x hx => ?_⟩
    · simp [Instr.mapEntry, run_underlying ht, Go.MapKept.run_getObj_map hb, K.check w false hkey, h1, hz, Go.MapKept.run_setObj_map _ hb, Result.andThen, setBlock]
    · rcases K.find (setBlock w b (.map (es.push ⟨key, .int q 0, clock⟩) (clock + 1))) hkey (es.push ⟨key, .int q 0, clock⟩).toList (fun y hy => by
        simp only [Array.toList_push, List.mem_append, List.mem_singleton] at hy
        rcases hy with hy | rfl
        · exact F.keys y hy
        · exact ⟨_, hkey⟩) with ⟨g1, g2⟩ | ⟨j', e', g1, g2, g3⟩
      · exact absurd rfl (g2 ⟨key, .int q 0, clock⟩ (by simp))
      · have hm := List.mem_of_getElem? g2
        simp only [Array.toList_push, List.mem_append, List.mem_singleton] at hm
        rcases hm with hm | rfl
        · exact absurd g3 (h2 e' hm)
        · simp only [Array.toList_push] at g1
          simp [Instr.lookup, run_underlying ht, Go.MapKept.run_getObj_map hb1, K.check _ _ hkey, g1, Result.andThen]
    · obtain ⟨w', hr, ho, hg⟩ := hup x hx
      refine ⟨w', ?_, ho, hg⟩
      simp [Instr.mapUpdate, run_underlying ht, Go.MapKept.run_getObj_map hb, K.check w false hkey, h1, Go.MapKept.run_setObj_map _ hb, Result.andThen] at hr
      have hidx : (es.push ⟨key, .int q 0, clock⟩).findIdx? (fun e => ((e.born : Nat) : Int) == ((clock : Nat) : Int)) = some es.size := by
        rw [findIdx_arr]
        exact findIdx_born (l := (es.push ⟨key, .int q 0, clock⟩).toList) (j := es.size) (e0 := ⟨key, .int q 0, clock⟩) (by
          simp only [Array.toList_push, List.map_append, List.map_cons, List.map_nil]
          refine List.nodup_append.2 ⟨s2, by simp, fun a ha c hc e1 => ?_⟩
          simp only [List.mem_singleton] at hc
          obtain ⟨x, hx, rfl⟩ := List.mem_map.1 ha
          have := s1 x hx
          omega) (by simp)
      have hmod : (es.push ⟨key, .int q 0, clock⟩).modify es.size (fun e => { e with val := .int q x }) = es.push ⟨key, .int q x, clock⟩ := by
        apply Array.ext'
        rw [Array.toList_modify, Array.toList_push, Array.toList_push, ← Array.length_toList, modify_last]
      have hst : ∀ w1 : World, w1.heap[b]? = some (.map (es.push ⟨key, .int q 0, clock⟩) (clock + 1)) → (Instr.entryStore t (.map (some b)) (goInt clock) (.int q x)).run P w1 = .ok () (setBlock w1 b (.map (es.push ⟨key, .int q x, clock⟩) (clock + 1))) := fun w1 hw1 => by
        simp [Instr.entryStore, Go.MapKept.run_getObj_map hw1, asInt, asIntOf, goInt, hidx, hmod, Go.MapKept.run_setObj_map _ hw1, Result.andThen, setBlock]
      rw [← hr, hst _ hb1, set_set_block]
      rfl
  · have hj : es[j]? = some e0 := by simpa using h2
    have hv : e0.val = .int q c := by
      have h5 := hrun
      simp [Instr.lookup, run_underlying ht, Go.MapKept.run_getObj_map hb, K.check w _ hkey, h1, Result.andThen] at h5
      exact h5
    have hsame : es.modify j (fun e => { e with key := key }) = es := by
      apply Array.ext'
      rw [Array.toList_modify, modify_eq_set _ _ _ _ h2]
      have : ({ e0 with key := key } : MapEntry) = e0 := by rw [← h3]
      rw [this]
      exact set_self _ _ _ h2
    have hb1 := heap_setBlock_same hb (.map es clock)
    have hw1 : setBlock w b (.map es clock) = w := by
      have h6 : w.heap.setIfInBounds b (.map es clock) = w.heap := by
        apply Array.ext'
        rw [Array.toList_setIfInBounds]
        exact set_self _ _ _ (by simpa using hb)
      simp [setBlock, h6]
    refine ⟨c, e0.born, w, hat, hwc, hrun, ?_, hrun, by rw [← hw1]; simpa [hw1] using hgrow (.map es clock), fun x hx => ?_⟩
    · have h7 : (Instr.mapEntry t (.map (some b)) key).run P w = .ok (.tuple #[.int q c, goInt e0.born]) (setBlock w b (.map es clock)) := by
        simp [Instr.mapEntry, run_underlying ht, Go.MapKept.run_getObj_map hb, K.check w false hkey, h1, hj, h3, K.stays w hkey, hsame, hv, Go.MapKept.run_setObj_map _ hb, Result.andThen, setBlock]
      rwa [hw1] at h7
    · obtain ⟨w', hr, ho, hg⟩ := hup x hx
      refine ⟨w', ?_, ho, hg⟩
      simp [Instr.mapUpdate, run_underlying ht, Go.MapKept.run_getObj_map hb, K.check w false hkey, h1, hj, h3, K.stays w hkey, Go.MapKept.run_setObj_map _ hb, Result.andThen] at hr
      have hidx : es.findIdx? (fun e => ((e.born : Nat) : Int) == ((e0.born : Nat) : Int)) = some j := by
        rw [findIdx_arr]
        exact findIdx_born s2 h2
      have hmod : es.modify j (fun e => { e with val := .int q x }) = es.modify j (fun e' => { e' with key := key, val := .int q x }) := by
        apply Array.ext'
        rw [Array.toList_modify, Array.toList_modify, modify_eq_set _ _ _ _ h2, modify_eq_set _ _ _ _ h2, ← h3]
      rw [← hr]
      simp [Instr.entryStore, Go.MapKept.run_getObj_map hb, asInt, asIntOf, goInt, hidx, hmod, Go.MapKept.run_setObj_map _ hb, Result.andThen]
end Go.Proofs.Ytignnjflodkihaa
