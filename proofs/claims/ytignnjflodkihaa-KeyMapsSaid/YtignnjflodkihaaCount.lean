/- Maps that count: what a map holds behind 'm[k]++' for each of a list. -/
import Derived.Maps.Views
import Derived.Maps.Own
namespace Go.Proofs.Ytignnjflodkihaa
open Go.Maps
section
variable {α : Type} [DecidableEq α]
def addT (acc : List α) (a : α) : List α := if a ∈ acc then acc else acc ++ [a]
/-- The different ones. -/
def tokens (l : List α) : List α := l.foldl addT []
theorem tokens_snoc (l : List α) (a : α) : tokens (l ++ [a]) = addT (tokens l) a := by simp [tokens, List.foldl_append]
theorem mem_foldT (a : α) : ∀ (l acc : List α), a ∈ l.foldl addT acc ↔ a ∈ acc ∨ a ∈ l
  | [], acc => by simp
  | x :: l, acc => by
    rw [List.foldl_cons, mem_foldT a l, addT]
    split
    · rename_i hx
      simp only [List.mem_cons]
      constructor
      · rintro (h | h)
        · exact .inl h
        · exact .inr (.inr h)
      · rintro (h | rfl | h)
        · exact .inl h
        · exact .inl hx
        · exact .inr h
    · simp [or_assoc]
theorem mem_tokens (a : α) (l : List α) : a ∈ tokens l ↔ a ∈ l := by unfold tokens; rw [mem_foldT]; simp
theorem tokens_len (l : List α) (a : α) : (tokens (l ++ [a])).length = if a ∈ l then (tokens l).length else (tokens l).length + 1 := by
  rw [tokens_snoc, addT]
  by_cases h : a ∈ l
  · rw [if_pos ((mem_tokens a l).2 h), if_pos h]
  · rw [if_neg fun h2 => h ((mem_tokens a l).1 h2), if_neg h]; simp
/-- A map that counts: of each token (by the key f) how often it is in the list. -/
structure Cnt (P : α → Prop) (f : α → Lit) (l : List α) (D : DataW Unit) : Prop where
  tidy : Tidy D
  at_ : ∀ a, P a → D.atKey (f a) (.lit (.int .i64 0)) = .lit (.int .i64 (l.count a : Int))
  has_ : ∀ a, P a → has D (f a) = decide (a ∈ l)
  size_ : Maps.size D = (tokens l).length
variable {P : α → Prop} {f : α → Lit} {l : List α} {D : DataW Unit}
theorem Cnt.nil : Cnt P f [] (.map []) := ⟨tidy_empty, fun _ _ => rfl, fun _ _ => rfl, rfl⟩
theorem Cnt.snoc (h : Cnt P f l D) (hk : ∀ a, WideAt.IsKeyLit (f a)) (hf : ∀ a b, P a → P b → f a = f b → a = b) {a : α} (ha : P a) {x : Int} (hx : x = (l.count a : Int) + 1) : Cnt P f (l ++ [a]) (D.put (f a) (.lit (.int .i64 x))) := by
  subst hx
  refine ⟨h.tidy.put (hk a) _, fun b hb => ?_, fun b hb => ?_, ?_⟩
  · by_cases e : b = a
    · subst e
      rw [atKey_put_same h.tidy.isMap (hk b)]
      simp
    · rw [atKey_put_other (fun e2 => e (hf b a hb ha e2)), h.at_ b hb, List.count_append]
      simp [Ne.symm e]
  · by_cases e : b = a
    · subst e
      rw [has_put_same h.tidy.isMap (hk b)]
      simp
    · rw [has_put_other (fun e2 => e (hf b a hb ha e2)), h.has_ b hb]
      simp [e]
  · rw [size_put h.tidy, tokens_len, h.has_ a ha, h.size_]
    simp
end
end Go.Proofs.Ytignnjflodkihaa
