/-
  SortMerges: two lists, one behind the other, sorted.
-/
import Derived.Test.YtlbplicafcoifaaSoMerged
import Derived.Test.YtlbplicafcoifaaSoWorks
namespace Go.Proofs.Ytlbplicafcoifaa.So
open Go.ChangeShapes Go.WideShapes Go.ChangeAt Go.RowKit
open Go.Proofs.Ytlbplicafcoifaa.Base
set_option linter.unusedVariables false
theorem own_slice {w : World} {base n : Nat} {v : Value} {rs : List Rec} (h : OwnR w base v rs) (hl : rs.length = n) : ∃ a c, v = .slice a n c ∧ n ≤ c ∧ c ≤ 9223372036854775807 ∧ (a = none → n = 0 ∧ c = 0) := by
  subst hl
  rcases h.2 with ⟨h1, h2⟩ | ⟨g, cap, cur, h1, _, _, h2, h3, _⟩
  · exact ⟨none, 0, by rw [h1, h2], by omega, by omega, fun _ => ⟨h2, rfl⟩⟩
  · exact ⟨_, _, h1, h2, by unfold maxLen at h3; omega, fun e => nomatch e⟩
theorem mem_foldl (l : List Rec) (z : Rec) : ∀ o : List Rec, z ∈ l.foldl (fun o x => ins x o) o ↔ z ∈ o ∨ z ∈ l := by
  induction l with
  | nil => intro o; simp
  | cons x xs ih =>
    intro o
    rw [List.foldl_cons, ih, mem_ins, List.mem_cons]
    constructor
    · rintro ((h | h) | h)
      · exact .inr (.inl h)
      · exact .inl h
      · exact .inr (.inr h)
    · rintro (h | h | h)
      · exact .inl (.inr h)
      · exact .inl (.inl h)
      · exact .inr h
theorem mem_isort (l : List Rec) (z : Rec) : z ∈ isort l ↔ z ∈ l := by unfold isort; rw [mem_foldl]; simp
theorem Fine.isort {l : List Rec} (h : Fine l) : Fine (isort l) := fun r hr => h r ((mem_isort _ _).1 hr)
theorem Fine.append {a b : List Rec} (ha : Fine a) (hb : Fine b) : Fine (a ++ b) := fun r hr => by
  rcases List.mem_append.1 hr with h | h
  · exact ha r h
  · exact hb r h
theorem own_empty {w : World} {g base : Nat} {e : TypeId} (h : w.heap[g]? = some (.cells #[] 34)) (hb : base ≤ g) : OwnR w base (.slice (some ⟨g, 0, none⟩) 0 0) [] :=
  ⟨rfl, .inr ⟨g, 0, #[], rfl, hb, h, by simp, by unfold maxLen; omega, rfl, rfl⟩⟩
end Go.Proofs.Ytlbplicafcoifaa.So
