/-
  The statements' own: sameTexts, spoilt.
-/
import Derived.Test.YtckfjhgnmegbhabLnRef2
namespace Go.Proofs.Ytckfjhgnmegbhab.Ln
open Go.ChangeShapes Go.WideShapes Go.ChangeAt Go.RowKit
open Go.Proofs.Ytckfjhgnmegbhab.Base Go.Proofs.Ytckfjhgnmegbhab.Rf
set_option linter.unusedVariables false
set_option linter.unusedSimpArgs false
/-- What 'append' and stores do to memory that holds the list v, from the world w on: other blocks that were there stay. -/
def Turns (w W : World) (v u : Value) : Prop := w.grownBy W v.ownBlock ∧ (u.ownBlock = v.ownBlock ∨ ∀ i, u.ownBlock = some i → w.heap.size ≤ i)
theorem Turns.refl (w : World) (v : Value) : Turns w w v v := ⟨World.grownBy.refl _ _, .inl rfl⟩
theorem Turns.step {w W W' : World} {v u u' : Value} (h : Turns w W v u) (hu : u'.ownBlock = u.ownBlock ∧ W.grownBy W' u.ownBlock ∨ (∀ i, u'.ownBlock = some i → W.heap.size ≤ i) ∧ W.grownBy W' none) : Turns w W' v u' := by
  obtain ⟨h1, h2⟩ := h
  rcases hu with ⟨e, g⟩ | ⟨e, g⟩
  · refine ⟨⟨g.os.trans h1.os, g.tape.trans h1.tape, g.output.trans h1.output, Nat.le_trans h1.size g.size, fun i hi hne => ?_⟩, ?_⟩
    · refine (g.block i (Nat.lt_of_lt_of_le hi h1.size) ?_).trans (h1.block i hi hne)
      rcases h2 with h2 | h2
      · rw [h2]; exact hne
      · intro e2; have := h2 i e2.symm; omega
    · rcases h2 with h2 | h2
      · exact .inl (e.trans h2)
      · exact .inr (fun i hi => h2 i (by rw [← e]; exact hi))
  · refine ⟨⟨g.os.trans h1.os, g.tape.trans h1.tape, g.output.trans h1.output, Nat.le_trans h1.size g.size, fun i hi hne => (g.block i (Nat.lt_of_lt_of_le hi h1.size) (by simp)).trans (h1.block i hi hne)⟩, .inr (fun i hi => ?_)⟩
    have := e i hi
    have := h1.size
    omega
theorem ownf_store1 {w : World} {base t g n c : Nat} {m : Nat} {f : Nat → List Value} (h : OwnF w base t 1 (.slice (some ⟨g, 0, none⟩) m c) n f) (hf : ∀ k, (f k).length = 1) (k : Nat) (x : Value) (hk : k < n) :
    OwnF (w.setCell ⟨g, k, none⟩ x) base t 1 (.slice (some ⟨g, 0, none⟩) m c) n (setF f k [x]) ∧ w.grownBy (w.setCell ⟨g, k, none⟩ x) (some g) := by
  have hn : m = n := by
    rcases h.2 with ⟨h1, _⟩ | ⟨_, _, _, h1, _⟩
    · simp at h1
    · simp at h1; exact h1.2.1
  subst hn
  have h1 := World.ownsRow.stored h k x
  refine ⟨ownf_of h1.1 rfl ?_, h1.2⟩
  apply List.ext_getElem?
  intro i
  have hs : ∀ j, (setF f k [x] j).length = 1 := fun j => by unfold setF; by_cases e : j = k <;> simp [e, hf]
  by_cases hi : i < m
  · have e1 := fcells_get hs m i 0 hi (by omega)
    have e2 := fcells_get hf m i 0 hi (by omega)
    rw [Nat.mul_one, Nat.add_zero] at e1 e2
    rw [e1, List.getElem?_set]
    unfold setF
    by_cases e : k = i
    · subst e
      rw [if_pos rfl, if_pos (by rw [fcells_len hf]; omega), if_pos rfl]
      rfl
    · rw [if_neg e, if_neg (fun h => e h.symm), e2]
  · rw [List.getElem?_eq_none (by rw [List.length_set, fcells_len hf]; omega), List.getElem?_eq_none (by rw [fcells_len hs]; omega)]
theorem setF_len {f : Nat → List Value} {z : Nat} (hf : ∀ k, (f k).length = z) (k : Nat) (x : List Value) (hx : x.length = z) : ∀ j, (setF f k x j).length = z := fun j => by unfold setF; by_cases e : j = k <;> simp [e, hf, hx]
theorem setF_one {f : Nat → List Value} (hf : ∀ k, ∀ u ∈ f k, u.oneCell' = true) (k : Nat) (x : List Value) (hx : ∀ u ∈ x, u.oneCell' = true) : ∀ j, ∀ u ∈ setF f k x j, u.oneCell' = true := fun j => by unfold setF; by_cases e : j = k <;> simp only [e, if_pos, if_neg, if_true, if_false] <;> first | exact hx | exact hf j
end Go.Proofs.Ytckfjhgnmegbhab.Ln
