/-
  LinesCuts: the pieces of any length, at any places, or the error; and again, when the same list holds other places.
-/
import Derived.Test.YtckfjhgnmegbhabLnRcut3
import Derived.Test.YtckfjhgnmegbhabLnHelp2
import Derived.Test.YtckfjhgnmegbhabLnHelp
import Derived.Test.YtckfjhgnmegbhabLinesOfWalk
import Derived.Test.YtckfjhgnmegbhabRowF3
namespace Go.Proofs.Ytckfjhgnmegbhab.Ln
open Go.ChangeShapes Go.WideShapes Go.ChangeAt Go.RowKit
open Go.Proofs.Ytckfjhgnmegbhab.Base Go.Proofs.Ytckfjhgnmegbhab.Rf
set_option linter.unusedVariables false
theorem pf_len (n : Nat) (xs : List Int) (k : Nat) : (pf n xs k).length = 2 := rfl
theorem pf_one (n : Nat) (xs : List Int) (k : Nat) : ∀ u ∈ pf n xs k, u.oneCell' = true := by intro u hu; unfold pf at hu; simp at hu; rcases hu with rfl | rfl <;> rfl
theorem cutN_le (n : Int) (len : Nat) : cutN n len ≤ 256 := by
  unfold cutN cutErr
  by_cases h : 4194304 < n ∨ 256 ≤ len
  · rw [if_pos h, if_neg (by omega)]; omega
  · rw [if_neg h]
    by_cases h2 : n < 0
    · rw [if_pos h2, if_neg (by omega)]; omega
    · rw [if_neg h2, if_pos rfl]; omega
theorem rowi_rd {w : World} {g : Nat} {xs ys : List Int} (h : RowI 3 w g (xs ++ ys)) (hl : xs.length ≤ 17592186044416) : RdI w (some ⟨g, 0, none⟩) xs.length xs := by
  have := h.rd xs.length (by rw [List.length_append]; omega) hl
  rwa [List.take_left] at this
theorem Turns.below {w W W' : World} {v u : Value} (h : Turns w W v u) (hb : Below W.heap.size W W') : Turns w W' v u :=
  ⟨⟨hb.os.trans h.1.os, hb.tape.trans h.1.tape, hb.output.trans h.1.output, Nat.le_trans h.1.size hb.size, fun i hi hne => (hb.block i (Nat.lt_of_lt_of_le hi h.1.size)).trans (h.1.block i hi hne)⟩, h.2⟩
end Go.Proofs.Ytckfjhgnmegbhab.Ln
