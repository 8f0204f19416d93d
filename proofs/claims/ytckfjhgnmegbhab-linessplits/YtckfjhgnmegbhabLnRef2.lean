/-
  The document's Lines and Of.
-/
import Derived.Test.YtckfjhgnmegbhabLnOf
namespace Go.Proofs.Ytckfjhgnmegbhab.Ln
open Go.ChangeShapes Go.WideShapes Go.ChangeAt Go.RowKit
open Go.Proofs.Ytckfjhgnmegbhab.Base Go.Proofs.Ytckfjhgnmegbhab.Rf
set_option linter.unusedVariables false
theorem infoSt : (Try.prog.info? 9).map (fun i => (i.zero, i.size, i.bytes)) = some (some (.string ⟨#[]⟩), 1, 16) := by kernel_rfl
theorem lf3_len (T : ByteArray) (k : Nat) : (lf3 T k).length = 3 := rfl
/-- How many of the lines ahead of number i lie in the piece. -/
theorem piece_step (T : ByteArray) (f t i : Nat) (hi : i < cnt T) : (f ≤ pl T i ∧ pl T i < t → min (i + 1) (ix T t) - ix T f = min i (ix T t) - ix T f + 1 ∧ ix T f + (min i (ix T t) - ix T f) = i) ∧ (¬ (f ≤ pl T i ∧ pl T i < t) → min (i + 1) (ix T t) - ix T f = min i (ix T t) - ix T f) := by
  constructor
  · rintro ⟨h1, h2⟩
    have g1 : ix T f ≤ i := by
      by_cases e : ix T f ≤ i
      · exact e
      · have := ix_lt T f i (by omega); omega
    have g2 : i < ix T t := by
      by_cases e : i < ix T t
      · exact e
      · have := ix_ge T t i (by omega) hi; omega
    omega
  · intro h
    by_cases h1 : f ≤ pl T i
    · have g2 : ix T t ≤ i := by
        by_cases e : ix T t ≤ i
        · exact e
        · have := ix_lt T t i (by omega); omega
      omega
    · have g1 : i < ix T f := by
        by_cases e : i < ix T f
        · exact e
        · have := ix_ge T f i (by omega) hi; omega
      omega
end Go.Proofs.Ytckfjhgnmegbhab.Ln
