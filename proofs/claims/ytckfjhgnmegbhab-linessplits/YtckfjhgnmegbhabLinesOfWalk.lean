/-
  LinesOf: the lines of any text, and of any piece of it, or the error.
-/
import Derived.Test.YtckfjhgnmegbhabLnHelp
import Derived.Deep.Cut
namespace Go.Proofs.Ytckfjhgnmegbhab.Ln
open Go.ChangeShapes Go.WideShapes Go.ChangeAt Go.RowKit
open Go.Proofs.Ytckfjhgnmegbhab.Base Go.Proofs.Ytckfjhgnmegbhab.Rf
set_option linter.unusedVariables false
theorem below_turn {w0 w w' : World} {r : Option Nat} (hb : Below w0.heap.size w0 w) (hg : w.grownBy w' r) (h : ∀ i, r = some i → w0.heap.size ≤ i) : Below w0.heap.size w0 w' := hb.grown hg hb.size h
theorem sf_len (T : ByteArray) (a k : Nat) : (sf T a k).length = 1 := rfl
theorem sf_one (T : ByteArray) (a k : Nat) : ∀ u ∈ sf T a k, u.oneCell' = true := by intro u hu; unfold sf at hu; simp at hu; subst hu; rfl
theorem ofN_le (T : ByteArray) (f t : Int) : ofN T f t ≤ T.size := by
  unfold ofN
  by_cases h : ofErr T f t = 0
  · rw [if_pos h]; have := ix_le T t.toNat; have := cnt_le T; omega
  · rw [if_neg h]; omega
end Go.Proofs.Ytckfjhgnmegbhab.Ln
