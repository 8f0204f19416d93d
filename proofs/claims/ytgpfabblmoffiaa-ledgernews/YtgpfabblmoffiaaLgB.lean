/-
  May a task's state be: the program's answer; the tasks of a kind; are all done; may tasks of a kind be begun.
-/
import Derived.Test.YtgpfabblmoffiaaLgA
import Derived.BigQuiet
namespace Go.Proofs.Ytgpfabblmoffiaa.Lg
open Go.ChangeShapes Go.WideShapes Go.ChangeAt Go.RowKit
open Go.Proofs.Ytgpfabblmoffiaa.Base Go.Proofs.Ytgpfabblmoffiaa.Rf
set_option linter.unusedVariables false
/-- The number of a kind. -/
def kn (red : Bool) : Int := if red then 1 else 0
theorem good_far {red : Bool} {t : Int} {x : TS} (h : wi x.s 0 3 = false) : good red t x = false := by
  cases hg : good red t x with
  | false => rfl
  | true =>
    have := good_iff.1 hg
    rw [wi_t (by omega) (by omega)] at h
    cases h
theorem good_farC {red : Bool} {t : Int} {x : TS} (h : wi x.c 0 t = false) : good red t x = false := by
  cases hg : good red t x with
  | false => rfl
  | true =>
    have := good_iff.1 hg
    rw [wi_t (by omega) (by omega)] at h
    cases h
end Go.Proofs.Ytgpfabblmoffiaa.Lg
