/-
  All: the iterator of a split's lines.
-/
import Derived.Test.YtckfjhgnmegbhabLnTrim
import Derived.Test.YtckfjhgnmegbhabStClone
import Derived.Test.YtckfjhgnmegbhabRgLaw
import Derived.Shelf.Abstract
import Derived.Shelf.RegionOpen
import Derived.WalkKit
import Derived.OwnWalkIn
import Derived.TacticsInMore
import Derived.LoopNIn
import Derived.LoopIn
namespace Go.Proofs.Ytckfjhgnmegbhab.Ln
open Go.ChangeShapes Go.WideShapes Go.ChangeAt Go.RowKit Go.Shelf
open Go.Proofs.Ytckfjhgnmegbhab.Base Go.Proofs.Ytckfjhgnmegbhab.Rg
set_option linter.unusedVariables false
attribute [local go_sem] Oper.semAt_some
theorem cell2 {W : World} {g : Nat} {u v : Value} {t : TypeId} (h : W.heap[g]? = some (.cells #[u, v] t)) : W.cell? ⟨g, 0, none⟩ = some u ∧ W.cell? ⟨g, 1, none⟩ = some v := by
  constructor <;> simp [World.cell?, h]
/-- What All gives of the line number k. -/
def given (off : Int) (T : ByteArray) (k : Nat) : Array Value := #[.int .i64 (wrap64 (off + (pl T k : Nat))), .string (ln T k)]
end Go.Proofs.Ytckfjhgnmegbhab.Ln
