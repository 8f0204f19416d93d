/-
  For MergeTells: what asked and the way out say.
-/
import Derived.Test.YtcnfkgmefikcjaaMeAllO
import Derived.Test.YtcnfkgmefikcjaaMeRunA
namespace Go.Proofs.Ytcnfkgmefikcjaa.Me
open Go.ChangeShapes Go.WideShapes Go.ChangeAt Go.RowKit
open Go.Proofs.Ytcnfkgmefikcjaa.Base
set_option linter.unusedVariables false
/-- The way out without a mark: the result lies in a cell. -/
theorem leaves_cell0 {P : Program} {fn : Func} {tmps : Array Value} {W : World} {R : Ending → World → Prop} {gc : Nat} {v : Value} (hc : W.cell? ⟨gc, 0, none⟩ = some v)
    (hload : ∀ V : World, V.cell? ⟨gc, 0, none⟩ = some v → (results fn tmps).run P V = .ok v V) (hR : R (.returned v) W) : bodyPostM Fence.wide 1 P fn R .ret { tmps := tmps, defers := [] } W :=
  ⟨v, hload W hc, hR⟩
end Go.Proofs.Ytcnfkgmefikcjaa.Me
