/-
  asked: how often all sources were asked.
-/
import Derived.Test.YtcnfkgmefikcjaaMeRunC
namespace Go.Proofs.Ytcnfkgmefikcjaa.Me
open Go.ChangeShapes Go.WideShapes Go.ChangeAt Go.RowKit
open Go.Proofs.Ytcnfkgmefikcjaa.Base
set_option linter.unusedVariables false
def asksOf (fd : Nat → Fd) (j : Nat) : Nat := (fd j).asks
end Go.Proofs.Ytcnfkgmefikcjaa.Me
