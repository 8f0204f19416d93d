/-
  When two lists of bytes are the same.
-/
import Derived.Test.YthdblnfohbldcaaGreatBase
namespace Go.Proofs.YthdblnfohbldcaaGreat.Lz
set_option linter.unusedVariables false
open Go.ChangeShapes Go.WideShapes Go.ChangeAt Go.RowKit
open Go.Proofs.YthdblnfohbldcaaGreat.Base
end Go.Proofs.YthdblnfohbldcaaGreat.Lz
