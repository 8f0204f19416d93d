/-
  From a row of bytes that came in to what the contracts ask: the slice reads as bytes, and is within the form's own reach.
-/
import Derived.Test.YthdblnfohbldcaaGreatCzMem
import Derived.ProofKit
import Derived.OpenShut
import Derived.SizedLaws
namespace Go.Proofs.YthdblnfohbldcaaGreat.Crc
set_option linter.unusedVariables false
open Go.Proofs.YthdblnfohbldcaaGreat.Base
open Go.ChangeShapes Go.WideShapes Go.ChangeAt Go.RowKit
end Go.Proofs.YthdblnfohbldcaaGreat.Crc
