/-
  The document's Build.
-/
import Derived.Test.YtmndjgmlndpgaaaDoorFiRefB
namespace Go.Proofs.YtmndjgmlndpgaaaDoor.Filt
open Go.ChangeShapes Go.WideShapes Go.ChangeAt Go.RowKit
open Go.Proofs.YtmndjgmlndpgaaaDoor.Base hiding hide unhide lt8
set_option linter.unusedVariables false
end Go.Proofs.YtmndjgmlndpgaaaDoor.Filt
