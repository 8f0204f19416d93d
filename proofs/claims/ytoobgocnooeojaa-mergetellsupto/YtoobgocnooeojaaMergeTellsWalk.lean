/-
  The walk of the statement MergeTells.
-/
import Derived.Test.YtoobgocnooeojaaMeTells1
import Derived.Test.YtoobgocnooeojaaMeRefRunB
namespace Go.Proofs.Ytoobgocnooeojaa.Me
open Go.ChangeShapes Go.WideShapes Go.ChangeAt Go.RowKit
open Go.Proofs.Ytoobgocnooeojaa.Base
theorem telwalk (a : Option Addr) (c : Nat) (ss : List Src) (w : World) (hR : Rdy w a ss) (hl : ∀ j, j < ss.length → (ss.getD j src0).ts.length ≤ 1048576) (hn : ss.length ≤ 1048576) :
    Calls Try.prog 5 #[.slice a ss.length c] w fun e w' => e = .returned (.bool true) ∧ Below w.heap.size w w' :=
  tewalk a c ss w hR hl hn (fun w h hn => refRun_any a c ss w h hn hl)
end Go.Proofs.Ytoobgocnooeojaa.Me
