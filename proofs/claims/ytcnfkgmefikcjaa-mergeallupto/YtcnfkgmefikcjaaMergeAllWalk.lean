/-
  The walk of the statement MergeAll.
-/
import Derived.Test.YtcnfkgmefikcjaaMaWalk1
import Derived.Test.YtcnfkgmefikcjaaMeRefRunB
namespace Go.Proofs.Ytcnfkgmefikcjaa.Me
open Go.ChangeShapes Go.WideShapes Go.ChangeAt Go.RowKit
open Go.Proofs.Ytcnfkgmefikcjaa.Base
theorem alnwalk (a : Option Addr) (c : Nat) (ss : List Src) (ta : Option Addr) (tl tc : Nat) (ks : List Int) (w : World) (hR : Rdy w a ss) (hl : ∀ j, j < ss.length → (ss.getD j src0).ts.length ≤ 1048576) (hn : ss.length ≤ 1048576) (hT : RdI w ta tl ks) (htl : tl ≤ 1048576) (hk9 : ∀ v ∈ ks, v ≤ 9223372036854775807) :
    Calls Try.prog 3 #[.slice a ss.length c, .slice ta tl tc] w fun e w' => e = .returned (.bool true) ∧ Below w.heap.size w w' :=
  alwalk a c ss ta tl tc ks w hR hl hn hT htl hk9 (fun w h hn => refRun_any a c ss w h hn hl)
end Go.Proofs.Ytcnfkgmefikcjaa.Me
