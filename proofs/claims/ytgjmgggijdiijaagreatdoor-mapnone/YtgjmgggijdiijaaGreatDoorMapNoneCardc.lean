/-
  Closed facts of the card (c).
-/
import Derived.Test.YtgjmgggijdiijaaGreatDoorRows
import Derived.Test.YtgjmgggijdiijaaGreatDoorCards
import Derived.JoinedOf
import Derived.KernelRfl
import Derived.SevenTiedAt
namespace Go.Proofs.YtgjmgggijdiijaaGreatDoor.mapNone
set_option maxRecDepth 100000
theorem card_stand : ([30].all fun u => !Tryz.prog.wantsStandIn u) = true := by kernel_rfl
end Go.Proofs.YtgjmgggijdiijaaGreatDoor.mapNone
