/-
  Closed facts of the card (a).
-/
import Derived.Test.YtgjmgggijdiijaaGreatDoorRows
import Derived.Test.YtgjmgggijdiijaaGreatDoorCards
import Derived.JoinedOf
import Derived.KernelRfl
import Derived.SevenTiedAt
namespace Go.Proofs.YtgjmgggijdiijaaGreatDoor.mapNone
set_option maxRecDepth 100000
theorem card_main : Tryz.pinned.checked.prog.mainIs = some (true, "305658ad97112a8614f970d83cb33c9c6f5d5270a9917409e5b3baac410c30d5".toList) := by kernel_rfl
theorem card_named : Tryz.prog.funcNamed "winnow/winnowlaw17.MapNone" = some 3 := by kernel_rfl
end Go.Proofs.YtgjmgggijdiijaaGreatDoor.mapNone
