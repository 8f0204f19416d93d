/-
  Closed facts of the card (b).
-/
import Derived.Test.YtgjmgggijdiijaaGreatDoorRows
import Derived.Test.YtgjmgggijdiijaaGreatDoorCards
import Derived.JoinedOf
import Derived.KernelRfl
import Derived.SevenTiedAt
namespace Go.Proofs.YtgjmgggijdiijaaGreatDoor.mapNone
set_option maxRecDepth 100000
theorem card_looks : true = Tryz.pinned.checked.prog.looks [] := by kernel_rfl
end Go.Proofs.YtgjmgggijdiijaaGreatDoor.mapNone
