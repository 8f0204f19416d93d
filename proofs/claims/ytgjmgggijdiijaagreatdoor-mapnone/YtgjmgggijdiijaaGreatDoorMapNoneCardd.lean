/-
  Closed facts of the card (d).
-/
import Derived.Test.YtgjmgggijdiijaaGreatDoorRows
import Derived.Test.YtgjmgggijdiijaaGreatDoorCards
import Derived.JoinedOf
import Derived.KernelRfl
import Derived.SevenTiedAt
namespace Go.Proofs.YtgjmgggijdiijaaGreatDoor.mapNone
set_option maxRecDepth 100000
theorem card_goes : false = Rows.mapNoneRow.goesBy Tryz.pinned.checked.prog := by kernel_rfl
end Go.Proofs.YtgjmgggijdiijaaGreatDoor.mapNone
