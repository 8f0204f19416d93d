/-
  The closed facts of the row.
-/
import Derived.Test.YtgjmgggijdiijaaGreatDoorMapNoneFacts1
import Derived.Test.YtgjmgggijdiijaaGreatDoorMapNoneFacts2
import Derived.Test.YtgjmgggijdiijaaGreatDoorMapNoneFacts3
import Derived.Test.YtgjmgggijdiijaaGreatDoorMapNoneFacts4
namespace Go.Proofs.YtgjmgggijdiijaaGreatDoor.mapNone
theorem and_true {a b : Bool} (h : a = true) (k : b = true) : (a && b) = true := by rw [h, k]; rfl
set_option maxRecDepth 100000 in
theorem closed : joinedFacts Tryz.prog 3 Tryz.f3 Rows.mapNoneSpec Rows.mapNoneRow = true := by
  unfold joinedFacts
  exact and_true (and_true (and_true (and_true (and_true (and_true (and_true (and_true (and_true (and_true (and_true (and_true (and_true (and_true (and_true (and_true (and_true (and_true (and_true (and_true (and_true (and_true (and_true (and_true (and_true (and_true (and_true (and_true (and_true (and_true (and_true (fact0) fact1) fact2) fact3) fact4) fact5) fact6) fact7) fact8) fact9) fact10) fact11) fact12) fact13) fact14) fact15) fact16) fact17) fact18) fact19) fact20) fact21) fact22) fact23) fact24) fact25) fact26) fact27) fact28) fact29) fact30) fact31
end Go.Proofs.YtgjmgggijdiijaaGreatDoor.mapNone
