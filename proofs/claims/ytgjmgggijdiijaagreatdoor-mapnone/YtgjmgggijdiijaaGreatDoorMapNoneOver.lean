/-
  MapNone: the row.
-/
import Derived.Test.YtgjmgggijdiijaaGreatDoorMapNoneLift
import Derived.Test.YtgjmgggijdiijaaGreatDoorMapNoneFacts
import Derived.Test.YtgjmgggijdiijaaGreatDoorMapNoneWalk
import Derived.Test.YtgjmgggijdiijaaGreatDoorMnOpen
import Derived.ProofKit
import Derived.OpenShut
import Derived.Stop.Joined
import Derived.ChangeMaps5
import Derived.Below
import Derived.LaidMore
import Derived.Lib.LaidTab
import Derived.ShutString
import Derived.ChangeOld
import Derived.Test.YtgjmgggijdiijaaGreatDoorCards
import Derived.Test.YtgjmgggijdiijaaGreatDoorTie
namespace Go.Proofs.YtgjmgggijdiijaaGreatDoor.mapNone
open Go.ChangeShapes Go.WideShapes Go.ChangeAt Go.RowKit Go.ChangeMaps
open Go.Proofs.YtgjmgggijdiijaaGreatDoor.Base Go.Proofs.YtgjmgggijdiijaaGreatDoor.Jb
set_option linter.unusedVariables false
theorem over : Rows.mapNoneRow.holds Tryz.pinned (OpenSpec.ofChange Rows.mapNoneSpec) :=
  OpenClaim.holds_of_wide 3 Tryz.f3 rfl rfl rfl rfl rfl rfl rfl ⟨rfl, rfl, rfl, rfl, rfl⟩ rfl rfl rfl rfl rfl (by kernel_rfl) Tryz.func3 closed
    (of_decide_eq_true (by kernel_rfl)) (by unfold Func.isWrapper; first | (rw [if_pos (by decide +kernel)]; kernel_rfl) | (rw [if_neg (by decide +kernel)]; exact ⟨rfl, rfl⟩))
    (fun os started H enc _ => lifted os started H enc)
end Go.Proofs.YtgjmgggijdiijaaGreatDoor.mapNone
