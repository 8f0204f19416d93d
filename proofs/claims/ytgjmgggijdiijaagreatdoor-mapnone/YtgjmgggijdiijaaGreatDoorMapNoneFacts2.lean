/-
  Closed facts of the row (part 2).
-/
import Derived.Test.YtgjmgggijdiijaaGreatDoorRows
import Derived.JoinedOf
import Derived.KernelRfl
namespace Go.Proofs.YtgjmgggijdiijaaGreatDoor.mapNone
set_option maxRecDepth 100000
theorem fact1 : (laidOutB Tryz.prog) = true := by kernel_rfl
theorem fact5 : ((Rows.mapNoneRow.stops == [])) = true := by kernel_rfl
theorem fact9 : ((Rows.mapNoneRow.inPlace == Tryz.prog.inPlace 3)) = true := by kernel_rfl
theorem fact13 : ((Rows.mapNoneRow.maps == (Tryz.f3.params.toList ++ Rows.mapNoneSpec.plain.varTypes Tryz.prog).any (Tryz.prog.mapsRec ·))) = true := by kernel_rfl
theorem fact17 : ((Rows.mapNoneRow.wideKeys == (Tryz.f3.params.toList ++ Rows.mapNoneSpec.plain.varTypes Tryz.prog ++ Tryz.f3.resultTypes.toList).any (Tryz.prog.wideKeysFrom ·))) = true := by kernel_rfl
theorem fact21 : ((Rows.mapNoneRow.loopsOut == Tryz.f3.resultTypes.toList.any (Tryz.prog.loopsFrom ·))) = true := by kernel_rfl
theorem fact25 : (Tryz.prog.mayEnter) = true := by kernel_rfl
theorem fact29 : ((Rows.mapNoneRow.pinned == Rows.mapNoneRow.pinnedBy)) = true := by kernel_rfl
end Go.Proofs.YtgjmgggijdiijaaGreatDoor.mapNone
