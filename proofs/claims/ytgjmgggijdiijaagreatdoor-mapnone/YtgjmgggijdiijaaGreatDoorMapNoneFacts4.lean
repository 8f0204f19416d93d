/-
  Closed facts of the row (part 4).
-/
import Derived.Test.YtgjmgggijdiijaaGreatDoorRows
import Derived.JoinedOf
import Derived.KernelRfl
namespace Go.Proofs.YtgjmgggijdiijaaGreatDoor.mapNone
set_option maxRecDepth 100000
theorem fact3 : (Tryz.f3.params.all (Tryz.prog.readableRec ·)) = true := by kernel_rfl
theorem fact7 : ((Rows.mapNoneRow.knobs == [])) = true := by kernel_rfl
theorem fact11 : ((Rows.mapNoneRow.recurses == Tryz.prog.recurses 3)) = true := by kernel_rfl
theorem fact15 : ((Rows.mapNoneRow.mapsOut == Tryz.prog.mapsAmong Tryz.f3.resultTypes.toList)) = true := by kernel_rfl
theorem fact19 : (Tryz.f3.resultTypes.all (fun t => Tryz.prog.readableRec t && decide (t < Tryz.prog.types.size))) = true := by kernel_rfl
theorem fact23 : (Rows.mapNoneRow.shortTexts.isNone) = true := by kernel_rfl
theorem fact27 : ((Tryz.prog.make == some Rows.mapNoneRow.make)) = true := by kernel_rfl
theorem fact31 : (Rows.mapNoneRow.veiledFits Tryz.prog Tryz.f3.params.toList (Tryz.f3.params.toList ++ Rows.mapNoneSpec.plain.varTypes Tryz.prog ++ Tryz.f3.resultTypes.toList)) = true := by kernel_rfl
end Go.Proofs.YtgjmgggijdiijaaGreatDoor.mapNone
