/-
  Closed facts of the row (part 3).
-/
import Derived.Test.YtgjmgggijdiijaaGreatDoorRows
import Derived.JoinedOf
import Derived.KernelRfl
namespace Go.Proofs.YtgjmgggijdiijaaGreatDoor.mapNone
set_option maxRecDepth 100000
theorem fact2 : (mapsRowed Tryz.prog) = true := by kernel_rfl
theorem fact6 : ((Tryz.prog.stops == [])) = true := by kernel_rfl
theorem fact10 : ((Rows.mapNoneRow.unfollowed == Tryz.prog.unfollowed 3)) = true := by kernel_rfl
theorem fact14 : ((Rows.mapNoneRow.ifaces == (Tryz.f3.params.toList ++ Rows.mapNoneSpec.plain.varTypes Tryz.prog).any (Tryz.prog.ifacesRec ·))) = true := by kernel_rfl
theorem fact18 : (Rows.mapNoneSpec.vars.all (Tryz.prog.varReadable ·)) = true := by kernel_rfl
theorem fact22 : ((Rows.mapNoneRow.plainKeys == Tryz.prog.plainKeys)) = true := by kernel_rfl
theorem fact26 : ((Rows.mapNoneRow.lifted == Tryz.prog.liftsFinal)) = true := by kernel_rfl
theorem fact30 : ((Rows.mapNoneRow.veiled == (Tryz.f3.params.toList ++ Rows.mapNoneSpec.plain.varTypes Tryz.prog ++ Tryz.f3.resultTypes.toList).any (Tryz.prog.veiledRec ·))) = true := by kernel_rfl
end Go.Proofs.YtgjmgggijdiijaaGreatDoor.mapNone
