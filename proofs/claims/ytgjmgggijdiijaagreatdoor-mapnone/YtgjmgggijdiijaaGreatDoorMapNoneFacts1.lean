/-
  Closed facts of the row (part 1).
-/
import Derived.Test.YtgjmgggijdiijaaGreatDoorRows
import Derived.JoinedOf
import Derived.KernelRfl
namespace Go.Proofs.YtgjmgggijdiijaaGreatDoor.mapNone
set_option maxRecDepth 100000
theorem fact0 : (Rows.mapNoneRow.wf (OpenSpec.ofChange Rows.mapNoneSpec)) = true := by kernel_rfl
theorem fact4 : (namedTie Tryz.prog Rows.mapNoneRow.named Rows.mapNoneSpec.vars) = true := by kernel_rfl
theorem fact8 : ((Tryz.prog.stopKnobs == [])) = true := by kernel_rfl
theorem fact12 : ((Rows.mapNoneRow.named == Tryz.prog.varsNamed 3)) = true := by kernel_rfl
theorem fact16 : ((Rows.mapNoneRow.loops == (Tryz.f3.params.toList ++ Rows.mapNoneSpec.plain.varTypes Tryz.prog).any (Tryz.prog.loopsFrom ·))) = true := by kernel_rfl
theorem fact20 : ((Rows.mapNoneRow.ifacesOut == Tryz.f3.resultTypes.toList.any (Tryz.prog.ifacesRec ·))) = true := by kernel_rfl
theorem fact24 : (Tryz.prog.stopsHeard) = true := by kernel_rfl
theorem fact28 : ((Rows.mapNoneRow.kinds == (if Rows.mapNoneRow.domain.isEmpty then [] else Tryz.f3.params.toList.map fun t => match Tryz.prog.underlying t with | some (.int k) => some k | _ => none))) = true := by kernel_rfl
end Go.Proofs.YtgjmgggijdiijaaGreatDoor.mapNone
