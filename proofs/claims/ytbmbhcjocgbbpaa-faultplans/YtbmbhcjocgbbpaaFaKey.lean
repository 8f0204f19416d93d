/-
  A place as a map's key.
-/
import Derived.Test.YtbmbhcjocgbbpaaFaList
import Derived.Maps.OwnSet
import Derived.DeepKeys4
import Derived.MapViews
namespace Go.Proofs.Ytbmbhcjocgbbpaa.Fa
open Go.ChangeShapes Go.WideShapes Go.ChangeAt Go.RowKit
open Go.Proofs.Ytbmbhcjocgbbpaa.Base
set_option linter.unusedVariables false
theorem row_place : (71 : TypeId) < Try.prog.types.size := of_decide_eq_true (by kernel_rfl)
theorem law_place : Maps.Keyed Try.prog 71 := Maps.Keyed.of_law (deep_law_laid laidOut (m := 2) (by omega) row_place (by kernel_rfl) (by rw [Try.underlying71]))
theorem kt_place : Try.prog.keyType 71 = true := by kernel_rfl
theorem size_types : ∃ n, Try.prog.types.size = n + 1 := ⟨Try.prog.types.size - 1, (Nat.succ_pred_eq_of_pos (Nat.lt_of_le_of_lt (Nat.zero_le _) row_place)).symm⟩
theorem cells_place : Try.prog.cellsOf 71 = 4 := by kernel_rfl
theorem cells_int : Try.prog.cellsOf 3 = 1 := by kernel_rfl
def pval (k j t a : Int) : Value := .agg #[.int .i64 k, .int .i64 j, .int .i64 t, .int .i64 a]
theorem wf_small {x : Int} (h : -9223372036854775808 ≤ x ∧ x ≤ 9223372036854775807) : (Lit.int .i64 x).wf = true := WalkArith.wf_i64 (by omega)
theorem key_place {k j t a : Int} (hk : (Lit.int .i64 k).wf = true) (hj : (Lit.int .i64 j).wf = true) (ht : (Lit.int .i64 t).wf = true) (ha : (Lit.int .i64 a).wf = true) : ∃ l, keyOf Try.prog 71 (pval k j t a) = some l := by
  obtain ⟨n, hn⟩ := size_types
  refine ⟨.string (keyBytes [.int .i64 k, .int .i64 j, .int .i64 t, .int .i64 a]), ?_⟩
  unfold keyOf pval
  simp only [Try.underlying71]
  rw [if_pos (by simp [kt_place, Value.formed, Try.underlying71, cells_place]), hn]
  unfold Program.keyLits
  simp only [Try.underlying71, Value.cells]
  rw [if_pos (by rw [cells_place]; exact ⟨rfl, by kernel_rfl⟩)]
  simp [cells_int, Program.keyLits, Try.underlying3, hk, hj, ht, ha, List.mapM_cons]
end Go.Proofs.Ytbmbhcjocgbbpaa.Fa
