/-
  The library's sort of ints, at this program's numbers.
-/
import Derived.Test.YtckfjhgnmegbhabIBase
import Derived.Shelf.Sort.Plain
import Derived.Sort.OwnSortedInts
namespace Go.Proofs.Ytckfjhgnmegbhab.Ln
open Go.Shelf Go.RowKit Go.Sort
open Go.Proofs.Ytckfjhgnmegbhab.Base
def lays189_ren : Go.Shelf.Ren := ⟨fun | 189 => 18 | 125 => 20 | 257 => 19 | 128 => 30 | 129 => 31 | 294 => 21 | 295 => 22 | 296 => 23 | 297 => 24 | 298 => 25 | 299 => 26 | 216 => 27 | 300 => 28 | 301 => 29 | 328 => 32 | 329 => 33 | 330 => 34 | 331 => 35 | 332 => 36 | 215 => 37 | 343 => 38 | n => n, fun | 28 => 22 | 3 => 3 | 46 => 51 | 0 => 0 | 51 => 62 | 53 => 64 | 4 => 4 | 183 => 54 | 182 => 53 | 131 => 59 | 5 => 5 | 9 => 9 | 218 => 65 | 222 => 69 | 228 => 72 | 229 => 73 | n => n, fun | n => n⟩
theorem lays189 : Go.Proofs.Lays.n189 Try.prog lays189_ren := {
  mixed := by kernel_rfl
  f125 := Try.func20.trans (congrArg some (by kernel_rfl))
  f128 := Try.func30.trans (congrArg some (by kernel_rfl))
  f129 := Try.func31.trans (congrArg some (by kernel_rfl))
  f189 := Try.func18.trans (congrArg some (by kernel_rfl))
  f215 := Try.func37.trans (congrArg some (by kernel_rfl))
  f216 := Try.func27.trans (congrArg some (by kernel_rfl))
  f257 := Try.func19.trans (congrArg some (by kernel_rfl))
  f294 := Try.func21.trans (congrArg some (by kernel_rfl))
  f295 := Try.func22.trans (congrArg some (by kernel_rfl))
  f296 := Try.func23.trans (congrArg some (by kernel_rfl))
  f297 := Try.func24.trans (congrArg some (by kernel_rfl))
  f298 := Try.func25.trans (congrArg some (by kernel_rfl))
  f299 := Try.func26.trans (congrArg some (by kernel_rfl))
  f300 := Try.func28.trans (congrArg some (by kernel_rfl))
  f301 := Try.func29.trans (congrArg some (by kernel_rfl))
  f328 := Try.func32.trans (congrArg some (by kernel_rfl))
  f329 := Try.func33.trans (congrArg some (by kernel_rfl))
  f330 := Try.func34.trans (congrArg some (by kernel_rfl))
  f331 := Try.func35.trans (congrArg some (by kernel_rfl))
  f332 := Try.func36.trans (congrArg some (by kernel_rfl))
  f343 := Try.func38.trans (congrArg some (by kernel_rfl))
  t0 := Try.underlying0
  a0 := Try.isAgg0
  z0 := Try.sizeOf0
  v0 := Try.zeroValue0
  t3 := Try.underlying3
  a3 := Try.isAgg3
  z3 := Try.sizeOf3
  v3 := Try.zeroValue3
  t4 := Try.underlying4
  a4 := Try.isAgg4
  z4 := Try.sizeOf4
  v4 := Try.zeroValue4
  t5 := Try.underlying5
  a5 := Try.isAgg5
  z5 := Try.sizeOf5
  v5 := Try.zeroValue5
  t9 := Try.underlying9
  a9 := Try.isAgg9
  z9 := Try.sizeOf9
  v9 := Try.zeroValue9
  t28 := Try.underlying22
  a28 := Try.isAgg22
  z28 := Try.sizeOf22
  v28 := Try.zeroValue22
  t46 := Try.underlying51
  a46 := Try.isAgg51
  z46 := Try.sizeOf51
  v46 := Try.zeroValue51
  t51 := Try.underlying62
  a51 := Try.isAgg62
  z51 := Try.sizeOf62
  v51 := Try.zeroValue62
  t53 := Try.underlying64
  a53 := Try.isAgg64
  z53 := Try.sizeOf64
  v53 := Try.zeroValue64
  t131 := Try.underlying59
  a131 := Try.isAgg59
  z131 := Try.sizeOf59
  v131 := Try.zeroValue59
  t182 := Try.underlying53
  a182 := Try.isAgg53
  z182 := Try.sizeOf53
  v182 := Try.zeroValue53
  t183 := Try.underlying54
  a183 := Try.isAgg54
  z183 := Try.sizeOf54
  v183 := Try.zeroValue54
  t218 := Try.underlying65
  a218 := Try.isAgg65
  z218 := Try.sizeOf65
  v218 := Try.zeroValue65
  t222 := Try.underlying69
  a222 := Try.isAgg69
  z222 := Try.sizeOf69
  v222 := Try.zeroValue69
  t228 := Try.underlying72
  a228 := Try.isAgg72
  z228 := Try.sizeOf72
  v228 := Try.zeroValue72
  t229 := Try.underlying73
  a229 := Try.isAgg73
  z229 := Try.sizeOf73
  v229 := Try.zeroValue73 }
theorem sort_any (xs : List Int) (g cap : Nat) (w : World) (h : RowI 3 w g xs) (hl : xs.length ≤ 1000000) :
    Calls Try.prog 18 #[.slice (some ⟨g, 0, none⟩) xs.length cap] w fun e w' => e = .returned (.tuple #[]) ∧ RowI 3 w' g (xs.mergeSort fun x y => decide (x ≤ y)) ∧ w.grownBy w' (some g) := by
  have hH : Holds (Value.int .i64) w g 0 xs.toArray := holds_of_blockI (cur := (ivals xs).toArray) (e := 3) h (by
    rw [List.take_of_length_le (by simp [ivals])]
    rfl)
  refine (Any.slices_Sort_int lays189 g 0 cap xs w hH h.lt (by omega)).mono ?_
  rintro e w' ⟨rfl, n, os, rfl⟩
  refine ⟨rfl, ?_, grownBy_sortedI _⟩
  have hlen : (xs.mergeSort fun x y => decide (x ≤ y)).length = xs.length := by rw [List.length_mergeSort]
  unfold RowI
  rw [heap_sortedI (fr := (0, 0)) _ h]
  congr 2
  apply Array.ext'
  have hc := take_putCellsI (ivals xs).toArray (xs.mergeSort fun x y => decide (x ≤ y)) (by rw [hlen]; simp [ivals])
  rw [List.take_of_length_le (by rw [hlen]; simp [putCells, ivals])] at hc
  rw [hc]
  rfl
end Go.Proofs.Ytckfjhgnmegbhab.Ln
