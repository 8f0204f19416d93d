/-
  Copies of strings: by the library's own contract.
-/
import Derived.Test.YtmhebaknoginhaaBase
import Derived.Shelf.Strconv.Clone
namespace Go.Proofs.Ytmhebaknoginhaa.St
open Go.Shelf Go.RowKit
open Go.Proofs.Ytmhebaknoginhaa.Base
def ren316 : Ren := ⟨fun | 316 => 31 | n => n, fun | 3 => 3 | 4 => 4 | 5 => 5 | 9 => 9 | 37 => 64 | 127 => 65 | n => n, fun n => n⟩
theorem lays316 : LaysM.n316 Try.prog ren316 := { mixed := by kernel_rfl, f316 := Try.func31, t0 := Try.underlying0, a0 := Try.isAgg0, z0 := Try.sizeOf0, v0 := Try.zeroValue0, i0 := by kernel_rfl, t3 := Try.underlying3, a3 := Try.isAgg3, z3 := Try.sizeOf3, v3 := Try.zeroValue3, i3 := by kernel_rfl, t4 := Try.underlying4, a4 := Try.isAgg4, z4 := Try.sizeOf4, v4 := Try.zeroValue4, i4 := by kernel_rfl, t5 := Try.underlying5, a5 := Try.isAgg5, z5 := Try.sizeOf5, v5 := Try.zeroValue5, i5 := by kernel_rfl, t9 := Try.underlying9, a9 := Try.isAgg9, z9 := Try.sizeOf9, v9 := Try.zeroValue9, i9 := by kernel_rfl, t37 := Try.underlying64, a37 := Try.isAgg64, z37 := Try.sizeOf64, v37 := Try.zeroValue64, i37 := by kernel_rfl, t127 := Try.underlying65, a127 := Try.isAgg65, z127 := Try.sizeOf65, v127 := Try.zeroValue65, i127 := by kernel_rfl }
theorem cloneLite_any (s : ByteArray) (w : World) (h : s.size ≤ 281474976710656) :
    Calls Try.prog 31 #[.string s] w fun e w' => e = .returned (.string s) ∧ Below w.heap.size w w' :=
  Any.stringslite_Clone lays316 s w h
theorem clone_any (s : ByteArray) (w : World) (h : s.size ≤ 281474976710656) :
    Calls Try.prog 27 #[.string s] w fun e w' => e = .returned (.string s) ∧ Below w.heap.size w w' := by
  go_enter Try.func27, Try.ntmps27
  go_wp2_with (go_at_call 31; refine (cloneLite_any _ _ h).mono ?_; rintro e w1 ⟨rfl, hb1⟩)
  go_ret
  exact ⟨rfl, hb1⟩
end Go.Proofs.Ytmhebaknoginhaa.St
