/-
  Copies of strings: by the library's own contract.
-/
import Derived.Test.YthdblnfohbldcaaGreatBlModJ
import Derived.Shelf.Strconv.Clone
namespace Go.Proofs.YthdblnfohbldcaaGreat.St
open Go.Shelf Go.RowKit
open Go.Proofs.YthdblnfohbldcaaGreat.Base
def ren316 : Ren := ⟨fun | 316 => 107 | n => n, fun | 3 => 3 | 4 => 4 | 5 => 5 | 9 => 9 | 37 => 24 | 127 => 192 | n => n, fun n => n⟩
theorem lays316 : LaysM.n316 Tryz.prog ren316 := { mixed := by kernel_rfl, f316 := Tryz.func107, t0 := Tryz.underlying0, a0 := Tryz.isAgg0, z0 := Tryz.sizeOf0, v0 := Tryz.zeroValue0, i0 := by kernel_rfl, t3 := Tryz.underlying3, a3 := Tryz.isAgg3, z3 := Tryz.sizeOf3, v3 := Tryz.zeroValue3, i3 := by kernel_rfl, t4 := Tryz.underlying4, a4 := Tryz.isAgg4, z4 := Tryz.sizeOf4, v4 := Tryz.zeroValue4, i4 := by kernel_rfl, t5 := Tryz.underlying5, a5 := Tryz.isAgg5, z5 := Tryz.sizeOf5, v5 := Tryz.zeroValue5, i5 := by kernel_rfl, t9 := Tryz.underlying9, a9 := Tryz.isAgg9, z9 := Tryz.sizeOf9, v9 := Tryz.zeroValue9, i9 := by kernel_rfl, t37 := Tryz.underlying24, a37 := Tryz.isAgg24, z37 := Tryz.sizeOf24, v37 := Tryz.zeroValue24, i37 := by kernel_rfl, t127 := Tryz.underlying192, a127 := Tryz.isAgg192, z127 := Tryz.sizeOf192, v127 := Tryz.zeroValue192, i127 := by kernel_rfl }
theorem cloneLite_any (s : ByteArray) (w : World) (h : s.size ≤ 281474976710656) :
    Calls Tryz.prog 107 #[.string s] w fun e w' => e = .returned (.string s) ∧ Below w.heap.size w w' :=
  Any.stringslite_Clone lays316 s w h
theorem clone_any (s : ByteArray) (w : World) (h : s.size ≤ 281474976710656) :
    Calls Tryz.prog 63 #[.string s] w fun e w' => e = .returned (.string s) ∧ Below w.heap.size w w' := by
  go_enter Tryz.func63, Tryz.ntmps63
  go_wp2_with (go_at_call 107; refine (cloneLite_any _ _ h).mono ?_; rintro e w1 ⟨rfl, hb1⟩)
  go_ret
  exact ⟨rfl, hb1⟩
end Go.Proofs.YthdblnfohbldcaaGreat.St
