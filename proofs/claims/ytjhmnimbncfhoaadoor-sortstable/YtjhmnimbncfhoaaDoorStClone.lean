/-
  Copies of strings: by the library's own contract.
-/
import Derived.Test.YtjhmnimbncfhoaaDoorBase
import Derived.Shelf.Strconv.Clone
namespace Go.Proofs.YtjhmnimbncfhoaaDoor.St
open Go.Shelf Go.RowKit
open Go.Proofs.YtjhmnimbncfhoaaDoor.Base
def ren316 : Ren := ⟨fun | 316 => 22 | n => n, fun | 3 => 3 | 4 => 4 | 5 => 5 | 9 => 9 | 37 => 48 | 127 => 60 | n => n, fun n => n⟩
theorem lays316 : LaysM.n316 Tryd.prog ren316 := { mixed := by kernel_rfl, f316 := Tryd.func22, t0 := Tryd.underlying0, a0 := Tryd.isAgg0, z0 := Tryd.sizeOf0, v0 := Tryd.zeroValue0, i0 := by kernel_rfl, t3 := Tryd.underlying3, a3 := Tryd.isAgg3, z3 := Tryd.sizeOf3, v3 := Tryd.zeroValue3, i3 := by kernel_rfl, t4 := Tryd.underlying4, a4 := Tryd.isAgg4, z4 := Tryd.sizeOf4, v4 := Tryd.zeroValue4, i4 := by kernel_rfl, t5 := Tryd.underlying5, a5 := Tryd.isAgg5, z5 := Tryd.sizeOf5, v5 := Tryd.zeroValue5, i5 := by kernel_rfl, t9 := Tryd.underlying9, a9 := Tryd.isAgg9, z9 := Tryd.sizeOf9, v9 := Tryd.zeroValue9, i9 := by kernel_rfl, t37 := Tryd.underlying48, a37 := Tryd.isAgg48, z37 := Tryd.sizeOf48, v37 := Tryd.zeroValue48, i37 := by kernel_rfl, t127 := Tryd.underlying60, a127 := Tryd.isAgg60, z127 := Tryd.sizeOf60, v127 := Tryd.zeroValue60, i127 := by kernel_rfl }
theorem cloneLite_any (s : ByteArray) (w : World) (h : s.size ≤ 281474976710656) :
    Calls Tryd.prog 22 #[.string s] w fun e w' => e = .returned (.string s) ∧ Below w.heap.size w w' :=
  Any.stringslite_Clone lays316 s w h
theorem clone_any (s : ByteArray) (w : World) (h : s.size ≤ 281474976710656) :
    Calls Tryd.prog 15 #[.string s] w fun e w' => e = .returned (.string s) ∧ Below w.heap.size w w' := by
  go_enter Tryd.func15, Tryd.ntmps15
  go_wp2_with (go_at_call 22; refine (cloneLite_any _ _ h).mono ?_; rintro e w1 ⟨rfl, hb1⟩)
  go_ret
  exact ⟨rfl, hb1⟩
end Go.Proofs.YtjhmnimbncfhoaaDoor.St
