/-
  Copies of strings: by the library's own contract.
-/
import Derived.Test.YtficnlglofgekaaDoorBase
import Derived.Shelf.Strconv.Clone
namespace Go.Proofs.YtficnlglofgekaaDoor.St
open Go.Shelf Go.RowKit
open Go.Proofs.YtficnlglofgekaaDoor.Base
def ren316 : Ren := ⟨fun | 316 => 50 | n => n, fun | 3 => 3 | 4 => 4 | 5 => 5 | 9 => 9 | 37 => 75 | 127 => 80 | n => n, fun n => n⟩
theorem lays316 : LaysM.n316 Tryd.prog ren316 := { mixed := by kernel_rfl, f316 := Tryd.func50, t0 := Tryd.underlying0, a0 := Tryd.isAgg0, z0 := Tryd.sizeOf0, v0 := Tryd.zeroValue0, i0 := by kernel_rfl, t3 := Tryd.underlying3, a3 := Tryd.isAgg3, z3 := Tryd.sizeOf3, v3 := Tryd.zeroValue3, i3 := by kernel_rfl, t4 := Tryd.underlying4, a4 := Tryd.isAgg4, z4 := Tryd.sizeOf4, v4 := Tryd.zeroValue4, i4 := by kernel_rfl, t5 := Tryd.underlying5, a5 := Tryd.isAgg5, z5 := Tryd.sizeOf5, v5 := Tryd.zeroValue5, i5 := by kernel_rfl, t9 := Tryd.underlying9, a9 := Tryd.isAgg9, z9 := Tryd.sizeOf9, v9 := Tryd.zeroValue9, i9 := by kernel_rfl, t37 := Tryd.underlying75, a37 := Tryd.isAgg75, z37 := Tryd.sizeOf75, v37 := Tryd.zeroValue75, i37 := by kernel_rfl, t127 := Tryd.underlying80, a127 := Tryd.isAgg80, z127 := Tryd.sizeOf80, v127 := Tryd.zeroValue80, i127 := by kernel_rfl }
theorem cloneLite_any (s : ByteArray) (w : World) (h : s.size ≤ 281474976710656) :
    Calls Tryd.prog 50 #[.string s] w fun e w' => e = .returned (.string s) ∧ Below w.heap.size w w' :=
  Any.stringslite_Clone lays316 s w h
theorem clone_any (s : ByteArray) (w : World) (h : s.size ≤ 281474976710656) :
    Calls Tryd.prog 41 #[.string s] w fun e w' => e = .returned (.string s) ∧ Below w.heap.size w w' := by
  go_enter Tryd.func41, Tryd.ntmps41
  go_wp2_with (go_at_call 50; refine (cloneLite_any _ _ h).mono ?_; rintro e w1 ⟨rfl, hb1⟩)
  go_ret
  exact ⟨rfl, hb1⟩
end Go.Proofs.YtficnlglofgekaaDoor.St
