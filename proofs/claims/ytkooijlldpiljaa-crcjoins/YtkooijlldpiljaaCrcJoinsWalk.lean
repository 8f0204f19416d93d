/-
  The walk of the statement CrcJoins.
-/
import Derived.Test.YtkooijlldpiljaaCrcJoin
import Derived.Test.YtkooijlldpiljaaCrcRefJoin
namespace Go.Proofs.Ytkooijlldpiljaa.crcJoins
open Go.ChangeShapes Go.WideShapes Go.ChangeAt Go.RowKit
open Go.Proofs.Ytkooijlldpiljaa.Crc
set_option linter.unusedVariables false
set_option maxHeartbeats 1000000 in
theorem walk (x0 x1 : BitVec 32) (n2 : Int) (w : World) (w2 : (Lit.int .i64 n2).wf = true) :
    Calls Try.prog 3 #[.int .u32 (x0.toNat : Int), .int .u32 (x1.toNat : Int), .int .i64 n2] w fun e w' => e = .returned (.bool true) ∧ Below w.heap.size w w' := by
  have hb := bounds_i64 w2
  have q1 : (((join x0 x1 n2.toNat).toNat : Int) == ((join x0 x1 n2.toNat).toNat : Int)) = true := by simp
  generalize hj : join x0 x1 n2.toNat = J at q1
  have HJ := hide hj
  clear hj
  go_enter Try.func3, Try.ntmps3
  go_wp2_with fail
  refine (join_any x0 x1 n2 _ (by omega)).mono ?_
  rintro e w' ⟨rfl, rfl⟩
  rw [HJ.out]
  go_wp2_with fail
  refine (refJoin_any x0 x1 n2 _ (by omega) (by omega)).mono ?_
  rintro e w1 ⟨rfl, hb1⟩
  rw [HJ.out]
  have HB := hide hb1
  clear hb1
  go_wp2_with fail
  go_ret
  exact ⟨rfl, HB.out⟩
end Go.Proofs.Ytkooijlldpiljaa.crcJoins
