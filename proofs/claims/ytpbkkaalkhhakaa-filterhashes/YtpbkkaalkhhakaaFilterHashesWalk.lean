/-
  The walk of the statement FilterHashes.
-/
import Derived.Test.YtpbkkaalkhhakaaFiRefHash
namespace Go.Proofs.Ytpbkkaalkhhakaa.filterHashes
open Go.ChangeShapes Go.WideShapes Go.ChangeAt Go.RowKit
open Go.Proofs.Ytpbkkaalkhhakaa.Filt
theorem own : ownKnob Try.prog.godebug = none := by kernel_rfl
theorem laidOut : laidOutB Try.prog = true := by kernel_rfl
set_option maxHeartbeats 1000000 in
theorem walk (s0 : ByteArray) (w : World) (z0 : s0.size ≤ 140737488351232) :
    Calls Try.prog 3 #[.string s0] w fun e w' => e = .returned (.bool true) ∧ Below w.heap.size w w' := by
  have q1 : ((hashX s0 : Int) == (hashX s0 : Int)) = true := by simp
  have q2 : ((hashY s0 : Int) == (hashY s0 : Int)) = true := by simp
  go_enter Try.func3, Try.ntmps3
  go_wp2_with fail
  refine (hash_any _ _ (by omega)).mono ?_
  rintro e w1 ⟨rfl, rfl⟩
  go_wp2_with fail
  refine (refHash_any _ _ (by omega)).mono ?_
  rintro e w2 ⟨rfl, rfl⟩
  go_wp2_with fail
  go_ret
  exact ⟨rfl, Below.refl _ _⟩
end Go.Proofs.Ytpbkkaalkhhakaa.filterHashes
