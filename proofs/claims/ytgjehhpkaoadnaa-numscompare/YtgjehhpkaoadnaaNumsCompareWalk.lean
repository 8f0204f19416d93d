/-
  The walk of the statement NumsCompare.
-/
import Derived.Test.YtgjehhpkaoadnaaNumsOrdR
namespace Go.Proofs.Ytgjehhpkaoadnaa.numsCompare
open Go.ChangeShapes Go.WideShapes Go.ChangeAt Go.RowKit
open Go.Proofs.Ytgjehhpkaoadnaa.Base Go.Proofs.Ytgjehhpkaoadnaa.Nums
set_option maxHeartbeats 1000000 in
theorem walk (s0 s1 : ByteArray) (w : World) (z0 : s0.size ≤ 140737488351232) (z1 : s1.size ≤ 140737488351232) :
    Calls Try.prog 3 #[.string s0, .string s1] w fun e w' => e = .returned (.bool true) ∧ Below w.heap.size w w' := by
  have q1 : (order (txt s0) (txt s1) == order (txt s0) (txt s1)) = true := by simp
  have q2 : ((common (txt s0) (txt s1) : Int) == (common (txt s0) (txt s1) : Int)) = true := by simp
  go_enter Try.func3, Try.ntmps3
  go_wp2_with fail
  refine (compare_any _ _ _ (by omega) (by omega)).mono ?_
  rintro e w1 ⟨rfl, hb⟩
  have HB1 := hide hb
  clear hb
  go_wp2_with fail
  refine (refCompare_any _ _ _ (by omega) (by omega)).mono ?_
  rintro e w2 ⟨rfl, hb⟩
  have HB2 := hide (below_trans HB1.out hb)
  clear hb HB1
  go_wp2_with fail
  refine (common_any _ _ _ (by omega) (by omega)).mono ?_
  rintro e w3 ⟨rfl, hb⟩
  have HB3 := hide (below_trans HB2.out hb)
  clear hb HB2
  go_wp2_with fail
  refine (refCommon_any _ _ _ (by omega) (by omega)).mono ?_
  rintro e w4 ⟨rfl, hb⟩
  have HB4 := hide (below_trans HB3.out hb)
  clear hb HB3
  go_wp2_with fail
  go_ret
  exact ⟨rfl, HB4.out⟩
end Go.Proofs.Ytgjehhpkaoadnaa.numsCompare
