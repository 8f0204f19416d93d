/-
  The document's own answers: whether the same four bytes stand at two places.
-/
import Derived.Test.YtcchknpgkcmneaaLzR4
namespace Go.Proofs.Ytcchknpgkcmneaa.Lz
open Go.ChangeShapes Go.WideShapes Go.ChangeAt Go.RowKit
open Go.Proofs.Ytcchknpgkcmneaa.Base Go.Proofs.Ytcchknpgkcmneaa.Nums
set_option linter.unusedVariables false
theorem beq8 (X Y : BitVec 8) : ((X.toNat : Int) == (Y.toNat : Int)) = decide (Y = X) := by
  by_cases h : Y = X
  · subst h; simp
  · rw [decide_eq_false h, beq_eq_false_iff_ne]; intro e; exact h (BitVec.eq_of_toNat_eq (by omega))
theorem same4_and (x : Txt) (j i : Nat) : same4 x j i = (decide (x.getD j 0 = x.getD i 0) && (decide (x.getD (j + 1) 0 = x.getD (i + 1) 0) && (decide (x.getD (j + 2) 0 = x.getD (i + 2) 0) && decide (x.getD (j + 3) 0 = x.getD (i + 3) 0)))) := by
  unfold same4 gd
  simp only [Bool.decide_and]
end Go.Proofs.Ytcchknpgkcmneaa.Lz
