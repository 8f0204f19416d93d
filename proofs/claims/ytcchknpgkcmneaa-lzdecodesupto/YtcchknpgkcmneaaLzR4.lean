/-
  The document's own answers: where a place is kept; whether two places are alike, and how far.
-/
import Derived.Test.YtcchknpgkcmneaaLzE1
namespace Go.Proofs.Ytcchknpgkcmneaa.Lz
open Go.ChangeShapes Go.WideShapes Go.ChangeAt Go.RowKit
open Go.Proofs.Ytcchknpgkcmneaa.Base Go.Proofs.Ytcchknpgkcmneaa.Nums
set_option linter.unusedVariables false
def refSlot (x : Txt) (i : Nat) : Nat := ((gd x i).toNat + 7 * (gd x (i + 1)).toNat + 61 * (gd x (i + 2)).toNat + 509 * (gd x (i + 3)).toNat) % 4096
theorem refSlot_lt (x : Txt) (i : Nat) : refSlot x i < 4096 := Nat.mod_lt _ (by omega)
theorem refSlot_same (x : Txt) (j i : Nat) (h : same4 x j i = true) : refSlot x j = refSlot x i := by
  unfold same4 at h
  rw [decide_eq_true_iff] at h
  unfold refSlot
  rw [h.1, h.2.1, h.2.2.1, h.2.2.2]
end Go.Proofs.Ytcchknpgkcmneaa.Lz
