/-
  Of: the lines of a piece, by the program and by the document.
-/
import Derived.Test.YtckfjhgnmegbhabLnRef
namespace Go.Proofs.Ytckfjhgnmegbhab.Ln
open Go.ChangeShapes Go.WideShapes Go.ChangeAt Go.RowKit
open Go.Proofs.Ytckfjhgnmegbhab.Base Go.Proofs.Ytckfjhgnmegbhab.Rf
set_option linter.unusedVariables false
/-- The error of a piece. -/
def ofErr (T : ByteArray) (f t : Int) : Int := if 4194304 < T.size then 2 else if f < 0 ∨ t < f ∨ (T.size : Int) < t then 3 else 0
/-- The first line of a piece, how many it has. -/
def ofA (T : ByteArray) (f : Int) : Nat := ix T f.toNat
def ofN (T : ByteArray) (f t : Int) : Nat := if ofErr T f t = 0 then ix T t.toNat - ix T f.toNat else 0
theorem lns_piece (T : ByteArray) (f t : Nat) (h : f ≤ t) (ht : t ≤ T.size) : lns (T.extract (lf T f) (lf T t)) 0 (cnt (T.extract (lf T f) (lf T t))) = lns T (ix T f) (ix T t - ix T f) := by
  have h1 := ix_mono T f t h
  have h2 := ix_le T t
  rw [lf_ix T f (by omega), lf_ix T t ht, cnt_extract T _ _ h1 h2]
  unfold lns
  apply List.map_congr_left
  intro k hk
  have hk := List.mem_range.1 hk
  rw [Nat.zero_add, ln_extract T _ _ k h2 (by omega)]
end Go.Proofs.Ytckfjhgnmegbhab.Ln
