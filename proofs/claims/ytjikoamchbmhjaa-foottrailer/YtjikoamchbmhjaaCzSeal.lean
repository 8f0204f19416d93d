/-
  What the program tells of Seal.
-/
import Derived.Test.YtjikoamchbmhjaaCzTile
import Derived.WalkSpells
namespace Go.Proofs.Ytjikoamchbmhjaa.Crc
set_option linter.unusedVariables false
open Go.Proofs.Ytjikoamchbmhjaa.Base
open Go.ChangeShapes Go.WideShapes Go.ChangeAt Go.RowKit
theorem byte_val (X : BitVec 32) : (X.toNat : Int) % 256 = ((X.setWidth 8).toNat : Int) := by
  rw [BitVec.toNat_setWidth]; rfl
theorem sumBytes_take (s : BitVec 32) (k : Nat) (h : k < 4) : (sumBytes s).take (k + 1) = (sumBytes s).take k ++ [(s >>> (8 * k)).setWidth 8] := by
  match k, h with
  | 0, _ => rfl
  | 1, _ => rfl
  | 2, _ => rfl
  | 3, _ => rfl
end Go.Proofs.Ytjikoamchbmhjaa.Crc
