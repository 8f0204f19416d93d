/-
  What the program tells of Put, Get, Fixed and Word.
-/
import Derived.Test.YtjikoamchbmhjaaNumsNum
namespace Go.Proofs.Ytjikoamchbmhjaa.Nums
set_option linter.unusedVariables false
open Go.ChangeShapes Go.WideShapes Go.ChangeAt Go.RowKit
open Go.Proofs.Ytjikoamchbmhjaa.Base
/-- The bytes of any number. -/
def putI (n : Int) : List (BitVec 8) := if n < 0 then [] else put n.toNat
theorem putI_neg (n : Int) (h : n < 0) : putI n = [] := by unfold putI; rw [if_pos h]
theorem putI_nat (m : Nat) : putI (m : Int) = put m := by unfold putI; rw [if_neg (by omega)]; simp
theorem or128 : ∀ c : BitVec 8, (c ||| BitVec.ofNat 8 128).toNat = c.toNat % 128 + 128 := by decide +kernel
theorem put_step (m : Nat) : ∃ d : BitVec 8, bits .or .u8 ((m : Int) % 256) 128 = (d.toNat : Int) ∧ Hid (d = B8 (m % 128 + 128)) := by
  refine ⟨B8 (m % 128 + 128), ?_, rfl⟩
  have e : ((m : Int) % 256) = ((B8 m).toNat : Int) := by unfold B8; rw [BitVec.toNat_ofNat]; omega
  have e2 : (128 : Int) = ((BitVec.ofNat 8 128).toNat : Int) := by decide
  rw [e, e2, u8_or_nat _ _ (lt8 _) (by decide), ← BitVec.toNat_or, or128, B8_toNat (m % 128 + 128) (by omega)]
  unfold B8; rw [BitVec.toNat_ofNat]; omega
theorem last_step (m : Nat) (h : m < 128) : ∃ d : BitVec 8, (m : Int) % 256 = (d.toNat : Int) ∧ Hid (d = B8 m) := by
  refine ⟨B8 m, ?_, rfl⟩
  rw [B8_toNat m (by omega)]; omega
end Go.Proofs.Ytjikoamchbmhjaa.Nums
