/-
  The statements' own helpers: same, roomy, next: what each tells and what becomes of memory.
-/
import Derived.Test.YthdblnfohbldcaaGreatCzExtend
import Derived.Deep.QuietTactic
import Derived.BigQuiet
import Derived.WalkSmall
namespace Go.Proofs.YthdblnfohbldcaaGreat.Crc
set_option linter.unusedVariables false
open Go.Proofs.YthdblnfohbldcaaGreat.Base
open Go.ChangeShapes Go.WideShapes Go.ChangeAt Go.RowKit
def pad : List (BitVec 8) := List.replicate 64 (BitVec.ofNat 8 165)
theorem length_pad : pad.length = 64 := by simp [pad]
theorem pad_get (k : Nat) (h : k < 64) : pad[k]? = some (BitVec.ofNat 8 165) := by
  unfold pad; rw [List.getElem?_replicate, if_pos h]
def padded (bs : List (BitVec 8)) : List (BitVec 8) := bs ++ pad
/-- What 'roomy' has laid behind k rounds. -/
def roomTo (bs : List (BitVec 8)) (k : Nat) : List (BitVec 8) := (padded bs).take k ++ List.replicate (bs.length + 64 - k) (BitVec.ofNat 8 0)
theorem length_padded (bs : List (BitVec 8)) : (padded bs).length = bs.length + 64 := by simp [padded, length_pad]
theorem length_roomTo (bs : List (BitVec 8)) (k : Nat) (h : k ≤ bs.length + 64) : (roomTo bs k).length = bs.length + 64 := by
  simp [roomTo, length_padded]; omega
theorem roomTo_zero (bs : List (BitVec 8)) : vals (roomTo bs 0) = (madeCells (Value.int .u8 0).cells ((bs.length + 64) * 1)).toList := by
  rw [show (Value.int .u8 0).cells = #[Value.int .u8 0] from rfl, toList_madeCells_one]
  simp [roomTo, vals, V8]
theorem roomTo_end (bs : List (BitVec 8)) : roomTo bs (bs.length + 64) = padded bs := by
  unfold roomTo; rw [List.take_of_length_le (by rw [length_padded]; omega)]; simp
theorem roomTo_step (bs : List (BitVec 8)) (k : Nat) (h : k < bs.length + 64) : (roomTo bs k).set k ((padded bs).getD k 0) = roomTo bs (k + 1) := by
  have hp : k < (padded bs).length := by rw [length_padded]; exact h
  unfold roomTo
  have hl : ((padded bs).take k).length = k := by rw [List.length_take]; omega
  rw [List.set_append_right _ _ (by omega), hl, Nat.sub_self, getD_take _ k hp,
    show bs.length + 64 - k = (bs.length + 64 - (k + 1)) + 1 by omega, List.replicate_succ, List.set_cons_zero, List.append_assoc]
  rfl
theorem padded_lt (bs : List (BitVec 8)) (k : Nat) (h : k < bs.length) : (padded bs).getD k 0 = bs.getD k 0 := by
  simp [padded, List.getElem?_append_left h]
theorem padded_ge (bs : List (BitVec 8)) (k : Nat) (h : bs.length ≤ k) (h2 : k < bs.length + 64) : (padded bs).getD k 0 = BitVec.ofNat 8 165 := by
  rw [List.getD_eq_getElem?_getD, padded, List.getElem?_append_right h, pad_get _ (by omega)]; rfl
/-- 'next' on a row of the call's own. -/
def inc (bs : List (BitVec 8)) : List (BitVec 8) := bs.map (· + BitVec.ofNat 8 1)
def incTo (bs : List (BitVec 8)) (k : Nat) : List (BitVec 8) := (inc bs).take k ++ bs.drop k
theorem length_inc (bs : List (BitVec 8)) : (inc bs).length = bs.length := by simp [inc]
theorem incTo_zero (bs : List (BitVec 8)) : incTo bs 0 = bs := by simp [incTo]
theorem incTo_end (bs : List (BitVec 8)) : incTo bs bs.length = inc bs := by
  unfold incTo; rw [List.take_of_length_le (by rw [length_inc]; omega)]; simp
theorem incTo_get (bs : List (BitVec 8)) (k : Nat) (h : k < bs.length) : (incTo bs k).getD k 0 = bs.getD k 0 := by
  have hl : ((inc bs).take k).length = k := by rw [List.length_take, length_inc]; omega
  rw [List.getD_eq_getElem?_getD, incTo, List.getElem?_append_right (by omega), hl, Nat.sub_self, List.getElem?_drop, Nat.add_zero, List.getD_eq_getElem?_getD]
theorem incTo_step (bs : List (BitVec 8)) (k : Nat) (h : k < bs.length) : (incTo bs k).set k (bs.getD k 0 + BitVec.ofNat 8 1) = incTo bs (k + 1) := by
  have hl : ((inc bs).take k).length = k := by rw [List.length_take, length_inc]; omega
  unfold incTo
  rw [List.set_append_right _ _ (by omega), hl, Nat.sub_self, getD_take _ k (by rw [length_inc]; exact h), List.drop_eq_getElem_cons h, List.set_cons_zero, List.append_assoc]
  congr 2
  rw [List.getD_eq_getElem?_getD, List.getElem?_eq_getElem h, List.getD_eq_getElem?_getD, inc, List.getElem?_map, List.getElem?_eq_getElem h]
  rfl
theorem inc_val (c : BitVec 8) : ((c.toNat : Int) + 1) % 256 = ((c + BitVec.ofNat 8 1).toNat : Int) := by
  rw [BitVec.toNat_add]; rfl
end Go.Proofs.YthdblnfohbldcaaGreat.Crc
