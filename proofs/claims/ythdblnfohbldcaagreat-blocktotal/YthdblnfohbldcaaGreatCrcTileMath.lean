/-
  Four bytes and a number of 32 bits, the lowest first; what a tile is, in plain words.
-/
import Derived.Test.YthdblnfohbldcaaGreatCrcMath
namespace Go.Proofs.YthdblnfohbldcaaGreat.Crc

def leTo (bs : List (BitVec 8)) : Nat → BitVec 32
  | 0 => BitVec.ofNat 32 0
  | k + 1 => leTo bs k ||| ((bs.getD k 0).setWidth 32 <<< (8 * k))
def le (bs : List (BitVec 8)) : BitVec 32 := leTo bs 4
def byteAt (s : BitVec 32) (k : Nat) : BitVec 8 := (s >>> (8 * k)).setWidth 8
def sumBytes (s : BitVec 32) : List (BitVec 8) := [byteAt s 0, byteAt s 1, byteAt s 2, byteAt s 3]
theorem length_sumBytes (s : BitVec 32) : (sumBytes s).length = 4 := rfl
theorem le_bit (bs : List (BitVec 8)) (i : Nat) (hi : i < 32) : (le bs).getLsbD i = (bs.getD (i / 8) 0).getLsbD (i % 8) := by
  simp only [le, leTo, BitVec.getLsbD_or, BitVec.getLsbD_shiftLeft, BitVec.getLsbD_setWidth, BitVec.getLsbD_ofNat, hi]
  have ge : ∀ (c : BitVec 8) (j : Nat), 8 ≤ j → c.getLsbD j = false := fun c j h => BitVec.getLsbD_of_ge c j h
  rcases (by omega : i / 8 = 0 ∨ i / 8 = 1 ∨ i / 8 = 2 ∨ i / 8 = 3) with h | h | h | h
  · rw [h, show i % 8 = i by omega]
    simp [show i < 8 by omega, show i < 16 by omega, show i < 24 by omega, hi]
  · rw [h, show i % 8 = i - 8 by omega]
    simp [show ¬ i < 8 by omega, show i < 16 by omega, show i < 24 by omega, hi, show i - 8 < 32 by omega, ge _ i (by omega)]
  · rw [h, show i % 8 = i - 16 by omega]
    simp [show ¬ i < 8 by omega, show ¬ i < 16 by omega, show i < 24 by omega, hi, show i - 8 < 32 by omega, show i - 16 < 32 by omega, ge _ i (by omega), ge _ (i - 8) (by omega)]
  · rw [h, show i % 8 = i - 24 by omega]
    simp [show ¬ i < 8 by omega, show ¬ i < 16 by omega, show ¬ i < 24 by omega, hi, show i - 8 < 32 by omega, show i - 16 < 32 by omega, show i - 24 < 32 by omega, ge _ i (by omega), ge _ (i - 8) (by omega), ge _ (i - 16) (by omega)]
theorem byteAt_bit (s : BitVec 32) (k j : Nat) (hj : j < 8) : (byteAt s k).getLsbD j = s.getLsbD (8 * k + j) := by
  simp [byteAt, hj]
theorem le_sumBytes (s : BitVec 32) : le (sumBytes s) = s := by
  apply BitVec.eq_of_getLsbD_eq
  intro i hi
  rw [le_bit _ _ hi]
  rcases (by omega : i / 8 = 0 ∨ i / 8 = 1 ∨ i / 8 = 2 ∨ i / 8 = 3) with h | h | h | h <;> rw [h] <;>
    (show (byteAt s _).getLsbD (i % 8) = _; rw [byteAt_bit _ _ _ (by omega)]; congr 1; omega)
theorem byteAt_le (bs : List (BitVec 8)) (k : Nat) (hk : k < 4) : byteAt (le bs) k = bs.getD k 0 := by
  apply BitVec.eq_of_getLsbD_eq
  intro j hj
  rw [byteAt_bit _ _ _ hj, le_bit _ _ (by omega), show (8 * k + j) / 8 = k by omega, show (8 * k + j) % 8 = j by omega]
theorem sumBytes_le (bs : List (BitVec 8)) (h : bs.length = 4) : sumBytes (le bs) = bs := by
  unfold sumBytes
  rw [byteAt_le bs 0 (by omega), byteAt_le bs 1 (by omega), byteAt_le bs 2 (by omega), byteAt_le bs 3 (by omega)]
  match bs, h with
  | [a, b, c, d], _ => rfl
/-- What Seal makes. -/
def tile (bs : List (BitVec 8)) : List (BitVec 8) := bs ++ sumBytes (sum bs)
theorem length_tile (bs : List (BitVec 8)) : (tile bs).length = bs.length + 4 := by simp [tile, length_sumBytes]
/-- What Open tells: the error's number. -/
def openErr (bs : List (BitVec 8)) : Nat := if bs.length < 4 then 11 else if sum (bs.take (bs.length - 4)) = le (bs.drop (bs.length - 4)) then 0 else 10
/-- What Open tells: the bytes. -/
def openBody (bs : List (BitVec 8)) : List (BitVec 8) := if openErr bs = 0 then bs.take (bs.length - 4) else []
theorem open_short (bs : List (BitVec 8)) (h : bs.length < 4) : openErr bs = 11 := by simp [openErr, h]
theorem openErr_tile (bs : List (BitVec 8)) : openErr (tile bs) = 0 := by
  have h : ¬ (tile bs).length < 4 := by rw [length_tile]; omega
  unfold openErr
  rw [if_neg h, if_pos]
  rw [length_tile, Nat.add_sub_cancel]
  unfold tile
  rw [List.take_left, List.drop_left, le_sumBytes]
theorem openBody_tile (bs : List (BitVec 8)) : openBody (tile bs) = bs := by
  unfold openBody
  rw [if_pos (openErr_tile bs), length_tile, Nat.add_sub_cancel]
  unfold tile; exact List.take_left
theorem tile_open (bs : List (BitVec 8)) (h : openErr bs = 0) : tile (openBody bs) = bs := by
  unfold openBody
  rw [if_pos h]
  unfold openErr at h
  by_cases h4 : bs.length < 4
  · rw [if_pos h4] at h; omega
  · rw [if_neg h4] at h
    by_cases hs : sum (bs.take (bs.length - 4)) = le (bs.drop (bs.length - 4))
    · unfold tile
      rw [hs, sumBytes_le _ (by rw [List.length_drop]; omega), List.take_append_drop]
    · rw [if_neg hs] at h; omega
theorem length_openBody (bs : List (BitVec 8)) : (openBody bs).length ≤ bs.length := by
  unfold openBody; split
  · rw [List.length_take]; omega
  · simp
end Go.Proofs.YthdblnfohbldcaaGreat.Crc
