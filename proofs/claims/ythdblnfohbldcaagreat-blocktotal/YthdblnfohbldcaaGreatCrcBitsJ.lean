/-
  The model's arithmetic on 8 and 32 bits without a sign, said of bit vectors.
-/
import Derived.Test.YthdblnfohbldcaaGreatCrcTileMathJ
import Derived.WalkKit
namespace Go.Proofs.YthdblnfohbldcaaGreat.Crc

theorem lt32 (x : BitVec 32) : x.toNat < 4294967296 := x.isLt
theorem lt8 (x : BitVec 8) : x.toNat < 256 := x.isLt
theorem bxor (x y : BitVec 32) : bits .xor .u32 (x.toNat : Int) (y.toNat : Int) = ((x ^^^ y).toNat : Int) := by
  rw [u32_xor_nat _ _ (lt32 x) (lt32 y), BitVec.toNat_xor]
theorem band (x y : BitVec 32) : bits .and .u32 (x.toNat : Int) (y.toNat : Int) = ((x &&& y).toNat : Int) := by
  rw [u32_and_nat _ _ (lt32 x) (lt32 y), BitVec.toNat_and]
theorem bor (x y : BitVec 32) : bits .or .u32 (x.toNat : Int) (y.toNat : Int) = ((x ||| y).toNat : Int) := by
  rw [u32_or_nat _ _ (lt32 x) (lt32 y), BitVec.toNat_or]
theorem bshr (k : Nat) (x : BitVec 32) : (x.toNat : Int) / ((2 ^ k : Nat) : Int) = ((x >>> k).toNat : Int) := by
  rw [BitVec.toNat_ushiftRight, Nat.shiftRight_eq_div_pow]; exact (Int.natCast_ediv _ _).symm
theorem bshr1 (x : BitVec 32) : (x.toNat : Int) / (2 : Int) = ((x >>> 1).toNat : Int) := bshr 1 x
theorem bshr4 (x : BitVec 32) : (x.toNat : Int) / (16 : Int) = ((x >>> 4).toNat : Int) := bshr 4 x
theorem bshr8 (x : BitVec 32) : (x.toNat : Int) / (256 : Int) = ((x >>> 8).toNat : Int) := bshr 8 x
theorem low_bit (x : BitVec 32) : (x.toNat : Int) % 2 = if x.getLsbD 0 then 1 else 0 := by
  have : x.getLsbD 0 = decide (x.toNat % 2 = 1) := by
    rw [BitVec.getLsbD, Nat.testBit_zero]
  rw [this]
  by_cases h : x.toNat % 2 = 1
  · simp [h]; omega
  · simp [h]; omega
theorem and_one (x : BitVec 32) : bits .and .u32 (x.toNat : Int) 1 = if x.getLsbD 0 then 1 else 0 := by
  have h := band x (BitVec.ofNat 32 1)
  have e : ((BitVec.ofNat 32 1).toNat : Int) = 1 := by decide
  rw [e] at h
  rw [h, ← low_bit, BitVec.toNat_and]
  show ((x.toNat &&& 1 : Nat) : Int) = _
  rw [Nat.and_one_is_mod]; rfl
theorem poly_toNat : ((poly.toNat : Nat) : Int) = 2197175160 := by decide
theorem M_odd_val (x : BitVec 32) (h : x.getLsbD 0 = true) : bits .xor .u32 ((x.toNat : Int) / (2 : Int)) (2197175160 : Int) = ((M x).toNat : Int) := by
  rw [bshr1, ← poly_toNat, bxor]; unfold M; rw [h]; rfl
theorem M_even_val (x : BitVec 32) (h : x.getLsbD 0 = false) : (x.toNat : Int) / (2 : Int) = ((M x).toNat : Int) := by
  rw [M_even x h, bshr1]
theorem ret_int {k : IntKind} {a b : Int} (h : a = b) : Ending.returned (.int k a) = .returned (.int k b) := by rw [h]
theorem val_int {k : IntKind} {a b : Int} (h : a = b) : Value.int k a = .int k b := by rw [h]
end Go.Proofs.YthdblnfohbldcaaGreat.Crc
