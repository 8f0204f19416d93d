/-
  What the program tells of Get.
-/
import Derived.Test.YtjikoamchbmhjaaNumsPutC
namespace Go.Proofs.Ytjikoamchbmhjaa.Nums
set_option linter.unusedVariables false
open Go.ChangeShapes Go.WideShapes Go.ChangeAt Go.RowKit
open Go.Proofs.Ytjikoamchbmhjaa.Base
theorem getFrom_step (bs : List (BitVec 8)) (k V : Nat) (h : k < bs.length) (h9 : k < 9) :
    getFrom k V (bs.drop k) = if (bs.getD k 0).toNat < 128 then (if (bs.getD k 0).toNat = 0 ∧ 0 < k then (0, 0, 21) else (V + (bs.getD k 0).toNat * 128 ^ k, k + 1, 0)) else getFrom (k + 1) (V + (bs.getD k 0).toNat % 128 * 128 ^ k) (bs.drop (k + 1)) := by
  have e : bs.drop k = bs.getD k 0 :: bs.drop (k + 1) := by
    rw [List.drop_eq_getElem_cons h, List.getD_eq_getElem?_getD, List.getElem?_eq_getElem h]; rfl
  rw [e]
  simp only [getFrom, if_neg (show ¬ 9 ≤ k by omega)]
theorem i64_or_nat (a b : Nat) (ha : a < 9223372036854775808) (hb : b < 9223372036854775808) : bits .or .i64 (a : Int) (b : Int) = ((a ||| b : Nat) : Int) := by
  have hx : a ||| b < 2 ^ 63 := Nat.or_lt_two_pow (by omega) (by omega)
  show IntKind.i64.wrap ((BitVec.ofInt 64 (a : Int) ||| BitVec.ofInt 64 (b : Int)).toNat : Int) = _
  rw [BitVec.toNat_or, ofInt_u64 a (by omega), ofInt_u64 b (by omega)]
  rw [IntKind.wrap_i64]; omega
theorem clear128 : ∀ c : BitVec 8, c.toNat &&& (255 - 128) = c.toNat % 128 := by decide +kernel
theorem or_add (k V d : Nat) (hV : V < 128 ^ k) : V ||| d * 128 ^ k = V + d * 128 ^ k := by
  have e : (128 : Nat) ^ k = 2 ^ (7 * k) := by rw [Nat.pow_mul]
  rw [e] at hV ⊢
  have := Nat.two_pow_add_eq_or_of_lt hV d
  rw [Nat.mul_comm d, Nat.or_comm, ← this]; omega
theorem ret3 {t : Nat × Nat × Nat} {x y z : Nat} {a b c : Int} (h : t = (x, y, z)) (ha : a = (x : Int)) (hb : b = (y : Int)) (hc : c = (z : Int)) :
    Ending.returned (.tuple #[.int .i64 a, .int .i64 b, .int .i64 c]) = .returned (.tuple #[.int .i64 (t.1 : Nat), .int .i64 (t.2.1 : Nat), .int .i64 (t.2.2 : Nat)]) := by
  subst h ha hb hc; rfl
theorem get_step (c : BitVec 8) (k V : Nat) (hk : k < 9) (hV : V < 128 ^ k) : ∃ d X V' : Nat, bits .andNot .u8 (c.toNat : Int) 128 = (d : Int) ∧ (d : Int) < 128 ∧ (d : Int) * (2 : Int) ^ (7 * k) = (X : Int) ∧ (X : Int) ≤ 9223372036854775807 ∧
    bits .or .i64 (V : Int) (X : Int) = (V' : Int) ∧ Hid (V' = V + c.toNat % 128 * 128 ^ k) ∧ Hid (V' < 128 ^ (k + 1)) ∧ (V' : Int) ≤ 9223372036854775807 := by
  have hlt := lt_pow k V (c.toNat % 128) hV (by omega)
  have h9 := pow_nine (k + 1) (by omega)
  have hX : c.toNat % 128 * 128 ^ k < 9223372036854775808 := by omega
  refine ⟨c.toNat % 128, c.toNat % 128 * 128 ^ k, V + c.toNat % 128 * 128 ^ k, ?_, by omega, ?_, by omega, ?_, rfl, hlt, by omega⟩
  · have h := u8_andNot_nat c.toNat 128 (lt8 c) (by omega)
    rw [clear128] at h
    exact h
  · have e : (128 : Nat) ^ k = 2 ^ (7 * k) := by rw [Nat.pow_mul]
    rw [e, Int.natCast_mul, Int.natCast_pow]; rfl
  · rw [i64_or_nat V _ (by omega) hX, or_add k V _ hV]
end Go.Proofs.Ytjikoamchbmhjaa.Nums
