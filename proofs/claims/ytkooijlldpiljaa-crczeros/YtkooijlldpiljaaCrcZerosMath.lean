/-
  Bytes that are all zeros, fewer than 5000: a tile only if they are four.
-/
import Derived.Test.YtkooijlldpiljaaCrcTileMath
namespace Go.Proofs.Ytkooijlldpiljaa.Crc

def mN (x : Nat) : Nat := if x % 2 = 1 then (x / 2) ^^^ 2197175160 else x / 2
def m8 (x : Nat) : Nat := mN (mN (mN (mN (mN (mN (mN (mN x)))))))
def runN : Nat → Nat → Nat × Bool
  | 0, x => (m8 x, m8 x != 4294967295)
  | k + 1, x => ((runN k (runN k x).1).1, (runN k x).2 && (runN k (runN k x).1).2)
set_option maxRecDepth 100000 in
theorem run13 : (runN 13 4294967295).2 = true := by decide +kernel
theorem M_nat (x : BitVec 32) : (M x).toNat = mN x.toNat := by
  have hb : x.getLsbD 0 = decide (x.toNat % 2 = 1) := by rw [BitVec.getLsbD, Nat.testBit_zero]
  unfold M mN
  rw [hb]
  have hp : poly.toNat = 2197175160 := by decide
  by_cases h : x.toNat % 2 = 1
  · simp [h, BitVec.toNat_xor, BitVec.toNat_ushiftRight, Nat.shiftRight_eq_div_pow, hp]
  · simp [h, BitVec.toNat_ushiftRight, Nat.shiftRight_eq_div_pow]
theorem Mn8_nat (x : BitVec 32) : (Mn 8 x).toNat = m8 x.toNat := by
  show (M (M (M (M (M (M (M (M x)))))))).toNat = _
  simp only [M_nat, m8]
theorem runN_spec (k : Nat) (x : BitVec 32) : (runN k x.toNat).1 = (Mn (8 * 2 ^ k) x).toNat ∧
    ((runN k x.toNat).2 = true → ∀ j, 1 ≤ j → j ≤ 2 ^ k → Mn (8 * j) x ≠ BitVec.ofNat 32 4294967295) := by
  induction k generalizing x with
  | zero =>
    refine ⟨(Mn8_nat x).symm, fun h j h1 h2 he => ?_⟩
    have hj : j = 1 := by simp at h2; omega
    subst hj
    have : (Mn 8 x).toNat = 4294967295 := by rw [show Mn 8 x = _ from he]; decide
    rw [Mn8_nat] at this
    simp [runN, this] at h
  | succ k ih =>
    have e1 := (ih x).1
    have e2 := ih (Mn (8 * 2 ^ k) x)
    have hp : 2 ^ (k + 1) = 2 ^ k + 2 ^ k := by rw [Nat.pow_succ]; omega
    refine ⟨?_, fun h j h1 h2 => ?_⟩
    · show (runN k (runN k x.toNat).1).1 = _
      rw [e1, e2.1, ← Mn_add, hp, Nat.mul_add]
    · have h' : (runN k x.toNat).2 = true ∧ (runN k (runN k x.toNat).1).2 = true := by
        have : ((runN k x.toNat).2 && (runN k (runN k x.toNat).1).2) = true := h
        simpa using this
      rw [e1] at h'
      by_cases hj : j ≤ 2 ^ k
      · exact (ih x).2 h'.1 j h1 hj
      · have := e2.2 h'.2 (j - 2 ^ k) (by omega) (by omega)
        rw [← Mn_add, ← Nat.mul_add, show 2 ^ k + (j - 2 ^ k) = j by omega] at this
        exact this
theorem run_zeros (r : BitVec 32) (m : Nat) : run r (List.replicate m (BitVec.ofNat 8 0)) = Mn (8 * m) r := by
  induction m generalizing r with
  | zero => rfl
  | succ m ih =>
    rw [List.replicate_succ]
    show run (step r (BitVec.ofNat 8 0)) _ = _
    rw [ih]
    have : step r (BitVec.ofNat 8 0) = Mn 8 r := by
      unfold step; congr 1; simp
    rw [this, ← Mn_add, Nat.mul_succ, Nat.add_comm]
theorem sum_zeros (m : Nat) (h1 : 1 ≤ m) (h2 : m ≤ 8192) : sum (List.replicate m (BitVec.ofNat 8 0)) ≠ BitVec.ofNat 32 0 := by
  intro h
  have e : run (BitVec.ofNat 32 4294967295) (List.replicate m (BitVec.ofNat 8 0)) = BitVec.ofNat 32 4294967295 := by
    have h' : ~~~ (sum (List.replicate m (BitVec.ofNat 8 0))) = ~~~ (BitVec.ofNat 32 0) := by rw [h]
    unfold sum extend at h'
    rw [not_not] at h'
    have en : ~~~ (BitVec.ofNat 32 0) = BitVec.ofNat 32 4294967295 := by decide
    rw [en] at h'
    exact h'
  rw [run_zeros] at e
  exact (runN_spec 13 (BitVec.ofNat 32 4294967295)).2 run13 m h1 h2 e
theorem openErr_zeros (n : Nat) (hn : n < 5000) : openErr (List.replicate n (BitVec.ofNat 8 0)) = if n < 4 then 11 else if n = 4 then 0 else 10 := by
  unfold openErr
  rw [List.length_replicate]
  by_cases h4 : n < 4
  · rw [if_pos h4, if_pos h4]
  · rw [if_neg h4, if_neg h4, List.take_replicate, List.drop_replicate, Nat.min_eq_left (by omega), show n - (n - 4) = 4 by omega]
    have hle : le (List.replicate 4 (BitVec.ofNat 8 0)) = BitVec.ofNat 32 0 := by decide
    rw [hle]
    by_cases h : n = 4
    · subst h
      rw [if_pos rfl, if_pos]
      decide
    · rw [if_neg h, if_neg (sum_zeros (n - 4) (by omega) (by omega))]
end Go.Proofs.Ytkooijlldpiljaa.Crc
