/-
  Bytes whose bits are turned.
-/
import Derived.Test.YtbmbhcjocgbbpabBase
namespace Go.Proofs.Ytbmbhcjocgbbpab.St
set_option linter.unusedVariables false
def bitAt (xs : List (BitVec 8)) (i : Nat) : Bool := (xs.getD (i / 8) 0).getLsbD (i % 8)
def flipOne (xs : List (BitVec 8)) (at_ : Nat) : List (BitVec 8) := xs.set (at_ / 8) (xs.getD (at_ / 8) 0 ^^^ (1#8 <<< (at_ % 8)))
def flipTo (xs : List (BitVec 8)) (bit : Nat) (mask : BitVec 32) : Nat → List (BitVec 8)
  | 0 => xs
  | k + 1 => if mask.getLsbD k = true ∧ bit + k < 8 * xs.length then flipOne (flipTo xs bit mask k) (bit + k) else flipTo xs bit mask k
theorem flipOne_len (xs : List (BitVec 8)) (a : Nat) : (flipOne xs a).length = xs.length := by unfold flipOne; simp
theorem flipTo_len (xs : List (BitVec 8)) (bit : Nat) (mask : BitVec 32) (K : Nat) : (flipTo xs bit mask K).length = xs.length := by
  induction K with
  | zero => rfl
  | succ k ih =>
    unfold flipTo; split
    · rw [flipOne_len, ih]
    · exact ih
theorem one_bit : ∀ r q : Fin 8, (1#8 <<< r.val).getLsbD q.val = decide (q.val = r.val) := by decide
theorem bitAt_flipOne (xs : List (BitVec 8)) (a i : Nat) (ha : a < 8 * xs.length) (hi : i < 8 * xs.length) : bitAt (flipOne xs a) i = (bitAt xs i ^^ decide (i = a)) := by
  unfold bitAt flipOne
  by_cases h : a / 8 = i / 8
  · rw [← h, List.getD_eq_getElem?_getD, List.getElem?_set_self (by omega), Option.getD_some, BitVec.getLsbD_xor]
    have h1 := one_bit ⟨a % 8, Nat.mod_lt _ (by omega)⟩ ⟨i % 8, Nat.mod_lt _ (by omega)⟩
    simp only at h1
    rw [h1]
    congr 1
    by_cases hia : i = a
    · subst hia; simp
    · rw [decide_eq_false hia, decide_eq_false (by omega)]
  · rw [List.getD_eq_getElem?_getD, List.getElem?_set_ne h, ← List.getD_eq_getElem?_getD, decide_eq_false (by intro e; subst e; exact h rfl), Bool.xor_false]
theorem bitAt_flipTo (xs : List (BitVec 8)) (bit : Nat) (mask : BitVec 32) (i : Nat) (hi : i < 8 * xs.length) : ∀ K, bitAt (flipTo xs bit mask K) i = (bitAt xs i ^^ (decide (bit ≤ i ∧ i < bit + K) && mask.getLsbD (i - bit)))
  | 0 => by
    show bitAt xs i = _
    rw [decide_eq_false (by omega), Bool.false_and, Bool.xor_false]
  | k + 1 => by
    have ih := bitAt_flipTo xs bit mask i hi k
    unfold flipTo
    by_cases hia : i = bit + k
    · subst hia
      have e1 : decide (bit ≤ bit + k ∧ bit + k < bit + k) = false := decide_eq_false (by omega)
      have e2 : decide (bit ≤ bit + k ∧ bit + k < bit + (k + 1)) = true := decide_eq_true (by omega)
      rw [e1, Bool.false_and, Bool.xor_false] at ih
      rw [e2, Bool.true_and, Nat.add_sub_cancel_left]
      split
      · rename_i h
        rw [bitAt_flipOne _ _ _ (by rw [flipTo_len]; exact hi) (by rw [flipTo_len]; exact hi), ih, h.1, decide_eq_true rfl]
      · rename_i h
        have h0 : mask.getLsbD k = false := by
          cases hm : mask.getLsbD k with
          | false => rfl
          | true => exact absurd ⟨hm, hi⟩ h
        rw [ih, h0, Bool.xor_false]
    · have e1 : decide (bit ≤ i ∧ i < bit + (k + 1)) = decide (bit ≤ i ∧ i < bit + k) := by
        rw [decide_eq_decide]; omega
      rw [e1]
      split
      · rename_i h
        rw [bitAt_flipOne _ _ _ (by rw [flipTo_len]; exact h.2) (by rw [flipTo_len]; exact hi), ih, decide_eq_false hia, Bool.xor_false]
      · exact ih
theorem bits_ext (xs ys : List (BitVec 8)) (hl : xs.length = ys.length) (h : ∀ i, i < 8 * xs.length → bitAt xs i = bitAt ys i) : xs = ys := by
  apply List.ext_getElem hl
  intro k h1 h2
  apply BitVec.eq_of_getLsbD_eq
  intro j hj
  have h3 := h (8 * k + j) (by omega)
  unfold bitAt at h3
  rw [show (8 * k + j) / 8 = k by omega, show (8 * k + j) % 8 = j by omega, List.getD_eq_getElem?_getD, List.getElem?_eq_getElem h1, List.getD_eq_getElem?_getD, List.getElem?_eq_getElem h2] at h3
  exact h3
theorem flip_twice (xs : List (BitVec 8)) (bit : Nat) (mask : BitVec 32) (K : Nat) : flipTo (flipTo xs bit mask K) bit mask K = xs := by
  refine bits_ext _ _ (by rw [flipTo_len, flipTo_len]) (fun i hi => ?_)
  rw [flipTo_len, flipTo_len] at hi
  rw [bitAt_flipTo _ _ _ _ (by rw [flipTo_len]; exact hi), bitAt_flipTo _ _ _ _ hi, Bool.xor_assoc, Bool.xor_self, Bool.xor_false]
end Go.Proofs.Ytbmbhcjocgbbpab.St
