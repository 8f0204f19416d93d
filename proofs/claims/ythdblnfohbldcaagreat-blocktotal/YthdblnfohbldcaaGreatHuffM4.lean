/-
  No word begins another one; words of one length rise with their symbols; a word has no more bits than its length.
-/
import Derived.Test.YthdblnfohbldcaaGreatHuffM3
namespace Go.Proofs.YthdblnfohbldcaaGreat.Huff
open Go.ChangeShapes Go.WideShapes Go.ChangeAt Go.RowKit
open Go.Proofs.YthdblnfohbldcaaGreat.Base
set_option linter.unusedVariables false
theorem first_far (ls : List Int) (l : Nat) : ∀ d, (first ls l + cntW ls ls.length l) * 2 ^ (d + 1) ≤ first ls (l + d + 1) := by
  intro d
  induction d with
  | zero => simp only [first]; omega
  | succ d ih =>
    have e : first ls (l + (d + 1) + 1) = 2 * (first ls (l + d + 1) + cntW ls ls.length (l + d + 1)) := rfl
    rw [e, Nat.pow_succ, ← Nat.mul_assoc]
    omega
theorem code_parts {ls : List Int} {i l A : Nat} (hl : 0 < l) (hi : i < ls.length) (h : codeAt ls i = ((l : Int), A)) : ls.getD i 0 = (l : Int) ∧ first ls l ≤ A ∧ A < first ls l + cntW ls ls.length l ∧ cnt ls l i = A - first ls l := by
  obtain ⟨h1, h2, h3⟩ := (code_iff ls l A i hl).1 h
  have := (word_there ls l A hl).1 ⟨i, hi, h⟩
  exact ⟨h1, h2, this.2, h3⟩
theorem prefix_free (ls : List Int) {i k l m A B : Nat} (hi : i < ls.length) (hk : k < ls.length) (hne : i ≠ k) (hl : 0 < l) (hlm : l ≤ m) (ha : codeAt ls i = ((l : Int), A)) (hb : codeAt ls k = ((m : Int), B)) : B / 2 ^ (m - l) ≠ A := by
  intro e
  obtain ⟨a1, a2, a3, a4⟩ := code_parts hl hi ha
  obtain ⟨b1, b2, b3, b4⟩ := code_parts (by omega) hk hb
  by_cases q : l = m
  · subst q
    rw [Nat.sub_self, Nat.pow_zero, Nat.div_one] at e
    subst e
    exact hne (word_one ls l B hl ha hb)
  · have hf := first_far ls l (m - l - 1)
    rw [show m - l - 1 + 1 = m - l by omega, show l + (m - l - 1) + 1 = m by omega] at hf
    have hp : 0 < 2 ^ (m - l) := Nat.pos_of_ne_zero (by simp)
    have h1 : first ls l + cntW ls ls.length l ≤ B / 2 ^ (m - l) := (Nat.le_div_iff_mul_le hp).2 (Nat.le_trans hf b2)
    omega
theorem rises (ls : List Int) {i k l A B : Nat} (hi : i < ls.length) (hk : k < ls.length) (hl : 0 < l) (ha : codeAt ls i = ((l : Int), A)) (hb : codeAt ls k = ((l : Int), B)) : i < k ↔ A < B := by
  obtain ⟨a1, a2, a3, a4⟩ := code_parts hl hi ha
  obtain ⟨b1, b2, b3, b4⟩ := code_parts hl hk hb
  constructor
  · intro h
    have := cnt_lt ls l h a1
    omega
  · intro h
    rcases Nat.lt_trichotomy i k with q | q | q
    · exact q
    · subst q; omega
    · have := cnt_lt ls l q b1; omega
theorem fits_len (ls : List Int) (hr : right ls = true) {l : Nat} (hl : l ≤ 15) : first ls l + cntW ls ls.length l ≤ 2 ^ l := by
  have h15 : last ls ≤ 32768 := by unfold right at hr; exact of_decide_eq_true hr
  unfold last at h15
  by_cases e : l = 15
  · subst e; exact h15
  · have hf := first_far ls l (15 - l - 1)
    rw [show 15 - l - 1 + 1 = 15 - l by omega, show l + (15 - l - 1) + 1 = 15 by omega] at hf
    have hp : 0 < 2 ^ (15 - l) := Nat.pos_of_ne_zero (by simp)
    have h2 : (first ls l + cntW ls ls.length l) * 2 ^ (15 - l) ≤ 2 ^ l * 2 ^ (15 - l) := by
      rw [← Nat.pow_add, show l + (15 - l) = 15 by omega]
      exact Nat.le_trans hf (by omega)
    exact Nat.le_of_mul_le_mul_right h2 hp
theorem word_small (ls : List Int) (hr : right ls = true) {i l A : Nat} (hi : i < ls.length) (hl : 0 < l) (h15 : l ≤ 15) (ha : codeAt ls i = ((l : Int), A)) : A < 2 ^ l := by
  have h1 := (code_parts hl hi ha).2.2.1
  have h2 := fits_len ls hr h15
  omega
end Go.Proofs.YthdblnfohbldcaaGreat.Huff
