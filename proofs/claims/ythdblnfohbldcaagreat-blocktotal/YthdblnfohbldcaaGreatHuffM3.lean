/-
  Which symbol has a word: the one that stands so far behind the first of its length.
-/
import Derived.Test.YthdblnfohbldcaaGreatHuffM2
namespace Go.Proofs.YthdblnfohbldcaaGreat.Huff
open Go.ChangeShapes Go.WideShapes Go.ChangeAt Go.RowKit
open Go.Proofs.YthdblnfohbldcaaGreat.Base
set_option linter.unusedVariables false
theorem cnt_hit (ls : List Int) (l : Nat) : ∀ k m, m < cnt ls l k → ∃ i, i < k ∧ ls.getD i 0 = (l : Int) ∧ cnt ls l i = m := by
  intro k
  induction k with
  | zero => intro m h; simp [cnt] at h
  | succ k ih =>
    intro m h
    simp only [cnt] at h
    by_cases e : ls.getD k 0 = (l : Int)
    · rw [if_pos e] at h
      by_cases hm : m < cnt ls l k
      · obtain ⟨i, h1, h2, h3⟩ := ih m hm
        exact ⟨i, by omega, h2, h3⟩
      · exact ⟨k, by omega, e, by omega⟩
    · rw [if_neg e] at h
      obtain ⟨i, h1, h2, h3⟩ := ih m (by omega)
      exact ⟨i, by omega, h2, h3⟩
theorem cnt_lt (ls : List Int) (l : Nat) {i k : Nat} (hi : i < k) (h : ls.getD i 0 = (l : Int)) : cnt ls l i < cnt ls l k := by
  have h1 := cnt_mono ls l (show i + 1 ≤ k by omega)
  simp only [cnt] at h1
  rw [if_pos h] at h1
  omega
theorem cnt_uniq (ls : List Int) (l : Nat) {i j : Nat} (hi : ls.getD i 0 = (l : Int)) (hj : ls.getD j 0 = (l : Int)) (h : cnt ls l i = cnt ls l j) : i = j := by
  rcases Nat.lt_trichotomy i j with q | q | q
  · have := cnt_lt ls l q hi; omega
  · exact q
  · have := cnt_lt ls l q hj; omega
/-- A symbol has the word N of length l just if it stands N - first behind the first of its length. -/
theorem code_iff (ls : List Int) (l N i : Nat) (hl : 0 < l) : codeAt ls i = ((l : Int), N) ↔ ls.getD i 0 = (l : Int) ∧ first ls l ≤ N ∧ cnt ls l i = N - first ls l := by
  unfold codeAt
  by_cases h0 : ls.getD i 0 = 0
  · rw [if_pos h0]
    constructor
    · intro h
      have := congrArg Prod.fst h
      simp only at this
      omega
    · intro h; omega
  · rw [if_neg h0]
    constructor
    · intro h
      have h1 := congrArg Prod.fst h
      have h2 := congrArg Prod.snd h
      simp only at h1 h2
      rw [h1, Int.toNat_natCast] at h2
      exact ⟨h1, by omega, by omega⟩
    · rintro ⟨h1, h2, h3⟩
      rw [h1, Int.toNat_natCast]
      congr 1
      omega
/-- Is there a word N of length l? -/
theorem word_there (ls : List Int) (l N : Nat) (hl : 0 < l) : (∃ i, i < ls.length ∧ codeAt ls i = ((l : Int), N)) ↔ first ls l ≤ N ∧ N < first ls l + cntW ls ls.length l := by
  have hw : cntW ls ls.length l = cnt ls l ls.length := by unfold cntW; rw [if_neg (by omega)]
  rw [hw]
  constructor
  · rintro ⟨i, hi, h⟩
    obtain ⟨h1, h2, h3⟩ := (code_iff ls l N i hl).1 h
    have := cnt_lt ls l hi h1
    omega
  · rintro ⟨h1, h2⟩
    obtain ⟨i, hi, h3, h4⟩ := cnt_hit ls l ls.length (N - first ls l) (by omega)
    exact ⟨i, hi, (code_iff ls l N i hl).2 ⟨h3, h1, h4⟩⟩
theorem word_one (ls : List Int) (l N : Nat) (hl : 0 < l) {i j : Nat} (hi : codeAt ls i = ((l : Int), N)) (hj : codeAt ls j = ((l : Int), N)) : i = j := by
  obtain ⟨a1, a2, a3⟩ := (code_iff ls l N i hl).1 hi
  obtain ⟨b1, b2, b3⟩ := (code_iff ls l N j hl).1 hj
  exact cnt_uniq ls l a1 b1 (by omega)
/-- A number that is no word of its length is behind the last one: so is the next length's number not ahead of the first one. -/
theorem next_first (ls : List Int) (l N b : Nat) (h : ¬ N < first ls l + cntW ls ls.length l) : first ls (l + 1) ≤ 2 * N + b := by
  simp only [first]
  omega
/-- The symbols in the order of their words: by length, then rising. -/
def placeOf (ls : List Int) (i : Nat) : Nat := ahead ls (ls.getD i 0).toNat + cnt ls (ls.getD i 0).toNat i
theorem ahead_mono (ls : List Int) {l m : Nat} (h : l ≤ m) : ahead ls l ≤ ahead ls m := by
  induction m with
  | zero => have : l = 0 := by omega
            subst this; exact Nat.le_refl _
  | succ m ih =>
    by_cases e : l = m + 1
    · subst e; exact Nat.le_refl _
    · simp only [ahead]; have := ih (by omega); omega
theorem place_lt (ls : List Int) (l i : Nat) (hl : 0 < l) (hi : i < ls.length) (h : ls.getD i 0 = (l : Int)) : placeOf ls i < ahead ls (l + 1) := by
  unfold placeOf
  rw [h, Int.toNat_natCast]
  have := cnt_lt ls l hi h
  simp only [ahead]
  unfold cntW
  rw [if_neg (by omega)]
  omega
theorem place_uniq (ls : List Int) {i j : Nat} (hi : i < ls.length) (hj : j < ls.length) {l m : Nat} (hl : 0 < l) (hm : 0 < m) (h1 : ls.getD i 0 = (l : Int)) (h2 : ls.getD j 0 = (m : Int)) (h : placeOf ls i = placeOf ls j) : i = j := by
  have p1 := place_lt ls l i hl hi h1
  have p2 := place_lt ls m j hm hj h2
  have q1 : ahead ls l ≤ placeOf ls i := by unfold placeOf; rw [h1, Int.toNat_natCast]; omega
  have q2 : ahead ls m ≤ placeOf ls j := by unfold placeOf; rw [h2, Int.toNat_natCast]; omega
  rcases Nat.lt_trichotomy l m with q | q | q
  · have := ahead_mono ls (show l + 1 ≤ m by omega); omega
  · subst q
    unfold placeOf at h
    rw [h1, h2, Int.toNat_natCast] at h
    exact cnt_uniq ls l h1 h2 (by omega)
  · have := ahead_mono ls (show m + 1 ≤ l by omega); omega
end Go.Proofs.YthdblnfohbldcaaGreat.Huff
