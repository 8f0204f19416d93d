/-
  Canonical words: how many have a length, the first of each length, how many are shorter.
-/
import Derived.Test.YthdblnfohbldcaaGreatHuffC1
namespace Go.Proofs.YthdblnfohbldcaaGreat.Huff
open Go.ChangeShapes Go.WideShapes Go.ChangeAt Go.RowKit
open Go.Proofs.YthdblnfohbldcaaGreat.Base
set_option linter.unusedVariables false
/-- How many of the first k have the length l. -/
def cnt (ls : List Int) (l : Nat) : Nat → Nat
  | 0 => 0
  | k + 1 => cnt ls l k + if ls.getD k 0 = (l : Int) then 1 else 0
theorem cnt_le (ls : List Int) (l k : Nat) : cnt ls l k ≤ k := by
  induction k with
  | zero => exact Nat.le_refl _
  | succ k ih => simp only [cnt]; split <;> omega
theorem cnt_mono (ls : List Int) (l : Nat) {j k : Nat} (h : j ≤ k) : cnt ls l j ≤ cnt ls l k := by
  induction k with
  | zero => have : j = 0 := by omega
            subst this; exact Nat.le_refl _
  | succ k ih =>
    by_cases e : j = k + 1
    · subst e; exact Nat.le_refl _
    · simp only [cnt]; have := ih (by omega); omega
/-- How many words have the length l, of those of the first k. -/
def cntW (ls : List Int) (k l : Nat) : Nat := if l = 0 then 0 else cnt ls l k
def first (ls : List Int) : Nat → Nat
  | 0 => 0
  | l + 1 => 2 * (first ls l + cntW ls ls.length l)
def ahead (ls : List Int) : Nat → Nat
  | 0 => 0
  | l + 1 => ahead ls l + cntW ls ls.length l
theorem cntW_le (ls : List Int) (k l : Nat) : cntW ls k l ≤ k := by
  unfold cntW; split
  · omega
  · exact cnt_le _ _ _
theorem first_le (ls : List Int) (h : ls.length ≤ 256) : ∀ l, first ls l + 512 ≤ 512 * 2 ^ l := by
  intro l
  induction l with
  | zero => simp [first]
  | succ l ih =>
    have := cntW_le ls ls.length l
    simp only [first, Nat.pow_succ]
    omega
theorem ahead_le (ls : List Int) (h : ls.length ≤ 256) : ∀ l, ahead ls l ≤ 256 * l := by
  intro l
  induction l with
  | zero => simp [ahead]
  | succ l ih =>
    have := cntW_le ls ls.length l
    simp only [ahead]
    omega
/-- What stands behind the last word of MaxCode bits. -/
def last (ls : List Int) : Nat := first ls 15 + cntW ls ls.length 15
def right (ls : List Int) : Bool := decide (last ls ≤ 32768)
/-- The three rows, one behind the other. -/
def wordsOf (ls : List Int) : List Int := (List.range 16).map (fun l => (cntW ls ls.length l : Int)) ++ ((List.range 16).map (fun l => (first ls l : Int)) ++ (List.range 16).map (fun l => (ahead ls l : Int)))
theorem wordsOf_len (ls : List Int) : (wordsOf ls).length = 48 := by simp [wordsOf]
theorem getD_map_range (f : Nat → Int) (n k : Nat) (h : k < n) : ((List.range n).map f).getD k 0 = f k := by
  rw [List.getD_eq_getElem?_getD, List.getElem?_map, List.getElem?_range h]; rfl
theorem wordsOf_count (ls : List Int) (l : Nat) (h : l < 16) : (wordsOf ls).getD l 0 = (cntW ls ls.length l : Int) := by
  unfold wordsOf
  rw [List.getD_eq_getElem?_getD, List.getElem?_append_left (by simp; exact h), ← List.getD_eq_getElem?_getD, getD_map_range _ _ _ h]
theorem wordsOf_first (ls : List Int) (l : Nat) (h : l < 16) : (wordsOf ls).getD (16 + l) 0 = (first ls l : Int) := by
  unfold wordsOf
  rw [List.getD_eq_getElem?_getD, List.getElem?_append_right (by simp), List.length_map, List.length_range, Nat.add_sub_cancel_left, List.getElem?_append_left (by simp; exact h), ← List.getD_eq_getElem?_getD, getD_map_range _ _ _ h]
theorem wordsOf_ahead (ls : List Int) (l : Nat) (h : l < 16) : (wordsOf ls).getD (32 + l) 0 = (ahead ls l : Int) := by
  unfold wordsOf
  rw [List.getD_eq_getElem?_getD, List.getElem?_append_right (by simp; omega), List.length_map, List.length_range, List.getElem?_append_right (by simp; omega), List.length_map, List.length_range, show 32 + l - 16 - 16 = l by omega, ← List.getD_eq_getElem?_getD, getD_map_range _ _ _ h]
theorem ext48 (A B : List Int) (ha : A.length = 48) (hb : B.length = 48) (h : ∀ j, j < 48 → A.getD j 0 = B.getD j 0) : A = B := by
  apply List.ext_getElem (by omega)
  intro j h1 h2
  have := h j (by omega)
  rw [List.getD_eq_getElem?_getD, List.getD_eq_getElem?_getD, List.getElem?_eq_getElem h1, List.getElem?_eq_getElem h2] at this
  exact this
theorem words_eq (ls L : List Int) (hl : L.length = 48) (h1 : ∀ l, l < 16 → L.getD l 0 = (cntW ls ls.length l : Int)) (h2 : ∀ l, l < 16 → L.getD (16 + l) 0 = (first ls l : Int)) (h3 : ∀ l, l < 16 → L.getD (32 + l) 0 = (ahead ls l : Int)) : L = wordsOf ls := by
  refine ext48 L _ hl (wordsOf_len ls) fun j hj => ?_
  by_cases a : j < 16
  · rw [h1 j a, wordsOf_count ls j a]
  · by_cases b : j < 32
    · obtain ⟨l, rfl⟩ : ∃ l, j = 16 + l := ⟨j - 16, by omega⟩
      rw [h2 l (by omega), wordsOf_first ls l (by omega)]
    · obtain ⟨l, rfl⟩ : ∃ l, j = 32 + l := ⟨j - 32, by omega⟩
      rw [h3 l (by omega), wordsOf_ahead ls l (by omega)]
theorem getD_set (L : List Int) (i j : Nat) (v : Int) (h : i < L.length) : (L.set i v).getD j 0 = if i = j then v else L.getD j 0 := by
  rw [List.getD_eq_getElem?_getD, List.getElem?_set, List.getD_eq_getElem?_getD]
  by_cases e : i = j
  · rw [if_pos e, if_pos e, if_pos h]; rfl
  · rw [if_neg e, if_neg e]
/-- The counts when the first k have been looked at. -/
def CntAt (ls L : List Int) (k : Nat) : Prop := L.length = 48 ∧ (∀ l, l < 16 → L.getD l 0 = (cntW ls k l : Int)) ∧ ∀ j, 16 ≤ j → j < 48 → L.getD j 0 = 0
theorem cntAt_zero (ls : List Int) : CntAt ls (List.replicate 48 0) 0 := by
  refine ⟨List.length_replicate, fun l hl => ?_, fun j h1 h2 => ?_⟩
  · rw [List.getD_eq_getElem?_getD, List.getElem?_replicate, if_pos (by omega)]
    unfold cntW; split <;> rfl
  · rw [List.getD_eq_getElem?_getD, List.getElem?_replicate, if_pos (by omega)]; rfl
theorem cntAt_skip {ls L : List Int} {k : Nat} (h : CntAt ls L k) (hx : ls.getD k 0 = 0) : CntAt ls L (k + 1) := by
  refine ⟨h.1, fun l hl => ?_, h.2.2⟩
  rw [h.2.1 l hl]
  unfold cntW
  split
  · rfl
  · simp only [cnt]; rw [if_neg (by rw [hx]; omega)]; rfl
theorem cntAt_inc {ls L : List Int} {k q : Nat} (h : CntAt ls L k) (hx : ls.getD k 0 = (q : Int)) (hq : 0 < q) (hq2 : q < 16) : CntAt ls (L.set q ((cntW ls k q : Int) + 1)) (k + 1) := by
  refine ⟨by rw [List.length_set]; exact h.1, fun l hl => ?_, fun j h1 h2 => ?_⟩
  · rw [getD_set _ _ _ _ (by rw [h.1]; omega)]
    by_cases e : q = l
    · subst e
      rw [if_pos rfl]
      unfold cntW
      rw [if_neg (by omega), if_neg (by omega)]
      simp only [cnt]
      rw [if_pos hx]
      omega
    · rw [if_neg e, h.2.1 l hl]
      unfold cntW
      split
      · rfl
      · simp only [cnt]; rw [if_neg (by rw [hx]; omega)]; rfl
  · rw [getD_set _ _ _ _ (by rw [h.1]; omega), if_neg (by omega)]; exact h.2.2 j h1 h2
/-- The firsts and what is ahead, below the length l. -/
def FstAt (ls L : List Int) (l : Nat) : Prop := L.length = 48 ∧ (∀ j, j < 16 → L.getD j 0 = (cntW ls ls.length j : Int)) ∧ ∀ j, j < l → L.getD (16 + j) 0 = (first ls j : Int) ∧ L.getD (32 + j) 0 = (ahead ls j : Int)
theorem fstAt_one {ls L : List Int} (h : CntAt ls L ls.length) : FstAt ls L 1 := by
  refine ⟨h.1, h.2.1, fun j hj => ?_⟩
  obtain rfl : j = 0 := by omega
  exact ⟨h.2.2 16 (by omega) (by omega), h.2.2 32 (by omega) (by omega)⟩
theorem fstAt_next {ls L : List Int} {l : Nat} (h : FstAt ls L (l + 1)) (hl : l + 1 < 16) : FstAt ls ((L.set (16 + (l + 1)) (first ls (l + 1) : Int)).set (32 + (l + 1)) (ahead ls (l + 1) : Int)) (l + 2) := by
  have e1 : ∀ j, ((L.set (16 + (l + 1)) (first ls (l + 1) : Int)).set (32 + (l + 1)) (ahead ls (l + 1) : Int)).getD j 0 = if 32 + (l + 1) = j then (ahead ls (l + 1) : Int) else if 16 + (l + 1) = j then (first ls (l + 1) : Int) else L.getD j 0 := by
    intro j
    rw [getD_set _ _ _ _ (by rw [List.length_set, h.1]; omega), getD_set _ _ _ _ (by rw [h.1]; omega)]
  refine ⟨by rw [List.length_set, List.length_set]; exact h.1, fun j hj => ?_, fun j hj => ?_⟩
  · rw [e1, if_neg (by omega), if_neg (by omega)]; exact h.2.1 j hj
  · rw [e1, e1]
    by_cases e : j = l + 1
    · subst e
      rw [if_neg (by omega), if_pos rfl, if_pos rfl]
      exact ⟨rfl, rfl⟩
    · rw [if_neg (by omega), if_neg (by omega), if_neg (by omega), if_neg (by omega)]
      exact h.2.2 j (by omega)
theorem fstAt_all {ls L : List Int} (h : FstAt ls L 16) : L = wordsOf ls := words_eq ls L h.1 h.2.1 (fun l hl => (h.2.2 l hl).1) (fun l hl => (h.2.2 l hl).2)
end Go.Proofs.YthdblnfohbldcaaGreat.Huff
