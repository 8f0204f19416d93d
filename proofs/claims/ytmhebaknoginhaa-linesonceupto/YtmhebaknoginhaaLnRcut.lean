/-
  The document's Cut.
-/
import Derived.Test.YtmhebaknoginhaaLnCut3
import Derived.Test.YtmhebaknoginhaaRowF4
namespace Go.Proofs.Ytmhebaknoginhaa.Ln
open Go.ChangeShapes Go.WideShapes Go.ChangeAt Go.RowKit
open Go.Proofs.Ytmhebaknoginhaa.Base Go.Proofs.Ytmhebaknoginhaa.Rf
set_option linter.unusedVariables false
/-- Ints as elements. -/
def nf (l : List Int) (k : Nat) : List Value := [.int .i64 (l.getD k 0)]
theorem nf_len (l : List Int) (k : Nat) : (nf l k).length = 1 := rfl
theorem nf_one (l : List Int) (k : Nat) : ∀ u ∈ nf l k, u.oneCell' = true := by intro u hu; unfold nf at hu; simp at hu; subst hu; rfl
/-- Where a number goes among rising ones: behind all that are not above it, looked for from the end. -/
theorem ins_perm (l : List Int) (k : Nat) (x : Int) (h : k ≤ l.length) : (l.take k ++ [x] ++ l.drop k).Perm (x :: l) := by
  have h1 : (l.take k ++ [x] ++ l.drop k).Perm ([x] ++ (l.take k ++ l.drop k)) := by
    rw [List.append_assoc]
    exact List.perm_append_comm_assoc (l.take k) [x] (l.drop k)
  rw [List.take_append_drop] at h1
  exact h1
theorem ins_sorted (l : List Int) (k : Nat) (x : Int) (h : l.Pairwise (· ≤ ·)) (hk : k ≤ l.length) (h1 : k = 0 ∨ l.getD (k - 1) 0 ≤ x) (h2 : ∀ j, k ≤ j → j < l.length → x < l.getD j 0) : (l.take k ++ [x] ++ l.drop k).Pairwise (· ≤ ·) := by
  have hlo : ∀ a ∈ l.take k, a ≤ x := by
    intro a ha
    rcases h1 with rfl | h1
    · simp at ha
    · obtain ⟨j, hj, rfl⟩ := List.mem_iff_getElem.1 ha
      rw [List.length_take] at hj
      rw [List.getElem_take]
      by_cases e : j = k - 1
      · subst e
        rw [List.getD_eq_getElem?_getD, List.getElem?_eq_getElem (by omega)] at h1
        exact h1
      · have := List.pairwise_iff_getElem.1 h j (k - 1) (by omega) (by omega) (by omega)
        rw [List.getD_eq_getElem?_getD, List.getElem?_eq_getElem (by omega)] at h1
        simp only [Option.getD_some] at h1
        omega
  have hhi : ∀ b ∈ l.drop k, x ≤ b := by
    intro b hb
    obtain ⟨j, hj, rfl⟩ := List.mem_iff_getElem.1 hb
    rw [List.length_drop] at hj
    rw [List.getElem_drop]
    have := h2 (k + j) (by omega) (by omega)
    rw [List.getD_eq_getElem?_getD, List.getElem?_eq_getElem (by omega)] at this
    simp only [Option.getD_some] at this
    omega
  have ht : (l.take k).Pairwise (· ≤ ·) := h.sublist (List.take_sublist _ _)
  have hd : (l.drop k).Pairwise (· ≤ ·) := h.sublist (List.drop_sublist _ _)
  rw [List.pairwise_append, List.pairwise_append]
  refine ⟨⟨ht, List.pairwise_singleton _ _, fun a ha b hb => by rw [List.mem_singleton.1 hb]; exact hlo a ha⟩, hd, fun a ha b hb => ?_⟩
  rcases List.mem_append.1 ha with ha | ha
  · have := hlo a ha; have := hhi b hb; omega
  · rw [List.mem_singleton.1 ha]; exact hhi b hb
theorem ins_getD (l : List Int) (k : Nat) (x : Int) (hk : k ≤ l.length) (j : Nat) : (l.take k ++ [x] ++ l.drop k).getD j 0 = if j < k then l.getD j 0 else if j = k then x else l.getD (j - 1) 0 := by
  rw [List.getD_eq_getElem?_getD, List.append_assoc]
  by_cases h1 : j < k
  · rw [if_pos h1, List.getElem?_append_left (by rw [List.length_take]; omega), List.getElem?_take_of_lt h1, List.getD_eq_getElem?_getD]
  · rw [if_neg h1, List.getElem?_append_right (by rw [List.length_take]; omega), List.length_take, Nat.min_eq_left hk]
    by_cases h2 : j = k
    · rw [if_pos h2, h2, Nat.sub_self]; rfl
    · rw [if_neg h2, List.getElem?_append_right (by simp; omega), List.length_singleton, List.getElem?_drop, List.getD_eq_getElem?_getD]
      congr 2
      omega
end Go.Proofs.Ytmhebaknoginhaa.Ln
