/-
  Places brought into a text, rising.
-/
import Derived.Test.YtmhebaknoginhaaBase
namespace Go.Proofs.Ytmhebaknoginhaa.Ln
set_option linter.unusedVariables false
/-- A place modulo n + 1. -/
def md (n : Nat) (p : Int) : Int := p % ((n : Int) + 1)
theorem md_bd (n : Nat) (p : Int) : 0 ≤ md n p ∧ md n p ≤ (n : Int) := by
  unfold md
  have h1 := Int.emod_nonneg p (b := (n : Int) + 1) (by omega)
  have h2 := Int.emod_lt_of_pos p (b := (n : Int) + 1) (by omega)
  omega
theorem md_tmod (n : Nat) (p r : Int) (h : Int.tmod p ((n : Int) + 1) = r) : -(n : Int) ≤ r ∧ r ≤ (n : Int) ∧ (r < 0 → r + ((n : Int) + 1) = md n p) ∧ (¬ r < 0 → r = md n p) := by
  unfold md
  have h1 := Int.emod_nonneg p (b := (n : Int) + 1) (by omega)
  have h2 := Int.emod_lt_of_pos p (b := (n : Int) + 1) (by omega)
  have h3 := Int.tmod_eq_emod (a := p) (b := (n : Int) + 1)
  rw [h] at h3
  split at h3
  · omega
  · rename_i hh
    rw [show ((((n : Int) + 1).natAbs : Nat) : Int) = (n : Int) + 1 by omega] at h3
    have h4 : p % ((n : Int) + 1) ≠ 0 := fun e => hh (.inr (Int.dvd_of_emod_eq_zero e))
    omega
/-- The places, rising. -/
def cutS (n : Nat) (xs : List Int) : List Int := (xs.map (md n)).mergeSort (fun x y => decide (x ≤ y))
theorem cutS_perm (n : Nat) (xs : List Int) : (cutS n xs).Perm (xs.map (md n)) := List.mergeSort_perm _ _
theorem cutS_len (n : Nat) (xs : List Int) : (cutS n xs).length = xs.length := by rw [(cutS_perm n xs).length_eq, List.length_map]
theorem cutS_sorted (n : Nat) (xs : List Int) : (cutS n xs).Pairwise (· ≤ ·) := by
  have h := List.pairwise_mergeSort (le := fun x y : Int => decide (x ≤ y)) (fun a b c h1 h2 => by simp at h1 h2 ⊢; omega) (fun a b => by simp; omega) (xs.map (md n))
  exact h.imp (fun h => by simpa using h)
theorem cutS_mem (n : Nat) (xs : List Int) (x : Int) (h : x ∈ cutS n xs) : 0 ≤ x ∧ x ≤ (n : Int) := by
  have h1 := (cutS_perm n xs).mem_iff.1 h
  obtain ⟨p, _, rfl⟩ := List.mem_map.1 h1
  exact md_bd n p
theorem cutS_uniq (n : Nat) (xs l : List Int) (h1 : l.Perm (xs.map (md n))) (h2 : l.Pairwise (· ≤ ·)) : l = cutS n xs :=
  List.Perm.eq_of_pairwise (le := (· ≤ ·)) (fun a b _ _ h1 h2 => by omega) h2 (cutS_sorted n xs) (h1.trans (cutS_perm n xs).symm)
/-- Where the pieces end. -/
def cutE (n : Nat) (xs : List Int) : List Int := cutS n xs ++ [(n : Int)]
theorem cutE_len (n : Nat) (xs : List Int) : (cutE n xs).length = xs.length + 1 := by unfold cutE; rw [List.length_append, cutS_len]; rfl
/-- The end of the piece number k, its beginning. -/
def pe (n : Nat) (xs : List Int) (k : Nat) : Nat := ((cutE n xs).getD k 0).toNat
def pb (n : Nat) (xs : List Int) (k : Nat) : Nat := if k = 0 then 0 else pe n xs (k - 1)
theorem pe_int (n : Nat) (xs : List Int) (k : Nat) (h : k ≤ xs.length) : ((pe n xs k : Nat) : Int) = (cutE n xs).getD k 0 ∧ pe n xs k ≤ n := by
  have hl := cutE_len n xs
  have hm : (cutE n xs).getD k 0 ∈ cutE n xs := by rw [List.getD_eq_getElem?_getD, List.getElem?_eq_getElem (by omega)]; exact List.getElem_mem _
  have hb : 0 ≤ (cutE n xs).getD k 0 ∧ (cutE n xs).getD k 0 ≤ (n : Int) := by
    unfold cutE at hm
    rcases List.mem_append.1 hm with h1 | h1
    · exact cutS_mem n xs _ h1
    · have := List.mem_singleton.1 h1
      unfold cutE
      omega
  unfold pe
  omega
theorem cutE_sorted (n : Nat) (xs : List Int) : (cutE n xs).Pairwise (· ≤ ·) := by
  unfold cutE
  rw [List.pairwise_append]
  refine ⟨cutS_sorted n xs, List.pairwise_singleton _ _, fun a ha b hb => ?_⟩
  have := cutS_mem n xs a ha
  have := List.mem_singleton.1 hb
  omega
theorem pe_last (n : Nat) (xs : List Int) : pe n xs xs.length = n := by
  unfold pe cutE
  rw [List.getD_eq_getElem?_getD, List.getElem?_append_right (by rw [cutS_len]; omega), cutS_len, Nat.sub_self]
  simp
theorem pe_mono (n : Nat) (xs : List Int) (j k : Nat) (h : j ≤ k) (hk : k ≤ xs.length) : pe n xs j ≤ pe n xs k := by
  by_cases e : j = k
  · rw [e]; exact Nat.le_refl _
  · have hl := cutE_len n xs
    have h1 := List.pairwise_iff_getElem.1 (cutE_sorted n xs) j k (by omega) (by omega) (by omega)
    have h2 := pe_int n xs j (by omega)
    have h3 := pe_int n xs k hk
    rw [List.getD_eq_getElem?_getD, List.getElem?_eq_getElem (by omega)] at h2 h3
    simp only [Option.getD_some] at h2 h3
    omega
theorem pb_le (n : Nat) (xs : List Int) (k : Nat) (hk : k ≤ xs.length) : pb n xs k ≤ pe n xs k := by
  unfold pb
  by_cases h : k = 0
  · rw [if_pos h]; omega
  · rw [if_neg h]; exact pe_mono n xs _ _ (by omega) hk
theorem pb_succ (n : Nat) (xs : List Int) (k : Nat) : pb n xs (k + 1) = pe n xs k := by unfold pb; rw [if_neg (by omega)]; rfl
/-- A piece as an element. -/
def pf (n : Nat) (xs : List Int) (k : Nat) : List Value := [.int .i64 (pb n xs k : Nat), .int .i64 (pe n xs k : Nat)]
end Go.Proofs.Ytmhebaknoginhaa.Ln
