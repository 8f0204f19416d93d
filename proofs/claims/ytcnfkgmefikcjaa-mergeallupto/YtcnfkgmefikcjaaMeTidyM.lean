/-
  Sorting by insertion, names source by source: lists alone.
-/
import Derived.Test.YtcnfkgmefikcjaaMeThs
import Derived.Test.YtcnfkgmefikcjaaMeSort
namespace Go.Proofs.Ytcnfkgmefikcjaa.Me
open Go.Proofs.Ytcnfkgmefikcjaa.Base
set_option linter.unusedVariables false
def Srt (L : List Th) : Prop := ∀ i k, i ≤ k → k < L.length → (L.getD i th0).key ≤ (L.getD k th0).key
theorem getD_ins (L : List Th) (n : Nat) (t : Th) (h : n ≤ L.length) (j : Nat) : ((L.take n ++ [t]) ++ L.drop n).getD j th0 = if j < n then L.getD j th0 else if j = n then t else L.getD (j - 1) th0 := by
  have hl : (L.take n).length = n := by rw [List.length_take]; omega
  rw [List.getD_eq_getElem?_getD]
  by_cases h1 : j < n
  · rw [if_pos h1, List.getElem?_append_left (by rw [List.length_append, hl]; omega), List.getElem?_append_left (by omega), List.getElem?_take_of_lt h1, List.getD_eq_getElem?_getD]
  · rw [if_neg h1]
    by_cases h2 : j = n
    · subst h2
      rw [if_pos rfl, List.getElem?_append_left (by rw [List.length_append, hl]; simp), List.getElem?_append_right (by omega), hl]
      simp
    · rw [if_neg h2, List.getElem?_append_right (by rw [List.length_append, hl]; simp; omega), List.length_append, hl, List.getElem?_drop, List.getD_eq_getElem?_getD]
      congr 2
      simp
      omega
theorem length_ins (L : List Th) (n : Nat) (t : Th) (h : n ≤ L.length) : ((L.take n ++ [t]) ++ L.drop n).length = L.length + 1 := by
  simp only [List.length_append, List.length_take, List.length_drop, List.length_singleton]; omega
theorem Srt.ins {L : List Th} (h : Srt L) (n : Nat) (t : Th) (hn : n ≤ L.length) (h1 : ∀ i, n ≤ i → i < L.length → t.key < (L.getD i th0).key) (h2 : n = 0 ∨ (L.getD (n - 1) th0).key ≤ t.key) : Srt ((L.take n ++ [t]) ++ L.drop n) := by
  intro i k hik hk
  rw [length_ins L n t hn] at hk
  have low : ∀ i, i < n → (L.getD i th0).key ≤ t.key := fun i hi => by
    rcases h2 with h2 | h2
    · omega
    · exact Int.le_trans (h i (n - 1) (by omega) (by omega)) h2
  rw [getD_ins L n t hn, getD_ins L n t hn]
  by_cases a1 : i < n
  · rw [if_pos a1]
    by_cases b1 : k < n
    · rw [if_pos b1]; exact h i k hik (by omega)
    · rw [if_neg b1]
      by_cases b2 : k = n
      · rw [if_pos b2]; exact low i a1
      · rw [if_neg b2]; exact h i (k - 1) (by omega) (by omega)
  · rw [if_neg a1, if_neg (show ¬ k < n by omega)]
    by_cases a2 : i = n
    · rw [if_pos a2]
      by_cases b2 : k = n
      · rw [if_pos b2]; exact Int.le_refl _
      · rw [if_neg b2]; have := h1 (k - 1) (by omega) (by omega); omega
    · rw [if_neg a2, if_neg (show ¬ k = n by omega)]
      exact h (i - 1) (k - 1) (by omega) (by omega)
/-- The first k things bear the names from q on. -/
def Nmd (L : List Th) (q k : Nat) : Prop := ∀ j, j < k → (L.getD j th0).name = ((q + j : Nat) : Int)
theorem Srt.setName {L : List Th} (h : Srt L) (k : Nat) (x : Int) (hk : k < L.length) : Srt (setNm L k x) := by
  have e : ∀ j, ((Me.setNm L k x).getD j th0).key = (L.getD j th0).key := fun j => by
    rw [getD_setNm L k x j hk]
    by_cases q : j = k
    · rw [if_pos q, q]
    · rw [if_neg q]
  intro i j hij hj
  rw [length_setNm] at hj
  rw [e, e]
  exact h i j hij hj
theorem Nmd.setName {L : List Th} {q k : Nat} (h : Nmd L q k) (hk : k < L.length) : Nmd (setNm L k ((q + k : Nat) : Int)) q (k + 1) := by
  intro j hj
  rw [getD_setNm L k _ j hk]
  by_cases e : j = k
  · rw [if_pos e, e]
  · rw [if_neg e]; exact h j (by omega)
theorem getD_src (ss : List Src) (s : Src) (j : Nat) : (ss ++ [s]).getD j src0 = if j = ss.length then s else ss.getD j src0 := by
  rw [List.getD_eq_getElem?_getD, List.getD_eq_getElem?_getD]
  by_cases e : j = ss.length
  · subst e; rw [if_pos rfl, List.getElem?_append_right (Nat.le_refl _)]; simp
  · rw [if_neg e]
    by_cases q : j < ss.length
    · rw [List.getElem?_append_left q]
    · rw [List.getElem?_eq_none (by simp; omega), List.getElem?_eq_none (by omega)]
/-- Sources as they are played. -/
def plays (ss : List Src) : Nat → Fd := fun j => (ss.getD j src0).fd
theorem lens_push (ss : List Src) (s : Src) (j : Nat) (hj : j ≤ ss.length) : sumN (lens (plays (ss ++ [s]))) j = sumN (lens (plays ss)) j :=
  sum_eq (fun i hi => by unfold lens plays; rw [getD_src, if_neg (by omega)])
theorem Tidy.push {ss : List Src} {s : Src} (h : Tidy (plays ss) ss.length) (hf : s.fin = 0) (hs : Srt s.ts) (hn : Nmd s.ts (sumN (lens (plays ss)) ss.length) s.ts.length) : Tidy (plays (ss ++ [s])) (ss ++ [s]).length := by
  have e : ∀ j, plays (ss ++ [s]) j = if j = ss.length then s.fd else plays ss j := fun j => by
    unfold plays; rw [getD_src]; split <;> rfl
  have hl : (ss ++ [s]).length = ss.length + 1 := by simp
  refine ⟨fun j hj => ?_, fun j hj i k hik hk => ?_, fun j i hj hi => ?_⟩
  · rw [hl] at hj
    rw [e]
    by_cases q : j = ss.length
    · rw [if_pos q]; exact hf
    · rw [if_neg q]; exact h.fin j (by omega)
  · rw [hl] at hj
    unfold thAt
    rw [e] at hk ⊢
    by_cases q : j = ss.length
    · rw [if_pos q] at hk ⊢; exact hs i k hik hk
    · rw [if_neg q] at hk ⊢; exact h.srt j (by omega) i k hik hk
  · rw [hl] at hj
    rw [lens_push ss s j (by omega)]
    unfold thAt
    rw [e] at hi ⊢
    by_cases q : j = ss.length
    · rw [if_pos q] at hi ⊢; rw [q]; exact hn i hi
    · rw [if_neg q] at hi ⊢; exact h.nm j i (by omega) hi
theorem tidy_nil : Tidy (plays []) 0 := ⟨fun j hj => absurd hj (by omega), fun j hj => absurd hj (by omega), fun j i hj => absurd hj (by omega)⟩
end Go.Proofs.Ytcnfkgmefikcjaa.Me
