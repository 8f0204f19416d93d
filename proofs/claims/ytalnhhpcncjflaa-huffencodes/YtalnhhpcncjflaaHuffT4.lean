/-
  The document's order of things: symbols from the last to the first, each put behind those that are no heavier.
-/
import Derived.Test.YtalnhhpcncjflaaHuffSZ
namespace Go.Proofs.Ytalnhhpcncjflaa.Pm
open Go.Proofs.Ytalnhhpcncjflaa.Base
set_option linter.unusedVariables false
/-- How many at the head are no heavier than symbol i. -/
def lightTo (cs : List Int) (i : Nat) (l : List Nat) : Nat := (l.takeWhile fun s => decide (cs.getD s 0 ≤ cs.getD i 0)).length
def insAt (cs : List Int) (i : Nat) (l : List Nat) : List Nat := l.take (lightTo cs i l) ++ [i] ++ l.drop (lightTo cs i l)
/-- The symbols from k on, of n. -/
def ordFrom (cs : List Int) : Nat → Nat → List Nat
  | 0, _ => []
  | j + 1, k => if cs.getD k 0 = 0 then ordFrom cs j (k + 1) else insAt cs k (ordFrom cs j (k + 1))
theorem take_light (cs : List Int) (i : Nat) (l : List Nat) : l.take (lightTo cs i l) = l.takeWhile fun s => decide (cs.getD s 0 ≤ cs.getD i 0) := by
  unfold lightTo
  induction l with
  | nil => rfl
  | cons x l ih =>
    rw [List.takeWhile_cons]
    split
    · rw [List.length_cons, List.take_succ_cons, ih]
    · rfl
theorem drop_light (cs : List Int) (i : Nat) (l : List Nat) : l.drop (lightTo cs i l) = l.dropWhile fun s => decide (cs.getD s 0 ≤ cs.getD i 0) := by
  unfold lightTo
  induction l with
  | nil => rfl
  | cons x l ih =>
    rw [List.takeWhile_cons, List.dropWhile_cons]
    split
    · rw [List.length_cons, List.drop_succ_cons, ih]
    · rfl
theorem insAt_perm (cs : List Int) (i : Nat) (l : List Nat) : (insAt cs i l).Perm (i :: l) := by
  unfold insAt
  have h : (l.take (lightTo cs i l) ++ [i] ++ l.drop (lightTo cs i l)).Perm ([i] ++ l.take (lightTo cs i l) ++ l.drop (lightTo cs i l)) := List.Perm.append_right _ List.perm_append_comm
  refine h.trans ?_
  rw [List.append_assoc, List.take_append_drop]
  exact List.Perm.refl _
theorem ordFrom_mem (cs : List Int) : ∀ j k s, s ∈ ordFrom cs j k → k ≤ s
  | 0, k, s, h => by simp [ordFrom] at h
  | j + 1, k, s, h => by
    simp only [ordFrom] at h
    split at h
    · have := ordFrom_mem cs j (k + 1) s h; omega
    · have := (insAt_perm cs k _).mem_iff.1 h
      rcases List.mem_cons.1 this with rfl | h2
      · exact Nat.le_refl _
      · have := ordFrom_mem cs j (k + 1) s h2; omega
theorem dropWhile_heavy (cs : List Int) (i : Nat) : ∀ l : List Nat, l.Pairwise (aheadOf cs) → ∀ s ∈ l.dropWhile (fun s => decide (cs.getD s 0 ≤ cs.getD i 0)), cs.getD i 0 < cs.getD s 0
  | [], _, s, h => by simp at h
  | x :: l, hp, s, h => by
    rw [List.dropWhile_cons] at h
    rw [List.pairwise_cons] at hp
    split at h
    · exact dropWhile_heavy cs i l hp.2 s h
    · rename_i hx
      have hx2 : ¬ cs.getD x 0 ≤ cs.getD i 0 := by simpa using hx
      rcases List.mem_cons.1 h with rfl | h2
      · omega
      · rcases hp.1 s h2 with h3 | h3 <;> omega
theorem takeWhile_light (cs : List Int) (i : Nat) : ∀ (l : List Nat) (s : Nat), s ∈ l.takeWhile (fun s => decide (cs.getD s 0 ≤ cs.getD i 0)) → cs.getD s 0 ≤ cs.getD i 0 ∧ s ∈ l
  | [], s, h => by simp at h
  | x :: l, s, h => by
    rw [List.takeWhile_cons] at h
    split at h
    · rename_i hx
      rcases List.mem_cons.1 h with rfl | h2
      · exact ⟨by simpa using hx, List.mem_cons_self ..⟩
      · have := takeWhile_light cs i l s h2
        exact ⟨this.1, List.mem_cons_of_mem _ this.2⟩
    · simp at h
theorem insAt_pair (cs : List Int) (i : Nat) (l : List Nat) (hp : l.Pairwise (aheadOf cs)) (hi : ∀ s ∈ l, i < s) : (insAt cs i l).Pairwise (aheadOf cs) := by
  unfold insAt
  have hh := dropWhile_heavy cs i l hp
  rw [← drop_light] at hh
  have ht := takeWhile_light cs i l
  rw [← take_light] at ht
  have hsp := hp
  rw [← List.take_append_drop (lightTo cs i l) l, List.pairwise_append] at hsp
  rw [List.append_assoc, List.pairwise_append]
  refine ⟨hsp.1, ?_, ?_⟩
  · rw [List.singleton_append, List.pairwise_cons]
    exact ⟨fun s hs => .inl (hh s hs), hsp.2.1⟩
  · intro a ha b hb
    rw [List.singleton_append] at hb
    have h1 := ht a ha
    rcases List.mem_cons.1 hb with rfl | h2
    · have := hi a h1.2
      unfold aheadOf
      omega
    · exact hsp.2.2 a ha b h2
theorem ordFrom_pair (cs : List Int) : ∀ j k, (ordFrom cs j k).Pairwise (aheadOf cs)
  | 0, k => List.Pairwise.nil
  | j + 1, k => by
    simp only [ordFrom]
    split
    · exact ordFrom_pair cs j (k + 1)
    · exact insAt_pair cs k _ (ordFrom_pair cs j (k + 1)) (fun s hs => by have := ordFrom_mem cs j (k + 1) s hs; omega)
theorem ordFrom_perm (cs : List Int) (hc : ∀ s, 0 ≤ cs.getD s 0) : ∀ j k, (ordFrom cs j k).Perm ((List.range' k j).filter fun s => decide (0 < cs.getD s 0))
  | 0, k => by simp [ordFrom]
  | j + 1, k => by
    simp only [ordFrom, List.range'_succ]
    have h0 := hc k
    split
    · rename_i h
      rw [List.filter_cons, if_neg (by rw [decide_eq_true_iff]; omega)]
      exact ordFrom_perm cs hc j (k + 1)
    · rename_i h
      rw [List.filter_cons, if_pos (by rw [decide_eq_true_iff]; omega)]
      exact (insAt_perm cs k _).trans ((ordFrom_perm cs hc j (k + 1)).cons k)
theorem ordFrom_order (cs : List Int) (hc : ∀ s, 0 ≤ cs.getD s 0) : Ordered cs (ordFrom cs cs.length 0) := by
  refine ⟨?_, ordFrom_pair cs _ _⟩
  have := ordFrom_perm cs hc cs.length 0
  unfold symsTo
  rw [List.range_eq_range']
  exact this
end Go.Proofs.Ytalnhhpcncjflaa.Pm
