/-
  The document's pairs: the mathematics.
-/
import Derived.Test.YtalnhhpcncjflaaHuffEY
import Derived.Test.YtalnhhpcncjflaaNumsRefP
namespace Go.Proofs.Ytalnhhpcncjflaa.Huff
open Go.ChangeShapes Go.WideShapes Go.ChangeAt Go.RowKit
open Go.Proofs.Ytalnhhpcncjflaa.Base
set_option linter.unusedVariables false
theorem trimmed_app (A B : List Int) : trimmed (A ++ B) = if trimmed B = [] then trimmed A else A ++ trimmed B := by
  have key : ∀ (R S : List Int), ((R ++ S).dropWhile fun x => decide (x = 0)) = if (R.dropWhile fun x => decide (x = 0)) = [] then S.dropWhile (fun x => decide (x = 0)) else (R.dropWhile fun x => decide (x = 0)) ++ S := by
    intro R S
    induction R with
    | nil => simp
    | cons x R ih =>
      by_cases e : x = 0
      · have h1 : ((x :: R).dropWhile fun x => decide (x = 0)) = R.dropWhile fun x => decide (x = 0) := by rw [List.dropWhile_cons, if_pos (by simpa using e)]
        rw [h1, List.cons_append, List.dropWhile_cons, if_pos (decide_eq_true e), ih]
      · have h1 : ((x :: R).dropWhile fun x => decide (x = 0)) = x :: R := by rw [List.dropWhile_cons, if_neg (by simpa using e)]
        rw [h1, List.cons_append, List.dropWhile_cons, if_neg (by rw [decide_eq_true_iff]; exact e), if_neg (by simp)]
  unfold trimmed
  rw [List.reverse_append, key]
  by_cases h : (B.reverse.dropWhile fun x => decide (x = 0)) = []
  · rw [if_pos h, if_pos (by rw [h]; rfl)]
  · rw [if_neg h, if_neg (fun e => h (by rw [← List.reverse_reverse (List.dropWhile _ _), e]; rfl)), List.reverse_append, List.reverse_reverse]
theorem trimmed_rep (q : Nat) (x : Int) : trimmed (List.replicate q x) = if x = 0 then [] else List.replicate q x := by
  unfold trimmed
  rw [List.reverse_replicate]
  by_cases e : x = 0
  · rw [if_pos e]
    induction q with
    | zero => rfl
    | succ q ih => rw [List.replicate_succ, List.dropWhile_cons, if_pos (by simpa using e)]; exact ih
  · rw [if_neg e]
    cases q with
    | zero => rfl
    | succ q => rw [List.replicate_succ, List.dropWhile_cons, if_neg (by simpa using e), ← List.replicate_succ, List.reverse_replicate]
theorem runOf_rep (q : Nat) (x : Int) (B : List Int) (hq : 0 < q) (hB : B ≠ [] → B.getD 0 0 ≠ x) : runOf (List.replicate q x ++ B) = q := by
  refine run_at (fun j hj => ?_) hq (by rw [List.length_append, List.length_replicate]; omega) ?_
  · rw [List.getD_eq_getElem?_getD, List.getElem?_append_left (by rw [List.length_replicate]; exact hj), List.getElem?_replicate, if_pos hj, List.getD_eq_getElem?_getD, List.getElem?_append_left (by rw [List.length_replicate]; exact hq), List.getElem?_replicate, if_pos hq]
  · by_cases e : B = []
    · left; rw [e, List.append_nil, List.length_replicate]
    · right
      rw [List.getD_eq_getElem?_getD, List.getElem?_append_right (by rw [List.length_replicate]; exact Nat.le_refl _), List.length_replicate, Nat.sub_self, ← List.getD_eq_getElem?_getD, List.getD_eq_getElem?_getD (l := List.replicate q x ++ B), List.getElem?_append_left (by rw [List.length_replicate]; exact hq), List.getElem?_replicate, if_pos hq]
      exact hB e
/-- One run more: unless it is the last one, and of zeros. -/
theorem pairs_more (q : Nat) (x : Int) (B : List Int) (hq : 0 < q) (hB : B ≠ [] → B.getD 0 0 ≠ x) (h : ¬ (B = [] ∧ x = 0)) : pairsOf (List.replicate q x ++ B) = Nums.put q ++ [BitVec.ofNat 8 x.toNat] ++ pairsOf B := by
  have ht : trimmed (List.replicate q x ++ B) = List.replicate q x ++ trimmed B := by
    rw [trimmed_app]
    by_cases e : trimmed B = []
    · rw [if_pos e, e, List.append_nil, trimmed_rep, if_neg]
      intro hx
      refine h ⟨?_, hx⟩
      cases B with
      | nil => rfl
      | cons y B =>
        have hy := hB (by simp)
        have : y ≠ 0 := by rw [hx] at hy; exact hy
        exfalso
        have e2 := trimmed_app [y] B
        rw [List.singleton_append, e] at e2
        by_cases e3 : trimmed B = []
        · rw [if_pos e3] at e2
          have : trimmed [y] = [y] := by have := trimmed_rep 1 y; rw [if_neg (by assumption)] at this; exact this
          rw [this] at e2; cases e2
        · rw [if_neg e3] at e2; cases e2
    · rw [if_neg e]
  have hB2 : trimmed B ≠ [] → (trimmed B).getD 0 0 ≠ x := by
    intro hne
    have hBn : B ≠ [] := fun e => hne (by rw [e]; rfl)
    have := hB hBn
    cases B with
    | nil => exact absurd rfl hBn
    | cons y B =>
      have e2 := trimmed_app [y] B
      rw [List.singleton_append] at e2
      by_cases e3 : trimmed B = []
      · rw [if_pos e3] at e2
        by_cases hy : y = 0
        · have : trimmed [y] = [] := by have := trimmed_rep 1 y; rw [if_pos hy] at this; exact this
          rw [this] at e2; exact absurd e2 hne
        · have h1 : trimmed [y] = [y] := by have := trimmed_rep 1 y; rw [if_neg hy] at this; exact this
          rw [e2, h1]; exact this
      · rw [if_neg e3] at e2
        rw [e2]; exact this
  have hrun := runOf_rep q x (trimmed B) hq hB2
  have hne : List.replicate q x ++ trimmed B ≠ [] := by
    intro e
    have := congrArg List.length e
    rw [List.length_append, List.length_replicate] at this
    simp at this; omega
  unfold pairsOf
  rw [ht, pairs_step hne, hrun]
  have e1 : (List.replicate q x ++ trimmed B).getD 0 0 = x := by
    rw [List.getD_eq_getElem?_getD, List.getElem?_append_left (by rw [List.length_replicate]; exact hq), List.getElem?_replicate, if_pos hq]; rfl
  have e2 : (List.replicate q x ++ trimmed B).drop q = trimmed B := by
    have := List.drop_left (l₁ := List.replicate q x) (l₂ := trimmed B)
    rwa [List.length_replicate] at this
  rw [e1, e2]
theorem pairs_zero (q : Nat) : pairsOf (List.replicate q 0) = [] := by
  unfold pairsOf
  rw [trimmed_rep, if_pos rfl]; rfl
theorem run_parts (ls : List Int) (p : Nat) (hp : p < ls.length) : 1 ≤ runOf (ls.drop p) ∧ p + runOf (ls.drop p) ≤ ls.length ∧ ls.drop p = List.replicate (runOf (ls.drop p)) (ls.getD p 0) ++ ls.drop (p + runOf (ls.drop p)) := by
  have hne : ls.drop p ≠ [] := fun e => by have := congrArg List.length e; rw [List.length_drop] at this; simp at this; omega
  have h1 := runOf_pos hne
  have h2 : (ls.drop p).getD 0 0 = ls.getD p 0 := by rw [List.getD_eq_getElem?_getD, List.getElem?_drop, Nat.add_zero, ← List.getD_eq_getElem?_getD]
  rw [List.length_drop] at h1
  refine ⟨h1.1, by omega, ?_⟩
  have key : ∀ rs : List Int, rs = List.replicate (runOf rs) (rs.getD 0 0) ++ rs.drop (runOf rs) := by
    intro rs
    cases rs with
    | nil => rfl
    | cons x r =>
      have key : ∀ r : List Int, r = List.replicate (r.takeWhile fun y => decide (y = x)).length x ++ r.drop (r.takeWhile fun y => decide (y = x)).length := by
        intro r
        induction r with
        | nil => rfl
        | cons y r ih =>
          by_cases e : y = x
          · rw [List.takeWhile_cons, if_pos (by simpa using e), List.length_cons, List.replicate_succ, List.drop_succ_cons, List.cons_append, ← ih, e]
          · rw [List.takeWhile_cons, if_neg (by simpa using e)]; rfl
      show x :: r = List.replicate (1 + _) x ++ (x :: r).drop (1 + _)
      rw [Nat.add_comm 1, List.replicate_succ, List.drop_succ_cons, List.cons_append, ← key r]
  have := key (ls.drop p)
  rw [h2, List.drop_drop] at this
  exact this
end Go.Proofs.Ytalnhhpcncjflaa.Huff
