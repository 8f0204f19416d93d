/-
  What bytes tell by code words: the lengths at their head, then the words, bit by bit.
-/
import Derived.Test.YthdblnfohbldcaaGreatHuffM3
import Derived.Test.YthdblnfohbldcaaGreatNumsNum
namespace Go.Proofs.YthdblnfohbldcaaGreat.Huff
open Go.ChangeShapes Go.WideShapes Go.ChangeAt Go.RowKit
open Go.Proofs.YthdblnfohbldcaaGreat.Base
set_option linter.unusedVariables false
/-- The last length; of none it is -1. -/
def lastLen (ls : List Int) : Int := ls.getLast?.getD (-1)
theorem lastLen_nil : lastLen [] = -1 := rfl
theorem lastLen_app (ls : List Int) (n : Nat) (c : Int) (h : 0 < n) : lastLen (ls ++ List.replicate n c) = c := by
  obtain ⟨m, rfl⟩ : ∃ m, n = m + 1 := ⟨n - 1, by omega⟩
  unfold lastLen
  rw [List.replicate_succ', ← List.append_assoc, List.getLast?_append]
  simp
theorem lastLen_get (ls : List Int) (h : 0 < ls.length) : lastLen ls = ls.getD (ls.length - 1) 0 := by
  unfold lastLen
  rw [List.getLast?_eq_getElem?, List.getD_eq_getElem?_getD, List.getElem?_eq_getElem (by omega)]
  rfl
/-- The lengths that bytes begin with, behind those of ls, and what stands behind them. -/
def lensGo : Nat → List (BitVec 8) → List Int → Option (List Int × List (BitVec 8))
  | 0, _, _ => none
  | f + 1, b, ls =>
    if (Nums.get b).2.2 ≠ 0 ∨ 256 - ls.length < (Nums.get b).1 then none
    else if (Nums.get b).1 = 0 then (if lastLen ls = 0 then none else some (ls, b.drop (Nums.get b).2.1))
    else match b.drop (Nums.get b).2.1 with
      | [] => none
      | c :: cs => if 15 < c.toNat ∨ (c.toNat : Int) = lastLen ls then none else lensGo f cs (ls ++ List.replicate (Nums.get b).1 (c.toNat : Int))
def lensOf (b : List (BitVec 8)) : Option (List Int × List (BitVec 8)) := lensGo (b.length + 1) b []
theorem allIn_app {m : Int} {xs ys : List Int} (h1 : allIn m xs = true) (h2 : allIn m ys = true) : allIn m (xs ++ ys) = true := by
  unfold allIn at *
  rw [List.all_append, h1, h2]; rfl
theorem allIn_rep {m c : Int} (n : Nat) (h1 : 0 ≤ c) (h2 : c ≤ m) : allIn m (List.replicate n c) = true := by
  unfold allIn
  rw [List.all_eq_true]
  intro x hx
  rw [List.eq_of_mem_replicate hx]
  simp [h1, h2]
theorem lensGo_ok (f : Nat) : ∀ b ls ls' r, lensGo f b ls = some (ls', r) → allIn 15 ls = true → ls.length ≤ 256 → allIn 15 ls' = true ∧ ls'.length ≤ 256 ∧ r.length ≤ b.length := by
  induction f with
  | zero => intro b ls ls' r h; cases h
  | succ f ih =>
    intro b ls ls' r h h1 h2
    simp only [lensGo] at h
    split at h
    · cases h
    · rename_i hn
      split at h
      · split at h
        · cases h
        · cases h
          exact ⟨h1, h2, by rw [List.length_drop]; omega⟩
      · split at h
        · cases h
        · rename_i c cs hd
          split at h
          · cases h
          · rename_i hc
            have hlen := congrArg List.length hd
            rw [List.length_drop, List.length_cons] at hlen
            obtain ⟨q1, q2, q3⟩ := ih cs _ ls' r h (allIn_app h1 (allIn_rep _ (by omega) (by omega))) (by rw [List.length_append, List.length_replicate]; omega)
            exact ⟨q1, q2, by omega⟩
theorem lensOf_ok {b : List (BitVec 8)} {ls : List Int} {r : List (BitVec 8)} (h : lensOf b = some (ls, r)) : allIn 15 ls = true ∧ ls.length ≤ 256 ∧ r.length ≤ b.length :=
  lensGo_ok _ _ _ _ _ h rfl (by simp)
def bitAt (r : List (BitVec 8)) (i : Nat) : Nat := (r.getD (i / 8) 0).toNat / 2 ^ (i % 8) % 2
theorem bitAt_le (r : List (BitVec 8)) (i : Nat) : bitAt r i ≤ 1 := by unfold bitAt; omega
/-- The word that begins at a bit: its length and number. -/
def wordGo (ls : List Int) (r : List (BitVec 8)) : Nat → Nat → Nat → Nat → Option (Nat × Nat)
  | 0, _, _, _ => none
  | f + 1, i, l, N => if 8 * r.length ≤ i then none else
    if first ls l ≤ 2 * N + bitAt r i ∧ 2 * N + bitAt r i < first ls l + cntW ls ls.length l then some (l, 2 * N + bitAt r i) else wordGo ls r f (i + 1) (l + 1) (2 * N + bitAt r i)
def wordAt (ls : List Int) (r : List (BitVec 8)) (i : Nat) : Option (Nat × Nat) := wordGo ls r 15 i 1 0
theorem wordGo_ok (ls : List Int) (r : List (BitVec 8)) (f : Nat) : ∀ i l N l' N', wordGo ls r f i l N = some (l', N') → l ≤ l' ∧ l' < l + f ∧ i + (l' - l) < 8 * r.length ∧ first ls l' ≤ N' ∧ N' < first ls l' + cntW ls ls.length l' := by
  induction f with
  | zero => intro i l N l' N' h; cases h
  | succ f ih =>
    intro i l N l' N' h
    simp only [wordGo] at h
    split at h
    · cases h
    · split at h
      · rename_i h0 h1
        cases h
        exact ⟨by omega, by omega, by omega, h1.1, h1.2⟩
      · obtain ⟨q1, q2, q3, q4, q5⟩ := ih _ _ _ _ _ h
        exact ⟨by omega, by omega, by omega, q4, q5⟩
theorem wordAt_ok {ls : List Int} {r : List (BitVec 8)} {i l N : Nat} (h : wordAt ls r i = some (l, N)) : 1 ≤ l ∧ l ≤ 15 ∧ i + l ≤ 8 * r.length ∧ first ls l ≤ N ∧ N < first ls l + cntW ls ls.length l := by
  obtain ⟨q1, q2, q3, q4, q5⟩ := wordGo_ok ls r 15 i 1 0 l N h
  exact ⟨q1, by omega, by omega, q4, q5⟩
def symOf (ls : List Int) (l N : Nat) : Nat := ((List.range ls.length).find? fun i => decide (codeAt ls i = ((l : Int), N))).getD 0
theorem symOf_eq (ls : List Int) (l N i : Nat) (hl : 0 < l) (hi : i < ls.length) (h : codeAt ls i = ((l : Int), N)) : symOf ls l N = i := by
  unfold symOf
  cases hf : (List.range ls.length).find? (fun i => decide (codeAt ls i = ((l : Int), N))) with
  | none =>
    rw [List.find?_eq_none] at hf
    exact absurd h (by simpa using hf i (List.mem_range.2 hi))
  | some j =>
    have := List.find?_some hf
    simp only [decide_eq_true_eq] at this
    exact word_one ls l N hl this h
theorem symOf_there {ls : List Int} {l N : Nat} (hl : 0 < l) (h1 : first ls l ≤ N) (h2 : N < first ls l + cntW ls ls.length l) : symOf ls l N < ls.length ∧ codeAt ls (symOf ls l N) = ((l : Int), N) ∧ ls.getD (symOf ls l N) 0 = (l : Int) ∧ placeOf ls (symOf ls l N) = ahead ls l + (N - first ls l) := by
  obtain ⟨i, hi, h⟩ := (word_there ls l N hl).2 ⟨h1, h2⟩
  rw [symOf_eq ls l N i hl hi h]
  obtain ⟨q1, q2, q3⟩ := (code_iff ls l N i hl).1 h
  refine ⟨hi, h, q1, ?_⟩
  unfold placeOf
  rw [q1, Int.toNat_natCast, q3]
/-- The text of the first k words, and where the next one begins. -/
def textTo (ls : List Int) (r : List (BitVec 8)) : Nat → Option (List (BitVec 8) × Nat)
  | 0 => some ([], 0)
  | k + 1 => match textTo ls r k with
    | none => none
    | some (t, i) => match wordAt ls r i with
      | none => none
      | some (l, N) => some (t ++ [BitVec.ofNat 8 (symOf ls l N)], i + l)
theorem textTo_next {ls : List Int} {r : List (BitVec 8)} {k i l N : Nat} {t : List (BitVec 8)} (h : textTo ls r k = some (t, i)) (hw : wordAt ls r i = some (l, N)) : textTo ls r (k + 1) = some (t ++ [BitVec.ofNat 8 (symOf ls l N)], i + l) := by
  simp only [textTo, h, hw]
theorem textTo_none {ls : List Int} {r : List (BitVec 8)} {k : Nat} (h : textTo ls r k = none) : ∀ n, k ≤ n → textTo ls r n = none := by
  intro n
  induction n with
  | zero => intro hn; obtain rfl : k = 0 := by omega
            exact h
  | succ n ih =>
    intro hn
    by_cases e : k = n + 1
    · subst e; exact h
    · have := ih (by omega)
      simp only [textTo, this]
theorem textTo_stop {ls : List Int} {r : List (BitVec 8)} {k i n : Nat} {t : List (BitVec 8)} (h : textTo ls r k = some (t, i)) (hw : wordAt ls r i = none) (hn : k < n) : textTo ls r n = none :=
  textTo_none (k := k + 1) (by simp only [textTo, h, hw]) n (by omega)
theorem textTo_ok (ls : List Int) (r : List (BitVec 8)) : ∀ k t i, textTo ls r k = some (t, i) → t.length = k ∧ k ≤ i ∧ i ≤ 8 * r.length := by
  intro k
  induction k with
  | zero => intro t i h; cases h; exact ⟨rfl, by omega, by omega⟩
  | succ k ih =>
    intro t i h
    simp only [textTo] at h
    split at h
    · cases h
    · rename_i t0 i0 h0
      split at h
      · cases h
      · rename_i l N hw
        cases h
        obtain ⟨q1, q2, q3⟩ := ih t0 i0 h0
        obtain ⟨w1, w2, w3, _⟩ := wordAt_ok hw
        exact ⟨by rw [List.length_append]; simp; omega, by omega, by omega⟩
theorem textTo_far {ls : List Int} {r : List (BitVec 8)} {n : Nat} (h : 8 * r.length < n) : textTo ls r n = none := by
  cases e : textTo ls r n with
  | none => rfl
  | some p => obtain ⟨t, i⟩ := p; have := textTo_ok ls r n t i e; omega
/-- Nothing behind a bit but what fills the last byte. -/
def isEnd (r : List (BitVec 8)) (i : Nat) : Bool := decide (r.length = (i + 7) / 8 ∧ ∀ j, j < 8 * r.length → i ≤ j → bitAt r j = 0)
theorem bits8 : ∀ c : BitVec 8, ∀ k, k < 8 → (c.toNat / 2 ^ k = 0 ↔ ∀ j, j < 8 → k ≤ j → c.toNat / 2 ^ j % 2 = 0) := by decide +kernel
theorem isEnd_len {r : List (BitVec 8)} {i : Nat} (h : ¬ (i + 7) / 8 = r.length) : isEnd r i = false := by
  unfold isEnd; rw [decide_eq_false_iff_not]; intro q; exact h q.1.symm
theorem isEnd_full {r : List (BitVec 8)} {i : Nat} (h : (i + 7) / 8 = r.length) (h8 : i % 8 = 0) : isEnd r i = true := by
  unfold isEnd; rw [decide_eq_true_iff]; exact ⟨h.symm, fun j h1 h2 => by omega⟩
theorem isEnd_part {r : List (BitVec 8)} {i : Nat} (h : (i + 7) / 8 = r.length) (h8 : ¬ i % 8 = 0) : isEnd r i = decide ((r.getD (r.length - 1) 0).toNat / 2 ^ (i % 8) = 0) := by
  unfold isEnd
  have hb := bits8 (r.getD (r.length - 1) 0) (i % 8) (by omega)
  by_cases hz : (r.getD (r.length - 1) 0).toNat / 2 ^ (i % 8) = 0
  · rw [decide_eq_true hz, decide_eq_true_iff]
    refine ⟨h.symm, fun j h1 h2 => ?_⟩
    have := hb.1 hz (j % 8) (by omega) (by omega)
    unfold bitAt
    rw [show j / 8 = r.length - 1 by omega]
    exact this
  · rw [decide_eq_false hz, decide_eq_false_iff_not]
    rintro ⟨_, q⟩
    refine hz (hb.2 fun j h1 h2 => ?_)
    have := q (8 * (r.length - 1) + j) (by omega) (by omega)
    unfold bitAt at this
    rw [show (8 * (r.length - 1) + j) / 8 = r.length - 1 by omega, show (8 * (r.length - 1) + j) % 8 = j by omega] at this
    exact this
/-- What bytes tell of a text of n bytes, and the error. -/
def decoded (b : List (BitVec 8)) (n : Int) : List (BitVec 8) × Int :=
  if n < 0 ∨ 65536 < n then ([], 3) else
  match lensOf b with
  | none => ([], 40)
  | some (ls, r) => if right ls = false then ([], 40) else
    match textTo ls r n.toNat with
    | none => ([], 40)
    | some (t, i) => if isEnd r i = true then (t, 0) else ([], 40)
theorem decoded_len (b : List (BitVec 8)) (n : Int) : (decoded b n).1.length ≤ 65536 := by
  unfold decoded
  split
  · simp
  · split
    · simp
    · split
      · simp
      · split
        · simp
        · rename_i t i h
          split
          · have := textTo_ok _ _ _ _ _ h; show t.length ≤ _; omega
          · simp
end Go.Proofs.YthdblnfohbldcaaGreat.Huff
