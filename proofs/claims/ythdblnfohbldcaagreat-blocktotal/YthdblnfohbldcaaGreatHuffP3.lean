/-
  Package merge: how much is in a row, and the things of counts.
-/
import Derived.Test.YthdblnfohbldcaaGreatHuffP2
namespace Go.Proofs.YthdblnfohbldcaaGreat.Pm
set_option linter.unusedVariables false
theorem tally_merged (s : Nat) : ∀ ts ps : List Pk, tally (merged ts ps) s = tally ts s + tally ps s
  | [], ps => by rw [nil_merged]; simp [tally]
  | t :: ts, [] => by rw [merged_nil]; simp [tally]
  | t :: ts, p :: ps => by
    rw [merged]
    split
    · rw [tally_cons, tally_merged s ts (p :: ps), tally_cons t ts]; omega
    · rw [tally_cons, tally_merged s (t :: ts) ps, tally_cons p ps]; omega
theorem tally_paired {n : Nat} (s : Nat) : ∀ l : List Pk, Wide n l → tally (paired l) s ≤ tally l s
  | [], _ => by simp [paired, tally]
  | [_], _ => by simp [paired, tally]
  | a :: b :: r, h => by
    simp only [paired, tally_cons]
    have := tally_paired s r (fun p hp => h p (by simp [hp]))
    rw [both_get a b s (by rw [h a (by simp), h b (by simp)])]
    omega
theorem row_tally {n : Nat} {ts : List Pk} (h : Wide n ts) (s : Nat) : ∀ j, tally (row ts j) s ≤ (j + 1) * tally ts s
  | 0 => by simp [row]
  | j + 1 => by
    have h1 := row_tally h s j
    have h2 := tally_paired s (row ts j) (row_wide h j)
    simp only [row]
    rw [tally_merged, Nat.add_mul (j + 1) 1, Nat.one_mul]
    omega
theorem mem_tally (s : Nat) : ∀ (l : List Pk) (p : Pk), p ∈ l → p.2.getD s 0 ≤ tally l s
  | q :: l, p, h => by
    rw [tally_cons]
    rcases List.mem_cons.1 h with rfl | h
    · omega
    · have := mem_tally s l p h
      omega
theorem paired_weight {M : Nat} : ∀ l : List Pk, (∀ p ∈ l, p.1 ≤ M) → ∀ p ∈ paired l, p.1 ≤ 2 * M
  | [], _ => by simp [paired]
  | [_], _ => by simp [paired]
  | a :: b :: r, h => by
    intro p hp
    simp only [paired, List.mem_cons] at hp
    rcases hp with rfl | hp
    · have h1 := h a (by simp)
      have h2 := h b (by simp)
      simp only [both]; omega
    · exact paired_weight r (fun q hq => h q (by simp [hq])) p hp
theorem row_weight {M : Nat} {ts : List Pk} (h : ∀ p ∈ ts, p.1 ≤ M) : ∀ j, ∀ p ∈ row ts j, p.1 ≤ 2 ^ j * M
  | 0 => fun p hp => by simpa using h p hp
  | j + 1 => fun p hp => by
    have h0 : 2 ^ (j + 1) * M = 2 * (2 ^ j * M) := by rw [Nat.pow_succ, Nat.mul_comm (2 ^ j) 2, Nat.mul_assoc]
    have h2 : 1 ≤ 2 ^ j := Nat.one_le_two_pow
    rcases merged_mem _ _ _ hp with h1 | h1
    · have h3 := h p h1
      have : M ≤ 2 ^ j * M := Nat.le_mul_of_pos_left _ h2
      omega
    · rw [h0]
      exact paired_weight _ (row_weight h j) p h1
theorem tally_take_le (s : Nat) (l : List Pk) (k : Nat) : tally (l.take k) s ≤ tally l s := by
  conv => rhs; rw [← List.take_append_drop k l]
  rw [tally_append]; omega
theorem tally_snoc (s : Nat) (l : List Pk) (k : Nat) (h : k < l.length) : tally (l.take (k + 1)) s = tally (l.take k) s + (l.getD k (0, [])).2.getD s 0 := by
  have e : l.getD k (0, []) = l[k] := by rw [List.getD_eq_getElem?_getD, List.getElem?_eq_getElem h]; rfl
  rw [List.take_succ_eq_append_getElem h, tally_append, e]
  simp [tally]
end Go.Proofs.YthdblnfohbldcaaGreat.Pm
