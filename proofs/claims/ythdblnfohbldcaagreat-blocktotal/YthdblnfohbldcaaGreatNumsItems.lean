/-
  The items that are handed in, and whether they are beyond the bound.
-/
import Derived.Test.YthdblnfohbldcaaGreatNumsCur3
namespace Go.Proofs.YthdblnfohbldcaaGreat.Curs
open Go.ChangeShapes Go.WideShapes Go.ChangeAt Go.RowKit
open Go.Proofs.YthdblnfohbldcaaGreat.Base Go.Proofs.YthdblnfohbldcaaGreat.Nums
set_option linter.unusedVariables false
/-- The items lie in memory as told. -/
def ItemsAt (w : World) (a : Option Addr) (len : Nat) (kd vv nn : Nat → Int) (ss : Nat → ByteArray) : Prop :=
  0 < len → ∃ b off, a = some ⟨b, off, none⟩ ∧ b < w.heap.size ∧ ∀ i, i < len → w.cell? ⟨b, off + i * 4, none⟩ = some (.int .i64 (kd i)) ∧ w.cell? ⟨b, off + i * 4 + 1, none⟩ = some (.int .i64 (vv i)) ∧ w.cell? ⟨b, off + i * 4 + 2, none⟩ = some (.int .i64 (nn i)) ∧ w.cell? ⟨b, off + i * 4 + 3, none⟩ = some (.string (ss i))
def tot (ss : Nat → ByteArray) : Nat → Nat
  | 0 => 0
  | i + 1 => tot ss i + 1 + (ss i).size
theorem tot_mono (ss : Nat → ByteArray) (i d : Nat) : tot ss i ≤ tot ss (i + d) := by
  induction d with
  | zero => exact Nat.le_refl _
  | succ d ih => show _ ≤ tot ss (i + d) + 1 + (ss (i + d)).size; omega
theorem tot_le (ss : Nat → ByteArray) (i j : Nat) (h : i ≤ j) : tot ss i ≤ tot ss j := by
  have := tot_mono ss i (j - i)
  rwa [show i + (j - i) = j by omega] at this
end Go.Proofs.YthdblnfohbldcaaGreat.Curs
