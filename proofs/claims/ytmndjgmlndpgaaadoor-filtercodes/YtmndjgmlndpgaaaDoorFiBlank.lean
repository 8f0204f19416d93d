/-
  An empty filter of a kind.
-/
import Derived.Test.YtmndjgmlndpgaaaDoorFiBuild
namespace Go.Proofs.YtmndjgmlndpgaaaDoor.Filt
open Go.ChangeShapes Go.WideShapes Go.ChangeAt Go.RowKit
open Go.Proofs.YtmndjgmlndpgaaaDoor.Base
set_option linter.unusedVariables false
theorem rowS {V : World} {q : Nat} (h : V.heap[q]? = some (.cells #[.bool false, .int .i64 1, .int .i64 8, .int .i64 1, .int .i64 4096] 54)) : V.cell? ⟨q, 1, none⟩ = some (.int .i64 1) ∧ V.cell? ⟨q, 2, none⟩ = some (.int .i64 8) ∧ V.cell? ⟨q, 3, none⟩ = some (.int .i64 1) ∧ V.cell? ⟨q, 4, none⟩ = some (.int .i64 4096) :=
  ⟨by rw [cell_of_row _ _ _ _ _ _ h]; rfl, by rw [cell_of_row _ _ _ _ _ _ h]; rfl, by rw [cell_of_row _ _ _ _ _ _ h]; rfl, by rw [cell_of_row _ _ _ _ _ _ h]; rfl⟩
theorem rowS3 {w1 : World} {q r : Nat} (h : w1.heap[q]? = some (.cells #[.bool false, .int .i64 1, .int .i64 8, .int .i64 1, .int .i64 4096] 54)) (hne : r < q) (o : Obj) (a b c : Value) :
    ((((w1.alloc o).setCell ⟨r, 0, none⟩ a).setCell ⟨r, 1, none⟩ b).setCell ⟨r, 2, none⟩ c).heap[q]? = some (.cells #[.bool false, .int .i64 1, .int .i64 8, .int .i64 1, .int .i64 4096] 54) := by
  have hl : q < w1.heap.size := (Array.getElem?_eq_some_iff.1 h).1
  have h1 : (w1.alloc o).heap[q]? = some (.cells #[.bool false, .int .i64 1, .int .i64 8, .int .i64 1, .int .i64 4096] 54) := (((Below.refl w1.heap.size w1).alloc (Nat.le_refl _) o).block q hl).trans h
  have hl1 : q < (w1.alloc o).heap.size := (Array.getElem?_eq_some_iff.1 h1).1
  exact ((grown3 (w1.alloc o) r a b c).block q hl1 (by intro e; have := Option.some.inj e; omega)).trans h1
end Go.Proofs.YtmndjgmlndpgaaaDoor.Filt
