/-
  An entry in a block of its own.
-/
import Derived.Test.YtbmbhcjocgbbpaaFaMayC
import Derived.Laws.Rows
namespace Go.Proofs.Ytbmbhcjocgbbpaa.Fa
open Go.ChangeShapes Go.WideShapes Go.ChangeAt Go.RowKit
open Go.Proofs.Ytbmbhcjocgbbpaa.Base
set_option linter.unusedVariables false
/-- The entry lies in the block p. -/
def FB (w : World) (p : Nat) (f : Flt) : Prop := w.heap[p]? = some (.cells #[.int .i64 f.k, .int .i64 f.j, .int .i64 f.t, .int .i64 f.a, .int .i64 f.m, .int .i64 f.r, .int .i64 f.p, .int .u32 (f.q.toNat : Int)] 25)
theorem FB.lt {w : World} {p : Nat} {f : Flt} (h : FB w p f) : p < w.heap.size := (Array.getElem?_eq_some_iff.1 h).1
theorem FB.below {w w' : World} {p : Nat} {f : Flt} (h : FB w p f) (hb : Below w.heap.size w w') : FB w' p f := (hb.block p h.lt).trans h
theorem FB.grown {w w' : World} {p : Nat} {f : Flt} {q : Option Nat} (h : FB w p f) (hb : w.grownBy w' q) (hne : q ≠ some p) : FB w' p f := (hb.block p h.lt (fun e => hne e.symm)).trans h
theorem FB.new (w : World) (f : Flt) : FB (w.alloc (.cells #[.int .i64 f.k, .int .i64 f.j, .int .i64 f.t, .int .i64 f.a, .int .i64 f.m, .int .i64 f.r, .int .i64 f.p, .int .u32 (f.q.toNat : Int)] 25)) w.heap.size f := heap_alloc_new _ _
theorem FB.fz {w : World} {p : Nat} {f : Flt} (h : FB w p f) (k : Nat) : w.frozen? ⟨p, k, none⟩ = false := frozen_of_row _ _ _ _ _ h
theorem FB.cells {w : World} {p : Nat} {f : Flt} (h : FB w p f) : w.cell? ⟨p, 0, none⟩ = some (.int .i64 f.k) ∧ w.cell? ⟨p, 1, none⟩ = some (.int .i64 f.j) ∧ w.cell? ⟨p, 2, none⟩ = some (.int .i64 f.t) ∧ w.cell? ⟨p, 3, none⟩ = some (.int .i64 f.a) ∧ w.cell? ⟨p, 4, none⟩ = some (.int .i64 f.m) ∧ w.cell? ⟨p, 5, none⟩ = some (.int .i64 f.r) ∧ w.cell? ⟨p, 6, none⟩ = some (.int .i64 f.p) ∧ w.cell? ⟨p, 7, none⟩ = some (.int .u32 (f.q.toNat : Int)) := by
  refine ⟨?_, ?_, ?_, ?_, ?_, ?_, ?_, ?_⟩ <;> (rw [cell_of_row _ _ _ _ _ _ h]; rfl)
end Go.Proofs.Ytbmbhcjocgbbpaa.Fa
