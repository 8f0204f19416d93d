/-
  What a plan leans on: a copy of entries; which entries are asked for.
-/
import Derived.Test.YtbmbhcjocgbbpabFaChk
import Derived.Test.YtbmbhcjocgbbpabFaBlk
import Derived.Lib.SliceRun
namespace Go.Proofs.Ytbmbhcjocgbbpab.Fa
open Go.ChangeShapes Go.WideShapes Go.ChangeAt Go.RowKit
open Go.Proofs.Ytbmbhcjocgbbpab.Base
set_option linter.unusedVariables false
theorem placeOf_agg (f : Flt) (w : World) :
    Calls Try.prog 29 #[f.val] w fun e w' => e = .returned (.agg #[.int .i64 f.k, .int .i64 f.j, .int .i64 f.t, .int .i64 f.a]) ∧ Below w.heap.size w w' := placeOf_any f w
/-- Is the entry the stop that is asked for? -/
def isStop (x : P4) (f : Flt) : Bool := decide (plc f = x)
theorem PB.cells {w : World} {g : Nat} {x : P4} (h : PB w g x) : w.cell? ⟨g, 0, none⟩ = some (.int .i64 x.1) ∧ w.cell? ⟨g, 1, none⟩ = some (.int .i64 x.2.1) ∧ w.cell? ⟨g, 2, none⟩ = some (.int .i64 x.2.2.1) ∧ w.cell? ⟨g, 3, none⟩ = some (.int .i64 x.2.2.2) := by
  refine ⟨?_, ?_, ?_, ?_⟩ <;> (rw [cell_of_row _ _ _ _ _ _ h]; rfl)
theorem PB.lt {w : World} {g : Nat} {x : P4} (h : PB w g x) : g < w.heap.size := (Array.getElem?_eq_some_iff.1 h).1
theorem PB.below {w w' : World} {g : Nat} {x : P4} (h : PB w g x) (hb : Below w.heap.size w w') : PB w' g x := (hb.block g h.lt).trans h
theorem isStop_eq (x : P4) (f : Flt) : isStop x f = (f.k == x.1 && (f.j == x.2.1 && (f.t == x.2.2.1 && f.a == x.2.2.2))) := by
  obtain ⟨a, b, c, d⟩ := x
  unfold isStop plc
  by_cases h1 : f.k = a <;> by_cases h2 : f.j = b <;> by_cases h3 : f.t = c <;> by_cases h4 : f.a = d <;> simp [h1, h2, h3, h4]
theorem four_cases (a b c d x y z u : Int) (B : Bool) (hB : B = (a == x && (b == y && (c == z && d == u)))) : ((a == x) = false ∧ B = false) ∨ ((a == x) = true ∧ (b == y) = false ∧ B = false) ∨ ((a == x) = true ∧ (b == y) = true ∧ (c == z) = false ∧ B = false) ∨ ((a == x) = true ∧ (b == y) = true ∧ (c == z) = true ∧ (d == u) = false ∧ B = false) ∨ ((a == x) = true ∧ (b == y) = true ∧ (c == z) = true ∧ (d == u) = true ∧ B = true) := by
  subst hB
  by_cases h1 : a = x <;> by_cases h2 : b = y <;> by_cases h3 : c = z <;> by_cases h4 : d = u <;> simp [h1, h2, h3, h4]
end Go.Proofs.Ytbmbhcjocgbbpab.Fa
