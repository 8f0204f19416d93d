/-
  Lines: all lines of a text, collected.
-/
import Derived.Test.YtckfjhgnmegbhabLnIter
import Derived.Test.YtckfjhgnmegbhabLnStr
namespace Go.Proofs.Ytckfjhgnmegbhab.Ln
open Go.ChangeShapes Go.WideShapes Go.ChangeAt Go.RowKit Go.Shelf
open Go.Proofs.Ytckfjhgnmegbhab.Base Go.Proofs.Ytckfjhgnmegbhab.Rg
set_option linter.unusedVariables false
attribute [local go_sem] Oper.semAt_some
/-- The lines from number a on, n of them. -/
def lns (T : ByteArray) (a n : Nat) : List ByteArray := (List.range n).map fun k => ln T (a + k)
theorem lns_len (T : ByteArray) (a n : Nat) : (lns T a n).length = n := by simp [lns]
theorem lns_succ (T : ByteArray) (a n : Nat) : lns T a (n + 1) = lns T a n ++ [ln T (a + n)] := by simp [lns, List.range_succ]
theorem below_put {w W : World} {D : Nat} {o : Obj} (hb : Below w.heap.size w W) (hD : w.heap.size ≤ D) : Below w.heap.size w (W.putObj D o) :=
  ⟨hb.os, hb.tape, hb.output, by simp; exact hb.size, fun k hk => (World.putObj_heap_other (by omega)).trans (hb.block k hk)⟩
theorem owns_put {W : World} {base j : Nat} {v : Value} {ss : List ByteArray} {o o' : Obj} (h : OwnS W base v ss) (hj : W.heap[j]? = some o) (ho : o.isCells = false) : OwnS (W.putObj j o') base v ss := ownsRow_putObj h o' hj ho
theorem boxed_put {W : World} {B j : Nat} {t : TypeId} {v : Value} {o o' : Obj} (h : Boxed W B t v) (hj : W.heap[j]? = some o) (ho : o.isCells = false) : Boxed (W.putObj j o') B t v := by
  refine (World.putObj_heap_other ?_).trans h
  rintro rfl
  rw [show W.heap[B]? = _ from h] at hj
  cases hj
  cases ho
/-- A block of another kind behind 'list = append(list, ..)', the list in the box B. -/
theorem kept_append {W w1 : World} {n₀ B c : Nat} {t e : TypeId} {size k : Nat} {v : Value} {xs : List Value} {tmp : Obj} {cs : Array Value} {fz : Nat × Nat} (hrow : W.ownsRow n₀ e size v k xs) (hgrow : (W.alloc tmp).grownBy w1 v.ownBlock)
    (hC : W.heap[c]? = some (.cells cs t fz)) (hte : t ≠ e) (hne : c ≠ B) (u : Value) : (w1.setCell ⟨B, 0, none⟩ u).heap[c]? = some (.cells cs t fz) := by
  have hlt : c < W.heap.size := (Array.getElem?_eq_some_iff.1 hC).1
  rw [Below.heap_setCell _ _ _ c hne]
  refine (hgrow.block c (by simp; omega) ?_).trans ((Below.heap_alloc W _ c hlt).trans hC)
  rcases hrow.2 with ⟨rfl, _⟩ | ⟨g, cap, cur, rfl, _, hgb, _⟩
  · simp [Value.ownBlock]
  · intro e'
    obtain rfl : c = g := by simpa [Value.ownBlock] using e'
    rw [hC] at hgb
    simp at hgb
    exact hte hgb.2.1
end Go.Proofs.Ytckfjhgnmegbhab.Ln
