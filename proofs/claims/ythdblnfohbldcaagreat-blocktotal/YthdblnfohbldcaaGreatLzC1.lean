/-
  What the program tells of a token: whether it is right, its text, its bytes.
-/
import Derived.Test.YthdblnfohbldcaaGreatLzTok
import Derived.Test.YthdblnfohbldcaaGreatNumsGetC
import Derived.Test.YthdblnfohbldcaaGreatBase2
namespace Go.Proofs.YthdblnfohbldcaaGreat.Lz
open Go.ChangeShapes Go.WideShapes Go.ChangeAt Go.RowKit
open Go.Proofs.YthdblnfohbldcaaGreat.Base Go.Proofs.YthdblnfohbldcaaGreat.Nums
set_option linter.unusedVariables false
/-- A token as a value. -/
def tokV (a : Option Addr) (n c : Nat) (d l : Int) : Value := .agg #[.slice a n c, .int .i64 d, .int .i64 l]
/-- A token in a block of its own. -/
def TRow (w : World) (g : Nat) (v : Value) (d l : Int) : Prop := w.heap[g]? = some (.cells #[v, .int .i64 d, .int .i64 l] 74)
theorem TRow.c0 {w : World} {g : Nat} {v : Value} {p e : Int} (h : TRow w g v p e) : w.cell? ⟨g, 0, none⟩ = some v := by rw [cell_of_row _ _ _ _ _ _ h]; rfl
theorem TRow.c1 {w : World} {g : Nat} {v : Value} {p e : Int} (h : TRow w g v p e) : w.cell? ⟨g, 1, none⟩ = some (.int .i64 p) := by rw [cell_of_row _ _ _ _ _ _ h]; rfl
theorem TRow.c2 {w : World} {g : Nat} {v : Value} {p e : Int} (h : TRow w g v p e) : w.cell? ⟨g, 2, none⟩ = some (.int .i64 e) := by rw [cell_of_row _ _ _ _ _ _ h]; rfl
theorem TRow.fr {w : World} {g : Nat} {v : Value} {p e : Int} (h : TRow w g v p e) (k : Nat) : w.frozen? ⟨g, k, none⟩ = false := frozen_of_row _ _ _ _ _ h
theorem TRow.lt {w : World} {g : Nat} {v : Value} {p e : Int} (h : TRow w g v p e) : g < w.heap.size := block_lt_of_cell h.c0
theorem TRow.grown {w w' : World} {g : Nat} {v : Value} {p e : Int} {r : Option Nat} (h : TRow w g v p e) (hg : w.grownBy w' r) (hr : r ≠ some g) : TRow w' g v p e := by
  unfold TRow; rw [hg.block g h.lt (fun x => hr x.symm)]; exact h
theorem TRow.below {w w' : World} {g : Nat} {v : Value} {p e : Int} (h : TRow w g v p e) (hb : Below w.heap.size w w') : TRow w' g v p e := h.grown (below_grown hb) (by simp)
theorem TRow.new (w : World) (v : Value) (d l : Int) : TRow (w.alloc (.cells #[v, .int .i64 d, .int .i64 l] 74)) w.heap.size v d l := heap_alloc_new _ _
set_option maxRecDepth 100000 in
theorem isNone_any (a : Option Addr) (n c : Nat) (d l : Int) (w : World) :
    Calls Tryz.prog 95 #[.agg #[.slice a n c, .int .i64 d, .int .i64 l]] w fun e w' => e = .returned (.bool (decide (d = 0 ∧ l = 0))) ∧ Below w.heap.size w w' := by
  have HB : Hid (Below w.heap.size w (w.alloc (.cells #[.slice a n c, .int .i64 d, .int .i64 l] 74))) := (Below.refl _ _).alloc (Nat.le_refl _) _
  by_cases h1 : d = 0
  · subst h1
    by_cases h2 : l = 0
    · subst h2
      go_enter Tryz.func95, Tryz.ntmps95
      go_wp2
      go_ret
      exact ⟨ret_bool (by simp), HB.out⟩
    · have h3 : (l == 0) = false := by rw [beq_eq_false_iff_ne]; exact h2
      go_enter Tryz.func95, Tryz.ntmps95
      go_wp2
      go_ret
      exact ⟨ret_bool (by simp [h2]), HB.out⟩
  · have h3 : (d == 0) = false := by rw [beq_eq_false_iff_ne]; exact h1
    go_enter Tryz.func95, Tryz.ntmps95
    go_wp2
    go_ret
    exact ⟨ret_bool (by simp [h1]), HB.out⟩
end Go.Proofs.YthdblnfohbldcaaGreat.Lz
