/-
  Copies: bytes.Clone, and a filter's clone.
-/
import Derived.Test.YtmndjgmlndpgaaaDoorFiKind
import Derived.Lib.SliceRun
import Derived.Laws.ResultCell
import Derived.Laws.Rows
namespace Go.Proofs.YtmndjgmlndpgaaaDoor.Filt
open Go.ChangeShapes Go.WideShapes Go.ChangeAt Go.RowKit
open Go.Proofs.YtmndjgmlndpgaaaDoor.Base
set_option linter.unusedVariables false
/-- A filter lies in the block g. -/
def FB (w : World) (g : Nat) (A : Bool) (H : Int) (v : Value) : Prop := w.heap[g]? = some (.cells #[.bool A, .int .i64 H, v] 24)
theorem FB.lt {w : World} {g : Nat} {A : Bool} {H : Int} {v : Value} (h : FB w g A H v) : g < w.heap.size := (Array.getElem?_eq_some_iff.1 h).1
theorem FB.c0 {w : World} {g : Nat} {A : Bool} {H : Int} {v : Value} (h : FB w g A H v) : w.cell? ⟨g, 0, none⟩ = some (.bool A) := by rw [cell_of_row _ _ _ _ _ _ h]; rfl
theorem FB.c1 {w : World} {g : Nat} {A : Bool} {H : Int} {v : Value} (h : FB w g A H v) : w.cell? ⟨g, 1, none⟩ = some (.int .i64 H) := by rw [cell_of_row _ _ _ _ _ _ h]; rfl
theorem FB.c2 {w : World} {g : Nat} {A : Bool} {H : Int} {v : Value} (h : FB w g A H v) : w.cell? ⟨g, 2, none⟩ = some v := by rw [cell_of_row _ _ _ _ _ _ h]; rfl
theorem FB.fz {w : World} {g : Nat} {A : Bool} {H : Int} {v : Value} (h : FB w g A H v) (k : Nat) : w.frozen? ⟨g, k, none⟩ = false := frozen_of_row _ _ _ _ _ h
theorem FB.new (w : World) (A : Bool) (H : Int) (v : Value) : FB (w.alloc (.cells #[.bool A, .int .i64 H, v] 24)) w.heap.size A H v := heap_alloc_new _ _
theorem FB.below {w w' : World} {g : Nat} {A : Bool} {H : Int} {v : Value} (h : FB w g A H v) (hb : Below w.heap.size w w') : FB w' g A H v := (hb.block g h.lt).trans h
theorem FB.grown {w w' : World} {g : Nat} {A : Bool} {H : Int} {v : Value} {q : Option Nat} (h : FB w g A H v) (hb : w.grownBy w' q) (hne : q ≠ some g) : FB w' g A H v := (hb.block g h.lt (fun e => hne e.symm)).trans h
theorem FB.set2 {w : World} {g : Nat} {A : Bool} {H : Int} {v : Value} (h : FB w g A H v) (u : Value) : FB (w.setCell ⟨g, 2, none⟩ u) g A H u := by
  unfold FB
  rw [heap_setCell_same _ _ 2 _ _ _ h]; rfl
theorem FB.set3 {w : World} {g : Nat} {A : Bool} {H : Int} {v : Value} (h : FB w g A H v) (A' : Bool) (H' : Int) (u : Value) : FB (((w.setCell ⟨g, 0, none⟩ (.bool A')).setCell ⟨g, 1, none⟩ (.int .i64 H')).setCell ⟨g, 2, none⟩ u) g A' H' u := by
  unfold FB
  rw [heap_setCell_same _ _ 2 _ _ _ (heap_setCell_same _ _ 1 _ _ _ (heap_setCell_same _ _ 0 _ _ _ h))]; rfl
theorem fb_ret {fn : Func} {p : Tmp} (h : fn.results = #[.cell p 24]) (tmps : Array Value) (w : World) (g : Nat) (A : Bool) (H : Int) (v : Value) (hp : tmps.getD p undef = .pointer (some ⟨g, 0, none⟩)) (hf : FB w g A H v) :
    (results fn tmps).run Tryd.prog w = .ok (.agg #[.bool A, .int .i64 H, v]) w :=
  results_cell_row h tmps w g 24 _ (0, 0) _ hp hf Tryd.underlying24 rfl (by kernel_rfl)
theorem fb_ret2 {fn : Func} {p u : Tmp} (h : fn.results = #[.cell p 24, .tmp u]) (tmps : Array Value) (w : World) (g : Nat) (A : Bool) (H : Int) (v : Value) (hp : tmps.getD p undef = .pointer (some ⟨g, 0, none⟩)) (hf : FB w g A H v) :
    (results fn tmps).run Tryd.prog w = .ok (.tuple #[.agg #[.bool A, .int .i64 H, v], tmps.getD u undef]) w := by
  rw [results_cell_tmp h, hp]
  simp [asAddr, run_loadVar_row w g 24 24 _ (0, 0) _ hf Tryd.underlying24 rfl (by kernel_rfl)]
theorem grown3 (w : World) (g : Nat) (a b c : Value) : w.grownBy (((w.setCell ⟨g, 0, none⟩ a).setCell ⟨g, 1, none⟩ b).setCell ⟨g, 2, none⟩ c) (some g) :=
  grown_cell (grown_cell (grown_cell (World.grownBy.refl _ _) _ _) _ _) _ _
theorem below3 {B : Nat} {w0 w : World} (h : Below B w0 w) {g : Nat} (hg : B ≤ g) (a b c : Value) : Below B w0 (((w.setCell ⟨g, 0, none⟩ a).setCell ⟨g, 1, none⟩ b).setCell ⟨g, 2, none⟩ c) :=
  ((h.setCell hg _).setCell hg _).setCell hg _
end Go.Proofs.YtmndjgmlndpgaaaDoor.Filt
