/-
  What the listed variables hold: the tables' cells.
-/
import Derived.Test.YtmndjgmlndpgaaaDoorFiJoin
import Derived.Test.YtmndjgmlndpgaaaDoorRows
import Derived.ProofKit
import Derived.LaidMore
import Derived.OpenShut
import Derived.Stop.Joined
namespace Go.Proofs.YtmndjgmlndpgaaaDoor.Filt
open Go.ChangeShapes Go.WideShapes Go.ChangeAt Go.RowKit
open Go.Proofs.YtmndjgmlndpgaaaDoor.Base
set_option linter.unusedVariables false
section
variable {H : Type} {enc : TypeId × Value → H} {w : World} {base : Nat} {spare : Nat → Bool} {held : Bool} {fuel : Nat}
theorem at_take {cs : List Value} {o : Nat} {v : Value} (h : (cs.drop o).take 1 = [v]) : cs[o]? = some v := by
  have := congrArg (fun l : List Value => l[0]?) h
  simpa using this
theorem int_cell {cs : List Value} {o : Nat} {n : Int} {x : Option (DataW H × List MemPlace)} {ps : List MemPlace} (h : DataW.trod enc Tryd.prog w base spare held fuel 3 ((cs.drop o).take 1) = x) (hx : x = some (.lit (.int .i64 n), ps)) : cs[o]? = some (.int .i64 n) := by
  subst hx
  obtain ⟨m, e1, e2, _⟩ := DataW.trod_int Tryd.underlying3 h
  simp only [Prod.mk.injEq, DataW.lit.injEq, Lit.int.injEq, true_and] at e2
  rw [e2.1]
  exact at_take e1
theorem bool_cell {cs : List Value} {o : Nat} {n : Bool} {x : Option (DataW H × List MemPlace)} {ps : List MemPlace} (h : DataW.trod enc Tryd.prog w base spare held fuel 4 ((cs.drop o).take 1) = x) (hx : x = some (.lit (.bool n), ps)) : cs[o]? = some (.bool n) := by
  subst hx
  obtain ⟨m, e1, e2⟩ := DataW.trod_bool Tryd.underlying4 h
  simp only [Prod.mk.injEq, DataW.lit.injEq, Lit.bool.injEq] at e2
  rw [e2.1]
  exact at_take e1
end
theorem c_int : Tryd.prog.cellsOf 3 = 1 := by kernel_rfl
theorem c_bool : Tryd.prog.cellsOf 4 = 1 := by kernel_rfl
theorem c_row : Tryd.prog.cellsOf 54 = 5 := by kernel_rfl
theorem sub_cell {cs : List Value} {o m j : Nat} (hj : j < m) : ((cs.drop o).take m)[j]? = cs[o + j]? := by
  rw [List.getElem?_take, if_pos hj, List.getElem?_drop]
section
variable {H : Type} {enc : TypeId × Value → H} {w : World} {base : Nat} {spare : Nat → Bool} {held : Bool} {fuel : Nat}
theorem row5 {cs : List Value} {b : Bool} {n1 n2 n3 n4 : Int} {x : Option (DataW H × List MemPlace)} {ps : List MemPlace} (h : DataW.trod enc Tryd.prog w base spare held fuel 54 cs = x) (hx : x = some (.agg [.lit (.bool b), .lit (.int .i64 n1), .lit (.int .i64 n2), .lit (.int .i64 n3), .lit (.int .i64 n4)], ps)) :
    cs[0]? = some (.bool b) ∧ cs[1]? = some (.int .i64 n1) ∧ cs[2]? = some (.int .i64 n2) ∧ cs[3]? = some (.int .i64 n3) ∧ cs[4]? = some (.int .i64 n4) := by
  subst hx
  obtain ⟨xs, n, _, hxx, hl, hlen, hf⟩ := DataW.trod_struct Tryd.underlying54 h
  match xs, hlen with
  | [y0, y1, y2, y3, y4], _ =>
    simp only [Prod.mk.injEq, DataW.agg.injEq, List.map_cons, List.map_nil, List.cons.injEq, and_true] at hxx
    obtain ⟨⟨e0, e1, e2, e3, e4⟩, _⟩ := hxx
    have g0 := hf 0 _ rfl
    have g1 := hf 1 _ rfl
    have g2 := hf 2 _ rfl
    have g3 := hf 3 _ rfl
    have g4 := hf 4 _ rfl
    simp only [List.getElem?_cons_zero, List.getElem?_cons_succ] at g0 g1 g2 g3 g4
    exact ⟨bool_cell (o := 0) g0 (ps := y0.2) (by rw [e0]), int_cell (o := 1) g1 (ps := y1.2) (by rw [e1]), int_cell (o := 2) g2 (ps := y2.2) (by rw [e2]), int_cell (o := 3) g3 (ps := y3.2) (by rw [e3]), int_cell (o := 4) g4 (ps := y4.2) (by rw [e4])⟩
end
theorem kinds_cells {enc : TypeId × Value → Unit} {w : World} {base : Nat} {spare : Nat → Bool} {held : Bool} {fuel : Nat} {cs : List Value} {ps : List MemPlace} (h : DataW.trod enc Tryd.prog w base spare held fuel 55 cs = some (Rows.laid_winnow_filter_kinds, ps)) : ∀ i, i < 15 → cs[i]? = kcells[i]? := by
  obtain ⟨xs, n, _, hxx, hl, hlen, hf⟩ := DataW.trod_array Tryd.underlying55 h
  match xs, hlen with
  | [y0, y1, y2], _ =>
    unfold Rows.laid_winnow_filter_kinds at hxx
    simp only [Prod.mk.injEq, DataW.agg.injEq, List.map_cons, List.map_nil, List.cons.injEq, and_true] at hxx
    obtain ⟨⟨e0, e1, e2⟩, _⟩ := hxx
    have g0 := hf 0 (by omega)
    have g1 := hf 1 (by omega)
    have g2 := hf 2 (by omega)
    simp only [c_row, List.getElem?_cons_zero, List.getElem?_cons_succ] at g0 g1 g2
    obtain ⟨a0, a1, a2, a3, a4⟩ := row5 g0 (ps := y0.2) (by rw [e0])
    obtain ⟨b0, b1, b2, b3, b4⟩ := row5 g1 (ps := y1.2) (by rw [e1])
    obtain ⟨c0, c1, c2, c3, c4⟩ := row5 g2 (ps := y2.2) (by rw [e2])
    rw [sub_cell (by omega)] at a0 a1 a2 a3 a4 b0 b1 b2 b3 b4 c0 c1 c2 c3 c4
    intro i hi
    match i, hi with
    | 0, _ => exact a0
    | 1, _ => exact a1
    | 2, _ => exact a2
    | 3, _ => exact a3
    | 4, _ => exact a4
    | 5, _ => exact b0
    | 6, _ => exact b1
    | 7, _ => exact b2
    | 8, _ => exact b3
    | 9, _ => exact b4
    | 10, _ => exact c0
    | 11, _ => exact c1
    | 12, _ => exact c2
    | 13, _ => exact c3
    | 14, _ => exact c4
theorem gKinds : Tryd.prog.globalNamed "winnow/filter.kinds" = some 0 := by kernel_rfl
theorem tKinds : (Tryd.prog.globals[0]?).map (·.type) = some 55 := by kernel_rfl
end Go.Proofs.YtmndjgmlndpgaaaDoor.Filt
