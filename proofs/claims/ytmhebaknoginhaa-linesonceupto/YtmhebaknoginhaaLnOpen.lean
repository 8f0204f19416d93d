/-
  Pieces and splits as they are handed in; texts of little bulk.
-/
import Derived.Test.YtmhebaknoginhaaBulk
import Derived.Test.YtmhebaknoginhaaBase
import Derived.ChangeMaps5
import Derived.ShutString
import Derived.Deep.Strs
namespace Go.Proofs.Ytmhebaknoginhaa.Ln
open Go.ChangeShapes Go.WideShapes Go.ChangeAt Go.RowKit Go.ChangeMaps
open Go.Proofs.Ytmhebaknoginhaa.Base
set_option linter.unusedVariables false
theorem text_small {H : Type} {s : ByteArray} {l : List (DataW H)} (h : (.lit (.string s.data.toList) : DataW H) ∈ l) (hk : Rows.uptoSmall H l = true) : s.size ≤ 1048576 := by
  have hb : Rows.uptoBulkAll l ≤ 1048576 := of_decide_eq_true hk
  have h1 := Bulk.member h
  simp only [Rows.uptoBulk, Array.length_toList] at h1
  have : s.size = s.data.size := rfl
  omega
theorem trod_struct2 {H : Type} {enc : TypeId × Value → H} {P : Program} {w : World} {base : Nat} {spare : Nat → Bool} {held : Bool} {t : TypeId} {f0 f1 : Field} {fuel : Nat} {cs : List Value} {x : DataW H × List MemPlace} (ht : P.underlying t = some (.struct #[f0, f1])) (h : DataW.trod enc P w base spare held fuel t cs = some x) :
    ∃ y0 y1 n, x.1 = .agg [y0.1, y1.1] ∧ DataW.trod enc P w base spare held n f0.type ((cs.drop f0.offset).take (P.cellsOf f0.type)) = some y0 ∧ DataW.trod enc P w base spare held n f1.type ((cs.drop f1.offset).take (P.cellsOf f1.type)) = some y1 := by
  obtain ⟨xs, n, _, rfl, hl, hlen, hf⟩ := DataW.trod_struct ht h
  match xs, hlen with
  | [y0, y1], _ => exact ⟨y0, y1, n, by simp, by simpa using hf 0 f0 rfl, by simpa using hf 1 f1 rfl⟩
theorem two {α : Type} {cs : Array α} (h : cs.size = 2) : ∃ c0 c1, cs = #[c0, c1] := by
  obtain ⟨l⟩ := cs
  match l, h with
  | [c0, c1], _ => exact ⟨c0, c1, rfl⟩
theorem cells_int : Try.prog.cellsOf 3 = 1 := by kernel_rfl
theorem cells_int64 : Try.prog.cellsOf 2 = 1 := by kernel_rfl
theorem cells_str : Try.prog.cellsOf 9 = 1 := by kernel_rfl
theorem cells_piece : Try.prog.cellsOf 33 = 2 := by kernel_rfl
theorem cells_split : Try.prog.cellsOf 23 = 2 := by kernel_rfl
theorem open_piece {H : Type} {enc : TypeId × Value → H} {W : World} {base : Nat} {spare : Nat → Bool} {held : Bool} {cs : Array Value} {d : DataW H} {p : List MemPlace} (hc : cs.size = Try.prog.cellsOf 33) (h : ∃ n, DataW.trod enc Try.prog W base spare held n 33 (Value.agg cs).cells.toList = some (d, p)) :
    ∃ f t : Int, Value.agg cs = .agg #[.int .i64 f, .int .i64 t] := by
  obtain ⟨c0, c1, rfl⟩ := two (hc.trans cells_piece)
  obtain ⟨fuel, hf⟩ := h
  obtain ⟨y0, y1, n, hx, t0, t1⟩ := trod_struct2 Try.underlying33 hf
  simp only [cells_int, Value.cells] at t0 t1
  obtain ⟨o, e0, _, _⟩ := DataW.trod_int Try.underlying3 t0
  obtain ⟨u, e1, _, _⟩ := DataW.trod_int Try.underlying3 t1
  simp at e0 e1
  exact ⟨o, u, by rw [e0, e1]⟩
theorem open_split {H : Type} {enc : TypeId × Value → H} {W : World} {base : Nat} {spare : Nat → Bool} {held : Bool} {cs : Array Value} {d : DataW H} {p : List MemPlace} {l : List (DataW H)} (hc : cs.size = Try.prog.cellsOf 23) (h : ∃ n, DataW.trod enc Try.prog W base spare held n 23 (Value.agg cs).cells.toList = some (d, p)) (hm : d ∈ l) (hk : Rows.uptoSmall H l = true) :
    ∃ (f : Int) (t : ByteArray), Value.agg cs = .agg #[.int .i64 f, .string t] ∧ t.size ≤ 1048576 := by
  obtain ⟨c0, c1, rfl⟩ := two (hc.trans cells_split)
  obtain ⟨fuel, hf⟩ := h
  obtain ⟨y0, y1, n, hx, t0, t1⟩ := trod_struct2 Try.underlying23 hf
  simp only [cells_int64, cells_str, Value.cells] at t0 t1
  obtain ⟨o, e0, _, _⟩ := DataW.trod_int Try.underlying2 t0
  obtain ⟨u, e1, g1, _⟩ := DataW.trod_string Try.underlying9 t1
  simp at e0 e1
  refine ⟨o, u, by rw [e0, e1], ?_⟩
  have hb : Rows.uptoBulkAll l ≤ 1048576 := of_decide_eq_true hk
  have h1 := Bulk.member hm
  simp only at hx
  rw [hx, g1] at h1
  simp only [Rows.uptoBulk, Rows.uptoBulkAll, Array.length_toList] at h1
  have : u.size = u.data.size := rfl
  omega
end Go.Proofs.Ytmhebaknoginhaa.Ln
