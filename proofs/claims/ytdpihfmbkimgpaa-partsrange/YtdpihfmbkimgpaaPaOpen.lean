/-
  A job as it is handed in.
-/
import Derived.Test.YtdpihfmbkimgpaaPaJob
import Derived.Test.YtdpihfmbkimgpaaPaStrs
import Derived.ChangeMaps5
import Derived.ShutString
import Derived.Deep.Strs
namespace Go.Proofs.Ytdpihfmbkimgpaa.Pa
open Go.ChangeShapes Go.WideShapes Go.ChangeAt Go.RowKit Go.ChangeMaps
open Go.Proofs.Ytdpihfmbkimgpaa.Base
set_option linter.unusedVariables false
theorem ten {α : Type} {cs : Array α} (h : cs.size = 10) : ∃ c0 c1 c2 c3 c4 c5 c6 c7 c8 c9, cs = #[c0, c1, c2, c3, c4, c5, c6, c7, c8, c9] := by
  obtain ⟨l⟩ := cs
  match l, h with
  | [c0, c1, c2, c3, c4, c5, c6, c7, c8, c9], _ => exact ⟨c0, c1, c2, c3, c4, c5, c6, c7, c8, c9, rfl⟩
theorem trod_struct8 {H : Type} {enc : TypeId × Value → H} {P : Program} {w : World} {base : Nat} {spare : Nat → Bool} {held : Bool} {t : TypeId} {f0 f1 f2 f3 f4 f5 f6 f7 : Field} {fuel : Nat} {cs : List Value} {x : DataW H × List MemPlace} (ht : P.underlying t = some (.struct #[f0, f1, f2, f3, f4, f5, f6, f7])) (h : DataW.trod enc P w base spare held fuel t cs = some x) :
    ∃ y0 y1 y2 y3 y4 y5 y6 y7 n, DataW.trod enc P w base spare held n f0.type ((cs.drop f0.offset).take (P.cellsOf f0.type)) = some y0 ∧ DataW.trod enc P w base spare held n f1.type ((cs.drop f1.offset).take (P.cellsOf f1.type)) = some y1 ∧ DataW.trod enc P w base spare held n f2.type ((cs.drop f2.offset).take (P.cellsOf f2.type)) = some y2 ∧ DataW.trod enc P w base spare held n f3.type ((cs.drop f3.offset).take (P.cellsOf f3.type)) = some y3 ∧ DataW.trod enc P w base spare held n f4.type ((cs.drop f4.offset).take (P.cellsOf f4.type)) = some y4 ∧ DataW.trod enc P w base spare held n f5.type ((cs.drop f5.offset).take (P.cellsOf f5.type)) = some y5 ∧ DataW.trod enc P w base spare held n f6.type ((cs.drop f6.offset).take (P.cellsOf f6.type)) = some y6 ∧ DataW.trod enc P w base spare held n f7.type ((cs.drop f7.offset).take (P.cellsOf f7.type)) = some y7 := by
  obtain ⟨xs, n, _, rfl, hl, hlen, hf⟩ := DataW.trod_struct ht h
  match xs, hlen with
  | [y0, y1, y2, y3, y4, y5, y6, y7], _ => exact ⟨y0, y1, y2, y3, y4, y5, y6, y7, n, by simpa using hf 0 f0 rfl, by simpa using hf 1 f1 rfl, by simpa using hf 2 f2 rfl, by simpa using hf 3 f3 rfl, by simpa using hf 4 f4 rfl, by simpa using hf 5 f5 rfl, by simpa using hf 6 f6 rfl, by simpa using hf 7 f7 rfl⟩
theorem trod_struct3 {H : Type} {enc : TypeId × Value → H} {P : Program} {w : World} {base : Nat} {spare : Nat → Bool} {held : Bool} {t : TypeId} {f0 f1 f2 : Field} {fuel : Nat} {cs : List Value} {x : DataW H × List MemPlace} (ht : P.underlying t = some (.struct #[f0, f1, f2])) (h : DataW.trod enc P w base spare held fuel t cs = some x) :
    ∃ y0 y1 y2 n, DataW.trod enc P w base spare held n f0.type ((cs.drop f0.offset).take (P.cellsOf f0.type)) = some y0 ∧ DataW.trod enc P w base spare held n f1.type ((cs.drop f1.offset).take (P.cellsOf f1.type)) = some y1 ∧ DataW.trod enc P w base spare held n f2.type ((cs.drop f2.offset).take (P.cellsOf f2.type)) = some y2 := by
  obtain ⟨xs, n, _, rfl, hl, hlen, hf⟩ := DataW.trod_struct ht h
  match xs, hlen with
  | [y0, y1, y2], _ => exact ⟨y0, y1, y2, n, by simpa using hf 0 f0 rfl, by simpa using hf 1 f1 rfl, by simpa using hf 2 f2 rfl⟩
theorem cells_int : Try.prog.cellsOf 3 = 1 := by kernel_rfl
theorem cells_bool : Try.prog.cellsOf 4 = 1 := by kernel_rfl
theorem cells_strs : Try.prog.cellsOf 24 = 1 := by kernel_rfl
theorem cells_shape : Try.prog.cellsOf 26 = 3 := by kernel_rfl
theorem cells_job : Try.prog.cellsOf 28 = 10 := by kernel_rfl
theorem open_job {H : Type} {enc : TypeId × Value → H} {W : World} {base : Nat} {spare : Nat → Bool} {held : Bool} {cs : Array Value} {d : DataW H} {p : List MemPlace} (hc : cs.size = Try.prog.cellsOf 28) (h : ∃ n, DataW.trod enc Try.prog W base spare held n 28 (Value.agg cs).cells.toList = some (d, p)) :
    ∃ (j : Jb) (n : Int) (a : Option Addr) (l c : Nat), Value.agg cs = j.val n a l c := by
  obtain ⟨c0, c1, c2, c3, c4, c5, c6, c7, c8, c9, rfl⟩ := ten (hc.trans cells_job)
  obtain ⟨fuel, hf⟩ := h
  obtain ⟨z0, z1, z2, z3, z4, z5, z6, z7, n, t0, t1, t2, t3, t4, t5, t6, t7⟩ := trod_struct8 Try.underlying28 hf
  simp only [cells_int, cells_bool, cells_strs, cells_shape, Value.cells] at t0 t1 t2 t3 t4 t5 t6 t7
  obtain ⟨o0, e0, _, _⟩ := DataW.trod_int Try.underlying3 t0
  obtain ⟨o1, e1, _, _⟩ := DataW.trod_int Try.underlying3 t1
  obtain ⟨o3, e3, _⟩ := DataW.trod_bool Try.underlying4 t3
  obtain ⟨o4, e4, _, _⟩ := DataW.trod_int Try.underlying3 t4
  obtain ⟨o5, e5, _, _⟩ := DataW.trod_int Try.underlying3 t5
  obtain ⟨o6, e6, _, _⟩ := DataW.trod_int Try.underlying3 t6
  have e2 : ∃ (a : Option Addr) (l c : Nat), c2 = .slice a l c := by
    rcases Deep.open_strs Try.underlying24 Try.underlying9 (by kernel_rfl) t2 with ⟨hcs, _⟩ | ⟨x, l, c, m, Sx, hcs, _⟩
    · simp at hcs; exact ⟨_, _, _, hcs⟩
    · simp at hcs; exact ⟨_, _, _, hcs⟩
  obtain ⟨a, l, c, rfl⟩ := e2
  obtain ⟨w0, w1, w2, m, s0, s1, s2⟩ := trod_struct3 Try.underlying26 t7
  simp only [cells_int] at s0 s1 s2
  obtain ⟨p0, f0, _, _⟩ := DataW.trod_int Try.underlying3 s0
  obtain ⟨p1, f1, _, _⟩ := DataW.trod_int Try.underlying3 s1
  obtain ⟨p2, f2, _, _⟩ := DataW.trod_int Try.underlying3 s2
  simp at e0 e1 e3 e4 e5 e6 f0 f1 f2
  refine ⟨⟨o0, o3, o4, o5, o6, p0, p1, p2⟩, o1, a, l, c, ?_⟩
  unfold Jb.val
  rw [e0, e1, e3, e4, e5, e6, f0, f1, f2]
end Go.Proofs.Ytdpihfmbkimgpaa.Pa
