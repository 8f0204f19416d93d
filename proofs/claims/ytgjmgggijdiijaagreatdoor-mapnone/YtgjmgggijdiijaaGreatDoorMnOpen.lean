/-
  What is handed in to MapNone: a call's job, task, attempt, split and stop.
-/
import Derived.Test.YtgjmgggijdiijaaGreatDoorBase
import Derived.ChangeMaps5
import Derived.ShutString
import Derived.Deep.Strs
namespace Go.Proofs.YtgjmgggijdiijaaGreatDoor.mapNone
open Go.ChangeShapes Go.WideShapes Go.ChangeAt Go.RowKit Go.ChangeMaps
open Go.Proofs.YtgjmgggijdiijaaGreatDoor.Base
set_option linter.unusedVariables false
/-- A call: its numbers and texts. -/
structure Tr where
  out : ByteArray
  k : Int
  n : Int
  a : Option Addr
  l : Nat
  c : Nat
  cb : Bool
  bu : Int
  fa : Int
  tr : Int
  s0 : Int
  s1 : Int
  s2 : Int
  task : Int
  att : Int
  off : Int
  text : ByteArray
  pos : Int
  st : Bool
def Tr.job (t : Tr) : Value := .agg #[.int .i64 t.k, .int .i64 t.n, .slice t.a t.l t.c, .bool t.cb, .int .i64 t.bu, .int .i64 t.fa, .int .i64 t.tr, .int .i64 t.s0, .int .i64 t.s1, .int .i64 t.s2]
def Tr.val (t : Tr) : Value := .agg #[.string t.out, .int .i64 t.k, .int .i64 t.n, .slice t.a t.l t.c, .bool t.cb, .int .i64 t.bu, .int .i64 t.fa, .int .i64 t.tr, .int .i64 t.s0, .int .i64 t.s1, .int .i64 t.s2, .int .i64 t.task, .int .i64 t.att, .int .i64 t.off, .string t.text, .int .i64 t.pos, .bool t.st]
theorem seventeen {α : Type} {cs : Array α} (h : cs.size = 17) : ∃ c0 c1 c2 c3 c4 c5 c6 c7 c8 c9 d0 d1 d2 d3 d4 d5 d6, cs = #[c0, c1, c2, c3, c4, c5, c6, c7, c8, c9, d0, d1, d2, d3, d4, d5, d6] := by
  obtain ⟨l⟩ := cs
  match l, h with
  | [c0, c1, c2, c3, c4, c5, c6, c7, c8, c9, d0, d1, d2, d3, d4, d5, d6], _ => exact ⟨c0, c1, c2, c3, c4, c5, c6, c7, c8, c9, d0, d1, d2, d3, d4, d5, d6, rfl⟩
theorem trod_struct8 {H : Type} {enc : TypeId × Value → H} {P : Program} {w : World} {base : Nat} {spare : Nat → Bool} {held : Bool} {t : TypeId} {f0 f1 f2 f3 f4 f5 f6 f7 : Field} {fuel : Nat} {cs : List Value} {x : DataW H × List MemPlace} (ht : P.underlying t = some (.struct #[f0, f1, f2, f3, f4, f5, f6, f7])) (h : DataW.trod enc P w base spare held fuel t cs = some x) :
    ∃ y0 y1 y2 y3 y4 y5 y6 y7 n, DataW.trod enc P w base spare held n f0.type ((cs.drop f0.offset).take (P.cellsOf f0.type)) = some y0 ∧ DataW.trod enc P w base spare held n f1.type ((cs.drop f1.offset).take (P.cellsOf f1.type)) = some y1 ∧ DataW.trod enc P w base spare held n f2.type ((cs.drop f2.offset).take (P.cellsOf f2.type)) = some y2 ∧ DataW.trod enc P w base spare held n f3.type ((cs.drop f3.offset).take (P.cellsOf f3.type)) = some y3 ∧ DataW.trod enc P w base spare held n f4.type ((cs.drop f4.offset).take (P.cellsOf f4.type)) = some y4 ∧ DataW.trod enc P w base spare held n f5.type ((cs.drop f5.offset).take (P.cellsOf f5.type)) = some y5 ∧ DataW.trod enc P w base spare held n f6.type ((cs.drop f6.offset).take (P.cellsOf f6.type)) = some y6 ∧ DataW.trod enc P w base spare held n f7.type ((cs.drop f7.offset).take (P.cellsOf f7.type)) = some y7 := by
  obtain ⟨xs, n, _, rfl, hl, hlen, hf⟩ := DataW.trod_struct ht h
  match xs, hlen with
  | [y0, y1, y2, y3, y4, y5, y6, y7], _ => exact ⟨y0, y1, y2, y3, y4, y5, y6, y7, n, by simpa using hf 0 f0 rfl, by simpa using hf 1 f1 rfl, by simpa using hf 2 f2 rfl, by simpa using hf 3 f3 rfl, by simpa using hf 4 f4 rfl, by simpa using hf 5 f5 rfl, by simpa using hf 6 f6 rfl, by simpa using hf 7 f7 rfl⟩
theorem trod_struct7 {H : Type} {enc : TypeId × Value → H} {P : Program} {w : World} {base : Nat} {spare : Nat → Bool} {held : Bool} {t : TypeId} {f0 f1 f2 f3 f4 f5 f6 : Field} {fuel : Nat} {cs : List Value} {x : DataW H × List MemPlace} (ht : P.underlying t = some (.struct #[f0, f1, f2, f3, f4, f5, f6])) (h : DataW.trod enc P w base spare held fuel t cs = some x) :
    ∃ y0 y1 y2 y3 y4 y5 y6 n, x.1 = .agg [y0.1, y1.1, y2.1, y3.1, y4.1, y5.1, y6.1] ∧ DataW.trod enc P w base spare held n f0.type ((cs.drop f0.offset).take (P.cellsOf f0.type)) = some y0 ∧ DataW.trod enc P w base spare held n f1.type ((cs.drop f1.offset).take (P.cellsOf f1.type)) = some y1 ∧ DataW.trod enc P w base spare held n f2.type ((cs.drop f2.offset).take (P.cellsOf f2.type)) = some y2 ∧ DataW.trod enc P w base spare held n f3.type ((cs.drop f3.offset).take (P.cellsOf f3.type)) = some y3 ∧ DataW.trod enc P w base spare held n f4.type ((cs.drop f4.offset).take (P.cellsOf f4.type)) = some y4 ∧ DataW.trod enc P w base spare held n f5.type ((cs.drop f5.offset).take (P.cellsOf f5.type)) = some y5 ∧ DataW.trod enc P w base spare held n f6.type ((cs.drop f6.offset).take (P.cellsOf f6.type)) = some y6 := by
  obtain ⟨xs, n, _, rfl, hl, hlen, hf⟩ := DataW.trod_struct ht h
  match xs, hlen with
  | [y0, y1, y2, y3, y4, y5, y6], _ => exact ⟨y0, y1, y2, y3, y4, y5, y6, n, by simp, by simpa using hf 0 f0 rfl, by simpa using hf 1 f1 rfl, by simpa using hf 2 f2 rfl, by simpa using hf 3 f3 rfl, by simpa using hf 4 f4 rfl, by simpa using hf 5 f5 rfl, by simpa using hf 6 f6 rfl⟩
theorem trod_struct3 {H : Type} {enc : TypeId × Value → H} {P : Program} {w : World} {base : Nat} {spare : Nat → Bool} {held : Bool} {t : TypeId} {f0 f1 f2 : Field} {fuel : Nat} {cs : List Value} {x : DataW H × List MemPlace} (ht : P.underlying t = some (.struct #[f0, f1, f2])) (h : DataW.trod enc P w base spare held fuel t cs = some x) :
    ∃ y0 y1 y2 n, DataW.trod enc P w base spare held n f0.type ((cs.drop f0.offset).take (P.cellsOf f0.type)) = some y0 ∧ DataW.trod enc P w base spare held n f1.type ((cs.drop f1.offset).take (P.cellsOf f1.type)) = some y1 ∧ DataW.trod enc P w base spare held n f2.type ((cs.drop f2.offset).take (P.cellsOf f2.type)) = some y2 := by
  obtain ⟨xs, n, _, rfl, hl, hlen, hf⟩ := DataW.trod_struct ht h
  match xs, hlen with
  | [y0, y1, y2], _ => exact ⟨y0, y1, y2, n, by simpa using hf 0 f0 rfl, by simpa using hf 1 f1 rfl, by simpa using hf 2 f2 rfl⟩
theorem trod_struct2 {H : Type} {enc : TypeId × Value → H} {P : Program} {w : World} {base : Nat} {spare : Nat → Bool} {held : Bool} {t : TypeId} {f0 f1 : Field} {fuel : Nat} {cs : List Value} {x : DataW H × List MemPlace} (ht : P.underlying t = some (.struct #[f0, f1])) (h : DataW.trod enc P w base spare held fuel t cs = some x) :
    ∃ y0 y1 n, DataW.trod enc P w base spare held n f0.type ((cs.drop f0.offset).take (P.cellsOf f0.type)) = some y0 ∧ DataW.trod enc P w base spare held n f1.type ((cs.drop f1.offset).take (P.cellsOf f1.type)) = some y1 := by
  obtain ⟨xs, n, _, rfl, hl, hlen, hf⟩ := DataW.trod_struct ht h
  match xs, hlen with
  | [y0, y1], _ => exact ⟨y0, y1, n, by simpa using hf 0 f0 rfl, by simpa using hf 1 f1 rfl⟩
theorem cells_int : Tryz.prog.cellsOf 3 = 1 := by kernel_rfl
theorem cells_i64 : Tryz.prog.cellsOf 2 = 1 := by kernel_rfl
theorem cells_bool : Tryz.prog.cellsOf 4 = 1 := by kernel_rfl
theorem cells_str : Tryz.prog.cellsOf 9 = 1 := by kernel_rfl
theorem cells_strs : Tryz.prog.cellsOf 22 = 1 := by kernel_rfl
theorem cells_shape : Tryz.prog.cellsOf 24 = 3 := by kernel_rfl
theorem cells_split : Tryz.prog.cellsOf 28 = 2 := by kernel_rfl
theorem cells_job : Tryz.prog.cellsOf 26 = 10 := by kernel_rfl
theorem cells_try : Tryz.prog.cellsOf 30 = 17 := by kernel_rfl
set_option maxHeartbeats 1000000 in
theorem open_try {H : Type} {enc : TypeId × Value → H} {W : World} {base : Nat} {spare : Nat → Bool} {held : Bool} {cs : Array Value} {d : DataW H} {p : List MemPlace} (hc : cs.size = Tryz.prog.cellsOf 30) (h : ∃ n, DataW.trod enc Tryz.prog W base spare held n 30 (Value.agg cs).cells.toList = some (d, p)) :
    ∃ t : Tr, Value.agg cs = t.val ∧ (Lit.int .i64 t.task).wf = true ∧ (Lit.int .i64 t.att).wf = true ∧ t.out.data.toList.length ∈ d.weights Tryz.prog 30 := by
  obtain ⟨c0, c1, c2, c3, c4, c5, c6, c7, c8, c9, d0, d1, d2, d3, d4, d5, d6, rfl⟩ := seventeen (hc.trans cells_try)
  obtain ⟨fuel, hf⟩ := h
  obtain ⟨y0, y1, y2, y3, y4, y5, y6, n, hx, t0, t1, t2, t3, t4, t5, t6⟩ := trod_struct7 Tryz.underlying30 hf
  simp only [cells_int, cells_i64, cells_bool, cells_str, cells_split, cells_job, Value.cells] at t0 t1 t2 t3 t4 t5 t6
  obtain ⟨g0, e0, e00, _⟩ := DataW.trod_string Tryz.underlying9 t0
  obtain ⟨g2, e2, _, w2⟩ := DataW.trod_int Tryz.underlying3 t2
  obtain ⟨g3, e3, _, w3⟩ := DataW.trod_int Tryz.underlying3 t3
  obtain ⟨g5, e5, _, _⟩ := DataW.trod_int Tryz.underlying2 t5
  obtain ⟨g6, e6, _⟩ := DataW.trod_bool Tryz.underlying4 t6
  obtain ⟨q0, q1, nq, u0, u1⟩ := trod_struct2 Tryz.underlying28 t4
  simp only [cells_i64, cells_str] at u0 u1
  obtain ⟨h0, f0, _, _⟩ := DataW.trod_int Tryz.underlying2 u0
  obtain ⟨h1, f1, _, _⟩ := DataW.trod_string Tryz.underlying9 u1
  obtain ⟨z0, z1, z2, z3, z4, z5, z6, z7, nz, v0, v1, v2, v3, v4, v5, v6, v7⟩ := trod_struct8 Tryz.underlying26 t1
  simp only [cells_int, cells_bool, cells_strs, cells_shape] at v0 v1 v2 v3 v4 v5 v6 v7
  obtain ⟨o0, k0, _, _⟩ := DataW.trod_int Tryz.underlying3 v0
  obtain ⟨o1, k1, _, _⟩ := DataW.trod_int Tryz.underlying3 v1
  obtain ⟨o3, k3, _⟩ := DataW.trod_bool Tryz.underlying4 v3
  obtain ⟨o4, k4, _, _⟩ := DataW.trod_int Tryz.underlying3 v4
  obtain ⟨o5, k5, _, _⟩ := DataW.trod_int Tryz.underlying3 v5
  obtain ⟨o6, k6, _, _⟩ := DataW.trod_int Tryz.underlying3 v6
  have k2 : ∃ (a : Option Addr) (l c : Nat), c3 = .slice a l c := by
    rcases Deep.open_strs Tryz.underlying22 Tryz.underlying9 (by kernel_rfl) v2 with ⟨hcs, _⟩ | ⟨x, l, c, m, Sx, hcs, _⟩
    · simp at hcs; exact ⟨_, _, _, hcs⟩
    · simp at hcs; exact ⟨_, _, _, hcs⟩
  obtain ⟨a, l, c, rfl⟩ := k2
  obtain ⟨w0, w1, w2', m, s0, s1, s2⟩ := trod_struct3 Tryz.underlying24 v7
  simp only [cells_int] at s0 s1 s2
  obtain ⟨p0, m0, _, _⟩ := DataW.trod_int Tryz.underlying3 s0
  obtain ⟨p1, m1, _, _⟩ := DataW.trod_int Tryz.underlying3 s1
  obtain ⟨p2, m2, _, _⟩ := DataW.trod_int Tryz.underlying3 s2
  simp at e0 e2 e3 e5 e6 f0 f1 k0 k1 k3 k4 k5 k6 m0 m1 m2
  refine ⟨⟨g0, o0, o1, a, l, c, o3, o4, o5, o6, p0, p1, p2, g2, g3, h0, h1, g5, g6⟩, ?_, w2, w3, ?_⟩
  · unfold Tr.val
    rw [e0, e2, e3, e5, e6, f0, f1, k0, k1, k3, k4, k5, k6, m0, m1, m2]
  · simp only at hx
    rw [hx]
    unfold DataW.weights
    rw [Tryz.underlying30]
    refine DataW.weights_mem_each (j := 0) (t := 9) (d := y0.1) rfl rfl _ ?_
    rw [e00]
    simp [DataW.weights]
end Go.Proofs.YtgjmgggijdiijaaGreatDoor.mapNone
