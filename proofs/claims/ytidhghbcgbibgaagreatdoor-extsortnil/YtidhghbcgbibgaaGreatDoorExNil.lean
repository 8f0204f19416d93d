/-
  Nil sorters and streams: what each call answers.
-/
import Derived.Test.YtidhghbcgbibgaaGreatDoorBase
import Derived.Laws.StructEq
namespace Go.Proofs.YtidhghbcgbibgaaGreatDoor.extsortNil
open Go.ChangeShapes Go.WideShapes Go.ChangeAt Go.RowKit
open Go.Proofs.YtidhghbcgbibgaaGreatDoor.Base
set_option linter.unusedVariables false
set_option maxHeartbeats 400000
/-- The block g holds a record. -/
def RB (w : World) (g : Nat) (p : Int) (k v : ByteArray) : Prop := w.heap[g]? = some (.cells #[.int .i64 p, .string k, .string v] 23)
theorem RB.cells {w : World} {g : Nat} {p : Int} {k v : ByteArray} (h : RB w g p k v) : w.cell? ⟨g, 0, none⟩ = some (.int .i64 p) ∧ w.cell? ⟨g, 1, none⟩ = some (.string k) ∧ w.cell? ⟨g, 2, none⟩ = some (.string v) := by
  refine ⟨?_, ?_, ?_⟩ <;> (rw [cell_of_row _ _ _ _ _ _ h]; rfl)
theorem RB.below {w w' : World} {g : Nat} {p : Int} {k v : ByteArray} (h : RB w g p k v) (hb : Below w.heap.size w w') : RB w' g p k v := by
  have hl : g < w.heap.size := block_lt_of_cell h.cells.1
  unfold RB
  rw [hb.block g hl]; exact h
theorem finish_nil (w : World) : Calls Tryz.prog 4 #[.pointer none] w fun e w' => e = .returned (.tuple #[.pointer none, .int .i64 1]) ∧ Below w.heap.size w w' := by
  go_enter Tryz.func4, Tryz.ntmps4
  go_wp2_with fail
  go_ret2
  exact ⟨rfl, Below.refl _ _⟩
theorem srefuse_nil (p : Int) (k v : ByteArray) (w : World) : Calls Tryz.prog 18 #[.pointer none, .agg #[.int .i64 p, .string k, .string v]] w fun e w' => e = .returned (.int .i64 1) ∧ Below w.heap.size w w' := by
  go_enter Tryz.func18, Tryz.ntmps18
  go_wp2_with fail
  go_ret
  exact ⟨rfl, (Below.refl _ _).alloc (Nat.le_refl _) _⟩
theorem sadd_nil (p : Int) (k v : ByteArray) (w : World) : Calls Tryz.prog 6 #[.pointer none, .agg #[.int .i64 p, .string k, .string v]] w fun e w' => e = .returned (.int .i64 1) ∧ Below w.heap.size w w' := by
  obtain ⟨w1, hw1⟩ : ∃ w1, w.alloc (.cells #[.int .i64 p, .string k, .string v] 23) = w1 := ⟨_, rfl⟩
  have HR : RB w1 w.heap.size p k v := by rw [← hw1]; exact heap_alloc_new _ _
  have HB1 : Hid (Below w.heap.size w w1) := by rw [← hw1]; exact (Below.refl _ _).alloc (Nat.le_refl _) _
  obtain ⟨q0, q1, q2⟩ := HR.cells
  have HC := hide (srefuse_nil p k v w1)
  clear HR
  go_enter Tryz.func6, Tryz.ntmps6
  go_wp2_with fail
  refine HC.out.mono ?_
  rintro e w2 ⟨rfl, hb2⟩
  have HB2 := hide (below_trans HB1.out hb2)
  clear hb2 HB1 HC
  go_wp2_with fail
  go_ret
  exact ⟨rfl, HB2.out⟩
theorem trefuse_nil (w : World) : Calls Tryz.prog 16 #[.pointer none] w fun e w' => e = .returned (.int .i64 1) ∧ w' = w := by
  go_enter Tryz.func16, Tryz.ntmps16
  go_wp2_with fail
  go_ret
  exact ⟨rfl, rfl⟩
theorem tclose_nil (w : World) : Calls Tryz.prog 8 #[.pointer none] w fun e w' => e = .returned (.int .i64 1) ∧ Below w.heap.size w w' := by
  go_enter Tryz.func8, Tryz.ntmps8
  go_wp2_with (go_at_call 16; refine (trefuse_nil _).mono ?_; rintro e w' ⟨rfl, rfl⟩)
  go_ret
  exact ⟨rfl, Below.refl _ _⟩
theorem stats_nil (w : World) : Calls Tryz.prog 7 #[.pointer none] w fun e w' => e = .returned (.agg #[.int .i64 0, .int .i64 0, .int .i64 0]) ∧ Below w.heap.size w w' := by
  go_enter Tryz.func7, Tryz.ntmps7
  go_wp2_with fail
  first | (go_ret; exact ⟨rfl, by first | exact Below.refl _ _ | exact (Below.refl _ _).alloc (Nat.le_refl _) _⟩) | exact bodyPost_ret (v := .agg #[.int .i64 0, .int .i64 0, .int .i64 0]) (by simp [results, Tryz.results7, go_sem]) rfl ⟨rfl, by first | exact Below.refl _ _ | exact (Below.refl _ _).alloc (Nat.le_refl _) _⟩
theorem tnext_nil (w : World) : Calls Tryz.prog 5 #[.pointer none] w fun e w' => e = .returned (.tuple #[.agg #[.int .i64 0, .string ⟨#[]⟩, .string ⟨#[]⟩], .bool false, .int .i64 1]) ∧ Below w.heap.size w w' := by
  go_enter Tryz.func5, Tryz.ntmps5
  go_wp2_with (go_at_call 16; refine (trefuse_nil _).mono ?_; rintro e w' ⟨rfl, rfl⟩)
  first | (go_ret3; exact ⟨rfl, by first | exact Below.refl _ _ | exact (Below.refl _ _).alloc (Nat.le_refl _) _⟩) | exact bodyPost_ret (v := .tuple #[.agg #[.int .i64 0, .string ⟨#[]⟩, .string ⟨#[]⟩], .bool false, .int .i64 1]) (by simp [results, Tryz.results5, go_sem]) rfl ⟨rfl, by first | exact Below.refl _ _ | exact (Below.refl _ _).alloc (Nat.le_refl _) _⟩
end Go.Proofs.YtidhghbcgbibgaaGreatDoor.extsortNil
