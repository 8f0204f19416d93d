/-
  Nil writers, readers, cursors: calls that hand structs in or out.
-/
import Derived.Test.YtelhkliaffbfoaaGreatDoorSpNil
namespace Go.Proofs.YtelhkliaffbfoaaGreatDoor.spillNil
open Go.ChangeShapes Go.WideShapes Go.ChangeAt Go.RowKit
open Go.Proofs.YtelhkliaffbfoaaGreatDoor.Base
set_option linter.unusedVariables false
set_option maxHeartbeats 400000
/-- The block g holds a record. -/
def RB (w : World) (g : Nat) (p : Int) (k v : ByteArray) : Prop := w.heap[g]? = some (.cells #[.int .i64 p, .string k, .string v] 23)
theorem RB.cells {w : World} {g : Nat} {p : Int} {k v : ByteArray} (h : RB w g p k v) : w.cell? ⟨g, 0, none⟩ = some (.int .i64 p) ∧ w.cell? ⟨g, 1, none⟩ = some (.string k) ∧ w.cell? ⟨g, 2, none⟩ = some (.string v) := by
  refine ⟨?_, ?_, ?_⟩ <;> (rw [cell_of_row _ _ _ _ _ _ h]; rfl)
theorem RB.below {w w' : World} {g : Nat} {p : Int} {k v : ByteArray} (h : RB w g p k v) (hb : Below w.heap.size w w') : RB w' g p k v := by
  have hl : g < w.heap.size := block_lt_of_cell h.cells.1
  unfold RB
  rw [hb.block g hl]; exact h
theorem wrefuse_nil (p : Int) (k v : ByteArray) (w : World) : Calls Tryz.prog 24 #[.pointer none, .agg #[.int .i64 p, .string k, .string v]] w fun e w' => e = .returned (.int .i64 1) ∧ Below w.heap.size w w' := by
  go_enter Tryz.func24, Tryz.ntmps24
  go_wp2_with fail
  go_ret
  exact ⟨rfl, (Below.refl _ _).alloc (Nat.le_refl _) _⟩
theorem add_nil (p : Int) (k v : ByteArray) (w : World) : Calls Tryz.prog 10 #[.pointer none, .agg #[.int .i64 p, .string k, .string v]] w fun e w' => e = .returned (.int .i64 1) ∧ Below w.heap.size w w' := by
  obtain ⟨w1, hw1⟩ : ∃ w1, w.alloc (.cells #[.int .i64 p, .string k, .string v] 23) = w1 := ⟨_, rfl⟩
  have HR : RB w1 w.heap.size p k v := by rw [← hw1]; exact heap_alloc_new _ _
  have HB1 : Hid (Below w.heap.size w w1) := by rw [← hw1]; exact (Below.refl _ _).alloc (Nat.le_refl _) _
  obtain ⟨q0, q1, q2⟩ := HR.cells
  have HC := hide (wrefuse_nil p k v w1)
  clear HR
  go_enter Tryz.func10, Tryz.ntmps10
  go_wp2_with fail
  refine HC.out.mono ?_
  rintro e w2 ⟨rfl, hb2⟩
  have HB2 := hide (below_trans HB1.out hb2)
  clear hb2 HB1 HC
  go_wp2_with fail
  go_ret
  exact ⟨rfl, HB2.out⟩
theorem foot_nil (w : World) : Calls Tryz.prog 13 #[.pointer none] w fun e w' => e = .returned (.agg #[.int .i64 0, .slice none 0 0]) ∧ Below w.heap.size w w' := by
  go_enter Tryz.func13, Tryz.ntmps13
  go_wp2_with fail
  first | (go_ret; exact ⟨rfl, by first | exact Below.refl _ _ | exact (Below.refl _ _).alloc (Nat.le_refl _) _⟩) | exact bodyPost_ret (v := .agg #[.int .i64 0, .slice none 0 0]) (by simp [results, Tryz.results13, go_sem]) rfl ⟨rfl, by first | exact Below.refl _ _ | exact (Below.refl _ _).alloc (Nat.le_refl _) _⟩
theorem next_nil (w : World) : Calls Tryz.prog 9 #[.pointer none] w fun e w' => e = .returned (.tuple #[.agg #[.string ⟨#[]⟩, .string ⟨#[]⟩], .bool false, .int .i64 1]) ∧ Below w.heap.size w w' := by
  go_enter Tryz.func9, Tryz.ntmps9
  go_wp2_with fail
  first | (go_ret3; exact ⟨rfl, by first | exact Below.refl _ _ | exact (Below.refl _ _).alloc (Nat.le_refl _) _⟩) | exact bodyPost_ret (v := .tuple #[.agg #[.string ⟨#[]⟩, .string ⟨#[]⟩], .bool false, .int .i64 1]) (by simp [results, Tryz.results9, go_sem]) rfl ⟨rfl, by first | exact Below.refl _ _ | exact (Below.refl _ _).alloc (Nat.le_refl _) _⟩
/-- Two footers without partitions are the same. -/
theorem same_nil (w : World) : Calls Tryz.prog 12 #[.agg #[.int .i64 0, .slice none 0 0], .agg #[.int .i64 0, .slice none 0 0]] w fun e w' => e = .returned (.bool true) ∧ Below w.heap.size w w' := by
  obtain ⟨w1, hw1⟩ : ∃ w1, w.alloc (.cells #[.int .i64 0, .slice none 0 0] 46) = w1 := ⟨_, rfl⟩
  obtain ⟨w2, hw2⟩ : ∃ w2, w1.alloc (.cells #[.int .i64 0, .slice none 0 0] 46) = w2 := ⟨_, rfl⟩
  have h1 : w1.heap[w.heap.size]? = some (.cells #[.int .i64 0, .slice none 0 0] 46) := by rw [← hw1]; exact heap_alloc_new _ _
  have hb1 : Below w.heap.size w w1 := by rw [← hw1]; exact (Below.refl _ _).alloc (Nat.le_refl _) _
  have hb2 : Below w1.heap.size w1 w2 := by rw [← hw2]; exact (Below.refl _ _).alloc (Nat.le_refl _) _
  have h2 : w2.heap[w1.heap.size]? = some (.cells #[.int .i64 0, .slice none 0 0] 46) := by rw [← hw2]; exact heap_alloc_new _ _
  have hs1 : w1.heap.size = w.heap.size + 1 := by rw [← hw1]; simp
  have h1' : w2.heap[w.heap.size]? = some (.cells #[.int .i64 0, .slice none 0 0] 46) := by rw [hb2.block _ (by omega)]; exact h1
  have c0 : w2.cell? ⟨w.heap.size, 0, none⟩ = some (.int .i64 0) := by rw [cell_of_row _ _ _ _ _ _ h1']; rfl
  have c1 : w2.cell? ⟨w.heap.size, 1, none⟩ = some (.slice none 0 0) := by rw [cell_of_row _ _ _ _ _ _ h1']; rfl
  have d0 : w2.cell? ⟨w1.heap.size, 0, none⟩ = some (.int .i64 0) := by rw [cell_of_row _ _ _ _ _ _ h2]; rfl
  have d1 : w2.cell? ⟨w1.heap.size, 1, none⟩ = some (.slice none 0 0) := by rw [cell_of_row _ _ _ _ _ _ h2]; rfl
  have HB := hide (below_trans hb1 hb2)
  clear h1 hb1 hb2 h2 hs1 h1'
  go_enter Tryz.func12, Tryz.ntmps12
  go_wp2_with fail
  go_loopw [5] (fun i wr => i = .int .i64 0 ∧ wr = w2) (fun _ _ => 0)
  case atStart => exact ⟨rfl, rfl⟩
  case round =>
    obtain ⟨rfl, rfl⟩ := hrel
    go_wp2_with fail
    go_ret
    exact ⟨rfl, HB.out⟩
end Go.Proofs.YtelhkliaffbfoaaGreatDoor.spillNil
