/-
  The walk of the statement SpillNil.
-/
import Derived.Test.YtelhkliaffbfoaaGreatDoorSpNil2
namespace Go.Proofs.YtelhkliaffbfoaaGreatDoor.spillNil
open Go.ChangeShapes Go.WideShapes Go.ChangeAt Go.RowKit
open Go.Proofs.YtelhkliaffbfoaaGreatDoor.Base
set_option linter.unusedVariables false
/-- The block g holds an empty pair. -/
def PB (w : World) (g : Nat) : Prop := w.heap[g]? = some (.cells #[.string ⟨#[]⟩, .string ⟨#[]⟩] 38)
theorem PB.cells {w : World} {g : Nat} (h : PB w g) : w.cell? ⟨g, 0, none⟩ = some (.string ⟨#[]⟩) ∧ w.cell? ⟨g, 1, none⟩ = some (.string ⟨#[]⟩) := by
  refine ⟨?_, ?_⟩ <;> (rw [cell_of_row _ _ _ _ _ _ h]; rfl)
theorem PB.below {w w' : World} {g : Nat} (h : PB w g) (hb : Below w.heap.size w w') : PB w' g := by
  have hl : g < w.heap.size := block_lt_of_cell h.cells.1
  unfold PB
  rw [hb.block g hl]; exact h
theorem scan_nil2 (i : Int) (w : World) : Calls Tryz.prog 6 #[.pointer none, .int .i64 i] w fun e w' => e = .returned (.tuple #[.pointer none, .int .i64 1]) ∧ Below w.heap.size w w' :=
  (scan_nil i w).mono fun e w' ⟨h1, h2⟩ => ⟨h1, h2 ▸ Below.refl _ _⟩
theorem seek_nil2 (i : Int) (s : ByteArray) (w : World) : Calls Tryz.prog 7 #[.pointer none, .int .i64 i, .string s] w fun e w' => e = .returned (.tuple #[.pointer none, .int .i64 1]) ∧ Below w.heap.size w w' :=
  (seek_nil i s w).mono fun e w' ⟨h1, h2⟩ => ⟨h1, h2 ▸ Below.refl _ _⟩
theorem parts_nil2 (w : World) : Calls Tryz.prog 11 #[.pointer none] w fun e w' => e = .returned (.int .i64 0) ∧ Below w.heap.size w w' :=
  (parts_nil w).mono fun e w' ⟨h1, h2⟩ => ⟨h1, h2 ▸ Below.refl _ _⟩
set_option maxHeartbeats 2000000 in
set_option maxRecDepth 100000 in
theorem walk (p : Int) (k v : ByteArray) (w : World) :
    Calls Tryz.prog 3 #[.agg #[.int .i64 p, .string k, .string v]] w fun e w' => e = .returned (.bool true) ∧ Below w.heap.size w w' := by
  obtain ⟨w1, hw1⟩ : ∃ w1, w.alloc (.cells #[.int .i64 p, .string k, .string v] 23) = w1 := ⟨_, rfl⟩
  have HR1 : Hid (RB w1 w.heap.size p k v) := by rw [← hw1]; exact heap_alloc_new _ _
  have HB1 : Hid (Below w.heap.size w w1) := by rw [← hw1]; exact (Below.refl _ _).alloc (Nat.le_refl _) _
  go_enter Tryz.func3, Tryz.ntmps3
  obtain ⟨q0, q1, q2⟩ := HR1.out.cells
  go_wp2_with fail
  refine (close_nil w1).mono ?_
  rintro e w2 ⟨rfl, hb2⟩
  have HR2 := hide (HR1.out.below hb2)
  have HB2 := hide (below_trans HB1.out hb2)
  clear q0 q1 q2 hb2 HR1 HB1
  obtain ⟨q0, q1, q2⟩ := HR2.out.cells
  go_wp2_with fail
  refine (count_nil p w2).mono ?_
  rintro e w3 ⟨rfl, hb3⟩
  have HR3 := hide (HR2.out.below hb3)
  have HB3 := hide (below_trans HB2.out hb3)
  clear q0 q1 q2 hb3 HR2 HB2
  obtain ⟨q0, q1, q2⟩ := HR3.out.cells
  go_wp2_with fail
  refine (scan_nil2 p w3).mono ?_
  rintro e w4 ⟨rfl, hb4⟩
  have HR4 := hide (HR3.out.below hb4)
  have HB4 := hide (below_trans HB3.out hb4)
  clear q0 q1 q2 hb4 HR3 HB3
  obtain ⟨q0, q1, q2⟩ := HR4.out.cells
  go_wp2_with fail
  refine (seek_nil2 p k w4).mono ?_
  rintro e w5 ⟨rfl, hb5⟩
  have HR5 := hide (HR4.out.below hb5)
  have HB5 := hide (below_trans HB4.out hb5)
  clear q0 q1 q2 hb5 HR4 HB4
  obtain ⟨q0, q1, q2⟩ := HR5.out.cells
  go_wp2_with fail
  refine (has_nil p k w5).mono ?_
  rintro e w6 ⟨rfl, hb6⟩
  have HR6 := hide (HR5.out.below hb6)
  have HB6 := hide (below_trans HB5.out hb6)
  clear q0 q1 q2 hb6 HR5 HB5
  obtain ⟨q0, q1, q2⟩ := HR6.out.cells
  go_wp2_with fail
  refine (next_nil w6).mono ?_
  rintro e w7 ⟨rfl, hb7⟩
  have HR7 := hide (HR6.out.below hb7)
  have HB7 := hide (below_trans HB6.out hb7)
  clear q0 q1 q2 hb7 HR6 HB6
  have HP8 : Hid (PB (w7.alloc (.cells #[.string ⟨#[]⟩, .string ⟨#[]⟩] 38)) w7.heap.size) := heap_alloc_new _ _
  have HA8 : Hid (Below w7.heap.size w7 (w7.alloc (.cells #[.string ⟨#[]⟩, .string ⟨#[]⟩] 38))) := (Below.refl _ _).alloc (Nat.le_refl _) _
  have HR8 := hide (HR7.out.below HA8.out)
  have HB8 := hide (below_trans HB7.out HA8.out)
  clear HR7 HB7 HA8
  obtain ⟨q0, q1, q2⟩ := HR8.out.cells
  go_wp2_with fail
  refine (add_nil p k v _).mono ?_
  rintro e w9 ⟨rfl, hb9⟩
  have HP9 := hide (HP8.out.below hb9)
  have HB9 := hide (below_trans HB8.out hb9)
  clear q0 q1 q2 hb9 HR8 HB8 HP8
  go_wp2_with fail
  refine (parts_nil2 w9).mono ?_
  rintro e w10 ⟨rfl, hb10⟩
  have HP10 := hide (HP9.out.below hb10)
  have HB10 := hide (below_trans HB9.out hb10)
  clear hb10 HB9 HP9
  go_wp2_with fail
  refine (foot_nil w10).mono ?_
  rintro e w11 ⟨rfl, hb11⟩
  have HP11 := hide (HP10.out.below hb11)
  have HB11 := hide (below_trans HB10.out hb11)
  clear hb11 HB10 HP10
  go_wp2_with fail
  refine (same_nil w11).mono ?_
  rintro e w12 ⟨rfl, hb12⟩
  have HP12 := hide (HP11.out.below hb12)
  have HB12 := hide (below_trans HB11.out hb12)
  clear hb12 HB11 HP11
  obtain ⟨q0, q1⟩ := HP12.out.cells
  go_wp2_with fail
  go_ret
  exact ⟨by first | rfl | simp, HB12.out⟩
end Go.Proofs.YtelhkliaffbfoaaGreatDoor.spillNil
