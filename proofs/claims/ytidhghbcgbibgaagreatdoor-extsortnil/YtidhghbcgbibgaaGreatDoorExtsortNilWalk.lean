/-
  The walk of the statement ExtsortNil.
-/
import Derived.Test.YtidhghbcgbibgaaGreatDoorExNil
namespace Go.Proofs.YtidhghbcgbibgaaGreatDoor.extsortNil
open Go.ChangeShapes Go.WideShapes Go.ChangeAt Go.RowKit
open Go.Proofs.YtidhghbcgbibgaaGreatDoor.Base
set_option linter.unusedVariables false
set_option maxHeartbeats 2000000 in
set_option maxRecDepth 100000 in
theorem walk (p : Int) (k v : ByteArray) (w : World) :
    Calls Tryz.prog 3 #[.agg #[.int .i64 p, .string k, .string v]] w fun e w' => e = .returned (.bool true) ∧ Below w.heap.size w w' := by
  obtain ⟨w1, hw1⟩ : ∃ w1, w.alloc (.cells #[.int .i64 p, .string k, .string v] 23) = w1 := ⟨_, rfl⟩
  have HR1 : Hid (RB w1 w.heap.size p k v) := by rw [← hw1]; exact heap_alloc_new _ _
  have HB1 : Hid (Below w.heap.size w w1) := by rw [← hw1]; exact (Below.refl _ _).alloc (Nat.le_refl _) _
  go_enter Tryz.func3, Tryz.ntmps3
  go_wp2_with fail
  refine (finish_nil w1).mono ?_
  rintro e w2 ⟨rfl, hb2⟩
  have HR2 := hide (HR1.out.below hb2)
  have HB2 := hide (below_trans HB1.out hb2)
  clear hb2 HR1 HB1
  go_wp2_with fail
  refine (tnext_nil w2).mono ?_
  rintro e w3 ⟨rfl, hb3⟩
  have HR3 := hide (HR2.out.below hb3)
  have HB3 := hide (below_trans HB2.out hb3)
  clear hb3 HR2 HB2
  have HY4 : Hid (RB (w3.alloc (.cells #[.int .i64 0, .string ⟨#[]⟩, .string ⟨#[]⟩] 23)) w3.heap.size 0 ⟨#[]⟩ ⟨#[]⟩) := heap_alloc_new _ _
  have HA4 : Hid (Below w3.heap.size w3 (w3.alloc (.cells #[.int .i64 0, .string ⟨#[]⟩, .string ⟨#[]⟩] 23))) := (Below.refl _ _).alloc (Nat.le_refl _) _
  have HR4 := hide (HR3.out.below HA4.out)
  have HB4 := hide (below_trans HB3.out HA4.out)
  clear HR3 HB3 HA4
  obtain ⟨q0, q1, q2⟩ := HR4.out.cells
  go_wp2_with fail
  refine (sadd_nil p k v _).mono ?_
  rintro e w5 ⟨rfl, hb5⟩
  have HY5 := hide (HY4.out.below hb5)
  have HB5 := hide (below_trans HB4.out hb5)
  clear q0 q1 q2 hb5 HR4 HB4 HY4
  go_wp2_with fail
  refine (stats_nil w5).mono ?_
  rintro e w6 ⟨rfl, hb6⟩
  have HY6 := hide (HY5.out.below hb6)
  have HB6 := hide (below_trans HB5.out hb6)
  clear hb6 HB5 HY5
  obtain ⟨q0, q1, q2⟩ := HY6.out.cells
  go_wp2_with fail
  refine (tclose_nil w6).mono ?_
  rintro e w7 ⟨rfl, hb7⟩
  have HB7 := hide (below_trans HB6.out hb7)
  clear hb7 HB6 HY6 q0 q1 q2
  go_wp2_with fail
  go_ret
  exact ⟨by first | rfl | simp, HB7.out⟩
end Go.Proofs.YtidhghbcgbibgaaGreatDoor.extsortNil
