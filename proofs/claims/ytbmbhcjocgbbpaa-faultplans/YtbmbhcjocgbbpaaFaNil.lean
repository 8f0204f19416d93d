/-
  A nil plan, the program's and the document's.
-/
import Derived.Test.YtbmbhcjocgbbpaaFaRPlanS
import Derived.Test.YtbmbhcjocgbbpaaFaRPlanD
namespace Go.Proofs.Ytbmbhcjocgbbpaa.Fa
open Go.ChangeShapes Go.WideShapes Go.ChangeAt Go.RowKit
open Go.Proofs.Ytbmbhcjocgbbpaa.Base
set_option linter.unusedVariables false
set_option maxRecDepth 100000 in
theorem take_nil (F : Value) (w : World) : Calls Try.prog 39 #[.pointer none, F] w fun e w' => e = .returned (.slice none 0 0) ∧ w' = w := by
  go_enter Try.func39, Try.ntmps39
  go_wp2_with fail
  go_ret
  exact ⟨rfl, rfl⟩
set_option maxRecDepth 100000 in
theorem pstop_nil (k t at_ : Int) (w : World) : Calls Try.prog 17 #[.pointer none, .int .i64 k, .int .i64 t, .int .i64 at_] w fun e w' => e = .returned (.tuple #[.int .i64 0, .bool false]) ∧ Below w.heap.size w w' := by
  obtain ⟨w0, hw0⟩ : ∃ w0, w.alloc (.cells #[.int .i64 0, .int .i64 k, .int .i64 t, .int .i64 at_] 71) = w0 := ⟨_, rfl⟩
  have HB0 : Hid (Below w.heap.size w w0) := by show Below _ _ _; rw [← hw0]; exact ba (b0 _) _
  go_enter Try.func17, Try.ntmps17
  go_wp2_with fail
  refine (take_nil _ w0).mono ?_
  rintro e w1 ⟨rfl, hw1⟩
  have HB1 : Hid (Below w.heap.size w w1) := by rw [hw1]; exact HB0
  clear hw1
  go_wp2_with fail
  go_ret2
  exact ⟨rfl, HB1.out⟩
set_option maxRecDepth 100000 in
theorem pdue_nil (t at_ m r : Int) (w : World) : Calls Try.prog 18 #[.pointer none, .int .i64 t, .int .i64 at_, .int .i64 m, .int .i64 r] w fun e w' => e = .returned (.slice none 0 0) ∧ Below w.heap.size w w' := by
  obtain ⟨R, hR⟩ : ∃ R, rdr m r = R := ⟨_, rfl⟩
  obtain ⟨w0, hw0⟩ : ∃ w0, w.alloc (.cells #[.int .i64 t, .int .i64 at_, .int .i64 m, .int .i64 R] 75) = w0 := ⟨_, rfl⟩
  have HB0 : Hid (Below w.heap.size w w0) := by show Below _ _ _; rw [← hw0]; exact ba (b0 _) _
  by_cases hm : m = 2
  · have hm' : (m != 2) = false := by simpa using hm
    have hRr : R = r := by rw [← hR]; unfold rdr; rw [if_pos hm]
    subst hRr
    subst hw0
    clear hR hm
    go_enter Try.func18, Try.ntmps18
    go_wp2_with fail
    refine (take_nil _ _).mono ?_
    rintro e w1 ⟨rfl, hw1⟩
    have HB1 : Hid (Below w.heap.size w w1) := by rw [hw1]; exact HB0
    clear hw1
    go_wp2_with fail
    go_ret
    exact ⟨rfl, HB1.out⟩
  · have hm' : (m != 2) = true := by simpa using hm
    have hRr : R = 0 := by rw [← hR]; unfold rdr; rw [if_neg hm]
    subst hRr
    subst hw0
    clear hR hm
    go_enter Try.func18, Try.ntmps18
    go_wp2_with fail
    refine (take_nil _ _).mono ?_
    rintro e w1 ⟨rfl, hw1⟩
    have HB1 : Hid (Below w.heap.size w w1) := by rw [hw1]; exact HB0
    clear hw1
    go_wp2_with fail
    go_ret
    exact ⟨rfl, HB1.out⟩
set_option maxRecDepth 100000 in
theorem pleft_nil (w : World) : Calls Try.prog 19 #[.pointer none] w fun e w' => e = .returned (.slice none 0 0) ∧ Below w.heap.size w w' := by
  go_enter Try.func19, Try.ntmps19
  go_wp2_with fail
  go_ret
  exact ⟨rfl, b0 _⟩
set_option maxRecDepth 100000 in
theorem rstop_nil (k t at_ : Int) (w : World) : Calls Try.prog 25 #[.pointer none, .int .i64 k, .int .i64 t, .int .i64 at_] w fun e w' => e = .returned (.tuple #[.int .i64 0, .bool false]) ∧ Below w.heap.size w w' := by
  go_enter Try.func25, Try.ntmps25
  go_wp2_with fail
  go_ret2
  exact ⟨rfl, b0 _⟩
set_option maxRecDepth 100000 in
theorem rdue_nil (t at_ m r : Int) (w : World) : Calls Try.prog 26 #[.pointer none, .int .i64 t, .int .i64 at_, .int .i64 m, .int .i64 r] w fun e w' => e = .returned (.slice none 0 0) ∧ Below w.heap.size w w' := by
  go_enter Try.func26, Try.ntmps26
  go_wp2_with fail
  go_ret
  exact ⟨rfl, b0 _⟩
set_option maxRecDepth 100000 in
theorem rleft_nil (w : World) : Calls Try.prog 28 #[.pointer none] w fun e w' => e = .returned (.slice none 0 0) ∧ Below w.heap.size w w' := by
  go_enter Try.func28, Try.ntmps28
  go_wp2_with fail
  go_ret
  exact ⟨rfl, b0 _⟩
end Go.Proofs.Ytbmbhcjocgbbpaa.Fa
