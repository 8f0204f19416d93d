/-
  The document's own answer: a number where there are no bytes.
-/
import Derived.Test.YtcchknpgkcmneaaLzR12
namespace Go.Proofs.Ytcchknpgkcmneaa.Lz
open Go.ChangeShapes Go.WideShapes Go.ChangeAt Go.RowKit
open Go.Proofs.Ytcchknpgkcmneaa.Base Go.Proofs.Ytcchknpgkcmneaa.Nums
set_option linter.unusedVariables false
theorem get_nil : get ([] : List (BitVec 8)) = (0, 0, 20) := by decide
theorem slice_zero (a : Option Addr) (cap : Nat) (hz : a = none → cap = 0) : ∃ la, ∀ W, (Instr.sliceAt 22 (.slice a 0 cap) (some (.int .i64 0)) none none).run Try.prog W = .ok (.slice la 0 cap) W := by
  cases a with
  | none =>
    obtain rfl := hz rfl
    exact ⟨none, fun W => by kernel_rfl⟩
  | some x =>
    refine ⟨some (if cap = 0 then x else x.add 0), fun W => ?_⟩
    rw [run_sliceAt_slice (h := elem8), run_slice_l (ht := elem8) (h0 := by omega) (h1 := by omega), size8]
    simp only [Result.andThen, sliced]
    by_cases hc : cap = 0
    · subst hc; simp
    · simp [hc]
set_option maxHeartbeats 1000000 in
set_option maxRecDepth 100000 in
theorem refNumber_zero (a : Option Addr) (cap : Nat) (w : World) (hz : a = none → cap = 0) :
    Calls Try.prog 68 #[.slice a 0 cap, .int .i64 0] w fun e w' => e = .returned (.tuple #[.int .i64 (-1), .int .i64 0]) ∧ Below w.heap.size w w' := by
  obtain ⟨la, hsl⟩ := slice_zero a cap hz
  have HC := hide (refGet_any la 0 cap [] w (rd_zero _ _))
  rw [get_nil] at HC
  have hb : ((20 : Int) != 0) = true := by decide
  go_enter Try.func68, Try.ntmps68
  go_wp2_with fail
  refine HC.out.mono ?_
  rintro e w1 ⟨rfl, hb1⟩
  have HB := hide hb1
  clear hb1 HC hsl
  go_wp2_with fail
  go_ret2
  exact ⟨rfl, HB.out⟩
end Go.Proofs.Ytcchknpgkcmneaa.Lz
