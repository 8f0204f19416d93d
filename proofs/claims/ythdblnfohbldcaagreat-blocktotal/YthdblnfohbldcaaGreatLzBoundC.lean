/-
  The walk of the statement LzBound.
-/
import Derived.Test.YthdblnfohbldcaaGreatBase
namespace Go.Proofs.YthdblnfohbldcaaGreat.Lz
open Go.ChangeShapes Go.WideShapes Go.ChangeAt Go.RowKit
open Go.Proofs.YthdblnfohbldcaaGreat.Base
set_option linter.unusedVariables false
/-- How many bytes a text of n bytes takes at most. -/
def bound (n : Int) : Int := if n < 1 ∨ 65536 < n then 0 else if n < 128 then n + 1 else if n < 16384 then n + 2 else n + 5
theorem bound_out (n : Int) (h : n < 1 ∨ 65536 < n) : bound n = 0 := by unfold bound; rw [if_pos h]
theorem bound_one (n : Int) (h0 : 1 ≤ n) (h : n < 128) : bound n = n + 1 := by unfold bound; rw [if_neg (by omega), if_pos h]
theorem bound_two (n : Int) (h0 : 128 ≤ n) (h : n < 16384) : bound n = n + 2 := by unfold bound; rw [if_neg (by omega), if_neg (by omega), if_pos h]
theorem bound_five (n : Int) (h0 : 16384 ≤ n) (h : n ≤ 65536) : bound n = n + 5 := by unfold bound; rw [if_neg (by omega), if_neg (by omega), if_neg (by omega)]
set_option maxHeartbeats 1000000 in
theorem bound_any (n : Int) (w : World) : Calls Tryz.prog 49 #[.int .i64 n] w fun e w' => e = .returned (.int .i64 (bound n)) ∧ w' = w := by
  by_cases h1 : n ≤ 0
  · have HE := hide (bound_out n (by omega))
    go_enter Tryz.func49, Tryz.ntmps49
    go_wp2
    go_ret
    exact ⟨ret_int HE.out.symm, rfl⟩
  · by_cases h2 : 65536 < n
    · have HE := hide (bound_out n (by omega))
      go_enter Tryz.func49, Tryz.ntmps49
      go_wp2
      go_ret
      exact ⟨ret_int HE.out.symm, rfl⟩
    · by_cases h3 : n ≤ 127
      · have HE := hide (bound_one n (by omega) (by omega))
        go_enter Tryz.func49, Tryz.ntmps49
        go_wp2
        go_ret
        exact ⟨ret_int HE.out.symm, rfl⟩
      · by_cases h4 : n ≤ 16383
        · have HE := hide (bound_two n (by omega) (by omega))
          go_enter Tryz.func49, Tryz.ntmps49
          go_wp2
          go_ret
          exact ⟨ret_int HE.out.symm, rfl⟩
        · have HE := hide (bound_five n (by omega) (by omega))
          go_enter Tryz.func49, Tryz.ntmps49
          go_wp2
          go_ret
          exact ⟨ret_int HE.out.symm, rfl⟩
end Go.Proofs.YthdblnfohbldcaaGreat.Lz
