/-
  The walk of the statement LzBound.
-/
import Derived.Test.YtdoloafdknehnaaLzBoundC
namespace Go.Proofs.Ytdoloafdknehnaa.lzBound
open Go.ChangeShapes Go.WideShapes Go.ChangeAt Go.RowKit
open Go.Proofs.Ytdoloafdknehnaa.Base Go.Proofs.Ytdoloafdknehnaa.Lz
set_option linter.unusedVariables false
set_option maxHeartbeats 1000000 in
theorem ref_any (n : Int) (w : World) : Calls Try.prog 10 #[.int .i64 n] w fun e w' => e = .returned (.int .i64 (bound n)) ∧ w' = w := by
  by_cases h1 : n < 1
  · have HE := hide (bound_out n (by omega))
    go_enter Try.func10, Try.ntmps10
    go_wp2
    go_ret
    exact ⟨ret_int HE.out.symm, rfl⟩
  · by_cases h2 : 65536 < n
    · have HE := hide (bound_out n (by omega))
      go_enter Try.func10, Try.ntmps10
      go_wp2
      go_ret
      exact ⟨ret_int HE.out.symm, rfl⟩
    · by_cases h3 : n < 128
      · have HE := hide (bound_one n (by omega) (by omega))
        go_enter Try.func10, Try.ntmps10
        go_wp2
        go_ret
        exact ⟨ret_int HE.out.symm, rfl⟩
      · by_cases h4 : n < 16384
        · have HE := hide (bound_two n (by omega) (by omega))
          go_enter Try.func10, Try.ntmps10
          go_wp2
          go_ret
          exact ⟨ret_int HE.out.symm, rfl⟩
        · have HE := hide (bound_five n (by omega) (by omega))
          go_enter Try.func10, Try.ntmps10
          go_wp2
          go_ret
          exact ⟨ret_int HE.out.symm, rfl⟩
theorem walk (n0 : Int) (w : World) (w0 : (Lit.int .i64 n0).wf = true) : Calls Try.prog 3 #[.int .i64 n0] w fun e w' => e = .returned (.bool true) ∧ Below w.heap.size w w' := by
  have q : ((bound n0) == (bound n0)) = true := by simp
  go_enter Try.func3, Try.ntmps3
  go_wp2_with fail
  refine (bound_any n0 w).mono ?_
  rintro e w1 ⟨rfl, rfl⟩
  go_wp2_with fail
  refine (ref_any n0 _).mono ?_
  rintro e w2 ⟨rfl, rfl⟩
  go_wp2_with fail
  go_ret
  exact ⟨rfl, Below.refl _ _⟩
end Go.Proofs.Ytdoloafdknehnaa.lzBound
