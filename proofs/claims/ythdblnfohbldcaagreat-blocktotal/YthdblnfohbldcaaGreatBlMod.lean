/-
  mod: from lo to hi.
-/
import Derived.Test.YthdblnfohbldcaaGreatBase
namespace Go.Proofs.YthdblnfohbldcaaGreat.Bl
open Go.ChangeShapes Go.WideShapes Go.ChangeAt Go.RowKit
open Go.Proofs.YthdblnfohbldcaaGreat.Base
set_option linter.unusedVariables false
theorem mod_rng (n N : Int) (hN : 0 < N) : -N < n.tmod N ∧ n.tmod N < N := by
  rcases Int.le_total 0 n with h | h
  · have h1 := Int.tmod_nonneg N h
    have h2 := Int.tmod_lt_of_pos n hN
    omega
  · have h1 := Int.tmod_lt_of_pos (-n) hN
    have h2 := Int.tmod_nonneg N (a := -n) (by omega)
    rw [Int.neg_tmod] at h1 h2
    omega
theorem mod_any (x lo hi : Int) (w : World) (hlo : 0 ≤ lo) (hh : lo ≤ hi) (hhi : hi ≤ 1099511627776) :
    Calls Tryz.prog 9 #[.int .i64 x, .int .i64 lo, .int .i64 hi] w fun e w' => ∃ v : Nat, e = .returned (.int .i64 (v : Int)) ∧ lo ≤ (v : Int) ∧ (v : Int) ≤ hi ∧ w' = w := by
  obtain ⟨N, hN⟩ : ∃ N, hi - lo + 1 = N := ⟨_, rfl⟩
  have h1 : IntKind.i64.wrap (hi - lo) = hi - lo := by rw [IntKind.wrap_i64]; omega
  have h2 : IntKind.i64.wrap (hi - lo + 1) = N := by rw [IntKind.wrap_i64]; omega
  obtain ⟨r, hr⟩ : ∃ r, x.tmod N = r := ⟨_, rfl⟩
  have h3 := mod_rng x N (by omega)
  rw [hr] at h3
  have h4 : IntKind.i64.wrap r = r := by rw [IntKind.wrap_i64]; omega
  have h5 : ¬ N = 0 := by omega
  by_cases hc : r < 0
  · obtain ⟨v, hv⟩ := Int.eq_ofNat_of_zero_le (show 0 ≤ lo + (r + N) by omega)
    have h6 : IntKind.i64.wrap (r + N) = r + N := by rw [IntKind.wrap_i64]; omega
    have h7 : IntKind.i64.wrap (lo + (r + N)) = (v : Int) := by rw [IntKind.wrap_i64]; omega
    go_enter Tryz.func9, Tryz.ntmps9
    go_wp2_with fail
    go_ret
    exact ⟨v, rfl, by omega, by omega, rfl⟩
  · obtain ⟨v, hv⟩ := Int.eq_ofNat_of_zero_le (show 0 ≤ lo + r by omega)
    have h7 : IntKind.i64.wrap (lo + r) = (v : Int) := by rw [IntKind.wrap_i64]; omega
    go_enter Tryz.func9, Tryz.ntmps9
    go_wp2_with fail
    go_ret
    exact ⟨v, rfl, by omega, by omega, rfl⟩
end Go.Proofs.YthdblnfohbldcaaGreat.Bl
