/-
  The walk of the statement CrcFar.
-/
import Derived.Test.YtkooijlldpiljabCrcWorks
import Derived.Test.YtkooijlldpiljabCrcJoin
namespace Go.Proofs.Ytkooijlldpiljab.crcFar
open Go.ChangeShapes Go.WideShapes Go.ChangeAt Go.RowKit
open Go.Proofs.Ytkooijlldpiljab.Crc
set_option linter.unusedVariables false
theorem join_join (a b c : BitVec 32) (m n : Nat) : join (join a b m) c n = join a (join b c n) (m + n) := by
  unfold join
  rw [Mn_xor, ← Mn_add, Nat.mul_add, BitVec.xor_assoc]
set_option maxHeartbeats 1000000 in
theorem walk (x0 x1 x2 : BitVec 32) (n3 n4 : Int) (w : World) (w3 : (Lit.int .i64 n3).wf = true) (w4 : (Lit.int .i64 n4).wf = true) :
    Calls Try.prog 3 #[.int .u32 (x0.toNat : Int), .int .u32 (x1.toNat : Int), .int .u32 (x2.toNat : Int), .int .i64 n3, .int .i64 n4] w fun e w' => e = .returned (.bool true) ∧ Below w.heap.size w w' := by
  have hb3 := bounds_i64 w3
  have hb4 := bounds_i64 w4
  by_cases h : n3 < 0 ∨ n4 < 0 ∨ 2305843009213693952 < n3 ∨ 2305843009213693952 < n4
  · by_cases c1 : n3 < 0
    · have d1 : decide (n3 < 0) = true := by simp; omega
      go_enter Try.func3, Try.ntmps3
      go_wp2_with fail
      refine (works_any _).mono ?_
      rintro e w1 ⟨rfl, hb⟩
      have HB := hide hb
      clear hb
      go_wp2_with fail
      go_ret
      exact ⟨rfl, HB.out⟩
    · have d1 : decide (n3 < 0) = false := by simp; omega
      by_cases c2 : n4 < 0
      · have d2 : decide (n4 < 0) = true := by simp; omega
        go_enter Try.func3, Try.ntmps3
        go_wp2_with fail
        refine (works_any _).mono ?_
        rintro e w1 ⟨rfl, hb⟩
        have HB := hide hb
        clear hb
        go_wp2_with fail
        go_ret
        exact ⟨rfl, HB.out⟩
      · have d2 : decide (n4 < 0) = false := by simp; omega
        by_cases c3 : 2305843009213693952 < n3
        · have d3 : decide (2305843009213693952 < n3) = true := by simp; omega
          go_enter Try.func3, Try.ntmps3
          go_wp2_with fail
          refine (works_any _).mono ?_
          rintro e w1 ⟨rfl, hb⟩
          have HB := hide hb
          clear hb
          go_wp2_with fail
          go_ret
          exact ⟨rfl, HB.out⟩
        · have d3 : decide (2305843009213693952 < n3) = false := by simp; omega
          have d4 : decide (2305843009213693952 < n4) = true := by simp; omega
          go_enter Try.func3, Try.ntmps3
          go_wp2_with fail
          refine (works_any _).mono ?_
          rintro e w1 ⟨rfl, hb⟩
          have HB := hide hb
          clear hb
          go_wp2_with fail
          go_ret
          exact ⟨rfl, HB.out⟩
  · obtain ⟨m, rfl⟩ := Int.eq_ofNat_of_zero_le (show 0 ≤ n3 by omega)
    obtain ⟨n, rfl⟩ := Int.eq_ofNat_of_zero_le (show 0 ≤ n4 by omega)
    have d1 : decide ((m : Int) < 0) = false := by simp
    have d2 : decide ((n : Int) < 0) = false := by simp
    have d3 : decide (2305843009213693952 < (m : Int)) = false := by simp; omega
    have d4 : decide (2305843009213693952 < (n : Int)) = false := by simp; omega
    have hm : (m : Int) ≤ 2305843009213693952 := by omega
    have hn : (n : Int) ≤ 2305843009213693952 := by omega
    have CJ := hide (join_join x0 x1 x2 m n)
    clear h
    go_enter Try.func3, Try.ntmps3
    go_wp2_with fail
    refine (works_any _).mono ?_
    rintro e w1 ⟨rfl, hb⟩
    have HB := hide hb
    clear hb
    go_wp2_with fail
    refine (join_any _ _ _ _ (by omega)).mono ?_
    rintro e w' ⟨rfl, rfl⟩
    go_wp2_with fail
    refine (join_any _ _ _ _ (by omega)).mono ?_
    rintro e w' ⟨rfl, rfl⟩
    go_wp2_with fail
    refine (join_any _ _ _ _ (by omega)).mono ?_
    rintro e w' ⟨rfl, rfl⟩
    go_wp2_with fail
    refine (join_any _ _ _ _ (by omega)).mono ?_
    rintro e w' ⟨rfl, rfl⟩
    rw [show ((m : Int) + (n : Int)).toNat = m + n by omega, ← CJ.out]
    have q1 : (((join (join x0 x1 m) x2 n).toNat : Int) == ((join (join x0 x1 m) x2 n).toNat : Int)) = true := by simp
    generalize join (join x0 x1 m) x2 n = J at q1
    go_wp2_with fail
    go_ret
    exact ⟨rfl, HB.out⟩
end Go.Proofs.Ytkooijlldpiljab.crcFar
