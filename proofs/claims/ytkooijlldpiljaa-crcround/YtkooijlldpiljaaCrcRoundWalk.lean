/-
  The walk of the statement CrcRound.
-/
import Derived.Test.YtkooijlldpiljaaCrcWorks
namespace Go.Proofs.Ytkooijlldpiljaa.crcRound
open Go.ChangeShapes Go.WideShapes Go.ChangeAt Go.RowKit
open Go.Proofs.Ytkooijlldpiljaa.Crc
set_option linter.unusedVariables false
set_option maxHeartbeats 1000000 in
theorem walk (a0 : Option Addr) (len0 cap0 : Nat) (b0 : List (BitVec 8)) (a1 : Option Addr) (len1 cap1 : Nat) (b1 : List (BitVec 8)) (w : World) (r0 : Rd w a0 len0 b0) (l0 : len0 ≤ cap0) (m0 : cap0 ≤ 140737488351232) (z0 : a0 = none → len0 = 0 ∧ cap0 = 0)
    (r1 : Rd w a1 len1 b1) (l1 : len1 ≤ cap1) (m1 : cap1 ≤ 140737488351232) (z1 : a1 = none → len1 = 0 ∧ cap1 = 0) :
    Calls Try.prog 4 #[.slice a0 len0 cap0, .slice a1 len1 cap1] w fun e w' => e = .returned (.bool true) ∧ Below w.heap.size w w' := by
  have hL0 : b0.length = len0 := r0.1
  have hL1 : b1.length = len1 := r1.1
  have HL0 := hide hL0
  have HL1 := hide hL1
  have R0 := hide r0
  have R1 := hide r1
  have Z0 := hide z0
  clear r0 r1 hL0 hL1 z0 z1
  have q1 : decide (b0 = b0) = true := by simp
  go_enter Try.func4, Try.ntmps4
  go_wp2_with fail
  refine (seal_any _ _ _ _ _ R0.out Z0.out (by omega)).mono ?_
  rintro e w1 ⟨g, rfl, hg, ho, hb1⟩
  have HO := hide ho
  have HB1 := hide hb1
  clear ho hb1
  go_wp2_with fail
  refine (open_any _ _ _ _ _ (HO.out.rd (by rw [length_tile]; have := HL0.out; omega)) (by omega) (by omega)).mono ?_
  rintro e w2 ⟨v, rfl, ⟨av, nv, cv, rfl, hnv, ho2⟩, hb2⟩
  rw [openErr_tile]
  rw [openBody_tile] at hnv ho2
  have HO2 := hide ho2
  have HN := hide hnv
  have HB2 := hide (below_trans HB1.out hb2)
  clear ho2 hb2 HB1 HO hnv
  go_wp2_with fail
  refine (same_any _ _ _ _ _ _ _ _ _ (Got.rd HO2.out (by have := HL0.out; omega)) (R0.out.below HB2.out)).mono ?_
  rintro e w3 ⟨rfl, hb3⟩
  have HB3 := hide (below_trans HB2.out hb3)
  clear hb3 HB2 HO2
  go_wp2_with fail
  refine (seal_any _ _ _ _ _ (R0.out.below HB3.out) Z0.out (by omega)).mono ?_
  rintro e w4 ⟨g4, rfl, hg4, ho4, hb4⟩
  have HB4 := hide (below_trans HB3.out hb4)
  clear hb4 ho4 HB3
  go_wp2_with fail
  refine (open_any _ _ _ _ _ (R1.out.below HB4.out) l1 (by omega)).mono ?_
  rintro e w5 ⟨v, rfl, ⟨ay, ny, cy, rfl, hny, ho5⟩, hb5⟩
  have HO5 := hide ho5
  have HB5 := hide (below_trans HB4.out hb5)
  clear ho5 hb5 HB4
  have HNY := hide hny
  clear hny
  by_cases he : openErr b1 = 0
  · have q2 : decide (b1 = b1) = true := by simp
    have HT := hide (tile_open b1 he)
    have HLB := hide (length_openBody b1)
    rw [he]
    clear he
    go_wp2_with fail
    refine (seal_any _ _ _ _ _ (Got.rd HO5.out (by have := HLB.out; have := HL1.out; omega)) (Got.nil HO5.out) (by have := Got.cap HO5.out; have := HLB.out; have := HL1.out; omega)).mono ?_
    rintro e w6 ⟨g6, rfl, hg6, ho6, hb6⟩
    rw [HT.out] at ho6
    have HO6 := hide ho6
    have HB6 := hide (below_trans HB5.out hb6)
    clear ho6 hb6 HB5
    go_wp2_with fail
    refine (same_any _ _ _ _ _ _ _ _ _ (HO6.out.rd (by have := HL1.out; omega)) (R1.out.below HB6.out)).mono ?_
    rintro e w7 ⟨rfl, hb7⟩
    have HB7 := hide (below_trans HB6.out hb7)
    clear hb7 HB6 HO6
    go_wp2_with fail
    go_ret
    exact ⟨rfl, HB7.out⟩
  · have hz : ny = 0 := by rw [HNY.out]; simp [openBody, he]
    subst hz
    have he' : openErr b1 = 10 ∨ openErr b1 = 11 := by unfold openErr at he ⊢; split at he <;> (try split at he) <;> simp_all
    by_cases h4 : len1 < 4
    · have e11 : openErr b1 = 11 := open_short b1 (by have := HL1.out; omega)
      rw [e11]
      have hd : decide ((len1 : Int) < 4) = true := by simp; omega
      clear e11 he he'
      go_wp2_with fail
      refine (works_any _).mono ?_
      rintro e w6 ⟨rfl, hb6⟩
      have HB6 := hide (below_trans HB5.out hb6)
      clear hb6 HB5
      go_wp2_with fail
      go_ret
      exact ⟨rfl, HB6.out⟩
    · have e10 : openErr b1 = 10 := by
        rcases he' with h | h
        · exact h
        · unfold openErr at h
          rw [if_neg (by have := HL1.out; omega)] at h
          split at h <;> omega
      rw [e10]
      have hd : decide ((len1 : Int) < 4) = false := by simp; omega
      clear e10 he he'
      go_wp2_with fail
      refine (works_any _).mono ?_
      rintro e w6 ⟨rfl, hb6⟩
      have HB6 := hide (below_trans HB5.out hb6)
      clear hb6 HB5
      go_wp2_with fail
      go_ret
      exact ⟨rfl, HB6.out⟩
end Go.Proofs.Ytkooijlldpiljaa.crcRound
