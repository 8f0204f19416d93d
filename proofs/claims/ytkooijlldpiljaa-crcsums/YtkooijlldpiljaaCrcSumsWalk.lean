/-
  The walk of the statement CrcSums.
-/
import Derived.Test.YtkooijlldpiljaaCrcRef
import Derived.Test.YtkooijlldpiljaaCrcFrame
namespace Go.Proofs.Ytkooijlldpiljaa.crcSums
open Go.ChangeShapes Go.WideShapes Go.ChangeAt Go.RowKit
open Go.Proofs.Ytkooijlldpiljaa.Crc
set_option linter.unusedVariables false
theorem take_padded (bs : List (BitVec 8)) : (padded bs).take bs.length = bs := by simp [padded]
set_option maxHeartbeats 1000000 in
theorem walk (a0 : Option Addr) (len0 cap0 : Nat) (b0 : List (BitVec 8)) (x1 : BitVec 32) (w : World) (r0 : Rd w a0 len0 b0) (l0 : len0 ≤ cap0) (m0 : cap0 ≤ 140737488351232) (z0 : a0 = none → len0 = 0 ∧ cap0 = 0) :
    Calls Try.prog 7 #[.slice a0 len0 cap0, .int .u32 (x1.toNat : Int)] w fun e w' => e = .returned (.bool true) ∧ Below w.heap.size w w' := by
  have hL : b0.length = len0 := r0.1
  have HL := hide hL
  have R0 := hide r0
  clear r0 hL z0
  have q1 : (((sum b0).toNat : Int) != ((sum b0).toNat : Int)) = false := by simp
  have q2 : (((extend x1 b0).toNat : Int) != ((extend x1 b0).toNat : Int)) = false := by simp
  have q3 : (decide (padded b0 = padded b0)) = true := by simp
  have q4 : (((sum (inc b0)).toNat : Int) == ((sum (inc b0)).toNat : Int)) = true := by simp
  have q5 : (((extend x1 (inc b0)).toNat : Int) == ((extend x1 (inc b0)).toNat : Int)) = true := by simp
  go_enter Try.func7, Try.ntmps7
  go_wp2_with fail
  refine (roomy_any a0 len0 cap0 b0 w R0.out (by omega)).mono ?_
  rintro e w1 ⟨g, rfl, hg, ho, hb1⟩
  have HB1 := hide hb1
  have HO := hide ho
  have HI := hide (ho.cut len0 (by omega))
  rw [← HL.out, take_padded, HL.out] at HI
  have R1 := hide (R0.out.below hb1)
  clear ho hb1
  go_wp2_with fail
  refine (sum_any _ _ _ _ _ (HI.out.rd (by have := HL.out; omega))).mono ?_
  rintro e w2 ⟨rfl, hb2⟩
  have HB2 := hide (below_trans HB1.out hb2)
  have HO2 := hide (HO.out.below hb2)
  have HI2 := hide (HI.out.below hb2)
  have R2 := hide (R1.out.below hb2)
  clear hb2 HB1 HO HI R1
  go_wp2_with fail
  refine (extend_any _ _ _ _ _ _ (HI2.out.rd (by have := HL.out; omega))).mono ?_
  rintro e w3 ⟨rfl, hb3⟩
  have HB3 := hide (below_trans HB2.out hb3)
  have HO3 := hide (HO2.out.below hb3)
  have HI3 := hide (HI2.out.below hb3)
  have R3 := hide (R2.out.below hb3)
  clear hb3 HB2 HO2 HI2 R2
  go_wp2_with fail
  refine (refSum_any _ _ _ _ _ R3.out).mono ?_
  rintro e w' ⟨rfl, rfl⟩
  go_wp2_with fail
  refine (refExtend_any _ _ _ _ _ _ R3.out).mono ?_
  rintro e w' ⟨rfl, rfl⟩
  go_wp2_with fail
  refine (roomy_any a0 len0 cap0 b0 _ R3.out (by omega)).mono ?_
  rintro e w4 ⟨g', rfl, hg', ho', hb4⟩
  have HO4 := hide ho'
  have HB4 := hide (below_trans HB3.out hb4)
  have HOO := hide (HO3.out.below hb4)
  have HI4 := hide (HI3.out.below hb4)
  have R4 := hide (R3.out.below hb4)
  clear hb4 ho' HB3 HO3 HI3 R3
  go_wp2_with fail
  refine (same_any _ _ _ _ _ _ _ _ _ (HOO.out.rd (by rw [length_padded]; have := HL.out; omega)) (HO4.out.rd (by rw [length_padded]; have := HL.out; omega))).mono ?_
  rintro e w5 ⟨rfl, hb5⟩
  have HB5 := hide (below_trans HB4.out hb5)
  have HI5 := hide (HI4.out.below hb5)
  have R5 := hide (R4.out.below hb5)
  clear hb5 HB4 HI4 R4 HO4 HOO
  go_wp2_with fail
  refine (roomy_any a0 len0 cap0 b0 _ R5.out (by omega)).mono ?_
  rintro e w6 ⟨h, rfl, hh, ho', hb6⟩
  have HB6 := hide (below_trans HB5.out hb6)
  have HI6 := hide (HI5.out.below hb6)
  have HK6 := hide (ho'.cut len0 (by omega))
  rw [← HL.out, take_padded, HL.out] at HK6
  have hgh := HI5.out.lt'
  clear hb6 ho' HB5 HI5 R5
  go_wp2_with fail
  refine (next_any _ _ _ _ _ _ HK6.out (by omega)).mono ?_
  rintro e w7 ⟨rfl, ho7, hg7⟩
  have HB7 := hide (grown_below HB6.out hg7 (by omega))
  have HI7 := hide (HI6.out.other hg7 (by omega))
  have HK7 := hide ho7
  clear ho7 hg7 HB6 HI6 HK6
  go_wp2_with fail
  refine (next_any _ _ _ _ _ _ HI7.out (by omega)).mono ?_
  rintro e w8 ⟨rfl, ho8, hg8⟩
  have HB8 := hide (grown_below HB7.out hg8 (by omega))
  have HI8 := hide ho8
  have HK8 := hide (HK7.out.other hg8 (by omega))
  clear ho8 hg8 HB7 HI7 HK7
  have LI := hide (length_inc b0)
  go_wp2_with fail
  refine (sum_any _ _ _ _ _ (HI8.out.rd (by have := HL.out; have := LI.out; omega))).mono ?_
  rintro e w9 ⟨rfl, hb9⟩
  have HB9 := hide (below_trans HB8.out hb9)
  have HI9 := hide (HI8.out.below hb9)
  have HK9 := hide (HK8.out.below hb9)
  clear hb9 HB8 HI8 HK8
  go_wp2_with fail
  refine (refSum_any _ _ _ _ _ (HK9.out.rd (by have := HL.out; have := LI.out; omega))).mono ?_
  rintro e w' ⟨rfl, rfl⟩
  go_wp2_with fail
  refine (extend_any _ _ _ _ _ _ (HI9.out.rd (by have := HL.out; have := LI.out; omega))).mono ?_
  rintro e w10 ⟨rfl, hb10⟩
  have HB10 := hide (below_trans HB9.out hb10)
  have HK10 := hide (HK9.out.below hb10)
  clear hb10 HB9 HI9 HK9
  go_wp2_with fail
  refine (refExtend_any _ _ _ _ _ _ (HK10.out.rd (by have := HL.out; have := LI.out; omega))).mono ?_
  rintro e w' ⟨rfl, rfl⟩
  go_wp2_with fail
  go_ret
  exact ⟨rfl, HB10.out⟩
end Go.Proofs.Ytkooijlldpiljaa.crcSums
