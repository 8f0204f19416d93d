/-
  The statements' own check: works.
-/
import Derived.Test.YtpdlpahpefojbaaDoorFiBuildC
namespace Go.Proofs.YtpdlpahpefojbaaDoor.Filt
open Go.ChangeShapes Go.WideShapes Go.ChangeAt Go.RowKit
open Go.Proofs.YtpdlpahpefojbaaDoor.Base
set_option linter.unusedVariables false
def sA : ByteArray := ⟨#[97]⟩
def bitsA : List (BitVec 8) := laidBits [sA] 6 (List.replicate 1 0)
theorem built_one : builtF [sA] 8 = (⟨false, 6, bitsA⟩, 0) := rfl
theorem built_none : builtF [] 8 = (⟨false, 0, []⟩, 0) := rfl
theorem has_none (s : ByteArray) : hasF false 0 [] s = false := by
  unfold hasF
  rw [show kindN false 0 ([] : List (BitVec 8)).length = 0 by decide]
  rfl
theorem bitsA_len : bitsA.length = 1 := by unfold bitsA; rw [laidBits_len]; simp
theorem has_one : hasF false 6 bitsA sA = true := by
  unfold hasF
  rw [bitsA_len, show kindN false 6 1 = 2 by decide]
  exact laid_has [sA] 6 (List.replicate 1 0) (by simp) sA (by simp)
theorem rds_one (w : World) (fr : Nat × Nat) : RdS (w.alloc (.cells #[.string sA] 9 fr)) (some ⟨w.heap.size, 0, none⟩) 1 [sA] := by
  refine ⟨rfl, by omega, ?_, fun _ => ⟨w.heap.size, 0, rfl, by simp, fun i hi => ?_⟩⟩
  · intro s hs
    have : s = sA := by simpa using hs
    rw [this]; decide
  · have : i = 0 := by omega
    subst this
    rw [World.cell?_alloc_mark]; rfl
set_option maxHeartbeats 1000000 in
set_option maxRecDepth 100000 in
theorem works_any (w : World) (hK : KAt w) : Calls Tryd.prog 20 #[] w fun e w' => e = .returned (.bool true) ∧ Below w.heap.size w w' := by
  obtain ⟨w0, hw0⟩ : ∃ w0, w.alloc (.cells #[.string sA] 9) = w0 := ⟨_, rfl⟩
  have hb0 : Below w.heap.size w w0 := by rw [← hw0]; exact (Below.refl _ _).alloc (Nat.le_refl _) _
  have HR0 : Hid (RdS w0 (some ⟨w.heap.size, 0, none⟩) 1 [sA]) := by rw [← hw0]; exact rds_one w _
  have HKW := hide hK
  have HB0 := hide hb0
  have HBI := hide (build_any (some ⟨w.heap.size, 0, none⟩) 1 1 [sA] 8 w0 (kat_below hK hb0) HR0.out)
  rw [built_one] at HBI
  have HBL := hide bitsA_len
  have HHO := hide has_one
  have HHN := hide has_none
  have hsA : sA = ⟨#[97]⟩ := rfl
  unfold sA at hw0
  generalize hB : bitsA = B at HBI HBL HHO
  clear hK hb0 hB hsA
  go_enter Tryd.func20, Tryd.ntmps20
  go_wp2_with fail
  refine HBI.out.mono ?_
  rintro e w1 ⟨v, rfl, ho1, hb1⟩
  obtain ⟨va, vc, rfl⟩ := ho1.shape
  simp only at ho1 ⊢
  rw [HBL.out]
  obtain ⟨w2, hw2⟩ : ∃ w2, w1.alloc (.cells #[.bool false, .int .i64 6, .slice va 1 vc] 24) = w2 := ⟨_, rfl⟩
  have hb2 : Below w1.heap.size w1 w2 := by rw [← hw2]; exact (Below.refl _ _).alloc (Nat.le_refl _) _
  have HP2 : Hid (FB w2 w1.heap.size false 6 (.slice va 1 vc)) := by rw [← hw2]; exact FB.new _ _ _ _
  obtain ⟨p, hp⟩ : ∃ p, w1.heap.size = p := ⟨_, rfl⟩
  rw [hp] at HP2
  have HO2 := hide (ho1.below hb2)
  rw [HBL.out] at HO2
  have HB2 := hide (below_trans (below_trans HB0.out hb1) hb2)
  clear ho1 hb1 hb2
  have HBN := hide (build_any none 0 0 [] 8 w2 (kat_below HKW.out HB2.out) (rds_nil _))
  rw [built_none] at HBN
  go_wp2_with fail
  refine HBN.out.mono ?_
  rintro e w3 ⟨v, rfl, ho3, hb3⟩
  obtain ⟨ua, uc, rfl⟩ := ho3.shape
  simp only at ho3 ⊢
  obtain ⟨w4, hw4⟩ : ∃ w4, w3.alloc (.cells #[.bool false, .int .i64 0, .slice ua 0 uc] 24) = w4 := ⟨_, rfl⟩
  have hb4 : Below w3.heap.size w3 w4 := by rw [← hw4]; exact (Below.refl _ _).alloc (Nat.le_refl _) _
  have HQ4 : Hid (FB w4 w3.heap.size false 0 (.slice ua 0 uc)) := by rw [← hw4]; exact FB.new _ _ _ _
  obtain ⟨q, hq⟩ : ∃ q, w3.heap.size = q := ⟨_, rfl⟩
  rw [hq] at HQ4
  have HP4 := hide ((HP2.out.below hb3).below hb4)
  have HO4 := hide ((HO2.out.below hb3).below hb4)
  have HU4 := hide (ho3.below hb4)
  have HB4 := hide (below_trans (below_trans HB2.out hb3) hb4)
  clear ho3 hb3 hb4
  have p0 := HP4.out.c0
  have p1 := HP4.out.c1
  have p2 := HP4.out.c2
  go_wp2_with fail
  refine (has_any false 6 va 1 vc B sA w4 (kat_below HKW.out HB4.out) (Got.rd HO4.out (by rw [HBL.out]; omega)) (by omega) (by decide)).mono ?_
  rintro e w5 ⟨rfl, hb5⟩
  rw [HHO.out]
  have HP5 := hide (HP4.out.below hb5)
  have HQ5 := hide (HQ4.out.below hb5)
  have HU5 := hide (HU4.out.below hb5)
  have HB5 := hide (below_trans HB4.out hb5)
  clear hb5 p0 p1 p2
  have q0 := HQ5.out.c0
  have q1 := HQ5.out.c1
  have q2 := HQ5.out.c2
  go_wp2_with fail
  refine (has_any false 0 ua 0 uc [] sA w5 (kat_below HKW.out HB5.out) (rd_zero _ _) (by omega) (by decide)).mono ?_
  rintro e w6 ⟨rfl, hb6⟩
  rw [HHN.out]
  have HP6 := hide (HP5.out.below hb6)
  have HB6 := hide (below_trans HB5.out hb6)
  clear hb6 q0 q1 q2
  have p2 := HP6.out.c2
  go_wp2_with fail
  go_ret
  exact ⟨rfl, HB6.out⟩
end Go.Proofs.YtpdlpahpefojbaaDoor.Filt
