/-
  LedgerEnds: the walk.
-/
import Derived.Test.YtgpfabblmoffiabDoorLgX
import Derived.Test.YtgpfabblmoffiabDoorLgR7
namespace Go.Proofs.YtgpfabblmoffiabDoor.ledgerEnds
open Go.ChangeShapes Go.WideShapes Go.ChangeAt Go.RowKit
open Go.Proofs.YtgpfabblmoffiabDoor.Base Go.Proofs.YtgpfabblmoffiabDoor.Rf Go.Proofs.YtgpfabblmoffiabDoor.Lg
set_option linter.unusedVariables false
theorem IC.kp2 {w w' : World} {q : Nat} {K i : Int} {S : Nat → Prop} (h : IC w q K i) (k : Kp S w w') (hS : ¬ S q) : IC w' q K i := IC.kp h k hS
set_option maxHeartbeats 16000000 in
set_option maxRecDepth 100000 in
theorem walk (b : Bk) (a1 : Option Addr) (n1 c1 : Nat) (a2 : Option Addr) (n2 c2 : Nat) (K i : Int) (w : World) (ht : Tab w) (hi : Inn w b a1 n1 c1 a2 n2 c2) (hn1 : n1 ≤ 5864062014634) (hn2 : n2 ≤ 5864062014634) :
    Calls Tryd.prog 4 #[.agg #[.int .i64 b.t, .slice a1 n1 c1, .slice a2 n2 c2, .bool b.f], .agg #[.int .i64 K, .int .i64 i]] w fun e w' => e = .returned (.bool true) ∧ Below w.heap.size w w' := by
  have HTA := hide ht
  have HIN := hide hi
  have HL1 := hide hi.r1.1
  have HL2 := hide hi.r2.1
  obtain ⟨w1, w2, g, q, hw1, hw2, hg, hq, HC, HI, HB, HGQ⟩ := box_bt b.t (.slice a1 n1 c1) (.slice a2 n2 c2) b.f K i w
  have HZ2 : Hid (w.heap.size = g ∧ g < q ∧ q < w2.heap.size) := ⟨hg, HGQ.out.1, HGQ.out.2⟩
  have HDN := hide (fun a1 a2 n1 c1 n2 c2 W ht hi => done_any b K i a1 a2 n1 c1 n2 c2 W ht hi)
  have HRN := hide (fun a1 a2 n1 c1 n2 c2 W hi => refDone_any b K i a1 a2 n1 c1 n2 c2 W hi)
  have HDI := hide (fun a1 a2 n1 c1 n2 c2 W ht hi => died_any b K i a1 a2 n1 c1 n2 c2 W ht hi)
  have HRI := hide (fun a1 a2 n1 c1 n2 c2 W hi => refDied_any b K i a1 a2 n1 c1 n2 c2 W hi)
  have HDN' := hide (fun a1 a2 n1 c1 n2 c2 W ht hi => done_any (revB b) K i a1 a2 n1 c1 n2 c2 W ht hi)
  have HRN' := hide (fun a1 a2 n1 c1 n2 c2 W hi => refDone_any (revB b) K i a1 a2 n1 c1 n2 c2 W hi)
  have HDI' := hide (fun a1 a2 n1 c1 n2 c2 W ht hi => died_any (revB b) K i a1 a2 n1 c1 n2 c2 W ht hi)
  have HRI' := hide (fun a1 a2 n1 c1 n2 c2 W hi => refDied_any (revB b) K i a1 a2 n1 c1 n2 c2 W hi)
  have HSD := hide (short_dne b K i)
  have HSI := hide (short_die b K i)
  have HSD' := hide (short_dne (revB b) K i)
  have HSI' := hide (short_die (revB b) K i)
  generalize dneB b K i = D at HDN HRN HSD
  generalize dieB b K i = J at HDI HRI HSI
  generalize dneB (revB b) K i = D' at HDN' HRN' HSD'
  generalize dieB (revB b) K i = J' at HDI' HRI' HSI'
  generalize endE b K i = E at HDN HRN HDI HRI
  generalize endE (revB b) K i = E' at HDN' HRN' HDI' HRI'
  have hee : (E != E) = false := by simp
  have hee' : (E' == E') = true := by simp
  clear ht hi HGQ
  have y1 := HC.out.c0
  have y2 := HC.out.c1
  have y3 := HC.out.c2
  have y4 := HC.out.c3
  have y5 := HI.out.c0
  have y6 := HI.out.c1
  go_enter Tryd.func4, Tryd.ntmps4
  go_wp2_with fail
  refine (given_any b.m b.r b.t b.f a1 a2 n1 n2 c1 c2 w2 (HIN.out.r1.below HB.out) (HIN.out.r2.below HB.out) hn1 hn2).mono ?_
  clear hw1 hw2 hg hq y1 y2 y3 y4 y5 y6
  rintro e w3 ⟨gHMx, gHRx, rfl, hA3, hC3, hlt3, hb3⟩
  have HMx := hide hA3
  have HRx := hide hC3
  have HZ3 : Hid (w2.heap.size ≤ gHMx ∧ gHMx < gHRx ∧ gHRx < w3.heap.size) := ⟨hA3.lt.1, hlt3, hC3.lt.2⟩
  replace HC := hide (HC.out.below hb3)
  replace HI := hide (HI.out.below hb3)
  replace HB := hide (below_trans HB.out hb3)
  clear hA3 hC3 hlt3 hb3
  obtain ⟨w4, hw4⟩ : ∃ w4, w3.alloc (.cells #[.int .i64 b.t, .slice (some ⟨gHMx, 0, none⟩) n1 (n1 + 64), .slice (some ⟨gHRx, 0, none⟩) n2 (n2 + 64), .bool b.f] 26) = w4 := ⟨_, rfl⟩
  have hb4 : Below w3.heap.size w3 w4 := by rw [← hw4]; exact (Below.refl _ _).alloc (Nat.le_refl _) _
  have HX : Hid (BC w4 w3.heap.size b.t (.slice (some ⟨gHMx, 0, none⟩) n1 (n1 + 64)) (.slice (some ⟨gHRx, 0, none⟩) n2 (n2 + 64)) b.f) := by rw [← hw4]; exact bc_new _ _ _ _ _
  obtain ⟨gHX, hgHX⟩ : ∃ gHX, w3.heap.size = gHX := ⟨_, rfl⟩
  rw [hgHX] at HX
  have HZ4 : Hid (w3.heap.size = gHX ∧ gHX < w4.heap.size) := ⟨hgHX, HX.out.lt⟩
  replace HC := hide (HC.out.below hb4)
  replace HI := hide (HI.out.below hb4)
  replace HMx := hide (HMx.out.below hb4)
  replace HRx := hide (HRx.out.below hb4)
  replace HB := hide (below_trans HB.out hb4)
  clear hb4
  have y7 := HX.out.c0
  have y8 := HX.out.c1
  have y9 := HX.out.c2
  have y10 := HX.out.c3
  have y11 := HI.out.c0
  have y12 := HI.out.c1
  go_wp2_with fail
  refine (HDN.out (some ⟨gHMx, 0, none⟩) (some ⟨gHRx, 0, none⟩) n1 (n1 + 64) n2 (n2 + 64) w4 (HTA.out.below HB.out) (Rm.inn HMx.out HRx.out HL1.out HL2.out hn1 hn2)).mono ?_
  clear hw4 hgHX y7 y8 y9 y10 y11 y12
  rintro e w5 ⟨a1x, n1x, c1x, a1z, n1z, c1z, rfl, hA5, hb5⟩
  have HP := hide hA5
  have HZ5 : Hid (w4.heap.size ≤ w5.heap.size) := hb5.size
  replace HC := hide (HC.out.below hb5)
  replace HI := hide (HI.out.below hb5)
  replace HMx := hide (HMx.out.below hb5)
  replace HRx := hide (HRx.out.below hb5)
  replace HX := hide (HX.out.below hb5)
  replace HB := hide (below_trans HB.out hb5)
  clear hA5 hb5
  obtain ⟨w6, hw6⟩ : ∃ w6, w5.alloc (.cells #[.int .i64 D.t, .slice a1x n1x c1x, .slice a1z n1z c1z, .bool D.f] 26) = w6 := ⟨_, rfl⟩
  have hb6 : Below w5.heap.size w5 w6 := by rw [← hw6]; exact (Below.refl _ _).alloc (Nat.le_refl _) _
  have HPb : Hid (BC w6 w5.heap.size D.t (.slice a1x n1x c1x) (.slice a1z n1z c1z) D.f) := by rw [← hw6]; exact bc_new _ _ _ _ _
  obtain ⟨gHPb, hgHPb⟩ : ∃ gHPb, w5.heap.size = gHPb := ⟨_, rfl⟩
  rw [hgHPb] at HPb
  have HZ6 : Hid (w5.heap.size = gHPb ∧ gHPb < w6.heap.size) := ⟨hgHPb, HPb.out.lt⟩
  replace HC := hide (HC.out.below hb6)
  replace HI := hide (HI.out.below hb6)
  replace HMx := hide (HMx.out.below hb6)
  replace HRx := hide (HRx.out.below hb6)
  replace HX := hide (HX.out.below hb6)
  replace HP := hide (HP.out.below hb6)
  replace HB := hide (below_trans HB.out hb6)
  clear hb6
  have y13 := HX.out.c0
  have y14 := HX.out.c1
  have y15 := HX.out.c2
  have y16 := HX.out.c3
  have y17 := HI.out.c0
  have y18 := HI.out.c1
  go_wp2_with fail
  refine (HDN.out (some ⟨gHMx, 0, none⟩) (some ⟨gHRx, 0, none⟩) n1 (n1 + 64) n2 (n2 + 64) w6 (HTA.out.below HB.out) (Rm.inn HMx.out HRx.out HL1.out HL2.out hn1 hn2)).mono ?_
  clear hw6 hgHPb y13 y14 y15 y16 y17 y18
  rintro e w7 ⟨a2x, n2x, c2x, a2z, n2z, c2z, rfl, hA7, hb7⟩
  have HQ := hide hA7
  have HZ7 : Hid (w6.heap.size ≤ w7.heap.size) := hb7.size
  replace HC := hide (HC.out.below hb7)
  replace HI := hide (HI.out.below hb7)
  replace HMx := hide (HMx.out.below hb7)
  replace HRx := hide (HRx.out.below hb7)
  replace HX := hide (HX.out.below hb7)
  replace HP := hide (HP.out.below hb7)
  replace HPb := hide (HPb.out.below hb7)
  replace HB := hide (below_trans HB.out hb7)
  clear hA7 hb7
  obtain ⟨w8, hw8⟩ : ∃ w8, w7.alloc (.cells #[.int .i64 D.t, .slice a2x n2x c2x, .slice a2z n2z c2z, .bool D.f] 26) = w8 := ⟨_, rfl⟩
  have hb8 : Below w7.heap.size w7 w8 := by rw [← hw8]; exact (Below.refl _ _).alloc (Nat.le_refl _) _
  have HQb : Hid (BC w8 w7.heap.size D.t (.slice a2x n2x c2x) (.slice a2z n2z c2z) D.f) := by rw [← hw8]; exact bc_new _ _ _ _ _
  obtain ⟨gHQb, hgHQb⟩ : ∃ gHQb, w7.heap.size = gHQb := ⟨_, rfl⟩
  rw [hgHQb] at HQb
  have HZ8 : Hid (w7.heap.size = gHQb ∧ gHQb < w8.heap.size) := ⟨hgHQb, HQb.out.lt⟩
  replace HC := hide (HC.out.below hb8)
  replace HI := hide (HI.out.below hb8)
  replace HMx := hide (HMx.out.below hb8)
  replace HRx := hide (HRx.out.below hb8)
  replace HX := hide (HX.out.below hb8)
  replace HP := hide (HP.out.below hb8)
  replace HPb := hide (HPb.out.below hb8)
  replace HQ := hide (HQ.out.below hb8)
  replace HB := hide (below_trans HB.out hb8)
  clear hb8
  have y19 := HC.out.c0
  have y20 := HC.out.c1
  have y21 := HC.out.c2
  have y22 := HC.out.c3
  have y23 := HI.out.c0
  have y24 := HI.out.c1
  go_wp2_with fail
  refine (HRN.out a1 a2 n1 c1 n2 c2 w8 (HIN.out.below HB.out)).mono ?_
  clear hw8 hgHQb y19 y20 y21 y22 y23 y24
  rintro e w9 ⟨a3x, n3x, c3x, a3z, n3z, c3z, rfl, hA9, hb9⟩
  have HWw := hide hA9
  have HZ9 : Hid (w8.heap.size ≤ w9.heap.size) := hb9.size
  replace HC := hide (HC.out.below hb9)
  replace HI := hide (HI.out.below hb9)
  replace HMx := hide (HMx.out.below hb9)
  replace HRx := hide (HRx.out.below hb9)
  replace HX := hide (HX.out.below hb9)
  replace HP := hide (HP.out.below hb9)
  replace HPb := hide (HPb.out.below hb9)
  replace HQ := hide (HQ.out.below hb9)
  replace HQb := hide (HQb.out.below hb9)
  replace HB := hide (below_trans HB.out hb9)
  obtain rfl : n2x = n3x := by have h1 := HWw.out.l1; have h2 := HQ.out.l1; omega
  obtain rfl : n2z = n3z := by have h1 := HWw.out.l2; have h2 := HQ.out.l2; omega
  clear hA9 hb9
  obtain ⟨w10, hw10⟩ : ∃ w10, w9.alloc (.cells #[.int .i64 D.t, .slice a3x n2x c3x, .slice a3z n2z c3z, .bool D.f] 26) = w10 := ⟨_, rfl⟩
  have hb10 : Below w9.heap.size w9 w10 := by rw [← hw10]; exact (Below.refl _ _).alloc (Nat.le_refl _) _
  have HWb : Hid (BC w10 w9.heap.size D.t (.slice a3x n2x c3x) (.slice a3z n2z c3z) D.f) := by rw [← hw10]; exact bc_new _ _ _ _ _
  obtain ⟨gHWb, hgHWb⟩ : ∃ gHWb, w9.heap.size = gHWb := ⟨_, rfl⟩
  rw [hgHWb] at HWb
  have HZ10 : Hid (w9.heap.size = gHWb ∧ gHWb < w10.heap.size) := ⟨hgHWb, HWb.out.lt⟩
  replace HC := hide (HC.out.below hb10)
  replace HI := hide (HI.out.below hb10)
  replace HMx := hide (HMx.out.below hb10)
  replace HRx := hide (HRx.out.below hb10)
  replace HX := hide (HX.out.below hb10)
  replace HP := hide (HP.out.below hb10)
  replace HPb := hide (HPb.out.below hb10)
  replace HQ := hide (HQ.out.below hb10)
  replace HQb := hide (HQb.out.below hb10)
  replace HWw := hide (HWw.out.below hb10)
  replace HB := hide (below_trans HB.out hb10)
  clear hb10
  have y25 := HX.out.c0
  have y26 := HX.out.c1
  have y27 := HX.out.c2
  have y28 := HX.out.c3
  have y29 := HI.out.c0
  have y30 := HI.out.c1
  go_wp2_with fail
  refine (HDI.out (some ⟨gHMx, 0, none⟩) (some ⟨gHRx, 0, none⟩) n1 (n1 + 64) n2 (n2 + 64) w10 (HTA.out.below HB.out) (Rm.inn HMx.out HRx.out HL1.out HL2.out hn1 hn2)).mono ?_
  clear hw10 hgHWb y25 y26 y27 y28 y29 y30
  rintro e w11 ⟨a4x, n4x, c4x, a4z, n4z, c4z, rfl, hA11, hb11⟩
  have HP2 := hide hA11
  have HZ11 : Hid (w10.heap.size ≤ w11.heap.size) := hb11.size
  replace HC := hide (HC.out.below hb11)
  replace HI := hide (HI.out.below hb11)
  replace HMx := hide (HMx.out.below hb11)
  replace HRx := hide (HRx.out.below hb11)
  replace HX := hide (HX.out.below hb11)
  replace HP := hide (HP.out.below hb11)
  replace HPb := hide (HPb.out.below hb11)
  replace HQ := hide (HQ.out.below hb11)
  replace HQb := hide (HQb.out.below hb11)
  replace HWw := hide (HWw.out.below hb11)
  replace HWb := hide (HWb.out.below hb11)
  replace HB := hide (below_trans HB.out hb11)
  clear hA11 hb11
  obtain ⟨w12, hw12⟩ : ∃ w12, w11.alloc (.cells #[.int .i64 J.t, .slice a4x n4x c4x, .slice a4z n4z c4z, .bool J.f] 26) = w12 := ⟨_, rfl⟩
  have hb12 : Below w11.heap.size w11 w12 := by rw [← hw12]; exact (Below.refl _ _).alloc (Nat.le_refl _) _
  have HP2b : Hid (BC w12 w11.heap.size J.t (.slice a4x n4x c4x) (.slice a4z n4z c4z) J.f) := by rw [← hw12]; exact bc_new _ _ _ _ _
  obtain ⟨gHP2b, hgHP2b⟩ : ∃ gHP2b, w11.heap.size = gHP2b := ⟨_, rfl⟩
  rw [hgHP2b] at HP2b
  have HZ12 : Hid (w11.heap.size = gHP2b ∧ gHP2b < w12.heap.size) := ⟨hgHP2b, HP2b.out.lt⟩
  replace HC := hide (HC.out.below hb12)
  replace HI := hide (HI.out.below hb12)
  replace HMx := hide (HMx.out.below hb12)
  replace HRx := hide (HRx.out.below hb12)
  replace HX := hide (HX.out.below hb12)
  replace HP := hide (HP.out.below hb12)
  replace HPb := hide (HPb.out.below hb12)
  replace HQ := hide (HQ.out.below hb12)
  replace HQb := hide (HQb.out.below hb12)
  replace HWw := hide (HWw.out.below hb12)
  replace HWb := hide (HWb.out.below hb12)
  replace HP2 := hide (HP2.out.below hb12)
  replace HB := hide (below_trans HB.out hb12)
  clear hb12
  have y31 := HX.out.c0
  have y32 := HX.out.c1
  have y33 := HX.out.c2
  have y34 := HX.out.c3
  have y35 := HI.out.c0
  have y36 := HI.out.c1
  go_wp2_with fail
  refine (HDI.out (some ⟨gHMx, 0, none⟩) (some ⟨gHRx, 0, none⟩) n1 (n1 + 64) n2 (n2 + 64) w12 (HTA.out.below HB.out) (Rm.inn HMx.out HRx.out HL1.out HL2.out hn1 hn2)).mono ?_
  clear hw12 hgHP2b y31 y32 y33 y34 y35 y36
  rintro e w13 ⟨a5x, n5x, c5x, a5z, n5z, c5z, rfl, hA13, hb13⟩
  have HQ2 := hide hA13
  have HZ13 : Hid (w12.heap.size ≤ w13.heap.size) := hb13.size
  replace HC := hide (HC.out.below hb13)
  replace HI := hide (HI.out.below hb13)
  replace HMx := hide (HMx.out.below hb13)
  replace HRx := hide (HRx.out.below hb13)
  replace HX := hide (HX.out.below hb13)
  replace HP := hide (HP.out.below hb13)
  replace HPb := hide (HPb.out.below hb13)
  replace HQ := hide (HQ.out.below hb13)
  replace HQb := hide (HQb.out.below hb13)
  replace HWw := hide (HWw.out.below hb13)
  replace HWb := hide (HWb.out.below hb13)
  replace HP2 := hide (HP2.out.below hb13)
  replace HP2b := hide (HP2b.out.below hb13)
  replace HB := hide (below_trans HB.out hb13)
  clear hA13 hb13
  obtain ⟨w14, hw14⟩ : ∃ w14, w13.alloc (.cells #[.int .i64 J.t, .slice a5x n5x c5x, .slice a5z n5z c5z, .bool J.f] 26) = w14 := ⟨_, rfl⟩
  have hb14 : Below w13.heap.size w13 w14 := by rw [← hw14]; exact (Below.refl _ _).alloc (Nat.le_refl _) _
  have HQ2b : Hid (BC w14 w13.heap.size J.t (.slice a5x n5x c5x) (.slice a5z n5z c5z) J.f) := by rw [← hw14]; exact bc_new _ _ _ _ _
  obtain ⟨gHQ2b, hgHQ2b⟩ : ∃ gHQ2b, w13.heap.size = gHQ2b := ⟨_, rfl⟩
  rw [hgHQ2b] at HQ2b
  have HZ14 : Hid (w13.heap.size = gHQ2b ∧ gHQ2b < w14.heap.size) := ⟨hgHQ2b, HQ2b.out.lt⟩
  replace HC := hide (HC.out.below hb14)
  replace HI := hide (HI.out.below hb14)
  replace HMx := hide (HMx.out.below hb14)
  replace HRx := hide (HRx.out.below hb14)
  replace HX := hide (HX.out.below hb14)
  replace HP := hide (HP.out.below hb14)
  replace HPb := hide (HPb.out.below hb14)
  replace HQ := hide (HQ.out.below hb14)
  replace HQb := hide (HQb.out.below hb14)
  replace HWw := hide (HWw.out.below hb14)
  replace HWb := hide (HWb.out.below hb14)
  replace HP2 := hide (HP2.out.below hb14)
  replace HP2b := hide (HP2b.out.below hb14)
  replace HQ2 := hide (HQ2.out.below hb14)
  replace HB := hide (below_trans HB.out hb14)
  clear hb14
  have y37 := HC.out.c0
  have y38 := HC.out.c1
  have y39 := HC.out.c2
  have y40 := HC.out.c3
  have y41 := HI.out.c0
  have y42 := HI.out.c1
  go_wp2_with fail
  refine (HRI.out a1 a2 n1 c1 n2 c2 w14 (HIN.out.below HB.out)).mono ?_
  clear hw14 hgHQ2b y37 y38 y39 y40 y41 y42
  rintro e w15 ⟨a6x, n6x, c6x, a6z, n6z, c6z, rfl, hA15, hb15⟩
  have HW2 := hide hA15
  have HZ15 : Hid (w14.heap.size ≤ w15.heap.size) := hb15.size
  replace HC := hide (HC.out.below hb15)
  replace HI := hide (HI.out.below hb15)
  replace HMx := hide (HMx.out.below hb15)
  replace HRx := hide (HRx.out.below hb15)
  replace HX := hide (HX.out.below hb15)
  replace HP := hide (HP.out.below hb15)
  replace HPb := hide (HPb.out.below hb15)
  replace HQ := hide (HQ.out.below hb15)
  replace HQb := hide (HQb.out.below hb15)
  replace HWw := hide (HWw.out.below hb15)
  replace HWb := hide (HWb.out.below hb15)
  replace HP2 := hide (HP2.out.below hb15)
  replace HP2b := hide (HP2b.out.below hb15)
  replace HQ2 := hide (HQ2.out.below hb15)
  replace HQ2b := hide (HQ2b.out.below hb15)
  replace HB := hide (below_trans HB.out hb15)
  obtain rfl : n5x = n6x := by have h1 := HW2.out.l1; have h2 := HQ2.out.l1; omega
  obtain rfl : n5z = n6z := by have h1 := HW2.out.l2; have h2 := HQ2.out.l2; omega
  clear hA15 hb15
  obtain ⟨w16, hw16⟩ : ∃ w16, w15.alloc (.cells #[.int .i64 J.t, .slice a6x n5x c6x, .slice a6z n5z c6z, .bool J.f] 26) = w16 := ⟨_, rfl⟩
  have hb16 : Below w15.heap.size w15 w16 := by rw [← hw16]; exact (Below.refl _ _).alloc (Nat.le_refl _) _
  have HW2b : Hid (BC w16 w15.heap.size J.t (.slice a6x n5x c6x) (.slice a6z n5z c6z) J.f) := by rw [← hw16]; exact bc_new _ _ _ _ _
  obtain ⟨gHW2b, hgHW2b⟩ : ∃ gHW2b, w15.heap.size = gHW2b := ⟨_, rfl⟩
  rw [hgHW2b] at HW2b
  have HZ16 : Hid (w15.heap.size = gHW2b ∧ gHW2b < w16.heap.size) := ⟨hgHW2b, HW2b.out.lt⟩
  replace HC := hide (HC.out.below hb16)
  replace HI := hide (HI.out.below hb16)
  replace HMx := hide (HMx.out.below hb16)
  replace HRx := hide (HRx.out.below hb16)
  replace HX := hide (HX.out.below hb16)
  replace HP := hide (HP.out.below hb16)
  replace HPb := hide (HPb.out.below hb16)
  replace HQ := hide (HQ.out.below hb16)
  replace HQb := hide (HQb.out.below hb16)
  replace HWw := hide (HWw.out.below hb16)
  replace HWb := hide (HWb.out.below hb16)
  replace HP2 := hide (HP2.out.below hb16)
  replace HP2b := hide (HP2b.out.below hb16)
  replace HQ2 := hide (HQ2.out.below hb16)
  replace HQ2b := hide (HQ2b.out.below hb16)
  replace HW2 := hide (HW2.out.below hb16)
  replace HB := hide (below_trans HB.out hb16)
  clear hb16
  have y43 := HPb.out.c0
  have y44 := HPb.out.c1
  have y45 := HPb.out.c2
  have y46 := HPb.out.c3
  have y47 := HQb.out.c0
  have y48 := HQb.out.c1
  have y49 := HQb.out.c2
  have y50 := HQb.out.c3
  have y51 := HWb.out.c0
  have y52 := HWb.out.c1
  have y53 := HWb.out.c2
  have y54 := HWb.out.c3
  have HLA := HSD.out
  have HLP1 := HP.out.l1
  have HLP2 := HP.out.l2
  have HLQ1 := HQ.out.l1
  have HLQ2 := HQ.out.l2
  unfold Short at HLA
  have hAP : Calls Tryd.prog 19 #[.agg #[.int .i64 D.t, .slice a1x n1x c1x, .slice a1z n1z c1z, .bool D.f], .agg #[.int .i64 D.t, .slice a2x n2x c2x, .slice a2z n2z c2z, .bool D.f], .agg #[.int .i64 D.t, .slice a3x n2x c3x, .slice a3z n2z c3z, .bool D.f]] w16 fun e w' => e = .returned (.bool true) ∧ Kp (fun i => w4.heap.size ≤ i ∧ i < w8.heap.size) w16 w' := by
    have := HZ2.out; have := HZ3.out; have := HZ4.out; have := HZ5.out; have := HZ6.out; have := HZ7.out; have := HZ8.out; have := HZ9.out; have := HZ10.out; have := HZ11.out; have := HZ12.out; have := HZ13.out; have := HZ14.out; have := HZ15.out; have := HZ16.out;
    exact apart2_any D.t D.t D.f D.f _ _ _ _ _ _ _ _ _ _ _ _ _ _ _ _ w4.heap.size w6.heap.size w8.heap.size w9.heap.size D.m D.r D.m D.r w16 (ans_mono HP.out (Nat.le_refl _) (by omega)) (ans_mono HQ.out (Nat.le_refl _) (by omega)) HWw.out (by omega) (by omega) (by omega) (by omega) (by omega) (by omega) (by omega)
  have HAP := hide hAP
  clear hAP HLA HLP1 HLP2 HLQ1 HLQ2
  go_wp2_with fail
  refine HAP.out.mono ?_
  clear hw16 hgHW2b y43 y44 y45 y46 y47 y48 y49 y50 y51 y52 y53 y54
  clear HAP
  rintro e w17 ⟨rfl, hk17⟩
  have HZ17 : Hid (w16.heap.size ≤ w17.heap.size) := hk17.size
  clear HP HQ HWw HPb HQb HWb
  replace HC := hide (HC.out.kp hk17 (by have := HZ2.out; have := HZ3.out; have := HZ4.out; have := HZ5.out; have := HZ6.out; have := HZ7.out; have := HZ8.out; have := HZ9.out; have := HZ10.out; have := HZ11.out; have := HZ12.out; have := HZ13.out; have := HZ14.out; have := HZ15.out; have := HZ16.out; omega))
  replace HI := hide (HI.out.kp hk17 (by have := HZ2.out; have := HZ3.out; have := HZ4.out; have := HZ5.out; have := HZ6.out; have := HZ7.out; have := HZ8.out; have := HZ9.out; have := HZ10.out; have := HZ11.out; have := HZ12.out; have := HZ13.out; have := HZ14.out; have := HZ15.out; have := HZ16.out; omega))
  replace HMx := hide (HMx.out.kp hk17 (by have := HZ2.out; have := HZ3.out; have := HZ4.out; have := HZ5.out; have := HZ6.out; have := HZ7.out; have := HZ8.out; have := HZ9.out; have := HZ10.out; have := HZ11.out; have := HZ12.out; have := HZ13.out; have := HZ14.out; have := HZ15.out; have := HZ16.out; omega))
  replace HRx := hide (HRx.out.kp hk17 (by have := HZ2.out; have := HZ3.out; have := HZ4.out; have := HZ5.out; have := HZ6.out; have := HZ7.out; have := HZ8.out; have := HZ9.out; have := HZ10.out; have := HZ11.out; have := HZ12.out; have := HZ13.out; have := HZ14.out; have := HZ15.out; have := HZ16.out; omega))
  replace HX := hide (HX.out.kp hk17 (by have := HZ2.out; have := HZ3.out; have := HZ4.out; have := HZ5.out; have := HZ6.out; have := HZ7.out; have := HZ8.out; have := HZ9.out; have := HZ10.out; have := HZ11.out; have := HZ12.out; have := HZ13.out; have := HZ14.out; have := HZ15.out; have := HZ16.out; omega))
  replace HP2 := hide (HP2.out.kp hk17 (fun i e => .inl (by have := HZ2.out; have := HZ3.out; have := HZ4.out; have := HZ5.out; have := HZ6.out; have := HZ7.out; have := HZ8.out; have := HZ9.out; have := HZ10.out; have := HZ11.out; have := HZ12.out; have := HZ13.out; have := HZ14.out; have := HZ15.out; have := HZ16.out; have h1 := e.1; have h2 := e.2; omega)))
  replace HP2b := hide (HP2b.out.kp hk17 (by have := HZ2.out; have := HZ3.out; have := HZ4.out; have := HZ5.out; have := HZ6.out; have := HZ7.out; have := HZ8.out; have := HZ9.out; have := HZ10.out; have := HZ11.out; have := HZ12.out; have := HZ13.out; have := HZ14.out; have := HZ15.out; have := HZ16.out; omega))
  replace HQ2 := hide (HQ2.out.kp hk17 (fun i e => .inl (by have := HZ2.out; have := HZ3.out; have := HZ4.out; have := HZ5.out; have := HZ6.out; have := HZ7.out; have := HZ8.out; have := HZ9.out; have := HZ10.out; have := HZ11.out; have := HZ12.out; have := HZ13.out; have := HZ14.out; have := HZ15.out; have := HZ16.out; have h1 := e.1; have h2 := e.2; omega)))
  replace HQ2b := hide (HQ2b.out.kp hk17 (by have := HZ2.out; have := HZ3.out; have := HZ4.out; have := HZ5.out; have := HZ6.out; have := HZ7.out; have := HZ8.out; have := HZ9.out; have := HZ10.out; have := HZ11.out; have := HZ12.out; have := HZ13.out; have := HZ14.out; have := HZ15.out; have := HZ16.out; omega))
  replace HW2 := hide (HW2.out.kp hk17 (fun i e => .inl (by have := HZ2.out; have := HZ3.out; have := HZ4.out; have := HZ5.out; have := HZ6.out; have := HZ7.out; have := HZ8.out; have := HZ9.out; have := HZ10.out; have := HZ11.out; have := HZ12.out; have := HZ13.out; have := HZ14.out; have := HZ15.out; have := HZ16.out; have h1 := e.1; have h2 := e.2; omega)))
  replace HW2b := hide (HW2b.out.kp hk17 (by have := HZ2.out; have := HZ3.out; have := HZ4.out; have := HZ5.out; have := HZ6.out; have := HZ7.out; have := HZ8.out; have := HZ9.out; have := HZ10.out; have := HZ11.out; have := HZ12.out; have := HZ13.out; have := HZ14.out; have := HZ15.out; have := HZ16.out; omega))
  replace HB := hide (hk17.below HB.out (fun i e => by have := HZ2.out; have := HZ3.out; have := HZ4.out; have := HZ5.out; have := HZ6.out; have := HZ7.out; have := HZ8.out; have := HZ9.out; have := HZ10.out; have := HZ11.out; have := HZ12.out; have := HZ13.out; have := HZ14.out; have := HZ15.out; have := HZ16.out; have h1 := e.1; omega) HB.out.size)
  clear hk17
  have y55 := HP2b.out.c0
  have y56 := HP2b.out.c1
  have y57 := HP2b.out.c2
  have y58 := HP2b.out.c3
  have y59 := HQ2b.out.c0
  have y60 := HQ2b.out.c1
  have y61 := HQ2b.out.c2
  have y62 := HQ2b.out.c3
  have y63 := HW2b.out.c0
  have y64 := HW2b.out.c1
  have y65 := HW2b.out.c2
  have y66 := HW2b.out.c3
  have HLA := HSI.out
  have HLP1 := HP2.out.l1
  have HLP2 := HP2.out.l2
  have HLQ1 := HQ2.out.l1
  have HLQ2 := HQ2.out.l2
  unfold Short at HLA
  have hAP : Calls Tryd.prog 19 #[.agg #[.int .i64 J.t, .slice a4x n4x c4x, .slice a4z n4z c4z, .bool J.f], .agg #[.int .i64 J.t, .slice a5x n5x c5x, .slice a5z n5z c5z, .bool J.f], .agg #[.int .i64 J.t, .slice a6x n5x c6x, .slice a6z n5z c6z, .bool J.f]] w17 fun e w' => e = .returned (.bool true) ∧ Kp (fun i => w10.heap.size ≤ i ∧ i < w14.heap.size) w17 w' := by
    have := HZ2.out; have := HZ3.out; have := HZ4.out; have := HZ5.out; have := HZ6.out; have := HZ7.out; have := HZ8.out; have := HZ9.out; have := HZ10.out; have := HZ11.out; have := HZ12.out; have := HZ13.out; have := HZ14.out; have := HZ15.out; have := HZ16.out; have := HZ17.out;
    exact apart2_any J.t J.t J.f J.f _ _ _ _ _ _ _ _ _ _ _ _ _ _ _ _ w10.heap.size w12.heap.size w14.heap.size w15.heap.size J.m J.r J.m J.r w17 (ans_mono HP2.out (Nat.le_refl _) (by omega)) (ans_mono HQ2.out (Nat.le_refl _) (by omega)) HW2.out (by omega) (by omega) (by omega) (by omega) (by omega) (by omega) (by omega)
  have HAP := hide hAP
  clear hAP HLA HLP1 HLP2 HLQ1 HLQ2
  go_wp2_with fail
  refine HAP.out.mono ?_
  clear  y55 y56 y57 y58 y59 y60 y61 y62 y63 y64 y65 y66
  clear HAP
  rintro e w18 ⟨rfl, hk18⟩
  have HZ18 : Hid (w17.heap.size ≤ w18.heap.size) := hk18.size
  clear HP2 HQ2 HW2 HP2b HQ2b HW2b
  replace HC := hide (HC.out.kp hk18 (by have := HZ2.out; have := HZ3.out; have := HZ4.out; have := HZ5.out; have := HZ6.out; have := HZ7.out; have := HZ8.out; have := HZ9.out; have := HZ10.out; have := HZ11.out; have := HZ12.out; have := HZ13.out; have := HZ14.out; have := HZ15.out; have := HZ16.out; have := HZ17.out; omega))
  replace HI := hide (HI.out.kp hk18 (by have := HZ2.out; have := HZ3.out; have := HZ4.out; have := HZ5.out; have := HZ6.out; have := HZ7.out; have := HZ8.out; have := HZ9.out; have := HZ10.out; have := HZ11.out; have := HZ12.out; have := HZ13.out; have := HZ14.out; have := HZ15.out; have := HZ16.out; have := HZ17.out; omega))
  replace HMx := hide (HMx.out.kp hk18 (by have := HZ2.out; have := HZ3.out; have := HZ4.out; have := HZ5.out; have := HZ6.out; have := HZ7.out; have := HZ8.out; have := HZ9.out; have := HZ10.out; have := HZ11.out; have := HZ12.out; have := HZ13.out; have := HZ14.out; have := HZ15.out; have := HZ16.out; have := HZ17.out; omega))
  replace HRx := hide (HRx.out.kp hk18 (by have := HZ2.out; have := HZ3.out; have := HZ4.out; have := HZ5.out; have := HZ6.out; have := HZ7.out; have := HZ8.out; have := HZ9.out; have := HZ10.out; have := HZ11.out; have := HZ12.out; have := HZ13.out; have := HZ14.out; have := HZ15.out; have := HZ16.out; have := HZ17.out; omega))
  replace HX := hide (HX.out.kp hk18 (by have := HZ2.out; have := HZ3.out; have := HZ4.out; have := HZ5.out; have := HZ6.out; have := HZ7.out; have := HZ8.out; have := HZ9.out; have := HZ10.out; have := HZ11.out; have := HZ12.out; have := HZ13.out; have := HZ14.out; have := HZ15.out; have := HZ16.out; have := HZ17.out; omega))
  replace HB := hide (hk18.below HB.out (fun i e => by have := HZ2.out; have := HZ3.out; have := HZ4.out; have := HZ5.out; have := HZ6.out; have := HZ7.out; have := HZ8.out; have := HZ9.out; have := HZ10.out; have := HZ11.out; have := HZ12.out; have := HZ13.out; have := HZ14.out; have := HZ15.out; have := HZ16.out; have := HZ17.out; have h1 := e.1; omega) HB.out.size)
  clear hk18
  have y67 := HX.out.c0
  have y68 := HX.out.c1
  have y69 := HX.out.c2
  have y70 := HX.out.c3
  have y71 := HC.out.c0
  have y72 := HC.out.c1
  have y73 := HC.out.c2
  have y74 := HC.out.c3
  go_wp2_with fail
  refine (kept_any b.m b.r b.t b.f gHMx gHRx a1 a2 n1 n2 c1 c2 w.heap.size w18 (HMx.out.mono (by have := HZ2.out; have := HZ3.out; have := HZ4.out; have := HZ5.out; have := HZ6.out; have := HZ7.out; have := HZ8.out; have := HZ9.out; have := HZ10.out; have := HZ11.out; have := HZ12.out; have := HZ13.out; have := HZ14.out; have := HZ15.out; have := HZ16.out; have := HZ17.out; have := HZ18.out; omega)) (HRx.out.mono (by have := HZ2.out; have := HZ3.out; have := HZ4.out; have := HZ5.out; have := HZ6.out; have := HZ7.out; have := HZ8.out; have := HZ9.out; have := HZ10.out; have := HZ11.out; have := HZ12.out; have := HZ13.out; have := HZ14.out; have := HZ15.out; have := HZ16.out; have := HZ17.out; have := HZ18.out; omega)) (HIN.out.r1.below HB.out) (HIN.out.r2.below HB.out) hn1 hn2).mono ?_
  clear  y67 y68 y69 y70 y71 y72 y73 y74
  rintro e w19 ⟨rfl, hb19⟩
  have HZ19 : Hid (w18.heap.size ≤ w19.heap.size) := hb19.size
  replace HC := hide (HC.out.below hb19)
  replace HI := hide (HI.out.below hb19)
  replace HMx := hide (HMx.out.below hb19)
  replace HRx := hide (HRx.out.below hb19)
  replace HX := hide (HX.out.below hb19)
  replace HB := hide (below_trans HB.out hb19)
  clear hb19
  have y75 := HC.out.c0
  have y76 := HC.out.c1
  have y77 := HC.out.c2
  have y78 := HC.out.c3
  go_wp2_with fail
  refine (given_any b.m b.r b.t b.f a1 a2 n1 n2 c1 c2 w19 (HIN.out.r1.below HB.out) (HIN.out.r2.below HB.out) hn1 hn2).mono ?_
  clear  y75 y76 y77 y78
  rintro e w20 ⟨gHMo, gHRo, rfl, hA20, hC20, hlt20, hb20⟩
  have HMo := hide hA20
  have HRo := hide hC20
  have HZ20 : Hid (w19.heap.size ≤ gHMo ∧ gHMo < gHRo ∧ gHRo < w20.heap.size) := ⟨hA20.lt.1, hlt20, hC20.lt.2⟩
  replace HC := hide (HC.out.below hb20)
  replace HI := hide (HI.out.below hb20)
  replace HMx := hide (HMx.out.below hb20)
  replace HRx := hide (HRx.out.below hb20)
  replace HX := hide (HX.out.below hb20)
  replace HB := hide (below_trans HB.out hb20)
  clear hA20 hC20 hlt20 hb20
  go_wp2_with fail
  refine (turned_any b.m b.r b.t b.f gHMo gHRo n1 n2 _ _ w20 HMo.out HRo.out (by have := HZ2.out; have := HZ3.out; have := HZ4.out; have := HZ5.out; have := HZ6.out; have := HZ7.out; have := HZ8.out; have := HZ9.out; have := HZ10.out; have := HZ11.out; have := HZ12.out; have := HZ13.out; have := HZ14.out; have := HZ15.out; have := HZ16.out; have := HZ17.out; have := HZ18.out; have := HZ19.out; have := HZ20.out; omega) HL1.out HL2.out hn1 hn2).mono ?_
  rintro e w21 ⟨rfl, hv21, hr21, hk21⟩
  clear HMo HRo
  have HMo := hide hv21
  have HRo := hide hr21
  have HZ21 : Hid (w20.heap.size ≤ w21.heap.size) := hk21.size
  replace HC := hide (HC.out.kp hk21 (by have := HZ2.out; have := HZ3.out; have := HZ4.out; have := HZ5.out; have := HZ6.out; have := HZ7.out; have := HZ8.out; have := HZ9.out; have := HZ10.out; have := HZ11.out; have := HZ12.out; have := HZ13.out; have := HZ14.out; have := HZ15.out; have := HZ16.out; have := HZ17.out; have := HZ18.out; have := HZ19.out; have := HZ20.out; omega))
  replace HI := hide (HI.out.kp hk21 (by have := HZ2.out; have := HZ3.out; have := HZ4.out; have := HZ5.out; have := HZ6.out; have := HZ7.out; have := HZ8.out; have := HZ9.out; have := HZ10.out; have := HZ11.out; have := HZ12.out; have := HZ13.out; have := HZ14.out; have := HZ15.out; have := HZ16.out; have := HZ17.out; have := HZ18.out; have := HZ19.out; have := HZ20.out; omega))
  replace HMx := hide (HMx.out.kp hk21 (by have := HZ2.out; have := HZ3.out; have := HZ4.out; have := HZ5.out; have := HZ6.out; have := HZ7.out; have := HZ8.out; have := HZ9.out; have := HZ10.out; have := HZ11.out; have := HZ12.out; have := HZ13.out; have := HZ14.out; have := HZ15.out; have := HZ16.out; have := HZ17.out; have := HZ18.out; have := HZ19.out; have := HZ20.out; omega))
  replace HRx := hide (HRx.out.kp hk21 (by have := HZ2.out; have := HZ3.out; have := HZ4.out; have := HZ5.out; have := HZ6.out; have := HZ7.out; have := HZ8.out; have := HZ9.out; have := HZ10.out; have := HZ11.out; have := HZ12.out; have := HZ13.out; have := HZ14.out; have := HZ15.out; have := HZ16.out; have := HZ17.out; have := HZ18.out; have := HZ19.out; have := HZ20.out; omega))
  replace HX := hide (HX.out.kp hk21 (by have := HZ2.out; have := HZ3.out; have := HZ4.out; have := HZ5.out; have := HZ6.out; have := HZ7.out; have := HZ8.out; have := HZ9.out; have := HZ10.out; have := HZ11.out; have := HZ12.out; have := HZ13.out; have := HZ14.out; have := HZ15.out; have := HZ16.out; have := HZ17.out; have := HZ18.out; have := HZ19.out; have := HZ20.out; omega))
  replace HB := hide (hk21.below HB.out (fun i e => by have := HZ2.out; have := HZ3.out; have := HZ4.out; have := HZ5.out; have := HZ6.out; have := HZ7.out; have := HZ8.out; have := HZ9.out; have := HZ10.out; have := HZ11.out; have := HZ12.out; have := HZ13.out; have := HZ14.out; have := HZ15.out; have := HZ16.out; have := HZ17.out; have := HZ18.out; have := HZ19.out; have := HZ20.out; rcases e with e | e <;> omega) HB.out.size)
  clear hv21 hr21 hk21
  obtain ⟨w22, hw22⟩ : ∃ w22, w21.alloc (.cells #[.int .i64 b.t, .slice (some ⟨gHMo, 0, none⟩) n1 (n1 + 64), .slice (some ⟨gHRo, 0, none⟩) n2 (n2 + 64), .bool b.f] 26) = w22 := ⟨_, rfl⟩
  have hb22 : Below w21.heap.size w21 w22 := by rw [← hw22]; exact (Below.refl _ _).alloc (Nat.le_refl _) _
  have HO : Hid (BC w22 w21.heap.size b.t (.slice (some ⟨gHMo, 0, none⟩) n1 (n1 + 64)) (.slice (some ⟨gHRo, 0, none⟩) n2 (n2 + 64)) b.f) := by rw [← hw22]; exact bc_new _ _ _ _ _
  obtain ⟨gHO, hgHO⟩ : ∃ gHO, w21.heap.size = gHO := ⟨_, rfl⟩
  rw [hgHO] at HO
  have HZ22 : Hid (w21.heap.size = gHO ∧ gHO < w22.heap.size) := ⟨hgHO, HO.out.lt⟩
  replace HC := hide (HC.out.below hb22)
  replace HI := hide (HI.out.below hb22)
  replace HMx := hide (HMx.out.below hb22)
  replace HRx := hide (HRx.out.below hb22)
  replace HX := hide (HX.out.below hb22)
  replace HMo := hide (HMo.out.below hb22)
  replace HRo := hide (HRo.out.below hb22)
  replace HB := hide (below_trans HB.out hb22)
  clear hb22
  have y79 := HX.out.c0
  have y80 := HX.out.c1
  have y81 := HX.out.c2
  have y82 := HX.out.c3
  go_wp2_with fail
  refine (turned_any b.m b.r b.t b.f gHMx gHRx n1 n2 _ _ w22 HMx.out HRx.out (by have := HZ2.out; have := HZ3.out; have := HZ4.out; have := HZ5.out; have := HZ6.out; have := HZ7.out; have := HZ8.out; have := HZ9.out; have := HZ10.out; have := HZ11.out; have := HZ12.out; have := HZ13.out; have := HZ14.out; have := HZ15.out; have := HZ16.out; have := HZ17.out; have := HZ18.out; have := HZ19.out; have := HZ20.out; have := HZ21.out; have := HZ22.out; omega) HL1.out HL2.out hn1 hn2).mono ?_
  clear hw22 hgHO y79 y80 y81 y82
  rintro e w23 ⟨rfl, hv23, hr23, hk23⟩
  clear HMx HRx
  have HMx := hide hv23
  have HRx := hide hr23
  have HZ23 : Hid (w22.heap.size ≤ w23.heap.size) := hk23.size
  replace HC := hide (HC.out.kp hk23 (by have := HZ2.out; have := HZ3.out; have := HZ4.out; have := HZ5.out; have := HZ6.out; have := HZ7.out; have := HZ8.out; have := HZ9.out; have := HZ10.out; have := HZ11.out; have := HZ12.out; have := HZ13.out; have := HZ14.out; have := HZ15.out; have := HZ16.out; have := HZ17.out; have := HZ18.out; have := HZ19.out; have := HZ20.out; have := HZ21.out; have := HZ22.out; omega))
  replace HI := hide (HI.out.kp hk23 (by have := HZ2.out; have := HZ3.out; have := HZ4.out; have := HZ5.out; have := HZ6.out; have := HZ7.out; have := HZ8.out; have := HZ9.out; have := HZ10.out; have := HZ11.out; have := HZ12.out; have := HZ13.out; have := HZ14.out; have := HZ15.out; have := HZ16.out; have := HZ17.out; have := HZ18.out; have := HZ19.out; have := HZ20.out; have := HZ21.out; have := HZ22.out; omega))
  replace HX := hide (HX.out.kp hk23 (by have := HZ2.out; have := HZ3.out; have := HZ4.out; have := HZ5.out; have := HZ6.out; have := HZ7.out; have := HZ8.out; have := HZ9.out; have := HZ10.out; have := HZ11.out; have := HZ12.out; have := HZ13.out; have := HZ14.out; have := HZ15.out; have := HZ16.out; have := HZ17.out; have := HZ18.out; have := HZ19.out; have := HZ20.out; have := HZ21.out; have := HZ22.out; omega))
  replace HMo := hide (HMo.out.kp hk23 (by have := HZ2.out; have := HZ3.out; have := HZ4.out; have := HZ5.out; have := HZ6.out; have := HZ7.out; have := HZ8.out; have := HZ9.out; have := HZ10.out; have := HZ11.out; have := HZ12.out; have := HZ13.out; have := HZ14.out; have := HZ15.out; have := HZ16.out; have := HZ17.out; have := HZ18.out; have := HZ19.out; have := HZ20.out; have := HZ21.out; have := HZ22.out; omega))
  replace HRo := hide (HRo.out.kp hk23 (by have := HZ2.out; have := HZ3.out; have := HZ4.out; have := HZ5.out; have := HZ6.out; have := HZ7.out; have := HZ8.out; have := HZ9.out; have := HZ10.out; have := HZ11.out; have := HZ12.out; have := HZ13.out; have := HZ14.out; have := HZ15.out; have := HZ16.out; have := HZ17.out; have := HZ18.out; have := HZ19.out; have := HZ20.out; have := HZ21.out; have := HZ22.out; omega))
  replace HO := hide (HO.out.kp hk23 (by have := HZ2.out; have := HZ3.out; have := HZ4.out; have := HZ5.out; have := HZ6.out; have := HZ7.out; have := HZ8.out; have := HZ9.out; have := HZ10.out; have := HZ11.out; have := HZ12.out; have := HZ13.out; have := HZ14.out; have := HZ15.out; have := HZ16.out; have := HZ17.out; have := HZ18.out; have := HZ19.out; have := HZ20.out; have := HZ21.out; have := HZ22.out; omega))
  replace HB := hide (hk23.below HB.out (fun i e => by have := HZ2.out; have := HZ3.out; have := HZ4.out; have := HZ5.out; have := HZ6.out; have := HZ7.out; have := HZ8.out; have := HZ9.out; have := HZ10.out; have := HZ11.out; have := HZ12.out; have := HZ13.out; have := HZ14.out; have := HZ15.out; have := HZ16.out; have := HZ17.out; have := HZ18.out; have := HZ19.out; have := HZ20.out; have := HZ21.out; have := HZ22.out; rcases e with e | e <;> omega) HB.out.size)
  clear hv23 hr23 hk23
  have y83 := HX.out.c0
  have y84 := HX.out.c1
  have y85 := HX.out.c2
  have y86 := HX.out.c3
  have y87 := HI.out.c0
  have y88 := HI.out.c1
  go_wp2_with fail
  refine (HDN'.out (some ⟨gHMx, 0, none⟩) (some ⟨gHRx, 0, none⟩) n1 (n1 + 64) n2 (n2 + 64) w23 (HTA.out.below HB.out) (Rv.inn HMx.out HRx.out HL1.out HL2.out hn1 hn2)).mono ?_
  clear  y83 y84 y85 y86 y87 y88
  rintro e w24 ⟨a7x, n7x, c7x, a7z, n7z, c7z, rfl, hA24, hb24⟩
  have HU := hide hA24
  have HZ24 : Hid (w23.heap.size ≤ w24.heap.size) := hb24.size
  replace HC := hide (HC.out.below hb24)
  replace HI := hide (HI.out.below hb24)
  replace HX := hide (HX.out.below hb24)
  replace HMo := hide (HMo.out.below hb24)
  replace HRo := hide (HRo.out.below hb24)
  replace HO := hide (HO.out.below hb24)
  replace HMx := hide (HMx.out.below hb24)
  replace HRx := hide (HRx.out.below hb24)
  replace HB := hide (below_trans HB.out hb24)
  clear hA24 hb24
  obtain ⟨w25, hw25⟩ : ∃ w25, w24.alloc (.cells #[.int .i64 D'.t, .slice a7x n7x c7x, .slice a7z n7z c7z, .bool D'.f] 26) = w25 := ⟨_, rfl⟩
  have hb25 : Below w24.heap.size w24 w25 := by rw [← hw25]; exact (Below.refl _ _).alloc (Nat.le_refl _) _
  have HUb : Hid (BC w25 w24.heap.size D'.t (.slice a7x n7x c7x) (.slice a7z n7z c7z) D'.f) := by rw [← hw25]; exact bc_new _ _ _ _ _
  obtain ⟨gHUb, hgHUb⟩ : ∃ gHUb, w24.heap.size = gHUb := ⟨_, rfl⟩
  rw [hgHUb] at HUb
  have HZ25 : Hid (w24.heap.size = gHUb ∧ gHUb < w25.heap.size) := ⟨hgHUb, HUb.out.lt⟩
  replace HC := hide (HC.out.below hb25)
  replace HI := hide (HI.out.below hb25)
  replace HX := hide (HX.out.below hb25)
  replace HMo := hide (HMo.out.below hb25)
  replace HRo := hide (HRo.out.below hb25)
  replace HO := hide (HO.out.below hb25)
  replace HMx := hide (HMx.out.below hb25)
  replace HRx := hide (HRx.out.below hb25)
  replace HU := hide (HU.out.below hb25)
  replace HB := hide (below_trans HB.out hb25)
  clear hb25
  have y89 := HO.out.c0
  have y90 := HO.out.c1
  have y91 := HO.out.c2
  have y92 := HO.out.c3
  have y93 := HI.out.c0
  have y94 := HI.out.c1
  go_wp2_with fail
  refine (HRN'.out (some ⟨gHMo, 0, none⟩) (some ⟨gHRo, 0, none⟩) n1 (n1 + 64) n2 (n2 + 64) w25 (Rv.inn HMo.out HRo.out HL1.out HL2.out hn1 hn2)).mono ?_
  clear hw25 hgHUb y89 y90 y91 y92 y93 y94
  rintro e w26 ⟨a8x, n8x, c8x, a8z, n8z, c8z, rfl, hA26, hb26⟩
  have HV := hide hA26
  have HZ26 : Hid (w25.heap.size ≤ w26.heap.size) := hb26.size
  replace HC := hide (HC.out.below hb26)
  replace HI := hide (HI.out.below hb26)
  replace HX := hide (HX.out.below hb26)
  replace HMo := hide (HMo.out.below hb26)
  replace HRo := hide (HRo.out.below hb26)
  replace HO := hide (HO.out.below hb26)
  replace HMx := hide (HMx.out.below hb26)
  replace HRx := hide (HRx.out.below hb26)
  replace HU := hide (HU.out.below hb26)
  replace HUb := hide (HUb.out.below hb26)
  replace HB := hide (below_trans HB.out hb26)
  obtain rfl : n7x = n8x := by have h1 := HV.out.l1; have h2 := HU.out.l1; omega
  obtain rfl : n7z = n8z := by have h1 := HV.out.l2; have h2 := HU.out.l2; omega
  clear hA26 hb26
  obtain ⟨w27, hw27⟩ : ∃ w27, w26.alloc (.cells #[.int .i64 D'.t, .slice a8x n7x c8x, .slice a8z n7z c8z, .bool D'.f] 26) = w27 := ⟨_, rfl⟩
  have hb27 : Below w26.heap.size w26 w27 := by rw [← hw27]; exact (Below.refl _ _).alloc (Nat.le_refl _) _
  have HVb : Hid (BC w27 w26.heap.size D'.t (.slice a8x n7x c8x) (.slice a8z n7z c8z) D'.f) := by rw [← hw27]; exact bc_new _ _ _ _ _
  obtain ⟨gHVb, hgHVb⟩ : ∃ gHVb, w26.heap.size = gHVb := ⟨_, rfl⟩
  rw [hgHVb] at HVb
  have HZ27 : Hid (w26.heap.size = gHVb ∧ gHVb < w27.heap.size) := ⟨hgHVb, HVb.out.lt⟩
  replace HC := hide (HC.out.below hb27)
  replace HI := hide (HI.out.below hb27)
  replace HX := hide (HX.out.below hb27)
  replace HMo := hide (HMo.out.below hb27)
  replace HRo := hide (HRo.out.below hb27)
  replace HO := hide (HO.out.below hb27)
  replace HMx := hide (HMx.out.below hb27)
  replace HRx := hide (HRx.out.below hb27)
  replace HU := hide (HU.out.below hb27)
  replace HUb := hide (HUb.out.below hb27)
  replace HV := hide (HV.out.below hb27)
  replace HB := hide (below_trans HB.out hb27)
  clear hb27
  have y95 := HX.out.c0
  have y96 := HX.out.c1
  have y97 := HX.out.c2
  have y98 := HX.out.c3
  have y99 := HI.out.c0
  have y100 := HI.out.c1
  go_wp2_with fail
  refine (HDI'.out (some ⟨gHMx, 0, none⟩) (some ⟨gHRx, 0, none⟩) n1 (n1 + 64) n2 (n2 + 64) w27 (HTA.out.below HB.out) (Rv.inn HMx.out HRx.out HL1.out HL2.out hn1 hn2)).mono ?_
  clear hw27 hgHVb y95 y96 y97 y98 y99 y100
  rintro e w28 ⟨a9x, n9x, c9x, a9z, n9z, c9z, rfl, hA28, hb28⟩
  have HY := hide hA28
  have HZ28 : Hid (w27.heap.size ≤ w28.heap.size) := hb28.size
  replace HC := hide (HC.out.below hb28)
  replace HI := hide (HI.out.below hb28)
  replace HX := hide (HX.out.below hb28)
  replace HMo := hide (HMo.out.below hb28)
  replace HRo := hide (HRo.out.below hb28)
  replace HO := hide (HO.out.below hb28)
  replace HMx := hide (HMx.out.below hb28)
  replace HRx := hide (HRx.out.below hb28)
  replace HU := hide (HU.out.below hb28)
  replace HUb := hide (HUb.out.below hb28)
  replace HV := hide (HV.out.below hb28)
  replace HVb := hide (HVb.out.below hb28)
  replace HB := hide (below_trans HB.out hb28)
  clear hA28 hb28
  obtain ⟨w29, hw29⟩ : ∃ w29, w28.alloc (.cells #[.int .i64 J'.t, .slice a9x n9x c9x, .slice a9z n9z c9z, .bool J'.f] 26) = w29 := ⟨_, rfl⟩
  have hb29 : Below w28.heap.size w28 w29 := by rw [← hw29]; exact (Below.refl _ _).alloc (Nat.le_refl _) _
  have HYb : Hid (BC w29 w28.heap.size J'.t (.slice a9x n9x c9x) (.slice a9z n9z c9z) J'.f) := by rw [← hw29]; exact bc_new _ _ _ _ _
  obtain ⟨gHYb, hgHYb⟩ : ∃ gHYb, w28.heap.size = gHYb := ⟨_, rfl⟩
  rw [hgHYb] at HYb
  have HZ29 : Hid (w28.heap.size = gHYb ∧ gHYb < w29.heap.size) := ⟨hgHYb, HYb.out.lt⟩
  replace HC := hide (HC.out.below hb29)
  replace HI := hide (HI.out.below hb29)
  replace HX := hide (HX.out.below hb29)
  replace HMo := hide (HMo.out.below hb29)
  replace HRo := hide (HRo.out.below hb29)
  replace HO := hide (HO.out.below hb29)
  replace HMx := hide (HMx.out.below hb29)
  replace HRx := hide (HRx.out.below hb29)
  replace HU := hide (HU.out.below hb29)
  replace HUb := hide (HUb.out.below hb29)
  replace HV := hide (HV.out.below hb29)
  replace HVb := hide (HVb.out.below hb29)
  replace HY := hide (HY.out.below hb29)
  replace HB := hide (below_trans HB.out hb29)
  clear hb29
  have y101 := HO.out.c0
  have y102 := HO.out.c1
  have y103 := HO.out.c2
  have y104 := HO.out.c3
  have y105 := HI.out.c0
  have y106 := HI.out.c1
  go_wp2_with fail
  refine (HRI'.out (some ⟨gHMo, 0, none⟩) (some ⟨gHRo, 0, none⟩) n1 (n1 + 64) n2 (n2 + 64) w29 (Rv.inn HMo.out HRo.out HL1.out HL2.out hn1 hn2)).mono ?_
  clear hw29 hgHYb y101 y102 y103 y104 y105 y106
  rintro e w30 ⟨a10x, n10x, c10x, a10z, n10z, c10z, rfl, hA30, hb30⟩
  have HW3 := hide hA30
  have HZ30 : Hid (w29.heap.size ≤ w30.heap.size) := hb30.size
  replace HC := hide (HC.out.below hb30)
  replace HI := hide (HI.out.below hb30)
  replace HX := hide (HX.out.below hb30)
  replace HMo := hide (HMo.out.below hb30)
  replace HRo := hide (HRo.out.below hb30)
  replace HO := hide (HO.out.below hb30)
  replace HMx := hide (HMx.out.below hb30)
  replace HRx := hide (HRx.out.below hb30)
  replace HU := hide (HU.out.below hb30)
  replace HUb := hide (HUb.out.below hb30)
  replace HV := hide (HV.out.below hb30)
  replace HVb := hide (HVb.out.below hb30)
  replace HY := hide (HY.out.below hb30)
  replace HYb := hide (HYb.out.below hb30)
  replace HB := hide (below_trans HB.out hb30)
  obtain rfl : n9x = n10x := by have h1 := HW3.out.l1; have h2 := HY.out.l1; omega
  obtain rfl : n9z = n10z := by have h1 := HW3.out.l2; have h2 := HY.out.l2; omega
  clear hA30 hb30
  obtain ⟨w31, hw31⟩ : ∃ w31, w30.alloc (.cells #[.int .i64 J'.t, .slice a10x n9x c10x, .slice a10z n9z c10z, .bool J'.f] 26) = w31 := ⟨_, rfl⟩
  have hb31 : Below w30.heap.size w30 w31 := by rw [← hw31]; exact (Below.refl _ _).alloc (Nat.le_refl _) _
  have HW3b : Hid (BC w31 w30.heap.size J'.t (.slice a10x n9x c10x) (.slice a10z n9z c10z) J'.f) := by rw [← hw31]; exact bc_new _ _ _ _ _
  obtain ⟨gHW3b, hgHW3b⟩ : ∃ gHW3b, w30.heap.size = gHW3b := ⟨_, rfl⟩
  rw [hgHW3b] at HW3b
  have HZ31 : Hid (w30.heap.size = gHW3b ∧ gHW3b < w31.heap.size) := ⟨hgHW3b, HW3b.out.lt⟩
  replace HC := hide (HC.out.below hb31)
  replace HI := hide (HI.out.below hb31)
  replace HX := hide (HX.out.below hb31)
  replace HMo := hide (HMo.out.below hb31)
  replace HRo := hide (HRo.out.below hb31)
  replace HO := hide (HO.out.below hb31)
  replace HMx := hide (HMx.out.below hb31)
  replace HRx := hide (HRx.out.below hb31)
  replace HU := hide (HU.out.below hb31)
  replace HUb := hide (HUb.out.below hb31)
  replace HV := hide (HV.out.below hb31)
  replace HVb := hide (HVb.out.below hb31)
  replace HY := hide (HY.out.below hb31)
  replace HYb := hide (HYb.out.below hb31)
  replace HW3 := hide (HW3.out.below hb31)
  replace HB := hide (below_trans HB.out hb31)
  clear hb31
  have y107 := HUb.out.c0
  have y108 := HUb.out.c1
  have y109 := HUb.out.c2
  have y110 := HUb.out.c3
  have y111 := HVb.out.c0
  have y112 := HVb.out.c1
  have y113 := HVb.out.c2
  have y114 := HVb.out.c3
  have HLA := HSD'.out
  unfold Short at HLA
  have HLP1 := HU.out.l1
  have HLP2 := HU.out.l2
  have HSA := hide (same_eq D'.m D'.r D'.t D'.f a7x a7z a8x a8z n7x n7z c7x c7z c8x c8z w31 (HU.out.r1 (by omega)) (HU.out.r2 (by omega)) (HV.out.r1 (by omega)) (HV.out.r2 (by omega)))
  clear HLA HLP1 HLP2
  go_wp2_with fail
  refine HSA.out.mono ?_
  clear hw31 hgHW3b y107 y108 y109 y110 y111 y112 y113 y114
  clear HSA
  rintro e w32 ⟨rfl, hb32⟩
  replace HC := hide (HC.out.below hb32)
  replace HI := hide (HI.out.below hb32)
  replace HX := hide (HX.out.below hb32)
  replace HMo := hide (HMo.out.below hb32)
  replace HRo := hide (HRo.out.below hb32)
  replace HO := hide (HO.out.below hb32)
  replace HMx := hide (HMx.out.below hb32)
  replace HRx := hide (HRx.out.below hb32)
  replace HU := hide (HU.out.below hb32)
  replace HUb := hide (HUb.out.below hb32)
  replace HV := hide (HV.out.below hb32)
  replace HVb := hide (HVb.out.below hb32)
  replace HY := hide (HY.out.below hb32)
  replace HYb := hide (HYb.out.below hb32)
  replace HW3 := hide (HW3.out.below hb32)
  replace HW3b := hide (HW3b.out.below hb32)
  replace HB := hide (below_trans HB.out hb32)
  clear hb32
  have y115 := HYb.out.c0
  have y116 := HYb.out.c1
  have y117 := HYb.out.c2
  have y118 := HYb.out.c3
  have y119 := HW3b.out.c0
  have y120 := HW3b.out.c1
  have y121 := HW3b.out.c2
  have y122 := HW3b.out.c3
  have HLA := HSI'.out
  unfold Short at HLA
  have HLP1 := HY.out.l1
  have HLP2 := HY.out.l2
  have HSA := hide (same_eq J'.m J'.r J'.t J'.f a9x a9z a10x a10z n9x n9z c9x c9z c10x c10z w32 (HY.out.r1 (by omega)) (HY.out.r2 (by omega)) (HW3.out.r1 (by omega)) (HW3.out.r2 (by omega)))
  clear HLA HLP1 HLP2
  go_wp2_with fail
  refine HSA.out.mono ?_
  clear  y115 y116 y117 y118 y119 y120 y121 y122
  clear HSA
  rintro e w33 ⟨rfl, hb33⟩
  replace HC := hide (HC.out.below hb33)
  replace HI := hide (HI.out.below hb33)
  replace HX := hide (HX.out.below hb33)
  replace HMo := hide (HMo.out.below hb33)
  replace HRo := hide (HRo.out.below hb33)
  replace HO := hide (HO.out.below hb33)
  replace HMx := hide (HMx.out.below hb33)
  replace HRx := hide (HRx.out.below hb33)
  replace HU := hide (HU.out.below hb33)
  replace HUb := hide (HUb.out.below hb33)
  replace HV := hide (HV.out.below hb33)
  replace HVb := hide (HVb.out.below hb33)
  replace HY := hide (HY.out.below hb33)
  replace HYb := hide (HYb.out.below hb33)
  replace HW3 := hide (HW3.out.below hb33)
  replace HW3b := hide (HW3b.out.below hb33)
  replace HB := hide (below_trans HB.out hb33)
  clear hb33
  go_wp2_with fail
  go_ret
  exact ⟨rfl, HB.out⟩
end Go.Proofs.YtgpfabblmoffiabDoor.ledgerEnds
