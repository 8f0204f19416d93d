/-
  LedgerBlames: the walk.
-/
import Derived.Test.YtgpfabblmoffiaaDoorLgX
import Derived.Test.YtgpfabblmoffiaaDoorLgRl
namespace Go.Proofs.YtgpfabblmoffiaaDoor.ledgerBlames
open Go.ChangeShapes Go.WideShapes Go.ChangeAt Go.RowKit
open Go.Proofs.YtgpfabblmoffiaaDoor.Base Go.Proofs.YtgpfabblmoffiaaDoor.Rf Go.Proofs.YtgpfabblmoffiaaDoor.Lg
set_option linter.unusedVariables false
theorem IC.kp2 {w w' : World} {q : Nat} {K i : Int} {S : Nat → Prop} (h : IC w q K i) (k : Kp S w w') (hS : ¬ S q) : IC w' q K i := IC.kp h k hS
set_option maxHeartbeats 16000000 in
set_option maxRecDepth 100000 in
theorem walk (b : Bk) (a1 : Option Addr) (n1 c1 : Nat) (a2 : Option Addr) (n2 c2 : Nat) (i j n : Int) (w : World) (ht : Tab w) (hi : Inn w b a1 n1 c1 a2 n2 c2) (hn1 : n1 ≤ 5864062014634) (hn2 : n2 ≤ 5864062014634) (_ : (Lit.int .i64 i).wf = true) (_ : (Lit.int .i64 j).wf = true) (_ : (Lit.int .i64 n).wf = true) :
    Calls Tryd.prog 7 #[.agg #[.int .i64 b.t, .slice a1 n1 c1, .slice a2 n2 c2, .bool b.f], .int .i64 i, .int .i64 j, .int .i64 n] w fun e w' => e = .returned (.bool true) ∧ Below w.heap.size w w' := by
  have HTA := hide ht
  have HIN := hide hi
  have HL1 := hide hi.r1.1
  have HL2 := hide hi.r2.1
  obtain ⟨w1, hw1⟩ : ∃ w1, w.alloc (.cells #[.int .i64 b.t, .slice a1 n1 c1, .slice a2 n2 c2, .bool b.f] 26) = w1 := ⟨_, rfl⟩
  have HB : Hid (Below w.heap.size w w1) := by rw [← hw1]; exact (Below.refl _ _).alloc (Nat.le_refl _) _
  have HC : Hid (BC w1 w.heap.size b.t (.slice a1 n1 c1) (.slice a2 n2 c2) b.f) := by rw [← hw1]; exact bc_new _ _ _ _ _
  obtain ⟨g, hg⟩ : ∃ g, w.heap.size = g := ⟨_, rfl⟩
  rw [hg] at HC
  have HZ1 : Hid (w.heap.size = g ∧ g < w1.heap.size) := ⟨hg, HC.out.lt⟩
  have HDN := hide (fun a1 a2 n1 c1 n2 c2 W ht hi => blame_any b i j n a1 a2 n1 c1 n2 c2 W ht hi)
  have HRN := hide (fun a1 a2 n1 c1 n2 c2 W hi => refBlame_any b i j n a1 a2 n1 c1 n2 c2 W hi)
  have HDN' := hide (fun a1 a2 n1 c1 n2 c2 W ht hi => blame_any (revB b) i j n a1 a2 n1 c1 n2 c2 W ht hi)
  have HRN' := hide (fun a1 a2 n1 c1 n2 c2 W hi => refBlame_any (revB b) i j n a1 a2 n1 c1 n2 c2 W hi)
  have HSD := hide (short_blm b i j n)
  have HSD' := hide (short_blm (revB b) i j n)
  generalize blmB b i j n = D at HDN HRN HSD
  generalize blmB (revB b) i j n = D' at HDN' HRN' HSD'
  generalize blmE b i j n = E at HDN HRN
  generalize blmE (revB b) i j n = E' at HDN' HRN'
  generalize blmC b i j n = Y at HDN HRN
  generalize blmC (revB b) i j n = Y' at HDN' HRN'
  have hee : (E != E) = false := by simp
  have hey : (Y != Y) = false := by simp
  have hee' : (E' == E') = true := by simp
  have hey' : (Y' == Y') = true := by simp
  clear ht hi
  have y1 := HC.out.c0
  have y2 := HC.out.c1
  have y3 := HC.out.c2
  have y4 := HC.out.c3
  go_enter Tryd.func7, Tryd.ntmps7
  go_wp2_with fail
  refine (given_any b.m b.r b.t b.f a1 a2 n1 n2 c1 c2 w1 (HIN.out.r1.below HB.out) (HIN.out.r2.below HB.out) hn1 hn2).mono ?_
  clear hw1 hg y1 y2 y3 y4
  rintro e w2 ⟨gHMx, gHRx, rfl, hA2, hC2, hlt2, hb2⟩
  have HMx := hide hA2
  have HRx := hide hC2
  have HZ2 : Hid (w1.heap.size ≤ gHMx ∧ gHMx < gHRx ∧ gHRx < w2.heap.size) := ⟨hA2.lt.1, hlt2, hC2.lt.2⟩
  replace HC := hide (HC.out.below hb2)
  replace HB := hide (below_trans HB.out hb2)
  clear hA2 hC2 hlt2 hb2
  obtain ⟨w3, hw3⟩ : ∃ w3, w2.alloc (.cells #[.int .i64 b.t, .slice (some ⟨gHMx, 0, none⟩) n1 (n1 + 64), .slice (some ⟨gHRx, 0, none⟩) n2 (n2 + 64), .bool b.f] 26) = w3 := ⟨_, rfl⟩
  have hb3 : Below w2.heap.size w2 w3 := by rw [← hw3]; exact (Below.refl _ _).alloc (Nat.le_refl _) _
  have HX : Hid (BC w3 w2.heap.size b.t (.slice (some ⟨gHMx, 0, none⟩) n1 (n1 + 64)) (.slice (some ⟨gHRx, 0, none⟩) n2 (n2 + 64)) b.f) := by rw [← hw3]; exact bc_new _ _ _ _ _
  obtain ⟨gHX, hgHX⟩ : ∃ gHX, w2.heap.size = gHX := ⟨_, rfl⟩
  rw [hgHX] at HX
  have HZ3 : Hid (w2.heap.size = gHX ∧ gHX < w3.heap.size) := ⟨hgHX, HX.out.lt⟩
  replace HC := hide (HC.out.below hb3)
  replace HMx := hide (HMx.out.below hb3)
  replace HRx := hide (HRx.out.below hb3)
  replace HB := hide (below_trans HB.out hb3)
  clear hb3
  have y5 := HX.out.c0
  have y6 := HX.out.c1
  have y7 := HX.out.c2
  have y8 := HX.out.c3
  go_wp2_with fail
  refine (HDN.out (some ⟨gHMx, 0, none⟩) (some ⟨gHRx, 0, none⟩) n1 (n1 + 64) n2 (n2 + 64) w3 (HTA.out.below HB.out) (Rm.inn HMx.out HRx.out HL1.out HL2.out hn1 hn2)).mono ?_
  clear hw3 hgHX y5 y6 y7 y8
  rintro e w4 ⟨a1x, n1x, c1x, a1z, n1z, c1z, rfl, hA4, hb4⟩
  have HP := hide hA4
  have HZ4 : Hid (w3.heap.size ≤ w4.heap.size) := hb4.size
  replace HC := hide (HC.out.below hb4)
  replace HMx := hide (HMx.out.below hb4)
  replace HRx := hide (HRx.out.below hb4)
  replace HX := hide (HX.out.below hb4)
  replace HB := hide (below_trans HB.out hb4)
  clear hA4 hb4
  obtain ⟨w5, hw5⟩ : ∃ w5, w4.alloc (.cells #[.int .i64 D.t, .slice a1x n1x c1x, .slice a1z n1z c1z, .bool D.f] 26) = w5 := ⟨_, rfl⟩
  have hb5 : Below w4.heap.size w4 w5 := by rw [← hw5]; exact (Below.refl _ _).alloc (Nat.le_refl _) _
  have HPb : Hid (BC w5 w4.heap.size D.t (.slice a1x n1x c1x) (.slice a1z n1z c1z) D.f) := by rw [← hw5]; exact bc_new _ _ _ _ _
  obtain ⟨gHPb, hgHPb⟩ : ∃ gHPb, w4.heap.size = gHPb := ⟨_, rfl⟩
  rw [hgHPb] at HPb
  have HZ5 : Hid (w4.heap.size = gHPb ∧ gHPb < w5.heap.size) := ⟨hgHPb, HPb.out.lt⟩
  replace HC := hide (HC.out.below hb5)
  replace HMx := hide (HMx.out.below hb5)
  replace HRx := hide (HRx.out.below hb5)
  replace HX := hide (HX.out.below hb5)
  replace HP := hide (HP.out.below hb5)
  replace HB := hide (below_trans HB.out hb5)
  clear hb5
  have y9 := HX.out.c0
  have y10 := HX.out.c1
  have y11 := HX.out.c2
  have y12 := HX.out.c3
  go_wp2_with fail
  refine (HDN.out (some ⟨gHMx, 0, none⟩) (some ⟨gHRx, 0, none⟩) n1 (n1 + 64) n2 (n2 + 64) w5 (HTA.out.below HB.out) (Rm.inn HMx.out HRx.out HL1.out HL2.out hn1 hn2)).mono ?_
  clear hw5 hgHPb y9 y10 y11 y12
  rintro e w6 ⟨a2x, n2x, c2x, a2z, n2z, c2z, rfl, hA6, hb6⟩
  have HQ := hide hA6
  have HZ6 : Hid (w5.heap.size ≤ w6.heap.size) := hb6.size
  replace HC := hide (HC.out.below hb6)
  replace HMx := hide (HMx.out.below hb6)
  replace HRx := hide (HRx.out.below hb6)
  replace HX := hide (HX.out.below hb6)
  replace HP := hide (HP.out.below hb6)
  replace HPb := hide (HPb.out.below hb6)
  replace HB := hide (below_trans HB.out hb6)
  clear hA6 hb6
  obtain ⟨w7, hw7⟩ : ∃ w7, w6.alloc (.cells #[.int .i64 D.t, .slice a2x n2x c2x, .slice a2z n2z c2z, .bool D.f] 26) = w7 := ⟨_, rfl⟩
  have hb7 : Below w6.heap.size w6 w7 := by rw [← hw7]; exact (Below.refl _ _).alloc (Nat.le_refl _) _
  have HQb : Hid (BC w7 w6.heap.size D.t (.slice a2x n2x c2x) (.slice a2z n2z c2z) D.f) := by rw [← hw7]; exact bc_new _ _ _ _ _
  obtain ⟨gHQb, hgHQb⟩ : ∃ gHQb, w6.heap.size = gHQb := ⟨_, rfl⟩
  rw [hgHQb] at HQb
  have HZ7 : Hid (w6.heap.size = gHQb ∧ gHQb < w7.heap.size) := ⟨hgHQb, HQb.out.lt⟩
  replace HC := hide (HC.out.below hb7)
  replace HMx := hide (HMx.out.below hb7)
  replace HRx := hide (HRx.out.below hb7)
  replace HX := hide (HX.out.below hb7)
  replace HP := hide (HP.out.below hb7)
  replace HPb := hide (HPb.out.below hb7)
  replace HQ := hide (HQ.out.below hb7)
  replace HB := hide (below_trans HB.out hb7)
  clear hb7
  have y13 := HC.out.c0
  have y14 := HC.out.c1
  have y15 := HC.out.c2
  have y16 := HC.out.c3
  go_wp2_with fail
  refine (HRN.out a1 a2 n1 c1 n2 c2 w7 (HIN.out.below HB.out)).mono ?_
  clear hw7 hgHQb y13 y14 y15 y16
  rintro e w8 ⟨a3x, n3x, c3x, a3z, n3z, c3z, rfl, hA8, hb8⟩
  have HWw := hide hA8
  have HZ8 : Hid (w7.heap.size ≤ w8.heap.size) := hb8.size
  replace HC := hide (HC.out.below hb8)
  replace HMx := hide (HMx.out.below hb8)
  replace HRx := hide (HRx.out.below hb8)
  replace HX := hide (HX.out.below hb8)
  replace HP := hide (HP.out.below hb8)
  replace HPb := hide (HPb.out.below hb8)
  replace HQ := hide (HQ.out.below hb8)
  replace HQb := hide (HQb.out.below hb8)
  replace HB := hide (below_trans HB.out hb8)
  obtain rfl : n2x = n3x := by have h1 := HWw.out.l1; have h2 := HQ.out.l1; omega
  obtain rfl : n2z = n3z := by have h1 := HWw.out.l2; have h2 := HQ.out.l2; omega
  clear hA8 hb8
  obtain ⟨w9, hw9⟩ : ∃ w9, w8.alloc (.cells #[.int .i64 D.t, .slice a3x n2x c3x, .slice a3z n2z c3z, .bool D.f] 26) = w9 := ⟨_, rfl⟩
  have hb9 : Below w8.heap.size w8 w9 := by rw [← hw9]; exact (Below.refl _ _).alloc (Nat.le_refl _) _
  have HWb : Hid (BC w9 w8.heap.size D.t (.slice a3x n2x c3x) (.slice a3z n2z c3z) D.f) := by rw [← hw9]; exact bc_new _ _ _ _ _
  obtain ⟨gHWb, hgHWb⟩ : ∃ gHWb, w8.heap.size = gHWb := ⟨_, rfl⟩
  rw [hgHWb] at HWb
  have HZ9 : Hid (w8.heap.size = gHWb ∧ gHWb < w9.heap.size) := ⟨hgHWb, HWb.out.lt⟩
  replace HC := hide (HC.out.below hb9)
  replace HMx := hide (HMx.out.below hb9)
  replace HRx := hide (HRx.out.below hb9)
  replace HX := hide (HX.out.below hb9)
  replace HP := hide (HP.out.below hb9)
  replace HPb := hide (HPb.out.below hb9)
  replace HQ := hide (HQ.out.below hb9)
  replace HQb := hide (HQb.out.below hb9)
  replace HWw := hide (HWw.out.below hb9)
  replace HB := hide (below_trans HB.out hb9)
  clear hb9
  have y17 := HPb.out.c0
  have y18 := HPb.out.c1
  have y19 := HPb.out.c2
  have y20 := HPb.out.c3
  have y21 := HQb.out.c0
  have y22 := HQb.out.c1
  have y23 := HQb.out.c2
  have y24 := HQb.out.c3
  have y25 := HWb.out.c0
  have y26 := HWb.out.c1
  have y27 := HWb.out.c2
  have y28 := HWb.out.c3
  have HLA := HSD.out
  have HLP1 := HP.out.l1
  have HLP2 := HP.out.l2
  have HLQ1 := HQ.out.l1
  have HLQ2 := HQ.out.l2
  unfold Short at HLA
  have hAP : Calls Tryd.prog 29 #[.agg #[.int .i64 D.t, .slice a1x n1x c1x, .slice a1z n1z c1z, .bool D.f], .agg #[.int .i64 D.t, .slice a2x n2x c2x, .slice a2z n2z c2z, .bool D.f], .agg #[.int .i64 D.t, .slice a3x n2x c3x, .slice a3z n2z c3z, .bool D.f]] w9 fun e w' => e = .returned (.bool true) ∧ Kp (fun i => w3.heap.size ≤ i ∧ i < w7.heap.size) w9 w' := by
    have := HZ1.out; have := HZ2.out; have := HZ3.out; have := HZ4.out; have := HZ5.out; have := HZ6.out; have := HZ7.out; have := HZ8.out; have := HZ9.out;
    exact apart2_any D.t D.t D.f D.f _ _ _ _ _ _ _ _ _ _ _ _ _ _ _ _ w3.heap.size w5.heap.size w7.heap.size w8.heap.size D.m D.r D.m D.r w9 (ans_mono HP.out (Nat.le_refl _) (by omega)) (ans_mono HQ.out (Nat.le_refl _) (by omega)) HWw.out (by omega) (by omega) (by omega) (by omega) (by omega) (by omega) (by omega)
  have HAP := hide hAP
  clear hAP HLA HLP1 HLP2 HLQ1 HLQ2
  go_wp2_with fail
  refine HAP.out.mono ?_
  clear hw9 hgHWb y17 y18 y19 y20 y21 y22 y23 y24 y25 y26 y27 y28
  clear HAP
  rintro e w10 ⟨rfl, hk10⟩
  have HZ10 : Hid (w9.heap.size ≤ w10.heap.size) := hk10.size
  clear HP HQ HWw HPb HQb HWb
  replace HC := hide (HC.out.kp hk10 (by have := HZ1.out; have := HZ2.out; have := HZ3.out; have := HZ4.out; have := HZ5.out; have := HZ6.out; have := HZ7.out; have := HZ8.out; have := HZ9.out; omega))
  replace HMx := hide (HMx.out.kp hk10 (by have := HZ1.out; have := HZ2.out; have := HZ3.out; have := HZ4.out; have := HZ5.out; have := HZ6.out; have := HZ7.out; have := HZ8.out; have := HZ9.out; omega))
  replace HRx := hide (HRx.out.kp hk10 (by have := HZ1.out; have := HZ2.out; have := HZ3.out; have := HZ4.out; have := HZ5.out; have := HZ6.out; have := HZ7.out; have := HZ8.out; have := HZ9.out; omega))
  replace HX := hide (HX.out.kp hk10 (by have := HZ1.out; have := HZ2.out; have := HZ3.out; have := HZ4.out; have := HZ5.out; have := HZ6.out; have := HZ7.out; have := HZ8.out; have := HZ9.out; omega))
  replace HB := hide (hk10.below HB.out (fun i e => by have := HZ1.out; have := HZ2.out; have := HZ3.out; have := HZ4.out; have := HZ5.out; have := HZ6.out; have := HZ7.out; have := HZ8.out; have := HZ9.out; have h1 := e.1; omega) HB.out.size)
  clear hk10
  have y29 := HX.out.c0
  have y30 := HX.out.c1
  have y31 := HX.out.c2
  have y32 := HX.out.c3
  have y33 := HC.out.c0
  have y34 := HC.out.c1
  have y35 := HC.out.c2
  have y36 := HC.out.c3
  go_wp2_with fail
  refine (kept_any b.m b.r b.t b.f gHMx gHRx a1 a2 n1 n2 c1 c2 w.heap.size w10 (HMx.out.mono (by have := HZ1.out; have := HZ2.out; have := HZ3.out; have := HZ4.out; have := HZ5.out; have := HZ6.out; have := HZ7.out; have := HZ8.out; have := HZ9.out; have := HZ10.out; omega)) (HRx.out.mono (by have := HZ1.out; have := HZ2.out; have := HZ3.out; have := HZ4.out; have := HZ5.out; have := HZ6.out; have := HZ7.out; have := HZ8.out; have := HZ9.out; have := HZ10.out; omega)) (HIN.out.r1.below HB.out) (HIN.out.r2.below HB.out) hn1 hn2).mono ?_
  clear  y29 y30 y31 y32 y33 y34 y35 y36
  rintro e w11 ⟨rfl, hb11⟩
  have HZ11 : Hid (w10.heap.size ≤ w11.heap.size) := hb11.size
  replace HC := hide (HC.out.below hb11)
  replace HMx := hide (HMx.out.below hb11)
  replace HRx := hide (HRx.out.below hb11)
  replace HX := hide (HX.out.below hb11)
  replace HB := hide (below_trans HB.out hb11)
  clear hb11
  have y37 := HX.out.c0
  have y38 := HX.out.c1
  have y39 := HX.out.c2
  have y40 := HX.out.c3
  go_wp2_with fail
  refine (turned_any b.m b.r b.t b.f gHMx gHRx n1 n2 _ _ w11 HMx.out HRx.out (by have := HZ1.out; have := HZ2.out; have := HZ3.out; have := HZ4.out; have := HZ5.out; have := HZ6.out; have := HZ7.out; have := HZ8.out; have := HZ9.out; have := HZ10.out; have := HZ11.out; omega) HL1.out HL2.out hn1 hn2).mono ?_
  clear  y37 y38 y39 y40
  rintro e w12 ⟨rfl, hv12, hr12, hk12⟩
  clear HMx HRx
  have HMx := hide hv12
  have HRx := hide hr12
  have HZ12 : Hid (w11.heap.size ≤ w12.heap.size) := hk12.size
  replace HC := hide (HC.out.kp hk12 (by have := HZ1.out; have := HZ2.out; have := HZ3.out; have := HZ4.out; have := HZ5.out; have := HZ6.out; have := HZ7.out; have := HZ8.out; have := HZ9.out; have := HZ10.out; have := HZ11.out; omega))
  replace HX := hide (HX.out.kp hk12 (by have := HZ1.out; have := HZ2.out; have := HZ3.out; have := HZ4.out; have := HZ5.out; have := HZ6.out; have := HZ7.out; have := HZ8.out; have := HZ9.out; have := HZ10.out; have := HZ11.out; omega))
  replace HB := hide (hk12.below HB.out (fun i e => by have := HZ1.out; have := HZ2.out; have := HZ3.out; have := HZ4.out; have := HZ5.out; have := HZ6.out; have := HZ7.out; have := HZ8.out; have := HZ9.out; have := HZ10.out; have := HZ11.out; rcases e with e | e <;> omega) HB.out.size)
  clear hv12 hr12 hk12
  go_wp2_with fail
  refine (HDN'.out (some ⟨gHMx, 0, none⟩) (some ⟨gHRx, 0, none⟩) n1 (n1 + 64) n2 (n2 + 64) w12 (HTA.out.below HB.out) (Rv.inn HMx.out HRx.out HL1.out HL2.out hn1 hn2)).mono ?_
  rintro e w13 ⟨a4x, n4x, c4x, a4z, n4z, c4z, rfl, hA13, hb13⟩
  have HU := hide hA13
  have HZ13 : Hid (w12.heap.size ≤ w13.heap.size) := hb13.size
  replace HC := hide (HC.out.below hb13)
  replace HX := hide (HX.out.below hb13)
  replace HMx := hide (HMx.out.below hb13)
  replace HRx := hide (HRx.out.below hb13)
  replace HB := hide (below_trans HB.out hb13)
  clear hA13 hb13
  obtain ⟨w14, hw14⟩ : ∃ w14, w13.alloc (.cells #[.int .i64 D'.t, .slice a4x n4x c4x, .slice a4z n4z c4z, .bool D'.f] 26) = w14 := ⟨_, rfl⟩
  have hb14 : Below w13.heap.size w13 w14 := by rw [← hw14]; exact (Below.refl _ _).alloc (Nat.le_refl _) _
  have HUb : Hid (BC w14 w13.heap.size D'.t (.slice a4x n4x c4x) (.slice a4z n4z c4z) D'.f) := by rw [← hw14]; exact bc_new _ _ _ _ _
  obtain ⟨gHUb, hgHUb⟩ : ∃ gHUb, w13.heap.size = gHUb := ⟨_, rfl⟩
  rw [hgHUb] at HUb
  have HZ14 : Hid (w13.heap.size = gHUb ∧ gHUb < w14.heap.size) := ⟨hgHUb, HUb.out.lt⟩
  replace HC := hide (HC.out.below hb14)
  replace HX := hide (HX.out.below hb14)
  replace HMx := hide (HMx.out.below hb14)
  replace HRx := hide (HRx.out.below hb14)
  replace HU := hide (HU.out.below hb14)
  replace HB := hide (below_trans HB.out hb14)
  clear hb14
  have y41 := HC.out.c0
  have y42 := HC.out.c1
  have y43 := HC.out.c2
  have y44 := HC.out.c3
  go_wp2_with fail
  refine (given_any b.m b.r b.t b.f a1 a2 n1 n2 c1 c2 w14 (HIN.out.r1.below HB.out) (HIN.out.r2.below HB.out) hn1 hn2).mono ?_
  clear hw14 hgHUb y41 y42 y43 y44
  rintro e w15 ⟨gHMo, gHRo, rfl, hA15, hC15, hlt15, hb15⟩
  have HMo := hide hA15
  have HRo := hide hC15
  have HZ15 : Hid (w14.heap.size ≤ gHMo ∧ gHMo < gHRo ∧ gHRo < w15.heap.size) := ⟨hA15.lt.1, hlt15, hC15.lt.2⟩
  replace HC := hide (HC.out.below hb15)
  replace HX := hide (HX.out.below hb15)
  replace HMx := hide (HMx.out.below hb15)
  replace HRx := hide (HRx.out.below hb15)
  replace HU := hide (HU.out.below hb15)
  replace HUb := hide (HUb.out.below hb15)
  replace HB := hide (below_trans HB.out hb15)
  clear hA15 hC15 hlt15 hb15
  go_wp2_with fail
  refine (turned_any b.m b.r b.t b.f gHMo gHRo n1 n2 _ _ w15 HMo.out HRo.out (by have := HZ1.out; have := HZ2.out; have := HZ3.out; have := HZ4.out; have := HZ5.out; have := HZ6.out; have := HZ7.out; have := HZ8.out; have := HZ9.out; have := HZ10.out; have := HZ11.out; have := HZ12.out; have := HZ13.out; have := HZ14.out; have := HZ15.out; omega) HL1.out HL2.out hn1 hn2).mono ?_
  rintro e w16 ⟨rfl, hv16, hr16, hk16⟩
  clear HMo HRo
  have HMo := hide hv16
  have HRo := hide hr16
  have HZ16 : Hid (w15.heap.size ≤ w16.heap.size) := hk16.size
  replace HC := hide (HC.out.kp hk16 (by have := HZ1.out; have := HZ2.out; have := HZ3.out; have := HZ4.out; have := HZ5.out; have := HZ6.out; have := HZ7.out; have := HZ8.out; have := HZ9.out; have := HZ10.out; have := HZ11.out; have := HZ12.out; have := HZ13.out; have := HZ14.out; have := HZ15.out; omega))
  replace HX := hide (HX.out.kp hk16 (by have := HZ1.out; have := HZ2.out; have := HZ3.out; have := HZ4.out; have := HZ5.out; have := HZ6.out; have := HZ7.out; have := HZ8.out; have := HZ9.out; have := HZ10.out; have := HZ11.out; have := HZ12.out; have := HZ13.out; have := HZ14.out; have := HZ15.out; omega))
  replace HMx := hide (HMx.out.kp hk16 (by have := HZ1.out; have := HZ2.out; have := HZ3.out; have := HZ4.out; have := HZ5.out; have := HZ6.out; have := HZ7.out; have := HZ8.out; have := HZ9.out; have := HZ10.out; have := HZ11.out; have := HZ12.out; have := HZ13.out; have := HZ14.out; have := HZ15.out; omega))
  replace HRx := hide (HRx.out.kp hk16 (by have := HZ1.out; have := HZ2.out; have := HZ3.out; have := HZ4.out; have := HZ5.out; have := HZ6.out; have := HZ7.out; have := HZ8.out; have := HZ9.out; have := HZ10.out; have := HZ11.out; have := HZ12.out; have := HZ13.out; have := HZ14.out; have := HZ15.out; omega))
  replace HU := hide (HU.out.kp hk16 (by have := HZ1.out; have := HZ2.out; have := HZ3.out; have := HZ4.out; have := HZ5.out; have := HZ6.out; have := HZ7.out; have := HZ8.out; have := HZ9.out; have := HZ10.out; have := HZ11.out; have := HZ12.out; have := HZ13.out; have := HZ14.out; have := HZ15.out; omega))
  replace HUb := hide (HUb.out.kp hk16 (by have := HZ1.out; have := HZ2.out; have := HZ3.out; have := HZ4.out; have := HZ5.out; have := HZ6.out; have := HZ7.out; have := HZ8.out; have := HZ9.out; have := HZ10.out; have := HZ11.out; have := HZ12.out; have := HZ13.out; have := HZ14.out; have := HZ15.out; omega))
  replace HB := hide (hk16.below HB.out (fun i e => by have := HZ1.out; have := HZ2.out; have := HZ3.out; have := HZ4.out; have := HZ5.out; have := HZ6.out; have := HZ7.out; have := HZ8.out; have := HZ9.out; have := HZ10.out; have := HZ11.out; have := HZ12.out; have := HZ13.out; have := HZ14.out; have := HZ15.out; rcases e with e | e <;> omega) HB.out.size)
  clear hv16 hr16 hk16
  go_wp2_with fail
  refine (HRN'.out (some ⟨gHMo, 0, none⟩) (some ⟨gHRo, 0, none⟩) n1 (n1 + 64) n2 (n2 + 64) w16 (Rv.inn HMo.out HRo.out HL1.out HL2.out hn1 hn2)).mono ?_
  rintro e w17 ⟨a5x, n5x, c5x, a5z, n5z, c5z, rfl, hA17, hb17⟩
  have HV := hide hA17
  have HZ17 : Hid (w16.heap.size ≤ w17.heap.size) := hb17.size
  replace HC := hide (HC.out.below hb17)
  replace HX := hide (HX.out.below hb17)
  replace HMx := hide (HMx.out.below hb17)
  replace HRx := hide (HRx.out.below hb17)
  replace HU := hide (HU.out.below hb17)
  replace HUb := hide (HUb.out.below hb17)
  replace HMo := hide (HMo.out.below hb17)
  replace HRo := hide (HRo.out.below hb17)
  replace HB := hide (below_trans HB.out hb17)
  obtain rfl : n4x = n5x := by have h1 := HV.out.l1; have h2 := HU.out.l1; omega
  obtain rfl : n4z = n5z := by have h1 := HV.out.l2; have h2 := HU.out.l2; omega
  clear hA17 hb17
  obtain ⟨w18, hw18⟩ : ∃ w18, w17.alloc (.cells #[.int .i64 D'.t, .slice a5x n4x c5x, .slice a5z n4z c5z, .bool D'.f] 26) = w18 := ⟨_, rfl⟩
  have hb18 : Below w17.heap.size w17 w18 := by rw [← hw18]; exact (Below.refl _ _).alloc (Nat.le_refl _) _
  have HVb : Hid (BC w18 w17.heap.size D'.t (.slice a5x n4x c5x) (.slice a5z n4z c5z) D'.f) := by rw [← hw18]; exact bc_new _ _ _ _ _
  obtain ⟨gHVb, hgHVb⟩ : ∃ gHVb, w17.heap.size = gHVb := ⟨_, rfl⟩
  rw [hgHVb] at HVb
  have HZ18 : Hid (w17.heap.size = gHVb ∧ gHVb < w18.heap.size) := ⟨hgHVb, HVb.out.lt⟩
  replace HC := hide (HC.out.below hb18)
  replace HX := hide (HX.out.below hb18)
  replace HMx := hide (HMx.out.below hb18)
  replace HRx := hide (HRx.out.below hb18)
  replace HU := hide (HU.out.below hb18)
  replace HUb := hide (HUb.out.below hb18)
  replace HMo := hide (HMo.out.below hb18)
  replace HRo := hide (HRo.out.below hb18)
  replace HV := hide (HV.out.below hb18)
  replace HB := hide (below_trans HB.out hb18)
  clear hb18
  have y45 := HUb.out.c0
  have y46 := HUb.out.c1
  have y47 := HUb.out.c2
  have y48 := HUb.out.c3
  have y49 := HVb.out.c0
  have y50 := HVb.out.c1
  have y51 := HVb.out.c2
  have y52 := HVb.out.c3
  have HLA := HSD'.out
  unfold Short at HLA
  have HLP1 := HU.out.l1
  have HLP2 := HU.out.l2
  have HSA := hide (same_eq D'.m D'.r D'.t D'.f a4x a4z a5x a5z n4x n4z c4x c4z c5x c5z w18 (HU.out.r1 (by omega)) (HU.out.r2 (by omega)) (HV.out.r1 (by omega)) (HV.out.r2 (by omega)))
  clear HLA HLP1 HLP2
  go_wp2_with fail
  refine HSA.out.mono ?_
  clear hw18 hgHVb y45 y46 y47 y48 y49 y50 y51 y52
  clear HSA
  rintro e w19 ⟨rfl, hb19⟩
  replace HC := hide (HC.out.below hb19)
  replace HX := hide (HX.out.below hb19)
  replace HMx := hide (HMx.out.below hb19)
  replace HRx := hide (HRx.out.below hb19)
  replace HU := hide (HU.out.below hb19)
  replace HUb := hide (HUb.out.below hb19)
  replace HMo := hide (HMo.out.below hb19)
  replace HRo := hide (HRo.out.below hb19)
  replace HV := hide (HV.out.below hb19)
  replace HVb := hide (HVb.out.below hb19)
  replace HB := hide (below_trans HB.out hb19)
  clear hb19
  go_wp2_with fail
  go_ret
  exact ⟨rfl, HB.out⟩
end Go.Proofs.YtgpfabblmoffiaaDoor.ledgerBlames
