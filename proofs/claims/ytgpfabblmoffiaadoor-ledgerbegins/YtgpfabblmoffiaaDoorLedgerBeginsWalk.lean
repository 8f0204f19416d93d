/-
  LedgerBegins: the walk.
-/
import Derived.Test.YtgpfabblmoffiaaDoorLgX
import Derived.Test.YtgpfabblmoffiaaDoorLgRb
namespace Go.Proofs.YtgpfabblmoffiaaDoor.ledgerBegins
open Go.ChangeShapes Go.WideShapes Go.ChangeAt Go.RowKit
open Go.Proofs.YtgpfabblmoffiaaDoor.Base Go.Proofs.YtgpfabblmoffiaaDoor.Rf Go.Proofs.YtgpfabblmoffiaaDoor.Lg
set_option linter.unusedVariables false
theorem IC.kp2 {w w' : World} {q : Nat} {K i : Int} {S : Nat → Prop} (h : IC w q K i) (k : Kp S w w') (hS : ¬ S q) : IC w' q K i := IC.kp h k hS
theorem call_r {f : FuncId} {args : Array Value} {Q : Ending → World → Prop} (w0 : World) (h : ∀ W, Below w0.heap.size w0 W → Calls Tryd.prog f args W Q) : Calls Tryd.prog f args w0 Q := h w0 (Below.refl _ _)
theorem call_d {f : FuncId} {args : Array Value} {Q : Ending → World → Prop} (w0 : World) (h : ∀ W, Below w0.heap.size w0 W → Calls Tryd.prog f args W Q) : Calls Tryd.prog f args w0.drew Q := h _ (Below.refl _ _).drew
theorem call_z {f : FuncId} {args : Array Value} {Q : Ending → World → Prop} (w0 : World) (h : ∀ W, Below w0.heap.size w0 W → BC W w0.heap.size 0 (.slice none 0 0) (.slice none 0 0) false → Calls Tryd.prog f args W Q) : Calls Tryd.prog f args (w0.alloc (.cells #[.int .i64 0, .slice none 0 0, .slice none 0 0, .bool false] 26)) Q :=
  h _ ((Below.refl _ _).alloc (Nat.le_refl _) _) (bc_new _ _ _ _ _)
theorem call_zd {f : FuncId} {args : Array Value} {Q : Ending → World → Prop} (w0 : World) (h : ∀ W, Below w0.heap.size w0 W → BC W w0.heap.size 0 (.slice none 0 0) (.slice none 0 0) false → Calls Tryd.prog f args W Q) : Calls Tryd.prog f args (w0.drew.alloc (.cells #[.int .i64 0, .slice none 0 0, .slice none 0 0, .bool false] 26)) Q :=
  h _ ((Below.refl _ _).drew.alloc (Nat.le_refl _) _) (bc_new w0.drew _ _ _ _)
set_option maxHeartbeats 16000000 in
set_option maxRecDepth 100000 in
theorem walk (b : Bk) (a1 : Option Addr) (n1 c1 : Nat) (a2 : Option Addr) (n2 c2 : Nat) (K i : Int) (w : World) (ht : Tab w) (hi : Inn w b a1 n1 c1 a2 n2 c2) (hn1 : n1 ≤ 5864062014634) (hn2 : n2 ≤ 5864062014634) :
    Calls Tryd.prog 6 #[.agg #[.int .i64 b.t, .slice a1 n1 c1, .slice a2 n2 c2, .bool b.f], .agg #[.int .i64 K, .int .i64 i]] w fun e w' => e = .returned (.bool true) ∧ Below w.heap.size w w' := by
  have HTA := hide ht
  have HIN := hide hi
  have HL1 := hide hi.r1.1
  have HL2 := hide hi.r2.1
  obtain ⟨w1, w2, g, q, hw1, hw2, hg, hq, HC, HI, HB, HGQ⟩ := box_bt b.t (.slice a1 n1 c1) (.slice a2 n2 c2) b.f K i w
  have HZ2 : Hid (w.heap.size = g ∧ g < q ∧ q < w2.heap.size) := ⟨hg, HGQ.out.1, HGQ.out.2⟩
  have HDN := hide (fun a1 a2 n1 c1 n2 c2 W ht hi => begin_any b K i a1 a2 n1 c1 n2 c2 W ht hi)
  have HRN := hide (fun a1 a2 n1 c1 n2 c2 W hi => refBegin_any b K i a1 a2 n1 c1 n2 c2 W hi)
  have HDN' := hide (fun a1 a2 n1 c1 n2 c2 W ht hi => begin_any (revB b) K i a1 a2 n1 c1 n2 c2 W ht hi)
  have HRN' := hide (fun a1 a2 n1 c1 n2 c2 W hi => refBegin_any (revB b) K i a1 a2 n1 c1 n2 c2 W hi)
  have HSD := hide (short_bgn b K i)
  have HSD' := hide (short_bgn (revB b) K i)
  generalize bgnB b K i = D at HDN HRN HSD
  generalize bgnB (revB b) K i = D' at HDN' HRN' HSD'
  generalize bgnE b K i = E at HDN HRN
  generalize bgnE (revB b) K i = E' at HDN' HRN'
  generalize bgnN b K i = X at HDN HRN
  generalize bgnN (revB b) K i = X' at HDN' HRN'
  generalize bgnF b K i = Y at HDN HRN
  generalize bgnF (revB b) K i = Y' at HDN' HRN'
  have hee : (E != E) = false := by simp
  have hex : (X != X) = false := by simp
  have hey : (Y != Y) = false := by simp
  have hee' : (E' == E') = true := by simp
  have hex' : (X' == X') = true := by simp
  have hey' : (Y' == Y') = true := by simp
  clear ht hi HGQ
  have y1 := HC.out.c0
  have y2 := HC.out.c1
  have y3 := HC.out.c2
  have y4 := HC.out.c3
  have y5 := HI.out.c0
  have y6 := HI.out.c1
  go_enter Tryd.func6, Tryd.ntmps6
  go_wp2_with fail
  refine (given_any b.m b.r b.t b.f a1 a2 n1 n2 c1 c2 w2 (HIN.out.r1.below HB.out) (HIN.out.r2.below HB.out) hn1 hn2).mono ?_
  clear hw1 hw2 hg hq y1 y2 y3 y4 y5 y6
  rintro e w3 ⟨gHMx, gHRx, rfl, hA3, hC3, hlt3, hb3⟩
  have HMx := hide hA3
  have HRx := hide hC3
  have HZ3 : Hid (w2.heap.size ≤ gHMx ∧ gHMx < gHRx ∧ gHRx < w3.heap.size) := ⟨hA3.lt.1, hlt3, hC3.lt.2⟩
  replace HC := hide (HC.out.below hb3)
  replace HI := hide (HI.out.below hb3)
  replace HB := hide (below_trans HB.out hb3)
  clear hA3 hC3 hlt3 hb3
  obtain ⟨w4, hw4⟩ : ∃ w4, w3.alloc (.cells #[.int .i64 b.t, .slice (some ⟨gHMx, 0, none⟩) n1 (n1 + 64), .slice (some ⟨gHRx, 0, none⟩) n2 (n2 + 64), .bool b.f] 26) = w4 := ⟨_, rfl⟩
  have hb4 : Below w3.heap.size w3 w4 := by rw [← hw4]; exact (Below.refl _ _).alloc (Nat.le_refl _) _
  have HX : Hid (BC w4 w3.heap.size b.t (.slice (some ⟨gHMx, 0, none⟩) n1 (n1 + 64)) (.slice (some ⟨gHRx, 0, none⟩) n2 (n2 + 64)) b.f) := by rw [← hw4]; exact bc_new _ _ _ _ _
  obtain ⟨gHX, hgHX⟩ : ∃ gHX, w3.heap.size = gHX := ⟨_, rfl⟩
  rw [hgHX] at HX
  have HZ4 : Hid (w3.heap.size = gHX ∧ gHX < w4.heap.size) := ⟨hgHX, HX.out.lt⟩
  replace HC := hide (HC.out.below hb4)
  replace HI := hide (HI.out.below hb4)
  replace HMx := hide (HMx.out.below hb4)
  replace HRx := hide (HRx.out.below hb4)
  replace HB := hide (below_trans HB.out hb4)
  clear hb4
  have y7 := HX.out.c0
  have y8 := HX.out.c1
  have y9 := HX.out.c2
  have y10 := HX.out.c3
  have y11 := HI.out.c0
  have y12 := HI.out.c1
  go_wp2_with fail
  refine (HDN.out (some ⟨gHMx, 0, none⟩) (some ⟨gHRx, 0, none⟩) n1 (n1 + 64) n2 (n2 + 64) w4 (HTA.out.below HB.out) (Rm.inn HMx.out HRx.out HL1.out HL2.out hn1 hn2)).mono ?_
  clear hw4 hgHX y7 y8 y9 y10 y11 y12
  rintro e w5 ⟨a1x, n1x, c1x, a1z, n1z, c1z, rfl, hA5, hb5⟩
  have HP := hide hA5
  have HZ5 : Hid (w4.heap.size ≤ w5.heap.size) := hb5.size
  replace HC := hide (HC.out.below hb5)
  replace HI := hide (HI.out.below hb5)
  replace HMx := hide (HMx.out.below hb5)
  replace HRx := hide (HRx.out.below hb5)
  replace HX := hide (HX.out.below hb5)
  replace HB := hide (below_trans HB.out hb5)
  clear hA5 hb5
  obtain ⟨w6, hw6⟩ : ∃ w6, w5.alloc (.cells #[.int .i64 D.t, .slice a1x n1x c1x, .slice a1z n1z c1z, .bool D.f] 26) = w6 := ⟨_, rfl⟩
  have hb6 : Below w5.heap.size w5 w6 := by rw [← hw6]; exact (Below.refl _ _).alloc (Nat.le_refl _) _
  have HPb : Hid (BC w6 w5.heap.size D.t (.slice a1x n1x c1x) (.slice a1z n1z c1z) D.f) := by rw [← hw6]; exact bc_new _ _ _ _ _
  obtain ⟨gHPb, hgHPb⟩ : ∃ gHPb, w5.heap.size = gHPb := ⟨_, rfl⟩
  rw [hgHPb] at HPb
  have HZ6 : Hid (w5.heap.size = gHPb ∧ gHPb < w6.heap.size) := ⟨hgHPb, HPb.out.lt⟩
  replace HC := hide (HC.out.below hb6)
  replace HI := hide (HI.out.below hb6)
  replace HMx := hide (HMx.out.below hb6)
  replace HRx := hide (HRx.out.below hb6)
  replace HX := hide (HX.out.below hb6)
  replace HP := hide (HP.out.below hb6)
  replace HB := hide (below_trans HB.out hb6)
  clear hb6
  have y13 := HX.out.c0
  have y14 := HX.out.c1
  have y15 := HX.out.c2
  have y16 := HX.out.c3
  have y17 := HI.out.c0
  have y18 := HI.out.c1
  go_wp2_with fail
  refine (HDN.out (some ⟨gHMx, 0, none⟩) (some ⟨gHRx, 0, none⟩) n1 (n1 + 64) n2 (n2 + 64) w6 (HTA.out.below HB.out) (Rm.inn HMx.out HRx.out HL1.out HL2.out hn1 hn2)).mono ?_
  clear hw6 hgHPb y13 y14 y15 y16 y17 y18
  rintro e w7 ⟨a2x, n2x, c2x, a2z, n2z, c2z, rfl, hA7, hb7⟩
  have HQ := hide hA7
  have HZ7 : Hid (w6.heap.size ≤ w7.heap.size) := hb7.size
  replace HC := hide (HC.out.below hb7)
  replace HI := hide (HI.out.below hb7)
  replace HMx := hide (HMx.out.below hb7)
  replace HRx := hide (HRx.out.below hb7)
  replace HX := hide (HX.out.below hb7)
  replace HP := hide (HP.out.below hb7)
  replace HPb := hide (HPb.out.below hb7)
  replace HB := hide (below_trans HB.out hb7)
  clear hA7 hb7
  obtain ⟨w8, hw8⟩ : ∃ w8, w7.alloc (.cells #[.int .i64 D.t, .slice a2x n2x c2x, .slice a2z n2z c2z, .bool D.f] 26) = w8 := ⟨_, rfl⟩
  have hb8 : Below w7.heap.size w7 w8 := by rw [← hw8]; exact (Below.refl _ _).alloc (Nat.le_refl _) _
  have HQb : Hid (BC w8 w7.heap.size D.t (.slice a2x n2x c2x) (.slice a2z n2z c2z) D.f) := by rw [← hw8]; exact bc_new _ _ _ _ _
  obtain ⟨gHQb, hgHQb⟩ : ∃ gHQb, w7.heap.size = gHQb := ⟨_, rfl⟩
  rw [hgHQb] at HQb
  have HZ8 : Hid (w7.heap.size = gHQb ∧ gHQb < w8.heap.size) := ⟨hgHQb, HQb.out.lt⟩
  replace HC := hide (HC.out.below hb8)
  replace HI := hide (HI.out.below hb8)
  replace HMx := hide (HMx.out.below hb8)
  replace HRx := hide (HRx.out.below hb8)
  replace HX := hide (HX.out.below hb8)
  replace HP := hide (HP.out.below hb8)
  replace HPb := hide (HPb.out.below hb8)
  replace HQ := hide (HQ.out.below hb8)
  replace HB := hide (below_trans HB.out hb8)
  clear hb8
  have y19 := HC.out.c0
  have y20 := HC.out.c1
  have y21 := HC.out.c2
  have y22 := HC.out.c3
  have y23 := HI.out.c0
  have y24 := HI.out.c1
  go_wp2_with fail
  refine (HRN.out a1 a2 n1 c1 n2 c2 w8 (HIN.out.below HB.out)).mono ?_
  clear hw8 hgHQb y19 y20 y21 y22 y23 y24
  rintro e w9 ⟨a3x, n3x, c3x, a3z, n3z, c3z, rfl, hA9, hb9⟩
  have HWw := hide hA9
  have HZ9 : Hid (w8.heap.size ≤ w9.heap.size) := hb9.size
  replace HC := hide (HC.out.below hb9)
  replace HI := hide (HI.out.below hb9)
  replace HMx := hide (HMx.out.below hb9)
  replace HRx := hide (HRx.out.below hb9)
  replace HX := hide (HX.out.below hb9)
  replace HP := hide (HP.out.below hb9)
  replace HPb := hide (HPb.out.below hb9)
  replace HQ := hide (HQ.out.below hb9)
  replace HQb := hide (HQb.out.below hb9)
  replace HB := hide (below_trans HB.out hb9)
  obtain rfl : n2x = n3x := by have h1 := HWw.out.l1; have h2 := HQ.out.l1; omega
  obtain rfl : n2z = n3z := by have h1 := HWw.out.l2; have h2 := HQ.out.l2; omega
  clear hA9 hb9
  obtain ⟨w10, hw10⟩ : ∃ w10, w9.alloc (.cells #[.int .i64 D.t, .slice a3x n2x c3x, .slice a3z n2z c3z, .bool D.f] 26) = w10 := ⟨_, rfl⟩
  have hb10 : Below w9.heap.size w9 w10 := by rw [← hw10]; exact (Below.refl _ _).alloc (Nat.le_refl _) _
  have HWb : Hid (BC w10 w9.heap.size D.t (.slice a3x n2x c3x) (.slice a3z n2z c3z) D.f) := by rw [← hw10]; exact bc_new _ _ _ _ _
  obtain ⟨gHWb, hgHWb⟩ : ∃ gHWb, w9.heap.size = gHWb := ⟨_, rfl⟩
  rw [hgHWb] at HWb
  have HZ10 : Hid (w9.heap.size = gHWb ∧ gHWb < w10.heap.size) := ⟨hgHWb, HWb.out.lt⟩
  replace HC := hide (HC.out.below hb10)
  replace HI := hide (HI.out.below hb10)
  replace HMx := hide (HMx.out.below hb10)
  replace HRx := hide (HRx.out.below hb10)
  replace HX := hide (HX.out.below hb10)
  replace HP := hide (HP.out.below hb10)
  replace HPb := hide (HPb.out.below hb10)
  replace HQ := hide (HQ.out.below hb10)
  replace HQb := hide (HQb.out.below hb10)
  replace HWw := hide (HWw.out.below hb10)
  replace HB := hide (below_trans HB.out hb10)
  clear hb10
  have y25 := HPb.out.c0
  have y26 := HPb.out.c1
  have y27 := HPb.out.c2
  have y28 := HPb.out.c3
  have y29 := HQb.out.c0
  have y30 := HQb.out.c1
  have y31 := HQb.out.c2
  have y32 := HQb.out.c3
  have y33 := HWb.out.c0
  have y34 := HWb.out.c1
  have y35 := HWb.out.c2
  have y36 := HWb.out.c3
  have HLA := HSD.out
  have HLP1 := HP.out.l1
  have HLP2 := HP.out.l2
  have HLQ1 := HQ.out.l1
  have HLQ2 := HQ.out.l2
  unfold Short at HLA
  have hAP : Calls Tryd.prog 29 #[.agg #[.int .i64 D.t, .slice a1x n1x c1x, .slice a1z n1z c1z, .bool D.f], .agg #[.int .i64 D.t, .slice a2x n2x c2x, .slice a2z n2z c2z, .bool D.f], .agg #[.int .i64 D.t, .slice a3x n2x c3x, .slice a3z n2z c3z, .bool D.f]] w10 fun e w' => e = .returned (.bool true) ∧ Kp (fun i => w4.heap.size ≤ i ∧ i < w8.heap.size) w10 w' := by
    have := HZ2.out; have := HZ3.out; have := HZ4.out; have := HZ5.out; have := HZ6.out; have := HZ7.out; have := HZ8.out; have := HZ9.out; have := HZ10.out;
    exact apart2_any D.t D.t D.f D.f _ _ _ _ _ _ _ _ _ _ _ _ _ _ _ _ w4.heap.size w6.heap.size w8.heap.size w9.heap.size D.m D.r D.m D.r w10 (ans_mono HP.out (Nat.le_refl _) (by omega)) (ans_mono HQ.out (Nat.le_refl _) (by omega)) HWw.out (by omega) (by omega) (by omega) (by omega) (by omega) (by omega) (by omega)
  have HAP := hide hAP
  clear hAP HLA HLP1 HLP2 HLQ1 HLQ2
  go_wp2_with fail
  refine HAP.out.mono ?_
  clear hw10 hgHWb y25 y26 y27 y28 y29 y30 y31 y32 y33 y34 y35 y36
  clear HAP
  rintro e w11 ⟨rfl, hk11⟩
  have HZ11 : Hid (w10.heap.size ≤ w11.heap.size) := hk11.size
  clear HP HQ HWw HPb HQb HWb
  replace HC := hide (HC.out.kp hk11 (by have := HZ2.out; have := HZ3.out; have := HZ4.out; have := HZ5.out; have := HZ6.out; have := HZ7.out; have := HZ8.out; have := HZ9.out; have := HZ10.out; omega))
  replace HI := hide (HI.out.kp hk11 (by have := HZ2.out; have := HZ3.out; have := HZ4.out; have := HZ5.out; have := HZ6.out; have := HZ7.out; have := HZ8.out; have := HZ9.out; have := HZ10.out; omega))
  replace HMx := hide (HMx.out.kp hk11 (by have := HZ2.out; have := HZ3.out; have := HZ4.out; have := HZ5.out; have := HZ6.out; have := HZ7.out; have := HZ8.out; have := HZ9.out; have := HZ10.out; omega))
  replace HRx := hide (HRx.out.kp hk11 (by have := HZ2.out; have := HZ3.out; have := HZ4.out; have := HZ5.out; have := HZ6.out; have := HZ7.out; have := HZ8.out; have := HZ9.out; have := HZ10.out; omega))
  replace HX := hide (HX.out.kp hk11 (by have := HZ2.out; have := HZ3.out; have := HZ4.out; have := HZ5.out; have := HZ6.out; have := HZ7.out; have := HZ8.out; have := HZ9.out; have := HZ10.out; omega))
  replace HB := hide (hk11.below HB.out (fun i e => by have := HZ2.out; have := HZ3.out; have := HZ4.out; have := HZ5.out; have := HZ6.out; have := HZ7.out; have := HZ8.out; have := HZ9.out; have := HZ10.out; have h1 := e.1; omega) HB.out.size)
  clear hk11
  have y37 := HX.out.c0
  have y38 := HX.out.c1
  have y39 := HX.out.c2
  have y40 := HX.out.c3
  have y41 := HC.out.c0
  have y42 := HC.out.c1
  have y43 := HC.out.c2
  have y44 := HC.out.c3
  go_wp2_with fail
  refine (kept_any b.m b.r b.t b.f gHMx gHRx a1 a2 n1 n2 c1 c2 w.heap.size w11 (HMx.out.mono (by have := HZ2.out; have := HZ3.out; have := HZ4.out; have := HZ5.out; have := HZ6.out; have := HZ7.out; have := HZ8.out; have := HZ9.out; have := HZ10.out; have := HZ11.out; omega)) (HRx.out.mono (by have := HZ2.out; have := HZ3.out; have := HZ4.out; have := HZ5.out; have := HZ6.out; have := HZ7.out; have := HZ8.out; have := HZ9.out; have := HZ10.out; have := HZ11.out; omega)) (HIN.out.r1.below HB.out) (HIN.out.r2.below HB.out) hn1 hn2).mono ?_
  clear  y37 y38 y39 y40 y41 y42 y43 y44
  rintro e w12 ⟨rfl, hb12⟩
  have HZ12 : Hid (w11.heap.size ≤ w12.heap.size) := hb12.size
  replace HC := hide (HC.out.below hb12)
  replace HI := hide (HI.out.below hb12)
  replace HMx := hide (HMx.out.below hb12)
  replace HRx := hide (HRx.out.below hb12)
  replace HX := hide (HX.out.below hb12)
  replace HB := hide (below_trans HB.out hb12)
  clear hb12
  have y45 := HX.out.c0
  have y46 := HX.out.c1
  have y47 := HX.out.c2
  have y48 := HX.out.c3
  have y49 := HC.out.c0
  have y50 := HC.out.c1
  have y51 := HC.out.c2
  have y52 := HC.out.c3
  have y53 := HI.out.c0
  have y54 := HI.out.c1
  clear  y45 y46 y47 y48 y49 y50 y51 y52 y53 y54
  have HS : Hid (w.heap.size = g ∧ g < q ∧ q < gHMx ∧ gHMx < gHRx ∧ gHRx < gHX ∧ gHX < w12.heap.size) := hide (by have := HZ2.out; have := HZ3.out; have := HZ4.out; have := HZ5.out; have := HZ6.out; have := HZ7.out; have := HZ8.out; have := HZ9.out; have := HZ10.out; have := HZ11.out; have := HZ12.out; omega)
  clear HZ2 HZ3 HZ4 HZ5 HZ6 HZ7 HZ8 HZ9 HZ10 HZ11 HZ12
  have y55 := HX.out.c0
  have y56 := HX.out.c1
  have y57 := HX.out.c2
  have y58 := HX.out.c3
  have y59 := HC.out.c0
  have y60 := HC.out.c1
  have y61 := HC.out.c2
  have y62 := HC.out.c3
  have y63 := HI.out.c0
  have y64 := HI.out.c1
  obtain ⟨gy, hgy⟩ : ∃ gy, w12.heap.size = gy := ⟨_, rfl⟩
  go_wp2_with fail
  go_region_held (fun V => ((V).cell? ⟨gHX, 0, none⟩ = some (.int .i64 b.t) ∧ (V).cell? ⟨gHX, 1, none⟩ = some (.slice (some ⟨gHMx, 0, none⟩) n1 (n1 + 64)) ∧ (V).cell? ⟨gHX, 2, none⟩ = some (.slice (some ⟨gHRx, 0, none⟩) n2 (n2 + 64)) ∧ (V).cell? ⟨gHX, 3, none⟩ = some (.bool b.f)) ∧ ((V).cell? ⟨q, 0, none⟩ = some (.int .i64 K) ∧ (V).cell? ⟨q, 1, none⟩ = some (.int .i64 i))) (first | go_keep | exact E71.out | exact E72.out _ | exact E73.out | exact E74.out _ | exact E75.out) (first
    | (go_at_call 25; first
      | (refine call_zd w12 (fun W hW hZ => ?_); replace HC := hide (HC.out.below hW); replace HI := hide (HI.out.below hW); replace HMx := hide (HMx.out.below hW); replace HRx := hide (HRx.out.below hW); replace HX := hide (HX.out.below hW); replace HB := hide (below_trans HB.out hW); rw [hgy] at hZ; have HZB := hide hZ; clear hZ; clear y55 y56 y57 y58 y59 y60 y61 y62 y63 y64; have HW0 : Hid (w12.heap.size ≤ W.heap.size) := hide hW.size; clear hW; refine (turned_any b.m b.r b.t b.f gHMx gHRx n1 n2 _ _ _ HMx.out HRx.out (by have := HS.out; omega) HL1.out HL2.out hn1 hn2).mono ?_; rintro e v1 ⟨rfl, hv, hr, hk⟩; clear HMx HRx; have HMx := hide hv; have HRx := hide hr; have HW1 : Hid (w12.heap.size ≤ v1.heap.size) := hide (Nat.le_trans HW0.out hk.size); replace HC := hide (HC.out.kp hk (by have := HS.out; have := HW0.out; have := hgy; omega)); replace HI := hide (HI.out.kp hk (by have := HS.out; have := HW0.out; have := hgy; omega)); replace HX := hide (HX.out.kp hk (by have := HS.out; have := HW0.out; have := hgy; omega)); replace HZB := hide (HZB.out.kp hk (by have := HS.out; have := HW0.out; have := hgy; omega)); replace HB := hide (hk.below HB.out (fun i e => by have := HS.out; rcases e with e | e <;> omega) HB.out.size); clear hv hr hk; have HZL : Hid (gy < v1.heap.size ∧ q < gy ∧ gHX < gy) := hide ⟨HZB.out.lt, by have := HS.out; have := hgy; omega, by have := HS.out; have := hgy; omega⟩; have E71 : Hid (((v1).cell? ⟨gHX, 0, none⟩ = some (.int .i64 b.t) ∧ (v1).cell? ⟨gHX, 1, none⟩ = some (.slice (some ⟨gHMx, 0, none⟩) n1 (n1 + 64)) ∧ (v1).cell? ⟨gHX, 2, none⟩ = some (.slice (some ⟨gHRx, 0, none⟩) n2 (n2 + 64)) ∧ (v1).cell? ⟨gHX, 3, none⟩ = some (.bool b.f)) ∧ ((v1).cell? ⟨q, 0, none⟩ = some (.int .i64 K) ∧ (v1).cell? ⟨q, 1, none⟩ = some (.int .i64 i))) := hide ⟨⟨HX.out.c0, HX.out.c1, HX.out.c2, HX.out.c3⟩, HI.out.c0, HI.out.c1⟩)
      | (refine call_d w12 (fun W hW => ?_); replace HC := hide (HC.out.below hW); replace HI := hide (HI.out.below hW); replace HMx := hide (HMx.out.below hW); replace HRx := hide (HRx.out.below hW); replace HX := hide (HX.out.below hW); replace HB := hide (below_trans HB.out hW); clear y55 y56 y57 y58 y59 y60 y61 y62 y63 y64; have HW0 : Hid (w12.heap.size ≤ W.heap.size) := hide hW.size; clear hW; refine (turned_any b.m b.r b.t b.f gHMx gHRx n1 n2 _ _ _ HMx.out HRx.out (by have := HS.out; omega) HL1.out HL2.out hn1 hn2).mono ?_; rintro e v1 ⟨rfl, hv, hr, hk⟩; clear HMx HRx; have HMx := hide hv; have HRx := hide hr; have HW1 : Hid (w12.heap.size ≤ v1.heap.size) := hide (Nat.le_trans HW0.out hk.size); replace HC := hide (HC.out.kp hk (by have := HS.out; have := HW0.out; have := hgy; omega)); replace HI := hide (HI.out.kp hk (by have := HS.out; have := HW0.out; have := hgy; omega)); replace HX := hide (HX.out.kp hk (by have := HS.out; have := HW0.out; have := hgy; omega)); replace HB := hide (hk.below HB.out (fun i e => by have := HS.out; rcases e with e | e <;> omega) HB.out.size); clear hv hr hk; have E71 : Hid (((v1).cell? ⟨gHX, 0, none⟩ = some (.int .i64 b.t) ∧ (v1).cell? ⟨gHX, 1, none⟩ = some (.slice (some ⟨gHMx, 0, none⟩) n1 (n1 + 64)) ∧ (v1).cell? ⟨gHX, 2, none⟩ = some (.slice (some ⟨gHRx, 0, none⟩) n2 (n2 + 64)) ∧ (v1).cell? ⟨gHX, 3, none⟩ = some (.bool b.f)) ∧ ((v1).cell? ⟨q, 0, none⟩ = some (.int .i64 K) ∧ (v1).cell? ⟨q, 1, none⟩ = some (.int .i64 i))) := hide ⟨⟨HX.out.c0, HX.out.c1, HX.out.c2, HX.out.c3⟩, HI.out.c0, HI.out.c1⟩; have E72 : Hid (∀ o, ((v1.alloc o).cell? ⟨gHX, 0, none⟩ = some (.int .i64 b.t) ∧ (v1.alloc o).cell? ⟨gHX, 1, none⟩ = some (.slice (some ⟨gHMx, 0, none⟩) n1 (n1 + 64)) ∧ (v1.alloc o).cell? ⟨gHX, 2, none⟩ = some (.slice (some ⟨gHRx, 0, none⟩) n2 (n2 + 64)) ∧ (v1.alloc o).cell? ⟨gHX, 3, none⟩ = some (.bool b.f)) ∧ ((v1.alloc o).cell? ⟨q, 0, none⟩ = some (.int .i64 K) ∧ (v1.alloc o).cell? ⟨q, 1, none⟩ = some (.int .i64 i))) := hide (fun o => by have hb : Below v1.heap.size v1 (v1.alloc o) := (Below.refl _ _).alloc (Nat.le_refl _) _; have hx := HX.out.below hb; have hi := HI.out.below hb; exact ⟨⟨hx.c0, hx.c1, hx.c2, hx.c3⟩, hi.c0, hi.c1⟩); obtain ⟨gy1, hgy1⟩ : ∃ gy1, v1.heap.size = gy1 := ⟨_, rfl⟩))
    | (go_at_call 14; first
      | (refine call_r v1 (fun W hW => ?_); have HZQ := HZB; clear HZQ; replace HC := hide (HC.out.below hW); replace HI := hide (HI.out.below hW); replace HX := hide (HX.out.below hW); replace HMx := hide (HMx.out.below hW); replace HRx := hide (HRx.out.below hW); replace HB := hide (below_trans HB.out hW); replace HZB := hide (HZB.out.below hW); have HZL0 : Hid (gy < W.heap.size) := hide HZB.out.lt; have HWs : Hid (w12.heap.size ≤ W.heap.size) := hide (Nat.le_trans HW1.out hW.size); clear hW; refine (HDN'.out (some ⟨gHMx, 0, none⟩) (some ⟨gHRx, 0, none⟩) n1 (n1 + 64) n2 (n2 + 64) W (HTA.out.below HB.out) (Rv.inn HMx.out HRx.out HL1.out HL2.out hn1 hn2)).mono ?_; rintro e v2 ⟨a4x, n4x, c4x, a4z, n4z, c4z, rfl, hA, hb⟩; have HU := hide hA; replace HC := hide (HC.out.below hb); replace HI := hide (HI.out.below hb); replace HX := hide (HX.out.below hb); replace HZB := hide (HZB.out.below hb); replace HB := hide (below_trans HB.out hb); have HW2 : Hid (W.heap.size ≤ v2.heap.size) := hide hb.size; clear hA hb; replace HZL := hide (And.intro HZL0.out HZL.out.2); have E73 : Hid (((v2).cell? ⟨gHX, 0, none⟩ = some (.int .i64 b.t) ∧ (v2).cell? ⟨gHX, 1, none⟩ = some (.slice (some ⟨gHMx, 0, none⟩) n1 (n1 + 64)) ∧ (v2).cell? ⟨gHX, 2, none⟩ = some (.slice (some ⟨gHRx, 0, none⟩) n2 (n2 + 64)) ∧ (v2).cell? ⟨gHX, 3, none⟩ = some (.bool b.f)) ∧ ((v2).cell? ⟨q, 0, none⟩ = some (.int .i64 K) ∧ (v2).cell? ⟨q, 1, none⟩ = some (.int .i64 i))) := hide ⟨⟨HX.out.c0, HX.out.c1, HX.out.c2, HX.out.c3⟩, HI.out.c0, HI.out.c1⟩; have yz0 := HZB.out.c0; have yz1 := HZB.out.c1; have yz2 := HZB.out.c2; have yz3 := HZB.out.c3; have yf0 := HZB.out.fz 0; have yf1 := HZB.out.fz 1; have yf2 := HZB.out.fz 2; have yf3 := HZB.out.fz 3; have hkz := kp_four v2 gy D'.t (.slice a4x n4x c4x) (.slice a4z n4z c4z) D'.f; obtain ⟨wx, hwx⟩ : ∃ wx, (((v2.setCell ⟨gy, 0, none⟩ (.int .i64 D'.t)).setCell ⟨gy, 1, none⟩ (.slice a4x n4x c4x)).setCell ⟨gy, 2, none⟩ (.slice a4z n4z c4z)).setCell ⟨gy, 3, none⟩ (.bool D'.f) = wx := ⟨_, rfl⟩; have HWX : Hid (set4 v2 gy D'.t (.slice a4x n4x c4x) (.slice a4z n4z c4z) D'.f = wx) := hide hwx; rw [HWX.out] at hkz; have HUb : Hid (BC wx gy D'.t (.slice a4x n4x c4x) (.slice a4z n4z c4z) D'.f) := hide (by have h := HZB.out.set4 D'.t (.slice a4x n4x c4x) (.slice a4z n4z c4z) D'.f; rw [HWX.out] at h; exact h); replace HC := hide (HC.out.kp hkz (by have := HS.out; have := HWs.out; have := HZL.out; have := HW2.out; omega)); replace HI := hide (HI.out.kp hkz (by have := HS.out; have := HWs.out; have := HZL.out; have := HW2.out; omega)); replace HX := hide (HX.out.kp hkz (by have := HS.out; have := HWs.out; have := HZL.out; have := HW2.out; omega)); replace HU := hide (HU.out.kp hkz (fun i e => .inl (by have := HS.out; have := HWs.out; have := HZL.out; have := HW2.out; have h1 := e; omega))); replace HB := hide (hkz.below HB.out (fun i e => by have := HS.out; have := HWs.out; have := HZL.out; have := HW2.out; have h1 := e; omega) HB.out.size); have HSU : Hid (gy < wx.heap.size ∧ w12.heap.size ≤ wx.heap.size) := hide (by have h1 := HUb.out.lt; have h2 := hkz.size; have := HWs.out; have := HW2.out; omega); replace HU := hide (ans_mono HU.out (Nat.le_refl _) hkz.size); clear hkz HWX; have E75 : Hid (((wx).cell? ⟨gHX, 0, none⟩ = some (.int .i64 b.t) ∧ (wx).cell? ⟨gHX, 1, none⟩ = some (.slice (some ⟨gHMx, 0, none⟩) n1 (n1 + 64)) ∧ (wx).cell? ⟨gHX, 2, none⟩ = some (.slice (some ⟨gHRx, 0, none⟩) n2 (n2 + 64)) ∧ (wx).cell? ⟨gHX, 3, none⟩ = some (.bool b.f)) ∧ ((wx).cell? ⟨q, 0, none⟩ = some (.int .i64 K) ∧ (wx).cell? ⟨q, 1, none⟩ = some (.int .i64 i))) := hide ⟨⟨HX.out.c0, HX.out.c1, HX.out.c2, HX.out.c3⟩, HI.out.c0, HI.out.c1⟩)
      | (refine call_z v1 (fun W hW hZ => ?_); replace HC := hide (HC.out.below hW); replace HI := hide (HI.out.below hW); replace HX := hide (HX.out.below hW); replace HMx := hide (HMx.out.below hW); replace HRx := hide (HRx.out.below hW); replace HB := hide (below_trans HB.out hW); rw [hgy1] at hZ; have HZB := hide hZ; clear hZ; have HZL0 : Hid (gy1 < W.heap.size) := hide HZB.out.lt; have HZL : Hid (gy1 < W.heap.size ∧ q < gy1 ∧ gHX < gy1) := hide ⟨HZB.out.lt, by have := HS.out; have := HW1.out; have := hgy1; omega, by have := HS.out; have := HW1.out; have := hgy1; omega⟩; have HWs : Hid (w12.heap.size ≤ W.heap.size) := hide (Nat.le_trans HW1.out hW.size); clear hW; refine (HDN'.out (some ⟨gHMx, 0, none⟩) (some ⟨gHRx, 0, none⟩) n1 (n1 + 64) n2 (n2 + 64) W (HTA.out.below HB.out) (Rv.inn HMx.out HRx.out HL1.out HL2.out hn1 hn2)).mono ?_; rintro e v2 ⟨a4x, n4x, c4x, a4z, n4z, c4z, rfl, hA, hb⟩; have HU := hide hA; replace HC := hide (HC.out.below hb); replace HI := hide (HI.out.below hb); replace HX := hide (HX.out.below hb); replace HZB := hide (HZB.out.below hb); replace HB := hide (below_trans HB.out hb); have HW2 : Hid (W.heap.size ≤ v2.heap.size) := hide hb.size; clear hA hb; replace HZL := hide (And.intro HZL0.out HZL.out.2); have E73 : Hid (((v2).cell? ⟨gHX, 0, none⟩ = some (.int .i64 b.t) ∧ (v2).cell? ⟨gHX, 1, none⟩ = some (.slice (some ⟨gHMx, 0, none⟩) n1 (n1 + 64)) ∧ (v2).cell? ⟨gHX, 2, none⟩ = some (.slice (some ⟨gHRx, 0, none⟩) n2 (n2 + 64)) ∧ (v2).cell? ⟨gHX, 3, none⟩ = some (.bool b.f)) ∧ ((v2).cell? ⟨q, 0, none⟩ = some (.int .i64 K) ∧ (v2).cell? ⟨q, 1, none⟩ = some (.int .i64 i))) := hide ⟨⟨HX.out.c0, HX.out.c1, HX.out.c2, HX.out.c3⟩, HI.out.c0, HI.out.c1⟩; have yz0 := HZB.out.c0; have yz1 := HZB.out.c1; have yz2 := HZB.out.c2; have yz3 := HZB.out.c3; have yf0 := HZB.out.fz 0; have yf1 := HZB.out.fz 1; have yf2 := HZB.out.fz 2; have yf3 := HZB.out.fz 3; have hkz := kp_four v2 gy1 D'.t (.slice a4x n4x c4x) (.slice a4z n4z c4z) D'.f; obtain ⟨wx, hwx⟩ : ∃ wx, (((v2.setCell ⟨gy1, 0, none⟩ (.int .i64 D'.t)).setCell ⟨gy1, 1, none⟩ (.slice a4x n4x c4x)).setCell ⟨gy1, 2, none⟩ (.slice a4z n4z c4z)).setCell ⟨gy1, 3, none⟩ (.bool D'.f) = wx := ⟨_, rfl⟩; have HWX : Hid (set4 v2 gy1 D'.t (.slice a4x n4x c4x) (.slice a4z n4z c4z) D'.f = wx) := hide hwx; rw [HWX.out] at hkz; have HUb : Hid (BC wx gy1 D'.t (.slice a4x n4x c4x) (.slice a4z n4z c4z) D'.f) := hide (by have h := HZB.out.set4 D'.t (.slice a4x n4x c4x) (.slice a4z n4z c4z) D'.f; rw [HWX.out] at h; exact h); replace HC := hide (HC.out.kp hkz (by have := HS.out; have := HWs.out; have := HZL.out; have := HW2.out; omega)); replace HI := hide (HI.out.kp hkz (by have := HS.out; have := HWs.out; have := HZL.out; have := HW2.out; omega)); replace HX := hide (HX.out.kp hkz (by have := HS.out; have := HWs.out; have := HZL.out; have := HW2.out; omega)); replace HU := hide (HU.out.kp hkz (fun i e => .inl (by have := HS.out; have := HWs.out; have := HZL.out; have := HW2.out; have h1 := e; omega))); replace HB := hide (hkz.below HB.out (fun i e => by have := HS.out; have := HWs.out; have := HZL.out; have := HW2.out; have h1 := e; omega) HB.out.size); have HSU : Hid (gy1 < wx.heap.size ∧ w12.heap.size ≤ wx.heap.size) := hide (by have h1 := HUb.out.lt; have h2 := hkz.size; have := HWs.out; have := HW2.out; omega); replace HU := hide (ans_mono HU.out (Nat.le_refl _) hkz.size); clear hkz HWX; have E75 : Hid (((wx).cell? ⟨gHX, 0, none⟩ = some (.int .i64 b.t) ∧ (wx).cell? ⟨gHX, 1, none⟩ = some (.slice (some ⟨gHMx, 0, none⟩) n1 (n1 + 64)) ∧ (wx).cell? ⟨gHX, 2, none⟩ = some (.slice (some ⟨gHRx, 0, none⟩) n2 (n2 + 64)) ∧ (wx).cell? ⟨gHX, 3, none⟩ = some (.bool b.f)) ∧ ((wx).cell? ⟨q, 0, none⟩ = some (.int .i64 K) ∧ (wx).cell? ⟨q, 1, none⟩ = some (.int .i64 i))) := hide ⟨⟨HX.out.c0, HX.out.c1, HX.out.c2, HX.out.c3⟩, HI.out.c0, HI.out.c1⟩)
      | go_loud (refine call_r v1 (fun W hW => ?_); replace HC := hide (HC.out.below hW); replace HI := hide (HI.out.below hW); replace HX := hide (HX.out.below hW); replace HMx := hide (HMx.out.below hW); replace HRx := hide (HRx.out.below hW); replace HB := hide (below_trans HB.out hW); have HWs : Hid (w12.heap.size ≤ W.heap.size) := hide (Nat.le_trans HW1.out hW.size); clear hW; refine (HDN'.out (some ⟨gHMx, 0, none⟩) (some ⟨gHRx, 0, none⟩) n1 (n1 + 64) n2 (n2 + 64) W (HTA.out.below HB.out) (Rv.inn HMx.out HRx.out HL1.out HL2.out hn1 hn2)).mono ?_; rintro e v2 ⟨a4x, n4x, c4x, a4z, n4z, c4z, rfl, hA, hb⟩; have HU := hide hA; replace HC := hide (HC.out.below hb); replace HI := hide (HI.out.below hb); replace HX := hide (HX.out.below hb); replace HB := hide (below_trans HB.out hb); have HW2 : Hid (W.heap.size ≤ v2.heap.size) := hide hb.size; clear hA hb; have E73 : Hid (((v2).cell? ⟨gHX, 0, none⟩ = some (.int .i64 b.t) ∧ (v2).cell? ⟨gHX, 1, none⟩ = some (.slice (some ⟨gHMx, 0, none⟩) n1 (n1 + 64)) ∧ (v2).cell? ⟨gHX, 2, none⟩ = some (.slice (some ⟨gHRx, 0, none⟩) n2 (n2 + 64)) ∧ (v2).cell? ⟨gHX, 3, none⟩ = some (.bool b.f)) ∧ ((v2).cell? ⟨q, 0, none⟩ = some (.int .i64 K) ∧ (v2).cell? ⟨q, 1, none⟩ = some (.int .i64 i))) := hide ⟨⟨HX.out.c0, HX.out.c1, HX.out.c2, HX.out.c3⟩, HI.out.c0, HI.out.c1⟩; have E74 : Hid (∀ o, ((v2.alloc o).cell? ⟨gHX, 0, none⟩ = some (.int .i64 b.t) ∧ (v2.alloc o).cell? ⟨gHX, 1, none⟩ = some (.slice (some ⟨gHMx, 0, none⟩) n1 (n1 + 64)) ∧ (v2.alloc o).cell? ⟨gHX, 2, none⟩ = some (.slice (some ⟨gHRx, 0, none⟩) n2 (n2 + 64)) ∧ (v2.alloc o).cell? ⟨gHX, 3, none⟩ = some (.bool b.f)) ∧ ((v2.alloc o).cell? ⟨q, 0, none⟩ = some (.int .i64 K) ∧ (v2.alloc o).cell? ⟨q, 1, none⟩ = some (.int .i64 i))) := hide (fun o => by have hb : Below v2.heap.size v2 (v2.alloc o) := (Below.refl _ _).alloc (Nat.le_refl _) _; have hx := HX.out.below hb; have hi := HI.out.below hb; exact ⟨⟨hx.c0, hx.c1, hx.c2, hx.c3⟩, hi.c0, hi.c1⟩); obtain ⟨gN, hgN⟩ : ∃ gN, v2.heap.size = gN := ⟨_, rfl⟩; obtain ⟨wx, hwx⟩ : ∃ wx, v2.alloc (.cells #[.int .i64 D'.t, .slice a4x n4x c4x, .slice a4z n4z c4z, .bool D'.f] 26) = wx := ⟨_, rfl⟩; have hbx : Below v2.heap.size v2 wx := (by rw [← hwx]; exact (Below.refl _ _).alloc (Nat.le_refl _) _); have HUb : Hid (BC wx gN D'.t (.slice a4x n4x c4x) (.slice a4z n4z c4z) D'.f) := (by rw [← hwx, ← hgN]; exact hide (bc_new _ _ _ _ _)); replace HC := hide (HC.out.below hbx); replace HI := hide (HI.out.below hbx); replace HX := hide (HX.out.below hbx); replace HU := hide (HU.out.below hbx); replace HB := hide (below_trans HB.out hbx); have HSU : Hid (gN < wx.heap.size ∧ w12.heap.size ≤ wx.heap.size) := hide (by have h1 := HUb.out.lt; have h2 := hbx.size; have := HWs.out; have := HW2.out; omega); replace HU := hide (ans_mono HU.out (Nat.le_refl _) (by have h2 := hbx.size; exact h2)); clear hbx; have E75 : Hid (((wx).cell? ⟨gHX, 0, none⟩ = some (.int .i64 b.t) ∧ (wx).cell? ⟨gHX, 1, none⟩ = some (.slice (some ⟨gHMx, 0, none⟩) n1 (n1 + 64)) ∧ (wx).cell? ⟨gHX, 2, none⟩ = some (.slice (some ⟨gHRx, 0, none⟩) n2 (n2 + 64)) ∧ (wx).cell? ⟨gHX, 3, none⟩ = some (.bool b.f)) ∧ ((wx).cell? ⟨q, 0, none⟩ = some (.int .i64 K) ∧ (wx).cell? ⟨q, 1, none⟩ = some (.int .i64 i))) := hide ⟨⟨HX.out.c0, HX.out.c1, HX.out.c2, HX.out.c3⟩, HI.out.c0, HI.out.c1⟩)))
  all_goals (
   (try clear yz0 yz1 yz2 yz3 yf0 yf1 yf2 yf3); (try clear E74); (try clear E72); (try clear HZB HZL HZL0); clear hwx E71 E73 E75 HX HMx HRx HW1 HW2 HWs;
   (try clear hgN); (try clear hgy1); clear hgy;
   obtain ⟨w0, hw0⟩ : ∃ w0, w0 = wx := ⟨_, rfl⟩; rw [← hw0] at HC HI HU HUb HB HSU ⊢; clear hw0;
   have s0 := HC.out.c0; have s1 := HC.out.c1; have s2 := HC.out.c2; have s3 := HC.out.c3; have s4 := HI.out.c0; have s5 := HI.out.c1;
   obtain ⟨gx, hgx⟩ : ∃ gx, w0.heap.size = gx := ⟨_, rfl⟩;
   go_wp2_with fail)
  all_goals (go_region_held (fun V => ((V).cell? ⟨g, 0, none⟩ = some (.int .i64 b.t) ∧ (V).cell? ⟨g, 1, none⟩ = some (.slice a1 n1 c1) ∧ (V).cell? ⟨g, 2, none⟩ = some (.slice a2 n2 c2) ∧ (V).cell? ⟨g, 3, none⟩ = some (.bool b.f)) ∧ ((V).cell? ⟨q, 0, none⟩ = some (.int .i64 K) ∧ (V).cell? ⟨q, 1, none⟩ = some (.int .i64 i))) (first | go_keep | exact E81.out | exact E82.out _ | exact E83.out | exact E84.out _ | exact E73.out | exact E74.out _ | exact E75.out) (first
    | (go_at_call 17; first
      | (refine call_zd w0 (fun W hW hZ => ?_); replace HC := hide (HC.out.below hW); replace HI := hide (HI.out.below hW); replace HU := hide (HU.out.below hW); replace HUb := hide (HUb.out.below hW); replace HB := hide (below_trans HB.out hW); rw [hgx] at hZ; have HZB := hide hZ; clear hZ; have HW0 : Hid (w0.heap.size ≤ W.heap.size) := hide hW.size; clear hW s0 s1 s2 s3 s4 s5; refine (given_any b.m b.r b.t b.f a1 a2 n1 n2 c1 c2 W (HIN.out.r1.below HB.out) (HIN.out.r2.below HB.out) hn1 hn2).mono ?_; rintro e u1 ⟨gHMo, gHRo, rfl, hA, hC, hlt, hb⟩; have HMo := hide hA; have HRo := hide hC; have HSO : Hid (w0.heap.size ≤ gHMo ∧ gHMo < gHRo ∧ gHRo < u1.heap.size) := hide ⟨Nat.le_trans HW0.out hA.lt.1, hlt, hC.lt.2⟩; have HZO : Hid (gx < gHMo) := hide (Nat.lt_of_lt_of_le HZB.out.lt hA.lt.1); replace HZB := hide (HZB.out.below hb); replace HC := hide (HC.out.below hb); replace HI := hide (HI.out.below hb); replace HU := hide (HU.out.below hb); replace HUb := hide (HUb.out.below hb); replace HB := hide (below_trans HB.out hb); clear hA hC hlt hb; have E81 : Hid (((u1).cell? ⟨g, 0, none⟩ = some (.int .i64 b.t) ∧ (u1).cell? ⟨g, 1, none⟩ = some (.slice a1 n1 c1) ∧ (u1).cell? ⟨g, 2, none⟩ = some (.slice a2 n2 c2) ∧ (u1).cell? ⟨g, 3, none⟩ = some (.bool b.f)) ∧ ((u1).cell? ⟨q, 0, none⟩ = some (.int .i64 K) ∧ (u1).cell? ⟨q, 1, none⟩ = some (.int .i64 i))) := hide ⟨⟨HC.out.c0, HC.out.c1, HC.out.c2, HC.out.c3⟩, HI.out.c0, HI.out.c1⟩)
      | (refine call_d w0 (fun W hW => ?_); replace HC := hide (HC.out.below hW); replace HI := hide (HI.out.below hW); replace HU := hide (HU.out.below hW); replace HUb := hide (HUb.out.below hW); replace HB := hide (below_trans HB.out hW); have HW0 : Hid (w0.heap.size ≤ W.heap.size) := hide hW.size; clear hW s0 s1 s2 s3 s4 s5; refine (given_any b.m b.r b.t b.f a1 a2 n1 n2 c1 c2 W (HIN.out.r1.below HB.out) (HIN.out.r2.below HB.out) hn1 hn2).mono ?_; rintro e u1 ⟨gHMo, gHRo, rfl, hA, hC, hlt, hb⟩; have HMo := hide hA; have HRo := hide hC; have HSO : Hid (w0.heap.size ≤ gHMo ∧ gHMo < gHRo ∧ gHRo < u1.heap.size) := hide ⟨Nat.le_trans HW0.out hA.lt.1, hlt, hC.lt.2⟩; replace HC := hide (HC.out.below hb); replace HI := hide (HI.out.below hb); replace HU := hide (HU.out.below hb); replace HUb := hide (HUb.out.below hb); replace HB := hide (below_trans HB.out hb); clear hA hC hlt hb; have E81 : Hid (((u1).cell? ⟨g, 0, none⟩ = some (.int .i64 b.t) ∧ (u1).cell? ⟨g, 1, none⟩ = some (.slice a1 n1 c1) ∧ (u1).cell? ⟨g, 2, none⟩ = some (.slice a2 n2 c2) ∧ (u1).cell? ⟨g, 3, none⟩ = some (.bool b.f)) ∧ ((u1).cell? ⟨q, 0, none⟩ = some (.int .i64 K) ∧ (u1).cell? ⟨q, 1, none⟩ = some (.int .i64 i))) := hide ⟨⟨HC.out.c0, HC.out.c1, HC.out.c2, HC.out.c3⟩, HI.out.c0, HI.out.c1⟩; have E82 : Hid (∀ o, ((u1.alloc o).cell? ⟨g, 0, none⟩ = some (.int .i64 b.t) ∧ (u1.alloc o).cell? ⟨g, 1, none⟩ = some (.slice a1 n1 c1) ∧ (u1.alloc o).cell? ⟨g, 2, none⟩ = some (.slice a2 n2 c2) ∧ (u1.alloc o).cell? ⟨g, 3, none⟩ = some (.bool b.f)) ∧ ((u1.alloc o).cell? ⟨q, 0, none⟩ = some (.int .i64 K) ∧ (u1.alloc o).cell? ⟨q, 1, none⟩ = some (.int .i64 i))) := hide (fun o => by have hb : Below u1.heap.size u1 (u1.alloc o) := (Below.refl _ _).alloc (Nat.le_refl _) _; have hx := HC.out.below hb; have hi := HI.out.below hb; exact ⟨⟨hx.c0, hx.c1, hx.c2, hx.c3⟩, hi.c0, hi.c1⟩); obtain ⟨gx1, hgx1⟩ : ∃ gx1, u1.heap.size = gx1 := ⟨_, rfl⟩))
    | (go_at_call 25; first
      | (refine call_r u1 (fun W hW => ?_); have HZQ := HZB; clear HZQ; replace HC := hide (HC.out.below hW); replace HI := hide (HI.out.below hW); replace HU := hide (HU.out.below hW); replace HUb := hide (HUb.out.below hW); replace HMo := hide (HMo.out.below hW); replace HRo := hide (HRo.out.below hW); replace HZB := hide (HZB.out.below hW); replace HB := hide (below_trans HB.out hW); have HW0 : Hid (u1.heap.size ≤ W.heap.size) := hide hW.size; clear hW; refine (turned_any b.m b.r b.t b.f gHMo gHRo n1 n2 _ _ _ HMo.out HRo.out (by have := HSO.out; omega) HL1.out HL2.out hn1 hn2).mono ?_; rintro e u2 ⟨rfl, hv, hr, hk⟩; clear HMo HRo; have HMo := hide hv; have HRo := hide hr; have HW1 : Hid (u1.heap.size ≤ u2.heap.size) := hide (Nat.le_trans HW0.out hk.size); replace HC := hide (HC.out.kp hk (by have := HS.out; have := HSU.out; have := HSO.out; have := HZO.out; omega)); replace HI := hide (HI.out.kp hk (by have := HS.out; have := HSU.out; have := HSO.out; have := HZO.out; omega)); replace HUb := hide (HUb.out.kp hk (by have := HS.out; have := HSU.out; have := HSO.out; have := HZO.out; omega)); replace HZB := hide (HZB.out.kp hk (by have := HS.out; have := HSU.out; have := HSO.out; have := HZO.out; omega)); replace HU := hide (HU.out.kp hk (fun i e => .inr (by have := HS.out; have := HSU.out; have := HSO.out; have := HZO.out; rcases e with e | e <;> omega))); replace HB := hide (hk.below HB.out (fun i e => by have := HS.out; have := HSU.out; have := HSO.out; have := HZO.out; rcases e with e | e <;> omega) HB.out.size); clear hv hr hk; have E83 : Hid (((u2).cell? ⟨g, 0, none⟩ = some (.int .i64 b.t) ∧ (u2).cell? ⟨g, 1, none⟩ = some (.slice a1 n1 c1) ∧ (u2).cell? ⟨g, 2, none⟩ = some (.slice a2 n2 c2) ∧ (u2).cell? ⟨g, 3, none⟩ = some (.bool b.f)) ∧ ((u2).cell? ⟨q, 0, none⟩ = some (.int .i64 K) ∧ (u2).cell? ⟨q, 1, none⟩ = some (.int .i64 i))) := hide ⟨⟨HC.out.c0, HC.out.c1, HC.out.c2, HC.out.c3⟩, HI.out.c0, HI.out.c1⟩)
      | (refine call_z u1 (fun W hW hZ => ?_); replace HC := hide (HC.out.below hW); replace HI := hide (HI.out.below hW); replace HU := hide (HU.out.below hW); replace HUb := hide (HUb.out.below hW); replace HMo := hide (HMo.out.below hW); replace HRo := hide (HRo.out.below hW); replace HB := hide (below_trans HB.out hW); rw [hgx1] at hZ; have HZB := hide hZ; clear hZ; have HZO : Hid (gHRo < gx1) := hide (by have := HSO.out; have := hgx1; omega); have HW0 : Hid (u1.heap.size ≤ W.heap.size) := hide hW.size; clear hW; refine (turned_any b.m b.r b.t b.f gHMo gHRo n1 n2 _ _ _ HMo.out HRo.out (by have := HSO.out; omega) HL1.out HL2.out hn1 hn2).mono ?_; rintro e u2 ⟨rfl, hv, hr, hk⟩; clear HMo HRo; have HMo := hide hv; have HRo := hide hr; have HW1 : Hid (u1.heap.size ≤ u2.heap.size) := hide (Nat.le_trans HW0.out hk.size); replace HC := hide (HC.out.kp hk (by have := HS.out; have := HSU.out; have := HSO.out; have := HZO.out; omega)); replace HI := hide (HI.out.kp hk (by have := HS.out; have := HSU.out; have := HSO.out; have := HZO.out; omega)); replace HUb := hide (HUb.out.kp hk (by have := HS.out; have := HSU.out; have := HSO.out; have := HZO.out; omega)); replace HZB := hide (HZB.out.kp hk (by have := HS.out; have := HSU.out; have := HSO.out; have := HZO.out; omega)); replace HU := hide (HU.out.kp hk (fun i e => .inr (by have := HS.out; have := HSU.out; have := HSO.out; have := HZO.out; rcases e with e | e <;> omega))); replace HB := hide (hk.below HB.out (fun i e => by have := HS.out; have := HSU.out; have := HSO.out; have := HZO.out; rcases e with e | e <;> omega) HB.out.size); clear hv hr hk; have E83 : Hid (((u2).cell? ⟨g, 0, none⟩ = some (.int .i64 b.t) ∧ (u2).cell? ⟨g, 1, none⟩ = some (.slice a1 n1 c1) ∧ (u2).cell? ⟨g, 2, none⟩ = some (.slice a2 n2 c2) ∧ (u2).cell? ⟨g, 3, none⟩ = some (.bool b.f)) ∧ ((u2).cell? ⟨q, 0, none⟩ = some (.int .i64 K) ∧ (u2).cell? ⟨q, 1, none⟩ = some (.int .i64 i))) := hide ⟨⟨HC.out.c0, HC.out.c1, HC.out.c2, HC.out.c3⟩, HI.out.c0, HI.out.c1⟩)
      | (refine call_r u1 (fun W hW => ?_); replace HC := hide (HC.out.below hW); replace HI := hide (HI.out.below hW); replace HU := hide (HU.out.below hW); replace HUb := hide (HUb.out.below hW); replace HMo := hide (HMo.out.below hW); replace HRo := hide (HRo.out.below hW); replace HB := hide (below_trans HB.out hW); have HW0 : Hid (u1.heap.size ≤ W.heap.size) := hide hW.size; clear hW; refine (turned_any b.m b.r b.t b.f gHMo gHRo n1 n2 _ _ _ HMo.out HRo.out (by have := HSO.out; omega) HL1.out HL2.out hn1 hn2).mono ?_; rintro e u2 ⟨rfl, hv, hr, hk⟩; clear HMo HRo; have HMo := hide hv; have HRo := hide hr; have HW1 : Hid (u1.heap.size ≤ u2.heap.size) := hide (Nat.le_trans HW0.out hk.size); replace HC := hide (HC.out.kp hk (by have := HS.out; have := HSU.out; have := HSO.out; omega)); replace HI := hide (HI.out.kp hk (by have := HS.out; have := HSU.out; have := HSO.out; omega)); replace HUb := hide (HUb.out.kp hk (by have := HS.out; have := HSU.out; have := HSO.out; omega)); replace HU := hide (HU.out.kp hk (fun i e => .inr (by have := HS.out; have := HSU.out; have := HSO.out; rcases e with e | e <;> omega))); replace HB := hide (hk.below HB.out (fun i e => by have := HS.out; have := HSU.out; have := HSO.out; rcases e with e | e <;> omega) HB.out.size); clear hv hr hk; have E83 : Hid (((u2).cell? ⟨g, 0, none⟩ = some (.int .i64 b.t) ∧ (u2).cell? ⟨g, 1, none⟩ = some (.slice a1 n1 c1) ∧ (u2).cell? ⟨g, 2, none⟩ = some (.slice a2 n2 c2) ∧ (u2).cell? ⟨g, 3, none⟩ = some (.bool b.f)) ∧ ((u2).cell? ⟨q, 0, none⟩ = some (.int .i64 K) ∧ (u2).cell? ⟨q, 1, none⟩ = some (.int .i64 i))) := hide ⟨⟨HC.out.c0, HC.out.c1, HC.out.c2, HC.out.c3⟩, HI.out.c0, HI.out.c1⟩; have E84 : Hid (∀ o, ((u2.alloc o).cell? ⟨g, 0, none⟩ = some (.int .i64 b.t) ∧ (u2.alloc o).cell? ⟨g, 1, none⟩ = some (.slice a1 n1 c1) ∧ (u2.alloc o).cell? ⟨g, 2, none⟩ = some (.slice a2 n2 c2) ∧ (u2.alloc o).cell? ⟨g, 3, none⟩ = some (.bool b.f)) ∧ ((u2.alloc o).cell? ⟨q, 0, none⟩ = some (.int .i64 K) ∧ (u2.alloc o).cell? ⟨q, 1, none⟩ = some (.int .i64 i))) := hide (fun o => by have hb : Below u2.heap.size u2 (u2.alloc o) := (Below.refl _ _).alloc (Nat.le_refl _) _; have hx := HC.out.below hb; have hi := HI.out.below hb; exact ⟨⟨hx.c0, hx.c1, hx.c2, hx.c3⟩, hi.c0, hi.c1⟩); obtain ⟨gx2, hgx2⟩ : ∃ gx2, u2.heap.size = gx2 := ⟨_, rfl⟩))
    | (go_at_call 28; first
      | (refine call_r u2 (fun W hW => ?_); have HZQ := HZB; clear HZQ; replace HC := hide (HC.out.below hW); replace HI := hide (HI.out.below hW); replace HU := hide (HU.out.below hW); replace HUb := hide (HUb.out.below hW); replace HMo := hide (HMo.out.below hW); replace HRo := hide (HRo.out.below hW); replace HZB := hide (HZB.out.below hW); replace HB := hide (below_trans HB.out hW); have HZL : Hid (gx < W.heap.size ∧ w0.heap.size ≤ gx) := hide ⟨HZB.out.lt, by have := hgx; omega⟩; have HWs : Hid (w0.heap.size ≤ W.heap.size) := hide (by have := HSO.out; have := HW1.out; have := hW.size; omega); clear hW; refine (HRN'.out (some ⟨gHMo, 0, none⟩) (some ⟨gHRo, 0, none⟩) n1 (n1 + 64) n2 (n2 + 64) W (Rv.inn HMo.out HRo.out HL1.out HL2.out hn1 hn2)).mono ?_; rintro e u3 ⟨a5x, n5x, c5x, a5z, n5z, c5z, rfl, hA, hb⟩; have HV := hide hA; replace HC := hide (HC.out.below hb); replace HI := hide (HI.out.below hb); replace HU := hide (HU.out.below hb); replace HUb := hide (HUb.out.below hb); replace HZB := hide (HZB.out.below hb); replace HB := hide (below_trans HB.out hb); have HW2 : Hid (W.heap.size ≤ u3.heap.size) := hide hb.size; clear hA hb; obtain rfl : n4x = n5x := (by have h1 := HV.out.l1; have h2 := HU.out.l1; omega); obtain rfl : n4z = n5z := (by have h1 := HV.out.l2; have h2 := HU.out.l2; omega); have E73 : Hid (((u3).cell? ⟨g, 0, none⟩ = some (.int .i64 b.t) ∧ (u3).cell? ⟨g, 1, none⟩ = some (.slice a1 n1 c1) ∧ (u3).cell? ⟨g, 2, none⟩ = some (.slice a2 n2 c2) ∧ (u3).cell? ⟨g, 3, none⟩ = some (.bool b.f)) ∧ ((u3).cell? ⟨q, 0, none⟩ = some (.int .i64 K) ∧ (u3).cell? ⟨q, 1, none⟩ = some (.int .i64 i))) := hide ⟨⟨HC.out.c0, HC.out.c1, HC.out.c2, HC.out.c3⟩, HI.out.c0, HI.out.c1⟩; have yz0 := HZB.out.c0; have yz1 := HZB.out.c1; have yz2 := HZB.out.c2; have yz3 := HZB.out.c3; have yf0 := HZB.out.fz 0; have yf1 := HZB.out.fz 1; have yf2 := HZB.out.fz 2; have yf3 := HZB.out.fz 3; have hkz := kp_four u3 gx D'.t (.slice a5x n4x c5x) (.slice a5z n4z c5z) D'.f; obtain ⟨wx, hwx⟩ : ∃ wx, (((u3.setCell ⟨gx, 0, none⟩ (.int .i64 D'.t)).setCell ⟨gx, 1, none⟩ (.slice a5x n4x c5x)).setCell ⟨gx, 2, none⟩ (.slice a5z n4z c5z)).setCell ⟨gx, 3, none⟩ (.bool D'.f) = wx := ⟨_, rfl⟩; have HWX : Hid (set4 u3 gx D'.t (.slice a5x n4x c5x) (.slice a5z n4z c5z) D'.f = wx) := hide hwx; rw [HWX.out] at hkz; have HVb : Hid (BC wx gx D'.t (.slice a5x n4x c5x) (.slice a5z n4z c5z) D'.f) := hide (by have h := HZB.out.set4 D'.t (.slice a5x n4x c5x) (.slice a5z n4z c5z) D'.f; rw [HWX.out] at h; exact h); replace HC := hide (HC.out.kp hkz (by have := HS.out; have := HSU.out; have := HWs.out; have := HZL.out; have := HW2.out; omega)); replace HI := hide (HI.out.kp hkz (by have := HS.out; have := HSU.out; have := HWs.out; have := HZL.out; have := HW2.out; omega)); replace HUb := hide (HUb.out.kp hkz (by have := HS.out; have := HSU.out; have := HWs.out; have := HZL.out; have := HW2.out; omega)); replace HU := hide (HU.out.kp hkz (fun i e => .inr (by have := HS.out; have := HSU.out; have := HWs.out; have := HZL.out; have := HW2.out; have h1 := e; omega))); replace HV := hide (HV.out.kp hkz (fun i e => .inl (by have := HS.out; have := HSU.out; have := HWs.out; have := HZL.out; have := HW2.out; have h1 := e; omega))); replace HB := hide (hkz.below HB.out (fun i e => by have := HS.out; have := HSU.out; have := HWs.out; have := HZL.out; have := HW2.out; have h1 := e; omega) HB.out.size); have HSV : Hid (gx < wx.heap.size ∧ w0.heap.size ≤ wx.heap.size) := hide (by have h1 := HVb.out.lt; have h2 := hkz.size; have := HSU.out; have := HWs.out; have := HW2.out; omega); replace HV := hide (ans_mono HV.out (Nat.le_refl _) hkz.size); clear hkz HWX; have E75 : Hid (((wx).cell? ⟨g, 0, none⟩ = some (.int .i64 b.t) ∧ (wx).cell? ⟨g, 1, none⟩ = some (.slice a1 n1 c1) ∧ (wx).cell? ⟨g, 2, none⟩ = some (.slice a2 n2 c2) ∧ (wx).cell? ⟨g, 3, none⟩ = some (.bool b.f)) ∧ ((wx).cell? ⟨q, 0, none⟩ = some (.int .i64 K) ∧ (wx).cell? ⟨q, 1, none⟩ = some (.int .i64 i))) := hide ⟨⟨HC.out.c0, HC.out.c1, HC.out.c2, HC.out.c3⟩, HI.out.c0, HI.out.c1⟩)
      | (refine call_r u2 (fun W hW => ?_); have HZQ := HZB; clear HZQ; replace HC := hide (HC.out.below hW); replace HI := hide (HI.out.below hW); replace HU := hide (HU.out.below hW); replace HUb := hide (HUb.out.below hW); replace HMo := hide (HMo.out.below hW); replace HRo := hide (HRo.out.below hW); replace HZB := hide (HZB.out.below hW); replace HB := hide (below_trans HB.out hW); have HZL : Hid (gx1 < W.heap.size ∧ w0.heap.size ≤ gx1) := hide ⟨HZB.out.lt, by have := hgx1; have := HSO.out; omega⟩; have HWs : Hid (w0.heap.size ≤ W.heap.size) := hide (by have := HSO.out; have := HW1.out; have := hW.size; omega); clear hW; refine (HRN'.out (some ⟨gHMo, 0, none⟩) (some ⟨gHRo, 0, none⟩) n1 (n1 + 64) n2 (n2 + 64) W (Rv.inn HMo.out HRo.out HL1.out HL2.out hn1 hn2)).mono ?_; rintro e u3 ⟨a5x, n5x, c5x, a5z, n5z, c5z, rfl, hA, hb⟩; have HV := hide hA; replace HC := hide (HC.out.below hb); replace HI := hide (HI.out.below hb); replace HU := hide (HU.out.below hb); replace HUb := hide (HUb.out.below hb); replace HZB := hide (HZB.out.below hb); replace HB := hide (below_trans HB.out hb); have HW2 : Hid (W.heap.size ≤ u3.heap.size) := hide hb.size; clear hA hb; obtain rfl : n4x = n5x := (by have h1 := HV.out.l1; have h2 := HU.out.l1; omega); obtain rfl : n4z = n5z := (by have h1 := HV.out.l2; have h2 := HU.out.l2; omega); have E73 : Hid (((u3).cell? ⟨g, 0, none⟩ = some (.int .i64 b.t) ∧ (u3).cell? ⟨g, 1, none⟩ = some (.slice a1 n1 c1) ∧ (u3).cell? ⟨g, 2, none⟩ = some (.slice a2 n2 c2) ∧ (u3).cell? ⟨g, 3, none⟩ = some (.bool b.f)) ∧ ((u3).cell? ⟨q, 0, none⟩ = some (.int .i64 K) ∧ (u3).cell? ⟨q, 1, none⟩ = some (.int .i64 i))) := hide ⟨⟨HC.out.c0, HC.out.c1, HC.out.c2, HC.out.c3⟩, HI.out.c0, HI.out.c1⟩; have yz0 := HZB.out.c0; have yz1 := HZB.out.c1; have yz2 := HZB.out.c2; have yz3 := HZB.out.c3; have yf0 := HZB.out.fz 0; have yf1 := HZB.out.fz 1; have yf2 := HZB.out.fz 2; have yf3 := HZB.out.fz 3; have hkz := kp_four u3 gx1 D'.t (.slice a5x n4x c5x) (.slice a5z n4z c5z) D'.f; obtain ⟨wx, hwx⟩ : ∃ wx, (((u3.setCell ⟨gx1, 0, none⟩ (.int .i64 D'.t)).setCell ⟨gx1, 1, none⟩ (.slice a5x n4x c5x)).setCell ⟨gx1, 2, none⟩ (.slice a5z n4z c5z)).setCell ⟨gx1, 3, none⟩ (.bool D'.f) = wx := ⟨_, rfl⟩; have HWX : Hid (set4 u3 gx1 D'.t (.slice a5x n4x c5x) (.slice a5z n4z c5z) D'.f = wx) := hide hwx; rw [HWX.out] at hkz; have HVb : Hid (BC wx gx1 D'.t (.slice a5x n4x c5x) (.slice a5z n4z c5z) D'.f) := hide (by have h := HZB.out.set4 D'.t (.slice a5x n4x c5x) (.slice a5z n4z c5z) D'.f; rw [HWX.out] at h; exact h); replace HC := hide (HC.out.kp hkz (by have := HS.out; have := HSU.out; have := HWs.out; have := HZL.out; have := HW2.out; omega)); replace HI := hide (HI.out.kp hkz (by have := HS.out; have := HSU.out; have := HWs.out; have := HZL.out; have := HW2.out; omega)); replace HUb := hide (HUb.out.kp hkz (by have := HS.out; have := HSU.out; have := HWs.out; have := HZL.out; have := HW2.out; omega)); replace HU := hide (HU.out.kp hkz (fun i e => .inr (by have := HS.out; have := HSU.out; have := HWs.out; have := HZL.out; have := HW2.out; have h1 := e; omega))); replace HV := hide (HV.out.kp hkz (fun i e => .inl (by have := HS.out; have := HSU.out; have := HWs.out; have := HZL.out; have := HW2.out; have h1 := e; omega))); replace HB := hide (hkz.below HB.out (fun i e => by have := HS.out; have := HSU.out; have := HWs.out; have := HZL.out; have := HW2.out; have h1 := e; omega) HB.out.size); have HSV : Hid (gx1 < wx.heap.size ∧ w0.heap.size ≤ wx.heap.size) := hide (by have h1 := HVb.out.lt; have h2 := hkz.size; have := HSU.out; have := HWs.out; have := HW2.out; omega); replace HV := hide (ans_mono HV.out (Nat.le_refl _) hkz.size); clear hkz HWX; have E75 : Hid (((wx).cell? ⟨g, 0, none⟩ = some (.int .i64 b.t) ∧ (wx).cell? ⟨g, 1, none⟩ = some (.slice a1 n1 c1) ∧ (wx).cell? ⟨g, 2, none⟩ = some (.slice a2 n2 c2) ∧ (wx).cell? ⟨g, 3, none⟩ = some (.bool b.f)) ∧ ((wx).cell? ⟨q, 0, none⟩ = some (.int .i64 K) ∧ (wx).cell? ⟨q, 1, none⟩ = some (.int .i64 i))) := hide ⟨⟨HC.out.c0, HC.out.c1, HC.out.c2, HC.out.c3⟩, HI.out.c0, HI.out.c1⟩)
      | (refine call_z u2 (fun W hW hZ => ?_); replace HC := hide (HC.out.below hW); replace HI := hide (HI.out.below hW); replace HU := hide (HU.out.below hW); replace HUb := hide (HUb.out.below hW); replace HMo := hide (HMo.out.below hW); replace HRo := hide (HRo.out.below hW); replace HB := hide (below_trans HB.out hW); rw [hgx2] at hZ; have HZB := hide hZ; clear hZ; have HZL : Hid (gx2 < W.heap.size ∧ w0.heap.size ≤ gx2) := hide ⟨HZB.out.lt, by have := hgx2; have := HSO.out; have := HW1.out; omega⟩; have HWs : Hid (w0.heap.size ≤ W.heap.size) := hide (by have := HSO.out; have := HW1.out; have := hW.size; omega); clear hW; refine (HRN'.out (some ⟨gHMo, 0, none⟩) (some ⟨gHRo, 0, none⟩) n1 (n1 + 64) n2 (n2 + 64) W (Rv.inn HMo.out HRo.out HL1.out HL2.out hn1 hn2)).mono ?_; rintro e u3 ⟨a5x, n5x, c5x, a5z, n5z, c5z, rfl, hA, hb⟩; have HV := hide hA; replace HC := hide (HC.out.below hb); replace HI := hide (HI.out.below hb); replace HU := hide (HU.out.below hb); replace HUb := hide (HUb.out.below hb); replace HZB := hide (HZB.out.below hb); replace HB := hide (below_trans HB.out hb); have HW2 : Hid (W.heap.size ≤ u3.heap.size) := hide hb.size; clear hA hb; obtain rfl : n4x = n5x := (by have h1 := HV.out.l1; have h2 := HU.out.l1; omega); obtain rfl : n4z = n5z := (by have h1 := HV.out.l2; have h2 := HU.out.l2; omega); have E73 : Hid (((u3).cell? ⟨g, 0, none⟩ = some (.int .i64 b.t) ∧ (u3).cell? ⟨g, 1, none⟩ = some (.slice a1 n1 c1) ∧ (u3).cell? ⟨g, 2, none⟩ = some (.slice a2 n2 c2) ∧ (u3).cell? ⟨g, 3, none⟩ = some (.bool b.f)) ∧ ((u3).cell? ⟨q, 0, none⟩ = some (.int .i64 K) ∧ (u3).cell? ⟨q, 1, none⟩ = some (.int .i64 i))) := hide ⟨⟨HC.out.c0, HC.out.c1, HC.out.c2, HC.out.c3⟩, HI.out.c0, HI.out.c1⟩; have yz0 := HZB.out.c0; have yz1 := HZB.out.c1; have yz2 := HZB.out.c2; have yz3 := HZB.out.c3; have yf0 := HZB.out.fz 0; have yf1 := HZB.out.fz 1; have yf2 := HZB.out.fz 2; have yf3 := HZB.out.fz 3; have hkz := kp_four u3 gx2 D'.t (.slice a5x n4x c5x) (.slice a5z n4z c5z) D'.f; obtain ⟨wx, hwx⟩ : ∃ wx, (((u3.setCell ⟨gx2, 0, none⟩ (.int .i64 D'.t)).setCell ⟨gx2, 1, none⟩ (.slice a5x n4x c5x)).setCell ⟨gx2, 2, none⟩ (.slice a5z n4z c5z)).setCell ⟨gx2, 3, none⟩ (.bool D'.f) = wx := ⟨_, rfl⟩; have HWX : Hid (set4 u3 gx2 D'.t (.slice a5x n4x c5x) (.slice a5z n4z c5z) D'.f = wx) := hide hwx; rw [HWX.out] at hkz; have HVb : Hid (BC wx gx2 D'.t (.slice a5x n4x c5x) (.slice a5z n4z c5z) D'.f) := hide (by have h := HZB.out.set4 D'.t (.slice a5x n4x c5x) (.slice a5z n4z c5z) D'.f; rw [HWX.out] at h; exact h); replace HC := hide (HC.out.kp hkz (by have := HS.out; have := HSU.out; have := HWs.out; have := HZL.out; have := HW2.out; omega)); replace HI := hide (HI.out.kp hkz (by have := HS.out; have := HSU.out; have := HWs.out; have := HZL.out; have := HW2.out; omega)); replace HUb := hide (HUb.out.kp hkz (by have := HS.out; have := HSU.out; have := HWs.out; have := HZL.out; have := HW2.out; omega)); replace HU := hide (HU.out.kp hkz (fun i e => .inr (by have := HS.out; have := HSU.out; have := HWs.out; have := HZL.out; have := HW2.out; have h1 := e; omega))); replace HV := hide (HV.out.kp hkz (fun i e => .inl (by have := HS.out; have := HSU.out; have := HWs.out; have := HZL.out; have := HW2.out; have h1 := e; omega))); replace HB := hide (hkz.below HB.out (fun i e => by have := HS.out; have := HSU.out; have := HWs.out; have := HZL.out; have := HW2.out; have h1 := e; omega) HB.out.size); have HSV : Hid (gx2 < wx.heap.size ∧ w0.heap.size ≤ wx.heap.size) := hide (by have h1 := HVb.out.lt; have h2 := hkz.size; have := HSU.out; have := HWs.out; have := HW2.out; omega); replace HV := hide (ans_mono HV.out (Nat.le_refl _) hkz.size); clear hkz HWX; have E75 : Hid (((wx).cell? ⟨g, 0, none⟩ = some (.int .i64 b.t) ∧ (wx).cell? ⟨g, 1, none⟩ = some (.slice a1 n1 c1) ∧ (wx).cell? ⟨g, 2, none⟩ = some (.slice a2 n2 c2) ∧ (wx).cell? ⟨g, 3, none⟩ = some (.bool b.f)) ∧ ((wx).cell? ⟨q, 0, none⟩ = some (.int .i64 K) ∧ (wx).cell? ⟨q, 1, none⟩ = some (.int .i64 i))) := hide ⟨⟨HC.out.c0, HC.out.c1, HC.out.c2, HC.out.c3⟩, HI.out.c0, HI.out.c1⟩)
      | (refine call_r u2 (fun W hW => ?_); replace HC := hide (HC.out.below hW); replace HI := hide (HI.out.below hW); replace HU := hide (HU.out.below hW); replace HUb := hide (HUb.out.below hW); replace HMo := hide (HMo.out.below hW); replace HRo := hide (HRo.out.below hW); replace HB := hide (below_trans HB.out hW); have HWs : Hid (w0.heap.size ≤ W.heap.size) := hide (by have := HSO.out; have := HW1.out; have := hW.size; omega); clear hW; refine (HRN'.out (some ⟨gHMo, 0, none⟩) (some ⟨gHRo, 0, none⟩) n1 (n1 + 64) n2 (n2 + 64) W (Rv.inn HMo.out HRo.out HL1.out HL2.out hn1 hn2)).mono ?_; rintro e u3 ⟨a5x, n5x, c5x, a5z, n5z, c5z, rfl, hA, hb⟩; have HV := hide hA; replace HC := hide (HC.out.below hb); replace HI := hide (HI.out.below hb); replace HU := hide (HU.out.below hb); replace HUb := hide (HUb.out.below hb); replace HB := hide (below_trans HB.out hb); have HW2 : Hid (W.heap.size ≤ u3.heap.size) := hide hb.size; clear hA hb; obtain rfl : n4x = n5x := (by have h1 := HV.out.l1; have h2 := HU.out.l1; omega); obtain rfl : n4z = n5z := (by have h1 := HV.out.l2; have h2 := HU.out.l2; omega); have E73 : Hid (((u3).cell? ⟨g, 0, none⟩ = some (.int .i64 b.t) ∧ (u3).cell? ⟨g, 1, none⟩ = some (.slice a1 n1 c1) ∧ (u3).cell? ⟨g, 2, none⟩ = some (.slice a2 n2 c2) ∧ (u3).cell? ⟨g, 3, none⟩ = some (.bool b.f)) ∧ ((u3).cell? ⟨q, 0, none⟩ = some (.int .i64 K) ∧ (u3).cell? ⟨q, 1, none⟩ = some (.int .i64 i))) := hide ⟨⟨HC.out.c0, HC.out.c1, HC.out.c2, HC.out.c3⟩, HI.out.c0, HI.out.c1⟩; have E74 : Hid (∀ o, ((u3.alloc o).cell? ⟨g, 0, none⟩ = some (.int .i64 b.t) ∧ (u3.alloc o).cell? ⟨g, 1, none⟩ = some (.slice a1 n1 c1) ∧ (u3.alloc o).cell? ⟨g, 2, none⟩ = some (.slice a2 n2 c2) ∧ (u3.alloc o).cell? ⟨g, 3, none⟩ = some (.bool b.f)) ∧ ((u3.alloc o).cell? ⟨q, 0, none⟩ = some (.int .i64 K) ∧ (u3.alloc o).cell? ⟨q, 1, none⟩ = some (.int .i64 i))) := hide (fun o => by have hb : Below u3.heap.size u3 (u3.alloc o) := (Below.refl _ _).alloc (Nat.le_refl _) _; have hx := HC.out.below hb; have hi := HI.out.below hb; exact ⟨⟨hx.c0, hx.c1, hx.c2, hx.c3⟩, hi.c0, hi.c1⟩); obtain ⟨gN, hgN⟩ : ∃ gN, u3.heap.size = gN := ⟨_, rfl⟩; obtain ⟨wx, hwx⟩ : ∃ wx, u3.alloc (.cells #[.int .i64 D'.t, .slice a5x n4x c5x, .slice a5z n4z c5z, .bool D'.f] 26) = wx := ⟨_, rfl⟩; have hbx : Below u3.heap.size u3 wx := (by rw [← hwx]; exact (Below.refl _ _).alloc (Nat.le_refl _) _); have HVb : Hid (BC wx gN D'.t (.slice a5x n4x c5x) (.slice a5z n4z c5z) D'.f) := (by rw [← hwx, ← hgN]; exact hide (bc_new _ _ _ _ _)); replace HC := hide (HC.out.below hbx); replace HI := hide (HI.out.below hbx); replace HUb := hide (HUb.out.below hbx); replace HU := hide (HU.out.below hbx); replace HV := hide (HV.out.below hbx); replace HB := hide (below_trans HB.out hbx); have HSV : Hid (gN < wx.heap.size ∧ w0.heap.size ≤ wx.heap.size) := hide (by have h1 := HVb.out.lt; have h2 := hbx.size; have := HSU.out; have := HWs.out; have := HW2.out; omega); replace HV := hide (ans_mono HV.out (Nat.le_refl _) (by have h2 := hbx.size; exact h2)); clear hbx; have E75 : Hid (((wx).cell? ⟨g, 0, none⟩ = some (.int .i64 b.t) ∧ (wx).cell? ⟨g, 1, none⟩ = some (.slice a1 n1 c1) ∧ (wx).cell? ⟨g, 2, none⟩ = some (.slice a2 n2 c2) ∧ (wx).cell? ⟨g, 3, none⟩ = some (.bool b.f)) ∧ ((wx).cell? ⟨q, 0, none⟩ = some (.int .i64 K) ∧ (wx).cell? ⟨q, 1, none⟩ = some (.int .i64 i))) := hide ⟨⟨HC.out.c0, HC.out.c1, HC.out.c2, HC.out.c3⟩, HI.out.c0, HI.out.c1⟩))))
  all_goals (
   (try clear yz0 yz1 yz2 yz3 yf0 yf1 yf2 yf3); (try clear E74); (try clear E82); (try clear E84); (try clear hwx);
   have HLA := HSD'.out; unfold Short at HLA; have HLP1 := HU.out.l1; have HLP2 := HU.out.l2;
   have HSA := hide (same_eq D'.m D'.r D'.t D'.f a4x a4z a5x a5z n4x n4z c4x c4z c5x c5z wx (HU.out.r1 (by omega)) (HU.out.r2 (by omega)) (HV.out.r1 (by omega)) (HV.out.r2 (by omega)));
   clear HLA HLP1 HLP2;
   have t0 := HUb.out.c0; have v0 := HVb.out.c0; have t1 := HUb.out.c1; have v1 := HVb.out.c1; have t2 := HUb.out.c2; have v2 := HVb.out.c2; have t3 := HUb.out.c3; have v3 := HVb.out.c3;
   go_wp2_with fail;
   refine HSA.out.mono ?_;
   clear HSA t0 t1 t2 t3 v0 v1 v2 v3;
   rintro e wy ⟨rfl, hb⟩;
   replace HB := hide (below_trans HB.out hb); clear hb;
   go_wp2_with fail;
   go_ret;
   exact ⟨rfl, HB.out⟩)
end Go.Proofs.YtgpfabblmoffiaaDoor.ledgerBegins
